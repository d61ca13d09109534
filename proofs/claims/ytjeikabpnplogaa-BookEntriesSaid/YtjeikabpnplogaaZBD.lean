/- A part of the proofs that the laws of layer eight answer true for every input. -/
import Derived.Test.YtjeikabpnplogaaZBC
namespace Go.Proofs.Z
open Go Go.RowKit Go.Proofs Go.Ri Go.Proofs.Z.Fa
/-! Image and Secret of both packages: contracts. -/
theorem done_val (V : Val) {t : Tb} {plan : List Bool} {f : FuncId} {ds : List RV} {S : List SE} {R : List Nat} {r0 : RV} {v : Value} {vs : List Value} (ht : @TbOK V t) (h : doneQ t plan f ds S R r0 [] = true) (hw : isW r0 = false) (hS : Holds S V V) (hf : flat r0 = true) (hv0 : @cvF V r0 = v) (hv : ∀ w, All2 (@Go.Ri.NVal V w) ds vs) : Ans f vs v := by
  intro w hr
  refine (done_calls V V ht h hw hS w hr vs (hv w)).mono fun e w' ⟨u, E', he, hu, H⟩ => ⟨?_, @HInv.below V _ _ _ _ _ _ H⟩
  rw [he, ← hv0]
  exact congrArg Ending.returned (@VRel.fn V E' r0 u _ hu (@rel_cvF V E' r0 hf))
def ba (l : List UInt8) : ByteArray := ⟨l.toArray⟩
theorem ba_app (l m : List UInt8) : ba l ++ ba m = ba (l ++ m) := by
  apply ByteArray.ext
  apply Array.toList_inj.1
  simp [ba]
theorem ba_size (l : List UInt8) : (ba l).size = l.length := by
  show l.toArray.size = _
  rw [List.size_toArray]
theorem f_app [Val] {a b c : RV} {x y z : List UInt8} (ha : cv a = .string (ba x)) (hb : cv b = .string (ba y)) (hc : cv c = .string (ba z)) (hf : flat0 c = true) (hz : z = x ++ y) (h : x.length + y.length ≤ 1000000000) : TETrue ⟨.bin .add, a, b, c⟩ := by
  refine f_sadd ha hb ?_ hf (by rw [ba_size, ba_size]; exact h)
  rw [hc, ba_app, hz]
theorem f_quo [Val] {a b c : RV} {k : IntKind} {m n : Int} (ha : cv a = .int k m) (hb : cv b = .int k n) (hn : n ≠ 0) (hc : cv c = .int k (k.wrap (m.tdiv n))) (hf : flat0 c = true) : TETrue ⟨.bin .quo, a, b, c⟩ := by
  refine ⟨hf, ?_⟩
  show TCTrue _ (cv a) (cv b) (cv c)
  rw [ha, hb, hc]
  exact t_quo k m n hn
/-- A number without its last bytes. -/
def qd (x : Int) : Nat → Int
  | 0 => x
  | k + 1 => qd x k / 256
theorem qd_in {x : Int} (h0 : 0 ≤ x) (h1 : x < 18446744073709551616) : ∀ k, 0 ≤ qd x k ∧ qd x k < 18446744073709551616
  | 0 => ⟨h0, h1⟩
  | k + 1 => by
    have := qd_in h0 h1 k
    show 0 ≤ qd x k / 256 ∧ qd x k / 256 < 18446744073709551616
    omega
def byB (m : Int) : UInt8 := UInt8.ofNat (m % 256).toNat
theorem byB_is (m : Int) : ((byB m).toNat : Int) = m % 256 := by
  unfold byB
  rw [UInt8.toNat_ofNat']
  omega
def numBs (x : Int) : List UInt8 := (List.range 8).map fun i => byB (qd x i)
def pick4 (p n b v : Int) (i : Nat) : Int := if i = 0 then p else if i = 1 then n else if i = 2 then b else v
def hI (x p n b v r : Int) (k : Nat) : Int :=
  if k ≤ 8 then qd x k else if k < 20 then 0 else if k < 28 then qd x (k - 20) % 256 else if k < 34 then pick4 p n b v (k - 30) % 256 else if k < 50 then r else if k < 54 then pick4 p n b v (k - 50) else if k < 64 then pick4 p n b v (k - 60) else 0
def tail4 (p n b v : Int) : List UInt8 := [byB p, byB n, byB b, byB v]
theorem numT_true [Val] {x : Int} (h : ∀ i, i ≤ 8 → Val.I i = qd x i) (hb : ∀ i, i < 8 → Val.I (20 + i) = qd x i % 256) (h0 : 0 ≤ x) (h1 : x < 18446744073709551616) : ∀ e, e ∈ numT → TETrue e := by
  intro e he
  obtain ⟨i, hi, he⟩ := List.mem_flatMap.1 he
  have hi := List.mem_range.1 hi
  have hq := qd_in h0 h1 i
  have e0 : cv (sU i) = .int .u64 (qd x i) := congrArg (Value.int .u64) (h i (by omega))
  have e1 : cv (sU (i + 1)) = .int .u64 (qd x i / 256) := congrArg (Value.int .u64) (h (i + 1) (by omega))
  refine (fa ?_ (fa ?_ (fa ?_ fz))) e he
  · exact f_conv e0 (congrArg (Value.int .u8) (hb i hi)) rfl
  · refine f_shr (k := 8) e0 (by omega) ?_ rfl
    rw [e1, Int.fdiv_eq_ediv_of_nonneg _ (by omega)]
    rfl
  · refine f_quo (n := 256) e0 rfl (by omega) ?_ rfl
    rw [e1, Int.tdiv_eq_ediv_of_nonneg hq.1]
    congr 1
    show _ = (qd x i / 256) % 18446744073709551616
    omega
theorem numB_cv [Val] {x : Int} (hb : ∀ i, i < 8 → Val.I (20 + i) = qd x i % 256) : numB.map cv = (numBs x).map fun b => Value.int .u8 b.toNat := by
  unfold numB numBs
  rw [List.map_map, List.map_map]
  refine List.map_congr_left fun i hi => ?_
  show Value.int .u8 (Val.I (20 + i)) = Value.int .u8 ((byB (qd x i)).toNat : Int)
  rw [hb i (List.mem_range.1 hi), byB_is]
theorem ms_is [Val] {cs : List RV} {j : Nat} {bs : List UInt8} (h : cs.map cv = bs.map fun b => Value.int .u8 b.toNat) (hf : cs.all flat0 = true) (hj : Val.S j = ba bs) : MSTrue ⟨cs, j⟩ := ⟨bs, h, hf, hj⟩
@[irreducible] def imageM (x : Int) : Int := hashM (ba (imgL ++ numBs x))
@[irreducible] def secretM (x p n b v : Int) : Int := hashM (ba (secL ++ (numBs x ++ tail4 p n b v)))
def hSt (l1 l2 l5 l6 l7 : List UInt8) (p n b v : Int) (j : Nat) : ByteArray := if j = 1 then ba l1 else if j = 2 then ba l2 else if j = 5 then ba l5 else if j = 6 then ba l6 else if j = 7 then ba l7 else if j = 8 then ba (l7 ++ [byB b]) else ba [byB (pick4 p n b v (j - 10))]
def imNm (x r : Int) : Nm := ⟨hI x 0 0 0 0 r, fun _ => false, hSt (imgL ++ numBs x) (numBs x) [] [] [] 0 0 0 0, fun _ => []⟩
theorem hI_q {x p n b v r : Int} : ∀ i, i ≤ 8 → hI x p n b v r i = qd x i := fun i hi => by
  unfold hI
  rw [if_pos hi]
theorem hI_b {x p n b v r : Int} : ∀ i, i < 8 → hI x p n b v r (20 + i) = qd x i % 256 := fun i hi => by
  unfold hI
  rw [if_neg (by omega), if_neg (by omega), if_pos (by omega), Nat.add_sub_cancel_left]
theorem numBs_len (x : Int) : (numBs x).length = 8 := by
  unfold numBs
  rw [List.length_map, List.length_range]
def secTest (p n b v : Int) (i : Nat) : Bool :=
  if i = 0 then decide (0 ≤ p) else if i = 1 then decide (p ≤ 7) else if i = 2 then decide (0 ≤ n) else if i = 3 then decide (n ≤ 63) else if i = 4 then decide (0 ≤ b) else if i = 5 then decide (b ≤ 15) else if i = 6 then decide (0 ≤ v) else decide (v ≤ 1)
def tup2 (a b : Value) : Value := .tuple #[a, b]
end Go.Proofs.Z
