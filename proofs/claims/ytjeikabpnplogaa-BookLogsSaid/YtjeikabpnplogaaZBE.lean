/- A part of the proofs that the laws of layer eight answer true for every input. -/
import Derived.Test.YtjeikabpnplogaaZBC
namespace Go.Proofs.Z
open Go Go.RowKit Go.Proofs Go.Ri Go.Proofs.Z.Fa
/-! Image and Secret of both packages: contracts. -/
theorem done_val (V : Val) {t : Tb} {plan : List Bool} {f : FuncId} {ds : List RV} {S : List SE} {R : List Nat} {r0 : RV} {v : Value} {vs : List Value} (ht : @TbOK V t) (h : doneQ t plan f ds S R r0 [] = true) (hw : isW r0 = false) (hS : Holds S V V) (hf : flat r0 = true) (hv0 : @cvF V r0 = v) (hv : ∀ w, All2 (@Go.Ri.NVal V w) ds vs) : Ans f vs v := by
  intro w hr
  refine (done_calls V V ht h hw hS w hr vs (hv w)).mono fun e w' ⟨u, E', he, hu, H⟩ => ⟨?_, @HInv.below V _ _ _ _ _ _ H⟩
  rw [he, ← hv0]
  exact congrArg Ending.returned (@VRel.fn V E' r0 u _ hu (@rel_cvF V E' r0 hf))
def ba (l : List UInt8) : ByteArray := ⟨l.toArray⟩
theorem ba_app (l m : List UInt8) : ba l ++ ba m = ba (l ++ m) := by
  apply ByteArray.ext
  apply Array.toList_inj.1
  simp [ba]
theorem ba_size (l : List UInt8) : (ba l).size = l.length := by
  show l.toArray.size = _
  rw [List.size_toArray]
theorem f_app [Val] {a b c : RV} {x y z : List UInt8} (ha : cv a = .string (ba x)) (hb : cv b = .string (ba y)) (hc : cv c = .string (ba z)) (hf : flat0 c = true) (hz : z = x ++ y) (h : x.length + y.length ≤ 1000000000) : TETrue ⟨.bin .add, a, b, c⟩ := by
  refine f_sadd ha hb ?_ hf (by rw [ba_size, ba_size]; exact h)
  rw [hc, ba_app, hz]
theorem f_quo [Val] {a b c : RV} {k : IntKind} {m n : Int} (ha : cv a = .int k m) (hb : cv b = .int k n) (hn : n ≠ 0) (hc : cv c = .int k (k.wrap (m.tdiv n))) (hf : flat0 c = true) : TETrue ⟨.bin .quo, a, b, c⟩ := by
  refine ⟨hf, ?_⟩
  show TCTrue _ (cv a) (cv b) (cv c)
  rw [ha, hb, hc]
  exact t_quo k m n hn
/-- A number without its last bytes. -/
def qd (x : Int) : Nat → Int
  | 0 => x
  | k + 1 => qd x k / 256
theorem qd_in {x : Int} (h0 : 0 ≤ x) (h1 : x < 18446744073709551616) : ∀ k, 0 ≤ qd x k ∧ qd x k < 18446744073709551616
  | 0 => ⟨h0, h1⟩
  | k + 1 => by
    have := qd_in h0 h1 k
    show 0 ≤ qd x k / 256 ∧ qd x k / 256 < 18446744073709551616
    omega
def byB (m : Int) : UInt8 := UInt8.ofNat (m % 256).toNat
theorem byB_is (m : Int) : ((byB m).toNat : Int) = m % 256 := by
  unfold byB
  rw [UInt8.toNat_ofNat']
  omega
def numBs (x : Int) : List UInt8 := (List.range 8).map fun i => byB (qd x i)
def pick4 (p n b v : Int) (i : Nat) : Int := if i = 0 then p else if i = 1 then n else if i = 2 then b else v
def hI (x p n b v r : Int) (k : Nat) : Int :=
  if k ≤ 8 then qd x k else if k < 20 then 0 else if k < 28 then qd x (k - 20) % 256 else if k < 34 then pick4 p n b v (k - 30) % 256 else if k < 50 then r else if k < 54 then pick4 p n b v (k - 50) else if k < 64 then pick4 p n b v (k - 60) else 0
def tail4 (p n b v : Int) : List UInt8 := [byB p, byB n, byB b, byB v]
theorem numT_true [Val] {x : Int} (h : ∀ i, i ≤ 8 → Val.I i = qd x i) (hb : ∀ i, i < 8 → Val.I (20 + i) = qd x i % 256) (h0 : 0 ≤ x) (h1 : x < 18446744073709551616) : ∀ e, e ∈ numT → TETrue e := by
  intro e he
  obtain ⟨i, hi, he⟩ := List.mem_flatMap.1 he
  have hi := List.mem_range.1 hi
  have hq := qd_in h0 h1 i
  have e0 : cv (sU i) = .int .u64 (qd x i) := congrArg (Value.int .u64) (h i (by omega))
  have e1 : cv (sU (i + 1)) = .int .u64 (qd x i / 256) := congrArg (Value.int .u64) (h (i + 1) (by omega))
  refine (fa ?_ (fa ?_ (fa ?_ fz))) e he
  · exact f_conv e0 (congrArg (Value.int .u8) (hb i hi)) rfl
  · refine f_shr (k := 8) e0 (by omega) ?_ rfl
    rw [e1, Int.fdiv_eq_ediv_of_nonneg _ (by omega)]
    rfl
  · refine f_quo (n := 256) e0 rfl (by omega) ?_ rfl
    rw [e1, Int.tdiv_eq_ediv_of_nonneg hq.1]
    congr 1
    show _ = (qd x i / 256) % 18446744073709551616
    omega
theorem lit_cv [Val] (l : List UInt8) : (litB l).map cv = l.map fun b => Value.int .u8 b.toNat := by
  unfold litB
  rw [List.map_map]
  rfl
theorem numB_cv [Val] {x : Int} (hb : ∀ i, i < 8 → Val.I (20 + i) = qd x i % 256) : numB.map cv = (numBs x).map fun b => Value.int .u8 b.toNat := by
  unfold numB numBs
  rw [List.map_map, List.map_map]
  refine List.map_congr_left fun i hi => ?_
  show Value.int .u8 (Val.I (20 + i)) = Value.int .u8 ((byB (qd x i)).toNat : Int)
  rw [hb i (List.mem_range.1 hi), byB_is]
theorem ms_is [Val] {cs : List RV} {j : Nat} {bs : List UInt8} (h : cs.map cv = bs.map fun b => Value.int .u8 b.toNat) (hf : cs.all flat0 = true) (hj : Val.S j = ba bs) : MSTrue ⟨cs, j⟩ := ⟨bs, h, hf, hj⟩
@[irreducible] def imageM (x : Int) : Int := hashM (ba (imgL ++ numBs x))
@[irreducible] def secretM (x p n b v : Int) : Int := hashM (ba (secL ++ (numBs x ++ tail4 p n b v)))
def hSt (l1 l2 l5 l6 l7 : List UInt8) (p n b v : Int) (j : Nat) : ByteArray := if j = 1 then ba l1 else if j = 2 then ba l2 else if j = 5 then ba l5 else if j = 6 then ba l6 else if j = 7 then ba l7 else if j = 8 then ba (l7 ++ [byB b]) else ba [byB (pick4 p n b v (j - 10))]
def imNm (x r : Int) : Nm := ⟨hI x 0 0 0 0 r, fun _ => false, hSt (imgL ++ numBs x) (numBs x) [] [] [] 0 0 0 0, fun _ => []⟩
def seNm (x p n b v r : Int) : Nm := ⟨hI x p n b v r, fun _ => false, hSt (secL ++ (numBs x ++ tail4 p n b v)) (numBs x) (secL ++ numBs x) (secL ++ numBs x ++ [byB p]) (secL ++ numBs x ++ [byB p] ++ [byB n]) p n b v, fun _ => []⟩
theorem hI_q {x p n b v r : Int} : ∀ i, i ≤ 8 → hI x p n b v r i = qd x i := fun i hi => by
  unfold hI
  rw [if_pos hi]
theorem hI_b {x p n b v r : Int} : ∀ i, i < 8 → hI x p n b v r (20 + i) = qd x i % 256 := fun i hi => by
  unfold hI
  rw [if_neg (by omega), if_neg (by omega), if_pos (by omega), Nat.add_sub_cancel_left]
theorem hI_c {x p n b v r : Int} : ∀ i, i < 4 → hI x p n b v r (30 + i) = pick4 p n b v i % 256 := fun i hi => by
  unfold hI
  rw [if_neg (by omega), if_neg (by omega), if_neg (by omega), if_pos (by omega), Nat.add_sub_cancel_left]
theorem hI_p {x p n b v r : Int} : ∀ i, i < 4 → hI x p n b v r (50 + i) = pick4 p n b v i := fun i hi => by
  unfold hI
  rw [if_neg (by omega), if_neg (by omega), if_neg (by omega), if_neg (by omega), if_neg (by omega), if_pos (by omega), Nat.add_sub_cancel_left]
theorem hI_s {x p n b v r : Int} : ∀ i, i < 4 → hI x p n b v r (60 + i) = pick4 p n b v i := fun i hi => by
  unfold hI
  rw [if_neg (by omega), if_neg (by omega), if_neg (by omega), if_neg (by omega), if_neg (by omega), if_neg (by omega), if_pos (by omega), Nat.add_sub_cancel_left]
theorem hI_r {x p n b v r : Int} : hI x p n b v r 40 = r := by simp [hI]
theorem imageM_is (x : Int) : imageM x = hashM (ba (imgL ++ numBs x)) := by unfold imageM; rfl
theorem secretM_is (x p n b v : Int) : secretM x p n b v = hashM (ba (secL ++ (numBs x ++ tail4 p n b v))) := by unfold secretM; rfl
theorem numBs_len (x : Int) : (numBs x).length = 8 := by
  unfold numBs
  rw [List.length_map, List.length_range]
def imF (q : Bool) : Nat := if q then fImg else fRImage
theorem image_core (q : Bool) (x r : Int) (h0 : 0 ≤ x) (h1 : x < 18446744073709551616) (hH : ∀ q, Ans (hsF q) [.string (ba (imgL ++ numBs x))] (.int .u64 r)) : Ans (imF q) [.int .u64 x] (.int .u64 r) := by
  have hN := @numT_true ((imNm x r).val fun _ => undef) x hI_q hI_b h0 h1
  have hB := @numB_cv ((imNm x r).val fun _ => undef) x hI_b
  have hR : @cvF ((imNm x r).val fun _ => undef) (sU 40) = .int .u64 r := congrArg (Value.int .u64) (hI_r (x := x) (p := 0) (n := 0) (b := 0) (v := 0))
  cases q
  · have ht : @TbOK ((imNm x r).val fun _ => undef) imgB := by
      letI : Val := (imNm x r).val fun _ => undef
      exact { T := fapp hN (fa (f_app (x := imgL) (y := numBs x) (z := imgL ++ numBs x) rfl rfl rfl rfl rfl (by rw [numBs_len]; show 5 + 8 ≤ 1000000000; omega)) fz), MS := fa (ms_is hB (by kernel_rfl) rfl) fz, Y := fa (by rw [show cvF (sU 40) = .int .u64 r from hR]; exact hH false) fz }
    exact done_val _ ht img_b rfl (holds_all (fa ⟨.u64, r, hR, hI_r (x := x) (p := 0) (n := 0) (b := 0) (v := 0)⟩ fz)) rfl hR (fun w => .cons rfl .nil)
  · have ht : @TbOK ((imNm x r).val fun _ => undef) imgA := by
      letI : Val := (imNm x r).val fun _ => undef
      exact { T := hN, MS := fa (ms_is (bs := imgL ++ numBs x) (by rw [List.map_append, List.map_append, lit_cv, hB]) (by kernel_rfl) rfl) fz, Y := fa (by rw [show cvF (sU 40) = .int .u64 r from hR]; exact hH true) fz }
    exact done_val _ ht img_a rfl (holds_all (fa ⟨.u64, r, hR, hI_r (x := x) (p := 0) (n := 0) (b := 0) (v := 0)⟩ fz)) rfl hR (fun w => .cons rfl .nil)
theorem image_ans (q : Bool) (x : Int) (h0 : 0 ≤ x) (h1 : x < 18446744073709551616) : Ans (imF q) [.int .u64 x] (.int .u64 (imageM x)) :=
  image_core q x _ h0 h1 fun q => by
    rw [imageM_is]
    refine hash_ans q _ ?_
    rw [ba_size, List.length_append, numBs_len]
    exact of_decide_eq_true (by rfl)
def secTest (p n b v : Int) (i : Nat) : Bool :=
  if i = 0 then decide (0 ≤ p) else if i = 1 then decide (p ≤ 7) else if i = 2 then decide (0 ≤ n) else if i = 3 then decide (n ≤ 63) else if i = 4 then decide (0 ≤ b) else if i = 5 then decide (b ≤ 15) else if i = 6 then decide (0 ≤ v) else decide (v ≤ 1)
def secCls (p n b v : Int) : Nat := firstBad (secTest p n b v) 8 0
theorem sct_true [Val] {p n b v : Int} (h : ∀ i, i < 4 → Val.I (50 + i) = pick4 p n b v i) (i : Nat) (hi : i < 8) : ∀ e, e ∈ sct i (secTest p n b v i) → TETrue e := by
  have e0 : cv (sI 50) = .int .i64 p := congrArg (Value.int .i64) (h 0 (by omega))
  have e1 : cv (sI 51) = .int .i64 n := congrArg (Value.int .i64) (h 1 (by omega))
  have e2 : cv (sI 52) = .int .i64 b := congrArg (Value.int .i64) (h 2 (by omega))
  have e3 : cv (sI 53) = .int .i64 v := congrArg (Value.int .i64) (h 3 (by omega))
  match i, hi with
  | 0, _ => exact fa (f_geq e0 rfl rfl) fz
  | 1, _ => exact fa (f_leq e0 rfl rfl) (fa (f_lss e0 rfl (decide_eq_decide.2 (by show p < 8 ↔ p ≤ 7; omega))) fz)
  | 2, _ => exact fa (f_geq e1 rfl rfl) fz
  | 3, _ => exact fa (f_leq e1 rfl rfl) (fa (f_lss e1 rfl (decide_eq_decide.2 (by show n < 64 ↔ n ≤ 63; omega))) fz)
  | 4, _ => exact fa (f_geq e2 rfl rfl) (fa (f_lss e2 rfl (by show decide (b < 0) = !decide (0 ≤ b); rw [← decide_not]; exact decide_eq_decide.2 (by omega))) fz)
  | 5, _ => exact fa (f_leq e2 rfl rfl) (fa (f_geq e2 rfl (by show decide (b ≥ 16) = !decide (b ≤ 15); rw [← decide_not]; exact decide_eq_decide.2 (by omega))) fz)
  | 6, _ => exact fa (f_geq e3 rfl rfl) (fa (f_lss e3 rfl (by show decide (v < 0) = !decide (0 ≤ v); rw [← decide_not]; exact decide_eq_decide.2 (by omega))) fz)
  | 7, _ => exact fa (f_leq e3 rfl rfl) (fa (f_gtr e3 rfl (by show decide (v > 1) = !decide (v ≤ 1); rw [← decide_not]; exact decide_eq_decide.2 (by omega))) fz)
theorem scT_true [Val] {p n b v : Int} (h : ∀ i, i < 4 → Val.I (50 + i) = pick4 p n b v i) : ∀ e, e ∈ scT (secCls p n b v) → TETrue e := by
  intro e he
  obtain ⟨i, hi, he⟩ := List.mem_flatMap.1 he
  have hi : i < Nat.min (secCls p n b v + 1) 8 := List.mem_range.1 hi
  have h1 : i < secCls p n b v + 1 := Nat.lt_of_lt_of_le hi (Nat.min_le_left _ _)
  have h2 : i < 8 := Nat.lt_of_lt_of_le hi (Nat.min_le_right _ _)
  have hq : Nat.blt i (secCls p n b v) = secTest p n b v i := by
    rcases Nat.lt_or_ge i (secCls p n b v) with hl | hl
    · rw [firstBad_pass (secTest p n b v) 8 0 i (Nat.zero_le _) hl]
      exact Nat.ble_eq_true_of_le hl
    · obtain rfl : i = secCls p n b v := by omega
      rw [show secTest p n b v (secCls p n b v) = false from firstBad_fail (secTest p n b v) 8 0 (by show secCls p n b v < 0 + 8; omega)]
      have := Nat.lt_irrefl (secCls p n b v)
      exact Bool.eq_false_iff.2 fun hc => this (Nat.le_of_ble_eq_true hc)
  rw [hq] at he
  exact sct_true h i h2 e he
def seF (q : Bool) : Nat := if q then fSec else fRSecret
def secE (p n b v : Int) : Int := if secCls p n b v < 8 then 1 else 0
def secV (x p n b v : Int) : Int := if secCls p n b v < 8 then 0 else secretM x p n b v
def tup2 (a b : Value) : Value := .tuple #[a, b]
noncomputable def fSecL : Nat := 63
set_option maxRecDepth 100000 in
theorem sec_c : doneQ { secB with T := secB.T.drop (scT 8).length } [] fSecL secD [.int 40 (sU 40)] [] (sU 40) [] = true := by kernel_rfl
end Go.Proofs.Z

namespace Go.Proofs.Z
open Go Go.RowKit Go.Proofs Go.Ri Go.Proofs.Z.Fa
/-! Secret of both packages: contracts. -/
theorem pick_in {p n b v : Int} (h : secCls p n b v = 8) : ∀ i, i < 4 → 0 ≤ pick4 p n b v i ∧ pick4 p n b v i < 256 := by
  have g := fun j hj => firstBad_pass (secTest p n b v) 8 0 j (Nat.zero_le _) (show j < secCls p n b v by rw [h]; exact hj)
  have g0 := g 0 (by omega); have g1 := g 1 (by omega); have g2 := g 2 (by omega); have g3 := g 3 (by omega); have g4 := g 4 (by omega); have g5 := g 5 (by omega); have g6 := g 6 (by omega); have g7 := g 7 (by omega)
  simp [secTest] at g0 g1 g2 g3 g4 g5 g6 g7
  intro i hi
  match i, hi with
  | 0, _ => exact ⟨g0, by show p < 256; omega⟩
  | 1, _ => exact ⟨g2, by show n < 256; omega⟩
  | 2, _ => exact ⟨g4, by show b < 256; omega⟩
  | 3, _ => exact ⟨g6, by show v < 256; omega⟩
def tlA : List TE := (List.range 4).map fun i => ⟨.conv .u8, sI (50 + i), sI (50 + i), s8 (30 + i)⟩
def tlB : List TE := (List.range 4).flatMap fun i => [⟨.conv .u64, sI (50 + i), sI (50 + i), sU (60 + i)⟩, ⟨.conv .u8, sU (60 + i), sU (60 + i), s8 (30 + i)⟩, ⟨.bin .quo, sU (60 + i), lU 256, sU (70 + i)⟩]
section
variable {x p n b v r : Int}
theorem tlA_true : ∀ e, e ∈ tlA → @TETrue ((seNm x p n b v r).val fun _ => undef) e := by
  letI : Val := (seNm x p n b v r).val fun _ => undef
  intro e he
  obtain ⟨i, hi, rfl⟩ := List.mem_map.1 he
  have hi := List.mem_range.1 hi
  exact f_conv (congrArg (Value.int .i64) (hI_p (x := x) (r := r) i hi)) (congrArg (Value.int .u8) (hI_c (x := x) (r := r) i hi)) rfl
theorem tlB_true (hp : ∀ i, i < 4 → 0 ≤ pick4 p n b v i ∧ pick4 p n b v i < 256) : ∀ e, e ∈ tlB → @TETrue ((seNm x p n b v r).val fun _ => undef) e := by
  letI : Val := (seNm x p n b v r).val fun _ => undef
  intro e he
  obtain ⟨i, hi, he⟩ := List.mem_flatMap.1 he
  have hi := List.mem_range.1 hi
  have hq := hp i hi
  have e5 : cv (sI (50 + i)) = .int .i64 (pick4 p n b v i) := congrArg (Value.int .i64) (hI_p (x := x) (r := r) i hi)
  have e6 : cv (sU (60 + i)) = .int .u64 (pick4 p n b v i) := congrArg (Value.int .u64) (hI_s (x := x) (r := r) i hi)
  have h7 : hI x p n b v r (70 + i) = 0 := by
    unfold hI
    rw [if_neg (by omega), if_neg (by omega), if_neg (by omega), if_neg (by omega), if_neg (by omega), if_neg (by omega), if_neg (by omega)]
  have e7 : cv (sU (70 + i)) = .int .u64 0 := congrArg (Value.int .u64) h7
  refine (fa ?_ (fa ?_ (fa ?_ fz))) e he
  · refine f_conv e5 ?_ rfl
    rw [e6]
    congr 1
    show _ = pick4 p n b v i % 18446744073709551616
    omega
  · exact f_conv e6 (congrArg (Value.int .u8) (hI_c (x := x) (r := r) i hi)) rfl
  · refine f_quo (n := 256) e6 rfl (by omega) ?_ rfl
    rw [e7, Int.tdiv_eq_ediv_of_nonneg hq.1]
    congr 1
    show _ = (pick4 p n b v i / 256) % 18446744073709551616
    omega
theorem tail_cv : @Eq (List Value) ([s8 30, s8 31, s8 32, s8 33].map (@cv ((seNm x p n b v r).val fun _ => undef))) ((tail4 p n b v).map fun b => Value.int .u8 b.toNat) := by
  have g : ∀ i, i < 4 → Value.int .u8 (hI x p n b v r (30 + i)) = Value.int .u8 ((byB (pick4 p n b v i)).toNat : Int) := fun i hi => by rw [hI_c i hi, byB_is]
  have g0 := g 0 (by omega); have g1 := g 1 (by omega); have g2 := g 2 (by omega); have g3 := g 3 (by omega)
  show [Value.int .u8 (hI x p n b v r 30), Value.int .u8 (hI x p n b v r 31), Value.int .u8 (hI x p n b v r 32), Value.int .u8 (hI x p n b v r 33)] = [Value.int .u8 ((byB p).toNat : Int), Value.int .u8 ((byB n).toNat : Int), Value.int .u8 ((byB b).toNat : Int), Value.int .u8 ((byB v).toNat : Int)]
  exact congr (congrArg List.cons g0) (congr (congrArg List.cons g1) (congr (congrArg List.cons g2) (congrArg (fun z => [z]) g3)))
theorem one_cv (i : Nat) (hi : i < 4) : [s8 (30 + i)].map (@cv ((seNm x p n b v r).val fun _ => undef)) = [byB (pick4 p n b v i)].map fun b => Value.int .u8 b.toNat := by
  show [Value.int .u8 (hI x p n b v r (30 + i))] = [Value.int .u8 ((byB (pick4 p n b v i)).toNat : Int)]
  rw [hI_c i hi, byB_is]
theorem se_R : @cvF ((seNm x p n b v r).val fun _ => undef) (sU 40) = .int .u64 r := congrArg (Value.int .u64) (hI_r (x := x) (p := p) (n := n) (b := b) (v := v))
theorem se_N (h0 : 0 ≤ x) (h1 : x < 18446744073709551616) : ∀ e, e ∈ numT → @TETrue ((seNm x p n b v r).val fun _ => undef) e := @numT_true ((seNm x p n b v r).val fun _ => undef) x hI_q hI_b h0 h1
theorem se_B : numB.map (@cv ((seNm x p n b v r).val fun _ => undef)) = (numBs x).map fun b => Value.int .u8 b.toNat := @numB_cv ((seNm x p n b v r).val fun _ => undef) x hI_b
theorem se_C (hc : secCls p n b v = 8) : ∀ e, e ∈ scT 8 → @TETrue ((seNm x p n b v r).val fun _ => undef) e := by
  have := @scT_true ((seNm x p n b v r).val fun _ => undef) p n b v hI_p
  rw [hc] at this
  exact this
theorem se_A (h0 : 0 ≤ x) (h1 : x < 18446744073709551616) (hc : secCls p n b v = 8) (hH : Ans fHash [.string (ba (secL ++ (numBs x ++ tail4 p n b v)))] (.int .u64 r)) : @TbOK ((seNm x p n b v r).val fun _ => undef) secA := by
  letI : Val := (seNm x p n b v r).val fun _ => undef
  exact { T := fapp (se_C hc) (fapp (se_N h0 h1) tlA_true), MS := fa (ms_is (bs := secL ++ (numBs x ++ tail4 p n b v)) (by rw [List.map_append, List.map_append, List.map_append, List.map_append, lit_cv, se_B, tail_cv]) (by kernel_rfl) rfl) fz, Y := fa (by rw [show cvF (sU 40) = .int .u64 r from se_R]; exact hH) fz }
def tlS : List TE := [⟨.bin .add, lT secL, sT 2, sT 5⟩, ⟨.bin .add, sT 5, sT 10, sT 6⟩, ⟨.bin .add, sT 6, sT 11, sT 7⟩, ⟨.bin .add, sT 7, sT 12, sT 8⟩, ⟨.bin .add, sT 8, sT 13, sT 1⟩]
theorem len_le {l : List UInt8} {k : Nat} (h : l.length = 8 + k) (hk : k ≤ 100) : l.length + 1 ≤ 1000000000 := by omega
theorem tlS_true : ∀ e, e ∈ tlS → @TETrue ((seNm x p n b v r).val fun _ => undef) e := by
  letI : Val := (seNm x p n b v r).val fun _ => undef
  have l5 : (secL ++ numBs x).length = 8 + 6 := by rw [List.length_append, numBs_len]; rfl
  have l6 : (secL ++ numBs x ++ [byB p]).length = 8 + 7 := by rw [List.length_append, l5]; rfl
  have l7 : (secL ++ numBs x ++ [byB p] ++ [byB n]).length = 8 + 8 := by rw [List.length_append, l6]; rfl
  have l8 : (secL ++ numBs x ++ [byB p] ++ [byB n] ++ [byB b]).length = 8 + 9 := by rw [List.length_append, l7]; rfl
  refine fa (f_app (x := secL) (y := numBs x) (z := secL ++ numBs x) rfl rfl rfl rfl rfl ?_) (fa (f_app (x := secL ++ numBs x) (y := [byB p]) (z := secL ++ numBs x ++ [byB p]) rfl rfl rfl rfl rfl (len_le l5 (by omega))) (fa (f_app (x := secL ++ numBs x ++ [byB p]) (y := [byB n]) (z := secL ++ numBs x ++ [byB p] ++ [byB n]) rfl rfl rfl rfl rfl (len_le l6 (by omega))) (fa (f_app (x := secL ++ numBs x ++ [byB p] ++ [byB n]) (y := [byB b]) (z := secL ++ numBs x ++ [byB p] ++ [byB n] ++ [byB b]) rfl rfl rfl rfl rfl (len_le l7 (by omega))) (fa (f_app (x := secL ++ numBs x ++ [byB p] ++ [byB n] ++ [byB b]) (y := [byB v]) (z := secL ++ (numBs x ++ tail4 p n b v)) rfl rfl rfl rfl ?_ (len_le l8 (by omega))) fz))))
  · rw [numBs_len]
    exact of_decide_eq_true (by rfl)
  · simp [tail4]
theorem se_Bk (h0 : 0 ≤ x) (h1 : x < 18446744073709551616) (hc : secCls p n b v = 8) (hH : Ans fRHash [.string (ba (secL ++ (numBs x ++ tail4 p n b v)))] (.int .u64 r)) : @TbOK ((seNm x p n b v r).val fun _ => undef) secB := by
  letI : Val := (seNm x p n b v r).val fun _ => undef
  exact { T := fapp (se_C hc) (fapp (se_N h0 h1) (fapp (tlB_true (pick_in hc)) tlS_true)), MS := fa (ms_is se_B (by kernel_rfl) rfl) (fa (ms_is (one_cv 0 (by omega)) (by kernel_rfl) rfl) (fa (ms_is (one_cv 1 (by omega)) (by kernel_rfl) rfl) (fa (ms_is (one_cv 2 (by omega)) (by kernel_rfl) rfl) (fa (ms_is (one_cv 3 (by omega)) (by kernel_rfl) rfl) fz)))), Y := fa (by rw [show cvF (sU 40) = .int .u64 r from se_R]; exact hH) fz }
theorem se_args (w : World) : All2 (@Go.Ri.NVal ((seNm x p n b v r).val fun _ => undef) w) secD [.int .u64 x, .int .i64 p, .int .i64 n, .int .i64 b, .int .i64 v] := .cons rfl (.cons rfl (.cons rfl (.cons rfl (.cons rfl .nil))))
theorem se_S : @Holds [.int 40 (sU 40)] ((seNm x p n b v r).val fun _ => undef) ((seNm x p n b v r).val fun _ => undef) := holds_all (fa ⟨.u64, r, se_R, hI_r (x := x) (p := p) (n := n) (b := b) (v := v)⟩ fz)
theorem secret_core (q : Bool) (h0 : 0 ≤ x) (h1 : x < 18446744073709551616) (hc : secCls p n b v = 8) (hH : ∀ q, Ans (hsF q) [.string (ba (secL ++ (numBs x ++ tail4 p n b v)))] (.int .u64 r)) : Ans (seF q) [.int .u64 x, .int .i64 p, .int .i64 n, .int .i64 b, .int .i64 v] (tup2 (.int .u64 r) (.int .i64 0)) := by
  have hv : @cvF ((seNm x p n b v r).val fun _ => undef) (.tup [sU 40, lI 0]) = tup2 (.int .u64 r) (.int .i64 0) := congrArg (fun z => Value.tuple #[z, .int .i64 0]) (se_R (x := x) (p := p) (n := n) (b := b) (v := v) (r := r))
  cases q
  · exact done_val _ (se_Bk h0 h1 hc (hH false)) sec_b rfl se_S rfl hv se_args
  · exact done_val _ (se_A h0 h1 hc (hH true)) sec_a rfl se_S rfl hv se_args
theorem secl_core (h0 : 0 ≤ x) (h1 : x < 18446744073709551616) (hc : secCls p n b v = 8) (hH : Ans fRHash [.string (ba (secL ++ (numBs x ++ tail4 p n b v)))] (.int .u64 r)) : Ans fSecL [.int .u64 x, .int .i64 p, .int .i64 n, .int .i64 b, .int .i64 v] (.int .u64 r) := by
  have ht := se_Bk h0 h1 hc hH
  have ht2 : @TbOK ((seNm x p n b v r).val fun _ => undef) { secB with T := secB.T.drop (scT 8).length } := by
    letI : Val := (seNm x p n b v r).val fun _ => undef
    exact { T := fun e he => ht.T e (List.mem_of_mem_drop he), MS := ht.MS, Y := ht.Y }
  exact done_val _ ht2 sec_c rfl se_S rfl se_R se_args
end
theorem hsec (q : Bool) (x p n b v : Int) : Ans (hsF q) [.string (ba (secL ++ (numBs x ++ tail4 p n b v)))] (.int .u64 (secretM x p n b v)) := by
  rw [secretM_is]
  refine hash_ans q _ ?_
  rw [ba_size, List.length_append, List.length_append, numBs_len]
  exact of_decide_eq_true (by rfl)
theorem secl_ans {x p n b v : Int} (h0 : 0 ≤ x) (h1 : x < 18446744073709551616) (hc : secCls p n b v = 8) : Ans fSecL [.int .u64 x, .int .i64 p, .int .i64 n, .int .i64 b, .int .i64 v] (.int .u64 (secretM x p n b v)) := secl_core h0 h1 hc (hsec false x p n b v)
theorem secret_ans (q : Bool) {x p n b v : Int} (h0 : 0 ≤ x) (h1 : x < 18446744073709551616) : Ans (seF q) [.int .u64 x, .int .i64 p, .int .i64 n, .int .i64 b, .int .i64 v] (tup2 (.int .u64 (secV x p n b v)) (.int .i64 (secE p n b v))) := by
  unfold secV secE
  by_cases hc : secCls p n b v < 8
  · rw [if_pos hc, if_pos hc]
    have ht : @TbOK ((seNm x p n b v 0).val fun _ => undef) { T := scT (secCls p n b v) } := by
      letI : Val := (seNm x p n b v 0).val fun _ => undef
      exact { T := scT_true hI_p }
    have hd := allU_lt sec_no _ hc
    simp only [Bool.and_eq_true] at hd
    cases q
    · exact done_val _ ht hd.2 rfl (holds_all fz) rfl rfl se_args
    · exact done_val _ ht hd.1 rfl (holds_all fz) rfl rfl se_args
  · rw [if_neg hc, if_neg hc]
    have := firstBad_le (secTest p n b v) 8 0
    have h8 : secCls p n b v = 8 := by
      have : secCls p n b v ≤ 0 + 8 := this
      omega
    exact secret_core q h0 h1 h8 fun q => hsec q x p n b v
end Go.Proofs.Z
