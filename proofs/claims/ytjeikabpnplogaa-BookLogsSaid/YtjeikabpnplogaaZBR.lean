/- A part of the proofs that the laws of layer eight answer true for every input. -/
import Derived.Test.YtjeikabpnplogaaZBO
namespace Go.Proofs.Z
open Go Go.RowKit Go.Proofs Go.Ri Go.Proofs.Z.Fa
/-! Seal of both packages: runs. 600 the seed, 400 the digest, by half less each to 415; 420 to 435 its bits; 500 to 515 the secrets. -/
abbrev fSealB : Nat := 24
abbrev fRSeal : Nat := 25
def bitT : List TE := (List.range 16).flatMap fun (i : Nat) => [⟨.bin .shr, sI 400, lI ((i : Nat) : Int), sI (400 + i)⟩, ⟨.bin .and, sI (400 + i), lI 1, sI (420 + i)⟩, ⟨.bin .quo, sI (400 + i), lI 2, sI (401 + i)⟩, ⟨.bin .rem, sI (400 + i), lI 2, sI (420 + i)⟩]
def secY (f : Nat) (own : Bool) : List YE := (List.range 16).map fun i => ⟨f, [sU 600, sI 50, sI 51, lI ((i : Nat) : Int), sI (420 + i)], if own then .tup [sU (500 + i), lI 0] else sU (500 + i)⟩
def senR : RV := .agg ([sI 50, sI 51, sU 0, sT 1] ++ (List.range 16).map fun i => sU (500 + i))
def zenR : RV := .agg ([lI 0, lI 0, lU 0, lT []] ++ (List.range 16).map fun _ => lU 0)
def sealD : List RV := [sU 600, entR]
def sealS : List SE := [.int 50 (sI 50), .int 51 (sI 51), .int 0 (sU 0), .str 1 (sT 1)] ++ (List.range 16).map fun i => .int (500 + i) (sU (500 + i))
noncomputable def slA : Tb := { T := bitT, Y := ⟨fDigest, [entR], .tup [sI 400, lI 0]⟩ :: secY fSec true }
noncomputable def slB : Tb := { T := ecT 5 ++ bitT, Y := ⟨fRDigest0, [entR], sI 400⟩ :: secY fSecL false }
set_option maxRecDepth 100000 in
theorem seal_a : doneQ slA [true] fSealB sealD sealS [] (.tup [senR, lI 0]) [] = true := by kernel_rfl
set_option maxRecDepth 100000 in
theorem seal_b : doneQ slB [true] fRSeal sealD sealS [] (.tup [senR, lI 0]) [] = true := by kernel_rfl
set_option maxRecDepth 100000 in
theorem seal_no : (allU 5 fun m => doneQ { Y := [⟨fDigest, [entR], .tup [lI 0, lI 81]⟩] } [true] fSealB sealD [] [] (.tup [zenR, lI 81]) [] && doneQ { T := ecT m } [true] fRSeal sealD [] [] (.tup [zenR, lI 81]) []) = true := by kernel_rfl
end Go.Proofs.Z

namespace Go.Proofs.Z
open Go Go.RowKit Go.Proofs Go.Ri Go.Proofs.Z.Fa
/-! Seal of both packages: contracts. -/
theorem t_and1 {m : Nat} (hm : m < 1000000) : TCTrue (.bin .and) (.int .i64 m) (.int .i64 1) (.int .i64 ((m % 2 : Nat) : Int)) := fun P ty a b w => by
  have e : ((BitVec.ofInt IntKind.i64.bits (m : Int)) &&& (BitVec.ofInt IntKind.i64.bits (1 : Int))).toNat = m % 2 := by
    rw [BitVec.toNat_and]
    show (BitVec.ofInt 64 (m : Int)).toNat &&& (BitVec.ofInt 64 ((1 : Nat) : Int)).toNat = _
    rw [BitVec.ofInt_natCast, BitVec.ofInt_natCast, BitVec.toNat_ofNat, BitVec.toNat_ofNat, Nat.mod_eq_of_lt (by omega), Nat.mod_eq_of_lt (by omega)]
    exact Nat.and_one_is_mod m
  have hw : IntKind.i64.wrap ((m % 2 : Nat) : Int) = ((m % 2 : Nat) : Int) := IntWalk.i64_in _ (by omega)
  simp only [int_guard, binOp, Op.intBits, Sem.run_bind, Result.andThen_ok, ne_eq, not_true_eq_false, if_false, e, hw]
  rfl
theorem f_and1 [Val] {a c : RV} {m : Int} (ha : cv a = .int .i64 m) (h : 0 ≤ m ∧ m < 1000000) (hc : cv c = .int .i64 (m % 2)) (hf : flat0 c = true) : TETrue ⟨.bin .and, a, lI 1, c⟩ := by
  refine ⟨hf, ?_⟩
  show TCTrue _ (cv a) (.int .i64 1) (cv c)
  obtain ⟨k, rfl⟩ : ∃ k : Nat, m = k := ⟨m.toNat, by omega⟩
  rw [ha, hc]
  exact t_and1 (by omega)
theorem f_shrI [Val] {a c : RV} {m : Int} (ha : cv a = .int .i64 m) {k : Nat} (hk : k ≤ 64) (hc : cv c = .int .i64 (m.fdiv (2 ^ k))) (hf : flat0 c = true) : TETrue ⟨.bin .shr, a, lI k, c⟩ := by
  refine ⟨hf, ?_⟩
  show TCTrue _ (cv a) (.int .i64 k) (cv c)
  rw [ha, hc]
  exact fun P ty a b w => by
    have h0 : ¬ ((k : Int) < 0) := by omega
    have h1 : min ((k : Int).toNat) IntKind.i64.bits = k := by
      rw [Int.toNat_natCast]
      exact Nat.min_eq_left hk
    simp only [int_guard, Sem.run_bind, Result.andThen_ok, binOp, Op.shift, if_neg h0, h1, Sem.run_pure]
/-- A number without its last bits. -/
def hd2 (d : Int) : Nat → Int
  | 0 => d
  | k + 1 => hd2 d k / 2
theorem hd2_pow (d : Int) : ∀ k, hd2 d k = d / (2 ^ k : Int)
  | 0 => by simp [hd2]
  | k + 1 => by
    show hd2 d k / 2 = _
    rw [hd2_pow d k, Int.pow_succ, Int.ediv_ediv_of_nonneg (Int.pow_nonneg (by omega))]
theorem hd2_in {d : Int} (h : 0 ≤ d ∧ d < 65536) : ∀ k, 0 ≤ hd2 d k ∧ hd2 d k < 65536
  | 0 => h
  | k + 1 => by
    have := hd2_in h k
    show 0 ≤ hd2 d k / 2 ∧ hd2 d k / 2 < 65536
    omega
theorem bitT_true [Val] {d : Int} (hd : 0 ≤ d ∧ d < 65536) (h4 : ∀ k, k ≤ 16 → Val.I (400 + k) = hd2 d k) (h5 : ∀ k, k < 16 → Val.I (420 + k) = hd2 d k % 2) : ∀ e, e ∈ bitT → TETrue e := by
  intro e he
  obtain ⟨i, hi, he⟩ := List.mem_flatMap.1 he
  have hi := List.mem_range.1 hi
  have hq := hd2_in hd i
  have e0 : cv (sI 400) = .int .i64 d := congrArg (Value.int .i64) (h4 0 (by omega))
  have e1 : cv (sI (400 + i)) = .int .i64 (hd2 d i) := congrArg (Value.int .i64) (h4 i (by omega))
  have e2 : cv (sI (401 + i)) = .int .i64 (hd2 d i / 2) := by
    rw [show 401 + i = 400 + (i + 1) by omega]
    exact congrArg (Value.int .i64) (h4 (i + 1) (by omega))
  have e3 : cv (sI (420 + i)) = .int .i64 (hd2 d i % 2) := congrArg (Value.int .i64) (h5 i hi)
  refine (fa ?_ (fa ?_ (fa ?_ (fa ?_ fz)))) e he
  · refine f_shrI e0 (by omega) ?_ rfl
    rw [e1, Int.fdiv_eq_ediv_of_nonneg _ (Int.pow_nonneg (by omega)), hd2_pow]
  · exact f_and1 e1 (by omega) e3 rfl
  · refine f_quo (n := 2) e1 rfl (by omega) ?_ rfl
    rw [e2, Int.tdiv_eq_ediv_of_nonneg hq.1, IntWalk.i64_in (hd2 d i / 2) (by omega)]
  · refine f_rem (n := 2) e1 rfl (by omega) ?_ rfl
    rw [e3, Int.tmod_eq_emod_of_nonneg hq.1]
def snI (sd p n x : Int) (m : Nat) (se se2 : Nat → Int) (d : Int) (k : Nat) : Int :=
  if k = 0 then x else if k = 50 then p else if k = 51 then n else if k = 54 then (m : Int) else if k < 400 then se (k - 300) else if k < 417 then hd2 d (k - 400) else if k < 500 then hd2 d (k - 420) % 2 else if k < 600 then se2 (k - 500) else sd
def snNm (sd p n x : Int) (s : ByteArray) (se se2 : Nat → Int) (d : Int) : Nm := ⟨snI sd p n x s.size se se2 d, fun _ => false, fun _ => s, fun _ => []⟩
abbrev snV (sd p n x : Int) (s : ByteArray) (se se2 : Nat → Int) (d : Int) : Val := (snNm sd p n x s se se2 d).val fun _ => undef
section
variable {sd p n x : Int} {s : ByteArray} {se se2 : Nat → Int} {d : Int}
theorem snI_e (i : Nat) (hi : i < 16) : snI sd p n x s.size se se2 d (300 + i) = se i := by
  unfold snI
  rw [if_neg (by omega), if_neg (by omega), if_neg (by omega), if_neg (by omega), if_pos (by omega), Nat.add_sub_cancel_left]
theorem snI_d (k : Nat) (hk : k ≤ 16) : snI sd p n x s.size se se2 d (400 + k) = hd2 d k := by
  unfold snI
  rw [if_neg (by omega), if_neg (by omega), if_neg (by omega), if_neg (by omega), if_neg (by omega), if_pos (by omega), Nat.add_sub_cancel_left]
theorem snI_b (k : Nat) (hk : k < 16) : snI sd p n x s.size se se2 d (420 + k) = hd2 d k % 2 := by
  unfold snI
  rw [if_neg (by omega), if_neg (by omega), if_neg (by omega), if_neg (by omega), if_neg (by omega), if_neg (by omega), if_pos (by omega), Nat.add_sub_cancel_left]
theorem snI_2 (k : Nat) (hk : k < 16) : snI sd p n x s.size se se2 d (500 + k) = se2 k := by
  unfold snI
  rw [if_neg (by omega), if_neg (by omega), if_neg (by omega), if_neg (by omega), if_neg (by omega), if_neg (by omega), if_neg (by omega), if_pos (by omega), Nat.add_sub_cancel_left]
theorem s50 : @cv (snV sd p n x s se se2 d) (sI 50) = .int .i64 p := congrArg (Value.int .i64) (show snI sd p n x s.size se se2 d 50 = p by simp [snI])
theorem s51 : @cv (snV sd p n x s se se2 d) (sI 51) = .int .i64 n := congrArg (Value.int .i64) (show snI sd p n x s.size se se2 d 51 = n by simp [snI])
theorem s54 : @cv (snV sd p n x s se se2 d) (sI 54) = .int .i64 (s.size : Int) := congrArg (Value.int .i64) (show snI sd p n x s.size se se2 d 54 = (s.size : Int) by simp [snI])
theorem s600 : @cv (snV sd p n x s se se2 d) (sU 600) = .int .u64 sd := congrArg (Value.int .u64) (show snI sd p n x s.size se se2 d 600 = sd by simp [snI])
theorem s400 : @cv (snV sd p n x s se se2 d) (sI 400) = .int .i64 d := congrArg (Value.int .i64) (show snI sd p n x s.size se se2 d 400 = d from snI_d 0 (by omega))
/-- An entry whose cells bear names. -/
theorem sn_ent (b : Nat) (f : Nat → Int) (hb : ∀ i, i < 16 → snI sd p n x s.size se se2 d (b + i) = f i) : @cv1 (snV sd p n x s se se2 d) (.agg ([sI 50, sI 51, sU 0, sT 1] ++ (List.range 16).map fun i => sU (b + i))) = entVal p n x s f := by
  show Value.agg ((([sI 50, sI 51, sU 0, sT 1] : List RV) ++ (List.range 16).map fun i => sU (b + i)).map (@cv (snV sd p n x s se se2 d))).toArray = _
  rw [List.map_append, List.map_map]
  unfold entVal
  have hm : (List.range 16).map ((@cv (snV sd p n x s se se2 d)) ∘ fun i => sU (b + i)) = (List.range 16).map fun i => Value.int .u64 (f i) := List.map_congr_left fun i hi => by
    show Value.int .u64 (snI sd p n x s.size se se2 d (b + i)) = _
    rw [hb i (List.mem_range.1 hi)]
  have h4 : ([sI 50, sI 51, sU 0, sT 1] : List RV).map (@cv (snV sd p n x s se se2 d)) = [.int .i64 p, .int .i64 n, .int .u64 x, .string s] := by
    show [@cv (snV sd p n x s se se2 d) (sI 50), @cv (snV sd p n x s se se2 d) (sI 51), Value.int .u64 x, Value.string s] = _
    rw [s50, s51]
  rw [hm, h4]
theorem sn_old : @cvF (snV sd p n x s se se2 d) entR = entVal p n x s se := sn_ent 300 se snI_e
theorem sn_new : @cv1 (snV sd p n x s se se2 d) senR = entVal p n x s se2 := sn_ent 500 se2 snI_2
theorem ecG_true {c : Nat} (hc : eCls p n s.size = c) : ∀ e, e ∈ ecT c → @TETrue (snV sd p n x s se se2 d) e := by
  intro e he
  obtain ⟨i, hi, he⟩ := List.mem_flatMap.1 he
  subst hc
  have hi : i < Nat.min (eCls p n s.size + 1) 5 := List.mem_range.1 hi
  have h1 : i < eCls p n s.size + 1 := Nat.lt_of_lt_of_le hi (Nat.min_le_left _ _)
  have h2 : i < 5 := Nat.lt_of_lt_of_le hi (Nat.min_le_right _ _)
  have hq : Nat.blt i (eCls p n s.size) = eTest p n s.size i := by
    rcases Nat.lt_or_ge i (eCls p n s.size) with hl | hl
    · rw [firstBad_pass (eTest p n s.size) 5 0 i (Nat.zero_le _) hl]
      exact Nat.ble_eq_true_of_le hl
    · obtain rfl : i = eCls p n s.size := by omega
      rw [show eTest p n s.size (eCls p n s.size) = false from firstBad_fail (eTest p n s.size) 5 0 (by show eCls p n s.size < 0 + 5; omega)]
      have := Nat.lt_irrefl (eCls p n s.size)
      exact Bool.eq_false_iff.2 fun hc => this (Nat.le_of_ble_eq_true hc)
  rw [hq] at he
  have e50 := s50 (sd := sd) (p := p) (n := n) (x := x) (s := s) (se := se) (se2 := se2) (d := d)
  have e51 := s51 (sd := sd) (p := p) (n := n) (x := x) (s := s) (se := se) (se2 := se2) (d := d)
  letI : Val := snV sd p n x s se se2 d
  have key : ∀ e, e ∈ ect i (eTest p n s.size i) → TETrue e := by
    match i, h2 with
    | 0, _ => exact fa (f_geq e50 rfl rfl) fz
    | 1, _ => exact fa (f_leq e50 rfl rfl) (fa (f_lss e50 rfl (decide_eq_decide.2 (by show p < 8 ↔ p ≤ 7; omega))) fz)
    | 2, _ => exact fa (f_geq e51 rfl rfl) fz
    | 3, _ => exact fa (f_leq e51 rfl rfl) (fa (f_lss e51 rfl (decide_eq_decide.2 (by show n < 64 ↔ n ≤ 63; omega))) fz)
    | 4, _ => exact fa (f_len (s := s) rfl s54 rfl) (fa (f_leq s54 rfl (decide_eq_decide.2 (by show (s.size : Int) ≤ 4096 ↔ s.size ≤ 4096; omega))) (fa (f_gtr s54 rfl (by show decide ((s.size : Int) > 4096) = !decide (s.size ≤ 4096); rw [← decide_not]; exact decide_eq_decide.2 (by omega))) fz))
  exact key e he
theorem secY_true (own : Bool) {f : Nat} (hs : ∀ i, i < 16 → Ans f [.int .u64 sd, .int .i64 p, .int .i64 n, .int .i64 ((i : Nat) : Int), .int .i64 (hd2 d i % 2)] (if own then tup2 (.int .u64 (se2 i)) (.int .i64 0) else .int .u64 (se2 i))) :
    ∀ e, e ∈ secY f own → Ans e.f (e.a.map (@cvF (snV sd p n x s se se2 d))) (@cvF (snV sd p n x s se se2 d) e.r) := by
  intro e he
  obtain ⟨i, hi, rfl⟩ := List.mem_map.1 he
  have hi := List.mem_range.1 hi
  have a2 : @cvF (snV sd p n x s se se2 d) (sU (500 + i)) = .int .u64 (se2 i) := congrArg (Value.int .u64) (show snI sd p n x s.size se se2 d (500 + i) = se2 i from snI_2 i hi)
  have ab : @cvF (snV sd p n x s se se2 d) (sI (420 + i)) = .int .i64 (hd2 d i % 2) := congrArg (Value.int .i64) (show snI sd p n x s.size se se2 d (420 + i) = hd2 d i % 2 from snI_b i hi)
  have h := hs i hi
  show Ans f [@cvF (snV sd p n x s se se2 d) (sU 600), @cvF (snV sd p n x s se se2 d) (sI 50), @cvF (snV sd p n x s se se2 d) (sI 51), .int .i64 ((i : Nat) : Int), @cvF (snV sd p n x s se se2 d) (sI (420 + i))] _
  rw [show @cvF (snV sd p n x s se se2 d) (sU 600) = _ from s600, show @cvF (snV sd p n x s se se2 d) (sI 50) = _ from s50, show @cvF (snV sd p n x s se se2 d) (sI 51) = _ from s51, ab]
  cases own
  · show Ans f _ (@cvF (snV sd p n x s se se2 d) (sU (500 + i)))
    rw [a2]
    exact h
  · show Ans f _ (tup2 (@cvF (snV sd p n x s se se2 d) (sU (500 + i))) (.int .i64 0))
    rw [a2]
    exact h
theorem seal_args (w : World) : All2 (@Go.Ri.NVal (snV sd p n x s se se2 d) w) sealD [.int .u64 sd, entVal p n x s se] := by
  have h := @nval_flat (snV sd p n x s se se2 d) w sealD rfl
  have e : sealD.map (@cvF (snV sd p n x s se se2 d)) = [.int .u64 sd, entVal p n x s se] := by
    show [@cvF (snV sd p n x s se se2 d) (sU 600), @cvF (snV sd p n x s se se2 d) entR] = _
    rw [sn_old, show @cvF (snV sd p n x s se se2 d) (sU 600) = _ from s600]
  rw [e] at h
  exact h
end
end Go.Proofs.Z

namespace Go.Proofs.Z
open Go Go.RowKit Go.Proofs Go.Ri Go.Proofs.Z.Fa
/-! Seal of both packages: its contract. -/
def slF (q : Bool) : Nat := if q then fSealB else fRSeal
theorem senR_flat : flat (.tup [senR, lI 0]) = true := by kernel_rfl
theorem zenR_flat : flat (.tup [zenR, lI 81]) = true := by kernel_rfl
def zenVal : Value := entVal 0 0 0 ⟨#[]⟩ fun _ => 0
theorem zen_cv [Val] : cv1 zenR = zenVal := by
  show Value.agg ((([lI 0, lI 0, lU 0, lT []] : List RV) ++ (List.range 16).map fun _ => lU 0).map cv).toArray = Value.agg (([.int .i64 0, .int .i64 0, .int .u64 0, .string ⟨#[]⟩] : List Value) ++ (List.range 16).map fun _ => Value.int .u64 0).toArray
  rw [List.map_append, List.map_map]
  rfl
theorem seal_core (q : Bool) {sd p n x : Int} {s : ByteArray} {se se2 : Nat → Int} {d : Int} (hc : eCls p n s.size = 5) (hd : 0 ≤ d ∧ d < 65536) (hD : Ans fDigest [entVal p n x s se] (tup2 (.int .i64 d) (.int .i64 0))) (hR : Ans fRDigest0 [entVal p n x s se] (.int .i64 d))
    (hs : ∀ i, i < 16 → Ans fSec [.int .u64 sd, .int .i64 p, .int .i64 n, .int .i64 ((i : Nat) : Int), .int .i64 (hd2 d i % 2)] (tup2 (.int .u64 (se2 i)) (.int .i64 0)))
    (hl : ∀ i, i < 16 → Ans fSecL [.int .u64 sd, .int .i64 p, .int .i64 n, .int .i64 ((i : Nat) : Int), .int .i64 (hd2 d i % 2)] (.int .u64 (se2 i))) :
    Ans (slF q) [.int .u64 sd, entVal p n x s se] (tup2 (entVal p n x s se2) (.int .i64 0)) := by
  have hB := @bitT_true (snV sd p n x s se se2 d) d hd snI_d snI_b
  have hE := ecG_true (sd := sd) (x := x) (se := se) (se2 := se2) (d := d) hc
  have hold := sn_old (sd := sd) (p := p) (n := n) (x := x) (s := s) (se := se) (se2 := se2) (d := d)
  have hv : @cvF (snV sd p n x s se se2 d) (.tup [senR, lI 0]) = tup2 (entVal p n x s se2) (.int .i64 0) := congrArg (fun z => Value.tuple #[z, .int .i64 0]) sn_new
  have hS : @Holds sealS (snV sd p n x s se se2 d) (snV sd p n x s se se2 d) := by
    refine holds_all (fapp (fa ⟨.i64, p, s50, show snI sd p n x s.size se se2 d 50 = p by simp [snI]⟩ (fa ⟨.i64, n, s51, show snI sd p n x s.size se se2 d 51 = n by simp [snI]⟩ (fa ⟨.u64, x, rfl, rfl⟩ (fa ⟨s, rfl, rfl⟩ fz)))) ?_)
    intro e he
    obtain ⟨i, hi, rfl⟩ := List.mem_map.1 he
    have hi := List.mem_range.1 hi
    exact ⟨.u64, se2 i, congrArg (Value.int .u64) (show snI sd p n x s.size se se2 d (500 + i) = se2 i from snI_2 i hi), snI_2 i hi⟩
  cases q
  · have ht : @TbOK (snV sd p n x s se se2 d) slB := by
      have y : Ans fRDigest0 ([entR].map (@cvF (snV sd p n x s se se2 d))) (@cvF (snV sd p n x s se se2 d) (sI 400)) := by
        show Ans fRDigest0 [@cvF (snV sd p n x s se se2 d) entR] _
        rw [hold, show @cvF (snV sd p n x s se se2 d) (sI 400) = .int .i64 d from s400]
        exact hR
      have hY := secY_true (sd := sd) (p := p) (n := n) (x := x) (s := s) (se := se) (se2 := se2) (d := d) false hl
      letI : Val := snV sd p n x s se se2 d
      exact { T := fapp hE hB, Y := fa y hY }
    exact done_val _ ht seal_b rfl hS senR_flat hv seal_args
  · have ht : @TbOK (snV sd p n x s se se2 d) slA := by
      have y : Ans fDigest ([entR].map (@cvF (snV sd p n x s se se2 d))) (@cvF (snV sd p n x s se se2 d) (.tup [sI 400, lI 0])) := by
        show Ans fDigest [@cvF (snV sd p n x s se se2 d) entR] (tup2 (@cvF (snV sd p n x s se se2 d) (sI 400)) (.int .i64 0))
        rw [hold, show @cvF (snV sd p n x s se se2 d) (sI 400) = .int .i64 d from s400]
        exact hD
      have hY := secY_true (sd := sd) (p := p) (n := n) (x := x) (s := s) (se := se) (se2 := se2) (d := d) true hs
      letI : Val := snV sd p n x s se se2 d
      exact { T := hB, Y := fa y hY }
    exact done_val _ ht seal_a rfl hS senR_flat hv seal_args
theorem digM_in (p n x : Int) (s : ByteArray) : 0 ≤ digM p n x s ∧ digM p n x s < 65536 := by
  rw [digM_is]
  omega
/-- The secrets of a seal. -/
def sealM (sd p n x : Int) (s : ByteArray) (i : Nat) : Int := secretM sd p n ((i : Nat) : Int) (hd2 (digM p n x s) i % 2)
theorem bit_cls {p n : Int} {m : Nat} (hc : eCls p n m = 5) {i : Nat} (hi : i < 16) (d : Int) : secCls p n ((i : Nat) : Int) (d % 2) = 8 := by
  obtain ⟨a, b, c, e, _⟩ := eCls_in hc
  refine cls_iff.2 ⟨a, b, c, e, ?_, ?_, ?_, ?_⟩ <;> omega
theorem seal_ok (q : Bool) {sd p n x : Int} {s : ByteArray} {se : Nat → Int} (hc : eCls p n s.size = 5) (hx : 0 ≤ x ∧ x < 18446744073709551616) (hsd : 0 ≤ sd ∧ sd < 18446744073709551616) : Ans (slF q) [.int .u64 sd, entVal p n x s se] (tup2 (entVal p n x s (sealM sd p n x s)) (.int .i64 0)) := by
  have hD := @digest_ans true p n x s se hx
  rw [show digV p n x s = digM p n x s from if_neg (by omega), show digE p n s.size = 0 from if_neg (by omega)] at hD
  refine seal_core q hc (digM_in p n x s) hD (dig0_ans false hc hx) (fun i hi => ?_) fun i hi => secl_ans hsd.1 hsd.2 (bit_cls hc hi _)
  have h8 := bit_cls hc hi (hd2 (digM p n x s) i)
  have h := @secret_ans true sd p n ((i : Nat) : Int) (hd2 (digM p n x s) i % 2) hsd.1 hsd.2
  rw [show secV sd p n ((i : Nat) : Int) (hd2 (digM p n x s) i % 2) = secretM sd p n ((i : Nat) : Int) (hd2 (digM p n x s) i % 2) from if_neg (by omega), show secE p n ((i : Nat) : Int) (hd2 (digM p n x s) i % 2) = 0 from if_neg (by omega)] at h
  exact h
theorem seal_bad (q : Bool) {sd p n x : Int} {s : ByteArray} {se : Nat → Int} (hc : eCls p n s.size < 5) (hx : 0 ≤ x ∧ x < 18446744073709551616) : Ans (slF q) [.int .u64 sd, entVal p n x s se] (tup2 zenVal (.int .i64 81)) := by
  have hk := allU_lt seal_no _ hc
  simp only [Bool.and_eq_true] at hk
  have hv : ∀ V : Val, @cvF V (.tup [zenR, lI 81]) = tup2 zenVal (.int .i64 81) := fun V => congrArg (fun z => Value.tuple #[z, .int .i64 81]) (@zen_cv V)
  cases q
  · have ht : @TbOK (snV sd p n x s se se 0) { T := ecT (eCls p n s.size) } := by
      have hE := ecG_true (sd := sd) (x := x) (se := se) (se2 := se) (d := 0) (rfl : eCls p n s.size = eCls p n s.size)
      letI : Val := snV sd p n x s se se 0
      exact { T := hE }
    exact done_val _ ht hk.2 rfl (holds_all fz) zenR_flat (hv _) seal_args
  · have ht : @TbOK (snV sd p n x s se se 0) { Y := [⟨fDigest, [entR], .tup [lI 0, lI 81]⟩] } := by
      have y : Ans fDigest ([entR].map (@cvF (snV sd p n x s se se 0))) (@cvF (snV sd p n x s se se 0) (.tup [lI 0, lI 81])) := by
        show Ans fDigest [@cvF (snV sd p n x s se se 0) entR] (tup2 (.int .i64 0) (.int .i64 81))
        rw [sn_old]
        have hD := @digest_ans true p n x s se hx
        rw [show digV p n x s = 0 from if_pos hc, show digE p n s.size = 81 from if_pos hc] at hD
        exact hD
      letI : Val := snV sd p n x s se se 0
      exact { Y := fa y fz }
    exact done_val _ ht hk.1 rfl (holds_all fz) zenR_flat (hv _) seal_args
end Go.Proofs.Z
