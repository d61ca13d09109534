/- A part of the proofs that the laws of layer eight answer true for every input. -/
import Derived.Test.YtjeikabpnplogaaZBR
namespace Go.Proofs.Z
open Go Go.RowKit Go.Proofs Go.Ri Go.Proofs.Z.Fa
/-! Verify of both packages: runs. 200 to 231 a stick, 700 the image of a secret. -/
abbrev fVerB : Nat := 26
abbrev fRVerify : Nat := 27
abbrev fFits : Nat := 74
def stkC : List RV := (List.range 32).map fun i => sU (200 + i)
def selC : List RV := (List.range 16).map fun i => sU (300 + i)
noncomputable def vp (k : Nat) : St := ⟨patW [(2, .ptr 0 0), (5, sI 400), (18, .agg selC), (19, lI (k : Nat))] 35 0, [some (.cells stkC 30 false false)]⟩
noncomputable def fp (k : Nat) : St := ⟨patW [(2, .ptr 0 0), (3, .ptr 1 0), (5, sI 400), (6, lI (k : Nat))] 27 0, [some (.cells stkC 30 false false), some (.cells ([sI 50, sI 51, sU 0, sT 1] ++ selC) 38 false false)]⟩
def vS : List SE := [.int 400 (sI 400), .int 50 (sI 50), .int 51 (sI 51), .int 0 (sU 0), .str 1 (sT 1)] ++ ((List.range 32).map fun i => .int (200 + i) (sU (200 + i))) ++ ((List.range 16).map fun i => .int (300 + i) (sU (300 + i)))
def vT (k v : Nat) (b : Bool) : List TE := [⟨.bin .and, sI (400 + k), lI 1, lI (v : Nat)⟩, ⟨.bin .rem, sI (400 + k), lI 2, lI (v : Nat)⟩, ⟨.ieq, sU 700, sU (200 + (2 * k + v)), bR b⟩] ++ bitT
noncomputable def vA (k v : Nat) (b : Bool) : Tb := { T := vT k v b, Y := [⟨fImg, [sU (300 + k)], sU 700⟩, ⟨fRImage, [sU (300 + k)], sU 700⟩] }
noncomputable def vE : Tb := { Y := [⟨fDigest, [entR], .tup [sI 400, lI 0]⟩, ⟨fRDigest0, [entR], sI 400⟩] }
set_option maxRecDepth 100000 in
theorem v_enter : atH (entN vE [] fVerB [stkR, entR]) fVerB 0 vS [0] (vp 0) = true := by kernel_rfl
set_option maxRecDepth 100000 in
theorem v_again : (allU 16 fun k => allU 2 fun v => atH (fromH (vA k v true) [] fVerB 0 (vp k)) fVerB 0 vS [0] (vp (k + 1))) = true := by kernel_rfl
set_option maxRecDepth 100000 in
theorem v_bad : (allU 16 fun k => allU 2 fun v => endF (vA k v false) fVerB (fromH (vA k v false) [] fVerB 0 (vp k)) (lI 82)) = true := by kernel_rfl
set_option maxRecDepth 100000 in
theorem v_end : endF {} fVerB (fromH {} [] fVerB 0 (vp 16)) (lI 0) = true := by kernel_rfl
set_option maxRecDepth 100000 in
theorem v_no : doneQ { Y := [⟨fDigest, [entR], .tup [lI 0, lI 81]⟩] } [] fVerB [stkR, entR] [] [] (lI 81) [] = true := by kernel_rfl
set_option maxRecDepth 100000 in
theorem f_enter : atH (entN vE [] fFits [stkR, entR]) fFits 0 vS [0, 1] (fp 0) = true := by kernel_rfl
set_option maxRecDepth 100000 in
theorem f_again : (allU 16 fun k => allU 2 fun v => atH (fromH (vA k v true) [] fFits 0 (fp k)) fFits 0 vS [0, 1] (fp (k + 1))) = true := by kernel_rfl
set_option maxRecDepth 100000 in
theorem f_bad : (allU 16 fun k => allU 2 fun v => endF (vA k v false) fFits (fromH (vA k v false) [] fFits 0 (fp k)) (bR false)) = true := by kernel_rfl
set_option maxRecDepth 100000 in
theorem f_end : endF {} fFits (fromH {} [] fFits 0 (fp 16)) (bR true) = true := by kernel_rfl
set_option maxRecDepth 100000 in
theorem rv_no : (allU 5 fun m => doneQ { T := ecT m } [] fRVerify [stkR, entR] [] [] (lI 81) []) = true := by kernel_rfl
set_option maxRecDepth 100000 in
theorem rv_ok : (all2 fun b => doneQ { T := ecT 5, Y := [⟨fFits, [stkR, entR], bR b⟩] } [] fRVerify [stkR, entR] [] [] (lI (if b then 0 else 82)) []) = true := by kernel_rfl
end Go.Proofs.Z

namespace Go.Proofs.Z
open Go Go.RowKit Go.Proofs Go.Ri Go.Proofs.Z.Fa
/-! Verify of both packages: contracts. -/
theorem ecAny [Val] {p n : Int} {s : ByteArray} (e50 : cv (sI 50) = .int .i64 p) (e51 : cv (sI 51) = .int .i64 n) (e54 : cv (sI 54) = .int .i64 (s.size : Int)) (h1 : cv (sT 1) = .string s) {c : Nat} (hc : eCls p n s.size = c) : ∀ e, e ∈ ecT c → TETrue e := by
  intro e he
  obtain ⟨i, hi, he⟩ := List.mem_flatMap.1 he
  subst hc
  have hi : i < Nat.min (eCls p n s.size + 1) 5 := List.mem_range.1 hi
  have g1 : i < eCls p n s.size + 1 := Nat.lt_of_lt_of_le hi (Nat.min_le_left _ _)
  have h2 : i < 5 := Nat.lt_of_lt_of_le hi (Nat.min_le_right _ _)
  have hq : Nat.blt i (eCls p n s.size) = eTest p n s.size i := by
    rcases Nat.lt_or_ge i (eCls p n s.size) with hl | hl
    · rw [firstBad_pass (eTest p n s.size) 5 0 i (Nat.zero_le _) hl]
      exact Nat.ble_eq_true_of_le hl
    · obtain rfl : i = eCls p n s.size := by omega
      rw [show eTest p n s.size (eCls p n s.size) = false from firstBad_fail (eTest p n s.size) 5 0 (by show eCls p n s.size < 0 + 5; omega)]
      have := Nat.lt_irrefl (eCls p n s.size)
      exact Bool.eq_false_iff.2 fun hc => this (Nat.le_of_ble_eq_true hc)
  rw [hq] at he
  have key : ∀ e, e ∈ ect i (eTest p n s.size i) → TETrue e := by
    match i, h2 with
    | 0, _ => exact fa (f_geq e50 rfl rfl) fz
    | 1, _ => exact fa (f_leq e50 rfl rfl) (fa (f_lss e50 rfl (decide_eq_decide.2 (by show p < 8 ↔ p ≤ 7; omega))) fz)
    | 2, _ => exact fa (f_geq e51 rfl rfl) fz
    | 3, _ => exact fa (f_leq e51 rfl rfl) (fa (f_lss e51 rfl (decide_eq_decide.2 (by show n < 64 ↔ n ≤ 63; omega))) fz)
    | 4, _ => exact fa (f_len (s := s) h1 e54 rfl) (fa (f_leq e54 rfl (decide_eq_decide.2 (by show (s.size : Int) ≤ 4096 ↔ s.size ≤ 4096; omega))) (fa (f_gtr e54 rfl (by show decide ((s.size : Int) > 4096) = !decide (s.size ≤ 4096); rw [← decide_not]; exact decide_eq_decide.2 (by omega))) fz))
  exact key e he
def vI (st : Nat → Int) (im : Int) (p n x : Int) (m : Nat) (se : Nat → Int) (d : Int) (k : Nat) : Int := if k = 700 then im else if 200 ≤ k ∧ k < 232 then st (k - 200) else snI 0 p n x m se se d k
def vNm (st : Nat → Int) (im : Int) (p n x : Int) (s : ByteArray) (se : Nat → Int) (d : Int) : Nm := ⟨vI st im p n x s.size se d, fun _ => false, fun _ => s, fun _ => []⟩
abbrev vV (st : Nat → Int) (im : Int) (p n x : Int) (s : ByteArray) (se : Nat → Int) (d : Int) : Val := (vNm st im p n x s se d).val fun _ => undef
section
variable {st : Nat → Int} {im p n x : Int} {s : ByteArray} {se : Nat → Int} {d : Int}
theorem vI_o (k : Nat) (h1 : k ≠ 700) (h2 : k < 200 ∨ 232 ≤ k) : vI st im p n x s.size se d k = snI 0 p n x s.size se se d k := by
  unfold vI
  rw [if_neg h1, if_neg (by omega)]
theorem vI_st (i : Nat) (hi : i < 32) : vI st im p n x s.size se d (200 + i) = st i := by
  unfold vI
  rw [if_neg (by omega), if_pos (by omega), Nat.add_sub_cancel_left]
theorem vI_se (i : Nat) (hi : i < 16) : vI st im p n x s.size se d (300 + i) = se i := by
  rw [vI_o _ (by omega) (by omega), snI_e i hi]
theorem vI_d (k : Nat) (hk : k ≤ 16) : vI st im p n x s.size se d (400 + k) = hd2 d k := by
  rw [vI_o _ (by omega) (by omega), snI_d k hk]
theorem vI_b (k : Nat) (hk : k < 16) : vI st im p n x s.size se d (420 + k) = hd2 d k % 2 := by
  rw [vI_o _ (by omega) (by omega), snI_b k hk]
theorem v50 : vI st im p n x s.size se d 50 = p := by rw [vI_o _ (by omega) (by omega)]; simp [snI]
theorem v51 : vI st im p n x s.size se d 51 = n := by rw [vI_o _ (by omega) (by omega)]; simp [snI]
theorem v54 : vI st im p n x s.size se d 54 = (s.size : Int) := by rw [vI_o _ (by omega) (by omega)]; simp [snI]
theorem v0 : vI st im p n x s.size se d 0 = x := by rw [vI_o _ (by omega) (by omega)]; simp [snI]
theorem v700 : vI st im p n x s.size se d 700 = im := by simp [vI]
theorem v_ent : @cvF (vV st im p n x s se d) entR = entVal p n x s se := by
  show Value.agg ((([sI 50, sI 51, sU 0, sT 1] : List RV) ++ (List.range 16).map fun i => sU (300 + i)).map (@cv (vV st im p n x s se d))).toArray = _
  rw [List.map_append, List.map_map]
  unfold entVal
  have hm : (List.range 16).map ((@cv (vV st im p n x s se d)) ∘ fun i => sU (300 + i)) = (List.range 16).map fun i => Value.int .u64 (se i) := List.map_congr_left fun i hi => by
    show Value.int .u64 (vI st im p n x s.size se d (300 + i)) = _
    rw [vI_se i (List.mem_range.1 hi)]
  have h4 : ([sI 50, sI 51, sU 0, sT 1] : List RV).map (@cv (vV st im p n x s se d)) = [.int .i64 p, .int .i64 n, .int .u64 x, .string s] := by
    show [Value.int .i64 (vI st im p n x s.size se d 50), Value.int .i64 (vI st im p n x s.size se d 51), Value.int .u64 (vI st im p n x s.size se d 0), Value.string s] = _
    rw [v50, v51, v0]
  rw [hm, h4]
theorem v_stk : @cvF (vV st im p n x s se d) stkR = stkV st := by
  show Value.agg (((List.range 32).map fun i => sU (200 + i)).map (@cv (vV st im p n x s se d))).toArray = Value.agg ((List.range 32).map fun i => Value.int .u64 (st i)).toArray
  rw [List.map_map]
  exact congrArg (fun l : List Value => Value.agg l.toArray) (List.map_congr_left fun i hi => congrArg (Value.int .u64) (show vI st im p n x s.size se d (200 + i) = st i from vI_st i (List.mem_range.1 hi)))
theorem v_args (w : World) : All2 (@Go.Ri.NVal (vV st im p n x s se d) w) [stkR, entR] [stkV st, entVal p n x s se] := by
  have h := @nval_flat (vV st im p n x s se d) w [stkR, entR] rfl
  have e : [stkR, entR].map (@cvF (vV st im p n x s se d)) = [stkV st, entVal p n x s se] := by
    show [@cvF (vV st im p n x s se d) stkR, @cvF (vV st im p n x s se d) entR] = _
    rw [v_stk, v_ent]
  rw [e] at h
  exact h
theorem vS_ok {im' : Int} {W W' : Nat → Value} : ∀ e, e ∈ vS → okSE ((vNm st im p n x s se d).val W) ((vNm st im' p n x s se d).val W') e := by
  refine fapp (fapp (fa ⟨.i64, d, congrArg (Value.int .i64) (show vI st im p n x s.size se d 400 = d from vI_d 0 (by omega)), show vI st im' p n x s.size se d 400 = d from vI_d 0 (by omega)⟩ (fa ⟨.i64, p, congrArg (Value.int .i64) (show vI st im p n x s.size se d 50 = p from v50), show vI st im' p n x s.size se d 50 = p from v50⟩ (fa ⟨.i64, n, congrArg (Value.int .i64) (show vI st im p n x s.size se d 51 = n from v51), show vI st im' p n x s.size se d 51 = n from v51⟩ (fa ⟨.u64, x, congrArg (Value.int .u64) (show vI st im p n x s.size se d 0 = x from v0), show vI st im' p n x s.size se d 0 = x from v0⟩ (fa ⟨s, rfl, rfl⟩ fz))))) ?_) ?_
  · intro e he
    obtain ⟨i, hi, rfl⟩ := List.mem_map.1 he
    have hi := List.mem_range.1 hi
    exact ⟨.u64, st i, congrArg (Value.int .u64) (show vI st im p n x s.size se d (200 + i) = st i from vI_st i hi), show vI st im' p n x s.size se d (200 + i) = st i from vI_st i hi⟩
  · intro e he
    obtain ⟨i, hi, rfl⟩ := List.mem_map.1 he
    have hi := List.mem_range.1 hi
    exact ⟨.u64, se i, congrArg (Value.int .u64) (show vI st im p n x s.size se d (300 + i) = se i from vI_se i hi), show vI st im' p n x s.size se d (300 + i) = se i from vI_se i hi⟩
theorem vA_ok (hd : 0 ≤ d ∧ d < 65536) {k v : Nat} {b : Bool} (hk : k < 16) (hv : hd2 d k % 2 = (v : Int)) (hb : (im == st (2 * k + v)) = b) (hi : ∀ q, Ans (imF q) [.int .u64 (se k)] (.int .u64 im)) (W : Nat → Value) : @TbOK ((vNm st im p n x s se d).val W) (vA k v b) := by
  have hB := @bitT_true ((vNm st im p n x s se d).val W) d hd vI_d vI_b
  have hq := hd2_in hd k
  have hv2 : v < 2 := by omega
  letI : Val := (vNm st im p n x s se d).val W
  have e4 : cv (sI (400 + k)) = .int .i64 (hd2 d k) := congrArg (Value.int .i64) (show vI st im p n x s.size se d (400 + k) = hd2 d k from vI_d k (by omega))
  have e7 : cv (sU 700) = .int .u64 im := congrArg (Value.int .u64) (show vI st im p n x s.size se d 700 = im from v700)
  have e2 : cv (sU (200 + (2 * k + v))) = .int .u64 (st (2 * k + v)) := congrArg (Value.int .u64) (show vI st im p n x s.size se d (200 + (2 * k + v)) = st (2 * k + v) from vI_st _ (by omega))
  have y : ∀ q, Ans (imF q) [cvF (sU (300 + k))] (cvF (sU 700)) := fun q => by
    rw [show cvF (sU (300 + k)) = .int .u64 (se k) from congrArg (Value.int .u64) (show vI st im p n x s.size se d (300 + k) = se k from vI_se k hk), show cvF (sU 700) = .int .u64 im from e7]
    exact hi q
  exact { T := fapp (fa (f_and1 e4 (by omega) (by rw [hv]; rfl) rfl) (fa (f_rem (n := 2) e4 rfl (by omega) (by rw [Int.tmod_eq_emod_of_nonneg hq.1, hv]; rfl) rfl) (fa (f_ieq e7 e2 hb) fz))) hB, Y := fa (y true) (fa (y false) fz) }
end
end Go.Proofs.Z
