/- A part of the proofs that the laws of layer one answer true for every input. -/
import Derived.Test.YtedbdpaioikhgaaDoorZBt5
namespace Go.Proofs.Z
open Go Go.RowKit Go.Proofs Go.Ri
/-! The law EarBuilt: the second loop. -/
section
variable (x : Nat → Int) (y : Nat → Bool) (lv tu : List Value)
/-- How a round of the second loop cuts. -/
def cut (k r : Nat) : Nat := if k = 0 then (if r = 1 then 3 else 0) else (if k + 1 = r then 2 else 1)
theorem cut_lt (k r : Nat) : cut k r < 4 := by
  unfold cut
  split
  · split <;> omega
  · split <;> omega
theorem cs_nil {s : Nat → Int} {ps : List Nat} (h : ps ≠ []) : cs s ps ≠ [] := by
  intro e
  have := cs_len s ps
  rw [e] at this
  have h2 : ps.length ≠ 0 := by
    intro e2
    exact h (List.eq_nil_of_length_eq_zero e2)
  simp at this
  omega
theorem tb2_ok (htu : u8s tu) (tn : Bool) (htn : tn = true → tu = []) (kept mixed rest : List Nat) (hr : rest ≠ []) (hm : mixed.length + rest.length ≤ 12) (W : Nat → Value) : @TbOK ((N2 x y lv tu kept mixed rest).val W) (tb2 (cut ((tvO tu mixed.length).toNat % rest.length) rest.length) tn) := by
  letI : Val := (N2 x y lv tu kept mixed rest).val W
  have hl : 0 < rest.length := by
    cases rest with
    | nil => exact absurd rfl hr
    | cons a b => simp
  obtain ⟨v0, v1⟩ := tvO_rng tu htu mixed.length
  have hk : (tvO tu mixed.length).toNat % rest.length < rest.length := Nat.mod_lt _ hl
  have hcell := c4_N2 x y lv tu kept mixed rest W
  have hmod : tvO tu mixed.length % (rest.length : Int) = (((tvO tu mixed.length).toNat % rest.length : Nat) : Int) := by
    rw [Int.natCast_emod, Int.toNat_of_nonneg v0]
  generalize hkk : (tvO tu mixed.length).toNat % rest.length = k at hk hcell hmod
  have e153 : Val.I 153 = (k : Int) := congrArg Int.ofNat hkk
  have e156 : Val.I 156 = ((k + 1 : Nat) : Int) := congrArg (fun k : Nat => ((k + 1 : Nat) : Int)) hkk
  have e9 : Val.L 9 = cs (shp x y) (rest.take k) := congrArg (fun k => cs (shp x y) (rest.take k)) hkk
  have e10 : Val.L 10 = cs (shp x y) (rest.drop (k + 1)) := congrArg (fun k => cs (shp x y) (rest.drop (k + 1))) hkk
  have e11 : Val.L 11 = cs (shp x y) (rest.take k ++ rest.drop (k + 1)) := congrArg (fun k => cs (shp x y) (rest.take k ++ rest.drop (k + 1))) hkk
  have e8 : Val.L 8 = cs (shp x y) mixed ++ featC (rest.getD k 0) (shp x y (rest.getD k 0)) := congrArg (fun k => cs (shp x y) mixed ++ featC (rest.getD k 0) (shp x y (rest.getD k 0))) hkk
  have h9 : k ≠ 0 → rest.take k ≠ [] := fun h e => by
    have : (rest.take k).length = 0 := by rw [e]; rfl
    rw [List.length_take] at this
    omega
  have h10 : k + 1 ≠ rest.length → rest.drop (k + 1) ≠ [] := fun h e => by
    have : (rest.drop (k + 1)).length = 0 := by rw [e]; rfl
    rw [List.length_drop] at this
    omega
  have sm : ∀ ps : List Nat, ps.length ≤ 12 → (cs (shp x y) ps).length ≤ 1000000 := fun ps h => by rw [cs_len]; omega
  have b9 : k ≠ 0 → LBTrue ⟨none, 9, 9⟩ := fun h => ⟨by show Val.L 9 ≠ []; rw [e9]; exact cs_nil (h9 h), rfl, by show (Val.L 9).length ≤ _; rw [e9]; exact sm _ (by rw [List.length_take]; omega), by show ∀ v, v ∈ Val.L 9 → _; rw [e9]; exact cs_one _ _⟩
  have b10 : k + 1 ≠ rest.length → LBTrue ⟨none, 10, 10⟩ := fun h => ⟨by show Val.L 10 ≠ []; rw [e10]; exact cs_nil (h10 h), rfl, by show (Val.L 10).length ≤ _; rw [e10]; exact sm _ (by rw [List.length_drop]; omega), by show ∀ v, v ∈ Val.L 10 → _; rw [e10]; exact cs_one _ _⟩
  have b11 : k + 1 ≠ rest.length → LBTrue ⟨some 9, 10, 11⟩ := fun h => ⟨by show Val.L 10 ≠ []; rw [e10]; exact cs_nil (h10 h), by show Val.L 11 = Val.L 9 ++ Val.L 10; rw [e9, e10, e11, cs_app], by show (Val.L 11).length ≤ _; rw [e11]; exact sm _ (by rw [List.length_append, List.length_take, List.length_drop]; omega), by show ∀ v, v ∈ Val.L 11 → _; rw [e11]; exact cs_one _ _⟩
  have z9 : k = 0 → Val.L 9 = [] := fun h => by rw [e9, h, List.take_zero]; rfl
  have z10 : k + 1 = rest.length → Val.L 10 = [] := fun h => by rw [e10, h, List.drop_length]; rfl
  refine { T := ?_, LL := ?_, LX := ?_, LA := ?_, C := ?_, LP := ?_, LB := ?_, LZ := ?_ }
  · intro e he
    simp only [tb2, t2s, List.mem_cons] at he
    rcases he with rfl | rfl | rfl | rfl | he
    · exact te_gt (m := (rest.length : Int)) (n := 0) true rfl rfl (by simp; omega)
    · refine te_inb 153 152 true ?_
      rw [e153]
      show decide (0 ≤ (k : Int) ∧ (k : Int) < (rest.length : Int)) = true
      simp [hk]
    · exact te_add1 153 156 k e153 (e156.trans (by omega)) (by omega) (by omega)
    · exact te_add1 100 106 mixed.length rfl rfl (by omega) (by omega)
    · split at he
      · rename_i h
        have h0 := htn h
        have ht0 : tvO tu mixed.length = 0 := by unfold tvO; rw [h0, if_neg (by simp)]
        simp only [List.mem_cons, List.not_mem_nil, or_false] at he
        rcases he with rfl | rfl
        · exact te_l (m := (mixed.length : Int)) (n := 0) false rfl rfl (by simp)
        · refine te_r (m := 0) (n := (rest.length : Int)) (r := (k : Int)) rfl rfl (congrArg (Value.int .i64) e153) rfl (by omega) (by omega) ?_
          rw [← hmod, ht0]
      · simp only [List.mem_cons, List.not_mem_nil, or_false] at he
        rcases he with rfl | rfl
        · refine ⟨rfl, .u8, tvO tu mixed.length, rfl, ?_⟩
          show Value.int .i64 (tvO tu mixed.length) = _
          rw [IntWalk.i64_in _ (by omega)]
        · exact te_r (m := tvO tu mixed.length) (n := (rest.length : Int)) (r := (k : Int)) rfl rfl (congrArg (Value.int .i64) e153) rfl v0 (by omega) hmod
  · intro e he
    simp only [tb2, List.mem_cons, List.not_mem_nil, or_false] at he
    subst he
    exact ⟨rfl, rest.length, by decide, cs_len _ _, rfl⟩
  · intro e he
    simp only [tb2, List.mem_cons, List.not_mem_nil, or_false] at he
    subst he
    refine ⟨rfl, ?_, ?_⟩
    · show (Val.I 153).toNat * 4 + 4 ≤ (cs (shp x y) rest).length
      rw [e153, cs_len, Int.toNat_natCast]
      omega
    · show ((cs (shp x y) rest).drop ((Val.I 153).toNat * 4)).take 4 = c4.map cv
      rw [e153, Int.toNat_natCast, hcell]
      exact cs_row (shp x y) rest k hk
  · intro e he
    simp only [tb2, List.mem_cons, List.not_mem_nil, or_false] at he
    subst he
    refine ⟨?_, ?_, ?_⟩
    · show Val.L 8 = cs (shp x y) mixed ++ c4.map cv
      rw [hcell, e8]
    · show (Val.L 8).length ≤ _
      rw [e8, List.length_append, cs_len, featC_len]
      omega
    · exact cs_one _ _
  · intro e he
    simp only [tb2] at he
    split at he
    · cases he
    · simp only [List.mem_cons, List.not_mem_nil, or_false] at he
      subst he
      exact at_ans tu htu _ mixed.length rfl rfl
  · intro e he
    simp only [tb2, List.mem_cons, List.not_mem_nil, or_false] at he
    rcases he with rfl | rfl
    · refine ⟨rest.length, 0, k, cs_len _ _, rfl, ⟨rfl, .i64, congrArg (Value.int .i64) e153⟩, Nat.zero_le _, by omega, rfl, ?_⟩
      show Val.L 9 = ((cs (shp x y) rest).drop (0 * 4)).take ((k - 0) * 4)
      rw [e9, Nat.zero_mul, List.drop_zero, Nat.sub_zero, cs_take]
    · refine ⟨rest.length, k + 1, rest.length, cs_len _ _, ⟨rfl, .i64, congrArg (Value.int .i64) e156⟩, rfl, by omega, Nat.le_refl _, ?_, ?_⟩
      · show (Val.I 156).toNat = k + 1
        rw [e156, Int.toNat_natCast]
      · show Val.L 10 = ((cs (shp x y) rest).drop ((k + 1) * 4)).take ((rest.length - (k + 1)) * 4)
        rw [e10, cs_drop, List.take_of_length_le (by rw [cs_len, List.length_drop]; omega)]
  · intro e he
    replace he : e ∈ lb2 (cut k rest.length) := he
    by_cases hk0 : k = 0
    · by_cases hr1 : rest.length = 1
      · rw [show cut k rest.length = 3 by unfold cut; rw [if_pos hk0, if_pos hr1]] at he
        cases he
      · rw [show cut k rest.length = 0 by unfold cut; rw [if_pos hk0, if_neg hr1]] at he
        obtain rfl : e = ⟨none, 10, 10⟩ := List.mem_singleton.1 he
        exact b10 (by omega)
    · by_cases hr1 : k + 1 = rest.length
      · rw [show cut k rest.length = 2 by unfold cut; rw [if_neg hk0, if_pos hr1]] at he
        obtain rfl : e = ⟨none, 9, 9⟩ := List.mem_singleton.1 he
        exact b9 hk0
      · rw [show cut k rest.length = 1 by unfold cut; rw [if_neg hk0, if_neg hr1]] at he
        replace he : e ∈ ([⟨none, 9, 9⟩, ⟨some 9, 10, 11⟩] : List LBE) := he
        simp only [List.mem_cons, List.not_mem_nil, or_false] at he
        rcases he with rfl | rfl
        · exact b9 hk0
        · exact b11 hr1
  · intro j hj
    replace hj : j ∈ lz2 (cut k rest.length) := hj
    by_cases hk0 : k = 0
    · by_cases hr1 : rest.length = 1
      · rw [show cut k rest.length = 3 by unfold cut; rw [if_pos hk0, if_pos hr1]] at hj
        replace hj : j ∈ [9, 10] := hj
        simp only [List.mem_cons, List.not_mem_nil, or_false] at hj
        rcases hj with rfl | rfl
        · exact z9 hk0
        · exact z10 (by omega)
      · rw [show cut k rest.length = 0 by unfold cut; rw [if_pos hk0, if_neg hr1]] at hj
        obtain rfl : j = 9 := List.mem_singleton.1 hj
        exact z9 hk0
    · by_cases hr1 : k + 1 = rest.length
      · rw [show cut k rest.length = 2 by unfold cut; rw [if_neg hk0, if_pos hr1]] at hj
        obtain rfl : j = 10 := List.mem_singleton.1 hj
        exact z10 hr1
      · rw [show cut k rest.length = 1 by unfold cut; rw [if_neg hk0, if_neg hr1]] at hj
        cases hj
end
end Go.Proofs.Z
