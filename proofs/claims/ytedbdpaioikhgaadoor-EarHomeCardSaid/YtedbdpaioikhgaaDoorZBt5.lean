/- A part of the proofs that the laws of layer one answer true for every input. -/
import Derived.Test.YtedbdpaioikhgaaDoorZBt4
namespace Go.Proofs.Z
open Go Go.RowKit Go.Proofs Go.Ri
/-! The law EarBuilt: the rounds. -/
theorem eIds_ok {V V' : Val} (hI : ∀ j, j < 9 → V'.I j = V.I j) (hB : ∀ j, j < 3 → V'.B j = V.B j) (h6 : V'.L 6 = V.L 6) (h1 : V'.L 1 = V.L 1) : ∀ e, e ∈ eIds → okSE V V' e := by
  intro e he
  simp only [eIds, idI, idB, List.map_cons, List.map_nil, List.cons_append, List.nil_append, List.mem_cons, List.not_mem_nil, or_false] at he
  rcases he with rfl | rfl | rfl | rfl | rfl | rfl | rfl | rfl | rfl | rfl | rfl | rfl | rfl | rfl
  all_goals first | exact ⟨.i64, _, rfl, hI _ (by decide)⟩ | exact ⟨_, rfl, hB _ (by decide)⟩ | exact h6 | exact h1
section
variable (x : Nat → Int) (y : Nat → Bool) (lv tu : List Value)
/-- What is kept after a round. -/
def kept1 (i : Nat) (kept : List Nat) : List Nat := if mode1 lv i = 2 then kept else kept ++ [(PL x y).getD i 0]
theorem c4_N1 (i : Nat) (kept : List Nat) (W : Nat → Value) : c4.map (@cv ((N1 x y lv tu i kept).val W)) = featC ((PL x y).getD i 0) (shp x y ((PL x y).getD i 0)) := by
  rw [featC_cells ((PL x y).getD i 0) (shp x y ((PL x y).getD i 0))]
  rfl
theorem cs_one1 (s : Nat → Int) (p : Nat) : cs s [p] = featC p (s p) := by
  show featC p (s p) ++ [] = _
  rw [List.append_nil]
theorem ids1_ok (i : Nat) (kept : List Nat) (hi : i < (PL x y).length) (W W' : Nat → Value) : Holds (ids1 (mode1 lv i) kept.isEmpty (Nat.beq i 0)) ((N1 x y lv tu i kept).val W) ((N1 x y lv tu (i + 1) (kept1 x y lv i kept)).val W') := by
  refine holds_all fun e he => ?_
  simp only [ids1, List.mem_cons] at he
  rcases he with rfl | rfl | rfl | rfl | he
  · exact ⟨.i64, (i : Int) + 1, rfl, rfl⟩
  · rfl
  · split
    · rename_i h
      show cs (shp x y) (kept1 x y lv i kept) = cs (shp x y) kept
      unfold kept1
      rw [if_pos (Nat.eq_of_beq_eq_true h)]
    · rename_i h
      have h2 : mode1 lv i ≠ 2 := by
        intro e
        rw [e] at h
        exact h rfl
      split
      · rename_i hk
        have hk : kept = [] := by simpa using hk
        subst hk
        show cs (shp x y) (kept1 x y lv i []) = c4.map _
        rw [c4_N1]
        unfold kept1
        rw [if_neg h2, List.nil_append, cs_one1]
      · show cs (shp x y) (kept1 x y lv i kept) = cs (shp x y) kept ++ featC _ _
        unfold kept1
        rw [if_neg h2, cs_app, cs_one1]
  · split
    · rename_i h
      obtain rfl := Nat.eq_of_beq_eq_true h
      show cs (shp x y) ((PL x y).take (0 + 1)) = c4.map _
      rw [c4_N1, take_succ' _ _ hi, List.take_zero, List.nil_append, cs_one1]
    · show cs (shp x y) ((PL x y).take (i + 1)) = cs (shp x y) ((PL x y).take i) ++ featC _ _
      rw [take_succ' _ _ hi, cs_app, cs_one1]
  · have hI : ∀ j, j < 9 → (N1 x y lv tu (i + 1) (kept1 x y lv i kept)).I j = (N1 x y lv tu i kept).I j := by
      intro j hj
      show (if j < 9 then x j else _) = (if j < 9 then x j else _)
      rw [if_pos hj, if_pos hj]
    have h6 : (N1 x y lv tu (i + 1) (kept1 x y lv i kept)).L 6 = (N1 x y lv tu i kept).L 6 := by
      show tu = tu
      rfl
    have h1 : (N1 x y lv tu (i + 1) (kept1 x y lv i kept)).L 1 = (N1 x y lv tu i kept).L 1 := by
      show lv = lv
      rfl
    have hB : ∀ j, j < 3 → (N1 x y lv tu (i + 1) (kept1 x y lv i kept)).B j = (N1 x y lv tu i kept).B j := by
      intro j _
      show y j = y j
      rfl
    exact @eIds_ok ((N1 x y lv tu i kept).val W) ((N1 x y lv tu (i + 1) (kept1 x y lv i kept)).val W') hI hB h6 h1 e he
/-! The second loop. -/
theorem c4_N2 (kept mixed rest : List Nat) (W : Nat → Value) : c4.map (@cv ((N2 x y lv tu kept mixed rest).val W)) = featC (rest.getD ((tvO tu mixed.length).toNat % rest.length) 0) (shp x y (rest.getD ((tvO tu mixed.length).toNat % rest.length) 0)) := by
  rw [featC_cells (rest.getD ((tvO tu mixed.length).toNat % rest.length) 0) (shp x y (rest.getD ((tvO tu mixed.length).toNat % rest.length) 0))]
  rfl
theorem tvO_rng (htu : u8s tu) (i : Nat) : 0 ≤ tvO tu i ∧ tvO tu i < 256 := by
  unfold tvO
  split
  · rename_i h
    obtain ⟨a, ha, h0, h1⟩ := htu _ (List.getElem_mem h)
    rw [List.getD_eq_getElem?_getD, List.getElem?_eq_getElem h, Option.getD_some, ha]
    exact ⟨h0, h1⟩
  · omega
def anm (i : Nat) : Nm := ⟨fun j => if j = 100 then (i : Int) else if j = 154 then (tu.length : Int) else tvO tu i, fun _ => false, fun _ => ⟨#[]⟩, fun _ => tu⟩
theorem at_ans (htu : u8s tu) (V : Val) (i : Nat) (hL : V.L 6 = tu) (hI : V.I 100 = i) : @AnsN V fAt [.slN 0 6 1, sI 100] (.int .u8 (tvO tu i)) := by
  intro w hr vs hv
  let A : Val := (anm tu i).val fun _ => undef
  have hv' : All2 (@Go.Ri.NVal A w) [.slN 0 0 1, sI 100] vs := by
    cases hv with
    | cons h1 h2 =>
      cases h2 with
      | cons h3 h4 =>
        cases h4
        obtain ⟨a, m, cap, g1, g2, g3, g4, g5, g6⟩ := h1
        rw [hL] at g2 g4 g6
        refine .cons ⟨a, m, cap, g1, g2, g3, g4, g5, g6⟩ (.cons ?_ .nil)
        show _ = Value.int .i64 (i : Int)
        rw [← hI]
        exact h3
  have ht : @TbOK A (atTb (decide (i < tu.length))) := by
    letI : Val := A
    refine { T := ?_, LL := ?_, LX := ?_ }
    · intro e he
      simp only [atTb, List.mem_cons] at he
      rcases he with rfl | he
      · refine te_lss 100 154 _ ?_
        show decide ((i : Int) < (tu.length : Int)) = _
        simp
      · split at he
        · rename_i h
          simp only [List.mem_cons, List.not_mem_nil, or_false] at he
          subst he
          refine te_inb 100 154 true ?_
          show decide (0 ≤ (i : Int) ∧ (i : Int) < (tu.length : Int)) = true
          have h := of_decide_eq_true h
          simp [h]
        · cases he
    · intro e he
      simp only [atTb, List.mem_cons, List.not_mem_nil, or_false] at he
      subst he
      exact ⟨rfl, tu.length, by decide, (Nat.mul_one _).symm, rfl⟩
    · intro e he
      simp only [atTb] at he
      split at he
      · rename_i h
        have h := of_decide_eq_true h
        simp only [List.mem_cons, List.not_mem_nil, or_false] at he
        subst he
        refine ⟨rfl, ?_, ?_⟩
        · show ((i : Int)).toNat * 1 + 1 ≤ tu.length
          omega
        · show (tu.drop (((i : Int)).toNat * 1)).take 1 = [.int .u8 (tvO tu i)]
          rw [Int.toNat_natCast, Nat.mul_one, List.drop_eq_getElem_cons h]
          obtain ⟨a, ha, _, _⟩ := htu _ (List.getElem_mem h)
          unfold tvO
          rw [if_pos h, List.getD_eq_getElem?_getD, List.getElem?_eq_getElem h, Option.getD_some, ha]
          rfl
      · cases he
  have hh : Holds [.int 161 uU] A A := holds_all fun e he => by
    simp only [List.mem_cons, List.not_mem_nil, or_false] at he
    subst he
    exact ⟨.u8, tvO tu i, rfl, rfl⟩
  have hrun := all2_all at_run (decide (i < tu.length))
  by_cases hd : i < tu.length
  · rw [decide_eq_true hd] at hrun ht
    exact (done_calls A A ht hrun rfl hh w hr vs hv').mono fun e w' ⟨u, E', he, hu, H⟩ => ⟨by rw [he]; exact congrArg _ hu, @HInv.below A _ _ _ _ _ _ H⟩
  · rw [decide_eq_false hd] at hrun ht
    have e0 : tvO tu i = 0 := by unfold tvO; rw [if_neg hd]
    rw [e0]
    exact (done_calls A A ht hrun rfl hh w hr vs hv').mono fun e w' ⟨u, E', he, hu, H⟩ => ⟨by rw [he]; exact congrArg _ hu, @HInv.below A _ _ _ _ _ _ H⟩
end
end Go.Proofs.Z
