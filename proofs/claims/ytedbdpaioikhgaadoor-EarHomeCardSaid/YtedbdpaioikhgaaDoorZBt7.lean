/- A part of the proofs that the laws of layer one answer true for every input. -/
import Derived.Test.YtedbdpaioikhgaaDoorZBt6
namespace Go.Proofs.Z
open Go Go.RowKit Go.Proofs Go.Ri
/-! The law EarBuilt. -/
theorem sanexB : XTrue saneX := by
  intro f vs v h
  unfold saneX at h
  split at h
  · split at h
    · rename_i hf
      obtain rfl := Nat.eq_of_beq_eq_true hf
      cases h
      exact sane_ans
    · cases h
  · cases h
theorem shift_bds {V V' : Val} {w : World} {vs : List Value} {i : Nat} (hi : V.L i = V'.L 0) (h : All2 (@Go.Ri.NVal V w) [.slN 0 i 4] vs) : All2 (@Go.Ri.NVal V' w) bds vs := by
  cases h with
  | cons h1 h2 =>
    cases h2
    obtain ⟨a, m, cap, g1, g2, g3, g4, g5, g6⟩ := h1
    rw [hi] at g2 g4 g6
    exact .cons ⟨a, m, cap, g1, g2, g3, g4, g5, g6⟩ .nil
section
variable (x : Nat → Int) (y : Nat → Bool) (lv tu : List Value)
def kO (tu : List Value) (mixed rest : List Nat) : Nat := (tvO tu mixed.length).toNat % rest.length
def rest2 (tu : List Value) (mixed rest : List Nat) : List Nat := rest.take (kO tu mixed rest) ++ rest.drop (kO tu mixed rest + 1)
def mixed2 (tu : List Value) (mixed rest : List Nat) : List Nat := mixed ++ [rest.getD (kO tu mixed rest) 0]
theorem ids2_ok (kept mixed rest : List Nat) (hr : rest ≠ []) (W W' : Nat → Value) : Holds (ids2 (cut (kO tu mixed rest) rest.length) mixed.isEmpty) ((N2 x y lv tu kept mixed rest).val W) ((N2 x y lv tu kept (mixed2 tu mixed rest) (rest2 tu mixed rest)).val W') := by
  have hl : 0 < rest.length := by
    cases rest with
    | nil => exact absurd rfl hr
    | cons a b => simp
  have hcell := c4_N2 x y lv tu kept mixed rest W
  refine holds_all fun e he => ?_
  simp only [ids2, List.mem_cons] at he
  rcases he with rfl | rfl | rfl | rfl | he
  · refine ⟨.i64, (mixed.length : Int) + 1, rfl, ?_⟩
    show (((mixed2 tu mixed rest).length : Nat) : Int) = _
    unfold mixed2
    rw [List.length_append]
    rfl
  · rfl
  · split
    · rename_i h
      have h : mixed = [] := by simpa using h
      subst h
      show cs (shp x y) (mixed2 tu [] rest) = c4.map _
      rw [hcell]
      unfold mixed2
      rw [List.nil_append, cs_one1]
      rfl
    · show cs (shp x y) (mixed2 tu mixed rest) = cs (shp x y) mixed ++ featC _ _
      unfold mixed2
      rw [cs_app, cs_one1]
      rfl
  · have hk : kO tu mixed rest < rest.length := Nat.mod_lt _ hl
    have key : ∀ j, ((N2 x y lv tu kept mixed rest).L j = cs (shp x y) (rest2 tu mixed rest)) → okSE ((N2 x y lv tu kept mixed rest).val W) ((N2 x y lv tu kept (mixed2 tu mixed rest) (rest2 tu mixed rest)).val W') (.lst 4 j) := fun j hj => hj.symm
    refine key _ ?_
    have e9 : (N2 x y lv tu kept mixed rest).L 9 = cs (shp x y) (rest.take (kO tu mixed rest)) := rfl
    have e10 : (N2 x y lv tu kept mixed rest).L 10 = cs (shp x y) (rest.drop (kO tu mixed rest + 1)) := rfl
    have e11 : (N2 x y lv tu kept mixed rest).L 11 = cs (shp x y) (rest.take (kO tu mixed rest) ++ rest.drop (kO tu mixed rest + 1)) := rfl
    unfold rest2
    generalize kO tu mixed rest = k at hk e9 e10 e11
    by_cases hk0 : k = 0
    · by_cases hr1 : rest.length = 1
      · rw [show cut k rest.length = 3 by unfold cut; rw [if_pos hk0, if_pos hr1]]
        refine e9.trans ?_
        rw [hk0, List.take_zero, List.drop_of_length_le (by omega)]
        rfl
      · rw [show cut k rest.length = 0 by unfold cut; rw [if_pos hk0, if_neg hr1]]
        refine e10.trans ?_
        rw [hk0, List.take_zero, List.nil_append]
    · by_cases hr1 : k + 1 = rest.length
      · rw [show cut k rest.length = 2 by unfold cut; rw [if_neg hk0, if_pos hr1]]
        refine e9.trans ?_
        rw [List.drop_of_length_le (by omega), List.append_nil]
      · rw [show cut k rest.length = 1 by unfold cut; rw [if_neg hk0, if_neg hr1]]
        exact e11
  · have hI : ∀ j, j < 9 → (N2 x y lv tu kept (mixed2 tu mixed rest) (rest2 tu mixed rest)).I j = (N2 x y lv tu kept mixed rest).I j := by
      intro j hj
      show (if j < 9 then x j else _) = (if j < 9 then x j else _)
      rw [if_pos hj, if_pos hj]
    have h6 : (N2 x y lv tu kept (mixed2 tu mixed rest) (rest2 tu mixed rest)).L 6 = (N2 x y lv tu kept mixed rest).L 6 := by
      show tu = tu
      rfl
    have h1 : (N2 x y lv tu kept (mixed2 tu mixed rest) (rest2 tu mixed rest)).L 1 = (N2 x y lv tu kept mixed rest).L 1 := by
      show lv = lv
      rfl
    have hB : ∀ j, j < 3 → (N2 x y lv tu kept (mixed2 tu mixed rest) (rest2 tu mixed rest)).B j = (N2 x y lv tu kept mixed rest).B j := by
      intro j hj
      show (if j < 40 then y j else _) = (if j < 40 then y j else _)
      rw [if_pos (by omega)]
    exact @eIds_ok ((N2 x y lv tu kept mixed rest).val W) ((N2 x y lv tu kept (mixed2 tu mixed rest) (rest2 tu mixed rest)).val W') hI hB h6 h1 e he
theorem perm2 (mixed rest : List Nat) (hr : rest ≠ []) : (mixed2 tu mixed rest ++ rest2 tu mixed rest).Perm (mixed ++ rest) := by
  have hl : 0 < rest.length := by
    cases rest with
    | nil => exact absurd rfl hr
    | cons a b => simp
  have hk : kO tu mixed rest < rest.length := Nat.mod_lt _ hl
  unfold mixed2 rest2
  generalize kO tu mixed rest = k at hk
  have e : rest = rest.take k ++ rest.getD k 0 :: rest.drop (k + 1) := by
    rw [List.getD_eq_getElem?_getD, List.getElem?_eq_getElem hk, Option.getD_some, ← List.drop_eq_getElem_cons hk, List.take_append_drop]
  rw [List.append_assoc]
  refine List.Perm.append_left _ ?_
  show (rest.getD k 0 :: (rest.take k ++ rest.drop (k + 1))).Perm rest
  have := List.perm_middle (a := rest.getD k 0) (l₁ := rest.take k) (l₂ := rest.drop (k + 1))
  rw [← e] at this
  exact this.symm
theorem tb2e_ok (hv : valB x = true) (kept mixed : List Nat) (hk : kept.Sublist (PL x y)) (hp : mixed.Perm (PL x y)) (W : Nat → Value) : @TbOK ((N2 x y lv tu kept mixed []).val W) (tb2e kept.isEmpty) := by
  letI : Val := (N2 x y lv tu kept mixed []).val W
  have hmix : ∀ p ∈ mixed, p < 12 ∧ shp x y p ≠ 0 := fun p h => pls_mem (hp.mem_iff.1 h)
  have hkm : ∀ p ∈ kept, p < 12 ∧ shp x y p ≠ 0 := fun p h => pls_mem (hk.subset h)
  have hnd : mixed.Nodup := hp.nodup_iff.2 (pls_nodup _ _)
  have hkn : kept.Nodup := (pls_nodup (shp x y) 12).sublist hk
  have l1 : mixed.length ≤ 12 := by rw [hp.length_eq]; exact pls_len _ _
  have l2 : kept.length ≤ 12 := Nat.le_trans hk.length_le (pls_len _ _)
  have hvs : valB (sr (shp x y) kept) = true := val_sr _ kept ((valB_shp x y).trans hv)
  have eY : cvF (earR 40) = earF (sr (shp x y) kept) (earY (sr (shp x y) kept)) := rfl
  have eB1 : bV (bld (cs (shp x y) mixed) mixed.length) = cvF (.tup [earR 0, lI 0]) := by
    rw [bV_sr x y hv hnd hmix, earF_sr x y hp]
    rfl
  have eB2 : bV (bld (cs (shp x y) kept) kept.length) = cvF (.tup [earR 40, lI 0]) := bV_sr x y hv hkn hkm
  have C1 : AnsN fBuild [.slN 0 7 4] (cvF (.tup [earR 0, lI 0])) := by
    intro w hr vs hvs
    rw [← eB1]
    let V' : Val := ((⟨fun _ => 0, fun _ => false, fun _ => ⟨#[]⟩, fun _ => cs (shp x y) mixed⟩ : Nm)).val fun _ => undef
    exact build_ans V' (cs (shp x y) mixed) rfl (cs_ints _ _) mixed.length (cs_len _ _) (by omega) w hr vs (shift_bds (V := (N2 x y lv tu kept mixed []).val W) (V' := V') rfl hvs)
  have C2 : AnsN fBuild [.slN 0 0 4] (cvF (.tup [earR 40, lI 0])) := by
    intro w hr vs hvs
    rw [← eB2]
    let V' : Val := ((⟨fun _ => 0, fun _ => false, fun _ => ⟨#[]⟩, fun _ => cs (shp x y) kept⟩ : Nm)).val fun _ => undef
    exact build_ans V' (cs (shp x y) kept) rfl (cs_ints _ _) kept.length (cs_len _ _) (by omega) w hr vs (shift_bds (V := (N2 x y lv tu kept mixed []).val W) (V' := V') rfl hvs)
  cases hE : kept.isEmpty with
  | true =>
    refine { X := sanexB, C := ?_ }
    intro e he
    obtain rfl : e = ⟨fBuild, [.slN 0 7 4], .tup [earR 0, lI 0]⟩ := List.mem_singleton.1 he
    exact C1
  | false =>
    refine { X := sanexB, Y := ?_, C := ?_, Q := ?_ }
    · intro e he
      obtain rfl : e = ⟨fCheck, [earR 40], lI 0⟩ := List.mem_singleton.1 he
      have := chk_ans (sr (shp x y) kept) (earY (sr (shp x y) kept))
      rw [if_pos hvs] at this
      exact this
    · intro e he
      replace he : e ∈ ([⟨fBuild, [.slN 0 7 4], .tup [earR 0, lI 0]⟩, ⟨fBuild, [.slN 0 0 4], .tup [earR 40, lI 0]⟩, ⟨fSameFeatures, sds, bR true⟩] : List YE) := he
      simp only [List.mem_cons, List.not_mem_nil, or_false] at he
      rcases he with rfl | rfl | rfl
      · exact C1
      · exact C2
      · exact same_ans _ (cs (shp x y) kept) rfl (cs_ints _ _) kept.length (cs_len _ _) (by omega)
    · intro e he
      obtain rfl : e = ⟨fFeatures, [earR 40], .tup [.slN 0 0 4, lI 0], [some (.lst 0 47 true)]⟩ := List.mem_singleton.1 he
      have hf := feat_sr x y hk
      have := features_ans (sr (shp x y) kept) (earY (sr (shp x y) kept)) hvs ((N2 x y lv tu kept mixed []).val W) hf.symm
      rw [hf] at this
      have hne : (cs (shp x y) kept).isEmpty = false := by
        cases hkk : kept with
        | nil => rw [hkk] at hE; cases hE
        | cons a b =>
          have := cs_nil (s := shp x y) (ps := a :: b) (by simp)
          simpa using this
      rw [hne] at this
      exact this
end
end Go.Proofs.Z
