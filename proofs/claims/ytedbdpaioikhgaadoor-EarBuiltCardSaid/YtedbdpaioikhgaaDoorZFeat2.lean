/- A part of the proofs that the laws of layer one answer true for every input. -/
import Derived.Test.YtedbdpaioikhgaaDoorZFeat1
namespace Go.Proofs.Z
open Go Go.RowKit Go.Proofs Go.Ri
/-- The names in a loop that gathers features. -/
noncomputable def fnm (x : Nat → Int) (y : Nat → Bool) : Nm := ⟨fun i => if i < 20 then x i else shp x y (i - 20), y, fun _ => ⟨#[]⟩, fun _ => []⟩
/-- What holds at the head. -/
def fΦ (x : Nat → Int) (y : Nat → Bool) (s : Nat → Int) (n : Nat) (k : Nat × Bool) (c : Nm) : Prop :=
  ((∀ i, i < 9 → c.I i = x i) ∧ ∀ i, i < 3 → c.B i = y i) ∧ k.1 ≤ 12 ∧ n = 12 - k.1 ∧ (∀ i, i < 12 → c.I (20 + i) = s i) ∧ c.L 0 = featL s k.1 ∧ c.L 1 = featL s (k.1 + 1) ∧ k.2 = !(featL s k.1).isEmpty
theorem fids_look (i : Nat) (l : List SE) (h : i < 12) : lookI (idI fids ++ l) (20 + i) = some (sI (20 + i)) := by
  match i, h with
  | 0, _ => rfl
  | 1, _ => rfl
  | 2, _ => rfl
  | 3, _ => rfl
  | 4, _ => rfl
  | 5, _ => rfl
  | 6, _ => rfl
  | 7, _ => rfl
  | 8, _ => rfl
  | 9, _ => rfl
  | 10, _ => rfl
  | 11, _ => rfl
  | i + 12, h => omega
theorem eids_look (i : Nat) (l : List SE) (h : i < 9) : lookI (idI fids ++ (eids ++ l)) i = some (sI i) := by
  match i, h with
  | 0, _ => rfl
  | 1, _ => rfl
  | 2, _ => rfl
  | 3, _ => rfl
  | 4, _ => rfl
  | 5, _ => rfl
  | 6, _ => rfl
  | 7, _ => rfl
  | 8, _ => rfl
  | i + 9, h => omega
theorem eids_upd (c d : Nm) (l : List SE) (i : Nat) (h : i < 9) : (c.upd (idI fids ++ (eids ++ l)) d).I i = c.I i := by
  show (match lookI (idI fids ++ (eids ++ l)) i with | some r => c.cI r | none => d.I i) = _
  rw [eids_look i l h]
  rfl
theorem eids_updB (c d : Nm) (l : List SE) (i : Nat) (h : i < 3) : (c.upd (idI fids ++ (eids ++ l)) d).B i = c.B i := by
  match i, h with
  | 0, _ => rfl
  | 1, _ => rfl
  | 2, _ => rfl
  | i + 3, h => omega
theorem fids_upd (c d : Nm) (l : List SE) (i : Nat) (h : i < 12) : (c.upd (idI fids ++ l) d).I (20 + i) = c.I (20 + i) := by
  show (match lookI (idI fids ++ l) (20 + i) with | some r => c.cI r | none => d.I (20 + i)) = _
  rw [fids_look i l h]
  rfl
noncomputable def fnext (s : Nat → Int) (k : Nat) (c : Nm) : Nm := { c with L := fun i => if i = 0 then featL s k else featL s (k + 1) }
/-- A round's tables hold. -/
theorem fround_tb (q : FP) {x : Nat → Int} {y : Nat → Bool} {s : Nat → Int} {n k : Nat} {ne : Bool} {c : Nm} (hΦ : fΦ x y s n (k, ne) c) (hk : k < 12) (W : Nat → Value) (hY : ∀ e, e ∈ q.Y k → Ans e.f (e.a.map (@cvF (c.val W))) (@cvF (c.val W) e.r)) : @TbOK (c.val W) (froundTb q k (s k == 0)) := by
  obtain ⟨_, _, _, hI, h0, h1, _⟩ := hΦ
  letI : Val := c.val W
  refine { T := ?_, LA := ?_, Y := hY }
  · intro e he
    simp only [froundTb, List.mem_cons, List.not_mem_nil, or_false] at he
    subst he
    refine ⟨rfl, ?_⟩
    rw [← hI k hk]
    exact t_ieq .i64 (c.I (20 + k)) 0
  · intro e he
    unfold froundTb at he
    simp only at he
    split at he
    · cases he
    · rename_i hb
      simp only [List.mem_cons, List.not_mem_nil, or_false] at he
      subst he
      have hs : s k ≠ 0 := by simpa using hb
      have e1 : (featR k (20 + k)).map (@cv (c.val W)) = featC k (s k) := by
        rw [← hI k hk, ← featR_cv]
        exact List.map_congr_left fun r _ => cV_cv c W r
      refine ⟨?_, ?_, ?_⟩
      · show c.L 1 = c.L 0 ++ _
        rw [h1, h0, e1]
        show featL s k ++ (if s k = 0 then [] else featC k (s k)) = _
        rw [if_neg hs]
      · show (c.L 1).length ≤ _
        rw [h1]
        have := featL_len s (k + 1)
        simp only at *
        omega
      · show ∀ v, v ∈ c.L 0 → _
        rw [h0]
        exact featL_one s k
theorem fround_next {x : Nat → Int} {y : Nat → Bool} {s : Nat → Int} {n k : Nat} {ne : Bool} {c : Nm} (hΦ : fΦ x y s n (k, ne) c) (hk : k < 12) :
    ∃ n', n' < n ∧ fΦ x y s n' (k + 1, ne || !(s k == 0)) (c.upd (flist k ne (s k == 0)) (fnext s (k + 1) c)) := by
  obtain ⟨⟨hx, hy⟩, _, hn, hI, h0, h1, hne⟩ := hΦ
  have hn : n = 12 - k := hn
  have h1 : c.L 1 = featL s (k + 1) := h1
  have h0 : c.L 0 = featL s k := h0
  have hne : ne = !(featL s k).isEmpty := hne
  have hstep : featL s (k + 1) = featL s k ++ if s k = 0 then [] else featC k (s k) := rfl
  have hfe : (featC k (s k)).isEmpty = false := by
    have := featC_len k (s k)
    cases h : featC k (s k) with
    | nil => rw [h] at this; cases this
    | cons _ _ => rfl
  refine ⟨12 - (k + 1), by omega, ⟨fun i hi => (eids_upd _ _ _ i hi).trans (hx i hi), fun i hi => (eids_updB _ _ _ i hi).trans (hy i hi)⟩, by show k + 1 ≤ 12; omega, rfl, fun i hi => ?_, ?_, ?_, ?_⟩
  · unfold flist
    rw [fids_upd _ _ _ i hi]
    exact hI i hi
  · show (c.upd (flist k ne (s k == 0)) (fnext s (k + 1) c)).L 0 = featL s (k + 1)
    by_cases hs : s k = 0
    · have e : (s k == 0) = true := by simp [hs]
      rw [e]
      rw [hstep, if_pos hs, List.append_nil]
      cases ne with
      | true => exact h0
      | false =>
        show featL s (k + 1) = _
        rw [hstep, if_pos hs, List.append_nil]
    · have e : (s k == 0) = false := by simp [hs]
      rw [e]
      cases ne with
      | true => exact h1
      | false =>
        show (featR k (20 + k)).map c.cV = _
        have hnil : featL s k = [] := by
          have := hne.symm
          simpa using this
        rw [featR_cv, hI k hk, hstep, if_neg hs, hnil]
        rfl
  · show (c.upd (flist k ne (s k == 0)) (fnext s (k + 1) c)).L 1 = featL s (k + 1 + 1)
    cases ne <;> cases (s k == 0) <;> rfl
  · show (ne || !(s k == 0)) = !(featL s (k + 1)).isEmpty
    rw [hstep, hne]
    by_cases hs : s k = 0
    · simp [hs]
    · have e : (s k == 0) = false := by simp [hs]
      rw [e, if_neg hs]
      cases h : featL s k with
      | nil => simp [hfe]
      | cons _ _ => simp
/-- What Features answers. -/
noncomputable def featAns (e : Bool) : RV × RH := if e then (.pl (.tuple #[.slice none 0 0, .int .i64 0]), []) else (.tup [.slN 0 0 4, lI 0], [some (.lst 0 47 true)])
theorem feat_fn (q : FP) (hq : FRuns q) (x : Nat → Int) (y : Nat → Bool) (htb : @TbOK ((fnm x y).val fun _ => undef) q.tb)
    (hY : ∀ k, k < 12 → ∀ c : Nm, (∀ i, i < 9 → c.I i = x i) → (∀ i, i < 3 → c.B i = y i) → (∀ i, i < 12 → c.I (20 + i) = shp x y i) → ∀ W e, e ∈ q.Y k → Ans e.f (e.a.map (@cvF (c.val W))) (@cvF (c.val W) e.r))
    (V : Val) (hj : V.L 0 = featL (shp x y) 12) : @AnsQ V q.f [earF x y] (featAns (featL (shp x y) 12).isEmpty).1 (featAns (featL (shp x y) 12).isEmpty).2 := by
  intro w hr
  refine fn_loop (κ := Nat × Bool) (fnm x y) (fun _ => undef) q.tb [] q.f [earR 0] (fpat q) (fΦ x y (shp x y)) htb (idI fids ++ eids) (List.range q.pre.length) (0, false) 12 hq.enter ((fnm x y).upd (idI fids ++ eids) (fnext (shp x y) 0 (fnm x y))) (fun W' => upd_holds _ _ _ _ W') ?_ (DQ V (featAns (featL (shp x y) 12).isEmpty).1 (featAns (featL (shp x y) 12).isEmpty).2) ?_ w hr [earF x y] (@nval_flat ((fnm x y).val fun _ => undef) w [earR 0] rfl)
  · have e0 : idI fids ++ eids = idI fids ++ (eids ++ []) := by rw [List.append_nil]
    rw [e0]
    refine ⟨⟨fun i hi => ?_, fun i hi => eids_updB _ _ _ i hi⟩, Nat.zero_le _, rfl, fun i hi => ?_, rfl, rfl, rfl⟩
    · rw [eids_upd _ _ _ i hi]
      show (if i < 20 then x i else shp x y (i - 20)) = _
      rw [if_pos (by omega)]
    · rw [fids_upd _ _ _ i hi]
      show (if 20 + i < 20 then x (20 + i) else shp x y (20 + i - 20)) = _
      rw [if_neg (by omega), Nat.add_sub_cancel_left]
  · intro w n k c hΦ W
    obtain ⟨k, ne⟩ := k
    have hk12 : k ≤ 12 := hΦ.2.1
    rcases Nat.lt_or_ge k 12 with hk | hk
    · exact step_again (froundTb q k (shp x y k == 0)) [] (fround_tb q hΦ hk W (hY k hk c hΦ.1.1 hΦ.1.2 hΦ.2.2.2.1 W)) (flist k ne (shp x y k == 0)) (fblk q.pre.length ne (shp x y k == 0)) (k + 1, ne || !(shp x y k == 0)) (fnext (shp x y) (k + 1) c) (all2_all (all2_all (allU_lt hq.rounds k hk) ne) (shp x y k == 0)) (fround_next hΦ hk)
    · obtain rfl : k = 12 := by omega
      have hne : ne = !(featL (shp x y) 12).isEmpty := hΦ.2.2.2.2.2.2
      have h0 : c.L 0 = featL (shp x y) 12 := hΦ.2.2.2.2.1
      have ho := all2_all hq.outs ne
      cases hE : (featL (shp x y) 12).isEmpty with
      | true =>
        rw [hE] at hne
        subst hne
        exact step_outQ {} [] (tb0 (c.val W)) V [] [] _ _ ho rfl ⟨(fun j r h => by cases h), (fun j r h => by cases h), (fun j r h => by cases h), (fun j r h => by cases h), (fun j r h => by cases h)⟩
      | false =>
        rw [hE] at hne
        subst hne
        refine step_outQ {} [] (tb0 (c.val W)) V [.lst 0 0] [q.pre.length] _ _ ho rfl ⟨(fun j r h => by cases h), (fun j r h => by cases h), (fun j r h => by cases h), (fun j k h => ?_), (fun j r h => ?_)⟩
        · have h : (match Nat.beq 0 j with | true => some (Sum.inl 0) | false => none) = some (Sum.inl k) := h
          split at h
          · rename_i hj0
            obtain rfl := Nat.eq_of_beq_eq_true hj0
            cases h
            rw [hj]
            exact h0.symm
          · cases h
        · have h : (match Nat.beq 0 j with | true => some (Sum.inl 0) | false => none) = some (Sum.inr r) := h
          split at h
          · cases h
          · cases h
theorem features_ans (x : Nat → Int) (y : Nat → Bool) (hv : valB x = true) (V : Val) (hj : V.L 0 = featL (shp x y) 12) : @AnsQ V fFeatures [earF x y] (featAns (featL (shp x y) 12).isEmpty).1 (featAns (featL (shp x y) 12).isEmpty).2 := by
  refine feat_fn fq f_runs x y ?_ (by intro k _ c _ _ _ W e he; cases he) V hj
  letI : Val := (fnm x y).val fun _ => undef
  refine { Y := ?_ }
  intro e he
  simp only [fq, List.mem_cons, List.not_mem_nil, or_false] at he
  rcases he with rfl | rfl
  · have := chk_ans x y
    rw [if_pos hv] at this
    exact this
  · exact shape_ans x y
def badA : RV := .pl (.tuple #[.slice none 0 0, .int .i64 10])
noncomputable def fbadRun : Bool := doneQ { Y := [⟨fCheck, [earR 0], lI 10⟩] } [] fFeatures [earR 0] [] [] badA []
set_option maxRecDepth 100000 in
theorem fbad_run : fbadRun = true := by kernel_rfl
theorem noHolds (V V' : Val) : Holds [] V V' := ⟨(fun j r h => by cases h), (fun j r h => by cases h), (fun j r h => by cases h), (fun j r h => by cases h), (fun j r h => by cases h)⟩
theorem features_bad (x : Nat → Int) (y : Nat → Bool) (hv : valB x = false) : Ans fFeatures [earF x y] (.tuple #[.slice none 0 0, .int .i64 10]) := by
  refine @ans_dq V0 _ _ _ [] fun w hr => ?_
  refine done_calls (VE x y) V0 (t := { Y := [⟨fCheck, [earR 0], lI 10⟩] }) (plan := []) (ds := [earR 0]) ?_ fbad_run rfl (noHolds _ _) w hr [earF x y] (@nval_flat (VE x y) w [earR 0] rfl)
  letI : Val := VE x y
  refine { Y := ?_ }
  intro e he
  simp only [List.mem_cons, List.not_mem_nil, or_false] at he
  rcases he with rfl
  have := chk_ans x y
  rw [if_neg (by simp [hv])] at this
  exact this
end Go.Proofs.Z
