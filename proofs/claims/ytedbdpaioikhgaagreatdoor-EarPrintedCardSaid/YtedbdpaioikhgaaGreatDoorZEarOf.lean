/- A part of the proofs that the laws of layer one answer true for every input. -/
import Derived.Test.YtedbdpaioikhgaaGreatDoorZLoop5
import Derived.Test.YtedbdpaioikhgaaGreatDoorZHook
namespace Go.Proofs.Z
open Go Go.RowKit Go.Proofs Go.Ri
/-! The row of an ear's values. -/
def shp (x : Nat → Int) (y : Nat → Bool) (i : Nat) : Int := if i < 9 then x i else if y (i - 9) then 1 else 0
def shapeF (s : Nat → Int) : Value := .agg #[.int .i64 (s 0), .int .i64 (s 1), .int .i64 (s 2), .int .i64 (s 3), .int .i64 (s 4), .int .i64 (s 5), .int .i64 (s 6), .int .i64 (s 7), .int .i64 (s 8), .int .i64 (s 9), .int .i64 (s 10), .int .i64 (s 11)]
def shapeR (k : Nat) : RV := .agg [sI k, sI (k + 1), sI (k + 2), sI (k + 3), sI (k + 4), sI (k + 5), sI (k + 6), sI (k + 7), sI (k + 8), sI (k + 9), sI (k + 10), sI (k + 11)]
def bitR (b : Bool) : RV := if b then lI 1 else lI 0
def truths (k : Nat) (b0 b1 b2 : Bool) : List TE := [⟨.truth, sB k, sB k, bR b0⟩, ⟨.truth, sB (k + 1), sB (k + 1), bR b1⟩, ⟨.truth, sB (k + 2), sB (k + 2), bR b2⟩]
theorem truths_true [Val] (k : Nat) : ∀ e ∈ truths k (Val.B k) (Val.B (k + 1)) (Val.B (k + 2)), TETrue e := by
  intro e he
  simp only [truths, List.mem_cons, List.not_mem_nil, or_false] at he
  rcases he with rfl | rfl | rfl
  · exact ⟨rfl, t_truth (Val.B k) _⟩
  · exact ⟨rfl, t_truth (Val.B (k + 1)) _⟩
  · exact ⟨rfl, t_truth (Val.B (k + 2)) _⟩
noncomputable def shapeRun (b0 b1 b2 : Bool) : Bool := runOK noX (truths 0 b0 b1 b2) [] 1000 10 fShapeOf [earR 0] (.agg [sI 0, sI 1, sI 2, sI 3, sI 4, sI 5, sI 6, sI 7, sI 8, bitR b0, bitR b1, bitR b2])
set_option maxRecDepth 100000 in
theorem shape_run : (all2 fun a => all2 fun b => all2 fun c => shapeRun a b c) = true := by kernel_rfl
theorem shape_ans (x : Nat → Int) (y : Nat → Bool) : Ans fShapeOf [earF x y] (shapeF (shp x y)) := by
  have h := all2_all (all2_all (all2_all shape_run (y 0)) (y 1)) (y 2)
  have r := @ans (VE x y) noX _ [] noX_true (@truths_true (VE x y) 0) (by intro e he; cases he) _ _ _ _ _ h
  have e : @cvF (VE x y) (.agg [sI 0, sI 1, sI 2, sI 3, sI 4, sI 5, sI 6, sI 7, sI 8, bitR (y 0), bitR (y 1), bitR (y 2)]) = shapeF (shp x y) := by
    show Value.agg _ = Value.agg _
    cases h0 : y 0 <;> cases h1 : y 1 <;> cases h2 : y 2 <;> simp [shp, h0, h1, h2, cv, bitR, TK.val, sI, lI, Val.I]
  rw [e] at r
  exact r
end Go.Proofs.Z

namespace Go.Proofs.Z
open Go Go.RowKit Go.Proofs Go.Ri
/-! The features of a row of values. -/
def featC (p : Nat) (v : Int) : List Value :=
  if p = 0 then [.int .i64 1, .int .i64 0, .int .i64 0, .int .i64 v]
  else if p < 5 then [.int .i64 2, .int .i64 0, .int .i64 ((p - 1 : Nat) : Int), .int .i64 v]
  else if p < 9 then [.int .i64 2, .int .i64 1, .int .i64 ((p - 5 : Nat) : Int), .int .i64 v]
  else [.int .i64 3, .int .i64 0, .int .i64 ((p - 9 : Nat) : Int), .int .i64 0]
def featL (s : Nat → Int) : Nat → List Value
  | 0 => []
  | k + 1 => featL s k ++ if s k = 0 then [] else featC k (s k)
def featR (p i : Nat) : List RV :=
  if p = 0 then [lI 1, lI 0, lI 0, sI i]
  else if p < 5 then [lI 2, lI 0, lI ((p - 1 : Nat) : Int), sI i]
  else if p < 9 then [lI 2, lI 1, lI ((p - 5 : Nat) : Int), sI i]
  else [lI 3, lI 0, lI ((p - 9 : Nat) : Int), lI 0]
theorem featR_cv (c : Nm) (p i : Nat) : (featR p i).map c.cV = featC p (c.I i) := by
  unfold featR featC
  split
  · rfl
  · split
    · rfl
    · split <;> rfl
theorem featC_len (p : Nat) (v : Int) : (featC p v).length = 4 := by
  unfold featC
  split
  · rfl
  · split
    · rfl
    · split <;> rfl
theorem featC_one (p : Nat) (v : Int) : ∀ u, u ∈ featC p v → u.oneCell' = true := by
  intro u hu
  unfold featC at hu
  split at hu
  · simp at hu; rcases hu with rfl | rfl | rfl <;> rfl
  · split at hu
    · simp at hu; rcases hu with rfl | rfl | rfl | rfl <;> rfl
    · split at hu <;> (simp at hu; rcases hu with rfl | rfl | rfl | rfl <;> rfl)
theorem featL_len (s : Nat → Int) : ∀ k, (featL s k).length ≤ 4 * k
  | 0 => Nat.le_refl _
  | k + 1 => by
    have h1 := featL_len s k
    show (featL s k ++ if s k = 0 then [] else featC k (s k)).length ≤ _
    rw [List.length_append]
    split
    · simp; omega
    · rw [featC_len]; omega
theorem featL_one (s : Nat → Int) : ∀ k, ∀ u, u ∈ featL s k → u.oneCell' = true
  | 0, u, hu => by cases hu
  | k + 1, u, hu => by
    have hu : u ∈ featL s k ++ (if s k = 0 then [] else featC k (s k)) := hu
    rcases List.mem_append.1 hu with hu | hu
    · exact featL_one s k u hu
    · split at hu
      · cases hu
      · exact featC_one _ _ u hu
theorem featL_div (s : Nat → Int) : ∀ k, ∃ n, (featL s k).length = n * 4
  | 0 => ⟨0, rfl⟩
  | k + 1 => by
    obtain ⟨n, hn⟩ := featL_div s k
    show ∃ m, (featL s k ++ if s k = 0 then [] else featC k (s k)).length = m * 4
    rw [List.length_append, hn]
    split
    · exact ⟨n, by simp⟩
    · exact ⟨n + 1, by rw [featC_len]; omega⟩

/-! A loop over the places that gathers features. -/
def fids : List Nat := [20, 21, 22, 23, 24, 25, 26, 27, 28, 29, 30, 31]
def eids : List SE := idI [0, 1, 2, 3, 4, 5, 6, 7, 8] ++ idB [0, 1, 2]
/-- The function, what its run knows at the start, its temporaries: of the list, of the row of values, of the number; the blocks ahead of the list's; what a round knows more. -/
structure FP where
  f : FuncId
  tb : Tb
  n : Nat
  l : Nat
  s : Nat
  k : Nat
  row : RV
  pre : RH
  Y : Nat → List YE
noncomputable def fpat (q : FP) (k : Nat × Bool) : St :=
  ⟨patW [(q.l, if k.2 then .slN q.pre.length 0 4 else nilR), (q.s, q.row), (q.k, lI k.1)] q.n 0, q.pre ++ if k.2 then [some (.lst 0 74 true)] else []⟩
noncomputable def froundTb (q : FP) (k : Nat) (b : Bool) : Tb := { T := [⟨.ieq, sI (20 + k), lI 0, bR b⟩], LA := if b then [] else [⟨0, featR k (20 + k), 1⟩], Y := q.Y k }
def flist (k : Nat) (ne b : Bool) : List SE := idI fids ++ (eids ++ if ne then (if b then [.lst 0 0] else [.lst 0 1]) else (if b then [] else [.new 0 (featR k (20 + k))]))
def fblk (p : Nat) (ne b : Bool) : List Nat := List.range p ++ if ne then (if b then [p] else [p + 2]) else (if b then [] else [p + 1])
noncomputable def fround (q : FP) (k : Nat) (ne b : Bool) : Bool := againT (froundTb q k b) [] (hB q.tb [] q.f [earR 0]) (hK q.tb [] q.f [earR 0]) (fpat q (k, ne)) (flist k ne b) (fblk q.pre.length ne b) (fpat q (k + 1, ne || !b))
noncomputable def foutQ (q : FP) (ne : Bool) : Bool := outQ {} [] q.f (hB q.tb [] q.f [earR 0]) (hK q.tb [] q.f [earR 0]) (fpat q (12, ne)) (if ne then [.lst 0 0] else []) (if ne then [q.pre.length] else []) (if ne then .tup [.slN 0 0 4, lI 0] else .pl (.tuple #[.slice none 0 0, .int .i64 0])) (if ne then [some (.lst 0 74 true)] else [])
/-- What the runs show. -/
structure FRuns (q : FP) : Prop where
  enter : enterT q.tb [] q.f [earR 0] (idI fids ++ eids) (List.range q.pre.length) (fpat q (0, false)) = true
  rounds : (allU 12 fun k => all2 fun ne => all2 fun b => fround q k ne b) = true
  outs : (all2 (foutQ q)) = true
/-- Features of package ear. -/
noncomputable def fq : FP := ⟨fFeatures, { Y := [⟨fCheck, [earR 0], lI 0⟩, ⟨fShapeOf, [earR 0], shapeR 20⟩] }, 29, 5, 14, 15, shapeR 20, [], fun _ => []⟩
set_option maxRecDepth 100000 in
theorem f_enter : enterT fq.tb [] fq.f [earR 0] (idI fids ++ eids) (List.range fq.pre.length) (fpat fq (0, false)) = true := by kernel_rfl
set_option maxRecDepth 100000 in
theorem f_rounds : (allU 12 fun k => all2 fun ne => all2 fun b => fround fq k ne b) = true := by kernel_rfl
set_option maxRecDepth 100000 in
theorem f_outs : (all2 (foutQ fq)) = true := by kernel_rfl
theorem f_runs : FRuns fq := ⟨f_enter, f_rounds, f_outs⟩
end Go.Proofs.Z

namespace Go.Proofs.Z
open Go Go.RowKit Go.Proofs Go.Ri
/-- The names in a loop that gathers features. -/
noncomputable def fnm (x : Nat → Int) (y : Nat → Bool) : Nm := ⟨fun i => if i < 20 then x i else shp x y (i - 20), y, fun _ => ⟨#[]⟩, fun _ => []⟩
/-- What holds at the head. -/
def fΦ (x : Nat → Int) (y : Nat → Bool) (s : Nat → Int) (n : Nat) (k : Nat × Bool) (c : Nm) : Prop :=
  ((∀ i, i < 9 → c.I i = x i) ∧ ∀ i, i < 3 → c.B i = y i) ∧ k.1 ≤ 12 ∧ n = 12 - k.1 ∧ (∀ i, i < 12 → c.I (20 + i) = s i) ∧ c.L 0 = featL s k.1 ∧ c.L 1 = featL s (k.1 + 1) ∧ k.2 = !(featL s k.1).isEmpty
theorem fids_look (i : Nat) (l : List SE) (h : i < 12) : lookI (idI fids ++ l) (20 + i) = some (sI (20 + i)) := by
  match i, h with
  | 0, _ => rfl
  | 1, _ => rfl
  | 2, _ => rfl
  | 3, _ => rfl
  | 4, _ => rfl
  | 5, _ => rfl
  | 6, _ => rfl
  | 7, _ => rfl
  | 8, _ => rfl
  | 9, _ => rfl
  | 10, _ => rfl
  | 11, _ => rfl
  | i + 12, h => omega
theorem eids_look (i : Nat) (l : List SE) (h : i < 9) : lookI (idI fids ++ (eids ++ l)) i = some (sI i) := by
  match i, h with
  | 0, _ => rfl
  | 1, _ => rfl
  | 2, _ => rfl
  | 3, _ => rfl
  | 4, _ => rfl
  | 5, _ => rfl
  | 6, _ => rfl
  | 7, _ => rfl
  | 8, _ => rfl
  | i + 9, h => omega
theorem eids_upd (c d : Nm) (l : List SE) (i : Nat) (h : i < 9) : (c.upd (idI fids ++ (eids ++ l)) d).I i = c.I i := by
  show (match lookI (idI fids ++ (eids ++ l)) i with | some r => c.cI r | none => d.I i) = _
  rw [eids_look i l h]
  rfl
theorem eids_updB (c d : Nm) (l : List SE) (i : Nat) (h : i < 3) : (c.upd (idI fids ++ (eids ++ l)) d).B i = c.B i := by
  match i, h with
  | 0, _ => rfl
  | 1, _ => rfl
  | 2, _ => rfl
  | i + 3, h => omega
theorem fids_upd (c d : Nm) (l : List SE) (i : Nat) (h : i < 12) : (c.upd (idI fids ++ l) d).I (20 + i) = c.I (20 + i) := by
  show (match lookI (idI fids ++ l) (20 + i) with | some r => c.cI r | none => d.I (20 + i)) = _
  rw [fids_look i l h]
  rfl
noncomputable def fnext (s : Nat → Int) (k : Nat) (c : Nm) : Nm := { c with L := fun i => if i = 0 then featL s k else featL s (k + 1) }
/-- A round's tables hold. -/
theorem fround_tb (q : FP) {x : Nat → Int} {y : Nat → Bool} {s : Nat → Int} {n k : Nat} {ne : Bool} {c : Nm} (hΦ : fΦ x y s n (k, ne) c) (hk : k < 12) (W : Nat → Value) (hY : ∀ e, e ∈ q.Y k → Ans e.f (e.a.map (@cvF (c.val W))) (@cvF (c.val W) e.r)) : @TbOK (c.val W) (froundTb q k (s k == 0)) := by
  obtain ⟨_, _, _, hI, h0, h1, _⟩ := hΦ
  letI : Val := c.val W
  refine { T := ?_, LA := ?_, Y := hY }
  · intro e he
    simp only [froundTb, List.mem_cons, List.not_mem_nil, or_false] at he
    subst he
    refine ⟨rfl, ?_⟩
    rw [← hI k hk]
    exact t_ieq .i64 (c.I (20 + k)) 0
  · intro e he
    unfold froundTb at he
    simp only at he
    split at he
    · cases he
    · rename_i hb
      simp only [List.mem_cons, List.not_mem_nil, or_false] at he
      subst he
      have hs : s k ≠ 0 := by simpa using hb
      have e1 : (featR k (20 + k)).map (@cv (c.val W)) = featC k (s k) := by
        rw [← hI k hk, ← featR_cv]
        exact List.map_congr_left fun r _ => cV_cv c W r
      refine ⟨?_, ?_, ?_⟩
      · show c.L 1 = c.L 0 ++ _
        rw [h1, h0, e1]
        show featL s k ++ (if s k = 0 then [] else featC k (s k)) = _
        rw [if_neg hs]
      · show (c.L 1).length ≤ _
        rw [h1]
        have := featL_len s (k + 1)
        simp only at *
        omega
      · show ∀ v, v ∈ c.L 0 → _
        rw [h0]
        exact featL_one s k
theorem fround_next {x : Nat → Int} {y : Nat → Bool} {s : Nat → Int} {n k : Nat} {ne : Bool} {c : Nm} (hΦ : fΦ x y s n (k, ne) c) (hk : k < 12) :
    ∃ n', n' < n ∧ fΦ x y s n' (k + 1, ne || !(s k == 0)) (c.upd (flist k ne (s k == 0)) (fnext s (k + 1) c)) := by
  obtain ⟨⟨hx, hy⟩, _, hn, hI, h0, h1, hne⟩ := hΦ
  have hn : n = 12 - k := hn
  have h1 : c.L 1 = featL s (k + 1) := h1
  have h0 : c.L 0 = featL s k := h0
  have hne : ne = !(featL s k).isEmpty := hne
  have hstep : featL s (k + 1) = featL s k ++ if s k = 0 then [] else featC k (s k) := rfl
  have hfe : (featC k (s k)).isEmpty = false := by
    have := featC_len k (s k)
    cases h : featC k (s k) with
    | nil => rw [h] at this; cases this
    | cons _ _ => rfl
  refine ⟨12 - (k + 1), by omega, ⟨fun i hi => (eids_upd _ _ _ i hi).trans (hx i hi), fun i hi => (eids_updB _ _ _ i hi).trans (hy i hi)⟩, by show k + 1 ≤ 12; omega, rfl, fun i hi => ?_, ?_, ?_, ?_⟩
  · unfold flist
    rw [fids_upd _ _ _ i hi]
    exact hI i hi
  · show (c.upd (flist k ne (s k == 0)) (fnext s (k + 1) c)).L 0 = featL s (k + 1)
    by_cases hs : s k = 0
    · have e : (s k == 0) = true := by simp [hs]
      rw [e]
      rw [hstep, if_pos hs, List.append_nil]
      cases ne with
      | true => exact h0
      | false =>
        show featL s (k + 1) = _
        rw [hstep, if_pos hs, List.append_nil]
    · have e : (s k == 0) = false := by simp [hs]
      rw [e]
      cases ne with
      | true => exact h1
      | false =>
        show (featR k (20 + k)).map c.cV = _
        have hnil : featL s k = [] := by
          have := hne.symm
          simpa using this
        rw [featR_cv, hI k hk, hstep, if_neg hs, hnil]
        rfl
  · show (c.upd (flist k ne (s k == 0)) (fnext s (k + 1) c)).L 1 = featL s (k + 1 + 1)
    cases ne <;> cases (s k == 0) <;> rfl
  · show (ne || !(s k == 0)) = !(featL s (k + 1)).isEmpty
    rw [hstep, hne]
    by_cases hs : s k = 0
    · simp [hs]
    · have e : (s k == 0) = false := by simp [hs]
      rw [e, if_neg hs]
      cases h : featL s k with
      | nil => simp [hfe]
      | cons _ _ => simp
/-- What Features answers. -/
noncomputable def featAns (e : Bool) : RV × RH := if e then (.pl (.tuple #[.slice none 0 0, .int .i64 0]), []) else (.tup [.slN 0 0 4, lI 0], [some (.lst 0 74 true)])
theorem feat_fn (q : FP) (hq : FRuns q) (x : Nat → Int) (y : Nat → Bool) (htb : @TbOK ((fnm x y).val fun _ => undef) q.tb)
    (hY : ∀ k, k < 12 → ∀ c : Nm, (∀ i, i < 9 → c.I i = x i) → (∀ i, i < 3 → c.B i = y i) → (∀ i, i < 12 → c.I (20 + i) = shp x y i) → ∀ W e, e ∈ q.Y k → Ans e.f (e.a.map (@cvF (c.val W))) (@cvF (c.val W) e.r))
    (V : Val) (hj : V.L 0 = featL (shp x y) 12) : @AnsQ V q.f [earF x y] (featAns (featL (shp x y) 12).isEmpty).1 (featAns (featL (shp x y) 12).isEmpty).2 := by
  intro w hr
  refine fn_loop (κ := Nat × Bool) (fnm x y) (fun _ => undef) q.tb [] q.f [earR 0] (fpat q) (fΦ x y (shp x y)) htb (idI fids ++ eids) (List.range q.pre.length) (0, false) 12 hq.enter ((fnm x y).upd (idI fids ++ eids) (fnext (shp x y) 0 (fnm x y))) (fun W' => upd_holds _ _ _ _ W') ?_ (DQ V (featAns (featL (shp x y) 12).isEmpty).1 (featAns (featL (shp x y) 12).isEmpty).2) ?_ w hr [earF x y] (@nval_flat ((fnm x y).val fun _ => undef) w [earR 0] rfl)
  · have e0 : idI fids ++ eids = idI fids ++ (eids ++ []) := by rw [List.append_nil]
    rw [e0]
    refine ⟨⟨fun i hi => ?_, fun i hi => eids_updB _ _ _ i hi⟩, Nat.zero_le _, rfl, fun i hi => ?_, rfl, rfl, rfl⟩
    · rw [eids_upd _ _ _ i hi]
      show (if i < 20 then x i else shp x y (i - 20)) = _
      rw [if_pos (by omega)]
    · rw [fids_upd _ _ _ i hi]
      show (if 20 + i < 20 then x (20 + i) else shp x y (20 + i - 20)) = _
      rw [if_neg (by omega), Nat.add_sub_cancel_left]
  · intro w n k c hΦ W
    obtain ⟨k, ne⟩ := k
    have hk12 : k ≤ 12 := hΦ.2.1
    rcases Nat.lt_or_ge k 12 with hk | hk
    · exact step_again (froundTb q k (shp x y k == 0)) [] (fround_tb q hΦ hk W (hY k hk c hΦ.1.1 hΦ.1.2 hΦ.2.2.2.1 W)) (flist k ne (shp x y k == 0)) (fblk q.pre.length ne (shp x y k == 0)) (k + 1, ne || !(shp x y k == 0)) (fnext (shp x y) (k + 1) c) (all2_all (all2_all (allU_lt hq.rounds k hk) ne) (shp x y k == 0)) (fround_next hΦ hk)
    · obtain rfl : k = 12 := by omega
      have hne : ne = !(featL (shp x y) 12).isEmpty := hΦ.2.2.2.2.2.2
      have h0 : c.L 0 = featL (shp x y) 12 := hΦ.2.2.2.2.1
      have ho := all2_all hq.outs ne
      cases hE : (featL (shp x y) 12).isEmpty with
      | true =>
        rw [hE] at hne
        subst hne
        exact step_outQ {} [] (tb0 (c.val W)) V [] [] _ _ ho rfl ⟨(fun j r h => by cases h), (fun j r h => by cases h), (fun j r h => by cases h), (fun j r h => by cases h), (fun j r h => by cases h)⟩
      | false =>
        rw [hE] at hne
        subst hne
        refine step_outQ {} [] (tb0 (c.val W)) V [.lst 0 0] [q.pre.length] _ _ ho rfl ⟨(fun j r h => by cases h), (fun j r h => by cases h), (fun j r h => by cases h), (fun j k h => ?_), (fun j r h => ?_)⟩
        · have h : (match Nat.beq 0 j with | true => some (Sum.inl 0) | false => none) = some (Sum.inl k) := h
          split at h
          · rename_i hj0
            obtain rfl := Nat.eq_of_beq_eq_true hj0
            cases h
            rw [hj]
            exact h0.symm
          · cases h
        · have h : (match Nat.beq 0 j with | true => some (Sum.inl 0) | false => none) = some (Sum.inr r) := h
          split at h
          · cases h
          · cases h
theorem features_ans (x : Nat → Int) (y : Nat → Bool) (hv : valB x = true) (V : Val) (hj : V.L 0 = featL (shp x y) 12) : @AnsQ V fFeatures [earF x y] (featAns (featL (shp x y) 12).isEmpty).1 (featAns (featL (shp x y) 12).isEmpty).2 := by
  refine feat_fn fq f_runs x y ?_ (by intro k _ c _ _ _ W e he; cases he) V hj
  letI : Val := (fnm x y).val fun _ => undef
  refine { Y := ?_ }
  intro e he
  simp only [fq, List.mem_cons, List.not_mem_nil, or_false] at he
  rcases he with rfl | rfl
  · have := chk_ans x y
    rw [if_pos hv] at this
    exact this
  · exact shape_ans x y
def badA : RV := .pl (.tuple #[.slice none 0 0, .int .i64 10])
noncomputable def fbadRun : Bool := doneQ { Y := [⟨fCheck, [earR 0], lI 10⟩] } [] fFeatures [earR 0] [] [] badA []
set_option maxRecDepth 100000 in
theorem fbad_run : fbadRun = true := by kernel_rfl
theorem noHolds (V V' : Val) : Holds [] V V' := ⟨(fun j r h => by cases h), (fun j r h => by cases h), (fun j r h => by cases h), (fun j r h => by cases h), (fun j r h => by cases h)⟩
theorem features_bad (x : Nat → Int) (y : Nat → Bool) (hv : valB x = false) : Ans fFeatures [earF x y] (.tuple #[.slice none 0 0, .int .i64 10]) := by
  refine @ans_dq V0 _ _ _ [] fun w hr => ?_
  refine done_calls (VE x y) V0 (t := { Y := [⟨fCheck, [earR 0], lI 10⟩] }) (plan := []) (ds := [earR 0]) ?_ fbad_run rfl (noHolds _ _) w hr [earF x y] (@nval_flat (VE x y) w [earR 0] rfl)
  letI : Val := VE x y
  refine { Y := ?_ }
  intro e he
  simp only [List.mem_cons, List.not_mem_nil, or_false] at he
  rcases he with rfl
  have := chk_ans x y
  rw [if_neg (by simp [hv])] at this
  exact this
end Go.Proofs.Z

namespace Go.Proofs.Z
open Go Go.RowKit Go.Proofs Go.Ri
/-! Two slices that hold one list of features. -/
def intOf : Value → Int
  | .int _ n => n
  | _ => 0
def ints (l : List Value) : Prop := ∀ v, v ∈ l → ∃ n, v = .int .i64 n
theorem row4 {l : List Value} (hl : ints l) (i : Nat) (h : i * 4 + 4 ≤ l.length) : (l.drop (i * 4)).take 4 = [.int .i64 (intOf (l.getD (i * 4) undef)), .int .i64 (intOf (l.getD (i * 4 + 1) undef)), .int .i64 (intOf (l.getD (i * 4 + 2) undef)), .int .i64 (intOf (l.getD (i * 4 + 3) undef))] := by
  have cell : ∀ j, j < l.length → Value.int .i64 (intOf (l.getD j undef)) = l.getD j undef := fun j hj => by
    obtain ⟨n, hn⟩ := hl (l[j]) (List.getElem_mem hj)
    have e : l.getD j undef = l[j] := by rw [List.getD_eq_getElem?_getD, List.getElem?_eq_getElem hj]; rfl
    rw [e, hn]
    rfl
  rw [cell _ (by omega), cell _ (by omega), cell _ (by omega), cell _ (by omega)]
  apply List.ext_getElem?
  intro j
  rw [List.getElem?_take]
  split
  · rename_i hj
    rw [List.getElem?_drop]
    have g : ∀ k, k < l.length → l[k]? = some (l.getD k undef) := fun k hk => by
      rw [List.getD_eq_getElem?_getD, List.getElem?_eq_getElem hk]; rfl
    rw [g _ (by omega)]
    match j, hj with
    | 0, _ => rfl
    | 1, _ => rfl
    | 2, _ => rfl
    | 3, _ => rfl
  · rename_i hj
    rw [List.getElem?_eq_none]
    simp
    omega
noncomputable def snm (l : List Value) (n i : Nat) : Nm := ⟨fun j => match j with
  | 0 => i
  | 1 => n
  | 2 => intOf (l.getD (i * 4) undef)
  | 3 => intOf (l.getD (i * 4 + 1) undef)
  | 4 => intOf (l.getD (i * 4 + 2) undef)
  | 5 => intOf (l.getD (i * 4 + 3) undef)
  | _ => (i : Int) + 1, fun _ => false, fun _ => ⟨#[]⟩, fun _ => l⟩
noncomputable def sTb (b : Bool) : Tb := { LL := [⟨0, 4, sI 1⟩], T := [⟨.bin .lss, sI 0, sI 1, bR b⟩, ⟨.inb, sI 0, sI 1, bR b⟩, ⟨.bin .add, sI 0, lI 1, sI 6⟩], LX := if b then [⟨0, 0, [sI 2, sI 3, sI 4, sI 5]⟩] else [] }
noncomputable def sds : List RV := [.slN 0 0 4, .slN 0 0 4]
noncomputable def spat (_ : Unit) : St := ⟨patW [(0, .slA 0 0 4), (1, .slA 1 0 4), (5, sI 0)] 26 0, [some (.lstA 0), some (.lstA 0)]⟩
noncomputable def sEnter : Tb := { LL := [⟨0, 4, sI 1⟩] }
set_option maxRecDepth 100000 in
theorem s_enter : enterT sEnter [] fSameFeatures sds [.int 0 (lI 0), .lst 0 0] [0, 1] (spat ()) = true := by kernel_rfl
set_option maxRecDepth 100000 in
theorem s_again : againT (sTb true) [] (hB sEnter [] fSameFeatures sds) (hK sEnter [] fSameFeatures sds) (spat ()) [.int 0 (sI 6), .lst 0 0] [0, 1] (spat ()) = true := by kernel_rfl
set_option maxRecDepth 100000 in
theorem s_out : outF (sTb false) [] fSameFeatures (hB sEnter [] fSameFeatures sds) (hK sEnter [] fSameFeatures sds) (spat ()) (bR true) = true := by kernel_rfl
theorem te_add1 [Val] (i j : Nat) (a : Int) (hi : Val.I i = a) (hj : Val.I j = a + 1) (h0 : 0 ≤ a) (h1 : a ≤ 1000000000) : TETrue ⟨.bin .add, sI i, lI 1, sI j⟩ := by
  refine ⟨rfl, ?_⟩
  have e : IntKind.i64.wrap (a + 1) = a + 1 := IntWalk.i64_in _ (by omega)
  show TCTrue (.bin .add) (.int .i64 (Val.I i)) (.int .i64 1) (.int .i64 (Val.I j))
  rw [hi, hj]
  have := t_add .i64 a 1
  rw [e] at this
  exact this
theorem te_lss [Val] (i j : Nat) (b : Bool) (h : decide (Val.I i < Val.I j) = b) : TETrue ⟨.bin .lss, sI i, sI j, bR b⟩ := ⟨rfl, by rw [← h]; exact t_lss .i64 _ _⟩
theorem te_inb [Val] (i j : Nat) (b : Bool) (h : decide (0 ≤ Val.I i ∧ Val.I i < Val.I j) = b) : TETrue ⟨.inb, sI i, sI j, bR b⟩ := ⟨rfl, .i64, .i64, _, _, rfl, rfl, by rw [h]; rfl⟩
theorem same_ans (V : Val) (l : List Value) (hL : V.L 0 = l) (hl : ints l) (n : Nat) (hn : l.length = n * 4) (hb : n ≤ 1000000) : @AnsN V fSameFeatures sds (.bool true) := by
  intro w hr vs hv
  have tb : ∀ i, i ≤ n → ∀ W b, b = decide (i < n) → @TbOK ((snm l n i).val W) (sTb b) := by
    intro i hi W b hb'
    letI : Val := (snm l n i).val W
    refine { LL := ?_, T := ?_, LX := ?_ }
    · intro e he
      simp only [sTb, List.mem_cons, List.not_mem_nil, or_false] at he
      rcases he with rfl | rfl | rfl
      · refine te_lss 0 1 b ?_
        show decide ((i : Int) < (n : Int)) = b
        rw [hb']
        simp
      · refine te_inb 0 1 b ?_
        show decide (0 ≤ (i : Int) ∧ (i : Int) < (n : Int)) = b
        rw [hb']
        simp
      · exact te_add1 0 6 i rfl rfl (by omega) (by omega)
    · intro e he
      simp only [sTb, List.mem_cons, List.not_mem_nil, or_false] at he
      subst he
      exact ⟨rfl, n, Nat.succ_pos 3, hn, rfl⟩
    · intro e he
      cases b with
      | false => cases he
      | true =>
        have hlt : i < n := by simpa using hb'.symm
        simp only [sTb, if_true, List.mem_cons, List.not_mem_nil, or_false] at he
        subst he
        have h4 : i * 4 + 4 ≤ l.length := by omega
        refine ⟨rfl, ?_, ?_⟩
        · show ((i : Int)).toNat * 4 + 4 ≤ l.length
          simpa using h4
        · show (l.drop (((i : Int)).toNat * 4)).take 4 = _
          rw [Int.toNat_natCast, row4 hl i h4]
          rfl
  refine fn_loop (κ := Unit) (snm l n 0) (fun _ => undef) sEnter [] fSameFeatures sds spat (fun m _ c => ∃ i, i ≤ n ∧ m = n - i ∧ c = snm l n i) ?_ [.int 0 (lI 0), .lst 0 0] [0, 1] () n s_enter (snm l n 0) ?_ ⟨0, Nat.zero_le _, rfl, rfl⟩ (DF (.bool true)) ?_ w hr vs ?_
  · letI : Val := (snm l n 0).val fun _ => undef
    refine { LL := ?_ }
    intro e he
    simp only [sEnter, List.mem_cons, List.not_mem_nil, or_false] at he
    subst he
    exact ⟨rfl, n, Nat.succ_pos 3, hn, rfl⟩
  · intro W'
    refine holds_all fun e he => ?_
    simp only [List.mem_cons, List.not_mem_nil, or_false] at he
    rcases he with rfl | rfl
    · exact ⟨.i64, 0, rfl, rfl⟩
    · rfl
  · rintro w m k c ⟨i, hi, rfl, rfl⟩ W
    by_cases hlt : i < n
    · refine step_to (sTb true) [] (tb i hi W true (by simp [hlt])) [.int 0 (sI 6), .lst 0 0] [0, 1] () (snm l n (i + 1)) s_again ?_ ⟨n - (i + 1), by omega, i + 1, hlt, rfl, rfl⟩
      intro W'
      refine holds_all fun e he => ?_
      simp only [List.mem_cons, List.not_mem_nil, or_false] at he
      rcases he with rfl | rfl
      · exact ⟨.i64, (i : Int) + 1, rfl, rfl⟩
      · rfl
    · exact step_outF (sTb false) [] (tb i hi W false (by simp [hlt])) (bR true) s_out rfl
  · cases hv with
    | cons h1 h2 =>
      cases h2 with
      | cons h2 h3 =>
        cases h3
        obtain ⟨a, m, cap, g1, g2, g3, g4, g5, g6⟩ := h1
        obtain ⟨a', m', cap', k1, k2, k3, k4, k5, k6⟩ := h2
        rw [hL] at g2 g4 g6 k2 k4 k6
        exact .cons ⟨a, m, cap, g1, g2, g3, g4, g5, g6⟩ (.cons ⟨a', m', cap', k1, k2, k3, k4, k5, k6⟩ .nil)
end Go.Proofs.Z

namespace Go.Proofs.Z
open Go Go.RowKit Go.Proofs Go.Ri
/-! The ear of a row (package ear). -/
def eoT (b0 b1 b2 : Bool) : List TE := [⟨.ieq, sI 29, lI 0, bR (!b0)⟩, ⟨.ieq, sI 30, lI 0, bR (!b1)⟩, ⟨.ieq, sI 31, lI 0, bR (!b2)⟩]
noncomputable def eoRun (b0 b1 b2 : Bool) : Bool := runOK noX (eoT b0 b1 b2) [] 1000 10 fEar [shapeR 20] (.agg [sI 20, sI 21, sI 22, sI 23, sI 24, sI 25, sI 26, sI 27, sI 28, bR b0, bR b1, bR b2])
set_option maxRecDepth 100000 in
theorem eo_run : (all2 fun a => all2 fun b => all2 fun c => eoRun a b c) = true := by kernel_rfl
/-- The bits of a row. -/
def bitY (s : Nat → Int) : Nat → Bool := fun i => !(s (9 + i) == 0)
theorem ear_ans (s : Nat → Int) : Ans fEar [shapeF s] (earF s (bitY s)) := by
  have h := all2_all (all2_all (all2_all eo_run (bitY s 0)) (bitY s 1)) (bitY s 2)
  refine @ans (VE (fun j => s (j - 20)) fun _ => false) noX _ [] noX_true ?_ (by intro e he; cases he) _ _ _ _ _ h
  intro e he
  simp only [eoT, List.mem_cons, List.not_mem_nil, or_false] at he
  rcases he with rfl | rfl | rfl
  · exact ⟨rfl, by show TCTrue .ieq (.int .i64 (s 9)) (.int .i64 0) (.bool !!(s 9 == 0)); rw [Bool.not_not]; exact t_ieq .i64 (s 9) 0⟩
  · exact ⟨rfl, by show TCTrue .ieq (.int .i64 (s 10)) (.int .i64 0) (.bool !!(s 10 == 0)); rw [Bool.not_not]; exact t_ieq .i64 (s 10) 0⟩
  · exact ⟨rfl, by show TCTrue .ieq (.int .i64 (s 11)) (.int .i64 0) (.bool !!(s 11 == 0)); rw [Bool.not_not]; exact t_ieq .i64 (s 11) 0⟩
end Go.Proofs.Z
