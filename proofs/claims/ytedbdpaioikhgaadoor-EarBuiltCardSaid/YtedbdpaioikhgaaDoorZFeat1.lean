/- A part of the proofs that the laws of layer one answer true for every input. -/
import Derived.Test.YtedbdpaioikhgaaDoorZFeat0
namespace Go.Proofs.Z
open Go Go.RowKit Go.Proofs Go.Ri
/-! The features of a row of values. -/
def featC (p : Nat) (v : Int) : List Value :=
  if p = 0 then [.int .i64 1, .int .i64 0, .int .i64 0, .int .i64 v]
  else if p < 5 then [.int .i64 2, .int .i64 0, .int .i64 ((p - 1 : Nat) : Int), .int .i64 v]
  else if p < 9 then [.int .i64 2, .int .i64 1, .int .i64 ((p - 5 : Nat) : Int), .int .i64 v]
  else [.int .i64 3, .int .i64 0, .int .i64 ((p - 9 : Nat) : Int), .int .i64 0]
def featL (s : Nat → Int) : Nat → List Value
  | 0 => []
  | k + 1 => featL s k ++ if s k = 0 then [] else featC k (s k)
def featR (p i : Nat) : List RV :=
  if p = 0 then [lI 1, lI 0, lI 0, sI i]
  else if p < 5 then [lI 2, lI 0, lI ((p - 1 : Nat) : Int), sI i]
  else if p < 9 then [lI 2, lI 1, lI ((p - 5 : Nat) : Int), sI i]
  else [lI 3, lI 0, lI ((p - 9 : Nat) : Int), lI 0]
theorem featR_cv (c : Nm) (p i : Nat) : (featR p i).map c.cV = featC p (c.I i) := by
  unfold featR featC
  split
  · rfl
  · split
    · rfl
    · split <;> rfl
theorem featC_len (p : Nat) (v : Int) : (featC p v).length = 4 := by
  unfold featC
  split
  · rfl
  · split
    · rfl
    · split <;> rfl
theorem featC_one (p : Nat) (v : Int) : ∀ u, u ∈ featC p v → u.oneCell' = true := by
  intro u hu
  unfold featC at hu
  split at hu
  · simp at hu; rcases hu with rfl | rfl | rfl <;> rfl
  · split at hu
    · simp at hu; rcases hu with rfl | rfl | rfl | rfl <;> rfl
    · split at hu <;> (simp at hu; rcases hu with rfl | rfl | rfl | rfl <;> rfl)
theorem featL_len (s : Nat → Int) : ∀ k, (featL s k).length ≤ 4 * k
  | 0 => Nat.le_refl _
  | k + 1 => by
    have h1 := featL_len s k
    show (featL s k ++ if s k = 0 then [] else featC k (s k)).length ≤ _
    rw [List.length_append]
    split
    · simp; omega
    · rw [featC_len]; omega
theorem featL_one (s : Nat → Int) : ∀ k, ∀ u, u ∈ featL s k → u.oneCell' = true
  | 0, u, hu => by cases hu
  | k + 1, u, hu => by
    have hu : u ∈ featL s k ++ (if s k = 0 then [] else featC k (s k)) := hu
    rcases List.mem_append.1 hu with hu | hu
    · exact featL_one s k u hu
    · split at hu
      · cases hu
      · exact featC_one _ _ u hu
theorem featL_div (s : Nat → Int) : ∀ k, ∃ n, (featL s k).length = n * 4
  | 0 => ⟨0, rfl⟩
  | k + 1 => by
    obtain ⟨n, hn⟩ := featL_div s k
    show ∃ m, (featL s k ++ if s k = 0 then [] else featC k (s k)).length = m * 4
    rw [List.length_append, hn]
    split
    · exact ⟨n, by simp⟩
    · exact ⟨n + 1, by rw [featC_len]; omega⟩

/-! A loop over the places that gathers features. -/
def fids : List Nat := [20, 21, 22, 23, 24, 25, 26, 27, 28, 29, 30, 31]
def eids : List SE := idI [0, 1, 2, 3, 4, 5, 6, 7, 8] ++ idB [0, 1, 2]
/-- The function, what its run knows at the start, its temporaries: of the list, of the row of values, of the number; the blocks ahead of the list's; what a round knows more. -/
structure FP where
  f : FuncId
  tb : Tb
  n : Nat
  l : Nat
  s : Nat
  k : Nat
  row : RV
  pre : RH
  Y : Nat → List YE
noncomputable def fpat (q : FP) (k : Nat × Bool) : St :=
  ⟨patW [(q.l, if k.2 then .slN q.pre.length 0 4 else nilR), (q.s, q.row), (q.k, lI k.1)] q.n 0, q.pre ++ if k.2 then [some (.lst 0 47 true)] else []⟩
noncomputable def froundTb (q : FP) (k : Nat) (b : Bool) : Tb := { T := [⟨.ieq, sI (20 + k), lI 0, bR b⟩], LA := if b then [] else [⟨0, featR k (20 + k), 1⟩], Y := q.Y k }
def flist (k : Nat) (ne b : Bool) : List SE := idI fids ++ (eids ++ if ne then (if b then [.lst 0 0] else [.lst 0 1]) else (if b then [] else [.new 0 (featR k (20 + k))]))
def fblk (p : Nat) (ne b : Bool) : List Nat := List.range p ++ if ne then (if b then [p] else [p + 2]) else (if b then [] else [p + 1])
noncomputable def fround (q : FP) (k : Nat) (ne b : Bool) : Bool := againT (froundTb q k b) [] (hB q.tb [] q.f [earR 0]) (hK q.tb [] q.f [earR 0]) (fpat q (k, ne)) (flist k ne b) (fblk q.pre.length ne b) (fpat q (k + 1, ne || !b))
noncomputable def foutQ (q : FP) (ne : Bool) : Bool := outQ {} [] q.f (hB q.tb [] q.f [earR 0]) (hK q.tb [] q.f [earR 0]) (fpat q (12, ne)) (if ne then [.lst 0 0] else []) (if ne then [q.pre.length] else []) (if ne then .tup [.slN 0 0 4, lI 0] else .pl (.tuple #[.slice none 0 0, .int .i64 0])) (if ne then [some (.lst 0 47 true)] else [])
/-- What the runs show. -/
structure FRuns (q : FP) : Prop where
  enter : enterT q.tb [] q.f [earR 0] (idI fids ++ eids) (List.range q.pre.length) (fpat q (0, false)) = true
  rounds : (allU 12 fun k => all2 fun ne => all2 fun b => fround q k ne b) = true
  outs : (all2 (foutQ q)) = true
/-- Features of package ear. -/
noncomputable def fq : FP := ⟨fFeatures, { Y := [⟨fCheck, [earR 0], lI 0⟩, ⟨fShapeOf, [earR 0], shapeR 20⟩] }, 29, 5, 14, 15, shapeR 20, [], fun _ => []⟩
set_option maxRecDepth 100000 in
theorem f_enter : enterT fq.tb [] fq.f [earR 0] (idI fids ++ eids) (List.range fq.pre.length) (fpat fq (0, false)) = true := by kernel_rfl
set_option maxRecDepth 100000 in
theorem f_rounds : (allU 12 fun k => all2 fun ne => all2 fun b => fround fq k ne b) = true := by kernel_rfl
set_option maxRecDepth 100000 in
theorem f_outs : (all2 (foutQ fq)) = true := by kernel_rfl
theorem f_runs : FRuns fq := ⟨f_enter, f_rounds, f_outs⟩
end Go.Proofs.Z
