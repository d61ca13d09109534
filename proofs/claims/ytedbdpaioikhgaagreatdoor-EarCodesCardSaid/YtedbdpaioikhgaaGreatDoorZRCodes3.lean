/- A part of the proofs that the laws of layer one answer true for every input. -/
import Derived.Test.YtedbdpaioikhgaaGreatDoorZRCodes2
namespace Go.Proofs.Z
open Go Go.RowKit Go.Proofs Go.Ri
def earTB (t : Nat) (a b c : Bool) : RV := .agg [lI t, sI 1, sI 2, sI 3, sI 4, sI 5, sI 6, sI 7, sI 8, bR a, bR b, bR c]
def rfTs (t : Nat) (a b c : Bool) : List TE := [⟨.bin .lss, sI 60, lI 0, bR false⟩, ⟨.bin .geq, sI 60, lI 44176, bR false⟩, ⟨.bin .quo, sI (60 + t), lI 8, sI 70⟩, ⟨.bin .quo, sI 70, lI (numT t), sI 71⟩, ⟨.bin .rem, sI 70, lI (numT t), sI 72⟩,
  ⟨.inb, sI 71, lI (numT t), bR true⟩, ⟨.inb, sI 72, lI (numT t), bR true⟩,
  ⟨.bin .quo, sI (60 + t), lI 4, sI 74⟩, ⟨.bin .rem, sI 74, lI 2, sI 75⟩, ⟨.ieq, sI 75, lI 1, bR a⟩, ⟨.bin .quo, sI (60 + t), lI 2, sI 76⟩, ⟨.bin .rem, sI 76, lI 2, sI 77⟩, ⟨.ieq, sI 77, lI 1, bR b⟩, ⟨.bin .rem, sI (60 + t), lI 2, sI 78⟩, ⟨.ieq, sI 78, lI 1, bR c⟩]
noncomputable def rfNs (t : Nat) : List NE := [⟨flatL (edgesOf (slotsT t)), 71, edgeL 1⟩, ⟨flatL (edgesOf (slotsT t)), 72, edgeL 5⟩]
noncomputable def rfRun (t : Nat) (a b c : Bool) : Bool := runOKN rX rF (rfTs t a b c ++ (subTs t ++ subTs2 t)) [] [] (rfNs t) 1000 20 fRFromCode [sI 60] (.tup [earTB t a b c, lI 0])
set_option maxRecDepth 100000 in
theorem rf_run : (allN (fun t => all2 fun a => all2 fun b => all2 fun c => rfRun t a b c) 5) = true := by kernel_rfl
noncomputable def rfNo (b : Bool) : Bool := runOK rX (noTs b) [] 1000 20 fRFromCode [sI 60] (.tup [zeroR, lI 1])
set_option maxRecDepth 100000 in
theorem rf_no : all2 rfNo = true := by kernel_rfl
theorem rfrom_no_ans (n : Int) (h : n < 0 ∨ n ≥ 44176) : Ans fRFromCode [intV n] (.tuple #[earF zeroX zeroY, intV 1]) := by
  let V := VE (fun _ => n) fun _ => false
  have hT : ∀ e ∈ noTs (decide (n < 0)), @TETrue V e := by
    intro e he
    by_cases hn : n < 0
    · rw [decide_eq_true hn] at he
      simp only [noTs, List.mem_cons, List.not_mem_nil, or_false] at he
      rcases he with rfl
      exact @te_lss V _ _ n 0 rfl rfl _ (by symm; simpa using hn)
    · rw [decide_eq_false hn] at he
      simp only [noTs, List.mem_cons, List.not_mem_nil, or_false] at he
      rcases he with rfl | rfl
      · exact @te_lss V _ _ n 0 rfl rfl _ (by symm; simpa using hn)
      · exact @te_geq V _ _ n 44176 rfl rfl _ (by symm; simp; omega)
  exact @ans V rX _ _ rX_true hT (by intro e he; cases he) _ _ _ _ _ (all2_all rf_no (decide (n < 0)))
/-- The element of the list is the edge. -/
theorem flatL_at (l : List (List Int)) : ∀ k, k < l.length → ((flatL l).drop (k * 4)).take 4 = [lI (nthI (nthL l k) 0), lI (nthI (nthL l k) 1), lI (nthI (nthL l k) 2), lI (nthI (nthL l k) 3)] := by
  induction l with
  | nil => intro k hk; cases hk
  | cons x l ih =>
    intro k hk
    have e : flatL (x :: l) = lI (nthI x 0) :: lI (nthI x 1) :: lI (nthI x 2) :: lI (nthI x 3) :: flatL l := rfl
    cases k with
    | zero => rw [e]; rfl
    | succ k =>
      rw [e, show (k + 1) * 4 = k * 4 + 4 by omega]
      have := ih k (by simpa using hk)
      have e2 : nthL (x :: l) (k + 1) = nthL l k := rfl
      rw [e2, ← this]
      rfl
theorem flatL_len (l : List (List Int)) : (flatL l).length = l.length * 4 := by
  induction l with
  | nil => rfl
  | cons x l ih =>
    have e : flatL (x :: l) = lI (nthI x 0) :: lI (nthI x 1) :: lI (nthI x 2) :: lI (nthI x 3) :: flatL l := rfl
    rw [e]
    simp only [List.length_cons, ih]
    omega
theorem flatL_flat (l : List (List Int)) : (flatL l).all flat0 = true := by
  induction l with
  | nil => rfl
  | cons x l ih =>
    have e : flatL (x :: l) = lI (nthI x 0) :: lI (nthI x 1) :: lI (nthI x 2) :: lI (nthI x 3) :: flatL l := rfl
    rw [e]
    simp only [List.all_cons, ih]
    rfl
theorem edges_len (s : Nat) (hs : s = 3 ∨ s = 4) : (edgesOf s).length = numE s := by
  rcases hs with rfl | rfl <;> rfl
theorem ne_true [Val] (s : Nat) (hs : s = 3 ∨ s = 4) (i j k : Nat) (hk : k < numE s) (hi : Val.I i = (k : Nat)) (hj : ∀ q, q < 4 → Val.I (j + q) = edgeAt s k q) : NTrue ⟨flatL (edgesOf s), i, edgeL j⟩ := by
  have hl := edges_len s hs
  refine ⟨flatL_flat _, rfl, ?_, ?_⟩
  · show (Val.I i).toNat * 4 + 4 ≤ (flatL (edgesOf s)).length
    rw [hi, flatL_len, hl]
    simp only [Int.toNat_natCast]
    omega
  · show (((flatL (edgesOf s)).map cv).drop ((Val.I i).toNat * 4)).take 4 = (edgeL j).map cv
    rw [hi, Int.toNat_natCast, ← List.map_drop, ← List.map_take, flatL_at _ k (by rw [hl]; exact hk)]
    have h0 : Val.I j = _ := hj 0 (by decide)
    have h1 := hj 1 (by decide)
    have h2 := hj 2 (by decide)
    have h3 := hj 3 (by decide)
    show [Value.int .i64 _, Value.int .i64 _, Value.int .i64 _, Value.int .i64 _] = [Value.int .i64 (Val.I j), Value.int .i64 (Val.I (j + 1)), Value.int .i64 (Val.I (j + 2)), Value.int .i64 (Val.I (j + 3))]
    rw [h0, h1, h2, h3]
    rfl
end Go.Proofs.Z
