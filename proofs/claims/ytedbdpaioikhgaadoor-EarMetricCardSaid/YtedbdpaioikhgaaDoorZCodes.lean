/- A part of the proofs that the laws of layer one answer true for every input. -/
import Derived.Test.YtedbdpaioikhgaaDoorZHook
import Derived.IntWalk
namespace Go.Proofs.Z
open Go Go.RowKit Go.Proofs Go.Ri
/-! The edges, in their order. -/
def edges4 : List (List Int) := [[0, 0, 0, 0], [0, 0, 0, 1], [0, 0, 0, 2], [0, 0, 0, 3], [0, 0, 1, 0], [0, 0, 2, 0], [0, 0, 3, 0], [0, 1, 0, 0], [0, 1, 0, 1], [0, 1, 0, 2], [0, 1, 0, 3], [0, 2, 0, 0], [0, 2, 0, 1], [0, 2, 0, 2], [0, 2, 0, 3], [0, 3, 0, 0], [0, 3, 0, 1], [0, 3, 0, 2], [0, 3, 0, 3], [1, 0, 0, 0], [1, 0, 0, 1], [1, 0, 0, 2], [1, 0, 0, 3], [1, 0, 1, 0], [1, 0, 2, 0], [1, 0, 3, 0], [2, 0, 0, 0], [2, 0, 0, 1], [2, 0, 0, 2], [2, 0, 0, 3], [2, 0, 1, 0], [2, 0, 2, 0], [2, 0, 3, 0], [3, 0, 0, 0], [3, 0, 0, 1], [3, 0, 0, 2], [3, 0, 0, 3], [3, 0, 1, 0], [3, 0, 2, 0], [3, 0, 3, 0]]
def edges3 : List (List Int) := [[0, 0, 0, 0], [0, 0, 1, 0], [0, 0, 2, 0], [0, 0, 3, 0], [0, 1, 0, 0], [0, 2, 0, 0], [0, 3, 0, 0], [1, 0, 0, 0], [1, 0, 1, 0], [1, 0, 2, 0], [1, 0, 3, 0], [2, 0, 0, 0], [2, 0, 1, 0], [2, 0, 2, 0], [2, 0, 3, 0], [3, 0, 0, 0], [3, 0, 1, 0], [3, 0, 2, 0], [3, 0, 3, 0]]
def edgesOf (s : Nat) : List (List Int) := if Nat.beq s 3 then edges3 else edges4
def numE (s : Nat) : Nat := if Nat.beq s 3 then 19 else 40
noncomputable def nthL (l : List (List Int)) (k : Nat) : List Int := List.rec (motive := fun _ => Nat → List Int) (fun _ => []) (fun x _ ih i => Nat.rec (motive := fun _ => List Int) x (fun j _ => ih j) i) l k
noncomputable def nthI (l : List Int) (k : Nat) : Int := List.rec (motive := fun _ => Nat → Int) (fun _ => 0) (fun x _ ih i => Nat.rec (motive := fun _ => Int) x (fun j _ => ih j) i) l k
/-- The edge with an index. -/
noncomputable def edgeAt (s k : Nat) : Nat → Int := nthI (nthL (edgesOf s) k)
noncomputable def litE (x : Nat → Int) : RV := .agg [lI (x 0), lI (x 1), lI (x 2), lI (x 3)]
noncomputable def ecRun (s k : Nat) : Bool := runOK noX [] [] 1000 10 fEdgeCode [litE (edgeAt s k), lI s] (lI k)
noncomputable def efRun (s k : Nat) : Bool := runOK noX [] [] 1000 10 fEdgeFromCode [lI k, lI s] (litE (edgeAt s k))
set_option maxRecDepth 100000 in
theorem ec3 : allN (ecRun 3) 19 = true := by kernel_rfl
set_option maxRecDepth 100000 in
theorem ec4 : allN (ecRun 4) 40 = true := by kernel_rfl
set_option maxRecDepth 100000 in
theorem ef3 : allN (efRun 3) 19 = true := by kernel_rfl
set_option maxRecDepth 100000 in
theorem ef4 : allN (efRun 4) 40 = true := by kernel_rfl
theorem ec_ans (s : Nat) (hs : s = 3 ∨ s = 4) (k : Nat) (hk : k < numE s) : Ans fEdgeCode [edgeF (edgeAt s k), .int .i64 s] (intV k) := by
  rcases hs with rfl | rfl
  · exact @ans V0 noX _ [] noX_true (by intro e he; cases he) (by intro e he; cases he) _ _ _ _ _ (allN_lt ec3 k hk)
  · exact @ans V0 noX _ [] noX_true (by intro e he; cases he) (by intro e he; cases he) _ _ _ _ _ (allN_lt ec4 k hk)
theorem ef_ans (s : Nat) (hs : s = 3 ∨ s = 4) (k : Nat) (hk : k < numE s) : Ans fEdgeFromCode [intV k, .int .i64 s] (edgeF (edgeAt s k)) := by
  rcases hs with rfl | rfl
  · exact @ans V0 noX _ [] noX_true (by intro e he; cases he) (by intro e he; cases he) _ _ _ _ _ (allN_lt ef3 k hk)
  · exact @ans V0 noX _ [] noX_true (by intro e he; cases he) (by intro e he; cases he) _ _ _ _ _ (allN_lt ef4 k hk)
def hBit (h i : Nat) : Bool := Nat.beq (Nat.mod (Nat.div h (Nat.pow 2 (Nat.sub 2 i))) 2) 1
noncomputable def hfRun (h : Nat) : Bool := runOK noX [] [] 1000 10 fHolesFromCode [lI h] (.agg [bR (hBit h 0), bR (hBit h 1), bR (hBit h 2)])
set_option maxRecDepth 100000 in
theorem hf_run : allN hfRun 8 = true := by kernel_rfl
theorem hf_ans (h : Nat) (hh : h < 8) : Ans fHolesFromCode [intV h] (holesF (hBit h)) :=
  @ans V0 noX _ [] noX_true (by intro e he; cases he) (by intro e he; cases he) _ _ _ _ _ (allN_lt hf_run h hh)
/-! Every edge that Check lets by has an index. -/
noncomputable def sameE (x y : Nat → Int) : Bool := (x 0 == y 0) && (x 1 == y 1) && (x 2 == y 2) && (x 3 == y 3)
/-- The first index, from k on, at which the list has the row. -/
noncomputable def findE (x : Nat → Int) (l : List (List Int)) : Nat → Nat := List.rec (motive := fun _ => Nat → Nat) (fun k => k) (fun y _ ih k => match sameE x (nthI y) with | true => k | false => ih (Nat.succ k)) l
noncomputable def idxE (s : Nat) (x : Nat → Int) : Nat := findE x (edgesOf s) 0
noncomputable def of4 (a b c d : Nat) : Nat → Int := nthI [a, b, c, d]
noncomputable def hasRun (s a b c d : Nat) : Bool := match edgeB s (of4 a b c d) with
  | true => match Nat.ble (Nat.succ (idxE s (of4 a b c d))) (numE s) with
    | true => sameE (of4 a b c d) (edgeAt s (idxE s (of4 a b c d)))
    | false => false
  | false => true
set_option maxRecDepth 100000 in
theorem has3 : (allB fun a => allB fun b => allB fun c => allB fun d => hasRun 3 a b c d) = true := by kernel_rfl
set_option maxRecDepth 100000 in
theorem has4 : (allB fun a => allB fun b => allB fun c => allB fun d => hasRun 4 a b c d) = true := by kernel_rfl
theorem cls_small {x : Int} (h : Nat.beq (cls x) 2 = false) (h' : Nat.beq (cls x) 3 = false) : ∃ a : Nat, a < 4 ∧ x = a := by
  rw [cls2] at h
  rw [cls3] at h'
  have h1 : ¬ x < 0 := by simpa using h
  have h2 : ¬ x > 3 := by simpa using h'
  exact ⟨x.toNat, by omega, by omega⟩
theorem okC_small {s i p c : Nat} (h : (Nat.beq c 0 || !badC s i p c) = true) : Nat.beq c 2 = false ∧ Nat.beq c 3 = false := by
  unfold badC at h
  by_cases h2 : c = 2
  · subst h2; simp at h
  · by_cases h3 : c = 3
    · subst h3; simp at h
    · exact ⟨beq_ne h2, beq_ne h3⟩
theorem sameE_eq {x y : Nat → Int} (h : sameE x y = true) : edgeF x = edgeF y := by
  unfold sameE at h
  simp only [Bool.and_eq_true, beq_iff_eq] at h
  obtain ⟨⟨⟨h0, h1⟩, h2⟩, h3⟩ := h
  unfold edgeF
  rw [h0, h1, h2, h3]
theorem edgeF_inj {x y : Nat → Int} (h : edgeF x = edgeF y) : x 0 = y 0 ∧ x 1 = y 1 ∧ x 2 = y 2 ∧ x 3 = y 3 := by
  unfold edgeF at h
  simpa using h
theorem idx_of (s : Nat) (hs : s = 3 ∨ s = 4) (x : Nat → Int) (h : edgeB s x = true) : ∃ k, k < numE s ∧ edgeF x = edgeF (edgeAt s k) := by
  have h' := h
  unfold edgeB okC at h'
  simp only [Bool.and_eq_true] at h'
  obtain ⟨⟨⟨q0, q1⟩, q2⟩, q3⟩ := h'
  obtain ⟨a, ha, ea⟩ := cls_small (okC_small q0).1 (okC_small q0).2
  obtain ⟨b, hb, eb⟩ := cls_small (okC_small q1).1 (okC_small q1).2
  obtain ⟨c, hc, ec⟩ := cls_small (okC_small q2).1 (okC_small q2).2
  obtain ⟨d, hd, ed⟩ := cls_small (okC_small q3).1 (okC_small q3).2
  have ex : edgeF x = edgeF (of4 a b c d) := by
    show Value.agg #[.int .i64 (x 0), .int .i64 (x 1), .int .i64 (x 2), .int .i64 (x 3)] = _
    rw [ea, eb, ec, ed]
    rfl
  have eB : edgeB s (of4 a b c d) = edgeB s x := by
    obtain ⟨g0, g1, g2, g3⟩ := edgeF_inj ex
    unfold edgeB
    rw [g0, g1, g2, g3]
  have hr : hasRun s a b c d = true := by
    rcases hs with rfl | rfl
    · exact allB_lt (allB_lt (allB_lt (allB_lt has3 a ha) b hb) c hc) d hd
    · exact allB_lt (allB_lt (allB_lt (allB_lt has4 a ha) b hb) c hc) d hd
  unfold hasRun at hr
  rw [eB, h] at hr
  simp only at hr
  split at hr
  · rename_i hlt
    exact ⟨_, Nat.le_of_ble_eq_true hlt, ex.trans (sameE_eq hr)⟩
  · cases hr
end Go.Proofs.Z
