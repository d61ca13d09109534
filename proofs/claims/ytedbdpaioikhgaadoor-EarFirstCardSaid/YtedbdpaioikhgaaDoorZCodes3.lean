/- A part of the proofs that the laws of layer one answer true for every input. -/
import Derived.Test.YtedbdpaioikhgaaDoorZHook
import Derived.IntWalk
namespace Go.Proofs.Z
open Go Go.RowKit Go.Proofs Go.Ri
/-! The edges, in their order. -/
def edges4 : List (List Int) := [[0, 0, 0, 0], [0, 0, 0, 1], [0, 0, 0, 2], [0, 0, 0, 3], [0, 0, 1, 0], [0, 0, 2, 0], [0, 0, 3, 0], [0, 1, 0, 0], [0, 1, 0, 1], [0, 1, 0, 2], [0, 1, 0, 3], [0, 2, 0, 0], [0, 2, 0, 1], [0, 2, 0, 2], [0, 2, 0, 3], [0, 3, 0, 0], [0, 3, 0, 1], [0, 3, 0, 2], [0, 3, 0, 3], [1, 0, 0, 0], [1, 0, 0, 1], [1, 0, 0, 2], [1, 0, 0, 3], [1, 0, 1, 0], [1, 0, 2, 0], [1, 0, 3, 0], [2, 0, 0, 0], [2, 0, 0, 1], [2, 0, 0, 2], [2, 0, 0, 3], [2, 0, 1, 0], [2, 0, 2, 0], [2, 0, 3, 0], [3, 0, 0, 0], [3, 0, 0, 1], [3, 0, 0, 2], [3, 0, 0, 3], [3, 0, 1, 0], [3, 0, 2, 0], [3, 0, 3, 0]]
def edges3 : List (List Int) := [[0, 0, 0, 0], [0, 0, 1, 0], [0, 0, 2, 0], [0, 0, 3, 0], [0, 1, 0, 0], [0, 2, 0, 0], [0, 3, 0, 0], [1, 0, 0, 0], [1, 0, 1, 0], [1, 0, 2, 0], [1, 0, 3, 0], [2, 0, 0, 0], [2, 0, 1, 0], [2, 0, 2, 0], [2, 0, 3, 0], [3, 0, 0, 0], [3, 0, 1, 0], [3, 0, 2, 0], [3, 0, 3, 0]]
def edgesOf (s : Nat) : List (List Int) := if Nat.beq s 3 then edges3 else edges4
def numE (s : Nat) : Nat := if Nat.beq s 3 then 19 else 40
noncomputable def nthL (l : List (List Int)) (k : Nat) : List Int := List.rec (motive := fun _ => Nat → List Int) (fun _ => []) (fun x _ ih i => Nat.rec (motive := fun _ => List Int) x (fun j _ => ih j) i) l k
noncomputable def nthI (l : List Int) (k : Nat) : Int := List.rec (motive := fun _ => Nat → Int) (fun _ => 0) (fun x _ ih i => Nat.rec (motive := fun _ => Int) x (fun j _ => ih j) i) l k
/-- The edge with an index. -/
noncomputable def edgeAt (s k : Nat) : Nat → Int := nthI (nthL (edgesOf s) k)
noncomputable def litE (x : Nat → Int) : RV := .agg [lI (x 0), lI (x 1), lI (x 2), lI (x 3)]
noncomputable def ecRun (s k : Nat) : Bool := runOK noX [] [] 1000 10 fEdgeCode [litE (edgeAt s k), lI s] (lI k)
noncomputable def efRun (s k : Nat) : Bool := runOK noX [] [] 1000 10 fEdgeFromCode [lI k, lI s] (litE (edgeAt s k))
set_option maxRecDepth 100000 in
theorem ec3 : allN (ecRun 3) 19 = true := by kernel_rfl
set_option maxRecDepth 100000 in
theorem ec4 : allN (ecRun 4) 40 = true := by kernel_rfl
set_option maxRecDepth 100000 in
theorem ef3 : allN (efRun 3) 19 = true := by kernel_rfl
set_option maxRecDepth 100000 in
theorem ef4 : allN (efRun 4) 40 = true := by kernel_rfl
theorem ec_ans (s : Nat) (hs : s = 3 ∨ s = 4) (k : Nat) (hk : k < numE s) : Ans fEdgeCode [edgeF (edgeAt s k), .int .i64 s] (intV k) := by
  rcases hs with rfl | rfl
  · exact @ans V0 noX _ [] noX_true (by intro e he; cases he) (by intro e he; cases he) _ _ _ _ _ (allN_lt ec3 k hk)
  · exact @ans V0 noX _ [] noX_true (by intro e he; cases he) (by intro e he; cases he) _ _ _ _ _ (allN_lt ec4 k hk)
theorem ef_ans (s : Nat) (hs : s = 3 ∨ s = 4) (k : Nat) (hk : k < numE s) : Ans fEdgeFromCode [intV k, .int .i64 s] (edgeF (edgeAt s k)) := by
  rcases hs with rfl | rfl
  · exact @ans V0 noX _ [] noX_true (by intro e he; cases he) (by intro e he; cases he) _ _ _ _ _ (allN_lt ef3 k hk)
  · exact @ans V0 noX _ [] noX_true (by intro e he; cases he) (by intro e he; cases he) _ _ _ _ _ (allN_lt ef4 k hk)
def hBit (h i : Nat) : Bool := Nat.beq (Nat.mod (Nat.div h (Nat.pow 2 (Nat.sub 2 i))) 2) 1
noncomputable def hfRun (h : Nat) : Bool := runOK noX [] [] 1000 10 fHolesFromCode [lI h] (.agg [bR (hBit h 0), bR (hBit h 1), bR (hBit h 2)])
set_option maxRecDepth 100000 in
theorem hf_run : allN hfRun 8 = true := by kernel_rfl
theorem hf_ans (h : Nat) (hh : h < 8) : Ans fHolesFromCode [intV h] (holesF (hBit h)) :=
  @ans V0 noX _ [] noX_true (by intro e he; cases he) (by intro e he; cases he) _ _ _ _ _ (allN_lt hf_run h hh)
/-! Every edge that Check lets by has an index. -/
noncomputable def sameE (x y : Nat → Int) : Bool := (x 0 == y 0) && (x 1 == y 1) && (x 2 == y 2) && (x 3 == y 3)
/-- The first index, from k on, at which the list has the row. -/
noncomputable def findE (x : Nat → Int) (l : List (List Int)) : Nat → Nat := List.rec (motive := fun _ => Nat → Nat) (fun k => k) (fun y _ ih k => match sameE x (nthI y) with | true => k | false => ih (Nat.succ k)) l
noncomputable def idxE (s : Nat) (x : Nat → Int) : Nat := findE x (edgesOf s) 0
noncomputable def of4 (a b c d : Nat) : Nat → Int := nthI [a, b, c, d]
noncomputable def hasRun (s a b c d : Nat) : Bool := match edgeB s (of4 a b c d) with
  | true => match Nat.ble (Nat.succ (idxE s (of4 a b c d))) (numE s) with
    | true => sameE (of4 a b c d) (edgeAt s (idxE s (of4 a b c d)))
    | false => false
  | false => true
set_option maxRecDepth 100000 in
theorem has3 : (allB fun a => allB fun b => allB fun c => allB fun d => hasRun 3 a b c d) = true := by kernel_rfl
set_option maxRecDepth 100000 in
theorem has4 : (allB fun a => allB fun b => allB fun c => allB fun d => hasRun 4 a b c d) = true := by kernel_rfl
theorem cls_small {x : Int} (h : Nat.beq (cls x) 2 = false) (h' : Nat.beq (cls x) 3 = false) : ∃ a : Nat, a < 4 ∧ x = a := by
  rw [cls2] at h
  rw [cls3] at h'
  have h1 : ¬ x < 0 := by simpa using h
  have h2 : ¬ x > 3 := by simpa using h'
  exact ⟨x.toNat, by omega, by omega⟩
theorem okC_small {s i p c : Nat} (h : (Nat.beq c 0 || !badC s i p c) = true) : Nat.beq c 2 = false ∧ Nat.beq c 3 = false := by
  unfold badC at h
  by_cases h2 : c = 2
  · subst h2; simp at h
  · by_cases h3 : c = 3
    · subst h3; simp at h
    · exact ⟨beq_ne h2, beq_ne h3⟩
theorem sameE_eq {x y : Nat → Int} (h : sameE x y = true) : edgeF x = edgeF y := by
  unfold sameE at h
  simp only [Bool.and_eq_true, beq_iff_eq] at h
  obtain ⟨⟨⟨h0, h1⟩, h2⟩, h3⟩ := h
  unfold edgeF
  rw [h0, h1, h2, h3]
theorem edgeF_inj {x y : Nat → Int} (h : edgeF x = edgeF y) : x 0 = y 0 ∧ x 1 = y 1 ∧ x 2 = y 2 ∧ x 3 = y 3 := by
  unfold edgeF at h
  simpa using h
theorem idx_of (s : Nat) (hs : s = 3 ∨ s = 4) (x : Nat → Int) (h : edgeB s x = true) : ∃ k, k < numE s ∧ edgeF x = edgeF (edgeAt s k) := by
  have h' := h
  unfold edgeB okC at h'
  simp only [Bool.and_eq_true] at h'
  obtain ⟨⟨⟨q0, q1⟩, q2⟩, q3⟩ := h'
  obtain ⟨a, ha, ea⟩ := cls_small (okC_small q0).1 (okC_small q0).2
  obtain ⟨b, hb, eb⟩ := cls_small (okC_small q1).1 (okC_small q1).2
  obtain ⟨c, hc, ec⟩ := cls_small (okC_small q2).1 (okC_small q2).2
  obtain ⟨d, hd, ed⟩ := cls_small (okC_small q3).1 (okC_small q3).2
  have ex : edgeF x = edgeF (of4 a b c d) := by
    show Value.agg #[.int .i64 (x 0), .int .i64 (x 1), .int .i64 (x 2), .int .i64 (x 3)] = _
    rw [ea, eb, ec, ed]
    rfl
  have eB : edgeB s (of4 a b c d) = edgeB s x := by
    obtain ⟨g0, g1, g2, g3⟩ := edgeF_inj ex
    unfold edgeB
    rw [g0, g1, g2, g3]
  have hr : hasRun s a b c d = true := by
    rcases hs with rfl | rfl
    · exact allB_lt (allB_lt (allB_lt (allB_lt has3 a ha) b hb) c hc) d hd
    · exact allB_lt (allB_lt (allB_lt (allB_lt has4 a ha) b hb) c hc) d hd
  unfold hasRun at hr
  rw [eB, h] at hr
  simp only at hr
  split at hr
  · rename_i hlt
    exact ⟨_, Nat.le_of_ble_eq_true hlt, ex.trans (sameE_eq hr)⟩
  · cases hr
end Go.Proofs.Z

namespace Go.Proofs.Z
open Go Go.RowKit Go.Proofs Go.Ri
def baseT (t : Nat) : Nat := match t with | 0 => 0 | 1 => 12800 | 2 => 25600 | 3 => 38400 | 4 => 41288 | _ => 44176
def slotsT (t : Nat) : Nat := if Nat.beq t 3 || Nat.beq t 4 then 3 else 4
def numT (t : Nat) : Nat := numE (slotsT t)
def earT (t k : Nat) : RV := .agg [lI t, sI (k + 1), sI (k + 2), sI (k + 3), sI (k + 4), sI (k + 5), sI (k + 6), sI (k + 7), sI (k + 8), sB k, sB (k + 1), sB (k + 2)]
def codeTs (t : Nat) : List TE := [⟨.bin .mul, sI 50, lI (numT t), sI 53⟩, ⟨.bin .add, sI 53, sI 51, sI 54⟩, ⟨.bin .mul, sI 54, lI 8, sI 55⟩, ⟨.bin .add, lI (baseT t), sI 55, sI 56⟩, ⟨.bin .add, sI 56, sI 52, sI 57⟩]
def codeYs (t : Nat) : List YE := [⟨fCheck, [earT t 0], lI 0⟩, ⟨fEdgeCode, [edgeR 1, lI (slotsT t)], sI 50⟩, ⟨fEdgeCode, [edgeR 5, lI (slotsT t)], sI 51⟩, ⟨fHolesCode, [holesR 0], sI 52⟩]
noncomputable def codeRun (t : Nat) : Bool := runOK noX (codeTs t) (codeYs t) 1000 20 fCode [earT t 0] (.tup [sI 57, lI 0])
set_option maxRecDepth 100000 in
theorem code_run : allN codeRun 5 = true := by kernel_rfl
noncomputable def codeNo : Bool := runOK noX [] [⟨fCheck, [earR 0], lI 10⟩] 1000 20 fCode [earR 0] (.tup [lI 0, lI 10])
set_option maxRecDepth 100000 in
theorem code_no : codeNo = true := by kernel_rfl
/-! From the number: the tips before this one are taken off. -/
def subTs (t : Nat) : List TE := (List.range (t + 1)).map fun (j : Nat) => ⟨.bin .geq, sI (60 + j), lI (numT j * numT j * 8 : Nat), bR (Nat.blt j t)⟩
def subTs2 (t : Nat) : List TE := (List.range t).map fun (j : Nat) => ⟨.bin .sub, sI (60 + j), lI (numT j * numT j * 8 : Nat), sI (60 + j + 1)⟩
def fcTs (t : Nat) : List TE := [⟨.bin .lss, sI 60, lI 0, bR false⟩, ⟨.bin .geq, sI 60, lI 44176, bR false⟩, ⟨.bin .quo, sI (60 + t), lI 8, sI 70⟩, ⟨.bin .quo, sI 70, lI (numT t), sI 71⟩, ⟨.bin .rem, sI 70, lI (numT t), sI 72⟩, ⟨.bin .rem, sI (60 + t), lI 8, sI 73⟩]
def fcYs (t : Nat) : List YE := [⟨fEdgeFromCode, [sI 71, lI (slotsT t)], edgeR 1⟩, ⟨fEdgeFromCode, [sI 72, lI (slotsT t)], edgeR 5⟩, ⟨fHolesFromCode, [sI 73], holesR 0⟩]
noncomputable def fcRun (t : Nat) : Bool := runOK noX (fcTs t ++ (subTs t ++ subTs2 t)) (fcYs t) 1000 20 fFromCode [sI 60] (.tup [earT t 0, lI 0])
set_option maxRecDepth 100000 in
theorem fc_run : allN fcRun 5 = true := by kernel_rfl
def zeroR : RV := .agg [lI 0, lI 0, lI 0, lI 0, lI 0, lI 0, lI 0, lI 0, lI 0, bR false, bR false, bR false]
def noTs (b : Bool) : List TE := match b with
  | true => [⟨.bin .lss, sI 60, lI 0, bR true⟩]
  | false => [⟨.bin .lss, sI 60, lI 0, bR false⟩, ⟨.bin .geq, sI 60, lI 44176, bR true⟩]
noncomputable def fcNo (b : Bool) : Bool := runOK noX (noTs b) [] 1000 20 fFromCode [sI 60] (.tup [zeroR, lI 1])
set_option maxRecDepth 100000 in
theorem fc_no : all2 fcNo = true := by kernel_rfl
/-! The next one. -/
noncomputable def nextNo : Bool := runOK noX [] [⟨fCode, [earR 0], .tup [lI 0, lI 10]⟩] 1000 20 fNext [earR 0] (.tup [zeroR, bR false, lI 10])
noncomputable def nextRun (b : Bool) : Bool := runOK noX [⟨.bin .add, sI 50, lI 1, sI 51⟩] [⟨fCode, [earR 0], .tup [sI 50, lI 0]⟩, ⟨fFromCode, [sI 51], .tup [earR 20, lI (if b then 0 else 1)]⟩] 1000 20 fNext [earR 0] (.tup [earR 20, bR b, lI 0])
set_option maxRecDepth 100000 in
theorem next_no : nextNo = true := by kernel_rfl
set_option maxRecDepth 100000 in
theorem next_run : all2 nextRun = true := by kernel_rfl
end Go.Proofs.Z

namespace Go.Proofs.Z
open Go Go.RowKit Go.Proofs Go.Ri
/-- A valid ear, by its tip, the indices of its edges, and its holes. -/
structure Q where
  t : Nat
  u : Nat
  l : Nat
  h : Nat
def Q.ok (q : Q) : Prop := q.t < 5 ∧ q.u < numT q.t ∧ q.l < numT q.t ∧ q.h < 8
def Q.code (q : Q) : Nat := baseT q.t + (q.u * numT q.t + q.l) * 8 + q.h
noncomputable def Q.X (q : Q) : Nat → Int := fun i => if i = 0 then (q.t : Nat) else if i < 5 then edgeAt (slotsT q.t) q.u (i - 1) else edgeAt (slotsT q.t) q.l (i - 5)
def Q.Y (q : Q) : Nat → Bool := hBit q.h
theorem slotsT34 (t : Nat) : slotsT t = 3 ∨ slotsT t = 4 := by
  unfold slotsT
  split
  · exact .inl rfl
  · exact .inr rfl
theorem numT_two (t : Nat) : numT t = 19 ∨ numT t = 40 := by
  unfold numT numE
  split
  · exact .inl rfl
  · exact .inr rfl
theorem base_facts : ∀ t, t < 5 → baseT t + numT t * numT t * 8 = baseT (t + 1) ∧ baseT (t + 1) ≤ 44176 ∧ (∀ j, j < t → baseT j + numT j * numT j * 8 ≤ baseT t) ∧ slotsOf (tcl (t : Nat)) = slotsT t ∧ tipOK (tcl (t : Nat)) = true
  | 0, _ => ⟨by decide, by decide, by decide, rfl, rfl⟩
  | 1, _ => ⟨by decide, by decide, by decide, rfl, rfl⟩
  | 2, _ => ⟨by decide, by decide, by decide, rfl, rfl⟩
  | 3, _ => ⟨by decide, by decide, by decide, rfl, rfl⟩
  | 4, _ => ⟨by decide, by decide, by decide, rfl, rfl⟩
theorem Q.bound {q : Q} (h : q.ok) : baseT q.t ≤ q.code ∧ q.code < baseT (q.t + 1) ∧ q.code < 44176 ∧ (q.u * numT q.t + q.l) * 8 + q.h < numT q.t * numT q.t * 8 := by
  obtain ⟨h1, h2, h3, h4⟩ := h
  obtain ⟨b1, b2, _⟩ := base_facts q.t h1
  unfold Q.code
  generalize baseT q.t = B at *
  generalize baseT (q.t + 1) = B' at *
  generalize q.u = u at *
  generalize q.l = l at *
  have e := numT_two q.t
  generalize numT q.t = N at *
  rcases e with rfl | rfl <;> omega
set_option maxRecDepth 100000 in
theorem edges_ok3 : allN (fun k => edgeB 3 (edgeAt 3 k)) 19 = true := by kernel_rfl
set_option maxRecDepth 100000 in
theorem edges_ok4 : allN (fun k => edgeB 4 (edgeAt 4 k)) 40 = true := by kernel_rfl
theorem edge_ok (s : Nat) (hs : s = 3 ∨ s = 4) (k : Nat) (hk : k < numE s) : edgeB s (edgeAt s k) = true := by
  rcases hs with rfl | rfl
  · exact allN_lt edges_ok3 k hk
  · exact allN_lt edges_ok4 k hk
theorem Q.val {q : Q} (h : q.ok) : valB q.X = true := by
  obtain ⟨h1, h2, h3, h4⟩ := h
  obtain ⟨_, _, _, e1, e2⟩ := base_facts q.t h1
  unfold valB
  have e0 : q.X 0 = (q.t : Nat) := rfl
  rw [e0, e1, e2]
  have eu : edgeB (slotsT q.t) (sh 1 q.X) = edgeB (slotsT q.t) (edgeAt (slotsT q.t) q.u) := rfl
  have el : edgeB (slotsT q.t) (sh 5 q.X) = edgeB (slotsT q.t) (edgeAt (slotsT q.t) q.l) := rfl
  rw [eu, el, edge_ok _ (slotsT34 _) _ h2, edge_ok _ (slotsT34 _) _ h3]
  rfl
theorem tcl_range {x : Int} (h : tipOK (tcl x) = true) : 0 ≤ x ∧ x < 5 := by
  obtain ⟨_, h1, h2, _⟩ := tcl_spec x
  unfold tipOK at h
  rw [h1, h2] at h
  simp at h
  omega
theorem holes_h (y : Nat → Bool) : ∃ h, h < 8 ∧ y 0 = hBit h 0 ∧ y 1 = hBit h 1 ∧ y 2 = hBit h 2 ∧ hc y = (h : Nat) := by
  unfold hc
  generalize y 0 = a
  generalize y 1 = b
  generalize y 2 = c
  cases a <;> cases b <;> cases c
  · exact ⟨0, by decide⟩
  · exact ⟨1, by decide⟩
  · exact ⟨2, by decide⟩
  · exact ⟨3, by decide⟩
  · exact ⟨4, by decide⟩
  · exact ⟨5, by decide⟩
  · exact ⟨6, by decide⟩
  · exact ⟨7, by decide⟩
theorem hc_hBit (h : Nat) (hh : h < 8) : hc (hBit h) = (h : Nat) := by
  match h, hh with
  | 0, _ => rfl
  | 1, _ => rfl
  | 2, _ => rfl
  | 3, _ => rfl
  | 4, _ => rfl
  | 5, _ => rfl
  | 6, _ => rfl
  | 7, _ => rfl
/-- Every valid ear is one of these. -/
theorem val_Q (x : Nat → Int) (y : Nat → Bool) (hv : valB x = true) : ∃ q : Q, q.ok ∧ earF x y = earF q.X q.Y := by
  unfold valB at hv
  simp only [Bool.and_eq_true] at hv
  obtain ⟨ht, hu, hl⟩ := hv
  obtain ⟨t0, t5⟩ := tcl_range ht
  obtain ⟨t, et⟩ : ∃ t : Nat, x 0 = t := ⟨(x 0).toNat, by omega⟩
  have ht5 : t < 5 := by omega
  obtain ⟨_, _, _, e1, e2⟩ := base_facts t ht5
  rw [et, e1] at hu hl
  obtain ⟨u, hu1, hu2⟩ := idx_of _ (slotsT34 t) _ hu
  obtain ⟨l, hl1, hl2⟩ := idx_of _ (slotsT34 t) _ hl
  obtain ⟨h, hh, y0, y1, y2, _⟩ := holes_h y
  refine ⟨⟨t, u, l, h⟩, ⟨ht5, hu1, hl1, hh⟩, ?_⟩
  obtain ⟨a0, a1, a2, a3⟩ := edgeF_inj hu2
  obtain ⟨b0, b1, b2, b3⟩ := edgeF_inj hl2
  have a0 : x 1 = _ := a0
  have a1 : x 2 = _ := a1
  have a2 : x 3 = _ := a2
  have a3 : x 4 = _ := a3
  have b0 : x 5 = _ := b0
  have b1 : x 6 = _ := b1
  have b2 : x 7 = _ := b2
  have b3 : x 8 = _ := b3
  show Value.agg #[.int .i64 (x 0), .int .i64 (x 1), .int .i64 (x 2), .int .i64 (x 3), .int .i64 (x 4), .int .i64 (x 5), .int .i64 (x 6), .int .i64 (x 7), .int .i64 (x 8), .bool (y 0), .bool (y 1), .bool (y 2)] = _
  rw [et, a0, a1, a2, a3, b0, b1, b2, b3, y0, y1, y2]
  rfl
/-- Every number below the count is the code of one of these. -/
theorem num_Q (n : Nat) (hn : n < 44176) : ∃ q : Q, q.ok ∧ q.code = n := by
  obtain ⟨t, ht, h1, h2⟩ : ∃ t, t < 5 ∧ baseT t ≤ n ∧ n < baseT (t + 1) := by
    by_cases a : n < 12800
    · exact ⟨0, by decide, Nat.zero_le _, a⟩
    · by_cases b : n < 25600
      · exact ⟨1, by decide, by show 12800 ≤ n; omega, b⟩
      · by_cases c : n < 38400
        · exact ⟨2, by decide, by show 25600 ≤ n; omega, c⟩
        · by_cases d : n < 41288
          · exact ⟨3, by decide, by show 38400 ≤ n; omega, d⟩
          · exact ⟨4, by decide, by show 41288 ≤ n; omega, hn⟩
  obtain ⟨b1, _⟩ := base_facts t ht
  refine ⟨⟨t, (n - baseT t) / 8 / numT t, (n - baseT t) / 8 % numT t, (n - baseT t) % 8⟩, ⟨ht, ?_, ?_, by show (n - baseT t) % 8 < 8; omega⟩, ?_⟩
  · show (n - baseT t) / 8 / numT t < numT t
    have e := numT_two t
    generalize numT t = N at *
    rcases e with rfl | rfl <;> omega
  · show (n - baseT t) / 8 % numT t < numT t
    have e := numT_two t
    generalize numT t = N at *
    rcases e with rfl | rfl <;> omega
  · show baseT t + ((n - baseT t) / 8 / numT t * numT t + (n - baseT t) / 8 % numT t) * 8 + (n - baseT t) % 8 = n
    have e := numT_two t
    generalize numT t = N at *
    rcases e with rfl | rfl <;> omega
theorem code_inj {q r : Q} (hq : q.ok) (hr : r.ok) (h : q.code = r.code) : q = r := by
  have bq := Q.bound hq
  have br := Q.bound hr
  obtain ⟨q1, q2, q3, q4⟩ := hq
  obtain ⟨r1, r2, r3, r4⟩ := hr
  have ht : q.t = r.t := by
    rcases Nat.lt_trichotomy q.t r.t with hlt | he | hlt
    · have := (base_facts r.t r1).2.2.1 q.t hlt
      have b := (base_facts q.t q1).1
      omega
    · exact he
    · have := (base_facts q.t q1).2.2.1 r.t hlt
      have b := (base_facts r.t r1).1
      omega
  obtain ⟨t, u, l, k⟩ := q
  obtain ⟨t', u', l', k'⟩ := r
  simp only at ht
  subst ht
  unfold Q.code at h
  simp only at *
  have e := numT_two t
  generalize numT t = N at *
  simp only [Q.mk.injEq, true_and]
  rcases e with rfl | rfl <;> omega
end Go.Proofs.Z
