/- A part of the proofs that the laws of layer one answer true for every input. -/
import Derived.Test.YtedbdpaioikhgaaGreatDoorZHook
namespace Go.Proofs.Z
open Go Go.RowKit Go.Proofs Go.Ri
/-! The specification's Valid: what it answers, and that it is the same. -/
noncomputable def edgeRun (short : Bool) (c0 c1 c2 c3 : Nat) : Bool := runOK noX (entC 0 c0 ++ (entC 1 c1 ++ (entC 2 c2 ++ entC 3 c3))) [] 1000 10 fREdge [.agg [sI 0, sI 1, sI 2, sI 3], bR short]
  (bR (okC (if short then 3 else 4) c0 c1 c2 c3))
set_option maxRecDepth 100000 in
theorem edge_t : (allB fun c0 => allB fun c1 => allB fun c2 => allB fun c3 => edgeRun true c0 c1 c2 c3) = true := by kernel_rfl
set_option maxRecDepth 100000 in
theorem edge_f : (allB fun c0 => allB fun c1 => allB fun c2 => allB fun c3 => edgeRun false c0 c1 c2 c3) = true := by kernel_rfl
theorem edge_ans (short : Bool) (x : Nat → Int) : Ans fREdge [edgeF x, .bool short] (.bool (edgeB (if short then 3 else 4) x)) := by
  have h : edgeRun short (cls (x 0)) (cls (x 1)) (cls (x 2)) (cls (x 3)) = true := by
    cases short
    · exact allB_lt (allB_lt (allB_lt (allB_lt edge_f _ (cls_lt (x 0))) _ (cls_lt (x 1))) _ (cls_lt (x 2))) _ (cls_lt (x 3))
    · exact allB_lt (allB_lt (allB_lt (allB_lt edge_t _ (cls_lt (x 0))) _ (cls_lt (x 1))) _ (cls_lt (x 2))) _ (cls_lt (x 3))
  exact @ans (VE x fun _ => false) noX _ [] noX_true (by
    intro e he
    simp only [List.mem_append] at he
    rcases he with he | he | he | he
    · exact @entC_true (VE x fun _ => false) 0 e he
    · exact @entC_true (VE x fun _ => false) 1 e he
    · exact @entC_true (VE x fun _ => false) 2 e he
    · exact @entC_true (VE x fun _ => false) 3 e he) (by intro e he; cases he) _ _ _ _ _ h
def shortOf (c : Nat) : Bool := Nat.beq c 1 || Nat.beq c 2
noncomputable def valRun (tc : Nat) (bu bl : Bool) : Bool := runOK noX (entT 0 tc) [⟨fREdge, [edgeR 1, bR (shortOf tc)], bR bu⟩, ⟨fREdge, [edgeR 5, bR (shortOf tc)], bR bl⟩] 1000 10 fValid [earR 0] (bR (tipOK tc && (bu && bl)))
set_option maxRecDepth 100000 in
theorem val_run : (all5 fun tc => all2 fun bu => all2 fun bl => valRun tc bu bl) = true := by kernel_rfl
theorem short_slots (c : Nat) : (if shortOf c then 3 else 4) = slotsOf c := rfl
theorem val_ans (x : Nat → Int) (y : Nat → Bool) : Ans fValid [earF x y] (.bool (valB x)) := by
  let V := VE x y
  have h := all2_all (all2_all (all5_lt val_run _ (tcl_spec (x 0)).1) (edgeB (slotsOf (tcl (x 0))) (sh 1 x))) (edgeB (slotsOf (tcl (x 0))) (sh 5 x))
  exact @ans V noX _ _ noX_true (@entT_true V 0) (by
    intro e he
    simp only [List.mem_cons, List.not_mem_nil, or_false] at he
    rcases he with rfl | rfl
    · exact edge_ans (shortOf (tcl (x 0))) (sh 1 x)
    · exact edge_ans (shortOf (tcl (x 0))) (sh 5 x)) _ _ _ _ _ h
noncomputable def rchkRun (b : Bool) : Bool := runOK noX [] [⟨fValid, [earR 0], bR b⟩] 1000 10 fRCheck [earR 0] (lI (if b then 0 else 10))
set_option maxRecDepth 100000 in
theorem rchk_run : all2 rchkRun = true := by kernel_rfl
theorem rchk_ans (x : Nat → Int) (y : Nat → Bool) : Ans fRCheck [earF x y] (intV (if valB x then 0 else 10)) :=
  @ans (VE x y) noX _ _ noX_true (by intro e he; cases he) (by
    intro e he
    simp only [List.mem_cons, List.not_mem_nil, or_false] at he
    rcases he with rfl
    exact val_ans x y) _ _ _ _ _ (all2_all rchk_run (valB x))
noncomputable def rcmRun (b c : Bool) : Bool := runOK noX [] [⟨fValid, [earR 0], bR b⟩, ⟨fValid, [earR 20], bR c⟩] 1000 10 fRCheckMark [markR 0 20] (lI (if b && c then 0 else 10))
set_option maxRecDepth 100000 in
theorem rcm_run : (all2 fun b => all2 fun c => rcmRun b c) = true := by kernel_rfl
theorem rcm_ans (x x' : Nat → Int) (y y' : Nat → Bool) : Ans fRCheckMark [markF x y x' y'] (intV (if valB x && valB x' then 0 else 10)) :=
  @ans (VE (two 20 x x') (two 20 y y')) noX _ _ noX_true (by intro e he; cases he) (by
    intro e he
    simp only [List.mem_cons, List.not_mem_nil, or_false] at he
    rcases he with rfl | rfl
    · exact val_ans x y
    · exact val_ans x' y') _ _ _ _ _ (all2_all (all2_all rcm_run (valB x)) (valB x'))
end Go.Proofs.Z

namespace Go.Proofs.Z
open Go Go.RowKit Go.Proofs Go.Ri
set_option maxRecDepth 100000 in
theorem num_run : (all3 (cmp0Run fNumber)) = true := by kernel_rfl
theorem num_ans (a b : Int) : Ans fNumber [intV a, intV b] (intV (cmpI a b)) := by
  have := @ans (VE (fun i => if i = 0 then a else b) fun _ => false) noX _ [] noX_true (@entS_true (VE (fun i => if i = 0 then a else b) fun _ => false) 0 1) (by intro e he; cases he) _ _ _ _ _ (all3_lt num_run (scl a b) (scl_lt a b))
  rw [show (lI (sgn (scl a b))) = lI (cmpI a b) by rw [sgn_scl]] at this
  exact this
noncomputable def bitRun (b : Bool) : Bool := runOK noX [] [] 1000 10 fBit [bR b] (lI (bit b))
set_option maxRecDepth 100000 in
theorem bit_run : all2 bitRun = true := by kernel_rfl
theorem bit_ans (b : Bool) : Ans fBit [.bool b] (intV (bit b)) :=
  @ans V0 noX _ [] noX_true (by intro e he; cases he) (by intro e he; cases he) _ _ _ _ _ (all2_all bit_run b)
noncomputable def getRun (j : Nat) : Bool := runOK noX [] [⟨fBit, [sB 0], sI 9⟩, ⟨fBit, [sB 1], sI 10⟩, ⟨fBit, [sB 2], sI 11⟩] 1000 10 fGet [earR 0, lI j] (sI j)
set_option maxRecDepth 100000 in
theorem get_run : allN getRun 12 = true := by kernel_rfl
theorem get_ans (x : Nat → Int) (y : Nat → Bool) (j : Nat) (hj : j < 12) : Ans fGet [earF x y, intV j] (intV (k12 x y j)) :=
  @ans (VE (k12 x y) y) noX _ _ noX_true (by intro e he; cases he) (by
    intro e he
    simp only [List.mem_cons, List.not_mem_nil, or_false] at he
    rcases he with rfl | rfl | rfl
    · exact bit_ans (y 0)
    · exact bit_ans (y 1)
    · exact bit_ans (y 2)) _ _ _ _ _ (allN_lt get_run j hj)
def yG (k : Nat) : List YE := (List.range 12).map fun (j : Nat) => ⟨fGet, [earR k, lI (j : Int)], sI (k + j)⟩
noncomputable def rcmpRun (m c : Nat) : Bool := runOK noX [] (yC fNumber 12 m c ++ (yG 0 ++ yG 20)) 1000 20 fRCompare [earR 0, earR 20] (lI (if Nat.beq m 12 then 0 else sgn c))
set_option maxRecDepth 100000 in
theorem rcmp_run : (allN (fun m => all2 fun b => rcmpRun m (c02 b)) 13) = true := by kernel_rfl
/-- The twelve values, one after the other. -/
theorem bits_cmp (y y' : Nat → Bool) (x x' : Nat → Int) : (if fd (eqP (k12 x y) (k12 x' y')) 9 3 = 12 then (0 : Int) else cmpI (k12 x y (fd (eqP (k12 x y) (k12 x' y')) 9 3)) (k12 x' y' (fd (eqP (k12 x y) (k12 x' y')) 9 3))) = cmpI (hc y) (hc y') := by
  have e : ∀ (p : Nat → Bool), fd p 9 3 = if p 9 then if p 10 then if p 11 then 12 else 11 else 10 else 9 := fun p => rfl
  have k9 : ∀ (x : Nat → Int) (y : Nat → Bool), k12 x y 9 = bit (y 0) ∧ k12 x y 10 = bit (y 1) ∧ k12 x y 11 = bit (y 2) := fun x y => ⟨rfl, rfl, rfl⟩
  rw [e]
  unfold eqP hc
  obtain ⟨h1, h2, h3⟩ := k9 x y
  obtain ⟨g1, g2, g3⟩ := k9 x' y'
  rw [h1, h2, h3, g1, g2, g3]
  generalize y 0 = a at *
  generalize y 1 = b at *
  generalize y 2 = c at *
  generalize y' 0 = a' at *
  generalize y' 1 = b' at *
  generalize y' 2 = c' at *
  cases a <;> cases a' <;> cases b <;> cases b' <;> cases c <;> cases c' <;> simp [bit, cmpI, h1, h2, h3, g1, g2, g3]
theorem lex_eq (x x' : Nat → Int) (y y' : Nat → Bool) : (if fd (eqP (k12 x y) (k12 x' y')) 0 12 = 12 then (0 : Int) else cmpI (k12 x y (fd (eqP (k12 x y) (k12 x' y')) 0 12)) (k12 x' y' (fd (eqP (k12 x y) (k12 x' y')) 0 12))) = cmpE x y x' y' := by
  have e9 : fd (eqP (k12 x y) (k12 x' y')) 0 9 = fd (eqP x x') 0 9 := fd_congr 9 0 fun j _ hj => by
    show (k12 x y j == k12 x' y' j) = (x j == x' j)
    unfold k12
    rw [if_pos (by omega), if_pos (by omega)]
  have ha := fd_add (eqP (k12 x y) (k12 x' y')) 9 0 3
  have hle := (fd_spec (eqP x x') 9 0).2.2.2
  rw [show 9 + 3 = 12 from rfl, show 0 + 9 = 9 from rfl, e9] at ha
  unfold cmpE
  by_cases h9 : fd (eqP x x') 0 9 = 9
  · rw [if_pos h9] at ha
    rw [ha, if_pos h9]
    exact bits_cmp y y' x x'
  · rw [if_neg h9] at ha
    rw [ha, if_neg h9, if_neg (by omega)]
    unfold k12
    rw [if_pos (by omega), if_pos (by omega)]
theorem rcmp_ans (x x' : Nat → Int) (y y' : Nat → Bool) : Ans fRCompare [earF x y, earF x' y'] (intV (cmpE x y x' y')) := by
  let X : Nat → Int := two 20 (k12 x y) (k12 x' y')
  let V := VE X (two 20 y y')
  have e1 : ∀ j, j < 20 → X j = k12 x y j := fun j hj => by show (if j < 20 then _ else _) = _; rw [if_pos hj]
  have e2 : ∀ j, X (20 + j) = k12 x' y' j := fun j => by
    show (if 20 + j < 20 then _ else k12 x' y' (20 + j - 20)) = _
    rw [if_neg (by omega), show 20 + j - 20 = j by omega]
  have hp : fd (fun j => V.I (0 + j) == V.I (20 + j)) 0 12 = fd (eqP (k12 x y) (k12 x' y')) 0 12 := fd_congr 12 0 fun j _ hj => by
    show (X (0 + j) == X (20 + j)) = _
    rw [e1 _ (by omega), e2, Nat.zero_add]; rfl
  have hle := (fd_spec (eqP (k12 x y) (k12 x' y')) 12 0).2.2.2
  have hd := (fd_spec (eqP (k12 x y) (k12 x' y')) 12 0).2.1
  rw [← lex_eq]
  generalize hm : fd (eqP (k12 x y) (k12 x' y')) 0 12 = m at *
  have hr := all2_all (allN_lt rcmp_run m (by omega)) (decide (k12 x y m < k12 x' y' m))
  have hsg : m < 12 → V.I m ≠ V.I (20 + m) → sgn (c02 (decide (k12 x y m < k12 x' y' m))) = cmpI (V.I m) (V.I (20 + m)) := fun h12 hne => by
    have q1 : V.I m = k12 x y m := e1 m (by omega)
    have q2 : V.I (20 + m) = k12 x' y' m := e2 m
    rw [q1, q2] at hne ⊢
    exact c02_of hne
  have hY := @yC_true V fNumber 12 num_ans m (decide (k12 x y m < k12 x' y' m)) hp hsg
  have hG0 : ∀ e ∈ yG 0, Ans e.f (e.a.map (@cvF V)) (@cvF V e.r) := by
    intro e he
    obtain ⟨j, hj, rfl⟩ := List.mem_map.1 he
    have hj := List.mem_range.1 hj
    have : X (0 + j) = k12 x y j := by rw [Nat.zero_add]; exact e1 j (by omega)
    have t : Ans fGet [earF x y, intV j] (intV (X (0 + j))) := by rw [this]; exact get_ans x y j hj
    exact t
  have hG1 : ∀ e ∈ yG 20, Ans e.f (e.a.map (@cvF V)) (@cvF V e.r) := by
    intro e he
    obtain ⟨j, hj, rfl⟩ := List.mem_map.1 he
    have hj := List.mem_range.1 hj
    have t : Ans fGet [earF x' y', intV j] (intV (X (20 + j))) := by rw [e2]; exact get_ans x' y' j hj
    exact t
  have t : Ans fRCompare [earF x y, earF x' y'] (intV (if Nat.beq m 12 then 0 else sgn (c02 (decide (k12 x y m < k12 x' y' m))))) := @ans V noX _ _ noX_true (by intro e he; cases he) (by
    intro e he
    simp only [List.mem_append] at he
    rcases he with he | he | he
    · exact hY e he
    · exact hG0 e he
    · exact hG1 e he) _ _ _ _ _ hr
  by_cases h12 : m = 12
  · subst h12
    rw [if_pos rfl]
    exact t
  · rw [if_neg h12]
    rw [beq_ne h12, if_neg (by simp), c02_of (by have := hd (by omega); simpa [eqP] using this)] at t
    exact t
end Go.Proofs.Z
