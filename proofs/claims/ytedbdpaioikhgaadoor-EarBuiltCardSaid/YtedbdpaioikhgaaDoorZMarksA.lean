/- A part of the proofs that the laws of layer one answer true for every input. -/
import Derived.Test.YtedbdpaioikhgaaDoorZCmp2
namespace Go.Proofs.Z
open Go Go.RowKit Go.Proofs Go.Ri
def four {α : Type} (x x' z z' r : Nat → α) : Nat → α := two 20 x (two 20 x' (two 20 z (two 20 z' r)))
noncomputable def cmkRun (f g c : Nat) : Bool := runOK noX [] [⟨g, [earR 0, earR 20], lI (sgn c)⟩, ⟨g, [earR 40, earR 60], sI 80⟩] 1000 20 f [markR 0 40, markR 20 60] (if Nat.beq c 1 then sI 80 else lI (sgn c))
set_option maxRecDepth 100000 in
theorem cmk_run : all3 (cmkRun fCompareMarks fCompare) = true := by kernel_rfl
def cmpM (x : Nat → Int) (y : Nat → Bool) (z : Nat → Int) (u : Nat → Bool) (x' : Nat → Int) (y' : Nat → Bool) (z' : Nat → Int) (u' : Nat → Bool) : Int :=
  if cmpE x y x' y' = 0 then cmpE z u z' u' else cmpE x y x' y'
theorem cmpE_sgn (x : Nat → Int) (y : Nat → Bool) (x' : Nat → Int) (y' : Nat → Bool) : ∃ c, c < 3 ∧ sgn c = cmpE x y x' y' := by
  unfold cmpE
  split
  · exact ⟨_, scl_lt _ _, sgn_scl _ _⟩
  · exact ⟨_, scl_lt _ _, sgn_scl _ _⟩
theorem marks_of (f g : Nat) (hg : ∀ x x' y y', Ans g [earF x y, earF x' y'] (intV (cmpE x y x' y'))) (hr : all3 (cmkRun f g) = true) (x z x' z' : Nat → Int) (y u y' u' : Nat → Bool) :
    Ans f [markF x y z u, markF x' y' z' u'] (intV (cmpM x y z u x' y' z' u')) := by
  obtain ⟨c, hc, hs⟩ := cmpE_sgn x y x' y'
  let V := VE (four x x' z z' fun _ => cmpE z u z' u') (four y y' u u' fun _ => false)
  have a1 : Ans g [earF x y, earF x' y'] (intV (sgn c)) := by rw [hs]; exact hg x x' y y'
  have a2 := hg z z' u u'
  have t := @ans V noX _ _ noX_true (by intro e he; cases he) (by
    intro e he
    simp only [List.mem_cons, List.not_mem_nil, or_false] at he
    rcases he with rfl | rfl
    · exact a1
    · exact a2) _ _ _ _ _ (all3_lt hr c hc)
  unfold cmpM
  match c, hc with
  | 0, _ => rw [← hs, if_neg (by decide)]; exact t
  | 1, _ => rw [← hs, if_pos (by decide)]; exact t
  | 2, _ => rw [← hs, if_neg (by decide)]; exact t
theorem cmk_ans (x z x' z' : Nat → Int) (y u y' u' : Nat → Bool) : Ans fCompareMarks [markF x y z u, markF x' y' z' u'] (intV (cmpM x y z u x' y' z' u')) := marks_of fCompareMarks fCompare (fun x x' y y' => cmp_ans x x' y y') cmk_run x z x' z' y u y' u'
def saneX : FuncId → List Value → Option Value := fun f vs => match vs with
  | [] => match Nat.beq f fSane with | true => some (.bool true) | false => none
  | _ => none
end Go.Proofs.Z
