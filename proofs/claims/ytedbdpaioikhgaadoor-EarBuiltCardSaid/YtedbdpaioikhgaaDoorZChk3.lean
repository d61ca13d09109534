/- A part of the proofs that the laws of layer one answer true for every input. -/
import Derived.Test.YtedbdpaioikhgaaDoorZChk2
namespace Go.Proofs.Z
open Go Go.RowKit Go.Proofs Go.Ri
/-! What Check answers. -/
def edgeB (s : Nat) (x : Nat → Int) : Bool := okC s (cls (x 0)) (cls (x 1)) (cls (x 2)) (cls (x 3))
def valB (x : Nat → Int) : Bool := tipOK (tcl (x 0)) && (edgeB (slotsOf (tcl (x 0))) (sh 1 x) && edgeB (slotsOf (tcl (x 0))) (sh 5 x))
theorem slots34 (c : Nat) : slotsOf c = 3 ∨ slotsOf c = 4 := by
  unfold slotsOf
  split
  · exact .inl rfl
  · exact .inr rfl
theorem snd_all (s : Nat) (x : Nat → Int) : Nat.beq (fd (fun j => x j == sndI s x j) 0 4) 4 = edgeB s x := by
  have := fd_all (fun j => x j == sndI s x j) 4 0
  simp only [Nat.zero_add] at this
  rw [this]
  have e : List.range 4 = [0, 1, 2, 3] := rfl
  simp only [e, List.all_cons, List.all_nil, Bool.and_true, snd_eq]
  unfold edgeB okC
  rw [Bool.and_assoc, Bool.and_assoc]
  rfl
theorem chk_ans (x : Nat → Int) (y : Nat → Bool) : Ans fCheck [earF x y] (intV (if valB x then 0 else 10)) := by
  let s := slotsOf (tcl (x 0))
  let X : Nat → Int := fun i => if i < 30 then x i else if i < 40 then sndI s (sh 1 x) (i - 30) else sndI s (sh 5 x) (i - 40)
  let V := VE X y
  let mu := fd (fun j => sh 1 x j == sndI s (sh 1 x) j) 0 4
  let ml := fd (fun j => sh 5 x j == sndI s (sh 5 x) j) 0 4
  have hmu := fd_spec (fun j => sh 1 x j == sndI s (sh 1 x) j) 4 0
  have hml := fd_spec (fun j => sh 5 x j == sndI s (sh 5 x) j) 4 0
  have h : chkRun (tcl (x 0)) mu ml = true := all5_lt (all5_lt (all5_lt chk_run _ (tcl_spec (x 0)).1) mu (by have := hmu.2.2.2; show fd _ 0 4 < 5; omega)) ml (by have := hml.2.2.2; show fd _ 0 4 < 5; omega)
  have hT : ∀ e ∈ entT 0 (tcl (x 0)) ++ (eqs 1 30 4 mu ++ eqs 5 40 4 ml), @TETrue V e := by
    intro e he
    simp only [List.mem_append] at he
    rcases he with he | he | he
    · exact @entT_true V 0 e he
    · exact @eqs_true V 1 30 4 e he
    · exact @eqs_true V 5 40 4 e he
  have hY : ∀ e ∈ ([⟨fSound, [edgeR 1, lI (slotsOf (tcl (x 0)))], edgeR 30⟩, ⟨fSound, [edgeR 5, lI (slotsOf (tcl (x 0)))], edgeR 40⟩] : List YE), Ans e.f (e.a.map (@cvF V)) (@cvF V e.r) := by
    intro e he
    simp only [List.mem_cons, List.not_mem_nil, or_false] at he
    rcases he with rfl | rfl
    · exact sound_ans s (slots34 _) (sh 1 x)
    · exact sound_ans s (slots34 _) (sh 5 x)
  have r := @ans V noX _ _ noX_true hT hY _ _ _ _ _ h
  have e : (if tipOK (tcl (x 0)) && (Nat.beq mu 4 && Nat.beq ml 4) then (0 : Int) else 10) = if valB x then 0 else 10 := by
    show (if tipOK (tcl (x 0)) && (Nat.beq (fd (fun j => sh 1 x j == sndI s (sh 1 x) j) 0 4) 4 && Nat.beq (fd (fun j => sh 5 x j == sndI s (sh 5 x) j) 0 4) 4) then (0 : Int) else 10) = _
    rw [snd_all, snd_all]
    rfl
  rw [e] at r
  exact r
end Go.Proofs.Z
