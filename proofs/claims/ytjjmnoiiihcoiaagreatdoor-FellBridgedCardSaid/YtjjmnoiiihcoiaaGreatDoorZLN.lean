/- A part of the proofs that the laws of layer four answer true for every input. -/
import Derived.Test.YtjjmnoiiihcoiaaGreatDoorZLL
namespace Go.Proofs.Z
open Go Go.RowKit Go.Proofs Go.Ri Go.Proofs.Z.Fa
/-! The law FellFolds: runs. 30 the place 0; 20 and 23 lists of sets and of bridges, 9 the list of Ever. -/
noncomputable def ffB (ne : Bool) : RV × RH := if ne then (.tup [.slN 0 23 1, lI 0], [some (.lst 23 tInt true)]) else (tupN 0, [])
end Go.Proofs.Z

namespace Go.Proofs.Z
open Go Go.RowKit Go.Proofs Go.Ri Go.Proofs.Z.Fa
/-! The law FellFolds, but for a fell without gates and no index. -/
theorem br_ren {V1 V : Val} {w : World} {x : Ending} {w' : World} (h23 : V.L 23 = V1.L 9) (ne : Bool) (h : DQ V1 (ogAns 0 ne).1 (ogAns 0 ne).2 w x w') : DQ V (ffB ne).1 (ffB ne).2 w x w' := by
  obtain ⟨u, E', he, hu, H⟩ := h
  cases ne with
  | true =>
    have q := mtQ_ok (V := V1) (V' := V) (S := [.lst 23 9]) (R := [0]) (r := .tup [.slN 0 9 1, lI 0]) (r0 := .tup [.slN 0 23 1, lI 0]) (h' := [some (.lst 9 tInt true)]) (h0 := [some (.lst 23 tInt true)]) (by kernel_rfl) rfl (holds_all (fa h23 fz)) hu H
    exact ⟨u, _, he, q.1, q.2⟩
  | false =>
    have q := mtQ_ok (V := V1) (V' := V) (S := []) (R := []) (r := tupN 0) (r0 := tupN 0) (h' := []) (h0 := []) (by kernel_rfl) rfl (holds_all fz) hu H
    exact ⟨u, _, he, q.1, q.2⟩
section
variable (V : Val) {G : Int} {l : List Value} {n : Nat}
end
def brNm (G : Int) (l : List Value) (n : Nat) (L9 : List Value) : Nm := ⟨fun i => if i = 0 then G else (n : Int), ny, fun _ => ⟨#[]⟩, fun i => if i = 0 then l else L9⟩
end Go.Proofs.Z
