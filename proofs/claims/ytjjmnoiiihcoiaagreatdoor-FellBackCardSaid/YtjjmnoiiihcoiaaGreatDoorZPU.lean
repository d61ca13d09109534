/- A part of the proofs that the laws of layer four answer true for every input. -/
import Derived.Test.YtjjmnoiiihcoiaaGreatDoorZPS
import Derived.Test.YtjjmnoiiihcoiaaGreatDoorZLD
import Derived.Test.YtjjmnoiiihcoiaaGreatDoorZGH
namespace Go.Proofs.Z
open Go Go.RowKit Go.Proofs Go.Ri Go.Proofs.Z.Fa
/-! The law FellTexts: runs. 0 and 1 the fell's, 4 the grazings that were parsed, 5 the line, 6 the answer, 7 Print's answer, 8 the length of the string; strings: 0 the string, 1 the printed text; lists: 0 the fell's, 9 the gates that were parsed. -/
def ftD : List RV := [fellR, sS 0]
def ftT (big long : Bool) : List TE := ⟨.bin .gtr, sI 1, lI 200, bR big⟩ :: if big then [] else [⟨.len, sS 0, sS 0, sI 8⟩, ⟨.bin .gtr, sI 8, lI 70000, bR long⟩]
end Go.Proofs.Z

namespace Go.Proofs.Z
open Go Go.RowKit Go.Proofs Go.Ri Go.Proofs.Z.Fa
/-! The law FellTexts. -/
theorem fell_nvalX {V V' : Val} {w : World} {v : Value} {i j a b : Nat} (h0 : V.I a = V'.I b) (hi : V.L i = V'.L j) (h : @Go.Ri.NVal V w (.agg [sI a, .slN 0 i 4]) v) : @Go.Ri.NVal V' w (.agg [sI b, .slN 0 j 4]) v := by
  obtain ⟨us, e, h3⟩ := h
  refine ⟨us, e, ?_⟩
  generalize us.toList = ul at h3
  cases h3 with
  | cons g1 g2 => cases g2 with
    | cons g2 g3 =>
      cases g3
      have g1 : _ = Value.int .i64 (V.I a) := g1
      obtain ⟨c, m, cap, k1, k2, k3, k4, k5, k6⟩ := g2
      rw [hi] at k2 k4 k6
      refine .cons ?_ (.cons ⟨c, m, cap, k1, k2, k3, k4, k5, k6⟩ .nil)
      rw [g1, h0]
      rfl
theorem parse_flat {f : FuncId} {t : List UInt8} {R : Except Nat (Int × List Value)} {u : Value} (h : ∀ V2 : Val, ∀ w, RoIn ro w → Calls Tryz.prog f [strB t].toArray w (zrD V2 R w)) (hR : ∀ V2 w, zrD V2 R w = DF u w) : Ans f [strB t] u := fun w hr => by
  have := h ((⟨fun _ => 0, ny, fun _ => bs t, fun _ => []⟩ : Nm).val fun _ => undef) w hr
  rw [hR] at this
  exact this
end Go.Proofs.Z
