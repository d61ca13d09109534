/- A part of the proofs that the laws of layer eight answer true for every input. -/
import Derived.Test.YtjeikabpnplogaaGreatZEF
namespace Go.Proofs.Z
open Go Go.RowKit Go.Proofs Go.Ri Go.Proofs.Z.Fa
/-! The law BookConvicts: a run; CheckProof of nothing as a closed answer. -/
def zrT : List Go.Ri.Ent := [⟨fChP, [stkV fun _ => 0, prV entZ entZ], .int .i64 81⟩, ⟨fRChP, [stkV fun _ => 0, prV entZ entZ], .int .i64 81⟩]
noncomputable def zrX (f : FuncId) (vs : List Value) : Option Value := match Go.Ri.look zrT f vs with
  | some v => some v
  | none => saneX f vs
theorem cmp_self (A : Ent) : cmpEn A A = 0 := by
  have := cmpEn_swap A A
  omega
theorem chp_self (st : Nat → Int) (A : Ent) : chpM st A A = 81 := by
  unfold chpM cpV
  rw [cmp_self]
  split
  · rfl
  · rfl
theorem zrX_true : XTrue zrX := by
  intro f vs v h
  unfold zrX at h
  split at h
  · rename_i hu
    cases h
    obtain ⟨e, he, rfl, rfl, rfl⟩ := Go.Ri.look_mem zrT f vs _ hu
    have k : ∀ q, Ans (cpF2 q) [stkV fun _ => 0, prV entZ entZ] (.int .i64 81) := fun q => by
      have := chp_ans q (st := fun _ => 0) entZ_ok entZ_ok
      rw [chp_self] at this
      exact this
    have key : ∀ e : Go.Ri.Ent, e ∈ zrT → Ans e.f e.a e.r := fa (k true) (fa (k false) fz)
    exact key e he
  · exact saneX_true f vs v h
set_option maxRecDepth 100000 in
theorem bc_false0 : doneQ { bcA false 0 with X := zrX } [] fBookConvicts bcD [] [] (bR true) [] = true := by kernel_rfl
end Go.Proofs.Z
