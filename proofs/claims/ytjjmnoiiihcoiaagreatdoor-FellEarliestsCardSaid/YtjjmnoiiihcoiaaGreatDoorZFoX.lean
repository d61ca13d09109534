/- A part of the proofs that the laws of layer four answer true for every input. -/
import Derived.Test.YtjjmnoiiihcoiaaGreatDoorZFoW
import Derived.Test.YtjjmnoiiihcoiaaGreatDoorZFoS
namespace Go.Proofs.Z
open Go Go.RowKit Go.Proofs Go.Ri
theorem sanTb_ok : @TbOK qV sanTb := by
  letI : Val := qV
  refine { X := libX_true, F := libF_true, T := qT_true, LL := qLL_true, LX := qLX_true, LA := qLA_true, LP := qLP_true, LQ := qLQ_true, IZ := ?_, U := qdU_ok uD uE ?_ (uE_true libX_true libF_true) }
  · intro d hd
    obtain rfl := List.mem_singleton.1 (show d ∈ uD from hd)
    rfl
  · intro e he
    obtain rfl := List.mem_singleton.1 (show e ∈ [((999 : Nat), (0 : Nat))] from he)
    rfl
/-- Package fell answers its sample. -/
theorem sane_ans : Ans fSane [] (.bool true) := fun w hr =>
  (done_calls qV qV sanTb_ok sane_run rfl (holds_all fun q hq => by cases hq) w hr [] .nil).mono fun x w' ⟨v, E, hx, hv, H⟩ => ⟨by
    rw [hx]
    exact congrArg Ending.returned hv, @HInv.below qV _ _ _ _ _ _ H⟩
end Go.Proofs.Z
