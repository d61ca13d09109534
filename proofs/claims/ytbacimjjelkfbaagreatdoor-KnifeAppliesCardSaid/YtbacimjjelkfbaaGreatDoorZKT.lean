/- A part of the proofs that the laws of layer three answer true for every input. -/
import Derived.Test.YtbacimjjelkfbaaGreatDoorZKS
namespace Go.Proofs.Z
open Go Go.RowKit Go.Proofs Go.Ri
/-! The examples, as a closed call. -/
abbrev fSane : Nat := 8
def saneE : List Ent := [⟨fSane, [], .bool true⟩]
set_option maxRecDepth 100000 in
theorem saneE_ok : tabOK Tryz.prog (cfg hookT [] []) 4000 20 saneE = true := by kernel_rfl
noncomputable def hookS : FuncId → List Value → Option Value := fun f vs => Go.Ri.look saneE f vs
theorem hookS_true : XTrue hookS := by
  intro f vs v h
  obtain ⟨e, he, rfl, rfl, rfl⟩ := look_mem _ _ _ _ h
  exact tab_ans saneE_ok hookT_true e he
end Go.Proofs.Z
