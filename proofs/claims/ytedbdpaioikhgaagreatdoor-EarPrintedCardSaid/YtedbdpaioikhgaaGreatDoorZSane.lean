/- A part of the proofs that the laws of layer one answer true for every input. -/
import Derived.Test.YtedbdpaioikhgaaGreatDoorZTabA
import Derived.Test.YtedbdpaioikhgaaGreatDoorZTabC
import Derived.Test.YtedbdpaioikhgaaGreatDoorZTabD
import Derived.Test.YtedbdpaioikhgaaGreatDoorZTabE
import Derived.Test.YtedbdpaioikhgaaGreatDoorZTabF
namespace Go.Proofs.Z
open Go Go.RowKit Go.Proofs Go.Ri
noncomputable def saneT : FuncId → List Value → Option Value := fun f vs => match hookX f vs with
  | some v => some v
  | none => Ri.look (tabC ++ (tabD ++ (tabE ++ (tabF ++ tabA)))) f vs
theorem saneT_true : XTrue saneT := by
  intro f vs v h
  unfold saneT at h
  split at h
  · rename_i v' hv
    cases h
    exact hookX_true f vs _ hv
  · obtain ⟨e, he, rfl, rfl, rfl⟩ := Ri.look_mem _ f vs v h
    simp only [List.mem_append] at he
    rcases he with he | he | he | he | he
    · exact tabC_true e he
    · exact tabD_true e he
    · exact tabE_true e he
    · exact tabF_true e he
    · exact tabA_true e he
def tabS : List Ent := [⟨fSane, [], .bool true⟩]
set_option maxRecDepth 100000 in
theorem tabS_ok : tabOK Tryz.prog (cfg saneT [] []) 100000 200 tabS = true := by kernel_rfl
theorem sane_ans : Ans fSane [] (.bool true) := tab_ans tabS_ok saneT_true ⟨fSane, [], .bool true⟩ (List.mem_singleton.mpr rfl)
end Go.Proofs.Z
