/- A part of the proofs that the laws of layer one answer true for every input. -/
import Derived.Test.YtedbdpaioikhgaaGreatDoorZHook
namespace Go.Proofs.Z
open Go Go.RowKit Go.Proofs Go.Ri
def tabF : List Ent := [
  ⟨50, [.string ⟨#[119, 104, 111, 108, 101, 44, 32, 115, 108, 105, 116]⟩], .tuple #[.agg #[.int .i64 0, .int .i64 0, .int .i64 0, .int .i64 0, .int .i64 0, .int .i64 0, .int .i64 0, .int .i64 0, .int .i64 0, .bool false, .bool false, .bool false], .int .i64 5, .int .i64 3]⟩]
set_option maxRecDepth 100000 in
theorem tabF_ok : tabOK Tryz.prog (cfg hookX [] []) 100000 200 tabF = true := by kernel_rfl
theorem tabF_true : ∀ e, e ∈ tabF → Ans e.f e.a e.r := tab_ans tabF_ok
end Go.Proofs.Z
