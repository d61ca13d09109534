/- A part of the proofs that the laws of layer one answer true for every input. -/
import Derived.Test.YtedbdpaioikhgaaGreatDoorZHook
namespace Go.Proofs.Z
open Go Go.RowKit Go.Proofs Go.Ri
def tabE : List Ent := [
  ⟨50, [.string ⟨#[104, 111, 108, 101, 50, 44, 108, 111, 119, 101, 114, 32, 107, 101, 121, 32, 50, 32, 44, 32, 99, 114, 111, 112, 112, 101, 100, 44, 117, 112, 112, 101, 114, 32, 110, 111, 116, 99, 104, 32, 49]⟩], .tuple #[.agg #[.int .i64 4, .int .i64 0, .int .i64 1, .int .i64 0, .int .i64 0, .int .i64 0, .int .i64 0, .int .i64 3, .int .i64 0, .bool false, .bool false, .bool true], .int .i64 0, .int .i64 0]⟩]
set_option maxRecDepth 100000 in
theorem tabE_ok : tabOK Tryz.prog (cfg hookX [] []) 100000 200 tabE = true := by kernel_rfl
theorem tabE_true : ∀ e, e ∈ tabE → Ans e.f e.a e.r := tab_ans tabE_ok
end Go.Proofs.Z
