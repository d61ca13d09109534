/- A part of the proofs that the laws of layer one answer true for every input. -/
import Derived.Test.YtedbdpaioikhgaaGreatDoorZHook
namespace Go.Proofs.Z
open Go Go.RowKit Go.Proofs Go.Ri
def tabC : List Ent := [
  ⟨59, [], .agg #[.int .i64 4, .int .i64 0, .int .i64 1, .int .i64 0, .int .i64 0, .int .i64 0, .int .i64 0, .int .i64 3, .int .i64 0, .bool false, .bool false, .bool true]⟩,
  ⟨24, [.agg #[.int .i64 0, .int .i64 0, .int .i64 0, .int .i64 0, .int .i64 0, .int .i64 0, .int .i64 0, .int .i64 0, .int .i64 0, .bool false, .bool false, .bool true]], .tuple #[.int .i64 1, .int .i64 0]⟩,
  ⟨26, [.int .i64 44175], .tuple #[.agg #[.int .i64 4, .int .i64 3, .int .i64 0, .int .i64 3, .int .i64 0, .int .i64 3, .int .i64 0, .int .i64 3, .int .i64 0, .bool true, .bool true, .bool true], .int .i64 0]⟩,
  ⟨28, [.agg #[.int .i64 4, .int .i64 3, .int .i64 0, .int .i64 3, .int .i64 0, .int .i64 3, .int .i64 0, .int .i64 3, .int .i64 0, .bool true, .bool true, .bool true]], .tuple #[.agg #[.int .i64 0, .int .i64 0, .int .i64 0, .int .i64 0, .int .i64 0, .int .i64 0, .int .i64 0, .int .i64 0, .int .i64 0, .bool false, .bool false, .bool false], .bool false, .int .i64 0]⟩,
  ⟨80, [.agg #[.int .i64 3, .int .i64 0, .int .i64 1, .int .i64 0]], .tuple #[.int .i64 10, .int .i64 1, .bool true]⟩,
  ⟨80, [.agg #[.int .i64 1, .int .i64 0, .int .i64 0, .int .i64 2]], .tuple #[.int .i64 0, .int .i64 2, .bool true]⟩,
  ⟨81, [.agg #[.int .i64 2, .int .i64 0, .int .i64 0, .int .i64 0, .int .i64 0, .int .i64 0, .int .i64 0, .int .i64 0, .int .i64 0, .int .i64 0, .int .i64 1, .int .i64 0]], .agg #[.int .i64 2, .int .i64 0, .int .i64 0, .int .i64 0, .int .i64 0, .int .i64 0, .int .i64 0, .int .i64 0, .int .i64 0, .bool false, .bool true, .bool false]⟩,
  ⟨30, [], .int .i64 44176⟩]
set_option maxRecDepth 100000 in
theorem tabC_ok : tabOK Tryz.prog (cfg hookX [] []) 100000 200 tabC = true := by kernel_rfl
theorem tabC_true : ∀ e, e ∈ tabC → Ans e.f e.a e.r := tab_ans tabC_ok
end Go.Proofs.Z
