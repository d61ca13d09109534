/- A part of the proofs that the laws of layer one answer true for every input. -/
import Derived.Test.YtedbdpaioikhgaaGreatDoorZHook
namespace Go.Proofs.Z
open Go Go.RowKit Go.Proofs Go.Ri
def tabD : List Ent := [
  ⟨44, [.agg #[.int .i64 4, .int .i64 0, .int .i64 1, .int .i64 0, .int .i64 0, .int .i64 0, .int .i64 0, .int .i64 3, .int .i64 0, .bool false, .bool false, .bool true]], .tuple #[.string ⟨#[99, 46, 110, 46, 46, 46, 46, 107, 46, 46, 46, 111]⟩, .int .i64 0]⟩,
  ⟨48, [.agg #[.int .i64 4, .int .i64 0, .int .i64 1, .int .i64 0, .int .i64 0, .int .i64 0, .int .i64 0, .int .i64 3, .int .i64 0, .bool false, .bool false, .bool true]], .tuple #[.string ⟨#[99, 114, 111, 112, 112, 101, 100, 44, 32, 117, 112, 112, 101, 114, 32, 110, 111, 116, 99, 104, 32, 49, 44, 32, 108, 111, 119, 101, 114, 32, 107, 101, 121, 32, 50, 44, 32, 104, 111, 108, 101, 32, 50]⟩, .int .i64 0]⟩,
  ⟨52, [.agg #[.int .i64 0, .int .i64 0, .int .i64 0, .int .i64 0, .int .i64 0, .int .i64 0, .int .i64 0, .int .i64 0, .int .i64 0, .bool false, .bool false, .bool false, .int .i64 0, .int .i64 0, .int .i64 0, .int .i64 0, .int .i64 0, .int .i64 0, .int .i64 0, .int .i64 0, .int .i64 0, .bool false, .bool false, .bool false]], .tuple #[.string ⟨#[110, 101, 97, 114, 58, 32, 119, 104, 111, 108, 101, 59, 32, 102, 97, 114, 58, 32, 119, 104, 111, 108, 101]⟩, .int .i64 0]⟩]
set_option maxRecDepth 100000 in
theorem tabD_ok : tabOK Tryz.prog (cfg hookX [] []) 100000 200 tabD = true := by kernel_rfl
theorem tabD_true : ∀ e, e ∈ tabD → Ans e.f e.a e.r := tab_ans tabD_ok
end Go.Proofs.Z
