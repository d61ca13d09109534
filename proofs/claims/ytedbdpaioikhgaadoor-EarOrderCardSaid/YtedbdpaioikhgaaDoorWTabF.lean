/- A part of the proof that EarOrder answers true for every three ears. -/
import Derived.Test.YtedbdpaioikhgaaDoorWCfg
namespace Go.Proofs.W
open Go Go.RowKit Go.Proofs Go.Ri
def tabF : List Ent := [
  ⟨28, [.string ⟨#[119, 104, 111, 108, 101, 44, 32, 115, 108, 105, 116]⟩], .tuple #[.agg #[.int .i64 0, .int .i64 0, .int .i64 0, .int .i64 0, .int .i64 0, .int .i64 0, .int .i64 0, .int .i64 0, .int .i64 0, .bool false, .bool false, .bool false], .int .i64 5, .int .i64 3]⟩]
set_option maxRecDepth 100000 in
theorem tabF_ok : tabOK Tryd.prog cfg1 100000 200 tabF = true := by kernel_rfl
theorem tabF_true : ∀ e, e ∈ tabF → EntTrue Tryd.prog [(0, roCells)] e := tab_true hm cfg1_ok x1_ok tabF_ok
end Go.Proofs.W
