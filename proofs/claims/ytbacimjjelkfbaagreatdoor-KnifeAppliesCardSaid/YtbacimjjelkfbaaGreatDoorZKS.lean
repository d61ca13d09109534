/- A part of the proofs that the laws of layer three answer true for every input. -/
import Derived.Test.YtbacimjjelkfbaaGreatDoorZKH
namespace Go.Proofs.Z
open Go Go.RowKit Go.Proofs Go.Ri
/-! What the examples call, closed: a table first. -/
def iV (n : Int) : Value := .int .i64 n
def bV (b : Bool) : Value := .bool b
def earL (t : Int) (h : Bool) : List Value := [iV t, iV 0, iV 0, iV 0, iV 0, iV 0, iV 0, iV 0, iV 0, bV h, bV false, bV false]
def earC (t : Int) (h : Bool) : Value := .agg (earL t h).toArray
def markC (t : Int) (h : Bool) : Value := .agg (earL t h ++ earL 0 false).toArray
def cutC (a b c d : Int) : List Value := [iV a, iV b, iV c, iV d]
def farS : ByteArray := ⟨#[102, 97, 114, 32, 99, 117, 116, 32, 108, 111, 119, 101, 114, 32, 50, 32, 107, 101, 121]⟩
def saneT : List Ent := [
  ⟨11, [earC 0 false, .agg (cutC 1 0 0 2).toArray], .tuple #[earC 2 false, iV 0]⟩,
  ⟨11, [earC 2 false, .agg (cutC 1 0 0 1).toArray], .tuple #[earC 0 false, iV 30]⟩,
  ⟨33, [markC 1 false, markC 0 true, .agg #[iV 0, iV 0]], .tuple #[bV true, iV 0]⟩,
  ⟨26, [.agg ([bV true, bV true, iV 0, iV 0, iV 0] ++ cutC 2 1 2 3).toArray], .tuple #[.string farS, iV 0]⟩,
  ⟨18, [.agg #[iV 2, iV 2]], iV 31⟩]
set_option maxRecDepth 100000 in
theorem saneT_ok : tabOK Tryz.prog (cfg hookX [] []) 4000 20 saneT = true := by kernel_rfl
noncomputable def hookT : FuncId → List Value → Option Value := fun f vs => match Go.Ri.look saneT f vs with
  | some v => some v
  | none => hookX f vs
theorem hookT_true : XTrue hookT := by
  intro f vs v h
  unfold hookT at h
  split at h
  · rename_i v' hv
    cases h
    obtain ⟨e, he, rfl, rfl, rfl⟩ := look_mem _ _ _ _ hv
    exact tab_ans saneT_ok hookX_true e he
  · exact hookX_true _ _ _ h
end Go.Proofs.Z
