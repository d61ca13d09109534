/- A part of the proofs that the laws of layer one answer true for every input. -/
import Derived.Test.YtedbdpaioikhgaaDoorProg
import Derived.Shelf.GgClosure.StringsTrimFunc
/-! A function of the library, laid. -/
namespace Go.Proofs.Z.W
open Go Go.Shelf Go.Proofs
set_option maxRecDepth 100000
def trim_lay_ren : Go.Shelf.Ren := ⟨fun | 272 => 97 | 315 => 102 | n => n, fun | 9 => 9 | 40 => 147 | 4 => 4 | 3 => 3 | 0 => 0 | 21 => 21 | n => n, fun | n => n⟩
theorem trim_lay : Go.Proofs.Lays.n272 Tryd.prog trim_lay_ren := {
  mixed := by kernel_rfl,
  f272 := Tryd.func97.trans (congrArg some (by kernel_rfl)),
  f315 := Tryd.func102.trans (congrArg some (by kernel_rfl)),
  t0 := Tryd.underlying0,
  a0 := Tryd.isAgg0,
  z0 := Tryd.sizeOf0,
  v0 := Tryd.zeroValue0,
  t3 := Tryd.underlying3,
  a3 := Tryd.isAgg3,
  z3 := Tryd.sizeOf3,
  v3 := Tryd.zeroValue3,
  t4 := Tryd.underlying4,
  a4 := Tryd.isAgg4,
  z4 := Tryd.sizeOf4,
  v4 := Tryd.zeroValue4,
  t9 := Tryd.underlying9,
  a9 := Tryd.isAgg9,
  z9 := Tryd.sizeOf9,
  v9 := Tryd.zeroValue9,
  t21 := Tryd.underlying21,
  a21 := Tryd.isAgg21,
  z21 := Tryd.sizeOf21,
  v21 := Tryd.zeroValue21,
  t40 := Tryd.underlying147,
  a40 := Tryd.isAgg147,
  z40 := Tryd.sizeOf147,
  v40 := Tryd.zeroValue147 }
end Go.Proofs.Z.W
