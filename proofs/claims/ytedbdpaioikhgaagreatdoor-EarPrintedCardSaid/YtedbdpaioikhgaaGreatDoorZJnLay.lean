/- A part of the proofs that the laws of layer one answer true for every input. -/
import Derived.Test.YtedbdpaioikhgaaGreatDoorProg
import Derived.Shelf.GgClosure.StringsTrimFunc
import Derived.Shelf.Strings.OnBuilder
/-! A function of the library, laid. -/
namespace Go.Proofs.Z.W
open Go Go.Shelf Go.Proofs
set_option maxRecDepth 100000
def trim_lay_ren : Go.Shelf.Ren := ⟨fun | 272 => 158 | 315 => 165 | n => n, fun | 9 => 9 | 40 => 181 | 4 => 4 | 3 => 3 | 0 => 0 | 21 => 21 | n => n, fun | n => n⟩
theorem trim_lay : Go.Proofs.Lays.n272 Tryz.prog trim_lay_ren := {
  mixed := by kernel_rfl,
  f272 := Tryz.func158.trans (congrArg some (by kernel_rfl)),
  f315 := Tryz.func165.trans (congrArg some (by kernel_rfl)),
  t0 := Tryz.underlying0,
  a0 := Tryz.isAgg0,
  z0 := Tryz.sizeOf0,
  v0 := Tryz.zeroValue0,
  t3 := Tryz.underlying3,
  a3 := Tryz.isAgg3,
  z3 := Tryz.sizeOf3,
  v3 := Tryz.zeroValue3,
  t4 := Tryz.underlying4,
  a4 := Tryz.isAgg4,
  z4 := Tryz.sizeOf4,
  v4 := Tryz.zeroValue4,
  t9 := Tryz.underlying9,
  a9 := Tryz.isAgg9,
  z9 := Tryz.sizeOf9,
  v9 := Tryz.zeroValue9,
  t21 := Tryz.underlying21,
  a21 := Tryz.isAgg21,
  z21 := Tryz.sizeOf21,
  v21 := Tryz.zeroValue21,
  t40 := Tryz.underlying181,
  a40 := Tryz.isAgg181,
  z40 := Tryz.sizeOf181,
  v40 := Tryz.zeroValue181 }
end Go.Proofs.Z.W

/-! A function of the library, laid. -/
namespace Go.Proofs.Z.W
open Go Go.Shelf Go.Proofs
set_option maxRecDepth 100000
def jn_lay_ren : Go.Shelf.Ren := ⟨fun | 156 => 95 | 165 => 119 | 166 => 120 | 169 => 91 | 240 => 113 | 241 => 144 | 276 => 141 | 277 => 156 | n => n, fun | 31 => 111 | 9 => 9 | 3 => 3 | 4 => 4 | 0 => 0 | 20 => 20 | 72 => 104 | 76 => 140 | 70 => 102 | 37 => 67 | 75 => 106 | 127 => 137 | 164 => 164 | 5 => 5 | 80 => 109 | n => n, fun | n => n⟩
theorem jn_lay : Go.Proofs.Lays.n156 Tryz.prog jn_lay_ren := {
  mixed := by kernel_rfl,
  f156 := Tryz.func95.trans (congrArg some (by kernel_rfl)),
  f165 := Tryz.func119.trans (congrArg some (by kernel_rfl)),
  f166 := Tryz.func120.trans (congrArg some (by kernel_rfl)),
  f169 := Tryz.func91.trans (congrArg some (by kernel_rfl)),
  f240 := Tryz.func113.trans (congrArg some (by kernel_rfl)),
  f241 := Tryz.func144.trans (congrArg some (by kernel_rfl)),
  f276 := Tryz.func141.trans (congrArg some (by kernel_rfl)),
  f277 := Tryz.func156.trans (congrArg some (by kernel_rfl)),
  t0 := Tryz.underlying0,
  a0 := Tryz.isAgg0,
  z0 := Tryz.sizeOf0,
  v0 := Tryz.zeroValue0,
  t3 := Tryz.underlying3,
  a3 := Tryz.isAgg3,
  z3 := Tryz.sizeOf3,
  v3 := Tryz.zeroValue3,
  t4 := Tryz.underlying4,
  a4 := Tryz.isAgg4,
  z4 := Tryz.sizeOf4,
  v4 := Tryz.zeroValue4,
  t9 := Tryz.underlying9,
  a9 := Tryz.isAgg9,
  z9 := Tryz.sizeOf9,
  v9 := Tryz.zeroValue9,
  t20 := Tryz.underlying20,
  a20 := Tryz.isAgg20,
  z20 := Tryz.sizeOf20,
  v20 := Tryz.zeroValue20,
  t31 := Tryz.underlying111,
  a31 := Tryz.isAgg111,
  z31 := Tryz.sizeOf111,
  v31 := Tryz.zeroValue111,
  t37 := Tryz.underlying67,
  a37 := Tryz.isAgg67,
  z37 := Tryz.sizeOf67,
  v37 := Tryz.zeroValue67,
  t70 := Tryz.underlying102,
  a70 := Tryz.isAgg102,
  z70 := Tryz.sizeOf102,
  v70 := Tryz.zeroValue102,
  t72 := Tryz.underlying104,
  a72 := Tryz.isAgg104,
  z72 := Tryz.sizeOf104,
  v72 := Tryz.zeroValue104,
  t75 := Tryz.underlying106,
  a75 := Tryz.isAgg106,
  z75 := Tryz.sizeOf106,
  v75 := Tryz.zeroValue106,
  t76 := Tryz.underlying140,
  a76 := Tryz.isAgg140,
  z76 := Tryz.sizeOf140,
  v76 := Tryz.zeroValue140,
  t127 := Tryz.underlying137,
  a127 := Tryz.isAgg137,
  z127 := Tryz.sizeOf137,
  v127 := Tryz.zeroValue137,
  t164 := Tryz.underlying164,
  a164 := Tryz.isAgg164,
  z164 := Tryz.sizeOf164,
  v164 := Tryz.zeroValue164 }
theorem jn_x : Go.Proofs.Builder.Extra Tryz.prog jn_lay_ren := {
  sizeBuilder := by kernel_rfl,
  liesBuilder := by kernel_rfl,
  t5 := Tryz.underlying5,
  a5 := Tryz.isAgg5,
  z5 := Tryz.sizeOf5,
  v5 := Tryz.zeroValue5,
  infoByte := by kernel_rfl,
  cellsByte := by kernel_rfl,
  sizeByte := by kernel_rfl,
  neB5 := by decide }
end Go.Proofs.Z.W
