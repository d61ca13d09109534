/- A part of the proofs that the laws of layer eight answer true for every input. -/
import Derived.Test.YtjeikabpnplogaaZBR
namespace Go.Proofs.Z
open Go Go.RowKit Go.Proofs Go.Ri Go.Proofs.Z.Fa
/-! Encode of both packages: runs. 1000 to 1127 the bytes of the seal, 2000 + 16 i + j the secret i without its last j bytes; lists 501 to 628 the bytes so far; strings: 4 all, 20 to 35 the secrets' bytes, 41 to 55 all so far. -/
abbrev fEncOf : Nat := 68
abbrev fREnc0 : Nat := 69
abbrev fByts : Nat := 52
def seN (i j : Nat) : RV := if j = 0 then sU (300 + i) else sU (2000 + 16 * i + j)
def sxT : List TE := (List.range 16).flatMap fun i => (List.range 8).flatMap fun j => [⟨.conv .u8, seN i j, seN i j, s8 (1000 + (8 * i + j))⟩, ⟨.bin .shr, seN i j, lU 8, seN i (j + 1)⟩]
def sxLA (b : Nat) : List LAE := (List.range 128).map fun k => ⟨if k = 0 then b else 500 + k, [s8 (1000 + k)], 500 + (k + 1)⟩
noncomputable def ecA (q : Bool) : Tb := { T := sxT, Q := [⟨fCore, [entR], .slN 0 (coL q) 1, coH q⟩], LA := sxLA (coL q), BS := [(4, 628)] }
noncomputable def byA : Tb := { T := numT, MS := [⟨numB, 2⟩] }
set_option maxRecDepth 100000 in
theorem by_run : doneQ byA [true] fByts [sU 0, lI 8] [.str 2 (sT 2)] [] (sT 2) [] = true := by kernel_rfl
def soN (i : Nat) : RV := if i = 0 then sT 2 else if i = 16 then sT 4 else sT (40 + i)
noncomputable def ecB : Tb := { T := (List.range 16).map fun i => ⟨.bin .add, soN i, sT (20 + i), soN (i + 1)⟩, Y := ⟨fRCore, [entR], sT 2⟩ :: (List.range 16).map fun i => ⟨fByts, [sU (300 + i), lI 8], sT (20 + i)⟩ }
set_option maxRecDepth 100000 in
theorem ec_b : doneQ ecB [true] fREnc0 [entR] [.str 4 (sT 4)] [] (sT 4) [] = true := by kernel_rfl
end Go.Proofs.Z
