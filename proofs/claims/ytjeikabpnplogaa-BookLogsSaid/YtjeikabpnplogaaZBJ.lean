/- A part of the proofs that the laws of layer eight answer true for every input. -/
import Derived.Test.YtjeikabpnplogaaZBG
namespace Go.Proofs.Z
open Go Go.RowKit Go.Proofs Go.Ri Go.Proofs.Z.Fa
/-! Digest of both packages: runs. An entry: 50, 51 its parish and number, 0 the entry before, string 1 its body, 300 to 315 its seal; 54 to 59 the body's length and what is made of it; 30 to 33, 20 to 27 bytes; lists: 30 nothing, 100 to 110 the bytes so far, 40 the body's, 41 all; string 2 all. -/
abbrev fCore : Nat := 97
abbrev fRCore : Nat := 98
abbrev fDigOf : Nat := 65
abbrev fRDigest0 : Nat := 67
abbrev fDigest : Nat := 18
abbrev fRDigest : Nat := 19
abbrev tByte : Nat := 5
def entR : RV := .agg ([sI 50, sI 51, sU 0, sT 1] ++ (List.range 16).map fun i => sU (300 + i))
def numU : List TE := (List.range 8).flatMap fun i => [⟨.conv .u8, sU i, sU i, s8 (20 + i)⟩, ⟨.bin .shr, sU i, lU 8, sU (i + 1)⟩]
def coT : List TE := [⟨.len, sT 1, sT 1, sI 54⟩, ⟨.bin .add, lI 12, sI 54, sI 55⟩, ⟨.bin .add, sI 55, lI 128, sI 56⟩, ⟨.conv .u8, sI 50, sI 50, s8 30⟩, ⟨.conv .u8, sI 51, sI 51, s8 31⟩, ⟨.conv .u64, sI 54, sI 54, sU 57⟩, ⟨.conv .u8, sU 57, sU 57, s8 32⟩, ⟨.bin .shr, sU 57, lU 8, sU 58⟩, ⟨.conv .u8, sU 58, sU 58, s8 33⟩, ⟨.bin .shr, sU 58, lU 8, sU 59⟩]
def coLA : List LAE := ⟨30, [s8 30, s8 31], 100⟩ :: (((List.range 8).map fun i => ⟨100 + i, [s8 (20 + i)], 101 + i⟩) ++ [⟨108, [s8 32], 109⟩, ⟨109, [s8 33], 110⟩])
def coL (q : Bool) : Nat := if q then 110 else 41
/-- q: is the body empty? -/
noncomputable def coA (q : Bool) : Tb := { T := numU ++ coT, LM := [⟨56, lB 0, 29⟩], LZ := if q then [30, 40] else [30], LA := coLA, BS := [(1, 40)], LB := if q then [] else [⟨some 110, 40, 41⟩] }
def coH (q : Bool) : RH := [some (.lst (coL q) tByte true)]
end Go.Proofs.Z

namespace Go.Proofs.Z
open Go Go.RowKit Go.Proofs Go.Ri Go.Proofs.Z.Fa
/-! Digest of both packages: runs; 40 the hash, 41 its rest, 42 the digest. -/
def rcT : List TE := numT ++ [⟨.len, sT 1, sT 1, sI 54⟩, ⟨.conv .u64, sI 50, sI 50, sU 60⟩, ⟨.conv .u8, sU 60, sU 60, s8 30⟩, ⟨.bin .quo, sU 60, lU 256, sU 70⟩, ⟨.conv .u64, sI 51, sI 51, sU 61⟩, ⟨.conv .u8, sU 61, sU 61, s8 31⟩, ⟨.bin .quo, sU 61, lU 256, sU 71⟩, ⟨.conv .u64, sI 54, sI 54, sU 57⟩, ⟨.conv .u8, sU 57, sU 57, s8 32⟩, ⟨.bin .quo, sU 57, lU 256, sU 58⟩, ⟨.conv .u8, sU 58, sU 58, s8 33⟩, ⟨.bin .quo, sU 58, lU 256, sU 59⟩, ⟨.bin .add, sT 10, sT 11, sT 5⟩, ⟨.bin .add, sT 5, sT 12, sT 6⟩, ⟨.bin .add, sT 6, sT 13, sT 7⟩, ⟨.bin .add, sT 7, sT 1, sT 2⟩]
noncomputable def rcA : Tb := { T := rcT, MS := [⟨[s8 30], 10⟩, ⟨[s8 31], 11⟩, ⟨numB, 12⟩, ⟨[s8 32, s8 33], 13⟩] }
set_option maxRecDepth 100000 in
theorem rcore_run : doneQ rcA [] fRCore [entR] [.str 2 (sT 2)] [] (sT 2) [] = true := by kernel_rfl
def dgT : List TE := [⟨.bin .rem, sU 40, lU 65536, sU 41⟩, ⟨.conv .i64, sU 41, sU 41, sI 42⟩]
noncomputable def dgA (q : Bool) : Tb := { T := dgT, Q := [⟨fCore, [entR], .slN 0 (coL q) 1, coH q⟩], BS := [(2, coL q)], Y := [⟨fHash, [sT 2], sU 40⟩] }
noncomputable def dgB : Tb := { T := dgT, Y := [⟨fRCore, [entR], sT 2⟩, ⟨fRHash, [sT 2], sU 40⟩] }
set_option maxRecDepth 100000 in
theorem dg_a : (all2 fun q => doneQ (dgA q) [] fDigOf [entR] [.int 42 (sI 42)] [] (sI 42) []) = true := by kernel_rfl
set_option maxRecDepth 100000 in
theorem dg_b : doneQ dgB [] fRDigest0 [entR] [.int 42 (sI 42)] [] (sI 42) [] = true := by kernel_rfl
/-- The number i of the tests of an entry. -/
def ect (i : Nat) (q : Bool) : List TE := if i = 4 then [⟨.len, sT 1, sT 1, sI 54⟩, ⟨.bin .leq, sI 54, lI 4096, bR q⟩, ⟨.bin .gtr, sI 54, lI 4096, bR (!q)⟩] else sct i q
def ecT (m : Nat) : List TE := (List.range (Nat.min (m + 1) 5)).flatMap fun i => ect i (Nat.blt i m)
set_option maxRecDepth 100000 in
theorem en_no : (allU 5 fun m => doneQ { T := ecT m } [] fDigest [entR] [] [] (.tup [lI 0, lI 81]) [] && doneQ { T := ecT m } [] fRDigest [entR] [] [] (.tup [lI 0, lI 81]) []) = true := by kernel_rfl
noncomputable def enA : Tb := { T := ecT 5, Y := [⟨fDigOf, [entR], sI 42⟩, ⟨fRDigest0, [entR], sI 42⟩] }
set_option maxRecDepth 100000 in
theorem en_ok : (doneQ enA [] fDigest [entR] [.int 42 (sI 42)] [] (.tup [sI 42, lI 0]) [] && doneQ enA [] fRDigest [entR] [.int 42 (sI 42)] [] (.tup [sI 42, lI 0]) []) = true := by kernel_rfl
end Go.Proofs.Z
