/- A part of the proofs that the laws of layer eight answer true for every input. -/
import Derived.Test.YtjeikabpnplogaaZBR
namespace Go.Proofs.Z
open Go Go.RowKit Go.Proofs Go.Ri Go.Proofs.Z.Fa
/-! Encode of both packages: runs. 1000 to 1127 the bytes of the seal, 2000 + 16 i + j the secret i without its last j bytes; lists 501 to 628 the bytes so far; strings: 4 all, 20 to 35 the secrets' bytes, 41 to 55 all so far. -/
abbrev fEncOf : Nat := 68
abbrev fREnc0 : Nat := 69
abbrev fEnc : Nat := 20
abbrev fREnc : Nat := 21
abbrev fByts : Nat := 52
def seN (i j : Nat) : RV := if j = 0 then sU (300 + i) else sU (2000 + 16 * i + j)
def sxT : List TE := (List.range 16).flatMap fun i => (List.range 8).flatMap fun j => [⟨.conv .u8, seN i j, seN i j, s8 (1000 + (8 * i + j))⟩, ⟨.bin .shr, seN i j, lU 8, seN i (j + 1)⟩]
def sxLA (b : Nat) : List LAE := (List.range 128).map fun k => ⟨if k = 0 then b else 500 + k, [s8 (1000 + k)], 500 + (k + 1)⟩
noncomputable def ecA (q : Bool) : Tb := { T := sxT, Q := [⟨fCore, [entR], .slN 0 (coL q) 1, coH q⟩], LA := sxLA (coL q), BS := [(4, 628)] }
noncomputable def byA : Tb := { T := numT, MS := [⟨numB, 2⟩] }
set_option maxRecDepth 100000 in
theorem by_run : doneQ byA [true] fByts [sU 0, lI 8] [.str 2 (sT 2)] [] (sT 2) [] = true := by kernel_rfl
def soN (i : Nat) : RV := if i = 0 then sT 2 else if i = 16 then sT 4 else sT (40 + i)
noncomputable def ecB : Tb := { T := (List.range 16).map fun i => ⟨.bin .add, soN i, sT (20 + i), soN (i + 1)⟩, Y := ⟨fRCore, [entR], sT 2⟩ :: (List.range 16).map fun i => ⟨fByts, [sU (300 + i), lI 8], sT (20 + i)⟩ }
set_option maxRecDepth 100000 in
theorem ec_b : doneQ ecB [true] fREnc0 [entR] [.str 4 (sT 4)] [] (sT 4) [] = true := by kernel_rfl
set_option maxRecDepth 100000 in
theorem ek_no : (allU 5 fun m => doneQ { T := ecT m } [] fEnc [entR] [] [] (.tup [lT [], lI 81]) [] && doneQ { T := ecT m } [] fREnc [entR] [] [] (.tup [lT [], lI 81]) []) = true := by kernel_rfl
noncomputable def ekA : Tb := { T := ecT 5, Y := [⟨fEncOf, [entR], sT 4⟩, ⟨fREnc0, [entR], sT 4⟩] }
set_option maxRecDepth 100000 in
theorem ek_ok : (doneQ ekA [] fEnc [entR] [.str 4 (sT 4)] [] (.tup [sT 4, lI 0]) [] && doneQ ekA [] fREnc [entR] [.str 4 (sT 4)] [] (.tup [sT 4, lI 0]) []) = true := by kernel_rfl
end Go.Proofs.Z

namespace Go.Proofs.Z
open Go Go.RowKit Go.Proofs Go.Ri Go.Proofs.Z.Fa
/-! Decode of both packages: runs. Numbers of bytes: 20 to 27 the bytes, 30 to 37 the same with 64 bits, 40 to 47 each at its place, 51 to 58 the number so far, 60 to 67 (the specification's) the number so far without its last byte; 1 the text's length, 2 the body's length, 6 and 7 the first bytes, 55 and 56 the ends of body and entry, 100 to 115 and 120 to 135 where the secrets begin and end. Strings: 0 the text, 10 the length's bytes, 11 those of the entry before, 1 the body, 20 to 35 the secrets'. -/
abbrev fNum : Nat := 70
abbrev fRNum : Nat := 71
abbrev fDec : Nat := 22
abbrev fRDec : Nat := 23
def nuC (q : Bool) : Nat := if q then 8 else 2
def nmV (i : Nat) : RV := if i = 0 then lU 0 else sU (50 + i)
def nbE (i : Nat) : List TE := [⟨.idx, sT 0, lI ((i : Nat) : Int), s8 (20 + i)⟩, ⟨.conv .u64, s8 (20 + i), s8 (20 + i), sU (30 + i)⟩, ⟨.bin .shl, sU (30 + i), lI ((8 * i : Nat) : Int), sU (40 + i)⟩, ⟨.bin .or, nmV i, sU (40 + i), nmV (i + 1)⟩]
noncomputable def nbA (n : Nat) : Tb := { T := ⟨.len, sT 0, sT 0, lI (n : Int)⟩ :: (List.range n).flatMap nbE }
set_option maxRecDepth 100000 in
theorem nb_run : (all2 fun q => doneQ (nbA (nuC q)) [true] fNum [sT 0] [.int (50 + nuC q) (sU (50 + nuC q))] [] (sU (50 + nuC q)) []) = true := by kernel_rfl
def rmV (n i : Nat) : RV := if i = n then lU 0 else sU (50 + i)
def rpV (n i : Nat) : RV := if i + 1 = n then lU 0 else sU (60 + i)
def rbE (n i : Nat) : List TE := [⟨.bin .add, sI 1, lI ((i : Nat) : Int), sI (10 + i)⟩, ⟨.idx, sT 0, sI (10 + i), s8 (20 + i)⟩, ⟨.conv .u64, s8 (20 + i), s8 (20 + i), sU (30 + i)⟩, ⟨.bin .mul, rmV n (i + 1), lU 256, rpV n i⟩, ⟨.bin .add, rpV n i, sU (30 + i), rmV n i⟩]
noncomputable def rbA (n : Nat) : Tb := { T := (List.range n).flatMap (rbE n) }
set_option maxRecDepth 100000 in
theorem rb_run : (all2 fun q => doneQ (rbA (nuC q)) [true] fRNum [sT 0, sI 1, lI ((nuC q : Nat) : Int)] [.int 50 (sU 50)] [] (sU 50) []) = true := by kernel_rfl
def d0T (q : Bool) : List TE := [⟨.len, sT 0, sT 0, sI 1⟩, ⟨.bin .lss, sI 1, lI 12, bR q⟩]
def d1T (q : Bool) : List TE := [⟨.conv .i64, sU 2, sU 2, sI 54⟩, ⟨.bin .add, lI 12, sI 54, sI 55⟩, ⟨.bin .add, sI 55, lI 128, sI 56⟩, ⟨.bin .lss, sI 1, sI 56, bR q⟩]
def d2T : List TE := [⟨.idx, sT 0, lI 0, s8 6⟩, ⟨.conv .i64, s8 6, s8 6, sI 50⟩, ⟨.idx, sT 0, lI 1, s8 7⟩, ⟨.conv .i64, s8 7, s8 7, sI 51⟩] ++ (List.range 16).flatMap fun (i : Nat) => [⟨.bin .add, sI 55, lI ((8 * i : Nat) : Int), sI (100 + i)⟩, ⟨.bin .add, sI (100 + i), lI 8, sI (120 + i)⟩]
def dSS1 : List SSE := [⟨sT 0, lI 10, lI 12, sT 10⟩]
def dSS2 : List SSE := [⟨sT 0, lI 12, sI 55, sT 1⟩]
def dSS3 : List SSE := ⟨sT 0, lI 2, lI 10, sT 11⟩ :: (List.range 16).map fun i => ⟨sT 0, sI (100 + i), sI (120 + i), sT (20 + i)⟩
def dY1 : List YE := [⟨fNum, [sT 10], sU 2⟩]
def dY2 : List YE := ⟨fNum, [sT 11], sU 0⟩ :: (List.range 16).map fun i => ⟨fNum, [sT (20 + i)], sU (300 + i)⟩
def rY1 : List YE := [⟨fRNum, [sT 0, lI 10, lI 2], sU 2⟩]
def rY2 : List YE := ⟨fRNum, [sT 0, lI 2, lI 8], sU 0⟩ :: (List.range 16).map fun i => ⟨fRNum, [sT 0, sI (100 + i), lI 8], sU (300 + i)⟩
def bad3 : RV := .tup [zenR, lI 0, lI 81]
noncomputable def dA0 : Tb := { T := d0T true }
noncomputable def dA1 : Tb := { T := d0T false ++ d1T true, SS := dSS1, Y := dY1 }
noncomputable def dA2 (m : Nat) : Tb := { T := d0T false ++ (d1T false ++ (d2T ++ ecT m)), SS := dSS1 ++ (dSS2 ++ dSS3), Y := dY1 ++ dY2 }
def bigT (b : Bool) : List TE := [⟨.bin .gtr, sI 54, lI 4096, bR b⟩]
noncomputable def rA1 (b : Bool) : Tb := { T := d0T false ++ (d1T true ++ bigT b), Y := rY1 }
noncomputable def rA2 (b : Bool) (m : Nat) : Tb := { T := d0T false ++ (d1T false ++ (bigT b ++ (d2T ++ ecT m))), SS := dSS2, Y := rY1 ++ rY2 }
def dS : List SE := [.int 50 (sI 50), .int 51 (sI 51), .int 0 (sU 0), .str 1 (sT 1), .int 56 (sI 56)] ++ (List.range 16).map fun i => .int (300 + i) (sU (300 + i))
def good3 : RV := .tup [entR, sI 56, lI 0]
set_option maxRecDepth 100000 in
theorem d_0 : (doneQ dA0 [true] fDec [sT 0] [] [] bad3 [] && doneQ dA0 [true] fRDec [sT 0] [] [] bad3 []) = true := by kernel_rfl
set_option maxRecDepth 100000 in
theorem d_1 : (all2 fun b => doneQ dA1 [true] fDec [sT 0] [] [] bad3 [] && doneQ (rA1 b) [true] fRDec [sT 0] [] [] bad3 []) = true := by kernel_rfl
end Go.Proofs.Z
