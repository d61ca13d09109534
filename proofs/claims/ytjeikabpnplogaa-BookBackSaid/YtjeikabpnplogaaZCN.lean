/- A part of the proofs that the laws of layer eight answer true for every input. -/
import Derived.Test.YtjeikabpnplogaaZCL
namespace Go.Proofs.Z
open Go Go.RowKit Go.Proofs Go.Ri Go.Proofs.Z.Fa
/-! BookBack: runs. 60 the digest, 80 the text's length, 81 the encoding's, 63 how many bytes were read; strings: 9 the text, 4 the encoding, 6 both, 7 the encoding of what was read. -/
abbrev fBookBack : Nat := 8
def bkL (q : Bool) : List TE := [⟨.len, sT 9, sT 9, sI 80⟩, ⟨.bin .gtr, sI 80, lI 10000, bR q⟩]
noncomputable def bkBig : Tb := { X := saneX, T := bkL true }
set_option maxRecDepth 100000 in
theorem bk_big : doneQ bkBig [] fBookBack bnD [] [] (bR true) [] = true := by kernel_rfl
/-- a: is the entry valid? b: can the text be read? -/
def bkT (a : Bool) : List TE := if a then [⟨.bin .lss, sI 50, lI 0, bR false⟩, ⟨.bin .gtr, sI 50, lI 7, bR false⟩, ⟨.bin .lss, sI 51, lI 0, bR false⟩, ⟨.bin .gtr, sI 51, lI 63, bR false⟩, ⟨.len, sT 1, sT 1, sI 54⟩, ⟨.bin .gtr, sI 54, lI 4096, bR false⟩, ⟨.bin .add, sT 4, sT 9, sT 6⟩, ⟨.len, sT 4, sT 4, sI 81⟩] else []
def bkU (b : Bool) : List TE := if b then [⟨.len, sT 7, sT 7, sI 63⟩, ⟨.bin .leq, sI 63, sI 80, bR true⟩] else []
def bkY (a : Bool) : List YE := if a then [⟨fEnc, [entR], .tup [sT 4, lI 0]⟩, ⟨fDigest, [entR], .tup [sI 60, lI 0]⟩, ⟨fDec, [sT 6], .tup [entR, sI 81, lI 0]⟩] else [⟨fEnc, [entR], .tup [lT [], lI 81]⟩, ⟨fDigest, [entR], .tup [lI 0, lI 81]⟩]
def bkZ (b : Bool) : List YE := if b then [⟨fDec, [sT 9], .tup [dnR, sI 63, lI 0]⟩, ⟨fEnc, [dnR], .tup [sT 7, lI 0]⟩] else [⟨fDec, [sT 9], bad3⟩]
noncomputable def bkA (a b : Bool) : Tb := { X := saneX, T := bkL false ++ (bkT a ++ bkU b), Y := bkY a ++ bkZ b, SS := if b then [⟨sT 9, lI 0, sI 63, sT 7⟩] else [] }
set_option maxRecDepth 100000 in
theorem bk_run : (all2 fun a => all2 fun b => doneQ (bkA a b) [] fBookBack bnD [] [] (bR true) []) = true := by kernel_rfl
end Go.Proofs.Z
