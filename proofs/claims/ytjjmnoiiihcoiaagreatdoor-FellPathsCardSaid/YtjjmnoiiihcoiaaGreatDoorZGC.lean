/- A part of the proofs that the laws of layer four answer true for every input. -/
import Derived.Test.YtjjmnoiiihcoiaaGreatDoorZGB
namespace Go.Proofs.Z
open Go Go.RowKit Go.Proofs Go.Ri Go.Proofs.Z.Fa
/-! Check and Valid: runs. -/
abbrev fCheck : Nat := 26
abbrev fValid : Nat := 69
abbrev fRCheck : Nat := 27
abbrev tGate : Nat := 75
abbrev tFell : Nat := 24
abbrev tInt : Nat := 3
abbrev tBool : Nat := 4
/-- A fell, its gates by a list's name. -/
def fellR : RV := .agg [sI 0, .slN 0 0 4]
def fellI : RV := .agg [sI 0, .slA 0 0 4]
def fellB : List (Option RO) := [some (.lstA 0), some (.cells [sI 0, .slA 0 0 4] tFell false false)]
/-- What is known of the number i of a gate's tests. -/
def gf (i : Nat) (p : Bool) : List TE :=
  if i = 0 then [⟨.bin .lss, sI 3, lI 0, bR (!p)⟩]
  else if i = 1 then [⟨.bin .geq, sI 3, sI 4, bR (!p)⟩]
  else if i = 2 then [⟨.bin .geq, sI 4, sI 0, bR (!p)⟩]
  else if i = 3 then [⟨.bin .geq, sI 5, lI 0, bR p⟩, ⟨.bin .lss, sI 5, lI 0, bR (!p)⟩]
  else if i = 4 then [⟨.bin .lss, sI 5, lI 360, bR p⟩, ⟨.bin .geq, sI 5, lI 360, bR (!p)⟩]
  else if i = 5 then [⟨.bin .geq, sI 6, lI 0, bR p⟩, ⟨.bin .lss, sI 6, lI 0, bR (!p)⟩]
  else [⟨.bin .lss, sI 6, lI 360, bR p⟩, ⟨.bin .geq, sI 6, lI 360, bR (!p)⟩]
def gfN (c : Nat) : Nat → List TE
  | 0 => []
  | j + 1 => gfN c j ++ if j < c then gf j true else if j = c then gf j false else []
/-- What is known at the head: of the number of the gate. -/
def hT (b : Bool) : List TE := [⟨.bin .lss, sI 2, sI 1, bR b⟩, ⟨.inb, sI 2, sI 1, bR b⟩, ⟨.bin .add, sI 2, lI 1, sI 7⟩]
def hLL : List LNE := [⟨0, 4, sI 1⟩]
def hLX (b : Bool) : List LEE := if b then [⟨0, 2, [sI 3, sI 4, sI 5, sI 6]⟩] else []
noncomputable def ckTb (c : Nat) : Tb := { T := hT true ++ gfN c 7, LL := hLL, LX := hLX true }
noncomputable def hEnd : Tb := { T := hT false, LL := hLL }
def ckE (i : Nat) (p : Bool) : List TE := if i = 0 then [⟨.bin .lss, sI 0, lI 1, bR (!p)⟩] else if i = 1 then [⟨.bin .gtr, sI 0, lI 16, bR (!p)⟩] else [⟨.bin .gtr, sI 1, lI 32, bR (!p)⟩]
def ckN (c : Nat) : Nat → List TE
  | 0 => []
  | j + 1 => ckN c j ++ if j < c then ckE j true else if j = c then ckE j false else []
noncomputable def ckEn (c : Nat) : Tb := { T := ckN c 3, LL := hLL }
noncomputable def ckP (_ : Unit) : St := ⟨patW [(1, .ptr 1 0), (20, .slA 0 0 4), (21, sI 1), (22, sI 2)] 56 0, fellB⟩
noncomputable def ckB : Code := hB (ckEn 3) [] fCheck [fellR]
noncomputable def ckK : List Fr := hK (ckEn 3) [] fCheck [fellR]
def ckS (r : RV) : List SE := [.int 2 r, .int 0 (sI 0), .int 1 (sI 1), .lst 0 0]
set_option maxRecDepth 100000 in
theorem ck_enter : enterT (ckEn 3) [] fCheck [fellR] (ckS (lI 0)) [0, 1] (ckP ()) = true := by kernel_rfl
set_option maxRecDepth 100000 in
theorem ck_bad0 : (allU 3 fun c => doneQ (ckEn c) [] fCheck [fellR] [] [] (lI 40) []) = true := by kernel_rfl
set_option maxRecDepth 100000 in
theorem ck_again : againT (ckTb 7) [] ckB ckK (ckP ()) (ckS (sI 7)) [0, 1] (ckP ()) = true := by kernel_rfl
set_option maxRecDepth 100000 in
theorem ck_bad : (allU 7 fun c => outF (ckTb c) [] fCheck ckB ckK (ckP ()) (lI 40)) = true := by kernel_rfl
set_option maxRecDepth 100000 in
theorem ck_out : outF hEnd [] fCheck ckB ckK (ckP ()) (lI 0) = true := by kernel_rfl
/-! Valid. -/
noncomputable def vaP (_ : Unit) : St := ⟨patW [(1, .ptr 1 0), (3, sI 2)] 68 0, fellB⟩
noncomputable def vaB : Code := hB (ckEn 3) [] fValid [fellR]
noncomputable def vaK : List Fr := hK (ckEn 3) [] fValid [fellR]
set_option maxRecDepth 100000 in
theorem va_enter : enterT (ckEn 3) [] fValid [fellR] (ckS (lI 0)) [0, 1] (vaP ()) = true := by kernel_rfl
set_option maxRecDepth 100000 in
theorem va_bad0 : (allU 3 fun c => doneQ (ckEn c) [] fValid [fellR] [] [] (bR false) []) = true := by kernel_rfl
set_option maxRecDepth 100000 in
theorem va_again : againT (ckTb 7) [] vaB vaK (vaP ()) (ckS (sI 7)) [0, 1] (vaP ()) = true := by kernel_rfl
set_option maxRecDepth 100000 in
theorem va_bad : (allU 7 fun c => outF (ckTb c) [] fValid vaB vaK (vaP ()) (bR false)) = true := by kernel_rfl
set_option maxRecDepth 100000 in
theorem va_out : outF hEnd [] fValid vaB vaK (vaP ()) (bR true) = true := by kernel_rfl
end Go.Proofs.Z
