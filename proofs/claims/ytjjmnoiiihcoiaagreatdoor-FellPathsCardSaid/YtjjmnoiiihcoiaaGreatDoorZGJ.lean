/- A part of the proofs that the laws of layer four answer true for every input. -/
import Derived.Test.YtjjmnoiiihcoiaaGreatDoorZGI
namespace Go.Proofs.Z
open Go Go.RowKit Go.Proofs Go.Ri Go.Proofs.Z.Fa
/-! CheckPath of both packages: runs. -/
abbrev fCheckPath : Nat := 41
abbrev fRCheckPath : Nat := 42
abbrev fFellPaths : Nat := 7
/-- What is known of grazings (20, 21) and days (22, 23), one test behind the other. -/
def agT (i : Nat) (p : Bool) : List TE :=
  if i = 0 then [⟨.bin .lss, sI 20, lI 0, bR (!p)⟩, ⟨.bin .geq, sI 20, lI 0, bR p⟩]
  else if i = 1 then [⟨.bin .geq, sI 20, sI 0, bR (!p)⟩, ⟨.bin .lss, sI 20, sI 0, bR p⟩]
  else if i = 2 then [⟨.bin .lss, sI 21, lI 0, bR (!p)⟩, ⟨.bin .geq, sI 21, lI 0, bR p⟩]
  else if i = 3 then [⟨.bin .geq, sI 21, sI 0, bR (!p)⟩, ⟨.bin .lss, sI 21, sI 0, bR p⟩]
  else if i = 4 then [⟨.bin .lss, sI 22, lI 0, bR (!p)⟩, ⟨.bin .geq, sI 22, lI 0, bR p⟩]
  else if i = 5 then [⟨.bin .gtr, sI 22, lI 1048576, bR (!p)⟩, ⟨.bin .leq, sI 22, lI 1048576, bR p⟩]
  else if i = 6 then [⟨.bin .lss, sI 23, sI 22, bR (!p)⟩]
  else [⟨.bin .gtr, sI 23, lI 1048576, bR (!p)⟩, ⟨.bin .leq, sI 23, lI 1048576, bR p⟩]
def agN (c : Nat) : Nat → List TE
  | 0 => []
  | j + 1 => agN c j ++ if j < c then agT j true else if j = c then agT j false else []
def agX (c : Nat) (s : Bool) : List TE := if c < 6 then [] else if c = 6 then [⟨.bin .geq, sI 23, lI 0, bR s⟩, ⟨.bin .leq, sI 23, lI 1048576, bR true⟩] else [⟨.bin .geq, sI 23, lI 0, bR true⟩]
def psLL : List LNE := [⟨0, 4, sI 1⟩, ⟨1, 2, sI 25⟩]
def vld (e : Int) : Bool := if e = 0 then true else false
noncomputable def cpE (e : Int) (c : Nat) (s : Bool) : Tb := { T := agN c 8 ++ agX c s, LL := psLL, C := [⟨fCheck, [fellR], lI e⟩, ⟨fValid, [fellR], bR (vld e)⟩] }
def cpD : List RV := [fellR, sI 20, sI 21, sI 22, sI 23, .slN 0 1 2]
def cpB : List (Option RO) := [some (.lstA 0), some (.lstA 1), some (.cells [sI 0, .slA 0 0 4] tFell false false)]
def cpS (i x d : RV) : List SE := .int 24 i :: .int 30 x :: .int 31 d :: (idI [0, 1, 20, 21, 22, 23, 25] ++ [.lst 0 0, .lst 1 1])
noncomputable def cpP : St := ⟨patW [(6, .ptr 2 0), (2, sI 21), (4, sI 23), (33, .slA 1 1 2), (34, sI 25), (35, sI 24), (14, sI 30), (15, sI 31)] 88 0, cpB⟩
noncomputable def rpP : St := ⟨patW [(6, .ptr 2 0), (2, sI 21), (4, sI 23), (5, .slA 1 1 2), (15, sI 24), (13, sI 30), (14, sI 31)] 113 0, cpB⟩
/-- The head of the loop. -/
def phT (b : Bool) : List TE := [⟨.bin .lss, sI 24, sI 25, bR b⟩, ⟨.inb, sI 24, sI 25, bR b⟩, ⟨.bin .add, sI 24, lI 1, sI 26⟩]
/-- A pass (32: the day, 33: the gate), tests. -/
def pqT (i : Nat) (p : Bool) : List TE :=
  if i = 0 then [⟨.bin .lss, sI 32, sI 31, bR (!p)⟩]
  else if i = 1 then [⟨.bin .gtr, sI 32, sI 23, bR (!p)⟩]
  else if i = 2 then [⟨.bin .geq, sI 33, lI 0, bR p⟩, ⟨.bin .lss, sI 33, lI 0, bR (!p)⟩]
  else [⟨.bin .lss, sI 33, sI 1, bR p⟩, ⟨.bin .geq, sI 33, sI 1, bR (!p)⟩, ⟨.inb, sI 33, sI 1, bR p⟩]
def pqN (c : Nat) : Nat → List TE
  | 0 => []
  | j + 1 => pqN c j ++ if j < c then pqT j true else if j = c then pqT j false else []
def abT (pa pb : Bool) : List TE := [⟨.ieq, sI 30, sI 3, bR pa⟩, ⟨.ieq, sI 3, sI 30, bR pa⟩, ⟨.ieq, sI 30, sI 4, bR pb⟩, ⟨.ieq, sI 4, sI 30, bR pb⟩]
/-- A pass over no gate. -/
noncomputable def cpBad (c : Nat) : Tb := { T := phT true ++ pqN c 4, LL := psLL, LX := [⟨1, 24, [sI 32, sI 33]⟩] }
/-- A pass over a gate. -/
noncomputable def cpGate (o pa pb : Bool) : Tb := { T := phT true ++ (pqN 4 4 ++ abT pa pb), LL := psLL, LX := [⟨1, 24, [sI 32, sI 33]⟩, ⟨0, 33, [sI 3, sI 4, sI 5, sI 6]⟩], Y := [⟨fIsOpen, [gateQ, sI 32], bR o⟩, ⟨fOpenOn, [gateQ, sI 32], bR o⟩] }
noncomputable def cpEnd (e : Bool) : Tb := { T := ⟨.ieq, sI 30, sI 21, bR e⟩ :: phT false, LL := psLL }
noncomputable def cpF (c : Bool) : Nat := if c then fCheckPath else fRCheckPath
noncomputable def cpQ (c : Bool) : St := if c then cpP else rpP
noncomputable def cpLB (c : Bool) : Code := hB (cpE 0 8 true) [] (cpF c) cpD
noncomputable def cpLK (c : Bool) : List Fr := hK (cpE 0 8 true) [] (cpF c) cpD
set_option maxRecDepth 100000 in
theorem cp_enter : (all2 fun c => enterT (cpE 0 8 true) [] (cpF c) cpD (cpS (lI 0) (sI 20) (sI 22)) [0, 1, 2] (cpQ c)) = true := by kernel_rfl
set_option maxRecDepth 100000 in
theorem cp_err : (all2 fun c => allU 8 fun k => all2 fun s => doneQ (cpE 0 k s) [] (cpF c) cpD [] [] (lI 1) []) = true := by kernel_rfl
set_option maxRecDepth 100000 in
theorem cp_err40 : (all2 fun c => doneQ { LL := psLL, C := [⟨fCheck, [fellR], lI 40⟩, ⟨fValid, [fellR], bR false⟩] } [] (cpF c) cpD [] [] (lI 40) []) = true := by kernel_rfl
set_option maxRecDepth 100000 in
theorem cp_bad : (all2 fun c => allU 4 fun k => outF (cpBad k) [] (cpF c) (cpLB c) (cpLK c) (cpQ c) (lI 41)) = true := by kernel_rfl
set_option maxRecDepth 100000 in
theorem cp_shut : (all2 fun c => all2 fun pa => all2 fun pb => outF (cpGate false pa pb) [] (cpF c) (cpLB c) (cpLK c) (cpQ c) (lI 41)) = true := by kernel_rfl
set_option maxRecDepth 100000 in
theorem cp_off : (all2 fun c => outF (cpGate true false false) [] (cpF c) (cpLB c) (cpLK c) (cpQ c) (lI 41)) = true := by kernel_rfl
set_option maxRecDepth 100000 in
theorem cp_again : (all2 fun c => all2 fun pb => againT (cpGate true true pb) [] (cpLB c) (cpLK c) (cpQ c) (cpS (sI 26) (sI 4) (sI 32)) [0, 1, 2] (cpQ c)) = true := by kernel_rfl
set_option maxRecDepth 100000 in
theorem cp_again2 : (all2 fun c => againT (cpGate true false true) [] (cpLB c) (cpLK c) (cpQ c) (cpS (sI 26) (sI 3) (sI 32)) [0, 1, 2] (cpQ c)) = true := by kernel_rfl
set_option maxRecDepth 100000 in
theorem cp_end : (all2 fun c => all2 fun e => outF (cpEnd e) [] (cpF c) (cpLB c) (cpLK c) (cpQ c) (if e then lI 0 else lI 41)) = true := by kernel_rfl
end Go.Proofs.Z
