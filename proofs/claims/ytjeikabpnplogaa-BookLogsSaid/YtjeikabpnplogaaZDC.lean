/- A part of the proofs that the laws of layer eight answer true for every input. -/
import Derived.Test.YtjeikabpnplogaaZCE
import Derived.Test.YtjeikabpnplogaaZQN
import Derived.Test.YtjeikabpnplogaaZLoop5
namespace Go.Proofs.Z
open Go Go.RowKit Go.Proofs Go.Ri Go.Proofs.Z.Fa
/-! Worlds of the laws: runs of few and sealed. 600 the seed, 601 to 603 parishes, numbers, sectors; list 3 the items (four cells each), 604 how many; 605 the place, 606 the next one; 610, 611, 613 and string 3 the item, 614 its body's length. -/
abbrev fFew : Nat := 28
abbrev fSealed : Nat := 76
abbrev fPool : Nat := 30
abbrev fPick : Nat := 29
abbrev fSticksOf : Nat := 31
abbrev tWorld : Nat := 52
def wldR : RV := .agg [sU 600, sI 601, sI 602, sI 603, .slN 0 3 4]
def wldB : List (Option RO) := [some (.lstA 3), some (.cells [sU 600, sI 601, sI 602, sI 603, .slA 0 3 4] tWorld false false)]
/-- The number i of the tests of a world. -/
def fwt (i : Nat) (q : Bool) : List TE :=
  if i = 0 then [⟨.bin .lss, sI 601, lI 1, bR (!q)⟩] else if i = 1 then [⟨.bin .gtr, sI 601, lI 3, bR (!q)⟩] else if i = 2 then [⟨.bin .lss, sI 602, lI 1, bR (!q)⟩] else if i = 3 then [⟨.bin .gtr, sI 602, lI 6, bR (!q)⟩]
  else if i = 4 then [⟨.bin .lss, sI 603, lI 1, bR (!q)⟩] else if i = 5 then [⟨.bin .gtr, sI 603, lI 100, bR (!q)⟩] else [⟨.bin .gtr, sI 604, lI 24, bR (!q)⟩]
def fwT (m : Nat) : List TE := (List.range (Nat.min (m + 1) 7)).flatMap fun i => fwt i (Nat.blt i m)
def fwLL : List LNE := [⟨3, 4, sI 604⟩]
def itR : List RV := [sI 610, sI 611, sT 3, sI 613]
noncomputable def fwA (m : Nat) : Tb := { T := fwT m, LL := fwLL }
def fwS (r : RV) : List SE := [.int 600 (sU 600), .int 601 (sI 601), .int 602 (sI 602), .int 603 (sI 603), .int 604 (sI 604), .int 605 r, .lst 3 3]
noncomputable def fwP : St := ⟨patW [(1, .ptr 1 0), (3, sI 605)] 53 0, wldB⟩
def stpT (b : Bool) : List TE := [⟨.bin .lss, sI 605, sI 604, bR b⟩, ⟨.inb, sI 605, sI 604, bR b⟩, ⟨.bin .add, sI 605, lI 1, sI 606⟩]
noncomputable def fwR (q : Bool) : Tb := { T := stpT true ++ [⟨.len, sT 3, sT 3, sI 614⟩, ⟨.bin .gtr, sI 614, lI 200, bR (!q)⟩], LL := fwLL, LX := [⟨3, 605, itR⟩] }
set_option maxRecDepth 100000 in
theorem fw_enter : atH (entN (fwA 7) [] fFew [wldR]) fFew 0 (fwS (lI 0)) [0, 1] fwP = true := by kernel_rfl
set_option maxRecDepth 100000 in
theorem fw_no : (allU 7 fun m => doneQ (fwA m) [] fFew [wldR] [] [] (bR false) []) = true := by kernel_rfl
set_option maxRecDepth 100000 in
theorem fw_again : atH (fromH (fwR true) [] fFew 0 fwP) fFew 0 (fwS (sI 606)) [0, 1] fwP = true := by kernel_rfl
set_option maxRecDepth 100000 in
theorem fw_bad : endF (fwR false) fFew (fromH (fwR false) [] fFew 0 fwP) (bR false) = true := by kernel_rfl
set_option maxRecDepth 100000 in
theorem fw_out : endF { T := stpT false, LL := fwLL } fFew (fromH { T := stpT false, LL := fwLL } [] fFew 0 fwP) (bR true) = true := by kernel_rfl
/-! sealed. -/
def entS (b : Nat) : List SE := [.int 50 (sI 50), .int 51 (sI 51), .int 0 (sU 0), .str 1 (sT 1)] ++ (List.range 16).map fun i => .int (b + i) (sU (b + i))
set_option maxRecDepth 100000 in
theorem se_ok : (doneQ { Y := [⟨fRSeal, sealD, .tup [senR, lI 0]⟩] } [] fSealed sealD (entS 500) [] senR [] && doneQ { Y := [⟨fRSeal, sealD, .tup [zenR, lI 81]⟩] } [] fSealed sealD (entS 300) [] entR []) = true := by kernel_rfl
end Go.Proofs.Z

namespace Go.Proofs.Z
open Go Go.RowKit Go.Proofs Go.Ri Go.Proofs.Z.Fa
/-! pool: runs. List 9 the entries so far, 10 then; 620 to 622, string 4, 400 to 415 the entry that the item is behind; 640 its number and one, 650 its hash, 651 and one; 652 the seed and one; 700 to 715 the seal, 680 its first number and one, 681 the entry's number and one, 720 to 735 the seal by another seed; string 6 the body with one sign more. a: 0 behind nothing, 1 behind a later one, 2 behind one of another parish, 3 behind one that is not valid, 4 behind a valid one. h: what is wrong. -/
abbrev tEntry : Nat := 38
abbrev fRValid : Nat := 66
abbrev fRHashOf : Nat := 75
noncomputable def poP (ne : Bool) : St := ⟨patW [(1, .ptr 1 0), (3, if ne then .slN 2 9 20 else nilR), (4, sI 605)] 112 0, wldB ++ if ne then [some (.lst 9 tEntry true)] else []⟩
def peR : List RV := [sI 620, sI 621, sU 622, sT 4] ++ (List.range 16).map fun i => sU (400 + i)
def nR (a : Nat) : RV := if Nat.blt a 3 then lI 0 else sI 640
def xR (a : Nat) (h : Nat) : RV := if Nat.beq a 4 then (if Nat.beq h 1 then sU 651 else sU 650) else (if Nat.beq h 1 then lU 1 else lU 0)
def zsR : List RV := (List.range 16).map fun _ => lU 0
def ssR (b : Nat) : List RV := (List.range 16).map fun i => sU (b + i)
def e0R (a h : Nat) : RV := .agg ([sI 610, nR a, xR a h, sT 3] ++ zsR)
def e1R (a h : Nat) : RV := .agg ([sI 610, nR a, xR a h, sT 3] ++ ssR 700)
/-- The entry as it is then. -/
def fcR (a h : Nat) : List RV := [sI 610, if Nat.beq h 5 then (if Nat.blt a 3 then lI 1 else sI 681) else nR a, xR a h, if Nat.beq h 3 then sT 6 else sT 3] ++ (if Nat.beq h 2 then sU 680 :: (List.range 15).map fun i => sU (701 + i) else if Nat.beq h 4 then ssR 720 else ssR 700)
def poA (a : Nat) : List TE := [⟨.bin .geq, sI 611, lI 0, bR (!Nat.beq a 0)⟩] ++ (if Nat.beq a 0 then [] else [⟨.bin .lss, sI 611, sI 605, bR (!Nat.beq a 1)⟩]) ++ (if Nat.blt a 2 then [] else [⟨.inb, sI 611, sI 605, bR true⟩, ⟨.ieq, sI 620, sI 610, bR (!Nat.beq a 2)⟩, ⟨.bin .add, sI 621, lI 1, sI 640⟩])
def poH (h : Nat) : List TE := (List.range 5).map fun i => ⟨.ieq, sI 613, lI ((i + 1 : Nat) : Int), bR (Nat.beq h (i + 1))⟩
def poK : List TE := [⟨.bin .add, sU 650, lU 1, sU 651⟩, ⟨.bin .add, sU 600, lU 1, sU 652⟩, ⟨.bin .add, sU 700, lU 1, sU 680⟩, ⟨.bin .add, sI 640, lI 1, sI 681⟩, ⟨.bin .add, sT 3, lT [120], sT 6⟩]
def poY (a h : Nat) : List YE := [⟨fSealed, [sU 600, e0R a h], e1R a h⟩, ⟨fSealed, [sU 652, e1R a h], .agg ([sI 610, nR a, xR a h, sT 3] ++ ssR 720)⟩] ++ ((if Nat.blt a 3 then [] else [⟨fRValid, [.agg peR], bR (Nat.beq a 4)⟩]) ++ if Nat.beq a 4 then [⟨fRHashOf, [.agg peR], sU 650⟩] else [])
noncomputable def poTb (ne : Bool) (a h : Nat) : Tb := { T := stpT true ++ (poA a ++ (poH h ++ poK)), LL := if ne then ⟨9, 20, sI 605⟩ :: fwLL else fwLL, LX := ⟨3, 605, itR⟩ :: (if Nat.blt a 2 then [] else [⟨9, 611, peR⟩]), LA := if ne then [⟨9, fcR a h, 10⟩] else [], Y := poY a h }
def poS (r : RV) (L : List SE) : List SE := [.int 600 (sU 600), .int 601 (sI 601), .int 602 (sI 602), .int 603 (sI 603), .int 604 (sI 604), .int 605 r, .lst 3 3] ++ L
set_option maxRecDepth 100000 in
theorem po_enter : atH (entN { LL := fwLL } [] fPool [wldR]) fPool 0 (poS (lI 0) []) [0, 1] (poP false) = true := by kernel_rfl
set_option maxRecDepth 100000 in
theorem po_first : (allU 2 fun a => allU 6 fun h => atH (fromH (poTb false a h) [] fPool 0 (poP false)) fPool 0 (poS (sI 606) [.new 9 (fcR a h)]) [0, 1, 5] (poP true)) = true := by kernel_rfl
set_option maxRecDepth 100000 in
theorem po_again : (allU 5 fun a => allU 6 fun h => atH (fromH (poTb true a h) [] fPool 0 (poP true)) fPool 0 (poS (sI 606) [.lst 9 10]) [0, 1, 6] (poP true)) = true := by kernel_rfl
noncomputable def poEnd (ne : Bool) : Tb := { T := stpT false, LL := if ne then ⟨9, 20, sI 605⟩ :: fwLL else fwLL }
def poR (ne : Bool) : RV := if ne then .slN 0 9 20 else nilR
noncomputable def poHp (ne : Bool) : RH := if ne then [some (.lst 9 tEntry true)] else []
set_option maxRecDepth 100000 in
theorem po_out : (all2 fun ne => endQ (poEnd ne) fPool (fromH (poEnd ne) [] fPool 0 (poP ne)) (if ne then [.lst 9 9] else []) (if ne then [2] else []) (poR ne) (poHp ne)) = true := by kernel_rfl
end Go.Proofs.Z

namespace Go.Proofs.Z
open Go Go.RowKit Go.Proofs Go.Ri Go.Proofs.Z.Fa
/-! sticksOf: runs. 605 the parish, 606 the next one; 607 the number, 608 the next one; 200 to 231 a stick; lists: 11 the parish's sticks so far, 12 then, 20 all so far, 21 then. -/
abbrev tStick : Nat := 30
abbrev tSticks : Nat := 58
noncomputable def sqH (ne : Bool) : RH := wldB ++ if ne then [some (.lstL 20 tSticks 32)] else []
noncomputable def sqP (ne : Bool) (o : Option Bool) : St := match o with
  | none => ⟨patW [(1, .ptr 1 0), (3, if ne then .slN 2 20 1 else nilR), (4, sI 605)] 38 0, sqH ne⟩
  | some nb => ⟨patW [(1, .ptr 1 0), (3, if ne then .slN 2 20 1 else nilR), (4, sI 605), (5, if nb then .slN (if ne then 3 else 2) 11 32 else nilR), (6, sI 607)] 38 0, sqH ne ++ if nb then [some (.lst 11 tStick true)] else []⟩
def skC : List RV := (List.range 32).map fun i => sU (200 + i)
def sqT : List TE := [⟨.bin .add, sI 605, lI 1, sI 606⟩, ⟨.bin .add, sI 607, lI 1, sI 608⟩]
def sqp (b : Bool) : List TE := [⟨.bin .lss, sI 605, sI 601, bR b⟩]
def sqn (b : Bool) : List TE := [⟨.bin .lss, sI 607, sI 602, bR b⟩]
noncomputable def sqO (b : Bool) : Tb := { T := sqT ++ sqp b }
noncomputable def sqI (nb : Bool) : Tb := { T := sqT ++ sqn true, Y := [⟨fRMk, [sU 600, sI 605, sI 607], .tup [.agg skC, sI 14]⟩], LA := if nb then [⟨11, skC, 12⟩] else [] }
noncomputable def sqE (ne : Bool) : Tb := { T := sqT ++ sqn false, LNA := [⟨if ne then some 20 else none, 11, 21⟩] }
def sqS (p n : RV) (j : Nat) (L : List SE) : List SE := [.int 600 (sU 600), .int 601 (sI 601), .int 602 (sI 602), .int 603 (sI 603), .int 604 (sI 604), .int 605 p, .int 607 n, .lst 3 3, .lst 20 j] ++ L
set_option maxRecDepth 100000 in
theorem sq_enter : atH (entN { LL := fwLL } [] fSticksOf [wldR]) fSticksOf 0 (fwS (lI 0) ++ [.int 607 (lI 0)]) [0, 1] (sqP false none) = true := by kernel_rfl
def sqB (ne : Bool) : List Nat := if ne then [0, 1, 2] else [0, 1]
set_option maxRecDepth 100000 in
theorem sq_in : (all2 fun ne => atH (fromH (sqO true) [] fSticksOf 0 (sqP ne none)) fSticksOf 1 (sqS (sI 605) (lI 0) 20 []) (sqB ne) (sqP ne (some false))) = true := by kernel_rfl
set_option maxRecDepth 100000 in
theorem sq_first : (all2 fun ne => atH (fromH (sqI false) [] fSticksOf 1 (sqP ne (some false))) fSticksOf 1 (sqS (sI 605) (sI 608) 20 [.new 11 skC]) (sqB ne ++ [if ne then 5 else 4]) (sqP ne (some true))) = true := by kernel_rfl
set_option maxRecDepth 100000 in
theorem sq_next : (all2 fun ne => atH (fromH (sqI true) [] fSticksOf 1 (sqP ne (some true))) fSticksOf 1 (sqS (sI 605) (sI 608) 20 [.lst 11 12]) (sqB ne ++ [if ne then 6 else 5]) (sqP ne (some true))) = true := by kernel_rfl
set_option maxRecDepth 100000 in
theorem sq_row : (all2 fun ne => atH (fromH (sqE ne) [] fSticksOf 1 (sqP ne (some true))) fSticksOf 0 (sqS (sI 606) (lI 0) 21 []) [0, 1, if ne then 5 else 4] (sqP true none)) = true := by kernel_rfl
set_option maxRecDepth 100000 in
theorem sq_out : endQ (sqO false) fSticksOf (fromH (sqO false) [] fSticksOf 0 (sqP true none)) [.lst 20 20] [2] (.slN 0 20 1) [some (.lstL 20 tSticks 32)] = true := by kernel_rfl
end Go.Proofs.Z
