/- A part of the proofs that the laws of layer four answer true for every input. -/
import Derived.Test.YtjjmnoiiihcoiaaGreatDoorZNM
import Derived.Test.YtjjmnoiiihcoiaaGreatDoorZHH
import Derived.Test.YtjjmnoiiihcoiaaGreatDoorZLN
namespace Go.Proofs.Z
open Go Go.RowKit Go.Proofs Go.Ri Go.Proofs.Z.Fa
/-! The law FellBridged: runs. 20 the gate, 3 to 6 its cells, 44 how many bridges, 45 how many folds, 46 how many gates are shut, 48 the first of them, 47 the place 0; lists: 23 the bridges, 20 the folds, 80 the shut gates. -/
abbrev fBridged : Nat := 16
def bgD : List RV := [fellR, sI 20]
def bgT (c : Nat) : List TE := ⟨.bin .gtr, sI 1, lI 200, bR false⟩ :: ⟨.bin .geq, sI 20, lI 0, bR (!(Nat.beq c 0))⟩ :: (if Nat.beq c 0 then [] else ⟨.bin .lss, sI 20, sI 1, bR (!(Nat.beq c 1))⟩ :: (if Nat.beq c 1 then [] else ⟨.inb, sI 20, sI 1, bR true⟩ :: (if Nat.beq c 5 then [⟨.ieq, sI 46, lI 1, bR false⟩] else if Nat.beq c 3 then [] else [⟨.inb, sI 47, lI 1, bR true⟩, ⟨.ieq, sI 48, sI 20, bR (Nat.beq c 2)⟩])))
def bgN (nb : Bool) : RV := if nb then .slN 0 23 1 else nilR
noncomputable def bgE (nb : Bool) (c : Nat) : Tb := { X := saneX, T := bgT c, LL := [⟨0, 4, sI 1⟩, ⟨20, 1, sI 45⟩] ++ (if nb then [⟨23, 1, sI 44⟩] else []) ++ (if Nat.beq c 5 then [⟨80, 1, sI 46⟩] else if Nat.beq c 2 || Nat.beq c 4 then [⟨80, 1, lI 1⟩] else []), LX := (if Nat.beq c 0 || Nat.beq c 1 then [] else [⟨0, 20, [sI 3, sI 4, sI 5, sI 6]⟩]) ++ (if Nat.beq c 2 || Nat.beq c 4 then [⟨80, 47, [sI 48]⟩] else []), IZ := [(47, 0)], C := ⟨fCheck, [fellR], lI 0⟩ :: (if Nat.beq c 0 || Nat.beq c 1 then [] else [⟨fIn, [bgN nb, sI 20], bR (Nat.beq c 2)⟩]), U := qnU ([⟨fBridges, [fellR], (ffB nb).1, (ffB nb).2⟩, ⟨fFolds, [fellR], .tup [.slN 0 20 1, lI 0], [some (.lstL 20 tInts 1)]⟩] ++ (if Nat.beq c 0 || Nat.beq c 1 then [] else [⟨fShut, [fellR, sI 3, sI 4], (shAns (!(Nat.beq c 3))).1, (shAns (!(Nat.beq c 3))).2⟩])) }
noncomputable def bgH (nb : Bool) : RH := [some (.lstA 0), some (.cells [sI 0, .slA 0 0 4] tFell false false)] ++ (if nb then [some (.lst 23 tInt true)] else []) ++ [some (.lstL 20 tInts 1)]
def bgB (nb : Bool) : RV := if nb then .slN 2 23 1 else nilR
def bgF (nb : Bool) : RV := .slN (if nb then 3 else 2) 20 1
noncomputable def bgP0 (nb : Bool) : St := ⟨patW [(2, .ptr 1 0), (5, bgB nb), (7, bgF nb), (12, sI 22)] 160 0, bgH nb⟩
def bgS (i : RV) : List SE := [.int 0 (sI 0), .int 1 (sI 1), .int 45 (sI 45), .int 22 i, .lst 0 0, .lst 20 20]
def bgSb (nb : Bool) : List SE := if nb then [.lst 23 23, .int 44 (sI 44)] else []
def bgR (nb : Bool) : List Nat := if nb then [0, 1, 2, 3] else [0, 1, 2]
set_option maxRecDepth 100000 in
theorem bg_enter : (all2 fun nb => allU 6 fun c => (Nat.beq c 2 && !nb) || atH (entN (bgE nb c) [] fBridged bgD) fBridged 0 (bgSb nb ++ bgS (lI 0)) (bgR nb) (bgP0 nb)) = true := by kernel_rfl
noncomputable def bgLL (nb : Bool) : List LNE := [⟨0, 4, sI 1⟩, ⟨20, 1, sI 45⟩, ⟨62, 1, sI 17⟩] ++ if nb then [⟨23, 1, sI 44⟩] else []
noncomputable def bgT0 (nb : Bool) : Tb := { T := [⟨.bin .lss, sI 22, sI 45, bR true⟩], LL := bgLL nb }
noncomputable def bgT0e (nb : Bool) : Tb := { T := [⟨.bin .lss, sI 22, sI 45, bR false⟩], LL := bgLL nb }
noncomputable def bgP1 (nb c : Bool) : St := ⟨patW [(2, .ptr 1 0), (5, bgB nb), (7, bgF nb), (12, sI 22), (13, bR c), (14, sI 24)] 160 0, bgH nb⟩
noncomputable def bgT1 (nb c q : Bool) : Tb := { T := [⟨.bin .lss, sI 24, sI 44, bR true⟩, ⟨.inb, sI 24, sI 44, bR true⟩, ⟨.bin .add, sI 24, lI 1, sI 25⟩, ⟨.bin .lss, sI 2, lI 0, bR false⟩, ⟨.bin .geq, sI 2, sI 1, bR false⟩, ⟨.inb, sI 22, sI 45, bR true⟩, ⟨.inb, sI 2, sI 1, bR true⟩], LL := bgLL nb, LNE := [⟨20, 22, 62⟩], LX := [⟨23, 24, [sI 2]⟩, ⟨0, 2, [sI 3, sI 4, sI 5, sI 6]⟩], C := if c then [] else [⟨fIn, [.slN 0 62 1, sI 3], bR q⟩] }
noncomputable def bgT1e (nb : Bool) : Tb := { T := [⟨.bin .lss, sI 24, if nb then sI 44 else lI 0, bR false⟩], LL := bgLL nb }
set_option maxRecDepth 100000 in
theorem bg_01 : (all2 fun nb => atH (fromH (bgT0 nb) [] fBridged 0 (bgP0 nb)) fBridged 1 (.int 24 (lI 0) :: (bgSb nb ++ bgS (sI 22))) (bgR nb) (bgP1 nb false)) = true := by kernel_rfl
set_option maxRecDepth 100000 in
theorem bg_out : (all2 fun nb => endF (bgT0e nb) fBridged (fromH (bgT0e nb) [] fBridged 0 (bgP0 nb)) (bR true)) = true := by kernel_rfl
noncomputable def bgP2 (nb c : Bool) : St := ⟨patW [(2, .ptr 1 0), (5, bgB nb), (7, bgF nb), (12, sI 22), (13, bR c), (15, sI 24)] 160 0, bgH nb⟩
noncomputable def bgT2 (nb : Bool) : Tb := { T := [⟨.bin .lss, sI 24, sI 17, bR true⟩, ⟨.inb, sI 24, sI 17, bR true⟩, ⟨.inb, sI 47, sI 17, bR true⟩, ⟨.bin .add, sI 24, lI 1, sI 25⟩, ⟨.inb, sI 22, sI 45, bR true⟩, ⟨.bin .lss, sI 46, lI 2, bR false⟩], LL := bgLL nb ++ [⟨72, 1, sI 46⟩], LNE := [⟨20, 22, 62⟩], LX := [⟨62, 47, [sI 48]⟩, ⟨62, 24, [sI 49]⟩], IZ := [(47, 0)], U := qnU [⟨fLanes, [fellR, sI 48, sI 49], (lnAns true).1, (lnAns true).2⟩] }
noncomputable def bgT2e (nb p : Bool) : Tb := { T := [⟨.bin .lss, sI 24, sI 17, bR p⟩, ⟨.inb, sI 22, sI 45, bR true⟩, ⟨.bin .add, sI 22, lI 1, sI 23⟩], LL := bgLL nb, LNE := [⟨20, 22, 62⟩] }
set_option maxRecDepth 100000 in
theorem bg_11 : (all2 fun c => all2 fun q => atH (fromH (bgT1 true c q) [] fBridged 1 (bgP1 true c)) fBridged 1 (.int 24 (sI 25) :: (bgSb true ++ bgS (sI 22))) (bgR true) (bgP1 true (c || q))) = true := by kernel_rfl
set_option maxRecDepth 100000 in
theorem bg_12 : (all2 fun nb => all2 fun c => atH (fromH (bgT1e nb) [] fBridged 1 (bgP1 nb c)) fBridged 2 (.int 24 (lI 1) :: (bgSb nb ++ bgS (sI 22))) (bgR nb) (bgP2 nb c)) = true := by kernel_rfl
set_option maxRecDepth 100000 in
theorem bg_22 : (all2 fun nb => atH (fromH (bgT2 nb) [] fBridged 2 (bgP2 nb false)) fBridged 2 (.int 24 (sI 25) :: (bgSb nb ++ bgS (sI 22))) (bgR nb) (bgP2 nb false)) = true := by kernel_rfl
set_option maxRecDepth 100000 in
theorem bg_20 : (all2 fun nb => all2 fun c => all2 fun p => (!c && p) || atH (fromH (bgT2e nb p) [] fBridged 2 (bgP2 nb c)) fBridged 0 (bgSb nb ++ bgS (sI 23)) (bgR nb) (bgP0 nb)) = true := by kernel_rfl
noncomputable def bgIn : Tb := { X := saneX, T := [⟨.bin .gtr, sI 1, lI 200, bR false⟩], LL := [⟨0, 4, sI 1⟩], C := [⟨fCheck, [fellR], lI 40⟩] }
set_option maxRecDepth 100000 in
theorem bg_inv : doneQ bgIn [] fBridged bgD [] [] (bR true) [] = true := by kernel_rfl
noncomputable def bgBig : Tb := { X := saneX, T := [⟨.bin .gtr, sI 1, lI 200, bR true⟩], LL := [⟨0, 4, sI 1⟩] }
set_option maxRecDepth 100000 in
theorem bg_big : doneQ bgBig [] fBridged bgD [] [] (bR true) [] = true := by kernel_rfl
end Go.Proofs.Z
