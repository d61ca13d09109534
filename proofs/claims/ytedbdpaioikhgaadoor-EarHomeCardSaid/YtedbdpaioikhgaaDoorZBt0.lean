/- A part of the proofs that the laws of layer one answer true for every input. -/
import Derived.Test.YtedbdpaioikhgaaDoorZLoop2
import Derived.Test.YtedbdpaioikhgaaDoorZBuild2
import Derived.Test.YtedbdpaioikhgaaDoorZSane
namespace Go.Proofs.Z
open Go Go.RowKit Go.Proofs Go.Ri
/-! The law EarBuilt: runs. -/
abbrev fAt : Nat := 18
abbrev fEarBuilt : Nat := 5
/-- The flags: turn nil, leave nil. -/
def btArgs (tn ln : Bool) : List RV := [earR 0, if tn then nilR else .slN 0 6 1, if ln then nilR else .slN 0 1 1]
def hd (tn ln : Bool) : RH := (if tn then [] else [some (.lstA 6)]) ++ (if ln then [] else [some (.lstA 1)])
def fl (b : Bool) : Nat := if b then 0 else 1
def eCells : List RV := [sI 0, sI 1, sI 2, sI 3, sI 4, sI 5, sI 6, sI 7, sI 8, sB 0, sB 1, sB 2]
def c4 : List RV := [sI 102, sI 103, sI 104, sI 105]
/-- At the first loop's head: some nil, rest nil. -/
noncomputable def pat1 (tn ln sn rn : Bool) : St :=
  let e := fl tn + fl ln
  ⟨patW [(1, if tn then nilR else .slA 0 6 1), (2, if ln then nilR else .slA (fl tn) 1 1), (3, .ptr e 0), (7, .slN (e + 1) 0 4), (9, if sn then nilR else .slN (e + 2) 2 4), (10, if rn then nilR else .slN (e + 2 + fl sn) 4 4), (11, sI 100)] 138 0,
   hd tn ln ++ [some (.cells eCells 25 false false), some (.lst 0 47 true)] ++ (if sn then [] else [some (.lst 2 47 true)]) ++ (if rn then [] else [some (.lst 4 47 true)])⟩
/-- At the second loop's head: some nil, mixed nil, rest nil. -/
noncomputable def pat2 (tn sn mn rn : Bool) : St :=
  let e := fl tn
  ⟨patW [(1, if tn then nilR else .slA 0 6 1), (3, .ptr e 0), (9, if sn then nilR else .slN (e + 1) 0 4), (12, if mn then nilR else .slN (e + 1 + fl sn) 7 4), (10, if rn then nilR else .slN (e + 1 + fl sn + fl mn) 4 4), (13, sI 100)] 138 0,
   hd tn true ++ [some (.cells eCells 25 false false)] ++ (if sn then [] else [some (.lst 0 47 true)]) ++ (if mn then [] else [some (.lst 7 47 true)]) ++ (if rn then [] else [some (.lst 4 47 true)])⟩
def eIds : List SE := idI [0, 1, 2, 3, 4, 5, 6, 7, 8] ++ idB [0, 1, 2] ++ [.lst 6 6, .lst 1 1]
noncomputable def btStart : Tb := { X := saneX, Q := [⟨fFeatures, [earR 0], .tup [.slN 0 0 4, lI 0], [some (.lst 0 47 true)]⟩] }
def rngN : Nat → List Nat
  | 0 => []
  | k + 1 => rngN k ++ [k]
def stIds : List SE := .int 100 (lI 0) :: .lst 0 0 :: eIds
noncomputable def btEnter (tn ln : Bool) : Bool := enterT btStart [] fEarBuilt (btArgs tn ln) stIds (rngN (fl tn + fl ln + 2)) (pat1 tn ln true true)
set_option maxRecDepth 100000 in
theorem bt_enter : (all2 fun a => all2 fun b => btEnter a b) = true := by kernel_rfl
noncomputable def B1 (tn ln : Bool) : Code := hB btStart [] fEarBuilt (btArgs tn ln)
noncomputable def K1 (tn ln : Bool) : List Fr := hK btStart [] fEarBuilt (btArgs tn ln)
/-- Mode of the round: 0: behind leave's end; 1: kept; 2: left out. -/
def lvT (m : Nat) : List TE := [⟨.bin .geq, sI 100, lI 0, bR true⟩, ⟨.bin .geq, sI 100, sI 151, bR (Nat.beq m 0)⟩] ++ if Nat.beq m 0 then [] else [⟨.inb, sI 100, sI 151, bR true⟩]
def lx1 (m : Nat) : List LEE := ⟨0, 100, c4⟩ :: (if Nat.beq m 0 then [] else [⟨1, 100, [bR (Nat.beq m 2)]⟩])
def t1s (m : Nat) : List TE := ⟨.bin .lss, sI 100, sI 101, bR true⟩ :: ⟨.inb, sI 100, sI 101, bR true⟩ :: ⟨.bin .add, sI 100, lI 1, sI 106⟩ :: lvT m
noncomputable def tb1 (m : Nat) : Tb := { LL := [⟨0, 4, sI 101⟩, ⟨1, 1, sI 151⟩], T := t1s m, LX := lx1 m, LA := [⟨2, c4, 3⟩, ⟨4, c4, 5⟩] }
def ids1 (m : Nat) (sn rn : Bool) : List SE := .int 100 (sI 106) :: .lst 0 0 :: (if Nat.beq m 2 then .lst 2 2 else if sn then .new 2 c4 else .lst 2 3) :: (if rn then .new 4 c4 else .lst 4 5) :: eIds
def blk1 (m : Nat) (tn ln sn rn : Bool) : List Nat :=
  let e := fl tn + fl ln + 2
  let nb := e + fl sn + fl rn
  rngN e ++ (if Nat.beq m 2 then (if sn then [] else [e]) else [nb + 1]) ++ [if Nat.beq m 2 then nb + 1 else nb + 3]
def sn1 (m : Nat) (sn : Bool) : Bool := if Nat.beq m 2 then sn else false
noncomputable def btAgain1 (m : Nat) (tn ln sn rn : Bool) : Bool := againT (tb1 m) [] (B1 tn ln) (K1 tn ln) (pat1 tn ln sn rn) (ids1 m sn rn) (blk1 m tn ln sn rn) (pat1 tn ln (sn1 m sn) false)
set_option maxRecDepth 100000 in
theorem bt_again1 : (allU 3 fun m => all2 fun tn => all2 fun sn => all2 fun rn => btAgain1 m tn false sn rn) = true := by kernel_rfl
set_option maxRecDepth 100000 in
theorem bt_again1n : (all2 fun tn => all2 fun sn => all2 fun rn => btAgain1 0 tn true sn rn) = true := by kernel_rfl
/-- Out of the first loop, to the second one. -/
noncomputable def tb1e : Tb := { LL := [⟨0, 4, sI 101⟩], T := [⟨.bin .lss, sI 100, sI 101, bR false⟩] }
def ids12 (sn : Bool) : List SE := .int 100 (lI 0) :: (if sn then [] else [.lst 0 2]) ++ .lst 4 4 :: eIds
def blk12 (tn ln sn : Bool) : List Nat := rngN (fl tn) ++ [fl tn + fl ln] ++ (if sn then [] else [fl tn + fl ln + 2]) ++ [fl tn + fl ln + 2 + fl sn]
noncomputable def r12 (tn ln sn : Bool) : Option Rnd := rndT tb1e [] (B1 tn ln) (K1 tn ln) (pat1 tn ln sn false)
set_option maxRecDepth 100000 in
theorem bt_out1 : (all2 fun tn => all2 fun ln => all2 fun sn => oM (r12 tn ln sn) (ids12 sn) (blk12 tn ln sn) (pat2 tn sn true false)) = true := by kernel_rfl
noncomputable def B2 : Code := oB (r12 true true true)
noncomputable def K2 : List Fr := oK (r12 true true true)
end Go.Proofs.Z
