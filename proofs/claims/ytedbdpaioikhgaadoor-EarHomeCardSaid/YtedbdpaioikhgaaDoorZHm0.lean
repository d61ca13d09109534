/- A part of the proofs that the laws of layer one answer true for every input. -/
import Derived.Test.YtedbdpaioikhgaaDoorZBt7
import Derived.Test.YtedbdpaioikhgaaDoorZMet
import Derived.Test.YtedbdpaioikhgaaDoorZIn
namespace Go.Proofs.Z
open Go Go.RowKit Go.Proofs Go.Ri W
/-! The law EarHome: runs. -/
abbrev fEarHome : Nat := 7
def hmArgs (tn : Bool) : List RV := [earR 0, if tn then nilR else .slN 0 6 1]
def hmHd (tn : Bool) : RH := if tn then [] else [some (.lstA 6)]
noncomputable def hmPat (tn rn : Bool) : St := ⟨patW [(1, if tn then nilR else .slA 0 6 1), (5, if rn then nilR else .slN (fl tn) 4 4), (9, sI 100)] 98 0, hmHd tn ++ if rn then [] else [some (.lst 4 47 true)]⟩
noncomputable def hmStart : Tb := { X := saneX, T := [⟨.ieq, sI 152, sI 152, bR true⟩], LL := [⟨4, 4, sI 152⟩], Y := [⟨fDist, [earR 0, .pl zE], .tup [sI 152, lI 0]⟩], Q := [⟨fFeatures, [earR 0], .tup [.slN 0 4 4, lI 0], [some (.lst 4 47 true)]⟩] }
noncomputable def hmBadTb : Tb := { X := saneX, Y := [⟨fFeatures, [earR 0], badA⟩, ⟨fDist, [earR 0, .pl zE], .pl (.tuple #[.int .i64 0, .int .i64 10])⟩] }
set_option maxRecDepth 100000 in
theorem hm_bad : (all2 fun tn => doneQ hmBadTb [] fEarHome (hmArgs tn) [] [] (bR true) []) = true := by kernel_rfl
set_option maxRecDepth 100000 in
theorem hm_zero : (all2 fun tn => doneQ { X := saneX } [true, true] fEarHome (.pl zE :: (hmArgs tn).drop 1) [] [] (bR true) []) = true := by kernel_rfl
def hmIds : List SE := [.lst 6 6]
noncomputable def hmEnter (tn : Bool) : Bool := enterT hmStart [] fEarHome (hmArgs tn) (.int 100 (lI 0) :: .lst 4 4 :: hmIds) (rngN (fl tn) ++ [fl tn + 1]) (hmPat tn false)
set_option maxRecDepth 100000 in
theorem hm_enter : (all2 fun tn => hmEnter tn) = true := by kernel_rfl
def hmNx (q : Nat) : Nat := if Nat.beq q 0 then 10 else if Nat.beq q 1 then 11 else 9
noncomputable def hmTb (q : Nat) (tn : Bool) : Tb := { LL := [⟨4, 4, sI 152⟩], T := t2s tn, LP := [⟨4, 4, none, some (sI 153), 9, 190⟩, ⟨4, 4, some (sI 156), none, 10, 156⟩], LZ := lz2 q, LB := lb2 q, C := (if tn then [] else [⟨fAt, [.slN 0 6 1, sI 100], uU⟩]) ++ ⟨fBuild, [.slN 0 4 4], .tup [earR 40, lI 0]⟩ :: ⟨fIn, [.slN 0 20 12, if Nat.beq q 3 then .pl zE else earR 60], bR true⟩ :: (if Nat.beq q 3 then [] else [⟨fBuild, [.slN 0 (hmNx q) 4], .tup [earR 60, lI 0]⟩]), Q := [⟨fNeigh, [earR 40], .tup [.slN 0 20 12, lI 0], [some (.lst 20 25 true)]⟩] }
def hmBlk (q : Nat) (tn : Bool) : List Nat := rngN (fl tn) ++ if Nat.beq q 3 then [] else [fl tn + if Nat.beq q 1 then 2 else 1]
def hmS (q : Nat) : List SE := .int 100 (sI 106) :: (if Nat.beq q 3 then [] else [.lst 4 (hmNx q)]) ++ hmIds
noncomputable def hmB (tn : Bool) : Code := hB hmStart [] fEarHome (hmArgs tn)
noncomputable def hmK (tn : Bool) : List Fr := hK hmStart [] fEarHome (hmArgs tn)
set_option maxRecDepth 100000 in
theorem hm_again : (allU 4 fun q => all2 fun tn => againT (hmTb q tn) [] (hmB tn) (hmK tn) (hmPat tn false) (hmS q) (hmBlk q tn) (hmPat tn (Nat.beq q 3))) = true := by kernel_rfl
set_option maxRecDepth 100000 in
theorem hm_out : (all2 fun tn => outF {} [] fEarHome (hmB tn) (hmK tn) (hmPat tn true) (bR true)) = true := by kernel_rfl
end Go.Proofs.Z
