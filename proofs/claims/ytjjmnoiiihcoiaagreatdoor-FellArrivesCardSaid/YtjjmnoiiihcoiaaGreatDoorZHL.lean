/- A part of the proofs that the laws of layer four answer true for every input. -/
import Derived.Test.YtjjmnoiiihcoiaaGreatDoorZHJ
namespace Go.Proofs.Z
open Go Go.RowKit Go.Proofs Go.Ri Go.Proofs.Z.Fa
/-! Sets day by day: a year later; behind one another; point by point. -/
section
variable {G : Int} {l : List Value} {n S : Nat} {fr : Int}
theorem odP_year (d : Int) (k : Nat) : odP l (d + 360) k = odP l d k := by
  unfold odP
  rw [Bool.eq_iff_iff, openM_iff, openM_iff, show (d + 360) % 360 = d % 360 by omega]
theorem runS_year : ∀ i, runS l n S (fr + 360) i = runS l n S fr i
  | 0 => rfl
  | i + 1 => by
    show dayS l n (runS l n S (fr + 360) i) (fr + 360 + i) = dayS l n (runS l n S fr i) (fr + i)
    rw [runS_year i]
    unfold dayS
    rw [show odP l (fr + 360 + i) = odP l (fr + i) from funext fun k => by rw [show fr + 360 + (i : Int) = fr + i + 360 by omega, odP_year]]
theorem runS_add (i : Nat) : ∀ j, runS l n S fr (i + j) = runS l n (runS l n S fr i) (fr + i) j
  | 0 => rfl
  | j + 1 => by
    show dayS l n (runS l n S fr (i + j)) (fr + (i + j : Nat)) = dayS l n (runS l n (runS l n S fr i) (fr + i) j) (fr + i + j)
    rw [runS_add i j, show fr + ((i + j : Nat) : Int) = fr + i + j by omega]
theorem runS_mono {T : Nat} (hva : validM G l n = true) (hS : S < 65536) (hT : T < 65536) (h : ∀ x, S.testBit x = true → T.testBit x = true) : ∀ j x, (runS l n S fr j).testBit x = true → (runS l n T fr j).testBit x = true
  | 0, x, hx => h x hx
  | j + 1, x, hx => by
    have hx : (clS l n (odP l (fr + j)) (runS l n S fr j)).testBit x = true := hx
    show (clS l n (odP l (fr + j)) (runS l n T fr j)).testBit x = true
    rw [clS_bit hva (runS_lt hS j)] at hx
    rw [clS_bit hva (runS_lt hT j)]
    exact clo_min (u := clo n (gA' l) (gB' l) (odP l (fr + j)) fun x => (runS l n T fr j).testBit x) (fun y hy => clo_sub (runS_mono hva hS hT h j y hy)) (fun k hk he => clo_cl hk he) hx
theorem bit_lt {s y : Nat} (hs : s < 65536) (h : s.testBit y = true) : y < 16 := by
  rcases Nat.lt_or_ge y 16 with h1 | h1
  · exact h1
  · rw [bit_hi hs h1] at h
    cases h
open Classical in
theorem runS_pt (hva : validM G l n = true) (hS : S < 65536) : ∀ j x, (runS l n S fr j).testBit x = true ↔ ∃ y, S.testBit y = true ∧ (runS l n (2 ^ y) fr j).testBit x = true := fun j x => by
  constructor
  · revert x
    induction j with
    | zero => exact fun x h => ⟨x, h, Nat.testBit_two_pow_self⟩
    | succ j ih =>
      intro x hx
      have hx : (clS l n (odP l (fr + j)) (runS l n S fr j)).testBit x = true := hx
      rw [clS_bit hva (runS_lt hS j)] at hx
      have := clo_min (u := fun x => decide (∃ y, S.testBit y = true ∧ (runS l n (2 ^ y) fr (j + 1)).testBit x = true)) (fun z hz => by
        obtain ⟨y, h1, h2⟩ := ih z hz
        exact decide_eq_true ⟨y, h1, clS_sub hva (runS_lt (pow_lt16 (bit_lt hS h1)) j) h2⟩) (fun k hk he => by
        refine decide_eq_decide.2 ⟨fun ⟨y, h1, h2⟩ => ⟨y, h1, ?_⟩, fun ⟨y, h1, h2⟩ => ⟨y, h1, ?_⟩⟩
        · have := clS_cl hva (runS_lt (l := l) (n := n) (fr := fr) (pow_lt16 (bit_lt hS h1)) j) hk he
          unfold ldP at this
          have e : (clS l n (odP l (fr + j)) (runS l n (2 ^ y) fr j)).testBit (gA' l k) = (clS l n (odP l (fr + j)) (runS l n (2 ^ y) fr j)).testBit (gB' l k) := by simpa using this
          exact e.symm.trans h2
        · have := clS_cl hva (runS_lt (l := l) (n := n) (fr := fr) (pow_lt16 (bit_lt hS h1)) j) hk he
          unfold ldP at this
          have e : (clS l n (odP l (fr + j)) (runS l n (2 ^ y) fr j)).testBit (gA' l k) = (clS l n (odP l (fr + j)) (runS l n (2 ^ y) fr j)).testBit (gB' l k) := by simpa using this
          exact e.trans h2) hx
      exact of_decide_eq_true this
  · rintro ⟨y, h1, h2⟩
    refine runS_mono hva (pow_lt16 (bit_lt hS h1)) hS (fun z hz => ?_) j x h2
    rw [Nat.testBit_two_pow] at hz
    have := of_decide_eq_true hz
    subst this
    exact h1
end
end Go.Proofs.Z

namespace Go.Proofs.Z
open Go Go.RowKit Go.Proofs Go.Ri Go.Proofs.Z.Fa
/-! The law FellComposes: runs. -/
abbrev fFellComposes : Nat := 13
def fcD : List RV := [fellR, sI 20, sI 22, sI 23, sI 24]
set_option maxRecDepth 100000 in
theorem fc_big : doneQ bigTb [] fFellComposes fcD [] [] (bR true) [] = true := by kernel_rfl
noncomputable def fcInv : Tb := { X := saneX, T := [⟨.bin .gtr, sI 1, lI 200, bR false⟩], LL := hLL, C := [⟨fCheck, [fellR], lI 40⟩] }
set_option maxRecDepth 100000 in
theorem fc_inv : doneQ fcInv [] fFellComposes fcD [] [] (bR true) [] = true := by kernel_rfl
def fcT (i : Nat) (p : Bool) : List TE :=
  if i = 0 then [⟨.bin .lss, sI 20, lI 0, bR (!p)⟩] else if i = 1 then [⟨.bin .geq, sI 20, sI 0, bR (!p)⟩] else if i = 2 then [⟨.bin .lss, sI 22, lI 0, bR (!p)⟩] else if i = 3 then [⟨.bin .lss, sI 23, sI 22, bR (!p)⟩]
  else if i = 4 then [⟨.bin .leq, sI 24, sI 23, bR (!p)⟩] else [⟨.bin .gtr, sI 24, lI 1048216, bR (!p)⟩]
def fcN (c : Nat) : Nat → List TE
  | 0 => []
  | j + 1 => fcN c j ++ if j < c then fcT j true else if j = c then fcT j false else []
noncomputable def fcE (c : Nat) : Tb := { X := saneX, T := ⟨.bin .gtr, sI 1, lI 200, bR false⟩ :: fcN c 6, LL := hLL, C := [⟨fCheck, [fellR], lI 0⟩] }
set_option maxRecDepth 100000 in
theorem fc_err : (allU 6 fun c => doneQ (fcE c) [] fFellComposes fcD [] [] (bR true) []) = true := by kernel_rfl
noncomputable def fcU : List QE := [⟨fReach, [fellR, sI 20, sI 22, sI 23], .tup [.slN 0 9 1, lI 0], [some (.lst 9 tInt true)]⟩, ⟨fReach, [fellR, sI 20, sI 22, sI 24], .tup [.slN 0 10 1, lI 0], [some (.lst 10 tInt true)]⟩, ⟨fReach, [fellR, sI 20, sI 32, sI 34], .tup [.slN 0 10 1, lI 0], [some (.lst 10 tInt true)]⟩]
noncomputable def fcG : Tb := { X := saneX, T := (⟨.bin .gtr, sI 1, lI 200, bR false⟩ :: fcN 6 6) ++ [⟨.bin .add, sI 22, lI 360, sI 32⟩, ⟨.bin .add, sI 24, lI 360, sI 34⟩], LL := hLL, C := [⟨fCheck, [fellR], lI 0⟩, ⟨fIn, [.slN 0 9 1, sI 20], bR true⟩, ⟨fInts, [.slN 0 10 1, .slN 0 10 1], bR true⟩], U := qnU fcU }
noncomputable def fcH (ne : Bool) : RH := (fellB ++ [some (.lst 9 tInt true), some (.lst 10 tInt true)]) ++ if ne then [some (.lst 12 tInt true)] else []
noncomputable def fcP (ne : Bool) : St := ⟨patW [(3, sI 23), (4, sI 24), (5, .ptr 1 0), (11, .slN 2 9 1), (13, .slN 3 10 1), (17, if ne then .slN 4 12 1 else nilR), (18, sI 2)] 177 0, fcH ne⟩
noncomputable def fcQ : St := ⟨patW [(5, .ptr 1 0), (11, .slN 2 9 1), (13, .slN 3 10 1), (17, .slN 4 12 1), (21, sI 42), (22, sI 43)] 177 0, fcH true⟩
def fcS (r : RV) (j : Option Nat) : List SE := .int 2 r :: (idI [0, 1, 23, 24] ++ ([.lst 0 0, .lst 9 9, .lst 10 10] ++ match j with | some j => [.lst 12 j] | none => []))
def fcS2 (u r : RV) : List SE := .int 42 u :: .int 43 r :: (idI [0, 1] ++ [.lst 0 0, .lst 9 9, .lst 10 10, .lst 12 12])
noncomputable def fcB : Code := hB fcG [] fFellComposes fcD
noncomputable def fcK : List Fr := hK fcG [] fFellComposes fcD
set_option maxRecDepth 100000 in
theorem fc_enter : enterT fcG [] fFellComposes fcD (fcS (lI 0) none) [0, 1, 2, 3] (fcP false) = true := by kernel_rfl
noncomputable def fcL (ne : Bool) : Tb := { T := [⟨.bin .lss, sI 2, sI 41, bR true⟩, ⟨.bin .lss, sI 2, lI 16, bR true⟩, ⟨.inb, sI 2, sI 41, bR true⟩, ⟨.bin .add, sI 23, lI 1, sI 33⟩, ⟨.bin .add, sI 2, lI 1, sI 7⟩], LL := [⟨0, 4, sI 1⟩, ⟨9, 1, sI 41⟩], LX := [⟨9, 2, [sI 3]⟩], C := [⟨fIn, [.slN 0 11 1, sI 3], bR true⟩], U := qnU [⟨fReach, [fellR, sI 3, sI 33, sI 24], .tup [.slN 0 11 1, lI 0], [some (.lst 11 tInt true)]⟩], LB := [⟨if ne then some 12 else none, 11, 13⟩] }
set_option maxRecDepth 100000 in
theorem fc_again : (all2 fun ne => againT (fcL ne) [] fcB fcK (fcP ne) (fcS (sI 7) (some 13)) [0, 1, 2, 3, if ne then 6 else 5] (fcP true)) = true := by kernel_rfl
noncomputable def fcX : Tb := { T := [⟨.bin .lss, sI 2, sI 41, bR false⟩], LL := [⟨9, 1, sI 41⟩] }
noncomputable def fcR : Option Rnd := rndT fcX [] fcB fcK (fcP true)
set_option maxRecDepth 100000 in
theorem fc_next : oM fcR (fcS2 (lI 0) (lI 0)) [0, 1, 2, 3, 4] fcQ = true := by kernel_rfl
noncomputable def fcI (p q : Bool) : Tb := { T := [⟨.bin .lss, sI 43, sI 0, bR true⟩, ⟨.bin .add, sI 42, lI 1, sI 45⟩, ⟨.bin .add, sI 43, lI 1, sI 46⟩], C := [⟨fIn, [.slN 0 12 1, sI 43], bR p⟩, ⟨fIn, [.slN 0 10 1, sI 43], bR p⟩, ⟨fIn, [.slN 0 9 1, sI 43], bR q⟩] }
set_option maxRecDepth 100000 in
theorem fc_again2 : (all2 fun p => all2 fun q => (q && !p) || againT (fcI p q) [] (oB fcR) (oK fcR) fcQ (fcS2 (if p then sI 45 else sI 42) (sI 46)) [0, 1, 2, 3, 4] fcQ) = true := by kernel_rfl
set_option maxRecDepth 100000 in
theorem fc_out : outF { T := [⟨.bin .lss, sI 43, sI 0, bR false⟩, ⟨.ieq, sI 42, sI 44, bR true⟩], LL := [⟨10, 1, sI 44⟩] } [] fFellComposes (oB fcR) (oK fcR) fcQ (bR true) = true := by kernel_rfl
end Go.Proofs.Z
