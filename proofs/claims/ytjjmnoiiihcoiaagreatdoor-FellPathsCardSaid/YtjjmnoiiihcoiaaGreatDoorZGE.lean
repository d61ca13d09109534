/- A part of the proofs that the laws of layer four answer true for every input. -/
import Derived.Test.YtjjmnoiiihcoiaaGreatDoorZGD
namespace Go.Proofs.Z
open Go Go.RowKit Go.Proofs Go.Ri Go.Proofs.Z.Fa
/-! Open gates: runs. -/
abbrev fOpen : Nat := 22
abbrev fROpen : Nat := 23
abbrev fROpenGates : Nat := 25
abbrev fOn : Nat := 72
abbrev fList : Nat := 71
abbrev fInts : Nat := 28
abbrev fYearDay : Nat := 20
abbrev fRYearDay : Nat := 21
/-- What is known of a day (by the name 8). -/
def dayT (i : Nat) : List TE := if i = 0 then [⟨.bin .lss, sI 8, lI 0, bR true⟩, ⟨.bin .geq, sI 8, lI 0, bR false⟩]
  else if i = 1 then [⟨.bin .lss, sI 8, lI 0, bR false⟩, ⟨.bin .geq, sI 8, lI 0, bR true⟩, ⟨.bin .gtr, sI 8, lI 1048576, bR true⟩, ⟨.bin .leq, sI 8, lI 1048576, bR false⟩]
  else [⟨.bin .lss, sI 8, lI 0, bR false⟩, ⟨.bin .geq, sI 8, lI 0, bR true⟩, ⟨.bin .gtr, sI 8, lI 1048576, bR false⟩, ⟨.bin .leq, sI 8, lI 1048576, bR true⟩]
def tupN (e : Int) : RV := .pl (.tuple #[.slice none 0 0, .int .i64 e])
def tupB (b : Bool) (e : Int) : RV := .pl (.tuple #[.bool b, .int .i64 e])
/-! OpenGates of package fell -/
noncomputable def oaTb (e : Int) (d : Nat) : Tb := { T := dayT d, LL := hLL, C := [⟨fCheck, [fellR], lI e⟩] }
def ogS (r : RV) : List SE := [.int 2 r, .int 0 (sI 0), .int 1 (sI 1), .int 8 (sI 8), .lst 0 0]
def gateQ : RV := .agg [sI 3, sI 4, sI 5, sI 6]
noncomputable def oaQ : GP where
  f := fOpenGates
  ds := [fellR, sI 8]
  tb := oaTb 0 2
  plan := []
  n := 34
  l := 7
  ov := [(1, sI 8), (2, .ptr 1 0), (18, .slA 0 0 4), (19, sI 1), (20, sI 2)]
  pre := fellB
  e := tInt
  s := 1
  S0 := ogS (lI 0)
  rt := fun b => { T := hT true, LL := hLL, LX := hLX true, Y := [⟨fIsOpen, [gateQ, sI 8], bR b⟩], LA := if b then [⟨9, [sI 2], 10⟩] else [] }
  S := ogS (sI 7)
  cr := [sI 2]
  bt := 5
  bf := 4
  et := hEnd
  er := fun ne => if ne then (.tup [.slN 0 9 1, lI 0], [some (.lst 9 tInt true)]) else (tupN 0, [])
set_option maxRecDepth 100000 in
theorem oa_enter : genter oaQ = true := by kernel_rfl
set_option maxRecDepth 100000 in
theorem oa_rounds : (all2 fun ne => ground oaQ ne true) = true := by kernel_rfl
set_option maxRecDepth 100000 in
theorem oa_skips : (all2 fun ne => ground oaQ ne false) = true := by kernel_rfl
set_option maxRecDepth 100000 in
theorem oa_outs : (all2 (gout oaQ)) = true := by kernel_rfl
theorem oa_runs : GRuns oaQ := ⟨oa_enter, oa_rounds, .inr oa_skips, oa_outs⟩
set_option maxRecDepth 100000 in
theorem oa_bad' : (allU 3 fun c => doneQ (oaTb 40 c) [] fOpenGates [fellR, sI 8] [] [] (tupN 40) []) = true := by kernel_rfl
set_option maxRecDepth 100000 in
theorem oa_bad1 : (all2 fun c => doneQ (oaTb 0 (if c then 0 else 1)) [] fOpenGates [fellR, sI 8] [] [] (tupN 1) []) = true := by kernel_rfl
/-! on -/
noncomputable def onQ : GP where
  f := fOn
  ds := [fellR, sI 8]
  tb := { LL := hLL }
  plan := []
  n := 25
  l := 5
  ov := [(1, sI 8), (2, .ptr 1 0), (6, sI 2)]
  pre := fellB
  e := tBool
  s := 1
  S0 := ogS (lI 0)
  rt := fun b => { T := hT true, LL := hLL, LX := hLX true, Y := [⟨fOpenOn, [gateQ, sI 8], sB 0⟩], LA := if b then [⟨9, [sB 0], 10⟩] else [] }
  S := ogS (sI 7)
  cr := [sB 0]
  bt := 4
  bf := 3
  et := hEnd
  er := fun ne => if ne then (.slN 0 9 1, [some (.lst 9 tBool true)]) else (nilR, [])
  al := true
set_option maxRecDepth 100000 in
theorem on_enter : genter onQ = true := by kernel_rfl
set_option maxRecDepth 100000 in
theorem on_rounds : (all2 fun ne => ground onQ ne true) = true := by kernel_rfl
set_option maxRecDepth 100000 in
theorem on_outs : (all2 (gout onQ)) = true := by kernel_rfl
theorem on_runs : GRuns onQ := ⟨on_enter, on_rounds, .inl rfl, on_outs⟩
/-! list -/
def bLL : List LNE := [⟨0, 1, sI 1⟩]
noncomputable def liQ : GP where
  f := fList
  ds := [.slN 0 0 1]
  tb := { LL := bLL }
  plan := []
  n := 20
  l := 3
  ov := [(0, .slA 0 0 1), (4, sI 2)]
  pre := [some (.lstA 0)]
  e := tInt
  s := 1
  S0 := [.int 2 (lI 0), .int 1 (sI 1), .lst 0 0]
  rt := fun b => { T := ⟨.truth, sB 0, sB 0, bR b⟩ :: hT true, LL := bLL, LX := [⟨0, 2, [sB 0]⟩], LA := if b then [⟨9, [sI 2], 10⟩] else [] }
  S := [.int 2 (sI 7), .int 1 (sI 1), .lst 0 0]
  cr := [sI 2]
  bt := 3
  bf := 2
  et := { T := hT false, LL := bLL }
  er := fun ne => if ne then (.slN 0 9 1, [some (.lst 9 tInt true)]) else (nilR, [])
set_option maxRecDepth 100000 in
theorem li_enter : genter liQ = true := by kernel_rfl
set_option maxRecDepth 100000 in
theorem li_rounds : (all2 fun ne => ground liQ ne true) = true := by kernel_rfl
set_option maxRecDepth 100000 in
theorem li_skips : (all2 fun ne => ground liQ ne false) = true := by kernel_rfl
set_option maxRecDepth 100000 in
theorem li_outs : (all2 (gout liQ)) = true := by kernel_rfl
theorem li_runs : GRuns liQ := ⟨li_enter, li_rounds, .inr li_skips, li_outs⟩
/-! ints, of two slices that hold one list -/
def inD : List RV := [.slN 0 0 1, .slN 0 0 1]
noncomputable def inE : Tb := { LL := bLL }
noncomputable def inP : St := ⟨patW [(0, .slA 0 0 1), (1, .slA 1 0 1), (5, sI 2)] 26 0, [some (.lstA 0), some (.lstA 0)]⟩
def inS (r : RV) : List SE := [.int 2 r, .int 1 (sI 1), .lst 0 0]
noncomputable def inT (b : Bool) : Tb := { T := hT b, LL := bLL, LX := if b then [⟨0, 2, [sI 3]⟩] else [] }
set_option maxRecDepth 100000 in
theorem in_enter : enterT inE [] fInts inD (inS (lI 0)) [0, 1] inP = true := by kernel_rfl
set_option maxRecDepth 100000 in
theorem in_again : againT (inT true) [] (hB inE [] fInts inD) (hK inE [] fInts inD) inP (inS (sI 7)) [0, 1] inP = true := by kernel_rfl
set_option maxRecDepth 100000 in
theorem in_out : outF (inT false) [] fInts (hB inE [] fInts inD) (hK inE [] fInts inD) inP (bR true) = true := by kernel_rfl
/-! OpenGates of the specification -/
noncomputable def roU (m : Nat) : List QE := if m = 0 then [⟨fOn, [fellR, sI 8], nilR, []⟩] else [⟨fOn, [fellR, sI 8], .slN 0 11 1, [some (.lst 11 tBool true)]⟩, if m = 1 then ⟨fList, [.slN 0 11 1], nilR, []⟩ else ⟨fList, [.slN 0 11 1], .slN 0 9 1, [some (.lst 9 tInt true)]⟩]
noncomputable def roTb (v : Bool) (d : Nat) (m : Nat) : Tb := { T := dayT d, LL := hLL, C := [⟨fValid, [fellR], bR v⟩], U := qnU (roU m) }
noncomputable def roTbU (v : Bool) (d : Nat) : Tb := { T := dayT d, LL := hLL, C := [⟨fValid, [fellR], bR v⟩] }
set_option maxRecDepth 100000 in
theorem ro_run0 : (all2 fun c => doneQ (roTb true 2 (if c then 0 else 1)) [] fROpenGates [fellR, sI 8] [] [] (tupN 0) []) = true := by kernel_rfl
set_option maxRecDepth 100000 in
theorem ro_run2 : doneQ (roTb true 2 2) [] fROpenGates [fellR, sI 8] [.lst 9 9] [3] (.tup [.slN 0 9 1, lI 0]) [some (.lst 9 tInt true)] = true := by kernel_rfl
set_option maxRecDepth 100000 in
theorem ro_badU : (allU 3 fun c => doneQ (roTbU false c) [] fROpenGates [fellR, sI 8] [] [] (tupN 40) []) = true := by kernel_rfl
set_option maxRecDepth 100000 in
theorem ro_badV : (all2 fun c => doneQ (roTbU true (if c then 0 else 1)) [] fROpenGates [fellR, sI 8] [] [] (tupN 1) []) = true := by kernel_rfl
/-! Open -/
def opD : List RV := [fellR, sI 2, sI 8]
def gaT (i : Nat) : List TE := if i = 0 then [⟨.bin .lss, sI 2, lI 0, bR true⟩, ⟨.bin .geq, sI 2, lI 0, bR false⟩]
  else if i = 1 then [⟨.bin .lss, sI 2, lI 0, bR false⟩, ⟨.bin .geq, sI 2, lI 0, bR true⟩, ⟨.bin .lss, sI 2, sI 1, bR false⟩, ⟨.bin .geq, sI 2, sI 1, bR true⟩]
  else [⟨.bin .lss, sI 2, lI 0, bR false⟩, ⟨.bin .geq, sI 2, lI 0, bR true⟩, ⟨.bin .lss, sI 2, sI 1, bR true⟩, ⟨.bin .geq, sI 2, sI 1, bR false⟩, ⟨.inb, sI 2, sI 1, bR true⟩]
noncomputable def opTc (e : Int) (d g : Nat) : Tb := { T := dayT d ++ gaT g, LL := hLL, C := [⟨fCheck, [fellR], lI e⟩, ⟨fValid, [fellR], bR (if e = 0 then true else false)⟩] }
noncomputable def opTb (e : Int) (d g : Nat) : Tb := { T := dayT d ++ gaT g, LL := hLL, LX := hLX true, C := [⟨fCheck, [fellR], lI e⟩, ⟨fValid, [fellR], bR (if e = 0 then true else false)⟩], Y := [⟨fIsOpen, [gateQ, sI 8], sB 0⟩, ⟨fOpenOn, [gateQ, sI 8], sB 0⟩] }
set_option maxRecDepth 100000 in
theorem op_good : (all2 fun c => doneQ (opTb 0 2 2) [] (if c then fOpen else fROpen) opD [.bool 0 (sB 0)] [] (.tup [sB 0, lI 0]) []) = true := by kernel_rfl
set_option maxRecDepth 100000 in
theorem op_bad : (all2 fun c => allU 3 fun d => allU 3 fun g => doneQ (opTc 40 d g) [] (if c then fOpen else fROpen) opD [] [] (tupB false 40) []) = true := by kernel_rfl
set_option maxRecDepth 100000 in
theorem op_bad1 : (all2 fun c => allU 2 fun d => allU 3 fun g => doneQ (opTc 0 d g) [] (if c then fOpen else fROpen) opD [] [] (tupB false 1) []) = true := by kernel_rfl
set_option maxRecDepth 100000 in
theorem op_bad2 : (all2 fun c => allU 2 fun g => doneQ (opTc 0 2 g) [] (if c then fOpen else fROpen) opD [] [] (tupB false 1) []) = true := by kernel_rfl
/-! YearDay -/
noncomputable def ydTb (d : Nat) : Tb := { T := ⟨.bin .rem, sI 8, lI 360, sI 3⟩ :: dayT d }
def tupI (e : Int) : RV := .pl (.tuple #[.int .i64 0, .int .i64 e])
set_option maxRecDepth 100000 in
theorem yd_bad' : (all2 fun c => allU 2 fun d => doneQ { T := dayT d } [] (if c then fYearDay else fRYearDay) [sI 8] [] [] (tupI 1) []) = true := by kernel_rfl
set_option maxRecDepth 100000 in
theorem yd_good : (all2 fun c => doneQ (ydTb 2) [] (if c then fYearDay else fRYearDay) [sI 8] [.int 3 (sI 3)] [] (.tup [sI 3, lI 0]) []) = true := by kernel_rfl
end Go.Proofs.Z
