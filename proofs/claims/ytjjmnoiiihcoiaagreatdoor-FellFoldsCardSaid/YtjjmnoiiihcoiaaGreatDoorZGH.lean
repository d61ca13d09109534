/- A part of the proofs that the laws of layer four answer true for every input. -/
import Derived.Test.YtjjmnoiiihcoiaaGreatDoorZGD
namespace Go.Proofs.Z
open Go Go.RowKit Go.Proofs Go.Ri Go.Proofs.Z.Fa
/-! Open gates: runs. -/
abbrev fOpen : Nat := 22
abbrev fROpen : Nat := 23
abbrev fROpenGates : Nat := 25
abbrev fOn : Nat := 72
abbrev fList : Nat := 71
abbrev fInts : Nat := 28
abbrev fYearDay : Nat := 20
abbrev fRYearDay : Nat := 21
/-- What is known of a day (by the name 8). -/
def dayT (i : Nat) : List TE := if i = 0 then [⟨.bin .lss, sI 8, lI 0, bR true⟩, ⟨.bin .geq, sI 8, lI 0, bR false⟩]
  else if i = 1 then [⟨.bin .lss, sI 8, lI 0, bR false⟩, ⟨.bin .geq, sI 8, lI 0, bR true⟩, ⟨.bin .gtr, sI 8, lI 1048576, bR true⟩, ⟨.bin .leq, sI 8, lI 1048576, bR false⟩]
  else [⟨.bin .lss, sI 8, lI 0, bR false⟩, ⟨.bin .geq, sI 8, lI 0, bR true⟩, ⟨.bin .gtr, sI 8, lI 1048576, bR false⟩, ⟨.bin .leq, sI 8, lI 1048576, bR true⟩]
def tupN (e : Int) : RV := .pl (.tuple #[.slice none 0 0, .int .i64 e])
def tupB (b : Bool) (e : Int) : RV := .pl (.tuple #[.bool b, .int .i64 e])
/-! OpenGates of package fell -/
noncomputable def oaTb (e : Int) (d : Nat) : Tb := { T := dayT d, LL := hLL, C := [⟨fCheck, [fellR], lI e⟩] }
def ogS (r : RV) : List SE := [.int 2 r, .int 0 (sI 0), .int 1 (sI 1), .int 8 (sI 8), .lst 0 0]
def gateQ : RV := .agg [sI 3, sI 4, sI 5, sI 6]
noncomputable def oaQ : GP where
  f := fOpenGates
  ds := [fellR, sI 8]
  tb := oaTb 0 2
  plan := []
  n := 34
  l := 7
  ov := [(1, sI 8), (2, .ptr 1 0), (18, .slA 0 0 4), (19, sI 1), (20, sI 2)]
  pre := fellB
  e := tInt
  s := 1
  S0 := ogS (lI 0)
  rt := fun b => { T := hT true, LL := hLL, LX := hLX true, Y := [⟨fIsOpen, [gateQ, sI 8], bR b⟩], LA := if b then [⟨9, [sI 2], 10⟩] else [] }
  S := ogS (sI 7)
  cr := [sI 2]
  bt := 5
  bf := 4
  et := hEnd
  er := fun ne => if ne then (.tup [.slN 0 9 1, lI 0], [some (.lst 9 tInt true)]) else (tupN 0, [])
set_option maxRecDepth 100000 in
theorem oa_enter : genter oaQ = true := by kernel_rfl
set_option maxRecDepth 100000 in
theorem oa_rounds : (all2 fun ne => ground oaQ ne true) = true := by kernel_rfl
set_option maxRecDepth 100000 in
theorem oa_skips : (all2 fun ne => ground oaQ ne false) = true := by kernel_rfl
set_option maxRecDepth 100000 in
theorem oa_outs : (all2 (gout oaQ)) = true := by kernel_rfl
theorem oa_runs : GRuns oaQ := ⟨oa_enter, oa_rounds, .inr oa_skips, oa_outs⟩
set_option maxRecDepth 100000 in
theorem oa_bad' : (allU 3 fun c => doneQ (oaTb 40 c) [] fOpenGates [fellR, sI 8] [] [] (tupN 40) []) = true := by kernel_rfl
set_option maxRecDepth 100000 in
theorem oa_bad1 : (all2 fun c => doneQ (oaTb 0 (if c then 0 else 1)) [] fOpenGates [fellR, sI 8] [] [] (tupN 1) []) = true := by kernel_rfl
/-! on -/
noncomputable def onQ : GP where
  f := fOn
  ds := [fellR, sI 8]
  tb := { LL := hLL }
  plan := []
  n := 25
  l := 5
  ov := [(1, sI 8), (2, .ptr 1 0), (6, sI 2)]
  pre := fellB
  e := tBool
  s := 1
  S0 := ogS (lI 0)
  rt := fun b => { T := hT true, LL := hLL, LX := hLX true, Y := [⟨fOpenOn, [gateQ, sI 8], sB 0⟩], LA := if b then [⟨9, [sB 0], 10⟩] else [] }
  S := ogS (sI 7)
  cr := [sB 0]
  bt := 4
  bf := 3
  et := hEnd
  er := fun ne => if ne then (.slN 0 9 1, [some (.lst 9 tBool true)]) else (nilR, [])
  al := true
set_option maxRecDepth 100000 in
theorem on_enter : genter onQ = true := by kernel_rfl
set_option maxRecDepth 100000 in
theorem on_rounds : (all2 fun ne => ground onQ ne true) = true := by kernel_rfl
set_option maxRecDepth 100000 in
theorem on_outs : (all2 (gout onQ)) = true := by kernel_rfl
theorem on_runs : GRuns onQ := ⟨on_enter, on_rounds, .inl rfl, on_outs⟩
/-! list -/
def bLL : List LNE := [⟨0, 1, sI 1⟩]
noncomputable def liQ : GP where
  f := fList
  ds := [.slN 0 0 1]
  tb := { LL := bLL }
  plan := []
  n := 20
  l := 3
  ov := [(0, .slA 0 0 1), (4, sI 2)]
  pre := [some (.lstA 0)]
  e := tInt
  s := 1
  S0 := [.int 2 (lI 0), .int 1 (sI 1), .lst 0 0]
  rt := fun b => { T := ⟨.truth, sB 0, sB 0, bR b⟩ :: hT true, LL := bLL, LX := [⟨0, 2, [sB 0]⟩], LA := if b then [⟨9, [sI 2], 10⟩] else [] }
  S := [.int 2 (sI 7), .int 1 (sI 1), .lst 0 0]
  cr := [sI 2]
  bt := 3
  bf := 2
  et := { T := hT false, LL := bLL }
  er := fun ne => if ne then (.slN 0 9 1, [some (.lst 9 tInt true)]) else (nilR, [])
set_option maxRecDepth 100000 in
theorem li_enter : genter liQ = true := by kernel_rfl
set_option maxRecDepth 100000 in
theorem li_rounds : (all2 fun ne => ground liQ ne true) = true := by kernel_rfl
set_option maxRecDepth 100000 in
theorem li_skips : (all2 fun ne => ground liQ ne false) = true := by kernel_rfl
set_option maxRecDepth 100000 in
theorem li_outs : (all2 (gout liQ)) = true := by kernel_rfl
theorem li_runs : GRuns liQ := ⟨li_enter, li_rounds, .inr li_skips, li_outs⟩
/-! ints, of two slices that hold one list -/
def inD : List RV := [.slN 0 0 1, .slN 0 0 1]
noncomputable def inE : Tb := { LL := bLL }
noncomputable def inP : St := ⟨patW [(0, .slA 0 0 1), (1, .slA 1 0 1), (5, sI 2)] 26 0, [some (.lstA 0), some (.lstA 0)]⟩
def inS (r : RV) : List SE := [.int 2 r, .int 1 (sI 1), .lst 0 0]
noncomputable def inT (b : Bool) : Tb := { T := hT b, LL := bLL, LX := if b then [⟨0, 2, [sI 3]⟩] else [] }
set_option maxRecDepth 100000 in
theorem in_enter : enterT inE [] fInts inD (inS (lI 0)) [0, 1] inP = true := by kernel_rfl
set_option maxRecDepth 100000 in
theorem in_again : againT (inT true) [] (hB inE [] fInts inD) (hK inE [] fInts inD) inP (inS (sI 7)) [0, 1] inP = true := by kernel_rfl
set_option maxRecDepth 100000 in
theorem in_out : outF (inT false) [] fInts (hB inE [] fInts inD) (hK inE [] fInts inD) inP (bR true) = true := by kernel_rfl
/-! OpenGates of the specification -/
noncomputable def roU (m : Nat) : List QE := if m = 0 then [⟨fOn, [fellR, sI 8], nilR, []⟩] else [⟨fOn, [fellR, sI 8], .slN 0 11 1, [some (.lst 11 tBool true)]⟩, if m = 1 then ⟨fList, [.slN 0 11 1], nilR, []⟩ else ⟨fList, [.slN 0 11 1], .slN 0 9 1, [some (.lst 9 tInt true)]⟩]
noncomputable def roTb (v : Bool) (d : Nat) (m : Nat) : Tb := { T := dayT d, LL := hLL, C := [⟨fValid, [fellR], bR v⟩], U := qnU (roU m) }
noncomputable def roTbU (v : Bool) (d : Nat) : Tb := { T := dayT d, LL := hLL, C := [⟨fValid, [fellR], bR v⟩] }
set_option maxRecDepth 100000 in
theorem ro_run0 : (all2 fun c => doneQ (roTb true 2 (if c then 0 else 1)) [] fROpenGates [fellR, sI 8] [] [] (tupN 0) []) = true := by kernel_rfl
set_option maxRecDepth 100000 in
theorem ro_run2 : doneQ (roTb true 2 2) [] fROpenGates [fellR, sI 8] [.lst 9 9] [3] (.tup [.slN 0 9 1, lI 0]) [some (.lst 9 tInt true)] = true := by kernel_rfl
set_option maxRecDepth 100000 in
theorem ro_badU : (allU 3 fun c => doneQ (roTbU false c) [] fROpenGates [fellR, sI 8] [] [] (tupN 40) []) = true := by kernel_rfl
set_option maxRecDepth 100000 in
theorem ro_badV : (all2 fun c => doneQ (roTbU true (if c then 0 else 1)) [] fROpenGates [fellR, sI 8] [] [] (tupN 1) []) = true := by kernel_rfl
/-! Open -/
def opD : List RV := [fellR, sI 2, sI 8]
def gaT (i : Nat) : List TE := if i = 0 then [⟨.bin .lss, sI 2, lI 0, bR true⟩, ⟨.bin .geq, sI 2, lI 0, bR false⟩]
  else if i = 1 then [⟨.bin .lss, sI 2, lI 0, bR false⟩, ⟨.bin .geq, sI 2, lI 0, bR true⟩, ⟨.bin .lss, sI 2, sI 1, bR false⟩, ⟨.bin .geq, sI 2, sI 1, bR true⟩]
  else [⟨.bin .lss, sI 2, lI 0, bR false⟩, ⟨.bin .geq, sI 2, lI 0, bR true⟩, ⟨.bin .lss, sI 2, sI 1, bR true⟩, ⟨.bin .geq, sI 2, sI 1, bR false⟩, ⟨.inb, sI 2, sI 1, bR true⟩]
noncomputable def opTc (e : Int) (d g : Nat) : Tb := { T := dayT d ++ gaT g, LL := hLL, C := [⟨fCheck, [fellR], lI e⟩, ⟨fValid, [fellR], bR (if e = 0 then true else false)⟩] }
noncomputable def opTb (e : Int) (d g : Nat) : Tb := { T := dayT d ++ gaT g, LL := hLL, LX := hLX true, C := [⟨fCheck, [fellR], lI e⟩, ⟨fValid, [fellR], bR (if e = 0 then true else false)⟩], Y := [⟨fIsOpen, [gateQ, sI 8], sB 0⟩, ⟨fOpenOn, [gateQ, sI 8], sB 0⟩] }
set_option maxRecDepth 100000 in
theorem op_good : (all2 fun c => doneQ (opTb 0 2 2) [] (if c then fOpen else fROpen) opD [.bool 0 (sB 0)] [] (.tup [sB 0, lI 0]) []) = true := by kernel_rfl
set_option maxRecDepth 100000 in
theorem op_bad : (all2 fun c => allU 3 fun d => allU 3 fun g => doneQ (opTc 40 d g) [] (if c then fOpen else fROpen) opD [] [] (tupB false 40) []) = true := by kernel_rfl
set_option maxRecDepth 100000 in
theorem op_bad1 : (all2 fun c => allU 2 fun d => allU 3 fun g => doneQ (opTc 0 d g) [] (if c then fOpen else fROpen) opD [] [] (tupB false 1) []) = true := by kernel_rfl
set_option maxRecDepth 100000 in
theorem op_bad2 : (all2 fun c => allU 2 fun g => doneQ (opTc 0 2 g) [] (if c then fOpen else fROpen) opD [] [] (tupB false 1) []) = true := by kernel_rfl
/-! YearDay -/
noncomputable def ydTb (d : Nat) : Tb := { T := ⟨.bin .rem, sI 8, lI 360, sI 3⟩ :: dayT d }
def tupI (e : Int) : RV := .pl (.tuple #[.int .i64 0, .int .i64 e])
set_option maxRecDepth 100000 in
theorem yd_bad' : (all2 fun c => allU 2 fun d => doneQ { T := dayT d } [] (if c then fYearDay else fRYearDay) [sI 8] [] [] (tupI 1) []) = true := by kernel_rfl
set_option maxRecDepth 100000 in
theorem yd_good : (all2 fun c => doneQ (ydTb 2) [] (if c then fYearDay else fRYearDay) [sI 8] [.int 3 (sI 3)] [] (.tup [sI 3, lI 0]) []) = true := by kernel_rfl
end Go.Proofs.Z

namespace Go.Proofs.Z
open Go Go.RowKit Go.Proofs Go.Ri Go.Proofs.Z.Fa
/-! Open gates: contracts. -/
/-! OpenOn -/
def onT (p q r s : Bool) : List TE := [⟨.bin .rem, sI 4, lI 360, sI 5⟩, ⟨.bin .lss, sI 2, sI 3, bR p⟩, ⟨.bin .gtr, sI 2, sI 3, bR q⟩, ⟨.bin .geq, sI 5, sI 2, bR r⟩, ⟨.bin .leq, sI 2, sI 5, bR r⟩, ⟨.bin .lss, sI 5, sI 3, bR s⟩]
noncomputable def onRun (p q r s : Bool) : Bool := runOK noX (onT p q r s) [] 1000 20 fOpenOn [gateR 0, sI 4] (bR (if p then r && s else q && (r || s)))
set_option maxRecDepth 100000 in
theorem onon_run : (all2 fun p => all2 fun q => all2 fun r => all2 fun s => onRun p q r s) = true := by kernel_rfl
theorem openOn_ans (a b fr to d : Int) (h : 0 ≤ d) : Ans fOpenOn [gateV a b fr to, .int .i64 d] (.bool (openM fr to d)) := by
  have hr := all2_all (all2_all (all2_all (all2_all onon_run (decide (fr < to))) (decide (fr > to))) (decide (d % 360 ≥ fr))) (decide (d % 360 < to))
  unfold onRun at hr
  letI V : Val := VE (fun i => if i = 0 then a else if i = 1 then b else if i = 2 then fr else if i = 3 then to else if i = 4 then d else d % 360) (fun _ => false)
  have := @ans V noX _ _ noX_true (fa (f_rem (k := .i64) (m := d) (n := 360) (r := d % 360) rfl rfl rfl rfl h (by decide) rfl) (fa (f_lss (k := .i64) (m := fr) (n := to) rfl rfl rfl) (fa (f_gtr (k := .i64) (m := fr) (n := to) rfl rfl rfl) (fa (f_geq (k := .i64) (m := d % 360) (n := fr) rfl rfl rfl) (fa (f_leq (k := .i64) (m := fr) (n := d % 360) rfl rfl rfl) (fa (f_lss (k := .i64) (m := d % 360) (n := to) rfl rfl rfl) fz)))))) (by intro q hq; cases hq) _ _ _ _ _ hr
  have e : (.bool (openM fr to d) : Value) = @cvF V (bR (if decide (fr < to) = true then decide (d % 360 ≥ fr) && decide (d % 360 < to) else decide (fr > to) && (decide (d % 360 ≥ fr) || decide (d % 360 < to)))) := by
    refine congrArg Value.bool ?_
    unfold openM
    by_cases hp : fr > to
    · have h1 : ¬ fr < to := by omega
      simp [hp, h1]
    · by_cases hq : fr < to
      · simp [hp, hq]
      · have : to = fr := by omega
        subst this
        simp
  rw [e]
  exact this
theorem nval_conv {V V' : Val} {w : World} {d : RV} {v : Value} (hf : flat d = true) (e : @cvF V d = @cvF V' d) (h : @Go.Ri.NVal V w d v) : @Go.Ri.NVal V' w d v := by
  have := @flat_of_nval V w d v hf h
  rw [this, e]
  exact @nval_of_flat V' w d hf
theorem fell_nval1 {V V' : Val} {w : World} {v : Value} (h0 : V.I 0 = V'.I 0) (hi : V.L 0 = V'.L 0) (h : @Go.Ri.NVal V w fellR v) : @Go.Ri.NVal V' w fellR v := by
  cases fell_nval h0 hi (.cons h .nil : All2 (@Go.Ri.NVal V w) [fellR] [v]) with
  | cons h1 _ => exact h1
/-- A named list in a world. -/
theorem lst_nval {V V' : Val} {w : World} {v : Value} {i j s : Nat} (hi : V.L i = V'.L j) (h : @Go.Ri.NVal V w (.slN 0 i s) v) : @Go.Ri.NVal V' w (.slN 0 j s) v := by
  obtain ⟨a, m, cap, k1, k2, k3, k4, k5, k6⟩ := h
  rw [hi] at k2 k4 k6
  exact ⟨a, m, cap, k1, k2, k3, k4, k5, k6⟩
def dcls (d : Int) : Nat := if d < 0 then 0 else if d > 1048576 then 1 else 2
def dayE (d : Int) : Int := if 0 ≤ d ∧ d ≤ 1048576 then 0 else 1
theorem dcls_lt {d : Int} (h : ¬ (0 ≤ d ∧ d ≤ 1048576)) : dcls d < 2 := by
  unfold dcls
  split
  · omega
  · split
    · omega
    · omega
theorem dcls_lt3 (d : Int) : dcls d < 3 := by
  unfold dcls
  split
  · omega
  · split <;> omega
theorem dcls_two {d : Int} (h : 0 ≤ d ∧ d ≤ 1048576) : dcls d = 2 := by
  unfold dcls
  rw [if_neg (by omega), if_neg (by omega)]
theorem dayT_ok (V : Val) {d : Int} (h : V.I 8 = d) : ∀ e, e ∈ dayT (dcls d) → @TETrue V e := by
  subst h
  letI := V
  unfold dcls
  by_cases h0 : V.I 8 < 0
  · rw [if_pos h0]
    exact fa (f_lss (k := .i64) (m := V.I 8) (n := 0) rfl rfl (by simp [h0])) (fa (f_geq (k := .i64) (m := V.I 8) (n := 0) rfl rfl (by simp; omega)) fz)
  · rw [if_neg h0]
    have h0' : ¬ V.I 8 < 0 := h0
    by_cases h1 : V.I 8 > 1048576
    · rw [if_pos h1]
      exact fa (f_lss (k := .i64) (m := V.I 8) (n := 0) rfl rfl (by simp; omega)) (fa (f_geq (k := .i64) (m := V.I 8) (n := 0) rfl rfl (by simp; omega)) (fa (f_gtr (k := .i64) (m := V.I 8) (n := 1048576) rfl rfl (by simp; omega)) (fa (f_leq (k := .i64) (m := V.I 8) (n := 1048576) rfl rfl (by simp; omega)) fz)))
    · rw [if_neg h1]
      exact fa (f_lss (k := .i64) (m := V.I 8) (n := 0) rfl rfl (by simp; omega)) (fa (f_geq (k := .i64) (m := V.I 8) (n := 0) rfl rfl (by simp; omega)) (fa (f_gtr (k := .i64) (m := V.I 8) (n := 1048576) rfl rfl (by simp; omega)) (fa (f_leq (k := .i64) (m := V.I 8) (n := 1048576) rfl rfl (by simp; omega)) fz)))
def odP (l : List Value) (d : Int) (k : Nat) : Bool := openM (gtF l k) (gtT l k) d
def ogC (k : Nat) : List Value := [.int .i64 k]
def ogL (l : List Value) (n : Nat) (d : Int) : List Value := gl (odP l d) ogC n
theorem ogC_len (k : Nat) : (ogC k).length = 1 := rfl
theorem ogC_one (k : Nat) : ∀ u, u ∈ ogC k → u.oneCell' = true := fa rfl fz
/-- The names in a loop that gathers. -/
def hnm (G : Int) (l : List Value) (n k : Nat) (x : Nat → Int) (y : Nat → Bool) (p : Nat → Bool) (cells : Nat → List Value) : Nm := gnm G l n k x y (fun i => if i = 9 then gl p cells k else if i = 10 then gl p cells (k + 1) else [])
noncomputable def ogAns (e : Int) (ne : Bool) : RV × RH := if e = 0 then (if ne then (.tup [.slN 0 9 1, lI 0], [some (.lst 9 tInt true)]) else (tupN 0, [])) else (tupN e, [])
def fdE (G : Int) (l : List Value) (n : Nat) (d : Int) : Int := if validM G l n then dayE d else 40
theorem ogS_ok {G : Int} {l : List Value} {n k : Nat} {d : Int} {y y' p cells} (W W' : Nat → Value) : ∀ e, e ∈ ogS (sI 7) → okSE ((hnm G l n k (fun _ => d) y p cells).val W) ((hnm G l n (k + 1) (fun _ => d) y' p cells).val W') e :=
  fa ⟨.i64, (k : Int) + 1, rfl, rfl⟩ (fa ⟨.i64, G, rfl, rfl⟩ (fa ⟨.i64, (n : Int), rfl, rfl⟩ (fa ⟨.i64, d, rfl, rfl⟩ (fa rfl fz))))
theorem ogS0_ok {G : Int} {l : List Value} {n : Nat} {d : Int} {y y' z p cells} (W W' : Nat → Value) : ∀ e, e ∈ ogS (lI 0) → okSE ((gnm G l n 0 (fun _ => d) y z).val W) ((hnm G l n 0 (fun _ => d) y' p cells).val W') e :=
  fa ⟨.i64, 0, rfl, rfl⟩ (fa ⟨.i64, G, rfl, rfl⟩ (fa ⟨.i64, (n : Int), rfl, rfl⟩ (fa ⟨.i64, d, rfl, rfl⟩ (fa rfl fz))))
section
variable (V : Val) {G : Int} {l : List Value} {n : Nat} {d : Int}
theorem opengates_q (hG : V.I 0 = G) (hL : V.L 0 = l) (hl : ints l) (hn : l.length = n * 4) (hd : V.I 8 = d) (h9 : V.L 9 = ogL l n d) :
    ∀ w, RoIn ro w → ∀ vs, All2 (@Go.Ri.NVal V w) [fellR, sI 8] vs → Calls Tryz.prog fOpenGates vs.toArray w (DQ V (ogAns (fdE G l n d) (!(ogL l n d).isEmpty)).1 (ogAns (fdE G l n d) (!(ogL l n d).isEmpty)).2 w) := by
  intro w hr vs hv
  have hv : All2 (@Go.Ri.NVal ((gnm G l n 0 (fun _ => d) ny nz).val fun _ => undef) w) [fellR, sI 8] vs := by
    cases hv with
    | cons h1 h2 => cases h2 with
      | cons h2 h3 =>
        cases h3
        exact .cons (fell_nval1 hG hL h1) (.cons (nval_conv rfl (show Value.int .i64 (V.I 8) = Value.int .i64 d by rw [hd]) h2) .nil)
  have hC : ∀ W, @AnsN ((gnm G l n 0 (fun _ => d) ny nz).val W) fCheck [fellR] (.int .i64 (errM G l n)) := fun W => check_ans _ rfl rfl hl hn
  have ht : ∀ e, errM G l n = e → @TbOK ((gnm G l n 0 (fun _ => d) ny nz).val fun _ => undef) (oaTb e (dcls d)) := fun e he => by
    letI : Val := (gnm G l n 0 (fun _ => d) ny nz).val fun _ => undef
    refine { T := dayT_ok _ rfl, LL := hLL_ok _ _ _ hn 0 _, C := fa ?_ fz }
    have := hC fun _ => undef
    rw [he] at this
    exact this
  unfold fdE
  cases hva : validM G l n with
  | false =>
    have he : errM G l n = 40 := by unfold errM; rw [hva]; rfl
    have ht := ht 40 he
    have key : doneQ (oaTb 40 (dcls d)) [] fOpenGates [fellR, sI 8] [] [] (tupN 40) [] = true := by
      have : (allU 3 fun c => doneQ (oaTb 40 c) [] fOpenGates [fellR, sI 8] [] [] (tupN 40) []) = true := oa_bad'
      exact allU_lt this _ (dcls_lt3 d)
    exact done_calls _ V ht key rfl (holds_all fz) w hr vs hv
  | true =>
    have he : errM G l n = 0 := by unfold errM; rw [hva]; rfl
    have ht := ht 0 he
    by_cases hday : 0 ≤ d ∧ d ≤ 1048576
    · rw [dcls_two hday] at ht
      have e0 : (if true = true then dayE d else 40) = 0 := by simp [dayE, hday]
      rw [e0]
      refine gather oaQ oa_runs (fun ne => by cases ne <;> rfl) (gnm G l n 0 (fun _ => d) ny nz) (fun _ => undef) (fun k => hnm G l n k (fun _ => d) ny (odP l d) ogC) n (odP l d) ogC (fun k => rfl) (fun k => rfl) ht (fun W' => ogS0_ok _ W') ?_ (fun k _ W W' => ogS_ok W W') (fun k _ _ W => rfl) (fun k => by simp [ogC]) (fun h => by cases h) (fun W => ?_) V h9 w hr vs hv
      · intro k hk W
        have hb : n ≤ 32 := ((validM_iff _ _ _).1 hva).2.2.1
        letI : Val := (hnm G l n k (fun _ => d) ny (odP l d) ogC).val W
        refine { T := hT_ok _ _ _ (by omega) W (by simp [hk]), LL := hLL_ok _ _ _ hn k W, LX := hLX_ok _ _ _ hl hn hk W, Y := fa (open_ans (gtA l k) (gtB l k) (gtF l k) (gtT l k) d hday.1) fz, LA := ?_ }
        show ∀ e, e ∈ (if odP l d k = true then [(⟨9, [sI 2], 10⟩ : LAE)] else []) → _
        split
        · rename_i hp
          exact fa (gl_la (p := odP l d) (cells := ogC) (s := 1) ogC_len ogC_one rfl rfl hp rfl (by omega)) fz
        · exact fz
      · letI : Val := (hnm G l n n (fun _ => d) ny (odP l d) ogC).val W
        have hb : n ≤ 32 := ((validM_iff _ _ _).1 hva).2.2.1
        exact { T := hT_ok _ _ _ (by omega) W (by simp), LL := hLL_ok _ _ _ hn n W }
    · have e0 : (if true = true then dayE d else 40) = 1 := by simp only [dayE, if_true]; rw [if_neg hday]
      rw [e0]
      have key : doneQ (oaTb 0 (dcls d)) [] fOpenGates [fellR, sI 8] [] [] (tupN 1) [] = true := by
        have := dcls_lt hday
        rcases (show dcls d = 0 ∨ dcls d = 1 by omega) with h | h
        · rw [h]; exact all2_all oa_bad1 true
        · rw [h]; exact all2_all oa_bad1 false
      exact done_calls _ V ht key rfl (holds_all fz) w hr vs hv
def onC (l : List Value) (d : Int) (k : Nat) : List Value := [.bool (odP l d k)]
def onL (l : List Value) (n : Nat) (d : Int) : List Value := gl (fun _ => true) (onC l d) n
theorem on_q (hG : V.I 0 = G) (hL : V.L 0 = l) (hl : ints l) (hn : l.length = n * 4) (hb : n ≤ 32) (hd : V.I 8 = d) (h0 : 0 ≤ d) (h9 : V.L 11 = onL l n d) :
    ∀ w, RoIn ro w → ∀ vs, All2 (@Go.Ri.NVal V w) [fellR, sI 8] vs → Calls Tryz.prog fOn vs.toArray w (DQ V (if (onL l n d).isEmpty then nilR else .slN 0 11 1) (if (onL l n d).isEmpty then [] else [some (.lst 11 tBool true)]) w) := by
  intro w hr vs hv
  have hv : All2 (@Go.Ri.NVal ((gnm G l n 0 (fun _ => d) ny nz).val fun _ => undef) w) [fellR, sI 8] vs := by
    cases hv with
    | cons h1 h2 => cases h2 with
      | cons h2 h3 =>
        cases h3
        exact .cons (fell_nval1 hG hL h1) (.cons (nval_conv rfl (show Value.int .i64 (V.I 8) = Value.int .i64 d by rw [hd]) h2) .nil)
  have ht : @TbOK ((gnm G l n 0 (fun _ => d) ny nz).val fun _ => undef) { LL := hLL } := by
    letI : Val := (gnm G l n 0 (fun _ => d) ny nz).val fun _ => undef
    exact { LL := hLL_ok _ _ _ hn 0 _ }
  let V' : Val := { V with L := fun i => if i = 9 then onL l n d else V.L i }
  have := gather onQ on_runs (fun ne => by cases ne <;> rfl) (gnm G l n 0 (fun _ => d) ny nz) (fun _ => undef) (fun k => hnm G l n k (fun _ => d) (fun _ => odP l d k) (fun _ => true) (onC l d)) n (fun _ => true) (onC l d) (fun k => rfl) (fun k => rfl) ht (fun W' => ogS0_ok _ W') ?_ (fun k _ W W' => ogS_ok W W') (fun k _ _ W => rfl) (fun k => by simp [onC]) (fun _ _ _ => rfl) (fun W => ?_) V' rfl w hr vs hv
  · refine this.mono fun e w' ⟨u, E', he, hu, H⟩ => ?_
    show DQ V (if (gl (fun _ => true) (onC l d) n).isEmpty = true then nilR else .slN 0 11 1) (if (gl (fun _ => true) (onC l d) n).isEmpty = true then [] else [some (.lst 11 tBool true)]) w e w'
    cases hE : (gl (fun _ => true) (onC l d) n).isEmpty with
    | true =>
      rw [hE] at hu H
      have q := mtQ_ok (V := V') (V' := V) (S := []) (R := []) (r := nilR) (r0 := nilR) (h' := []) (h0 := []) (by kernel_rfl) rfl (holds_all fz) hu H
      exact ⟨u, _, he, q.1, q.2⟩
    | false =>
      rw [hE] at hu H
      have q := mtQ_ok (V := V') (V' := V) (S := [.lst 11 9]) (R := [0]) (r := .slN 0 9 1) (r0 := .slN 0 11 1) (h' := [some (.lst 9 tBool true)]) (h0 := [some (.lst 11 tBool true)]) ?_ rfl (holds_all (fa ?_ fz)) hu H
      · exact ⟨u, _, he, q.1, q.2⟩
      · kernel_rfl
      · show V.L 11 = V'.L 9
        rw [h9]
        rfl
  · intro k hk W
    letI : Val := (hnm G l n k (fun _ => d) (fun _ => odP l d k) (fun _ => true) (onC l d)).val W
    refine { T := hT_ok _ _ _ (by omega) W (by simp [hk]), LL := hLL_ok _ _ _ hn k W, LX := hLX_ok _ _ _ hl hn hk W, Y := fa (openOn_ans (gtA l k) (gtB l k) (gtF l k) (gtT l k) d h0) fz, LA := ?_ }
    exact fa (gl_la (p := fun _ => true) (cells := onC l d) (s := 1) (fun _ => rfl) (fun _ => fa rfl fz) rfl rfl rfl rfl (by omega)) fz
  · letI : Val := (hnm G l n n (fun _ => d) (fun _ => odP l d n) (fun _ => true) (onC l d)).val W
    exact { T := hT_ok _ _ _ (by omega) W (by simp), LL := hLL_ok _ _ _ hn n W }
end
end Go.Proofs.Z

namespace Go.Proofs.Z
open Go Go.RowKit Go.Proofs Go.Ri Go.Proofs.Z.Fa
/-! list, ints, OpenGates of the specification. -/
def bC (b : Nat → Bool) (k : Nat) : List Value := [.bool (b k)]
def bls (b : Nat → Bool) (n : Nat) : List Value := gl (fun _ => true) (bC b) n
theorem bls_len (b : Nat → Bool) : ∀ n, (bls b n).length = n
  | 0 => rfl
  | n + 1 => by
    show (bls b n ++ bC b n).length = n + 1
    rw [List.length_append, bls_len b n]
    rfl
theorem bls_get (b : Nat → Bool) : ∀ n k, k < n → (bls b n)[k]? = some (.bool (b k))
  | n + 1, k, h => by
    show (bls b n ++ bC b n)[k]? = _
    rcases Nat.lt_or_eq_of_le (Nat.le_of_lt_succ h) with h1 | rfl
    · rw [List.getElem?_append_left (by rw [bls_len]; exact h1), bls_get b n k h1]
    · rw [List.getElem?_append_right (by rw [bls_len]; exact Nat.le_refl _), bls_len, Nat.sub_self]
      rfl
def lnm (N k : Nat) (b : Nat → Bool) : Nm := ⟨fun i => if i = 1 then (N : Int) else if i = 2 then (k : Int) else (k : Int) + 1, fun _ => b k, fun _ => ⟨#[]⟩, fun i => if i = 0 then bls b N else if i = 9 then gl b ogC k else if i = 10 then gl b ogC (k + 1) else []⟩
theorem hT_gen (V : Val) {n k : Nat} (h1 : V.I 1 = n) (h2 : V.I 2 = k) (h7 : V.I 7 = k + 1) (hk : k ≤ 1000000000) {b : Bool} (hb : decide (k < n) = b) : ∀ e, e ∈ hT b → @TETrue V e := by
  letI := V
  refine fa (f_lss (k := .i64) (m := V.I 2) (n := V.I 1) rfl rfl ?_) (fa ⟨rfl, .i64, .i64, V.I 2, V.I 1, rfl, rfl, ?_⟩ (fa ?_ fz))
  · rw [h1, h2, ← hb]; exact decide_eq_decide.2 (by omega)
  · rw [h1, h2, ← hb]
    exact congrArg Value.bool (decide_eq_decide.2 (by omega))
  · exact f_add1 (m := V.I 2) rfl (show Value.int .i64 (V.I 7) = Value.int .i64 (V.I 2 + 1) by rw [h7, h2]) rfl (by omega) (by omega)
theorem list_q (V : Val) (b : Nat → Bool) (n : Nat) (hb : n ≤ 100000) {i : Nat} (hL : V.L i = bls b n) (h9 : V.L 9 = gl b ogC n) :
    ∀ w, RoIn ro w → ∀ vs, All2 (@Go.Ri.NVal V w) [.slN 0 i 1] vs → Calls Tryz.prog fList vs.toArray w (DQ V (if (gl b ogC n).isEmpty then nilR else .slN 0 9 1) (if (gl b ogC n).isEmpty then [] else [some (.lst 9 tInt true)]) w) := by
  intro w hr vs hv
  have hv : All2 (@Go.Ri.NVal ((lnm n 0 b).val fun _ => undef) w) [.slN 0 0 1] vs := by
    cases hv with
    | cons h1 h2 =>
      cases h2
      exact .cons (lst_nval (V := V) (V' := (lnm n 0 b).val fun _ => undef) hL h1) .nil
  have hLL : ∀ k W, ∀ e, e ∈ bLL → @LLTrue ((lnm n k b).val W) e := fun k W => fa ⟨rfl, n, Nat.succ_pos 0, by rw [Nat.mul_one]; exact bls_len b n, rfl⟩ fz
  have ht : @TbOK ((lnm n 0 b).val fun _ => undef) { LL := bLL } := by
    letI : Val := (lnm n 0 b).val fun _ => undef
    exact { LL := hLL 0 _ }
  have := gather liQ li_runs (fun ne => by cases ne <;> rfl) (lnm n 0 b) (fun _ => undef) (fun k => lnm n k b) n b ogC (fun k => rfl) (fun k => rfl) ht (fun W' => fa ⟨.i64, 0, rfl, rfl⟩ (fa ⟨.i64, (n : Int), rfl, rfl⟩ (fa rfl fz))) ?_ (fun k _ W W' => fa ⟨.i64, (k : Int) + 1, rfl, rfl⟩ (fa ⟨.i64, (n : Int), rfl, rfl⟩ (fa rfl fz))) (fun k _ _ W => rfl) (fun k => by simp [ogC]) (fun h => by cases h) (fun W => ?_) V h9 w hr vs hv
  · refine this.mono fun e w' h => ?_
    cases hE : (gl b ogC n).isEmpty <;> rw [hE] at h <;> exact h
  · intro k hk W
    letI : Val := (lnm n k b).val W
    refine { T := fa ⟨rfl, b k, rfl, rfl⟩ (hT_gen _ rfl rfl rfl (by omega) (by simp [hk])), LL := hLL k W, LX := fa ⟨rfl, ?_, ?_⟩ fz, LA := ?_ }
    · show ((k : Int)).toNat * 1 + 1 ≤ (bls b n).length
      rw [Int.toNat_natCast, bls_len]
      omega
    · show ((bls b n).drop (((k : Int)).toNat * 1)).take 1 = [.bool (b k)]
      rw [Int.toNat_natCast, row1 k (by rw [bls_len]; exact hk), List.getD_eq_getElem?_getD, bls_get b n k hk]
      rfl
    · show ∀ e, e ∈ (if b k = true then [(⟨9, [sI 2], 10⟩ : LAE)] else []) → _
      split
      · rename_i hp
        exact fa (gl_la (p := b) (cells := ogC) (s := 1) ogC_len ogC_one rfl rfl hp rfl (by omega)) fz
      · exact fz
  · letI : Val := (lnm n n b).val W
    exact { T := hT_gen _ rfl rfl rfl (by omega) (by simp), LL := hLL n W }
/-! ints -/
def inm (l : List Value) (n k : Nat) : Nm := ⟨fun i => if i = 1 then (n : Int) else if i = 2 then (k : Int) else if i = 3 then intOf (l.getD k undef) else (k : Int) + 1, fun _ => false, fun _ => ⟨#[]⟩, fun i => if i = 0 then l else []⟩
theorem ints_ans (V : Val) (l : List Value) (hl : ints l) (n : Nat) (hn : l.length = n) (hb : n ≤ 1000000) {i : Nat} (hL : V.L i = l) : @AnsN V fInts [.slN 0 i 1, .slN 0 i 1] (.bool true) := by
  intro w hr vs hv
  have hv : All2 (@Go.Ri.NVal ((inm l n 0).val fun _ => undef) w) inD vs := by
    cases hv with
    | cons h1 h2 => cases h2 with
      | cons h2 h3 =>
        cases h3
        exact .cons (lst_nval (V := V) (V' := (inm l n 0).val fun _ => undef) hL h1) (.cons (lst_nval (V := V) (V' := (inm l n 0).val fun _ => undef) hL h2) .nil)
  have hLL : ∀ k W, ∀ e, e ∈ bLL → @LLTrue ((inm l n k).val W) e := fun k W => fa ⟨rfl, n, Nat.succ_pos 0, by rw [Nat.mul_one]; exact hn, rfl⟩ fz
  refine scan fInts inD inE [] inP (inS (lI 0)) (inS (sI 7)) [0, 1] [0, 1] (inm l n 0) (fun _ => undef) (fun k => inm l n k) n _ (fun _ => True) in_enter ?_ (fun W' => fa ⟨.i64, 0, rfl, rfl⟩ (fa ⟨.i64, (n : Int), rfl, rfl⟩ (fa rfl fz))) trivial ?_ w hr vs hv
  · letI : Val := (inm l n 0).val fun _ => undef
    exact { LL := hLL 0 _ }
  · intro k hk _ W
    letI : Val := (inm l n k).val W
    rcases Nat.lt_or_ge k n with hlt | hge
    · refine .inr ⟨hlt, trivial, inT true, { T := hT_gen _ rfl rfl rfl (by omega) (by simp [hlt]), LL := hLL k W, LX := fa ⟨rfl, ?_, ?_⟩ fz }, in_again, fun W' => fa ⟨.i64, (k : Int) + 1, rfl, rfl⟩ (fa ⟨.i64, (n : Int), rfl, rfl⟩ (fa rfl fz))⟩
      · show ((k : Int)).toNat * 1 + 1 ≤ l.length
        rw [Int.toNat_natCast, hn]
        omega
      · show (l.drop (((k : Int)).toNat * 1)).take 1 = [.int .i64 (intOf (l.getD k undef))]
        rw [Int.toNat_natCast, row1 k (by rw [hn]; exact hlt)]
        obtain ⟨z, hz⟩ := hl (l.getD k undef) (by rw [List.getD_eq_getElem?_getD, List.getElem?_eq_getElem (by rw [hn]; exact hlt)]; exact List.getElem_mem _)
        rw [hz]
        rfl
    · obtain rfl : k = n := by omega
      exact .inl ⟨inT false, bR true, { T := hT_gen _ rfl rfl rfl (by omega) (by simp), LL := hLL k W }, in_out, rfl⟩
/-! OpenGates of the specification -/
theorem onL_bls (l : List Value) (n : Nat) (d : Int) : onL l n d = bls (odP l d) n := rfl
theorem gl_nil {p : Nat → Bool} {c : Nat → List Value} {n : Nat} (h : n = 0) : gl p c n = [] := by subst h; rfl
section
variable (V : Val) {G : Int} {l : List Value} {n : Nat} {d : Int}
theorem ropengates_q (hG : V.I 0 = G) (hL : V.L 0 = l) (hl : ints l) (hn : l.length = n * 4) (hd : V.I 8 = d) (h9 : V.L 9 = ogL l n d) :
    ∀ w, RoIn ro w → ∀ vs, All2 (@Go.Ri.NVal V w) [fellR, sI 8] vs → Calls Tryz.prog fROpenGates vs.toArray w (DQ V (ogAns (fdE G l n d) (!(ogL l n d).isEmpty)).1 (ogAns (fdE G l n d) (!(ogL l n d).isEmpty)).2 w) := by
  intro w hr vs hv
  let c : Nm := gnm G l n 0 (fun _ => d) ny (fun i => if i = 9 then ogL l n d else if i = 11 then onL l n d else [])
  let V1 : Val := c.val fun _ => undef
  have hv : All2 (@Go.Ri.NVal V1 w) [fellR, sI 8] vs := by
    cases hv with
    | cons h1 h2 => cases h2 with
      | cons h2 h3 =>
        cases h3
        exact .cons (fell_nval1 hG hL h1) (.cons (nval_conv rfl (show Value.int .i64 (V.I 8) = Value.int .i64 d by rw [hd]) h2) .nil)
  have hC : @AnsN V1 fValid [fellR] (.bool (validM G l n)) := valid_ans _ rfl rfl hl hn
  have ht : ∀ m, (∀ e, e ∈ roU m → @QNTrue V1 e) → @TbOK V1 (roTb (validM G l n) (dcls d) m) := fun m hU => by
    letI : Val := V1
    exact { T := dayT_ok _ rfl, LL := hLL_ok _ _ _ hn 0 _, C := fa hC fz, U := qnU_ok _ hU }
  unfold fdE
  cases hva : validM G l n with
  | false =>
    rw [hva] at ht
    have h0 : (allU 3 fun c => doneQ (roTbU false c) [] fROpenGates [fellR, sI 8] [] [] (tupN 40) []) = true := ro_badU
    have ht2 : @TbOK V1 (roTbU false (dcls d)) := by
      letI : Val := V1
      have := hC
      rw [hva] at this
      exact { T := dayT_ok _ rfl, LL := hLL_ok _ _ _ hn 0 _, C := fa this fz }
    exact done_calls V1 V ht2 (allU_lt h0 _ (dcls_lt3 d)) rfl (holds_all fz) w hr vs hv
  | true =>
    rw [hva] at ht
    by_cases hday : 0 ≤ d ∧ d ≤ 1048576
    · rw [dcls_two hday] at ht
      have e0 : (if true = true then dayE d else 40) = 0 := by simp [dayE, hday]
      rw [e0]
      have hb : n ≤ 32 := ((validM_iff _ _ _).1 hva).2.2.1
      have hon := on_q V1 (G := G) (l := l) (n := n) (d := d) rfl rfl hl hn hb rfl hday.1 rfl
      have hli := list_q V1 (odP l d) n (by omega) (i := 11) rfl rfl
      have hgl : gl (odP l d) ogC n = ogL l n d := rfl
      rw [hgl] at hli
      by_cases hn0 : n = 0
      · have e1 : onL l n d = [] := gl_nil hn0
        have e2 : ogL l n d = [] := gl_nil hn0
        rw [e1] at hon
        rw [e2]
        have := ht 0 (fa hon fz)
        exact done_calls V1 V this (all2_all ro_run0 true) rfl (holds_all fz) w hr vs hv
      · have e1 : (onL l n d).isEmpty = false := by
          have := bls_len (odP l d) n
          rw [← onL_bls] at this
          cases h : onL l n d with
          | nil => rw [h] at this; exact absurd this.symm hn0
          | cons _ _ => rfl
        rw [e1] at hon
        cases hE : (ogL l n d).isEmpty with
        | true =>
          rw [hE] at hli
          have := ht 1 (fa hon (fa hli fz))
          exact done_calls V1 V this (all2_all ro_run0 false) rfl (holds_all fz) w hr vs hv
        | false =>
          rw [hE] at hli
          have := ht 2 (fa hon (fa hli fz))
          exact done_calls V1 V this ro_run2 rfl (holds_all (fa (h9.trans rfl) fz)) w hr vs hv
    · have e0 : (if true = true then dayE d else 40) = 1 := by simp only [dayE, if_true]; rw [if_neg hday]
      rw [e0]
      have h1 : (all2 fun c => doneQ (roTbU true (if c then 0 else 1)) [] fROpenGates [fellR, sI 8] [] [] (tupN 1) []) = true := ro_badV
      have key : doneQ (roTbU true (dcls d)) [] fROpenGates [fellR, sI 8] [] [] (tupN 1) [] = true := by
        have := dcls_lt hday
        rcases (show dcls d = 0 ∨ dcls d = 1 by omega) with h | h
        · rw [h]; exact all2_all h1 true
        · rw [h]; exact all2_all h1 false
      have ht2 : @TbOK V1 (roTbU true (dcls d)) := by
        letI : Val := V1
        have := hC
        rw [hva] at this
        exact { T := dayT_ok _ rfl, LL := hLL_ok _ _ _ hn 0 _, C := fa this fz }
      exact done_calls V1 V ht2 key rfl (holds_all fz) w hr vs hv
end
end Go.Proofs.Z

namespace Go.Proofs.Z
open Go Go.RowKit Go.Proofs Go.Ri Go.Proofs.Z.Fa
/-! Open, YearDay, Check of the specification: contracts; FellDays. -/
def saneX (f : FuncId) (vs : List Value) : Option Value := match Nat.beq f fSane with
  | true => match vs with
    | [] => some (.bool true)
    | _ => none
  | false => none
theorem saneX_true : XTrue saneX := by
  intro f vs v h
  unfold saneX at h
  split at h
  · rename_i hf
    split at h
    · obtain rfl := Nat.eq_of_beq_eq_true hf
      cases h
      exact sane_ans
    · cases h
  · cases h
/-! Check of the specification -/
noncomputable def rcTb (v : Bool) : Tb := { C := [⟨fValid, [fellR], bR v⟩] }
set_option maxRecDepth 100000 in
theorem rc_run : (all2 fun v => doneQ (rcTb v) [] fRCheck [fellR] [] [] (if v then lI 0 else lI 40) []) = true := by kernel_rfl
section
variable (V : Val) {G : Int} {l : List Value} {n : Nat} {d : Int}
theorem rcheck_ans (hG : V.I 0 = G) (hL : V.L 0 = l) (hl : ints l) (hn : l.length = n * 4) : @AnsN V fRCheck [fellR] (.int .i64 (errM G l n)) := by
  intro w hr vs hv
  have ht : @TbOK V (rcTb (validM G l n)) := by
    letI := V
    exact { C := fa (valid_ans V hG hL hl hn) fz }
  refine done_flat V ht (all2_all rc_run _) ?_ ?_ ?_ w hr vs hv
  · cases validM G l n <;> rfl
  · cases validM G l n <;> rfl
  · unfold errM
    cases validM G l n <;> rfl
end
/-! YearDay -/
def ydM (d : Int) : Int × Int := if 0 ≤ d ∧ d ≤ 1048576 then (d % 360, 0) else (0, 1)
def ydV (d : Int) : Value := .tuple #[.int .i64 (ydM d).1, .int .i64 (ydM d).2]
theorem yearDay_ans (c : Bool) (d : Int) : Ans (if c then fYearDay else fRYearDay) [.int .i64 d] (ydV d) := by
  let V : Val := VE (fun i => if i = 8 then d else d % 360) (fun _ => false)
  intro w hr
  by_cases hd : 0 ≤ d ∧ d ≤ 1048576
  · have ht : @TbOK V (ydTb 2) := by
      letI := V
      have := dayT_ok V (d := d) rfl
      rw [dcls_two hd] at this
      exact { T := fa (f_rem (k := .i64) (m := d) (n := 360) (r := d % 360) rfl rfl rfl rfl hd.1 (by decide) rfl) this }
    refine (done_calls V V ht (all2_all yd_good c) rfl (holds_all (fa ⟨.i64, d % 360, rfl, rfl⟩ fz)) w hr [.int .i64 d] (@nval_flat V w [sI 8] rfl)).mono fun e w' ⟨u, E', he, hu, H⟩ => ⟨?_, @HInv.below V _ _ _ _ _ _ H⟩
    rw [he]
    refine congrArg Ending.returned ((@VRel.fn V E' (.tup [sI 3, lI 0]) u _ hu (@rel_cvF V E' (.tup [sI 3, lI 0]) rfl)).trans ?_)
    unfold ydV ydM
    rw [if_pos hd]
    rfl
  · have ht : @TbOK V { T := dayT (dcls d) } := by
      letI := V
      exact { T := dayT_ok V (d := d) rfl }
    have h2 : (all2 fun c => allU 2 fun d => doneQ { T := dayT d } [] (if c then fYearDay else fRYearDay) [sI 8] [] [] (tupI 1) []) = true := yd_bad'
    refine done_flat V ht (allU_lt (all2_all h2 c) _ (dcls_lt hd)) rfl rfl ?_ w hr [.int .i64 d] (@nval_flat V w [sI 8] rfl)
    unfold ydV ydM
    rw [if_neg hd]
    rfl
/-! Open -/
def gcls (g : Int) (n : Nat) : Nat := if g < 0 then 0 else if g < n then 2 else 1
def opnM (G : Int) (l : List Value) (n : Nat) (g d : Int) : Bool × Int := if validM G l n then (if (0 ≤ d ∧ d ≤ 1048576) ∧ (0 ≤ g ∧ g < n) then (odP l d g.toNat, 0) else (false, 1)) else (false, 40)
def opnV (G : Int) (l : List Value) (n : Nat) (g d : Int) : Value := .tuple #[.bool (opnM G l n g d).1, .int .i64 (opnM G l n g d).2]
def onm (G : Int) (l : List Value) (n : Nat) (g d : Int) : Nm := ⟨fun i => if i = 0 then G else if i = 1 then (n : Int) else if i = 2 then g else if i = 3 then gtA l g.toNat else if i = 4 then gtB l g.toNat else if i = 5 then gtF l g.toNat else if i = 6 then gtT l g.toNat else d, fun _ => odP l d g.toNat, fun _ => ⟨#[]⟩, fun _ => l⟩
theorem gaT_ok (V : Val) {g : Int} {n : Nat} (h1 : V.I 1 = n) (h2 : V.I 2 = g) : ∀ e, e ∈ gaT (gcls g n) → @TETrue V e := by
  subst h2
  letI := V
  unfold gcls
  by_cases h0 : V.I 2 < 0
  · rw [if_pos h0]
    exact fa (f_lss (k := .i64) (m := V.I 2) (n := 0) rfl rfl (by simp [h0])) (fa (f_geq (k := .i64) (m := V.I 2) (n := 0) rfl rfl (by simp; omega)) fz)
  · rw [if_neg h0]
    by_cases h3 : V.I 2 < n
    · rw [if_pos h3]
      exact fa (f_lss (k := .i64) (m := V.I 2) (n := 0) rfl rfl (by simp; omega)) (fa (f_geq (k := .i64) (m := V.I 2) (n := 0) rfl rfl (by simp; omega)) (fa (f_lss (k := .i64) (m := V.I 2) (n := V.I 1) rfl rfl (by rw [h1]; simp; omega)) (fa (f_geq (k := .i64) (m := V.I 2) (n := V.I 1) rfl rfl (by rw [h1]; simp; omega))
        (fa ⟨rfl, .i64, .i64, V.I 2, V.I 1, rfl, rfl, congrArg Value.bool (by rw [h1]; simp; omega)⟩ fz))))
    · rw [if_neg h3]
      exact fa (f_lss (k := .i64) (m := V.I 2) (n := 0) rfl rfl (by simp; omega)) (fa (f_geq (k := .i64) (m := V.I 2) (n := 0) rfl rfl (by simp; omega)) (fa (f_lss (k := .i64) (m := V.I 2) (n := V.I 1) rfl rfl (by rw [h1]; simp; omega)) (fa (f_geq (k := .i64) (m := V.I 2) (n := V.I 1) rfl rfl (by rw [h1]; simp; omega)) fz)))
theorem gcls_lt3 (g : Int) (n : Nat) : gcls g n < 3 := by
  unfold gcls
  split
  · omega
  · split <;> omega
section
variable (V : Val) {G : Int} {l : List Value} {n : Nat} {g d : Int}
theorem open_q (c : Bool) (hG : V.I 0 = G) (hL : V.L 0 = l) (hl : ints l) (hn : l.length = n * 4) {x y : RV} (fx : flat x = true) (fy : flat y = true) (hx : @cvF V x = .int .i64 g) (hy : @cvF V y = .int .i64 d) : @AnsN V (if c then fOpen else fROpen) [fellR, x, y] (opnV G l n g d) := by
  intro w hr vs hv
  let V1 : Val := (onm G l n g d).val fun _ => undef
  have hv : All2 (@Go.Ri.NVal V1 w) opD vs := by
    cases hv with
    | cons h1 h2 => cases h2 with
      | cons h2 h3 => cases h3 with
        | cons h3 h4 =>
          cases h4
          refine .cons (fell_nval1 hG hL h1) (.cons ?_ (.cons ?_ .nil))
          · have := @flat_of_nval V w x _ fx h2
            rw [this, hx]
            exact @nval_of_flat V1 w (sI 2) rfl
          · have := @flat_of_nval V w y _ fy h3
            rw [this, hy]
            exact @nval_of_flat V1 w (sI 8) rfl
  have hC1 : @AnsN V1 fCheck [fellR] (.int .i64 (errM G l n)) := check_ans _ rfl rfl hl hn
  have hC2 : @AnsN V1 fValid [fellR] (.bool (validM G l n)) := valid_ans _ rfl rfl hl hn
  have hLL : ∀ e, e ∈ hLL → @LLTrue V1 e := fa ⟨rfl, n, Nat.succ_pos 3, hn, rfl⟩ fz
  have hT : ∀ e, e ∈ dayT (dcls d) ++ gaT (gcls g n) → @TETrue V1 e := fapp (dayT_ok V1 rfl) (gaT_ok V1 rfl rfl)
  have ht0 : ∀ e, errM G l n = e → @TbOK V1 (opTc e (dcls d) (gcls g n)) := fun e he => by
    letI := V1
    refine { T := hT, LL := hLL, C := fa ?_ (fa ?_ fz) }
    · rw [he] at hC1
      exact hC1
    · have : validM G l n = (if e = 0 then true else false) := by
        rw [← he]
        unfold errM
        cases validM G l n <;> rfl
      rw [this] at hC2
      exact hC2
  cases hva : validM G l n with
  | false =>
    have he : errM G l n = 40 := by unfold errM; rw [hva]; rfl
    have e0 : opnM G l n g d = (false, 40) := by unfold opnM; rw [hva]; rfl
    unfold opnV
    rw [e0]
    exact done_flat V1 (ht0 40 he) (allU_lt (allU_lt (all2_all op_bad c) _ (dcls_lt3 d)) _ (gcls_lt3 g n)) rfl rfl rfl w hr vs hv
  | true =>
    have he : errM G l n = 0 := by unfold errM; rw [hva]; rfl
    by_cases hd : 0 ≤ d ∧ d ≤ 1048576
    · by_cases hg : 0 ≤ g ∧ g < n
      · have e0 : opnM G l n g d = (odP l d g.toNat, 0) := by unfold opnM; rw [hva, if_pos rfl, if_pos ⟨hd, hg⟩]
        unfold opnV
        rw [e0]
        have hg2 : gcls g n = 2 := by unfold gcls; rw [if_neg (by omega), if_pos hg.2]
        have ht : @TbOK V1 (opTb 0 2 2) := by
          letI := V1
          have h := ht0 0 he
          rw [dcls_two hd, hg2] at h
          have h4 : g.toNat * 4 + 4 ≤ l.length := by omega
          refine { T := h.T, LL := h.LL, C := h.C, LX := fa (show LXTrue _ from ⟨rfl, h4, ?_⟩) fz, Y := fa (open_ans (gtA l g.toNat) (gtB l g.toNat) (gtF l g.toNat) (gtT l g.toNat) d hd.1) (fa (openOn_ans (gtA l g.toNat) (gtB l g.toNat) (gtF l g.toNat) (gtT l g.toNat) d hd.1) fz) }
          show (l.drop (g.toNat * 4)).take 4 = _
          rw [row4 hl g.toNat h4]
          rfl
        refine (done_calls V1 V1 ht (all2_all op_good c) rfl (holds_all (fa ⟨_, rfl, rfl⟩ fz)) w hr vs hv).mono fun e w' hq => ?_
        obtain ⟨u, E', he, hu, H⟩ := hq
        refine ⟨?_, @HInv.below V1 _ _ _ _ _ _ H⟩
        rw [he]
        exact congrArg Ending.returned (@VRel.fn V1 E' (.tup [sB 0, lI 0]) u _ hu (@rel_cvF V1 E' (.tup [sB 0, lI 0]) rfl))
      · have e0 : opnM G l n g d = (false, 1) := by unfold opnM; rw [hva, if_pos rfl, if_neg (fun h => hg h.2)]
        unfold opnV
        rw [e0]
        have hg2 : gcls g n < 2 := by
          unfold gcls
          by_cases h0 : g < 0
          · rw [if_pos h0]; omega
          · rw [if_neg h0, if_neg (fun h => hg ⟨by omega, h⟩)]; omega
        have h := ht0 0 he
        rw [dcls_two hd] at h
        exact done_flat V1 h (allU_lt (all2_all op_bad2 c) _ hg2) rfl rfl rfl w hr vs hv
    · have e0 : opnM G l n g d = (false, 1) := by unfold opnM; rw [hva, if_pos rfl, if_neg (fun h => hd h.1)]
      unfold opnV
      rw [e0]
      exact done_flat V1 (ht0 0 he) (allU_lt (allU_lt (all2_all op_bad1 c) _ (dcls_lt hd)) _ (gcls_lt3 g n)) rfl rfl rfl w hr vs hv
end
end Go.Proofs.Z
