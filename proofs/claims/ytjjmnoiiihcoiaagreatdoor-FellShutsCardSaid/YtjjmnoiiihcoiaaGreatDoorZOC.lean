/- A part of the proofs that the laws of layer four answer true for every input. -/
import Derived.Test.YtjjmnoiiihcoiaaGreatDoorZHd
import Derived.Test.YtjjmnoiiihcoiaaGreatDoorZQN
import Derived.Test.YtjjmnoiiihcoiaaGreatDoorZBs
import Derived.Test.YtjjmnoiiihcoiaaGreatDoorZND
namespace Go.Proofs.Z
open Go Go.RowKit Go.Proofs Go.Ri
/-! The specification's search: first runs. 31 the steps (elements of two cells; 38 as they were made: the slice's own name, of the same length), 90 the gates that may be used, 30 their use; 22 the grazing, 23 the next one. -/
abbrev fSearch : Nat := 120
def seD : List RV := [.agg [sI 0, .slN 0 0 4], sI 20, .slN 0 90 1, .slN 0 30 1]
def seLL : List LNE := [⟨0, 4, sI 1⟩, ⟨90, 1, sI 1⟩, ⟨30, 1, sI 1⟩, ⟨31, 2, sI 0⟩, ⟨38, 2, sI 0⟩]
noncomputable def seE : Tb := { LL := seLL, LM := [⟨50, .pl (.int .i64 0), 31⟩] }
noncomputable def seH : RH := [some (.lstA 0), some (.lstA 90), some (.lstA 30), some (.cells [sI 0, .slA 0 0 4] 24 false false), some (.lst 31 140 true)]
noncomputable def seP0 : St := ⟨patW [(1, sI 20), (2, .slA 1 90 1), (3, .slA 2 30 1), (4, .ptr 3 0), (9, .slN 4 38 2), (10, sI 22)] 119 0, seH⟩
def seS (x : RV) : List SE := [.int 0 (sI 0), .int 1 (sI 1), .int 20 (sI 20), .int 22 x, .lst 0 0, .lst 90 90, .lst 30 30]
set_option maxRecDepth 100000 in
theorem se_enter : atH (entN seE [] fSearch seD) fSearch 0 (.lst 38 31 :: .lst 31 31 :: seS (lI 0)) [0, 1, 2, 3, 4] seP0 = true := by kernel_rfl
noncomputable def seT0 : Tb := { T := [⟨.bin .lss, sI 22, sI 0, .pl (.bool true)⟩, ⟨.inb, sI 22, sI 0, .pl (.bool true)⟩, ⟨.bin .add, sI 22, lI 1, sI 23⟩], LL := seLL, LF := [⟨31, 22, 2, 0, lI (-1), 32⟩, ⟨32, 22, 2, 1, lI (-1), 33⟩] }
set_option maxRecDepth 100000 in
theorem se_00 : atH (fromH seT0 [] fSearch 0 seP0) fSearch 0 (.lst 38 38 :: .lst 31 33 :: seS (sI 23)) [0, 1, 2, 3, 4] seP0 = true := by kernel_rfl
noncomputable def seP1 : St := ⟨patW [(1, sI 20), (2, .slA 1 90 1), (3, .slA 2 30 1), (4, .ptr 3 0), (9, .slN 4 38 2), (11, .pl (.bool true))] 119 0, seH⟩
noncomputable def seT0e : Tb := { T := [⟨.bin .lss, sI 22, sI 0, .pl (.bool false)⟩, ⟨.inb, sI 20, sI 0, .pl (.bool true)⟩], LL := seLL, LF := [⟨31, 20, 2, 1, sI 20, 32⟩] }
set_option maxRecDepth 100000 in
theorem se_01 : atH (fromH seT0e [] fSearch 0 seP0) fSearch 1 (.lst 38 38 :: .lst 31 32 :: seS (lI 0)) [0, 1, 2, 3, 4] seP1 = true := by kernel_rfl
noncomputable def seP2 (m : Bool) : St := ⟨patW [(1, sI 20), (2, .slA 1 90 1), (3, .slA 2 30 1), (4, .ptr 3 0), (9, .slN 4 38 2), (11, .pl (.bool m)), (12, sI 2)] 119 0, seH⟩
def seS2 (x : RV) : List SE := [.int 0 (sI 0), .int 1 (sI 1), .int 20 (sI 20), .int 2 x, .lst 0 0, .lst 90 90, .lst 30 30, .lst 38 38]
set_option maxRecDepth 100000 in
theorem se_12 : atH (fromH { LL := seLL } [] fSearch 1 seP1) fSearch 2 (.lst 31 31 :: seS2 (lI 0)) [0, 1, 2, 3, 4] (seP2 false) = true := by kernel_rfl
def seB (b : Bool) : RV := .pl (.bool b)
/-- e: the gate may be used; u, v: it is passed from A to B, from B to A; p, q: A, B is reached. -/
noncomputable def seT2 (e u v p q : Bool) : Tb := { T := [⟨.bin .lss, sI 2, sI 1, seB true⟩, ⟨.inb, sI 2, sI 1, seB true⟩, ⟨.bin .add, sI 2, lI 1, sI 7⟩, ⟨.ieq, sI 15, lI 1, seB u⟩, ⟨.ieq, sI 15, lI (-1), seB v⟩, ⟨.inb, sI 3, sI 0, seB true⟩, ⟨.inb, sI 4, sI 0, seB true⟩, ⟨.bin .geq, sI 71, lI 0, seB p⟩, ⟨.bin .lss, sI 71, lI 0, seB (!p)⟩, ⟨.bin .geq, sI 73, lI 0, seB q⟩, ⟨.bin .lss, sI 73, lI 0, seB (!q)⟩, ⟨.bin .geq, sI 3, lI 0, seB true⟩], LL := seLL ++ [⟨33, 2, sI 0⟩], LX := [⟨0, 2, [sI 3, sI 4, sI 5, sI 6]⟩, ⟨90, 2, [seB e]⟩, ⟨30, 2, [sI 15]⟩, ⟨31, 3, [sI 70, sI 71]⟩, ⟨31, 4, [sI 72, sI 73]⟩] ++ (if e && !u && p && !q then [⟨33, 4, [sI 2, sI 3]⟩, ⟨33, 3, [sI 70, sI 71]⟩] else []), LF := [⟨31, 4, 2, 0, sI 2, 32⟩, ⟨32, 4, 2, 1, sI 3, 33⟩, ⟨31, 3, 2, 0, sI 2, 34⟩, ⟨34, 3, 2, 1, sI 4, 35⟩] }
def seNx (e u v p q : Bool) : Nat := if e && !u && p && !q then 33 else if e && !v && q && !p then 35 else 31
set_option maxRecDepth 100000 in
theorem se_22 : (all2 fun m => all2 fun e => all2 fun u => all2 fun v => all2 fun p => all2 fun q => (u && v) || atH (fromH (seT2 e u v p q) [] fSearch 2 (seP2 m)) fSearch 2 (.lst 31 (seNx e u v p q) :: seS2 (sI 7)) [0, 1, 2, 3, 4] (seP2 (m || !(Nat.beq (seNx e u v p q) 31)))) = true := by kernel_rfl
noncomputable def seP1' (m : Bool) : St := ⟨patW [(1, sI 20), (2, .slA 1 90 1), (3, .slA 2 30 1), (4, .ptr 3 0), (9, .slN 4 38 2), (11, .pl (.bool m))] 119 0, seH⟩
noncomputable def seT2e : Tb := { T := [⟨.bin .lss, sI 2, sI 1, seB false⟩], LL := seLL }
set_option maxRecDepth 100000 in
theorem se_21 : (all2 fun m => atH (fromH seT2e [] fSearch 2 (seP2 m)) fSearch 1 [.int 0 (sI 0), .int 1 (sI 1), .int 20 (sI 20), .lst 0 0, .lst 90 90, .lst 30 30, .lst 38 38, .lst 31 31] [0, 1, 2, 3, 4] (seP1' m)) = true := by kernel_rfl
set_option maxRecDepth 100000 in
theorem se_out : endQ { LL := seLL } fSearch (fromH { LL := seLL } [] fSearch 1 (seP1' false)) [.lst 38 38, .lst 31 31] [4] (.slN 0 38 2) [some (.lst 31 140 true)] = true := by kernel_rfl
end Go.Proofs.Z

namespace Go.Proofs.Z
open Go Go.RowKit Go.Proofs Go.Ri
/-! A list of our own that was changed goes on as an argument: by its block's list, of the same length. -/
noncomputable def reSl (i j : Nat) (r : RV) : RV := match r with
  | .slN b i' s => match Nat.beq i' i with | true => .slN b j s | false => .slN b i' s
  | r => r
noncomputable def lenU (i j : Nat) (U : CallF) : CallF := fun f args h => U f (args.map (reSl i j)) h
theorem lenU_ok [Val] {i j : Nat} {U : CallF} (hl : (Val.L j).length = (Val.L i).length) (hU : UOK U) : UOK (lenU i j U) := by
  intro f args h r h' hu base w0 E w vs H ha
  refine hU f _ h r h' hu base w0 E w vs H ?_
  clear hu
  induction ha with
  | nil => exact .nil
  | cons h1 _ ih =>
    refine .cons ?_ ih
    unfold reSl
    split
    · split
      · rename_i b i' s _ hi
        obtain rfl := Nat.eq_of_beq_eq_true hi
        obtain ⟨p, n, hp, hs, hn, hk, rfl⟩ := h1
        exact ⟨p, n, hp, hs, by rw [hl]; exact hn, hk, rfl⟩
      · exact h1
    · exact h1
/-! The specification's flow: first runs. 30 the use of the gates, 31 the steps, 17 how many lanes, 8 the grazing. -/
abbrev fFlow : Nat := 103
def flD : List RV := [.agg [sI 0, .slN 0 0 4], sI 20, sI 21, .slN 0 90 1]
def flLL : List LNE := [⟨0, 4, sI 1⟩, ⟨90, 1, sI 1⟩, ⟨30, 1, sI 1⟩, ⟨39, 1, sI 1⟩, ⟨31, 2, sI 0⟩]
noncomputable def flE : Tb := { LL := flLL, LM := [⟨1, .pl (.int .i64 0), 30⟩] }
noncomputable def flH : RH := [some (.lstA 0), some (.lstA 90), some (.cells [sI 0, .slA 0 0 4] 24 false false), some (.lst 30 3 true)]
noncomputable def flP0 : St := ⟨patW [(1, sI 20), (2, sI 21), (3, .slA 1 90 1), (4, .ptr 2 0), (9, .slN 3 39 1), (10, sI 17)] 72 0, flH⟩
def flS : List SE := [.int 0 (sI 0), .int 1 (sI 1), .int 20 (sI 20), .int 21 (sI 21), .lst 0 0, .lst 90 90]
set_option maxRecDepth 100000 in
theorem fl_enter : atH (entN flE [] fFlow flD) fFlow 0 (.int 17 (lI 0) :: .lst 39 30 :: .lst 30 30 :: flS) [0, 1, 2, 3] flP0 = true := by kernel_rfl
noncomputable def flSe : List QE := [⟨fSearch, seD, .slN 0 31 2, [some (.lst 31 140 true)]⟩]
/-- Whether b is reached. -/
noncomputable def flT0 (p : Bool) : Tb := { T := [⟨.inb, sI 21, sI 0, .pl (.bool true)⟩, ⟨.bin .lss, sI 73, lI 0, .pl (.bool (!p))⟩], LL := flLL, LX := [⟨31, 21, [sI 72, sI 73]⟩], U := lenU 39 30 (qnU flSe) }
noncomputable def flH1 : RH := flH ++ [some (.lst 31 140 true)]
noncomputable def flP1 : St := ⟨patW [(1, sI 20), (2, sI 21), (3, .slA 1 90 1), (4, .ptr 2 0), (9, .slN 3 39 1), (10, sI 17), (11, .slN 4 31 2), (12, sI 8)] 72 0, flH1⟩
def flS1 (x : RV) (j : Nat) : List SE := [.int 8 x, .int 17 (sI 17), .lst 39 39, .lst 30 j, .lst 31 31] ++ flS
set_option maxRecDepth 100000 in
theorem fl_01 : atH (fromH (flT0 true) [] fFlow 0 flP0) fFlow 1 (flS1 (sI 21) 30) [0, 1, 2, 3, 4] flP1 = true := by kernel_rfl
set_option maxRecDepth 100000 in
theorem fl_out : endF (flT0 false) fFlow (fromH (flT0 false) [] fFlow 0 flP0) (sI 17) = true := by kernel_rfl
/-- One gate back: p, whether it leads from its A. -/
noncomputable def flT1 (p : Bool) : Tb := { T := [⟨.ieq, sI 8, sI 20, .pl (.bool false)⟩, ⟨.inb, sI 8, sI 0, .pl (.bool true)⟩, ⟨.inb, sI 70, sI 1, .pl (.bool true)⟩, ⟨.ieq, sI 3, sI 71, .pl (.bool p)⟩, if p then ⟨.bin .add, sI 15, lI 1, sI 16⟩ else ⟨.bin .sub, sI 15, lI 1, sI 16⟩], LL := flLL, LX := [⟨31, 8, [sI 70, sI 71]⟩, ⟨0, 70, [sI 3, sI 4, sI 5, sI 6]⟩, ⟨30, 70, [sI 15]⟩], LW := [⟨30, 70, sI 16, 40⟩] }
set_option maxRecDepth 100000 in
theorem fl_11 : (all2 fun p => atH (fromH (flT1 p) [] fFlow 1 flP1) fFlow 1 (flS1 (sI 71) 40) [0, 1, 2, 3, 4] flP1) = true := by kernel_rfl
noncomputable def flT1e : Tb := { T := [⟨.ieq, sI 8, sI 20, .pl (.bool true)⟩, ⟨.bin .add, sI 17, lI 1, sI 18⟩], LL := flLL }
set_option maxRecDepth 100000 in
theorem fl_10 : atH (fromH flT1e [] fFlow 1 flP1) fFlow 0 (.int 17 (sI 18) :: .lst 39 39 :: .lst 30 30 :: flS) [0, 1, 2, 3] flP0 = true := by kernel_rfl
end Go.Proofs.Z

namespace Go.Proofs.Z
/-! The specification's search: a model, and what it comes to. -/
section
variable (A B : Nat → Nat) (n : Nat) (e : Nat → Bool) (u : Nat → Int) (a : Nat)
def rch (s : Nat → Int × Int) (x : Nat) : Bool := decide (0 ≤ (s x).2)
def updS (s : Nat → Int × Int) (y : Nat) (v : Int × Int) : Nat → Int × Int := fun x => if x = y then v else s x
def psA (s : Nat → Int × Int) (i : Nat) : Bool := e i && !(u i == 1) && rch s (A i) && !rch s (B i)
def psB (s : Nat → Int × Int) (i : Nat) : Bool := e i && !(u i == -1) && rch s (B i) && !rch s (A i)
def stp (s : Nat → Int × Int) (i : Nat) : Nat → Int × Int := if psA A B e u s i then updS s (B i) ((i : Int), (A i : Int)) else if psB A B e u s i then updS s (A i) ((i : Int), (B i : Int)) else s
def row (s : Nat → Int × Int) : Nat → Nat → Int × Int
  | 0 => s
  | i + 1 => stp A B e u (row s i) i
def chg (s : Nat → Int × Int) : Nat → Bool
  | 0 => false
  | i + 1 => chg s i || (psA A B e u (row A B e u s i) i || psB A B e u (row A B e u s i) i)
def st0 (x : Nat) : Int × Int := if x = a then (-1, (a : Int)) else (-1, -1)
def rws : Nat → Nat → Int × Int
  | 0 => st0 a
  | k + 1 => row A B e u (rws k) n
structure SI (s : Nat → Int × Int) (r : Nat → Nat) : Prop where
  aa : (s a).2 = (a : Int)
  lt : ∀ y, rch s y = true → y < 16
  st : ∀ y, rch s y = true → y ≠ a → ∃ i : Nat, i < n ∧ (s y).1 = (i : Int) ∧ e i = true ∧ wayF A B i y ≠ 0 ∧ u i ≠ wayF A B i (othF A B i y) ∧ (s y).2 = (othF A B i y : Int) ∧ rch s (othF A B i y) = true ∧ r (othF A B i y) < r y
  rk : ∀ y, rch s y = true → r y < cnt (rch s) 16
end
section
variable {A B : Nat → Nat} {n : Nat} {e : Nat → Bool} {u : Nat → Int} {a : Nat}
theorem rch_upd (s : Nat → Int × Int) (y : Nat) (v : Int × Int) (hv : 0 ≤ v.2) (x : Nat) : rch (updS s y v) x = (decide (x = y) || rch s x) := by
  unfold rch updS
  by_cases h : x = y
  · rw [if_pos h, decide_eq_true hv, decide_eq_true h]
    rfl
  · rw [if_neg h, decide_eq_false h]
    rfl
/-- One more is reached. -/
theorem si_push {s : Nat → Int × Int} {r : Nat → Nat} {i x y : Nat} (h : SI A B n e u a s r) (hi : i < n) (he : e i = true) (hx : rch s x = true) (hy : rch s y = false) (hy16 : y < 16) (hw : wayF A B i y ≠ 0) (ho : othF A B i y = x) (hu : u i ≠ wayF A B i x) : ∃ r', SI A B n e u a (updS s y ((i : Int), (x : Int))) r' ∧ cnt (rch s) 16 < cnt (rch (updS s y ((i : Int), (x : Int)))) 16 := by
  have hr : ∀ z, rch (updS s y ((i : Int), (x : Int))) z = (decide (z = y) || rch s z) := rch_upd s y _ (by show 0 ≤ (x : Int); omega)
  have hc : cnt (rch s) 16 < cnt (rch (updS s y ((i : Int), (x : Int)))) 16 := cnt_lt (fun z hz => by rw [hr, hz, Bool.or_true]) hy (by rw [hr, decide_eq_true rfl]; rfl) 16 hy16
  have hay : a ≠ y := fun e => by
    have : rch s a = true := by
      unfold rch
      rw [h.aa]
      exact decide_eq_true (by omega)
    rw [e, hy] at this
    cases this
  have hne : ∀ z, rch s z = true → z ≠ y := fun z hz e => by
    rw [e, hy] at hz
    cases hz
  refine ⟨fun z => if z = y then cnt (rch s) 16 else r z, ⟨?_, fun z hz => ?_, fun z hz hza => ?_, fun z hz => ?_⟩, hc⟩
  · show (if a = y then _ else s a).2 = _
    rw [if_neg hay]
    exact h.aa
  · rw [hr] at hz
    rcases Bool.or_eq_true _ _ |>.mp hz with h1 | h1
    · rw [of_decide_eq_true h1]
      exact hy16
    · exact h.lt z h1
  · by_cases hzy : z = y
    · subst hzy
      refine ⟨i, hi, ?_, he, hw, by rw [ho]; exact hu, ?_, by rw [ho, hr, hx, Bool.or_true], ?_⟩
      · show (if z = z then ((i : Int), (x : Int)) else s z).1 = _
        rw [if_pos rfl]
      · show (if z = z then ((i : Int), (x : Int)) else s z).2 = _
        rw [if_pos rfl, ho]
      · show (if othF A B i z = z then _ else r (othF A B i z)) < (if z = z then _ else _)
        rw [if_pos rfl, ho, if_neg (hne x hx)]
        exact h.rk x hx
    · rw [hr, decide_eq_false hzy, Bool.false_or] at hz
      obtain ⟨j, j1, j2, j3, j4, j5, j6, j7, j8⟩ := h.st z hz hza
      have e1 : updS s y ((i : Int), (x : Int)) z = s z := if_neg hzy
      refine ⟨j, j1, by rw [e1]; exact j2, j3, j4, j5, by rw [e1]; exact j6, by rw [hr, j7, Bool.or_true], ?_⟩
      show (if othF A B j z = y then _ else r (othF A B j z)) < (if z = y then _ else r z)
      rw [if_neg hzy, if_neg (hne _ j7)]
      exact j8
  · show (if z = y then _ else r z) < _
    by_cases hzy : z = y
    · rw [if_pos hzy]
      exact hc
    · rw [if_neg hzy]
      rw [hr, decide_eq_false hzy, Bool.false_or] at hz
      exact Nat.lt_trans (h.rk z hz) hc
theorem way_A (i : Nat) : wayF A B i (A i) = 1 := if_pos rfl
theorem way_B {i : Nat} (h : A i ≠ B i) : wayF A B i (B i) = -1 := by
  unfold wayF
  rw [if_neg (Ne.symm h), if_pos rfl]
theorem oth_A (i : Nat) : othF A B i (A i) = B i := if_pos rfl
theorem oth_B {i : Nat} (h : A i ≠ B i) : othF A B i (B i) = A i := if_neg (Ne.symm h)
theorem si_stp {s : Nat → Int × Int} {r : Nat → Nat} {i : Nat} (hr : ∀ i, i < n → A i < 16 ∧ B i < 16) (hne : ∀ i, i < n → A i ≠ B i) (h : SI A B n e u a s r) (hi : i < n) :
    (∃ r', SI A B n e u a (stp A B e u s i) r') ∧ ((psA A B e u s i || psB A B e u s i) = true → cnt (rch s) 16 < cnt (rch (stp A B e u s i)) 16) ∧ ((psA A B e u s i || psB A B e u s i) = false → stp A B e u s i = s) := by
  unfold stp
  cases hA : psA A B e u s i with
  | true =>
    rw [if_pos rfl]
    have hA' := hA
    unfold psA at hA'
    simp only [Bool.and_eq_true, Bool.not_eq_true', beq_eq_false_iff_ne] at hA'
    obtain ⟨⟨⟨h1, h2⟩, h3⟩, h4⟩ := hA'
    obtain ⟨r', g1, g2⟩ := si_push (x := A i) (y := B i) h hi h1 h3 h4 (hr i hi).2 (by rw [way_B (hne i hi)]; decide) (oth_B (hne i hi)) (by rw [way_A]; exact h2)
    exact ⟨⟨r', g1⟩, fun _ => g2, fun h => by cases h⟩
  | false =>
    rw [if_neg (by decide)]
    cases hB : psB A B e u s i with
    | true =>
      rw [if_pos rfl]
      have hB' := hB
      unfold psB at hB'
      simp only [Bool.and_eq_true, Bool.not_eq_true', beq_eq_false_iff_ne] at hB'
      obtain ⟨⟨⟨h1, h2⟩, h3⟩, h4⟩ := hB'
      obtain ⟨r', g1, g2⟩ := si_push (x := B i) (y := A i) h hi h1 h3 h4 (hr i hi).1 (by rw [way_A]; decide) (oth_A i) (by rw [way_B (hne i hi)]; exact h2)
      exact ⟨⟨r', g1⟩, fun _ => g2, fun h => by cases h⟩
    | false =>
      rw [if_neg (by decide)]
      exact ⟨⟨r, h⟩, (fun h => by cases h), fun _ => rfl⟩
theorem si_row {s : Nat → Int × Int} (hr : ∀ i, i < n → A i < 16 ∧ B i < 16) (hne : ∀ i, i < n → A i ≠ B i) (h : ∃ r, SI A B n e u a s r) : ∀ i, i ≤ n →
    (∃ r', SI A B n e u a (row A B e u s i) r') ∧ (chg A B e u s i = true → cnt (rch s) 16 < cnt (rch (row A B e u s i)) 16) ∧ (chg A B e u s i = false → row A B e u s i = s ∧ ∀ j, j < i → psA A B e u s j = false ∧ psB A B e u s j = false)
  | 0, _ => ⟨h, (fun h => by cases h), fun _ => ⟨rfl, fun j hj => absurd hj (Nat.not_lt_zero _)⟩⟩
  | i + 1, hi => by
    obtain ⟨⟨r1, g1⟩, g2, g3⟩ := si_row hr hne h i (by omega)
    obtain ⟨k1, k2, k3⟩ := si_stp hr hne g1 (show i < n by omega)
    refine ⟨k1, fun hc => ?_, fun hc => ?_⟩
    · have hc : (chg A B e u s i || (psA A B e u (row A B e u s i) i || psB A B e u (row A B e u s i) i)) = true := hc
      show _ < cnt (rch (stp A B e u (row A B e u s i) i)) 16
      cases hp : (psA A B e u (row A B e u s i) i || psB A B e u (row A B e u s i) i) with
      | true =>
        have := k2 hp
        cases hq : chg A B e u s i with
        | true => exact Nat.lt_trans (g2 hq) this
        | false =>
          rw [(g3 hq).1] at this
          rw [(g3 hq).1]
          exact this
      | false =>
        rw [hp, Bool.or_false] at hc
        rw [k3 hp]
        exact g2 hc
    · have hc : (chg A B e u s i || (psA A B e u (row A B e u s i) i || psB A B e u (row A B e u s i) i)) = false := hc
      rw [Bool.or_eq_false_iff] at hc
      obtain ⟨q1, q2⟩ := g3 hc.1
      have e1 : row A B e u s (i + 1) = s := (k3 hc.2).trans q1
      refine ⟨e1, fun j hj => ?_⟩
      rcases Nat.lt_or_eq_of_le (Nat.le_of_lt_succ hj) with h | rfl
      · exact q2 j h
      · have := hc.2
        rw [q1, Bool.or_eq_false_iff] at this
        exact this
theorem si_start (ha : a < 16) : SI A B n e u a (st0 a) (fun _ => 0) := by
  have hr : ∀ y, rch (st0 a) y = true → y = a := fun y hy => by
    unfold rch st0 at hy
    split at hy
    · assumption
    · exact absurd (of_decide_eq_true hy) (by decide)
  refine ⟨?_, fun y hy => by rw [hr y hy]; exact ha, fun y hy h => absurd (hr y hy) h, fun y hy => ?_⟩
  · unfold st0
    rw [if_pos rfl]
  · have : cnt (fun _ => false) 16 < cnt (rch (st0 a)) 16 := cnt_lt (fun z hz => by cases hz) (i := y) rfl hy 16 (by rw [hr y hy]; exact ha)
    omega
theorem si_rws (hr : ∀ i, i < n → A i < 16 ∧ B i < 16) (hne : ∀ i, i < n → A i ≠ B i) (ha : a < 16) : ∀ k, ∃ r, SI A B n e u a (rws A B n e u a k) r
  | 0 => ⟨_, si_start ha⟩
  | k + 1 => (si_row hr hne (si_rws hr hne ha k) n (Nat.le_refl _)).1
theorem rws_same (hr : ∀ i, i < n → A i < 16 ∧ B i < 16) (hne : ∀ i, i < n → A i ≠ B i) (ha : a < 16) {k : Nat} (h : chg A B e u (rws A B n e u a k) n = false) : ∀ j, rws A B n e u a (k + j) = rws A B n e u a k
  | 0 => rfl
  | j + 1 => by
    show row A B e u (rws A B n e u a (k + j)) n = _
    rw [rws_same hr hne ha h j]
    exact ((si_row hr hne (si_rws hr hne ha k) n (Nat.le_refl _)).2.2 h).1
/-- What search answers. -/
def srS (A B : Nat → Nat) (n : Nat) (e : Nat → Bool) (u : Nat → Int) (a : Nat) : Nat → Int × Int := rws A B n e u a 17
theorem srS_eq (hr : ∀ i, i < n → A i < 16 ∧ B i < 16) (hne : ∀ i, i < n → A i ≠ B i) (ha : a < 16) {k : Nat} (hk : k ≤ 17) (h : chg A B e u (rws A B n e u a k) n = false) : srS A B n e u a = rws A B n e u a k := by
  have := rws_same hr hne ha h (17 - k)
  rw [show k + (17 - k) = 17 by omega] at this
  exact this
/-- Every row that is not the last one reaches more. -/
theorem rws_stop (hr : ∀ i, i < n → A i < 16 ∧ B i < 16) (hne : ∀ i, i < n → A i ≠ B i) (ha : a < 16) : ∃ k, k ≤ 16 ∧ chg A B e u (rws A B n e u a k) n = false := by
  have key : ∀ m, (∃ k, k ≤ m ∧ chg A B e u (rws A B n e u a k) n = false) ∨ m + 1 ≤ cnt (rch (rws A B n e u a (m + 1))) 16 := fun m => by
    induction m with
    | zero =>
      cases h : chg A B e u (rws A B n e u a 0) n with
      | false => exact .inl ⟨0, Nat.le_refl _, h⟩
      | true =>
        have := (si_row hr hne (si_rws hr hne ha 0) n (Nat.le_refl _)).2.1 h
        exact .inr (by
          show 1 ≤ cnt (rch (row A B e u (rws A B n e u a 0) n)) 16
          omega)
    | succ m ih =>
      rcases ih with ⟨k, hk, h⟩ | ih
      · exact .inl ⟨k, by omega, h⟩
      · cases h : chg A B e u (rws A B n e u a (m + 1)) n with
        | false => exact .inl ⟨m + 1, Nat.le_refl _, h⟩
        | true =>
          have := (si_row hr hne (si_rws hr hne ha (m + 1)) n (Nat.le_refl _)).2.1 h
          exact .inr (by
            show m + 1 + 1 ≤ cnt (rch (row A B e u (rws A B n e u a (m + 1)) n)) 16
            omega)
  rcases key 16 with h | h
  · exact h
  · have := cnt_le (rch (rws A B n e u a (16 + 1))) 16
    omega
/-- The answer is a tree, and closed. -/
theorem srS_spec (hr : ∀ i, i < n → A i < 16 ∧ B i < 16) (hne : ∀ i, i < n → A i ≠ B i) (ha : a < 16) : (∃ r, SI A B n e u a (srS A B n e u a) r) ∧ ∀ i x, i < n → e i = true → rch (srS A B n e u a) x = true → wayF A B i x ≠ 0 → u i ≠ wayF A B i x → rch (srS A B n e u a) (othF A B i x) = true := by
  obtain ⟨k, hk, h⟩ := rws_stop (e := e) (u := u) hr hne ha
  refine ⟨si_rws hr hne ha 17, fun i x hi he hx hw hu => ?_⟩
  have e1 := srS_eq (e := e) (u := u) hr hne ha (show k ≤ 17 by omega) h
  rw [e1] at hx ⊢
  obtain ⟨g1, g2⟩ := ((si_row hr hne (si_rws hr hne ha k) n (Nat.le_refl _)).2.2 h).2 i hi
  by_cases hA : x = A i
  · subst hA
    rw [way_A] at hu
    rw [oth_A]
    cases hq : rch (rws A B n e u a k) (B i) with
    | true => rfl
    | false =>
      exfalso
      unfold psA at g1
      rw [he, hx, hq, show (u i == 1) = false by simp [hu]] at g1
      cases g1
  · have hB : x = B i := by
      unfold wayF at hw
      rw [if_neg hA] at hw
      by_cases h : x = B i
      · exact h
      · rw [if_neg h] at hw
        exact absurd rfl hw
    subst hB
    rw [way_B (hne i hi)] at hu
    rw [oth_B (hne i hi)]
    cases hq : rch (rws A B n e u a k) (A i) with
    | true => rfl
    | false =>
      exfalso
      unfold psB at g2
      rw [he, hx, hq, show (u i == -1) = false by simp [hu]] at g2
      cases g2
theorem srS_tree {s : Nat → Int × Int} {r : Nat → Nat} (h : SI A B n e u a s r) : Tree A B n e a u (rch s) (fun y => (s y).1.toNat) r := by
  refine ⟨fun y hy hya => ?_, fun y hy hya => ?_⟩
  · obtain ⟨i, j1, j2, j3, j4, j5, j6, j7, j8⟩ := h.st y hy hya
    have : (s y).1.toNat = i := by omega
    rw [this]
    exact ⟨j1, j3, j4, j5⟩
  · obtain ⟨i, j1, j2, j3, j4, j5, j6, j7, j8⟩ := h.st y hy hya
    have : (s y).1.toNat = i := by omega
    rw [this]
    exact ⟨j7, j8⟩
end
end Go.Proofs.Z
