/- A part of the proofs that the laws of layer one answer true for every input. -/
import Derived.Test.YtedbdpaioikhgaaGreatDoorZChk3
namespace Go.Proofs.Z
open Go Go.RowKit Go.Proofs Go.Ri
noncomputable def all2 (f : Bool → Bool) : Bool := match f true with
  | true => f false
  | false => false
theorem all2_all {f : Bool → Bool} (h : all2 f = true) (b : Bool) : f b = true := by
  unfold all2 at h
  split at h
  · cases b <;> assumption
  · cases h
noncomputable def cmRun (b c : Bool) : Bool := runOK noX [] [⟨fCheck, [earR 0], lI (if b then 0 else 10)⟩, ⟨fCheck, [earR 20], lI (if c then 0 else 10)⟩] 1000 10 fCheckMark [markR 0 20] (lI (if b && c then 0 else 10))
set_option maxRecDepth 100000 in
theorem cm_run : (all2 fun b => all2 fun c => cmRun b c) = true := by kernel_rfl
theorem cm_ans (x x' : Nat → Int) (y y' : Nat → Bool) : Ans fCheckMark [markF x y x' y'] (intV (if valB x && valB x' then 0 else 10)) :=
  @ans (VE (two 20 x x') (two 20 y y')) noX _ _ noX_true (by intro e he; cases he) (by
    intro e he
    simp only [List.mem_cons, List.not_mem_nil, or_false] at he
    rcases he with rfl | rfl
    · exact chk_ans x y
    · exact chk_ans x' y') _ _ _ _ _ (all2_all (all2_all cm_run (valB x)) (valB x'))
end Go.Proofs.Z

namespace Go.Proofs.Z
open Go Go.RowKit Go.Proofs Go.Ri
def cmpI (x y : Int) : Int := if x < y then -1 else if x > y then 1 else 0
/-- 0: less; 1: the same; 2: greater. -/
def scl (a b : Int) : Nat := if a < b then 0 else if a > b then 2 else 1
def sgn (c : Nat) : Int := if Nat.beq c 0 then -1 else if Nat.beq c 2 then 1 else 0
theorem sgn_scl (a b : Int) : sgn (scl a b) = cmpI a b := by
  unfold scl cmpI
  split
  · rfl
  · split <;> rfl
theorem scl_lt (a b : Int) : scl a b < 3 := by
  unfold scl
  split
  · omega
  · split <;> omega
def entS (i j c : Nat) : List TE := [⟨.bin .lss, sI i, sI j, bR (Nat.beq c 0)⟩, ⟨.bin .gtr, sI i, sI j, bR (Nat.beq c 2)⟩]
theorem entS_true [Val] (i j : Nat) : ∀ e ∈ entS i j (scl (Val.I i) (Val.I j)), TETrue e := by
  intro e he
  have h0 : Nat.beq (scl (Val.I i) (Val.I j)) 0 = decide (Val.I i < Val.I j) := by
    unfold scl
    by_cases h : Val.I i < Val.I j
    · rw [if_pos h, decide_eq_true h]; rfl
    · rw [if_neg h, decide_eq_false h]
      split <;> rfl
  have h2 : Nat.beq (scl (Val.I i) (Val.I j)) 2 = decide (Val.I i > Val.I j) := by
    unfold scl
    by_cases h : Val.I i < Val.I j
    · rw [if_pos h, decide_eq_false (by omega)]; rfl
    · rw [if_neg h]
      by_cases h3 : Val.I i > Val.I j
      · rw [if_pos h3, decide_eq_true h3]; rfl
      · rw [if_neg h3, decide_eq_false h3]; rfl
  simp only [entS, List.mem_cons, List.not_mem_nil, or_false] at he
  rcases he with rfl | rfl
  · exact ⟨rfl, by rw [h0]; exact t_lss .i64 (Val.I i) (Val.I j)⟩
  · exact ⟨rfl, by rw [h2]; exact t_gtr .i64 (Val.I i) (Val.I j)⟩
noncomputable def all3 (f : Nat → Bool) : Bool := match f 0 with
  | true => match f 1 with
    | true => f 2
    | false => false
  | false => false
theorem all3_lt {f : Nat → Bool} (h : all3 f = true) (c : Nat) (hc : c < 3) : f c = true := by
  unfold all3 at h
  split at h
  · split at h
    · match c, hc with
      | 0, _ => assumption
      | 1, _ => assumption
      | 2, _ => exact h
    · cases h
  · cases h
noncomputable def cmp0Run (f c : Nat) : Bool := runOK noX (entS 0 1 c) [] 1000 10 f [sI 0, sI 1] (lI (sgn c))
set_option maxRecDepth 100000 in
theorem cmp0_run : (all3 (cmp0Run fCmp)) = true := by kernel_rfl
theorem cmp0_ans (a b : Int) : Ans fCmp [intV a, intV b] (intV (cmpI a b)) := by
  have := @ans (VE (fun i => if i = 0 then a else b) fun _ => false) noX _ [] noX_true (@entS_true (VE (fun i => if i = 0 then a else b) fun _ => false) 0 1) (by intro e he; cases he) _ _ _ _ _ (all3_lt cmp0_run (scl a b) (scl_lt a b))
  rw [show (lI (sgn (scl a b))) = lI (cmpI a b) by rw [sgn_scl]] at this
  exact this
def bit (b : Bool) : Int := if b then 1 else 0
def hc (y : Nat → Bool) : Int := 4 * bit (y 0) + 2 * bit (y 1) + bit (y 2)
noncomputable def hcRun (a b c : Bool) : Bool := runOK noX [] [] 1000 10 fHolesCode [.agg [bR a, bR b, bR c]] (lI (4 * bit a + 2 * bit b + bit c))
set_option maxRecDepth 100000 in
theorem hc_run : (all2 fun a => all2 fun b => all2 fun c => hcRun a b c) = true := by kernel_rfl
def holesF (y : Nat → Bool) : Value := .agg #[.bool (y 0), .bool (y 1), .bool (y 2)]
theorem hc_ans (y : Nat → Bool) : Ans fHolesCode [holesF y] (intV (hc y)) :=
  @ans V0 noX _ [] noX_true (by intro e he; cases he) (by intro e he; cases he) _ _ _ _ _ (all2_all (all2_all (all2_all hc_run (y 0)) (y 1)) (y 2))
/-- The twelve values of an ear, as whole numbers. -/
def k12 (x : Nat → Int) (y : Nat → Bool) : Nat → Int := fun i => if i < 9 then x i else bit (y (i - 9))
def yC (f n m c : Nat) : List YE := (List.range (Nat.min (m + 1) n)).map fun j => ⟨f, [sI j, sI (20 + j)], lI (if Nat.blt j m then 0 else sgn c)⟩
def holesR (k : Nat) : RV := .agg [sB k, sB (k + 1), sB (k + 2)]
noncomputable def cmpRun (m c : Nat) : Bool := match Nat.beq m 9 with
  | false => runOK noX (eqs 0 20 9 m) (yC fCmp 9 m c) 1000 20 fCompare [earR 0, earR 20] (lI (sgn c))
  | true => runOK noX (eqs 0 20 9 m) (yC fCmp 9 m c ++ [⟨fHolesCode, [holesR 0], sI 50⟩, ⟨fHolesCode, [holesR 20], sI 51⟩, ⟨fCmp, [sI 50, sI 51], sI 52⟩]) 1000 20 fCompare [earR 0, earR 20] (sI 52)
end Go.Proofs.Z

namespace Go.Proofs.Z
open Go Go.RowKit Go.Proofs Go.Ri
noncomputable def allN (f : Nat → Bool) (n : Nat) : Bool := Nat.rec (motive := fun _ => Bool) true (fun k ih => match f k with | true => ih | false => false) n
theorem allN_lt {f : Nat → Bool} : ∀ {n : Nat}, allN f n = true → ∀ c, c < n → f c = true
  | n + 1, h, c, hc => by
    have h : (match f n with | true => allN f n | false => false) = true := h
    split at h
    · rename_i hn
      rcases Nat.lt_succ_iff_lt_or_eq.1 hc with h1 | rfl
      · exact allN_lt h c h1
      · exact hn
    · cases h
def c02 (b : Bool) : Nat := if b then 0 else 2
set_option maxRecDepth 100000 in
theorem cmp_run : (allN (fun m => all2 fun b => cmpRun m (c02 b)) 10) = true := by kernel_rfl
theorem fd_congr {p q : Nat → Bool} : ∀ (n i : Nat), (∀ j, i ≤ j → j < i + n → p j = q j) → fd p i n = fd q i n
  | 0, _, _ => rfl
  | n + 1, i, h => by
    show (if p i then fd p (i + 1) n else i) = (if q i then fd q (i + 1) n else i)
    rw [h i (Nat.le_refl _) (by omega), fd_congr n (i + 1) fun j h1 h2 => h j (by omega) (by omega)]
theorem fd_add (p : Nat → Bool) : ∀ (n i m : Nat), fd p i (n + m) = if fd p i n = i + n then fd p (i + n) m else fd p i n
  | 0, i, m => by
    have e : fd p i 0 = i := rfl
    simp only [e, Nat.add_zero, Nat.zero_add, if_true]
  | n + 1, i, m => by
    rw [show n + 1 + m = (n + m) + 1 by omega]
    show (if p i then fd p (i + 1) (n + m) else i) = if (if p i then fd p (i + 1) n else i) = i + (n + 1) then fd p (i + (n + 1)) m else (if p i then fd p (i + 1) n else i)
    by_cases hp : p i = true
    · simp only [if_pos hp]
      rw [fd_add p n (i + 1) m, show i + 1 + n = i + (n + 1) by omega]
    · simp only [if_neg hp]
      rw [if_neg (by omega)]
def eqP (x x' : Nat → Int) : Nat → Bool := fun j => x j == x' j
/-- The order of two ears. -/
def cmpE (x : Nat → Int) (y : Nat → Bool) (x' : Nat → Int) (y' : Nat → Bool) : Int :=
  if fd (eqP x x') 0 9 = 9 then cmpI (hc y) (hc y') else cmpI (x (fd (eqP x x') 0 9)) (x' (fd (eqP x x') 0 9))
theorem cmpI_self (a : Int) : cmpI a a = 0 := by unfold cmpI; rw [if_neg (by omega), if_neg (by omega)]
theorem c02_of {a b : Int} (h : a ≠ b) : sgn (c02 (decide (a < b))) = cmpI a b := by
  unfold cmpI
  by_cases h1 : a < b
  · rw [decide_eq_true h1, if_pos h1]; rfl
  · rw [decide_eq_false h1, if_neg h1, if_pos (by omega)]; rfl
theorem yC_true [Val] (f n : Nat) (hf : ∀ a b, Ans f [intV a, intV b] (intV (cmpI a b))) (m : Nat) (b : Bool) (hm : fd (fun j => Val.I (0 + j) == Val.I (20 + j)) 0 n = m) (hs : m < n → Val.I m ≠ Val.I (20 + m) → sgn (c02 b) = cmpI (Val.I m) (Val.I (20 + m))) :
    ∀ e ∈ yC f n m (c02 b), Ans e.f (e.a.map cvF) (cvF e.r) := by
  intro e he
  obtain ⟨j, hj, rfl⟩ := List.mem_map.1 he
  obtain ⟨h1, h2, h3, h4⟩ := fd_spec (fun j => Val.I (0 + j) == Val.I (20 + j)) n 0
  rw [hm] at h1 h2 h3 h4
  have hj := List.mem_range.1 hj
  have hj1 : j < m + 1 := Nat.lt_of_lt_of_le hj (Nat.min_le_left _ _)
  have hj2 : j < n := Nat.lt_of_lt_of_le hj (Nat.min_le_right _ _)
  have key : (if Nat.blt j m then (0 : Int) else sgn (c02 b)) = cmpI (Val.I j) (Val.I (20 + j)) := by
    by_cases hlt : j < m
    · have hb : Nat.blt j m = true := Nat.ble_eq_true_of_le hlt
      have := h1 j (Nat.zero_le _) hlt
      rw [hb, if_pos rfl]
      have e : Val.I j = Val.I (20 + j) := by simpa using this
      rw [e, cmpI_self]
    · obtain rfl : j = m := by omega
      rw [blt_self, if_neg (by simp)]
      refine hs hj2 fun e => ?_
      have := h2 (by omega)
      simp at this
      exact this e
  have := hf (Val.I j) (Val.I (20 + j))
  rw [← key] at this
  exact this
theorem cmp_ans (x x' : Nat → Int) (y y' : Nat → Bool) : Ans fCompare [earF x y, earF x' y'] (intV (cmpE x y x' y')) := by
  let X : Nat → Int := two 20 x (two 20 x' fun i => if i = 10 then hc y else if i = 11 then hc y' else cmpI (hc y) (hc y'))
  let Y : Nat → Bool := two 20 y y'
  let V := VE X Y
  have hp : fd (fun j => V.I (0 + j) == V.I (20 + j)) 0 9 = fd (eqP x x') 0 9 := fd_congr 9 0 fun j _ hj => by
    show (X (0 + j) == X (20 + j)) = (x j == x' j)
    have e1 : X (0 + j) = x j := by show (if 0 + j < 20 then x (0 + j) else _) = _; rw [if_pos (by omega), Nat.zero_add]
    have e2 : X (20 + j) = x' j := by
      show (if 20 + j < 20 then _ else (if 20 + j - 20 < 20 then x' (20 + j - 20) else _)) = _
      rw [if_neg (by omega), if_pos (by omega), show 20 + j - 20 = j by omega]
    rw [e1, e2]
  have hle := (fd_spec (eqP x x') 9 0).2.2.2
  have hT := @eqs_true V 0 20 9
  rw [hp] at hT
  unfold cmpE
  by_cases h9 : fd (eqP x x') 0 9 = 9
  · rw [if_pos h9]
    have hr := all2_all (allN_lt cmp_run 9 (by omega)) true
    unfold cmpRun at hr
    rw [show Nat.beq 9 9 = true from rfl] at hr
    rw [h9] at hT
    have hY := @yC_true V fCmp 9 cmp0_ans 9 true (hp.trans h9) fun h => absurd h (by omega)
    have e50 : X 50 = hc y := by simp [X, two]
    have e51 : X 51 = hc y' := by simp [X, two]
    have e52 : X 52 = cmpI (hc y) (hc y') := by simp [X, two]
    have a50 : Ans fHolesCode [holesF y] (intV (X 50)) := by rw [e50]; exact hc_ans y
    have a51 : Ans fHolesCode [holesF y'] (intV (X 51)) := by rw [e51]; exact hc_ans y'
    have a52 : Ans fCmp [intV (X 50), intV (X 51)] (intV (X 52)) := by rw [e50, e51, e52]; exact cmp0_ans _ _
    have hY2 : ∀ e ∈ yC fCmp 9 9 (c02 true) ++ [⟨fHolesCode, [holesR 0], sI 50⟩, ⟨fHolesCode, [holesR 20], sI 51⟩, ⟨fCmp, [sI 50, sI 51], sI 52⟩], Ans e.f (e.a.map (@cvF V)) (@cvF V e.r) := by
      intro e he
      simp only [List.mem_append, List.mem_cons, List.not_mem_nil, or_false] at he
      rcases he with he | rfl | rfl | rfl
      · exact hY e he
      · exact a50
      · exact a51
      · exact a52
    have t : Ans fCompare [earF x y, earF x' y'] (intV (X 52)) := @ans V noX _ _ noX_true hT hY2 _ _ _ _ _ hr
    rw [e52] at t
    exact t
  · rw [if_neg h9]
    have hd := (fd_spec (eqP x x') 9 0).2.1
    generalize hm : fd (eqP x x') 0 9 = m at *
    have hm9 : m < 9 := by omega
    have hne : x m ≠ x' m := by
      have := hd (by omega)
      simpa [eqP] using this
    have hr := all2_all (allN_lt cmp_run m (by omega)) (decide (x m < x' m))
    unfold cmpRun at hr
    rw [beq_ne (show m ≠ 9 by omega)] at hr
    have e1 : X m = x m := by show (if m < 20 then x m else _) = _; rw [if_pos (by omega)]
    have e2 : X (20 + m) = x' m := by
      show (if 20 + m < 20 then _ else (if 20 + m - 20 < 20 then x' (20 + m - 20) else _)) = _
      rw [if_neg (by omega), if_pos (by omega), show 20 + m - 20 = m by omega]
    have hsg : sgn (c02 (decide (x m < x' m))) = cmpI (X m) (X (20 + m)) := by rw [e1, e2]; exact c02_of hne
    have hY := @yC_true V fCmp 9 cmp0_ans m (decide (x m < x' m)) hp fun _ _ => hsg
    have t : Ans fCompare [earF x y, earF x' y'] (intV (sgn (c02 (decide (x m < x' m))))) := @ans V noX _ _ noX_true hT hY _ _ _ _ _ hr
    rw [c02_of hne] at t
    exact t
end Go.Proofs.Z

namespace Go.Proofs.Z
open Go Go.RowKit Go.Proofs Go.Ri
def four {α : Type} (x x' z z' r : Nat → α) : Nat → α := two 20 x (two 20 x' (two 20 z (two 20 z' r)))
noncomputable def cmkRun (f g c : Nat) : Bool := runOK noX [] [⟨g, [earR 0, earR 20], lI (sgn c)⟩, ⟨g, [earR 40, earR 60], sI 80⟩] 1000 20 f [markR 0 40, markR 20 60] (if Nat.beq c 1 then sI 80 else lI (sgn c))
set_option maxRecDepth 100000 in
theorem cmk_run : all3 (cmkRun fCompareMarks fCompare) = true := by kernel_rfl
def cmpM (x : Nat → Int) (y : Nat → Bool) (z : Nat → Int) (u : Nat → Bool) (x' : Nat → Int) (y' : Nat → Bool) (z' : Nat → Int) (u' : Nat → Bool) : Int :=
  if cmpE x y x' y' = 0 then cmpE z u z' u' else cmpE x y x' y'
theorem cmpE_sgn (x : Nat → Int) (y : Nat → Bool) (x' : Nat → Int) (y' : Nat → Bool) : ∃ c, c < 3 ∧ sgn c = cmpE x y x' y' := by
  unfold cmpE
  split
  · exact ⟨_, scl_lt _ _, sgn_scl _ _⟩
  · exact ⟨_, scl_lt _ _, sgn_scl _ _⟩
theorem marks_of (f g : Nat) (hg : ∀ x x' y y', Ans g [earF x y, earF x' y'] (intV (cmpE x y x' y'))) (hr : all3 (cmkRun f g) = true) (x z x' z' : Nat → Int) (y u y' u' : Nat → Bool) :
    Ans f [markF x y z u, markF x' y' z' u'] (intV (cmpM x y z u x' y' z' u')) := by
  obtain ⟨c, hc, hs⟩ := cmpE_sgn x y x' y'
  let V := VE (four x x' z z' fun _ => cmpE z u z' u') (four y y' u u' fun _ => false)
  have a1 : Ans g [earF x y, earF x' y'] (intV (sgn c)) := by rw [hs]; exact hg x x' y y'
  have a2 := hg z z' u u'
  have t := @ans V noX _ _ noX_true (by intro e he; cases he) (by
    intro e he
    simp only [List.mem_cons, List.not_mem_nil, or_false] at he
    rcases he with rfl | rfl
    · exact a1
    · exact a2) _ _ _ _ _ (all3_lt hr c hc)
  unfold cmpM
  match c, hc with
  | 0, _ => rw [← hs, if_neg (by decide)]; exact t
  | 1, _ => rw [← hs, if_pos (by decide)]; exact t
  | 2, _ => rw [← hs, if_neg (by decide)]; exact t
theorem cmk_ans (x z x' z' : Nat → Int) (y u y' u' : Nat → Bool) : Ans fCompareMarks [markF x y z u, markF x' y' z' u'] (intV (cmpM x y z u x' y' z' u')) := marks_of fCompareMarks fCompare (fun x x' y y' => cmp_ans x x' y y') cmk_run x z x' z' y u y' u'
def saneX : FuncId → List Value → Option Value := fun f vs => match vs with
  | [] => match Nat.beq f fSane with | true => some (.bool true) | false => none
  | _ => none
end Go.Proofs.Z

namespace Go.Proofs.Z
open Go Go.RowKit Go.Proofs Go.Ri
/-! Closed answers by the contracts. -/
def decE : List Value → Option ((Nat → Int) × (Nat → Bool))
  | [.int .i64 a0, .int .i64 a1, .int .i64 a2, .int .i64 a3, .int .i64 a4, .int .i64 a5, .int .i64 a6, .int .i64 a7, .int .i64 a8, .bool b0, .bool b1, .bool b2] =>
    some (fun i => match i with | 0 => a0 | 1 => a1 | 2 => a2 | 3 => a3 | 4 => a4 | 5 => a5 | 6 => a6 | 7 => a7 | _ => a8, fun i => match i with | 0 => b0 | 1 => b1 | _ => b2)
  | _ => none
theorem decE_some {l : List Value} {x : Nat → Int} {y : Nat → Bool} (h : decE l = some (x, y)) : .agg l.toArray = earF x y := by
  unfold decE at h
  split at h
  · cases h; rfl
  · cases h
noncomputable def chkHook (vs : List Value) : Option Value :=
  match vs with
  | [.agg a] => match decE a.toList with
    | some (x, _) => some (.int .i64 (if valB x then 0 else 10))
    | none => none
  | _ => none
noncomputable def cmpHook (vs : List Value) : Option Value :=
  match vs with
  | [.agg a, .agg b] => match decE a.toList, decE b.toList with
    | some (x, y), some (x', y') => some (.int .i64 (cmpE x y x' y'))
    | _, _ => none
  | _ => none
theorem chkHook_ok {vs : List Value} {v : Value} (h : chkHook vs = some v) : Ans fCheck vs v := by
  unfold chkHook at h
  split at h
  · rename_i a
    split at h
    · rename_i x y hk
      cases h
      have e := decE_some hk
      rw [show (Value.agg a.toList.toArray) = .agg a by simp] at e
      rw [e]
      exact chk_ans x y
    · cases h
  · cases h
theorem cmpHook_ok {vs : List Value} {v : Value} (h : cmpHook vs = some v) : Ans fCompare vs v := by
  unfold cmpHook at h
  split at h
  · rename_i a b
    split at h
    · rename_i x y x' y' hk hk'
      cases h
      have e := decE_some hk
      have e' := decE_some hk'
      rw [show (Value.agg a.toList.toArray) = .agg a by simp] at e
      rw [show (Value.agg b.toList.toArray) = .agg b by simp] at e'
      rw [e, e']
      exact cmp_ans x x' y y'
    · cases h
  · cases h
noncomputable def hookX : FuncId → List Value → Option Value := fun f vs => match Nat.beq f fCheck with
  | true => chkHook vs
  | false => match Nat.beq f fCompare with
    | true => cmpHook vs
    | false => none
theorem hookX_true : XTrue hookX := by
  intro f vs v h
  unfold hookX at h
  split at h
  · rename_i hf
    obtain rfl := Nat.eq_of_beq_eq_true hf
    exact chkHook_ok h
  · split at h
    · rename_i hf
      obtain rfl := Nat.eq_of_beq_eq_true hf
      exact cmpHook_ok h
    · cases h
theorem tab_ans {X : FuncId → List Value → Option Value} {T : List Ent} {m n : Nat} (h : tabOK Tryz.prog (cfg X [] []) m n T = true) (hX : XTrue X := by exact hookX_true) : ∀ e, e ∈ T → Ans e.f e.a e.r :=
  fun e he w hr => tab_true hm (cfg_ok X [] []) (@xok V0 X [] [] hX (by intro e he; cases he) (by intro e he; cases he)) h e he w hr
end Go.Proofs.Z
