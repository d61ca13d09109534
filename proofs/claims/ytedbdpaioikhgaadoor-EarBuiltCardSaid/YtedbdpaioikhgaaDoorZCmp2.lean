/- A part of the proofs that the laws of layer one answer true for every input. -/
import Derived.Test.YtedbdpaioikhgaaDoorZCmp
namespace Go.Proofs.Z
open Go Go.RowKit Go.Proofs Go.Ri
noncomputable def allN (f : Nat → Bool) (n : Nat) : Bool := Nat.rec (motive := fun _ => Bool) true (fun k ih => match f k with | true => ih | false => false) n
theorem allN_lt {f : Nat → Bool} : ∀ {n : Nat}, allN f n = true → ∀ c, c < n → f c = true
  | n + 1, h, c, hc => by
    have h : (match f n with | true => allN f n | false => false) = true := h
    split at h
    · rename_i hn
      rcases Nat.lt_succ_iff_lt_or_eq.1 hc with h1 | rfl
      · exact allN_lt h c h1
      · exact hn
    · cases h
def c02 (b : Bool) : Nat := if b then 0 else 2
set_option maxRecDepth 100000 in
theorem cmp_run : (allN (fun m => all2 fun b => cmpRun m (c02 b)) 10) = true := by kernel_rfl
theorem fd_congr {p q : Nat → Bool} : ∀ (n i : Nat), (∀ j, i ≤ j → j < i + n → p j = q j) → fd p i n = fd q i n
  | 0, _, _ => rfl
  | n + 1, i, h => by
    show (if p i then fd p (i + 1) n else i) = (if q i then fd q (i + 1) n else i)
    rw [h i (Nat.le_refl _) (by omega), fd_congr n (i + 1) fun j h1 h2 => h j (by omega) (by omega)]
theorem fd_add (p : Nat → Bool) : ∀ (n i m : Nat), fd p i (n + m) = if fd p i n = i + n then fd p (i + n) m else fd p i n
  | 0, i, m => by
    have e : fd p i 0 = i := rfl
    simp only [e, Nat.add_zero, Nat.zero_add, if_true]
  | n + 1, i, m => by
    rw [show n + 1 + m = (n + m) + 1 by omega]
    show (if p i then fd p (i + 1) (n + m) else i) = if (if p i then fd p (i + 1) n else i) = i + (n + 1) then fd p (i + (n + 1)) m else (if p i then fd p (i + 1) n else i)
    by_cases hp : p i = true
    · simp only [if_pos hp]
      rw [fd_add p n (i + 1) m, show i + 1 + n = i + (n + 1) by omega]
    · simp only [if_neg hp]
      rw [if_neg (by omega)]
def eqP (x x' : Nat → Int) : Nat → Bool := fun j => x j == x' j
/-- The order of two ears. -/
def cmpE (x : Nat → Int) (y : Nat → Bool) (x' : Nat → Int) (y' : Nat → Bool) : Int :=
  if fd (eqP x x') 0 9 = 9 then cmpI (hc y) (hc y') else cmpI (x (fd (eqP x x') 0 9)) (x' (fd (eqP x x') 0 9))
theorem cmpI_self (a : Int) : cmpI a a = 0 := by unfold cmpI; rw [if_neg (by omega), if_neg (by omega)]
theorem c02_of {a b : Int} (h : a ≠ b) : sgn (c02 (decide (a < b))) = cmpI a b := by
  unfold cmpI
  by_cases h1 : a < b
  · rw [decide_eq_true h1, if_pos h1]; rfl
  · rw [decide_eq_false h1, if_neg h1, if_pos (by omega)]; rfl
theorem yC_true [Val] (f n : Nat) (hf : ∀ a b, Ans f [intV a, intV b] (intV (cmpI a b))) (m : Nat) (b : Bool) (hm : fd (fun j => Val.I (0 + j) == Val.I (20 + j)) 0 n = m) (hs : m < n → Val.I m ≠ Val.I (20 + m) → sgn (c02 b) = cmpI (Val.I m) (Val.I (20 + m))) :
    ∀ e ∈ yC f n m (c02 b), Ans e.f (e.a.map cvF) (cvF e.r) := by
  intro e he
  obtain ⟨j, hj, rfl⟩ := List.mem_map.1 he
  obtain ⟨h1, h2, h3, h4⟩ := fd_spec (fun j => Val.I (0 + j) == Val.I (20 + j)) n 0
  rw [hm] at h1 h2 h3 h4
  have hj := List.mem_range.1 hj
  have hj1 : j < m + 1 := Nat.lt_of_lt_of_le hj (Nat.min_le_left _ _)
  have hj2 : j < n := Nat.lt_of_lt_of_le hj (Nat.min_le_right _ _)
  have key : (if Nat.blt j m then (0 : Int) else sgn (c02 b)) = cmpI (Val.I j) (Val.I (20 + j)) := by
    by_cases hlt : j < m
    · have hb : Nat.blt j m = true := Nat.ble_eq_true_of_le hlt
      have := h1 j (Nat.zero_le _) hlt
      rw [hb, if_pos rfl]
      have e : Val.I j = Val.I (20 + j) := by simpa using this
      rw [e, cmpI_self]
    · obtain rfl : j = m := by omega
      rw [blt_self, if_neg (by simp)]
      refine hs hj2 fun e => ?_
      have := h2 (by omega)
      simp at this
      exact this e
  have := hf (Val.I j) (Val.I (20 + j))
  rw [← key] at this
  exact this
theorem cmp_ans (x x' : Nat → Int) (y y' : Nat → Bool) : Ans fCompare [earF x y, earF x' y'] (intV (cmpE x y x' y')) := by
  let X : Nat → Int := two 20 x (two 20 x' fun i => if i = 10 then hc y else if i = 11 then hc y' else cmpI (hc y) (hc y'))
  let Y : Nat → Bool := two 20 y y'
  let V := VE X Y
  have hp : fd (fun j => V.I (0 + j) == V.I (20 + j)) 0 9 = fd (eqP x x') 0 9 := fd_congr 9 0 fun j _ hj => by
    show (X (0 + j) == X (20 + j)) = (x j == x' j)
    have e1 : X (0 + j) = x j := by show (if 0 + j < 20 then x (0 + j) else _) = _; rw [if_pos (by omega), Nat.zero_add]
    have e2 : X (20 + j) = x' j := by
      show (if 20 + j < 20 then _ else (if 20 + j - 20 < 20 then x' (20 + j - 20) else _)) = _
      rw [if_neg (by omega), if_pos (by omega), show 20 + j - 20 = j by omega]
    rw [e1, e2]
  have hle := (fd_spec (eqP x x') 9 0).2.2.2
  have hT := @eqs_true V 0 20 9
  rw [hp] at hT
  unfold cmpE
  by_cases h9 : fd (eqP x x') 0 9 = 9
  · rw [if_pos h9]
    have hr := all2_all (allN_lt cmp_run 9 (by omega)) true
    unfold cmpRun at hr
    rw [show Nat.beq 9 9 = true from rfl] at hr
    rw [h9] at hT
    have hY := @yC_true V fCmp 9 cmp0_ans 9 true (hp.trans h9) fun h => absurd h (by omega)
    have e50 : X 50 = hc y := by simp [X, two]
    have e51 : X 51 = hc y' := by simp [X, two]
    have e52 : X 52 = cmpI (hc y) (hc y') := by simp [X, two]
    have a50 : Ans fHolesCode [holesF y] (intV (X 50)) := by rw [e50]; exact hc_ans y
    have a51 : Ans fHolesCode [holesF y'] (intV (X 51)) := by rw [e51]; exact hc_ans y'
    have a52 : Ans fCmp [intV (X 50), intV (X 51)] (intV (X 52)) := by rw [e50, e51, e52]; exact cmp0_ans _ _
    have hY2 : ∀ e ∈ yC fCmp 9 9 (c02 true) ++ [⟨fHolesCode, [holesR 0], sI 50⟩, ⟨fHolesCode, [holesR 20], sI 51⟩, ⟨fCmp, [sI 50, sI 51], sI 52⟩], Ans e.f (e.a.map (@cvF V)) (@cvF V e.r) := by
      intro e he
      simp only [List.mem_append, List.mem_cons, List.not_mem_nil, or_false] at he
      rcases he with he | rfl | rfl | rfl
      · exact hY e he
      · exact a50
      · exact a51
      · exact a52
    have t : Ans fCompare [earF x y, earF x' y'] (intV (X 52)) := @ans V noX _ _ noX_true hT hY2 _ _ _ _ _ hr
    rw [e52] at t
    exact t
  · rw [if_neg h9]
    have hd := (fd_spec (eqP x x') 9 0).2.1
    generalize hm : fd (eqP x x') 0 9 = m at *
    have hm9 : m < 9 := by omega
    have hne : x m ≠ x' m := by
      have := hd (by omega)
      simpa [eqP] using this
    have hr := all2_all (allN_lt cmp_run m (by omega)) (decide (x m < x' m))
    unfold cmpRun at hr
    rw [beq_ne (show m ≠ 9 by omega)] at hr
    have e1 : X m = x m := by show (if m < 20 then x m else _) = _; rw [if_pos (by omega)]
    have e2 : X (20 + m) = x' m := by
      show (if 20 + m < 20 then _ else (if 20 + m - 20 < 20 then x' (20 + m - 20) else _)) = _
      rw [if_neg (by omega), if_pos (by omega), show 20 + m - 20 = m by omega]
    have hsg : sgn (c02 (decide (x m < x' m))) = cmpI (X m) (X (20 + m)) := by rw [e1, e2]; exact c02_of hne
    have hY := @yC_true V fCmp 9 cmp0_ans m (decide (x m < x' m)) hp fun _ _ => hsg
    have t : Ans fCompare [earF x y, earF x' y'] (intV (sgn (c02 (decide (x m < x' m))))) := @ans V noX _ _ noX_true hT hY _ _ _ _ _ hr
    rw [c02_of hne] at t
    exact t
end Go.Proofs.Z
