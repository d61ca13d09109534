/- A part of the proofs that the laws of layer four answer true for every input. -/
import Derived.Test.YtjjmnoiiihcoiaaGreatDoorZGQ
namespace Go.Proofs.Z
open Go Go.RowKit Go.Proofs Go.Ri Go.Proofs.Z.Fa
/-! Sets day by day. -/
theorem bit_hi {s i : Nat} (hs : s < 65536) (hi : 16 ≤ i) : s.testBit i = false :=
  Nat.testBit_lt_two_pow (Nat.lt_of_lt_of_le hs (by
    have := Nat.pow_le_pow_right (n := 2) (by decide) hi
    simpa using this))
section
variable {G : Int} {l : List Value} {n : Nat} {e : Nat → Bool} {S : Nat}
theorem gAB_lt (hva : validM G l n = true) {k : Nat} (hk : k < n) : gA' l k < 16 ∧ gB' l k < 16 := by
  obtain ⟨a0, a1, b0, b1, _, _⟩ := gate_range hva hk
  unfold gA' gB'
  omega
theorem clS_bit (hva : validM G l n = true) (hS : S < 65536) (x : Nat) : (clS l n e S).testBit x = clo n (gA' l) (gB' l) e (fun x => S.testBit x) x := by
  unfold clS
  rw [setN_bit]
  by_cases hx : x < 16
  · simp [hx]
  · have : clo n (gA' l) (gB' l) e (fun x => S.testBit x) x = false := by
      rw [Bool.eq_false_iff]
      intro h
      have := clo_min (u := fun x => decide (x < 16)) (fun y hy => by
        show decide (y < 16) = true
        rw [decide_eq_true_iff]
        rcases Nat.lt_or_ge y 16 with h | h
        · exact h
        · rw [bit_hi hS h] at hy; cases hy) (fun k hk _ => by
        have := gAB_lt hva hk
        show decide (gA' l k < 16) = decide (gB' l k < 16)
        rw [decide_eq_true this.1, decide_eq_true this.2]) h
      exact hx (of_decide_eq_true this)
    rw [this]
    simp
theorem clS_sub (hva : validM G l n = true) (hS : S < 65536) {x : Nat} (h : S.testBit x = true) : (clS l n e S).testBit x = true := by
  rw [clS_bit hva hS]
  exact clo_sub h
theorem clS_cl (hva : validM G l n = true) (hS : S < 65536) {k : Nat} (hk : k < n) (he : e k = true) : ldP l (clS l n e S) k = false := by
  unfold ldP
  rw [clS_bit hva hS, clS_bit hva hS, clo_cl hk he]
  simp
theorem clS_id (hS : S < 65536) (h : ∀ k, k < n → e k = true → ldP l S k = false) : clS l n e S = S := by
  symm
  unfold clS
  exact bits_ext hS fun i _ => clo_eq (t := fun x => S.testBit x) (fun x h => h) (fun x h => clo_sub h) (fun k hk he => by
    have := h k hk he
    unfold ldP at this
    simpa using this) i
theorem clS_grow (hva : validM G l n = true) (hS : S < 65536) {k : Nat} (hk : k < n) (he : e k = true) (hl : ldP l S k = true) : cnt (fun x => S.testBit x) 16 < cnt (fun x => (clS l n e S).testBit x) 16 := by
  have hcl := clS_cl (e := e) hva hS hk he
  unfold ldP at hl hcl
  have hab := gAB_lt hva hk
  have hc : (clS l n e S).testBit (gA' l k) = (clS l n e S).testBit (gB' l k) := by simpa using hcl
  cases h1 : S.testBit (gA' l k) with
  | true =>
    have h2 : S.testBit (gB' l k) = false := by rw [h1] at hl; simpa using hl
    exact cnt_lt (S := fun x => S.testBit x) (fun x h => clS_sub hva hS h) (i := gB' l k) h2 (by rw [← hc]; exact clS_sub hva hS h1) 16 hab.2
  | false =>
    have h2 : S.testBit (gB' l k) = true := by rw [h1] at hl; simpa using hl
    exact cnt_lt (S := fun x => S.testBit x) (fun x h => clS_sub hva hS h) (i := gA' l k) h1 (by rw [hc]; exact clS_sub hva hS h2) 16 hab.1
end
/-- The first day on which a gate is open. -/
theorem op_not {fr to d e : Int} (h0 : 0 ≤ fr) (h1 : fr < 360) (h2 : 0 ≤ to) (h3 : to < 360) (_ : 0 ≤ d) (he : d ≤ e) (hlt : e < openingM fr to d) : openM fr to e = false := by
  rw [openM_not]
  unfold openingM at hlt
  by_cases hft : fr = to
  · omega
  · rw [if_neg hft] at hlt
    cases ho : openM fr to d with
    | true =>
      rw [ho, if_pos rfl] at hlt
      omega
    | false =>
      rw [ho, if_neg (by decide)] at hlt
      have := (openM_not _ _ _).1 ho
      omega
theorem op_is {fr to d : Int} (h0 : 0 ≤ fr) (h1 : fr < 360) (_ : 0 ≤ to) (_ : to < 360) (_ : 0 ≤ d) (hm : openingM fr to d ≤ 1048576) : openM fr to (openingM fr to d) = true ∧ d ≤ openingM fr to d := by
  unfold openingM at hm ⊢
  by_cases hft : fr = to
  · rw [if_pos hft] at hm
    omega
  · rw [if_neg hft] at hm ⊢
    cases ho : openM fr to d with
    | true =>
      rw [if_pos rfl]
      exact ⟨ho, Int.le_refl _⟩
    | false =>
      rw [ho, if_neg (by decide)] at hm
      rw [if_neg (by decide)]
      have := (openM_not _ _ _).1 ho
      constructor
      · rw [openM_iff]
        omega
      · omega
theorem lv_min (l : List Value) (s : Nat) (d : Int) : ∀ n k, k < n → ldP l s k = true → lvM l s d n ≤ openingM (gtF l k) (gtT l k) d
  | n + 1, k, hk, hl => by
    unfold lvM
    rcases Nat.lt_or_eq_of_le (Nat.le_of_lt_succ hk) with h | rfl
    · have := lv_min l s d n k h hl
      split
      · split <;> omega
      · exact this
    · rw [if_pos hl]
      split <;> omega
theorem lv_at (l : List Value) (s : Nat) (d : Int) : ∀ n, lvM l s d n = 1048577 ∨ ∃ k, k < n ∧ ldP l s k = true ∧ lvM l s d n = openingM (gtF l k) (gtT l k) d
  | 0 => .inl rfl
  | n + 1 => by
    have ih := lv_at l s d n
    unfold lvM
    cases hp : ldP l s n with
    | true =>
      rw [if_pos rfl]
      split
      · exact .inr ⟨n, Nat.lt_succ_self n, hp, rfl⟩
      · rcases ih with h | ⟨k, hk, h1, h2⟩
        · exact .inl h
        · exact .inr ⟨k, by omega, h1, h2⟩
    | false =>
      rw [if_neg (by decide)]
      rcases ih with h | ⟨k, hk, h1, h2⟩
      · exact .inl h
      · exact .inr ⟨k, by omega, h1, h2⟩
noncomputable def dayS (l : List Value) (n : Nat) (S : Nat) (d : Int) : Nat := clS l n (odP l d) S
noncomputable def runS (l : List Value) (n : Nat) (S : Nat) (fr : Int) : Nat → Nat
  | 0 => S
  | i + 1 => dayS l n (runS l n S fr i) (fr + i)
section
variable {G : Int} {l : List Value} {n : Nat} {S : Nat} {fr : Int}
theorem runS_lt (hS : S < 65536) : ∀ i, runS l n S fr i < 65536
  | 0 => hS
  | _ + 1 => clS_lt _ _ _ _
/-- On the days ahead of the one on which sheep can leave, nothing changes. -/
theorem lv_stay (hva : validM G l n = true) (hS : S < 65536) {d e : Int} (hd : 0 ≤ d) (he : d ≤ e) (hlt : e < lvM l S d n) : dayS l n S e = S := by
  refine clS_id hS fun k hk ho => ?_
  cases hl : ldP l S k with
  | false => rfl
  | true =>
    have h1 := lv_min l S d n k hk hl
    have hg := (gOk_iff _ _ _ _ _).1 (okL_at ((validM_iff _ _ _).1 hva).2.2.2 hk)
    have := op_not hg.2.2.2.1 hg.2.2.2.2.1 hg.2.2.2.2.2.1 hg.2.2.2.2.2.2 hd he (by omega)
    unfold odP at ho
    rw [this] at ho
    cases ho
theorem lv_open (hva : validM G l n = true) {d : Int} (hd : 0 ≤ d) (hm : lvM l S d n ≤ 1048576) : d ≤ lvM l S d n ∧ ∃ k, k < n ∧ ldP l S k = true ∧ odP l (lvM l S d n) k = true := by
  rcases lv_at l S d n with h | ⟨k, hk, h1, h2⟩
  · omega
  · have hg := (gOk_iff _ _ _ _ _).1 (okL_at ((validM_iff _ _ _).1 hva).2.2.2 hk)
    have := op_is hg.2.2.2.1 hg.2.2.2.2.1 hg.2.2.2.2.2.1 hg.2.2.2.2.2.2 hd (h2 ▸ hm)
    rw [h2]
    exact ⟨this.2, k, hk, h1, this.1⟩
theorem runS_stay {i : Nat} {E : Int} (h : ∀ e, fr + i ≤ e → e < E → dayS l n (runS l n S fr i) e = runS l n S fr i) : ∀ j : Nat, fr + (i + j : Nat) ≤ E → runS l n S fr (i + j) = runS l n S fr i
  | 0, _ => rfl
  | j + 1, hj => by
    have ih := runS_stay h j (by omega)
    show dayS l n (runS l n S fr (i + j)) (fr + (i + j : Nat)) = _
    rw [ih]
    exact h _ (by omega) (by omega)
end
end Go.Proofs.Z

namespace Go.Proofs.Z
open Go Go.RowKit Go.Proofs Go.Ri Go.Proofs.Z.Fa
/-! What is reached within sixteen years is all. -/
section
variable {G : Int} {l : List Value} {n : Nat} {S : Nat} {fr : Int}
theorem runS_sub (hva : validM G l n = true) (hS : S < 65536) (i : Nat) : ∀ j x, (runS l n S fr i).testBit x = true → (runS l n S fr (i + j)).testBit x = true
  | 0, _, h => h
  | j + 1, x, h => clS_sub hva (runS_lt hS (i + j)) (runS_sub hva hS i j x h)
theorem bits_anti {s t : Nat} (h1 : ∀ x, s.testBit x = true → t.testBit x = true) (h2 : ∀ x, t.testBit x = true → s.testBit x = true) : s = t := by
  apply Nat.eq_of_testBit_eq
  intro i
  rw [Bool.eq_iff_iff]
  exact ⟨h1 i, h2 i⟩
theorem cnt_ne {s t : Nat} (ht : t < 65536) (h1 : ∀ x, s.testBit x = true → t.testBit x = true) (hne : s ≠ t) : cnt (fun x => s.testBit x) 16 < cnt (fun x => t.testBit x) 16 := by
  have : ∃ i, t.testBit i = true ∧ s.testBit i = false := by
    apply Classical.byContradiction
    intro hno
    apply hne
    refine bits_anti h1 fun x hx => ?_
    cases hs : s.testBit x with
    | true => rfl
    | false => exact absurd ⟨x, hx, hs⟩ hno
  obtain ⟨i, hi1, hi2⟩ := this
  have hi : i < 16 := by
    rcases Nat.lt_or_ge i 16 with h | h
    · exact h
    · rw [bit_hi ht h] at hi1
      cases hi1
  exact cnt_lt (S := fun x => s.testBit x) h1 hi2 hi1 16 hi
/-- A gate that is ever open is open within 360 days. -/
theorem op_soon {f t d : Int} (h0 : 0 ≤ f) (h1 : f < 360) (h2 : 0 ≤ t) (h3 : t < 360) (_ : 0 ≤ d) (hne : f ≠ t) : ∃ j : Nat, j < 360 ∧ openM f t (d + j) = true := by
  refine ⟨((f - d % 360) % 360).toNat, by omega, ?_⟩
  rw [openM_iff]
  omega
theorem open_us {f t d : Int} (h : openM f t d = true) : f ≠ t := by
  have := (openM_iff _ _ _).1 h
  omega
/-- A set that a whole year does not change, stays. -/
theorem year_closed (hva : validM G l n = true) (hS : S < 65536) (h0 : 0 ≤ fr) {i : Nat} (he : runS l n S fr (i + 360) = runS l n S fr i) {k : Nat} (hk : k < n) (hu : usP l k = true) : ldP l (runS l n S fr i) k = false := by
  have same : ∀ j, j ≤ 360 → runS l n S fr (i + j) = runS l n S fr i := fun j hj => by
    refine bits_anti (fun x hx => ?_) (fun x hx => runS_sub hva hS i j x hx)
    rw [← he]
    have := runS_sub hva hS (i + j) (360 - j) x hx
    rwa [show i + j + (360 - j) = i + 360 by omega] at this
  have hg := (gOk_iff _ _ _ _ _).1 (okL_at ((validM_iff _ _ _).1 hva).2.2.2 hk)
  have hne : gtF l k ≠ gtT l k := by
    unfold usP at hu
    simpa using hu
  obtain ⟨j, hj, ho⟩ := op_soon (d := fr + i) hg.2.2.2.1 hg.2.2.2.2.1 hg.2.2.2.2.2.1 hg.2.2.2.2.2.2 (by omega) hne
  have e1 : runS l n S fr (i + j + 1) = dayS l n (runS l n S fr (i + j)) (fr + (i + j : Nat)) := rfl
  rw [show i + j + 1 = i + (j + 1) by omega, same _ (by omega), same _ (by omega), show fr + ((i + j : Nat) : Int) = fr + i + j by omega] at e1
  rw [e1]
  exact clS_cl hva (runS_lt hS i) hk ho
theorem year_stay (hva : validM G l n = true) (hS : S < 65536) (h0 : 0 ≤ fr) {i : Nat} (he : runS l n S fr (i + 360) = runS l n S fr i) : ∀ j, runS l n S fr (i + j) = runS l n S fr i
  | 0 => rfl
  | j + 1 => by
    show dayS l n (runS l n S fr (i + j)) (fr + (i + j : Nat)) = _
    rw [year_stay hva hS h0 he j]
    refine clS_id (runS_lt hS i) fun k hk ho => year_closed hva hS h0 he hk ?_
    unfold usP
    simpa using open_us ho
theorem year_count (hva : validM G l n = true) (hS : S < 65536) (h1 : 1 ≤ cnt (fun x => S.testBit x) 16) : ∀ m : Nat, (∃ m', m' < m ∧ runS l n S fr (360 * m' + 360) = runS l n S fr (360 * m')) ∨ m + 1 ≤ cnt (fun x => (runS l n S fr (360 * m)).testBit x) 16
  | 0 => .inr (by simpa [runS] using h1)
  | m + 1 => by
    rcases year_count hva hS h1 m with ⟨m', hm, he⟩ | hc
    · exact .inl ⟨m', by omega, he⟩
    · by_cases he : runS l n S fr (360 * m + 360) = runS l n S fr (360 * m)
      · exact .inl ⟨m, by omega, he⟩
      · right
        have := cnt_ne (runS_lt (l := l) (n := n) (fr := fr) hS (360 * m + 360)) (runS_sub hva hS (360 * m) 360) (fun h => he h.symm)
        rw [show 360 * (m + 1) = 360 * m + 360 by omega]
        omega
/-- Behind sixteen years nothing changes. -/
theorem runS_long (hva : validM G l n = true) (hS : S < 65536) (h0 : 0 ≤ fr) (h1 : 1 ≤ cnt (fun x => S.testBit x) 16) {j : Nat} (hj : 5760 ≤ j) : runS l n S fr j = runS l n S fr 5760 := by
  rcases year_count (l := l) (n := n) (S := S) (fr := fr) hva hS h1 16 with ⟨m, hm, he⟩ | hc
  · have a := year_stay hva hS h0 he (j - 360 * m)
    have b := year_stay hva hS h0 he (5760 - 360 * m)
    rw [show 360 * m + (j - 360 * m) = j by omega] at a
    rw [show 360 * m + (5760 - 360 * m) = 5760 by omega] at b
    rw [a, b]
  · have := cnt_le (fun x => (runS l n S fr (360 * 16)).testBit x) 16
    omega
theorem cnt_pow {a : Nat} (h : a < 16) : 1 ≤ cnt (fun x => (2 ^ a).testBit x) 16 := by
  have := cnt_lt (S := fun _ => false) (T := fun x => (2 ^ a).testBit x) (fun x h => by cases h) (i := a) rfl (by simp) 16 h
  omega
end
end Go.Proofs.Z
