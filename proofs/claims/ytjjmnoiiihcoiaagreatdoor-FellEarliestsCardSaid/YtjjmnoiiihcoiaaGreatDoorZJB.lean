/- A part of the proofs that the laws of layer four answer true for every input. -/
import Derived.Test.YtjjmnoiiihcoiaaGreatDoorZHQ
namespace Go.Proofs.Z
open Go Go.RowKit Go.Proofs Go.Ri Go.Proofs.Z.Fa
/-! Paths: what they are; the last days on which they can begin; the first of them. -/
/-- A list of passes (a day and a gate) leads from x, from the day d on, to y, by the day to. -/
def Leads (l : List Value) (n : Nat) (to : Int) : List (Int × Nat) → Int → Int → Int → Prop
  | [], x, _, y => x = y
  | (D, g) :: L, x, d, y => d ≤ D ∧ D ≤ to ∧ g < n ∧ odP l D g = true ∧ (x = gtA l g ∨ x = gtB l g) ∧ Leads l n to L (nextG l g x) D y
def sfx (q : List Value) : Nat → Nat → List (Int × Nat)
  | _, 0 => []
  | i, k + 1 => (psD q i, (psG q i).toNat) :: sfx q (i + 1) k
section
variable {l : List Value} {n : Nat} {q : List Value} {to x d : Int}
theorem pok_iff {s : Int × Int} {i : Nat} : pokM l n q to s i = true ↔ s.2 ≤ psD q i ∧ psD q i ≤ to ∧ 0 ≤ psG q i ∧ psG q i < n ∧ odP l (psD q i) (psG q i).toNat = true ∧ (s.1 = gtA l (psG q i).toNat ∨ s.1 = gtB l (psG q i).toNat) := by
  unfold pokM
  simp only [Bool.and_eq_true, beq_iff_eq, Bool.or_eq_true, decide_eq_true_eq]
  constructor
  · rintro ⟨h4, h5, h6⟩
    have p := fun j hj => firstBad_pass (pqTest n to s.2 (psD q i) (psG q i)) 4 0 j (Nat.zero_le _) (show j < pqCls n to s.2 (psD q i) (psG q i) by rw [h4]; exact hj)
    exact ⟨of_decide_eq_true (p 0 (by omega)), of_decide_eq_true (p 1 (by omega)), of_decide_eq_true (p 2 (by omega)), of_decide_eq_true (p 3 (by omega)), h5, h6⟩
  · rintro ⟨h0, h1, h2, h3, h5, h6⟩
    refine ⟨?_, h5, h6⟩
    simp [pqCls, firstBad, pqTest, h0, h1, h2, h3]
theorem okP_leads {m : Nat} (h : okP l n q to x d m = true) : ∀ k i, i + k = m → Leads l n to (sfx q i k) (pst l q x d i).1 (pst l q x d i).2 (pst l q x d m).1
  | 0, i, e => by
    obtain rfl : i = m := by omega
    rfl
  | k + 1, i, e => by
    have hp := pok_iff.1 (okP_at h (show i < m by omega))
    exact ⟨hp.1, hp.2.1, by omega, hp.2.2.2.2.1, hp.2.2.2.2.2, okP_leads h k (i + 1) (by omega)⟩
theorem leads_mono {to to' y : Int} (h : to ≤ to') : ∀ {L : List (Int × Nat)} {x d : Int}, Leads l n to L x d y → Leads l n to' L x d y
  | [], _, _, e => e
  | (_, _) :: _, _, _, ⟨h1, h2, h3, h4, h5, h6⟩ => ⟨h1, by omega, h3, h4, h5, leads_mono h h6⟩
theorem leads_snoc {to D : Int} {g : Nat} (hD : to ≤ D) (hg : g < n) (ho : odP l D g = true) : ∀ {L : List (Int × Nat)} {x d y : Int}, Leads l n to L x d y → d ≤ D → (y = gtA l g ∨ y = gtB l g) → Leads l n D (L ++ [(D, g)]) x d (nextG l g y)
  | [], x, d, y, e, hd, hy => by
    obtain rfl : x = y := e
    exact ⟨hd, Int.le_refl _, hg, ho, hy, rfl⟩
  | (_, _) :: _, _, _, _, ⟨h1, h2, h3, h4, h5, h6⟩, hd, hy => ⟨h1, by omega, h3, h4, h5, leads_snoc hD hg ho h6 (by omega) hy⟩
theorem leads_len0 {L : List (Int × Nat)} {y : Int} (h : L.length = 0) : Leads l n to L x d y ↔ x = y := by
  rw [List.length_eq_zero_iff.1 h]
  exact Iff.rfl
end
/-! Paths and sets. -/
section
variable {G : Int} {l : List Value} {n : Nat} {S : Nat} {fr : Int}
theorem next_set {X : Nat} {g : Nat} (hc : X.testBit (gA' l g) = X.testBit (gB' l g)) {x : Int} (hx : x = gtA l g ∨ x = gtB l g) (h : X.testBit x.toNat = true) : X.testBit (nextG l g x).toNat = true := by
  unfold nextG
  unfold gA' gB' at hc
  split
  · rename_i e
    rw [← hc, e]
    exact h
  · rename_i e
    rcases hx with rfl | rfl
    · exact absurd rfl e
    · rw [hc]
      exact h
/-- A path leads into the set of its last day. -/
theorem leads_set (hva : validM G l n = true) (hS : S < 65536) {to : Int} : ∀ (L : List (Int × Nat)) (x d y : Int), fr ≤ d → d ≤ to → (runS l n S fr (d + 1 - fr).toNat).testBit x.toNat = true → Leads l n to L x d y → (runS l n S fr (to + 1 - fr).toNat).testBit y.toNat = true
  | [], x, d, y, h0, h1, hx, e => by
    obtain rfl : x = y := e
    have := runS_sub hva hS (d + 1 - fr).toNat ((to + 1 - fr).toNat - (d + 1 - fr).toNat) x.toNat hx
    rw [show (d + 1 - fr).toNat + ((to + 1 - fr).toNat - (d + 1 - fr).toNat) = (to + 1 - fr).toNat by omega] at this
    exact this
  | (D, g) :: L, x, d, y, h0, h1, hx, ⟨a1, a2, a3, a4, a5, a6⟩ => by
    refine leads_set hva hS L (nextG l g x) D y (by omega) a2 ?_ a6
    have hx2 := runS_sub hva hS (d + 1 - fr).toNat ((D + 1 - fr).toNat - (d + 1 - fr).toNat) x.toNat hx
    rw [show (d + 1 - fr).toNat + ((D + 1 - fr).toNat - (d + 1 - fr).toNat) = (D + 1 - fr).toNat by omega] at hx2
    refine next_set ?_ a5 hx2
    have e : (D + 1 - fr).toNat = (D - fr).toNat + 1 := by omega
    rw [e]
    show (clS l n (odP l (fr + ((D - fr).toNat : Nat))) (runS l n S fr (D - fr).toNat)).testBit _ = _
    rw [show fr + (((D - fr).toNat : Nat) : Int) = D by omega]
    show _ = (clS l n (odP l (fr + ((D - fr).toNat : Nat))) (runS l n S fr (D - fr).toNat)).testBit _
    rw [show fr + (((D - fr).toNat : Nat) : Int) = D by omega]
    rw [clS_bit hva (runS_lt hS _), clS_bit hva (runS_lt hS _)]
    exact clo_cl a3 a4
/-- Whatever is in the set is reached by a path. -/
theorem set_leads (hva : validM G l n = true) {a : Nat} (ha : a < 16) : ∀ (i : Nat) (y : Nat), (runS l n (2 ^ a) fr i).testBit y = true → ∃ L, Leads l n (fr + i - 1) L a fr y
  | 0, y, h => by
    have h : (2 ^ a).testBit y = true := h
    rw [Nat.testBit_two_pow] at h
    have e : a = y := of_decide_eq_true h
    exact ⟨[], by rw [e]; rfl⟩
  | i + 1, y, h => by
    have hS : 2 ^ a < 65536 := pow_lt16 ha
    have h : (clS l n (odP l (fr + i)) (runS l n (2 ^ a) fr i)).testBit y = true := h
    rw [clS_bit hva (runS_lt hS _)] at h
    have hab : ∀ k, k < n → ((gA' l k : Nat) : Int) = gtA l k ∧ ((gB' l k : Nat) : Int) = gtB l k := fun k hk => by
      obtain ⟨a0, a1, b0, b1, _, _⟩ := gate_range hva hk
      unfold gA' gB'
      omega
    classical
    have key := clo_min (u := fun y => decide (∃ L, Leads l n (fr + i) L a fr y)) (fun y hy => decide_eq_true (by
      obtain ⟨L, hL⟩ := set_leads hva ha i y hy
      exact ⟨L, leads_mono (by omega) hL⟩)) (fun k hk ho => by
      have hk2 := hab k hk
      obtain ⟨a0, a1, b0, b1, _, _⟩ := gate_range hva hk
      have hg := (gOk_iff _ _ _ _ _).1 (okL_at ((validM_iff _ _ _).1 hva).2.2.2 hk)
      rw [Bool.eq_iff_iff]
      simp only [decide_eq_true_eq]
      constructor
      · rintro ⟨L, hL⟩
        have := leads_snoc (Int.le_refl (fr + (i : Int))) hk ho hL (by omega) (.inl hk2.1)
        refine ⟨L ++ [(fr + (i : Int), k)], ?_⟩
        unfold nextG at this
        rw [if_pos hk2.1.symm] at this
        rw [hk2.2]
        exact this
      · rintro ⟨L, hL⟩
        have := leads_snoc (Int.le_refl (fr + (i : Int))) hk ho hL (by omega) (.inr hk2.2)
        refine ⟨L ++ [(fr + (i : Int), k)], ?_⟩
        unfold nextG at this
        rw [if_neg (by omega)] at this
        rw [hk2.1]
        exact this) h
    obtain ⟨L, hL⟩ := of_decide_eq_true key
    exact ⟨L, leads_mono (by omega) hL⟩
end
/-! The last days on which paths can begin. -/
theorem cl_is {fr to s : Int} (h0 : 0 ≤ fr) (h1 : fr < 360) (h2 : 0 ≤ to) (h3 : to < 360) (h : 0 ≤ closingM fr to s) : openM fr to (closingM fr to s) = true ∧ closingM fr to s ≤ s := by
  unfold closingM at h ⊢
  by_cases hc : s < 0 ∨ fr = to
  · rw [if_pos hc] at h
    omega
  · rw [if_neg hc] at h ⊢
    cases ho : openM fr to s with
    | true =>
      rw [if_pos rfl]
      exact ⟨ho, Int.le_refl _⟩
    | false =>
      rw [ho, if_neg (by decide)] at h
      rw [if_neg (by decide)]
      have := (openM_not _ _ _).1 ho
      by_cases hd : (s % 360 - to + 1) % 360 ≤ s
      · rw [if_pos hd] at h ⊢
        constructor
        · rw [openM_iff]
          omega
        · omega
      · rw [if_neg hd] at h
        omega
theorem cl_ge {fr to s D : Int} (h0 : 0 ≤ fr) (h1 : fr < 360) (h2 : 0 ≤ to) (h3 : to < 360) (hD : 0 ≤ D) (ho : openM fr to D = true) (hs : D ≤ s) : D ≤ closingM fr to s := by
  have hD' := (openM_iff _ _ _).1 ho
  unfold closingM
  by_cases hc : s < 0 ∨ fr = to
  · omega
  · rw [if_neg hc]
    cases hos : openM fr to s with
    | true =>
      rw [if_pos rfl]
      exact hs
    | false =>
      rw [if_neg (by decide)]
      have := (openM_not _ _ _).1 hos
      split <;> omega
def tch (l : List Value) (k : Nat) (x : Int) : Bool := decide (x = gtA l k) || decide (x = gtB l k)
theorem tch_iff {l : List Value} {k : Nat} {x : Int} : tch l k x = true ↔ (x = gtA l k ∨ x = gtB l k) := by
  unfold tch
  simp
/-- One pass more: by the first gates. -/
def stX (l : List Value) (s : Nat → Int) (x : Nat) : Nat → Int
  | 0 => -1
  | k + 1 => if tch l k x then (if stX l s x k < closingM (gtF l k) (gtT l k) (s (nextG l k x).toNat) then closingM (gtF l k) (gtT l k) (s (nextG l k x).toNat) else stX l s x k) else stX l s x k
def stN (l : List Value) (n b : Nat) (to : Int) : Nat → Nat → Int
  | 0 => fun x => if x = b then to else -1
  | j + 1 => fun x => stX l (stN l n b to j) x n
theorem stX_lo (l : List Value) (s : Nat → Int) (x : Nat) : ∀ k, -1 ≤ stX l s x k
  | 0 => Int.le_refl _
  | k + 1 => by
    have := stX_lo l s x k
    unfold stX
    split
    · split <;> omega
    · exact this
theorem stX_ge (l : List Value) (s : Nat → Int) (x : Nat) : ∀ n k, k < n → tch l k x = true → closingM (gtF l k) (gtT l k) (s (nextG l k x).toNat) ≤ stX l s x n
  | n + 1, k, hk, ht => by
    unfold stX
    rcases Nat.lt_or_eq_of_le (Nat.le_of_lt_succ hk) with h | rfl
    · have := stX_ge l s x n k h ht
      split
      · split <;> omega
      · exact this
    · rw [if_pos ht]
      split <;> omega
theorem stX_at (l : List Value) (s : Nat → Int) (x : Nat) : ∀ n, stX l s x n = -1 ∨ ∃ k, k < n ∧ tch l k x = true ∧ stX l s x n = closingM (gtF l k) (gtT l k) (s (nextG l k x).toNat)
  | 0 => .inl rfl
  | n + 1 => by
    have ih := stX_at l s x n
    unfold stX
    cases ht : tch l n x with
    | true =>
      rw [if_pos rfl]
      split
      · exact .inr ⟨n, Nat.lt_succ_self n, ht, rfl⟩
      · rcases ih with h | ⟨k, hk, h1, h2⟩
        · exact .inl h
        · exact .inr ⟨k, by omega, h1, h2⟩
    | false =>
      rw [if_neg (by decide)]
      rcases ih with h | ⟨k, hk, h1, h2⟩
      · exact .inl h
      · exact .inr ⟨k, by omega, h1, h2⟩
section
variable {G : Int} {l : List Value} {n : Nat} {b : Nat} {to : Int}
theorem next_nat (hva : validM G l n = true) {k : Nat} (hk : k < n) (x : Int) : 0 ≤ nextG l k x ∧ nextG l k x < 16 ∧ (((nextG l k x).toNat : Nat) : Int) = nextG l k x := by
  obtain ⟨a0, a1, b0, b1, _, _⟩ := gate_range hva hk
  unfold nextG
  split <;> omega
theorem stN_lo (hto : 0 ≤ to) : ∀ j x, -1 ≤ stN l n b to j x
  | 0, x => by
    show -1 ≤ if x = b then to else -1
    split <;> omega
  | j + 1, x => stX_lo _ _ _ _
theorem stN_hi (hva : validM G l n = true) (hto : 0 ≤ to) : ∀ j x, stN l n b to j x ≤ to
  | 0, x => by
    show (if x = b then to else -1) ≤ to
    split <;> omega
  | j + 1, x => by
    show stX l (stN l n b to j) x n ≤ to
    rcases stX_at l (stN l n b to j) x n with e | ⟨k, hk, ht, e⟩
    · omega
    · have g3 := (gOk_iff _ _ _ _ _).1 (okL_at ((validM_iff _ _ _).1 hva).2.2.2 hk)
      have := stN_hi hva hto j (nextG l k x).toNat
      have h2 := cl_is g3.2.2.2.1 g3.2.2.2.2.1 g3.2.2.2.2.2.1 g3.2.2.2.2.2.2 (s := stN l n b to j (nextG l k x).toNat)
      omega
theorem stN_iff (hva : validM G l n = true) (hto : 0 ≤ to) : ∀ (j x : Nat) (d : Int), 0 ≤ d → d ≤ to → ((∃ L, L.length = j ∧ Leads l n to L x d b) ↔ d ≤ stN l n b to j x)
  | 0, x, d, h0, h1 => by
    constructor
    · rintro ⟨L, hL, h⟩
      have h := (leads_len0 hL).1 h
      show d ≤ if x = b then to else -1
      rw [if_pos (by omega)]
      exact h1
    · intro h
      have h : d ≤ if x = b then to else -1 := h
      split at h
      · rename_i e
        exact ⟨[], rfl, by rw [e]; rfl⟩
      · omega
  | j + 1, x, d, h0, h1 => by
    have hg := fun k (hk : k < n) => (gOk_iff _ _ _ _ _).1 (okL_at ((validM_iff _ _ _).1 hva).2.2.2 hk)
    constructor
    · rintro ⟨(_ | ⟨⟨D, g⟩, L⟩), hL, h⟩
      · cases hL
      · obtain ⟨a1, a2, a3, a4, a5, a6⟩ := h
        have hn := next_nat hva a3 x
        have e := (stN_iff hva hto j (nextG l g x).toNat D (by omega) a2).1 ⟨L, by simpa using hL, by rw [hn.2.2]; exact a6⟩
        have g3 := hg g a3
        have h2 := cl_ge g3.2.2.2.1 g3.2.2.2.2.1 g3.2.2.2.2.2.1 g3.2.2.2.2.2.2 (by omega : 0 ≤ D) a4 e
        have h3 := stX_ge l (stN l n b to j) x n g a3 (tch_iff.2 a5)
        show d ≤ stX l (stN l n b to j) x n
        omega
    · intro h
      have h : d ≤ stX l (stN l n b to j) x n := h
      rcases stX_at l (stN l n b to j) x n with e | ⟨k, hk, ht, e⟩
      · omega
      · have g3 := hg k hk
        have hn := next_nat hva hk x
        have h2 := cl_is g3.2.2.2.1 g3.2.2.2.2.1 g3.2.2.2.2.2.1 g3.2.2.2.2.2.2 (s := stN l n b to j (nextG l k x).toNat) (by omega)
        have hle : stN l n b to j (nextG l k x).toNat ≤ to := stN_hi hva hto j _
        obtain ⟨L, hL, h3⟩ := (stN_iff hva hto j (nextG l k x).toNat (closingM (gtF l k) (gtT l k) (stN l n b to j (nextG l k x).toNat)) (by omega) (by omega)).2 (by omega)
        rw [hn.2.2] at h3
        exact ⟨(closingM (gtF l k) (gtT l k) (stN l n b to j (nextG l k x).toNat), k) :: L, by simp [hL], by omega, by omega, hk, h2.1, tch_iff.1 ht, h3⟩
end
/-! The first pass. -/
def npX (l : List Value) (s : Nat → Int) (x d : Int) : Nat → Int × Nat
  | 0 => (1048577, 0)
  | k + 1 => if tch l k x && (decide (openingM (gtF l k) (gtT l k) d ≤ s (nextG l k x).toNat) && decide (openingM (gtF l k) (gtT l k) d < (npX l s x d k).1)) then (openingM (gtF l k) (gtT l k) d, k) else npX l s x d k
theorem npX_at (l : List Value) (s : Nat → Int) (x d : Int) : ∀ n, npX l s x d n = (1048577, 0) ∨ ∃ k, k < n ∧ npX l s x d n = (openingM (gtF l k) (gtT l k) d, k) ∧ tch l k x = true ∧ openingM (gtF l k) (gtT l k) d ≤ s (nextG l k x).toNat
  | 0 => .inl rfl
  | n + 1 => by
    have ih := npX_at l s x d n
    by_cases hc : (tch l n x && (decide (openingM (gtF l n) (gtT l n) d ≤ s (nextG l n x).toNat) && decide (openingM (gtF l n) (gtT l n) d < (npX l s x d n).1))) = true
    · have e : npX l s x d (n + 1) = (openingM (gtF l n) (gtT l n) d, n) := if_pos hc
      rw [e]
      simp only [Bool.and_eq_true, decide_eq_true_eq] at hc
      exact .inr ⟨n, Nat.lt_succ_self n, rfl, hc.1, hc.2.1⟩
    · have e : npX l s x d (n + 1) = npX l s x d n := if_neg hc
      rw [e]
      rcases ih with h | ⟨k, hk, h⟩
      · exact .inl h
      · exact .inr ⟨k, by omega, h⟩
theorem npX_min (l : List Value) (s : Nat → Int) (x d : Int) : ∀ n k, k < n → tch l k x = true → openingM (gtF l k) (gtT l k) d ≤ s (nextG l k x).toNat → openingM (gtF l k) (gtT l k) d ≤ 1048576 → (npX l s x d n).1 < openingM (gtF l k) (gtT l k) d ∨ ((npX l s x d n).1 = openingM (gtF l k) (gtT l k) d ∧ (npX l s x d n).2 ≤ k)
  | n + 1, k, hk, ht, ho, hm => by
    have hle : ∀ m, (npX l s x d (m + 1)).1 ≤ (npX l s x d m).1 := fun m => by
      conv => lhs; unfold npX
      split
      · rename_i h
        simp only [Bool.and_eq_true, decide_eq_true_eq] at h
        show openingM (gtF l m) (gtT l m) d ≤ _
        omega
      · exact Int.le_refl _
    rcases Nat.lt_or_eq_of_le (Nat.le_of_lt_succ hk) with h | rfl
    · have ih := npX_min l s x d n k h ht ho hm
      by_cases hc : (tch l n x && (decide (openingM (gtF l n) (gtT l n) d ≤ s (nextG l n x).toNat) && decide (openingM (gtF l n) (gtT l n) d < (npX l s x d n).1))) = true
      · have e : npX l s x d (n + 1) = (openingM (gtF l n) (gtT l n) d, n) := if_pos hc
        rw [e]
        simp only [Bool.and_eq_true, decide_eq_true_eq] at hc
        show openingM (gtF l n) (gtT l n) d < _ ∨ _
        omega
      · have e : npX l s x d (n + 1) = npX l s x d n := if_neg hc
        rw [e]
        exact ih
    · by_cases hc : openingM (gtF l k) (gtT l k) d < (npX l s x d k).1
      · have e : npX l s x d (k + 1) = (openingM (gtF l k) (gtT l k) d, k) := if_pos (by simp [ht, ho, hc])
        rw [e]
        exact .inr ⟨rfl, Nat.le_refl _⟩
      · have e : npX l s x d (k + 1) = npX l s x d k := if_neg (by simp [hc])
        rw [e]
        rcases Int.lt_or_eq_of_le (Int.not_lt.1 hc) with h | h
        · exact .inl h
        · refine .inr ⟨h, ?_⟩
          rcases npX_at l s x d k with e2 | ⟨j, hj, e2, _, _⟩
          · rw [e2] at h
            have h : (1048577 : Int) = _ := h
            omega
          · rw [e2]
            exact Nat.le_of_lt hj
section
variable {G : Int} {l : List Value} {n : Nat} {b : Nat} {to : Int}
/-- The first pass of a path that there is. -/
theorem np_ok (hva : validM G l n = true) (hto : 0 ≤ to) (htm : to ≤ 1048576) {j x : Nat} {d : Int} (h0 : 0 ≤ d) (h1 : d ≤ stN l n b to (j + 1) x) :
    ∃ k D, npX l (stN l n b to j) x d n = (D, k) ∧ k < n ∧ d ≤ D ∧ D ≤ stN l n b to j (nextG l k x).toNat ∧ odP l D k = true ∧ ((x : Int) = gtA l k ∨ (x : Int) = gtB l k) := by
  have hg := fun k (hk : k < n) => (gOk_iff _ _ _ _ _).1 (okL_at ((validM_iff _ _ _).1 hva).2.2.2 hk)
  have h1 : d ≤ stX l (stN l n b to j) x n := h1
  rcases stX_at l (stN l n b to j) x n with e | ⟨k, hk, ht, e⟩
  · omega
  · have g3 := hg k hk
    have hle : stN l n b to j (nextG l k x).toNat ≤ to := stN_hi hva hto j _
    have h2 := cl_is g3.2.2.2.1 g3.2.2.2.2.1 g3.2.2.2.2.2.1 g3.2.2.2.2.2.2 (s := stN l n b to j (nextG l k x).toNat) (by omega)
    have ho : openingM (gtF l k) (gtT l k) d ≤ closingM (gtF l k) (gtT l k) (stN l n b to j (nextG l k x).toNat) := by
      rcases Int.lt_or_le (closingM (gtF l k) (gtT l k) (stN l n b to j (nextG l k x).toNat)) (openingM (gtF l k) (gtT l k) d) with h | h
      · have := op_not g3.2.2.2.1 g3.2.2.2.2.1 g3.2.2.2.2.2.1 g3.2.2.2.2.2.2 h0 (by omega : d ≤ closingM (gtF l k) (gtT l k) (stN l n b to j (nextG l k x).toNat)) h
        rw [h2.1] at this
        cases this
      · exact h
    rcases npX_at l (stN l n b to j) x d n with e2 | ⟨k2, hk2, e2, t2, o2⟩
    · have := npX_min l (stN l n b to j) x d n k hk ht (by omega) (by omega)
      rw [e2] at this
      have h5 : (1048577 : Int) < _ ∨ ((1048577 : Int) = _ ∧ _) := this
      omega
    · have g4 := hg k2 hk2
      have hle2 : stN l n b to j (nextG l k2 x).toNat ≤ to := stN_hi hva hto j _
      have h4 := op_is g4.2.2.2.1 g4.2.2.2.2.1 g4.2.2.2.2.2.1 g4.2.2.2.2.2.2 h0 (by omega)
      exact ⟨k2, _, e2, hk2, h4.2, o2, h4.1, tch_iff.1 t2⟩
/-- The path: its passes. -/
def pathL (l : List Value) (n b : Nat) (to : Int) : Nat → Int → Int → List (Int × Nat)
  | 0, _, _ => []
  | j + 1, x, d => npX l (stN l n b to j) x d n :: pathL l n b to j (nextG l (npX l (stN l n b to j) x d n).2 x) (npX l (stN l n b to j) x d n).1
theorem pathL_len : ∀ j x d, (pathL l n b to j x d).length = j
  | 0, _, _ => rfl
  | j + 1, x, d => by
    show (pathL l n b to j _ _).length + 1 = j + 1
    rw [pathL_len j]
end
end Go.Proofs.Z

namespace Go.Proofs.Z
open Go Go.RowKit Go.Proofs Go.Ri Go.Proofs.Z.Fa
/-! closing and across: runs and contracts. -/
noncomputable def csP : St := ⟨patW [(1, sI 4), (2, .ptr 0 0), (8, sI 9), (9, sI 6)] 21 0, [some (.cells [sI 0, sI 1, sI 2, sI 3] 75 false false)]⟩
noncomputable def csE (b : Bool) : Tb := { T := [⟨.bin .add, sI 4, lI 1, sI 10⟩, ⟨.bin .lss, lI 360, sI 10, bR b⟩] }
noncomputable def csB : Code := hB (csE true) [] fClosing ogA
noncomputable def csK : List Fr := hK (csE true) [] fClosing ogA
set_option maxRecDepth 100000 in
theorem cs_enter : enterT (csE true) [] fClosing ogA (.int 6 (lI 0) :: .int 9 (lI 360) :: ogI) [0] csP = true := by kernel_rfl
set_option maxRecDepth 100000 in
theorem cs_enter2 : enterT (csE false) [] fClosing ogA (.int 6 (lI 0) :: .int 9 (sI 10) :: ogI) [0] csP = true := by kernel_rfl
set_option maxRecDepth 100000 in
theorem cs_eB : hB (csE false) [] fClosing ogA = csB := by kernel_rfl
set_option maxRecDepth 100000 in
theorem cs_eK : hK (csE false) [] fClosing ogA = csK := by kernel_rfl
def csT : List TE := [⟨.bin .lss, sI 6, sI 9, bR true⟩, ⟨.bin .sub, sI 4, sI 6, sI 7⟩, ⟨.bin .add, sI 6, lI 1, sI 8⟩]
noncomputable def csTb (o : Bool) : Tb := { T := csT, Y := [⟨fIsOpen, [gateR 0, sI 7], bR o⟩] }
set_option maxRecDepth 100000 in
theorem cs_again : againT (csTb false) [] csB csK csP (.int 6 (sI 8) :: .int 9 (sI 9) :: ogI) [0] csP = true := by kernel_rfl
set_option maxRecDepth 100000 in
theorem cs_out : outF (csTb true) [] fClosing csB csK csP (sI 7) = true := by kernel_rfl
set_option maxRecDepth 100000 in
theorem cs_end : outF { T := [⟨.bin .lss, sI 6, sI 9, bR false⟩] } [] fClosing csB csK csP (lI (-1)) = true := by kernel_rfl
theorem closing_at {fr to d : Int} {n : Nat} (h0 : 0 ≤ fr) (h1 : fr < 360) (h2 : 0 ≤ to) (h3 : to < 360) (hnd : (n : Int) ≤ d) (hn : n < 360) (ho : openM fr to (d - n) = true) (hc : ∀ k : Nat, k < n → openM fr to (d - k) = false) : closingM fr to d = d - n := by
  have ho' := (openM_iff _ _ _).1 ho
  unfold closingM
  rw [if_neg (by omega)]
  by_cases hz : n = 0
  · subst hz
    have ho0 : openM fr to d = true := by simpa using ho
    rw [if_pos ho0]
    simp
  · have hc0 : openM fr to d = false := by simpa using hc 0 (by omega)
    have hc1 := (openM_not _ _ _).1 (hc (n - 1) (by omega))
    have hc2 := (openM_not _ _ _).1 hc0
    rw [hc0, if_neg (by decide)]
    have e : (d % 360 - to + 1) % 360 = n := by omega
    rw [e, if_pos hnd]
theorem closing_no {fr to d : Int} (h0 : 0 ≤ fr) (h1 : fr < 360) (h2 : 0 ≤ to) (h3 : to < 360) (_ : -1 ≤ d) (hc : ∀ k : Nat, (k : Int) < 360 → (k : Int) < d + 1 → openM fr to (d - k) = false) : closingM fr to d = -1 := by
  unfold closingM
  by_cases h : d < 0 ∨ fr = to
  · rw [if_pos h]
  · rw [if_neg h]
    have hc0 : openM fr to d = false := by simpa using hc 0 (by omega) (by omega)
    rw [hc0, if_neg (by decide)]
    by_cases hd : (d % 360 - to + 1) % 360 ≤ d
    · have := (openM_not _ _ _).1 (hc ((d % 360 - to + 1) % 360).toNat (by omega) (by omega))
      omega
    · rw [if_neg hd]
def csNm (a b fr to d : Int) (m : Int) (n : Nat) : Nm := ⟨fun i => if i = 0 then a else if i = 1 then b else if i = 2 then fr else if i = 3 then to else if i = 4 then d else if i = 6 then (n : Int) else if i = 7 then d - n else if i = 9 then m else if i = 10 then d + 1 else (n : Int) + 1, fun _ => false, fun _ => ⟨#[]⟩, fun _ => []⟩
theorem cs_ids (a b fr to d m : Int) (n n' : Nat) (W W' : Nat → Value) : ∀ q, q ∈ ogI → okSE ((csNm a b fr to d m n).val W) ((csNm a b fr to d m n').val W') q :=
  ids_ok [0, 1, 2, 3, 4] (fa rfl (fa rfl (fa rfl (fa rfl (fa rfl fz)))))
theorem closing_ans (a b fr to d : Int) (h0 : 0 ≤ fr) (h1 : fr < 360) (h2 : 0 ≤ to) (h3 : to < 360) (hd : -1 ≤ d) (hb : d ≤ 10000000) : Ans fClosing [gateV a b fr to, .int .i64 d] (.int .i64 (closingM fr to d)) := by
  intro w hr
  obtain ⟨m, hm⟩ : ∃ m : Int, m = if 360 < d + 1 then 360 else d + 1 := ⟨_, rfl⟩
  have hm0 : 0 ≤ m ∧ m ≤ 360 ∧ m ≤ d + 1 := by
    rw [hm]
    split <;> omega
  have ht : @TbOK ((csNm a b fr to d m 0).val fun _ => undef) (csE (decide (360 < d + 1))) := by
    letI : Val := (csNm a b fr to d m 0).val fun _ => undef
    exact { T := fa (f_add (m := d) (n := 1) (r := d + 1) rfl rfl rfl rfl rfl (by omega) (by omega)) (fa (f_lss (k := .i64) (m := 360) (n := d + 1) rfl rfl rfl) fz) }
  have key : ∀ (e : Bool) (r : RV), enterT (csE e) [] fClosing ogA (.int 6 (lI 0) :: .int 9 r :: ogI) [0] csP = true → hB (csE e) [] fClosing ogA = csB → hK (csE e) [] fClosing ogA = csK → @TbOK ((csNm a b fr to d m 0).val fun _ => undef) (csE e) → (∀ W W', okSE ((csNm a b fr to d m 0).val W) ((csNm a b fr to d m 0).val W') (.int 9 r)) → Calls Tryz.prog fClosing #[gateV a b fr to, .int .i64 d] w (DF (.int .i64 (closingM fr to d)) w) := by
    intro e r hen eB eK ht h9
    refine fn_loop (κ := Unit) (csNm a b fr to d m 0) (fun _ => undef) (csE e) [] fClosing ogA (fun _ => csP) (fun q _ c => ∃ n : Nat, n ≤ 360 ∧ (n : Int) ≤ m ∧ c = csNm a b fr to d m n ∧ q = 360 - n ∧ ∀ k : Nat, k < n → openM fr to (d - k) = false) ht (.int 6 (lI 0) :: .int 9 r :: ogI) [0] () 360 hen (csNm a b fr to d m 0) (fun W' => holds_all (fa ⟨.i64, 0, rfl, rfl⟩ (fa (h9 _ _) (cs_ids a b fr to d m 0 0 _ _)))) ⟨0, by omega, by omega, rfl, rfl, fun k hk => by omega⟩ (DF (.int .i64 (closingM fr to d))) ?_ w hr [gateV a b fr to, .int .i64 d] (@nval_flat ((csNm a b fr to d m 0).val fun _ => undef) w ogA rfl)
    rw [eB, eK]
    rintro w q _ c ⟨n, hn, hnm, rfl, rfl, hcl⟩ W
    letI V : Val := (csNm a b fr to d m n).val W
    rcases Int.lt_or_le (n : Int) m with hlt | hge
    · have fT : ∀ q, q ∈ csT → TETrue q := fa (f_lss (k := .i64) (m := (n : Int)) (n := m) rfl rfl (decide_eq_true hlt)) (fa (f_sub (m := d) (n := (n : Int)) (r := d - n) rfl rfl rfl rfl rfl (by omega) (by omega)) (fa (f_add1 (m := (n : Int)) rfl rfl rfl (by omega) (by omega)) fz))
      have ho2 := open_ans a b fr to (d - n) (by omega)
      cases ho : openM fr to (d - n) with
      | true =>
        rw [ho] at ho2
        refine step_outF (csTb true) [] { T := fT, Y := fa ho2 fz } (sI 7) cs_out ?_
        show Value.int .i64 (d - n) = _
        rw [closing_at h0 h1 h2 h3 (by omega) (by omega) ho hcl]
      | false =>
        rw [ho] at ho2
        refine step_to (csTb false) [] { T := fT, Y := fa ho2 fz } (.int 6 (sI 8) :: .int 9 (sI 9) :: ogI) [0] () (csNm a b fr to d m (n + 1)) cs_again (fun W' => holds_all (fa ⟨.i64, (n : Int) + 1, rfl, rfl⟩ (fa ⟨.i64, m, rfl, rfl⟩ (cs_ids a b fr to d m n (n + 1) _ _)))) ⟨360 - (n + 1), by omega, n + 1, by omega, by omega, rfl, rfl, fun k hk => ?_⟩
        rcases Nat.lt_or_eq_of_le (Nat.le_of_lt_succ hk) with h | rfl
        · exact hcl k h
        · exact ho
    · refine step_outF { T := [⟨.bin .lss, sI 6, sI 9, bR false⟩] } [] { T := fa (f_lss (k := .i64) (m := (n : Int)) (n := m) rfl rfl (decide_eq_false (by omega))) fz } (lI (-1)) cs_end ?_
      show Value.int .i64 (-1) = _
      rw [closing_no h0 h1 h2 h3 hd fun k hk1 hk2 => hcl k (by
        rw [hm] at hge
        split at hge <;> omega)]
  by_cases hc : (360 : Int) < d + 1
  · rw [decide_eq_true hc] at ht
    refine key true (lI 360) cs_enter rfl rfl ht fun W W' => ⟨.i64, 360, rfl, ?_⟩
    show m = 360
    rw [hm, if_pos hc]
  · rw [decide_eq_false hc] at ht
    refine key false (sI 10) cs_enter2 cs_eB cs_eK ht fun W W' => ⟨.i64, d + 1, rfl, ?_⟩
    show m = d + 1
    rw [hm, if_neg hc]
/-! across -/
abbrev fAcross : Nat := 88
noncomputable def acT (pa pb : Bool) : List TE := [⟨.ieq, sI 8, sI 3, bR pa⟩, ⟨.ieq, sI 8, sI 4, bR pb⟩]
noncomputable def acR (pa pb : Bool) : RV := if pa then .tup [sI 4, lI 1] else if pb then .tup [sI 3, lI (-1)] else .tup [lI 0, lI 0]
noncomputable def acRun (pa pb : Bool) : Bool := runOK noX (acT pa pb) [] 1000 20 fAcross [.agg [sI 3, sI 4, sI 5, sI 6], sI 8] (acR pa pb)
set_option maxRecDepth 100000 in
theorem ac_run : (all2 fun pa => all2 fun pb => acRun pa pb) = true := by kernel_rfl
def acV (a b x : Int) : Value := if x = a then .tuple #[.int .i64 b, .int .i64 1] else if x = b then .tuple #[.int .i64 a, .int .i64 (-1)] else .tuple #[.int .i64 0, .int .i64 0]
theorem across_ans (a b fr to x : Int) : Ans fAcross [gateV a b fr to, .int .i64 x] (acV a b x) := by
  letI V : Val := VE (fun i => if i = 3 then a else if i = 4 then b else if i = 5 then fr else if i = 6 then to else x) (fun _ => false)
  have := @ans V noX _ _ noX_true (fa (f_ieq (k := .i64) (m := x) (n := a) rfl rfl (eqdec _ _)) (fa (f_ieq (k := .i64) (m := x) (n := b) rfl rfl (eqdec _ _)) fz)) fz _ _ _ _ _ (all2_all (all2_all ac_run (decide (x = a))) (decide (x = b)))
  have e : acV a b x = @cvF V (acR (decide (x = a)) (decide (x = b))) := by
    unfold acV acR
    by_cases ha : x = a
    · rw [if_pos ha, decide_eq_true ha]
      rfl
    · rw [if_neg ha, decide_eq_false ha]
      by_cases hb : x = b
      · rw [if_pos hb, decide_eq_true hb]
        rfl
      · rw [if_neg hb, decide_eq_false hb]
        rfl
  rw [e]
  exact this
end Go.Proofs.Z
