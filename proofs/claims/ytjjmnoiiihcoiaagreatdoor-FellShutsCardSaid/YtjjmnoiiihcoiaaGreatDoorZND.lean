/- A part of the proofs that the laws of layer four answer true for every input. -/
import Derived.Test.YtjjmnoiiihcoiaaGreatDoorZGQ
import Derived.Test.YtjjmnoiiihcoiaaGreatDoorZHd
import Derived.Test.YtjjmnoiiihcoiaaGreatDoorZQN
import Derived.Test.YtjjmnoiiihcoiaaGreatDoorZJD
import Derived.Test.YtjjmnoiiihcoiaaGreatDoorZJB
import Derived.Test.YtjjmnoiiihcoiaaGreatDoorZGY
namespace Go.Proofs.Z
/-! Lanes and cuts: flows over gates, in both directions, at most one a gate. -/
section
variable (A B : Nat → Nat)
def ind (p : Bool) : Int := if p then 1 else 0
/-- What leaves v, less what comes to v, by the first k gates. -/
def netF (t : Nat → Int) : Nat → Nat → Int
  | 0, _ => 0
  | k + 1, v => netF t k v + t k * (ind (decide (A k = v)) - ind (decide (B k = v)))
/-- What leaves the set S. -/
def outS (t : Nat → Int) (S : Nat → Bool) : Nat → Int
  | 0 => 0
  | k + 1 => outS t S k + t k * (ind (S (A k)) - ind (S (B k)))
/-- The gates in use that lead out of S. -/
def cutC (u : Nat → Bool) (S : Nat → Bool) : Nat → Nat
  | 0 => 0
  | k + 1 => cutC u S k + if u k && (S (A k) != S (B k)) then 1 else 0
def sumS (S : Nat → Bool) (f : Nat → Int) : Nat → Int
  | 0 => 0
  | m + 1 => sumS S f m + if S m then f m else 0
theorem sum_add (S : Nat → Bool) (f g : Nat → Int) : ∀ m, sumS S (fun v => f v + g v) m = sumS S f m + sumS S g m
  | 0 => rfl
  | m + 1 => by
    unfold sumS
    rw [sum_add S f g m]
    split <;> omega
theorem sum_mul (S : Nat → Bool) (c : Int) (f : Nat → Int) : ∀ m, sumS S (fun v => c * f v) m = c * sumS S f m
  | 0 => by simp [sumS]
  | m + 1 => by
    unfold sumS
    rw [sum_mul S c f m, Int.mul_add]
    split <;> simp
theorem sum_sub (S : Nat → Bool) (f g : Nat → Int) : ∀ m, sumS S (fun v => f v - g v) m = sumS S f m - sumS S g m
  | 0 => rfl
  | m + 1 => by
    unfold sumS
    rw [sum_sub S f g m]
    split <;> omega
theorem sum_ind (S : Nat → Bool) (x : Nat) : ∀ m, sumS S (fun v => ind (decide (x = v))) m = if x < m then ind (S x) else 0
  | 0 => rfl
  | m + 1 => by
    unfold sumS
    rw [sum_ind S x m]
    by_cases h : x = m
    · subst h
      rw [if_neg (Nat.lt_irrefl x), if_pos (Nat.lt_succ_self x), decide_eq_true rfl]
      cases S x <;> rfl
    · rw [decide_eq_false h]
      have : (if S m = true then ind false else 0) = 0 := by split <;> rfl
      rw [this, Int.add_zero]
      by_cases h2 : x < m
      · rw [if_pos h2, if_pos (by omega)]
      · rw [if_neg h2, if_neg (by omega)]
variable {A B}
theorem sum_net (t : Nat → Int) (S : Nat → Bool) (m : Nat) : ∀ k, (∀ i, i < k → A i < m ∧ B i < m) → sumS S (netF A B t k) m = outS A B t S k
  | 0, _ => by
    have key : ∀ m, sumS S (fun _ => 0) m = 0 := fun m => by
      induction m with
      | zero => rfl
      | succ m ih => unfold sumS; rw [ih]; split <;> rfl
    exact key m
  | k + 1, h => by
    have e : netF A B t (k + 1) = fun v => netF A B t k v + t k * (ind (decide (A k = v)) - ind (decide (B k = v))) := rfl
    obtain ⟨h1, h2⟩ := h k (by omega)
    rw [e, sum_add, sum_mul, sum_sub, sum_net t S m k (fun i hi => h i (by omega)), sum_ind, sum_ind, if_pos h1, if_pos h2]
    rfl
/-- A flow of k lanes from a to b by the gates of u. -/
structure IsFlow (A B : Nat → Nat) (n : Nat) (u : Nat → Bool) (a b : Nat) (t : Nat → Int) (k : Int) : Prop where
  one : ∀ i, i < n → t i = -1 ∨ t i = 0 ∨ t i = 1
  use : ∀ i, i < n → t i ≠ 0 → u i = true
  net : ∀ v, netF A B t n v = k * (ind (decide (a = v)) - ind (decide (b = v)))
theorem flow_out {n : Nat} {u : Nat → Bool} {a b : Nat} {t : Nat → Int} {k : Int} (hr : ∀ i, i < n → A i < 16 ∧ B i < 16) (ha : a < 16) (hb : b < 16) (F : IsFlow A B n u a b t k) (S : Nat → Bool) : outS A B t S n = k * (ind (S a) - ind (S b)) := by
  rw [← sum_net t S 16 n hr]
  have e : netF A B t n = fun v => k * (ind (decide (a = v)) - ind (decide (b = v))) := funext F.net
  rw [e, sum_mul, sum_sub, sum_ind, sum_ind, if_pos ha, if_pos hb]
theorem out_le {n : Nat} {u : Nat → Bool} {t : Nat → Int} (S : Nat → Bool) : ∀ k, k ≤ n → (∀ i, i < n → t i = -1 ∨ t i = 0 ∨ t i = 1) → (∀ i, i < n → t i ≠ 0 → u i = true) → outS A B t S k ≤ cutC A B u S k
  | 0, _, _, _ => Int.le_refl _
  | k + 1, hk, h1, h2 => by
    have ih := out_le S k (by omega) h1 h2
    unfold outS cutC
    have key : t k * (ind (S (A k)) - ind (S (B k))) ≤ ((if u k && (S (A k) != S (B k)) then 1 else 0 : Nat) : Int) := by
      rcases h1 k (by omega) with e | e | e
      · rw [e, h2 k (by omega) (by omega)]
        cases S (A k) <;> cases S (B k) <;> decide
      · rw [e, Int.zero_mul]
        exact Int.natCast_nonneg _
      · rw [e, h2 k (by omega) (by omega)]
        cases S (A k) <;> cases S (B k) <;> decide
    omega
theorem weak {n : Nat} {u : Nat → Bool} {a b : Nat} {t : Nat → Int} {k : Int} (hr : ∀ i, i < n → A i < 16 ∧ B i < 16) (ha : a < 16) (hb : b < 16) (F : IsFlow A B n u a b t k) {S : Nat → Bool} (hSa : S a = true) (hSb : S b = false) : k ≤ cutC A B u S n := by
  have h1 := flow_out hr ha hb F S
  have h2 := out_le (A := A) (B := B) S n (Nat.le_refl _) F.one F.use
  rw [hSa, hSb] at h1
  have : k * (ind true - ind false) = k := by simp [ind]
  omega
/-- The way of a gate from x: 1 from A to B, -1 from B to A, 0 not at all. -/
def wayF (A B : Nat → Nat) (i x : Nat) : Int := if x = A i then 1 else if x = B i then -1 else 0
/-- The other side of a gate. -/
def othF (A B : Nat → Nat) (i x : Nat) : Nat := if x = A i then B i else A i
theorem out_full {n : Nat} {u : Nat → Bool} {t : Nat → Int} (hne : ∀ i, i < n → A i ≠ B i) {S : Nat → Bool} (huse : ∀ i, i < n → t i ≠ 0 → u i = true) (hcl : ∀ i x, i < n → u i = true → S x = true → wayF A B i x ≠ 0 → t i ≠ wayF A B i x → S (othF A B i x) = true) : ∀ k, k ≤ n → outS A B t S k = cutC A B u S k
  | 0, _ => rfl
  | k + 1, hk => by
    have ih := out_full hne huse hcl k (by omega)
    unfold outS cutC
    rw [ih]
    have hlt : k < n := by omega
    have hab := hne k hlt
    have key : t k * (ind (S (A k)) - ind (S (B k))) = ((if u k && (S (A k) != S (B k)) then 1 else 0 : Nat) : Int) := by
      cases hu : u k with
      | false =>
        have h0 : t k = 0 := by
          rcases Int.lt_trichotomy (t k) 0 with h | h | h
          · rw [huse k hlt (by omega)] at hu; cases hu
          · exact h
          · rw [huse k hlt (by omega)] at hu; cases hu
        rw [h0, Int.zero_mul]
        rfl
      | true =>
        have wA : wayF A B k (A k) = 1 := if_pos rfl
        have wB : wayF A B k (B k) = -1 := by unfold wayF; rw [if_neg (Ne.symm hab), if_pos rfl]
        have oA : othF A B k (A k) = B k := if_pos rfl
        have oB : othF A B k (B k) = A k := by unfold othF; rw [if_neg (Ne.symm hab)]
        cases hA : S (A k) <;> cases hB : S (B k)
        · simp [ind]
        · have : t k = -1 := by
            by_cases h : t k = -1
            · exact h
            · have := hcl k (B k) hlt hu hB (by rw [wB]; decide) (by rw [wB]; exact h)
              rw [oB, hA] at this
              cases this
          rw [this]
          rfl
        · have : t k = 1 := by
            by_cases h : t k = 1
            · exact h
            · have := hcl k (A k) hlt hu hA (by rw [wA]; decide) (by rw [wA]; exact h)
              rw [oA, hB] at this
              cases this
          rw [this]
          rfl
        · simp [ind]
    omega
/-- As many lanes as gates to shut. -/
def IsMF (A B : Nat → Nat) (n : Nat) (u : Nat → Bool) (a b k : Nat) : Prop := (∃ t, IsFlow A B n u a b t (k : Int)) ∧ ∃ S : Nat → Bool, S a = true ∧ S b = false ∧ cutC A B u S n = k
theorem mf_le {n : Nat} {u : Nat → Bool} {a b k : Nat} (hr : ∀ i, i < n → A i < 16 ∧ B i < 16) (ha : a < 16) (hb : b < 16) (h : IsMF A B n u a b k) {S : Nat → Bool} (hSa : S a = true) (hSb : S b = false) : k ≤ cutC A B u S n := by
  obtain ⟨⟨t, F⟩, _⟩ := h
  have := weak hr ha hb F hSa hSb
  omega
theorem mf_uniq {n : Nat} {u : Nat → Bool} {a b k k' : Nat} (hr : ∀ i, i < n → A i < 16 ∧ B i < 16) (ha : a < 16) (hb : b < 16) (h : IsMF A B n u a b k) (h' : IsMF A B n u a b k') : k = k' := by
  obtain ⟨S, s1, s2, s3⟩ := h.2
  obtain ⟨S', r1, r2, r3⟩ := h'.2
  have h1 := mf_le hr ha hb h r1 r2
  have h2 := mf_le hr ha hb h' s1 s2
  omega
/-- No way on: the lanes are as many as possible. -/
theorem mf_of_closed {n : Nat} {u : Nat → Bool} {a b : Nat} {t : Nat → Int} {k : Nat} (hr : ∀ i, i < n → A i < 16 ∧ B i < 16) (hne : ∀ i, i < n → A i ≠ B i) (ha : a < 16) (hb : b < 16) (F : IsFlow A B n u a b t (k : Int)) {S : Nat → Bool} (hSa : S a = true) (hSb : S b = false)
    (hcl : ∀ i x, i < n → u i = true → S x = true → wayF A B i x ≠ 0 → t i ≠ wayF A B i x → S (othF A B i x) = true) : IsMF A B n u a b k := by
  refine ⟨⟨t, F⟩, S, hSa, hSb, ?_⟩
  have h1 := flow_out hr ha hb F S
  have h2 := out_full hne F.use hcl n (Nat.le_refl _)
  rw [hSa, hSb] at h1
  have : (k : Int) * (ind true - ind false) = k := by simp [ind]
  omega
theorem flow_zero (n : Nat) (u : Nat → Bool) (a b : Nat) : IsFlow A B n u a b (fun _ => 0) 0 := by
  refine ⟨fun i _ => .inr (.inl rfl), fun i _ h => absurd rfl h, fun v => ?_⟩
  rw [Int.zero_mul]
  induction n with
  | zero => rfl
  | succ n ih =>
    unfold netF
    rw [ih]
    simp
/-! One lane more. -/
def updF (t : Nat → Int) (i : Nat) (x : Int) : Nat → Int := fun j => if j = i then x else t j
theorem net_upd (t : Nat → Int) (i : Nat) (x : Int) (v : Nat) : ∀ k, netF A B (updF t i x) k v = netF A B t k v + if i < k then (x - t i) * (ind (decide (A i = v)) - ind (decide (B i = v))) else 0
  | 0 => rfl
  | k + 1 => by
    unfold netF
    rw [net_upd t i x v k]
    by_cases h : k = i
    · subst h
      rw [if_neg (by omega), if_pos (by omega)]
      have e : updF t k x k = x := if_pos rfl
      rw [e, Int.sub_mul]
      omega
    · have e : updF t i x k = t k := if_neg h
      rw [e]
      by_cases h2 : i < k
      · rw [if_pos h2, if_pos (by omega)]
        omega
      · rw [if_neg h2, if_neg (by omega), Int.add_zero, Int.add_zero]
/-- A tree of ways from a: how each grazing of S was come to. -/
structure Tree (A B : Nat → Nat) (n : Nat) (u : Nat → Bool) (a : Nat) (t : Nat → Int) (S : Nat → Bool) (by_ : Nat → Nat) (r : Nat → Nat) : Prop where
  gate : ∀ y, S y = true → y ≠ a → by_ y < n ∧ u (by_ y) = true ∧ wayF A B (by_ y) y ≠ 0 ∧ t (by_ y) ≠ wayF A B (by_ y) (othF A B (by_ y) y)
  back : ∀ y, S y = true → y ≠ a → S (othF A B (by_ y) y) = true ∧ r (othF A B (by_ y) y) < r y
/-- The way back: y is where it has come to. -/
structure Trace (A B : Nat → Nat) (n : Nat) (u : Nat → Bool) (a b : Nat) (t0 : Nat → Int) (k : Int) (S : Nat → Bool) (by_ r : Nat → Nat) (t : Nat → Int) (y : Nat) : Prop where
  one : ∀ i, i < n → t i = -1 ∨ t i = 0 ∨ t i = 1
  use : ∀ i, i < n → t i ≠ 0 → u i = true
  net : ∀ v, netF A B t n v = k * (ind (decide (a = v)) - ind (decide (b = v))) + (ind (decide (y = v)) - ind (decide (b = v)))
  sy : S y = true
  old : ∀ z, S z = true → z ≠ a → r z ≤ r y → t (by_ z) = t0 (by_ z)
theorem way_oth {i y : Nat} (hne : A i ≠ B i) (h : wayF A B i y ≠ 0) : wayF A B i (othF A B i y) = - wayF A B i y ∧ othF A B i (othF A B i y) = y ∧ othF A B i y ≠ y := by
  unfold wayF othF at *
  by_cases h1 : y = A i
  · subst h1
    have := hne
    rw [if_pos rfl, if_pos rfl, if_neg (Ne.symm this), if_pos rfl, if_neg (Ne.symm this)]
    exact ⟨rfl, rfl, Ne.symm this⟩
  · rw [if_neg h1] at h ⊢
    by_cases h2 : y = B i
    · subst h2
      rw [if_pos rfl, if_neg h1, if_pos rfl, if_pos rfl]
      exact ⟨rfl, rfl, Ne.symm h1⟩
    · rw [if_neg h2] at h
      exact absurd rfl h
theorem trace_start {n : Nat} {u : Nat → Bool} {a b : Nat} {t0 : Nat → Int} {k : Int} {S : Nat → Bool} {by_ r : Nat → Nat} (F : IsFlow A B n u a b t0 k) (hb : S b = true) : Trace A B n u a b t0 k S by_ r t0 b :=
  ⟨F.one, F.use, fun v => by rw [F.net v]; omega, hb, fun _ _ _ _ => rfl⟩
theorem trace_step {n : Nat} {u : Nat → Bool} {a b : Nat} {t0 t : Nat → Int} {k : Int} {S : Nat → Bool} {by_ r : Nat → Nat} {y : Nat} (hne : ∀ i, i < n → A i ≠ B i) (T : Tree A B n u a t0 S by_ r) (h : Trace A B n u a b t0 k S by_ r t y) (hya : y ≠ a) :
    Trace A B n u a b t0 k S by_ r (updF t (by_ y) (t (by_ y) - wayF A B (by_ y) y)) (othF A B (by_ y) y) := by
  obtain ⟨g1, g2, g3, g4⟩ := T.gate y h.sy hya
  obtain ⟨b1, b2⟩ := T.back y h.sy hya
  have ht := h.old y h.sy hya (Nat.le_refl _)
  obtain ⟨w1, w2, w3⟩ := way_oth (A := A) (B := B) (hne _ g1) g3
  have hw : wayF A B (by_ y) y = 1 ∨ wayF A B (by_ y) y = -1 := by
    unfold wayF at g3 ⊢
    split
    · exact .inl rfl
    · rename_i h1
      rw [if_neg h1] at g3
      split
      · exact .inr rfl
      · rename_i h2
        rw [if_neg h2] at g3
        exact absurd rfl g3
  refine ⟨fun i hi => ?_, fun i hi hz => ?_, fun v => ?_, b1, fun z hz hza hr => ?_⟩
  · unfold updF
    by_cases e : i = by_ y
    · rw [if_pos e]
      have h1 := h.one _ g1
      rw [← ht, w1] at g4
      rcases hw with hw | hw <;> rw [hw] at g4 ⊢ <;> omega
    · rw [if_neg e]
      exact h.one i hi
  · by_cases e : i = by_ y
    · rw [e]
      exact g2
    · refine h.use i hi fun h0 => hz ?_
      unfold updF
      rw [if_neg e]
      exact h0
  · rw [net_upd, if_pos g1, h.net v]
    have e : t (by_ y) - wayF A B (by_ y) y - t (by_ y) = - wayF A B (by_ y) y := by omega
    rw [e]
    unfold wayF othF at *
    by_cases h1 : y = A (by_ y)
    · rw [if_pos h1, if_pos h1, ← h1]
      omega
    · rw [if_neg h1] at g3 ⊢
      rw [if_neg h1]
      by_cases h2 : y = B (by_ y)
      · rw [if_pos h2, ← h2]
        omega
      · rw [if_neg h2] at g3
        exact absurd rfl g3
  · by_cases e : by_ z = by_ y
    · exfalso
      obtain ⟨z1, z2, z3, z4⟩ := T.gate z hz hza
      obtain ⟨c1, c2⟩ := T.back z hz hza
      rw [e] at z3 c2
      have hzx : z = othF A B (by_ y) y ∨ z = y := by
        unfold wayF at z3 g3
        unfold othF
        by_cases h1 : z = A (by_ y) <;> by_cases h2 : y = A (by_ y)
        · exact .inr (h1.trans h2.symm)
        · rw [if_neg h2]
          exact .inl h1
        · rw [if_pos h2]
          rw [if_neg h1] at z3
          by_cases h3 : z = B (by_ y)
          · exact .inl h3
          · rw [if_neg h3] at z3
            exact absurd rfl z3
        · rw [if_neg h1] at z3
          rw [if_neg h2] at g3
          by_cases h3 : z = B (by_ y)
          · by_cases h4 : y = B (by_ y)
            · exact .inr (h3.trans h4.symm)
            · rw [if_neg h4] at g3
              exact absurd rfl g3
          · rw [if_neg h3] at z3
            exact absurd rfl z3
      rcases hzx with h1 | h1
      · rw [h1, w2] at c2
        omega
      · rw [h1] at hr
        omega
    · unfold updF
      rw [if_neg e]
      exact h.old z hz hza (by omega)
theorem trace_end {n : Nat} {u : Nat → Bool} {a b : Nat} {t0 t : Nat → Int} {k : Int} {S : Nat → Bool} {by_ r : Nat → Nat} (h : Trace A B n u a b t0 k S by_ r t a) : IsFlow A B n u a b t (k + 1) :=
  ⟨h.one, h.use, fun v => by rw [h.net v, Int.add_mul, Int.one_mul]⟩
/-! Gates shut one by one. -/
theorem cut_drop (u : Nat → Bool) (i : Nat) (S : Nat → Bool) : ∀ k, cutC A B u S k = cutC A B (fun j => u j && decide (j ≠ i)) S k + if i < k then (if u i && (S (A i) != S (B i)) then 1 else 0) else 0
  | 0 => rfl
  | k + 1 => by
    have ih := cut_drop u i S k
    unfold cutC
    rw [ih]
    by_cases h : k = i
    · subst h
      rw [if_neg (Nat.lt_irrefl k), if_pos (Nat.lt_succ_self k)]
      simp
    · have e : decide (k ≠ i) = true := decide_eq_true h
      rw [e, Bool.and_true]
      by_cases h2 : i < k
      · rw [if_pos h2, if_pos (show i < k + 1 by omega)]
        omega
      · rw [if_neg h2, if_neg (show ¬ i < k + 1 by omega)]
        omega
theorem mf_drop {n : Nat} {u : Nat → Bool} {a b k k' i : Nat} (hr : ∀ i, i < n → A i < 16 ∧ B i < 16) (ha : a < 16) (hb : b < 16) (h : IsMF A B n u a b k) (h' : IsMF A B n (fun j => u j && decide (j ≠ i)) a b k') : k' ≤ k ∧ k ≤ k' + 1 ∧ (u i = false → k = k') := by
  obtain ⟨S, r1, r2, r3⟩ := h.2
  obtain ⟨S', q1, q2, q3⟩ := h'.2
  have hle := mf_le hr ha hb h q1 q2
  have hle' := mf_le hr ha hb h' r1 r2
  have d := cut_drop (A := A) (B := B) u i S n
  have d' := cut_drop (A := A) (B := B) u i S' n
  have z : (if i < n then (if u i && (S' (A i) != S' (B i)) then 1 else 0) else 0) ≤ 1 := by
    split
    · split <;> omega
    · omega
  refine ⟨by omega, by omega, fun hu => ?_⟩
  have e : ∀ Q : Bool, (if i < n then (if u i && Q then 1 else 0) else 0) = 0 := fun Q => by
    rw [hu]
    simp
  rw [e] at d d'
  omega
end
end Go.Proofs.Z

namespace Go.Proofs.Z
open Go Go.RowKit Go.Proofs Go.Ri Go.Proofs.Z.Fa
/-! addLane: runs. 20 and 21 the ends, 8 the grazing, 9 the other side, 10 the set, 11 the set then, 12 the other side's bit, 15 what the gate is used for; lists: 0 the gates, 30 the use of the gates, 31 then, 40 the gate by which a grazing was come to, 41 then, 50 the queue, 51 then, 52 its rest. -/
abbrev fAdd : Nat := 119
abbrev tTraffic : Nat := 116
abbrev tArr16 : Nat := 99
def fellS : RV := .agg [sI 0, .slA 0 0 4]
def adA : List RV := [.ptr 3 0, fellS, sI 20, sI 21]
def z32 : List RV := List.replicate 32 (lI 0)
def mlH (j : Nat) : RH := [some (.lstA 0), some (.cells [sI 0, .slA 0 0 4] tFell false false), some (.cells z32 tTraffic false false), some (.lst j tTraffic true)]
def adH : RH := mlH 30
noncomputable def adB0 : RH := adH ++ [some (.cells [sI 0, .slA 0 0 4] tFell false false), some (.lst 40 tArr16 true)]
/-- The queue: 0 of the first grazing alone, taken out; 1 gathered from nothing; 2 what is left of one. -/
def adQ (q : Nat) : RV := if q = 0 then .sl 6 0 0 1 (some 0) else if q = 1 then .slN 6 50 1 else .slA 6 50 1
noncomputable def adO (q : Nat) : Option RO := if q = 0 then some (.cells [sI 20] tInt false false) else if q = 1 then some (.lst 50 tInt true) else some (.lstQ 50 tInt 1)
noncomputable def adIn (q : Nat) : St := ⟨patW [(0, .ptr 3 0), (2, sI 20), (3, sI 21), (5, .ptr 4 0), (9, .ptr 5 0), (10, sU 10), (11, adQ q), (12, sI 8), (34, .slA 0 0 4), (35, sI 1), (36, sI 2)] 114 0, adB0 ++ [adO q]⟩
noncomputable def adOut (q : Nat) : St := ⟨patW [(0, .ptr 3 0), (2, sI 20), (3, sI 21), (5, .ptr 4 0), (9, .ptr 5 0), (10, sU 10), (11, adQ q)] 114 0, adB0 ++ [adO q]⟩
noncomputable def adE : Tb := { LL := [⟨0, 4, sI 1⟩], Y := [⟨fOnly, [sI 20], sU 10⟩] }
def adS (i x s : RV) : List SE := [.int 0 (sI 0), .int 1 (sI 1), .int 2 i, .int 8 x, .int 10 s, .int 20 (sI 20), .int 21 (sI 21), .lst 0 0, .lst 30 30]
def adOS : List SE := [.int 0 (sI 0), .int 1 (sI 1), .int 10 (sU 10), .int 20 (sI 20), .int 21 (sI 21), .lst 0 0, .lst 30 30]
def z16L : List RV := List.replicate 16 (lI 0)
set_option maxRecDepth 100000 in
theorem ad_enter : atH (entH adE [false] fAdd adA adH) fAdd 1 (.new 40 z16L :: adS (lI 0) (sI 20) (sU 10)) [0, 1, 2, 3, 4, 5, 6] (adIn 0) = true := by kernel_rfl
def adAc (w : Nat) : RV := if w = 0 then .tup [lI 0, lI 0] else if w = 1 then .tup [sI 9, lI 1] else .tup [sI 9, lI (-1)]
def adWay (w : Nat) : RV := if w = 1 then lI 1 else lI (-1)
def adGo (w : Nat) (u e h : Bool) : Bool := !(Nat.beq w 0) && u && !e && !h
noncomputable def adTb (w : Nat) (u e h q : Bool) : Tb := { T := hT true ++ ((if w = 0 then [] else [⟨.inb, sI 2, lI 32, bR true⟩, ⟨.ieq, sI 15, adWay w, bR e⟩, ⟨.inb, sI 9, lI 16, bR true⟩, ⟨.bin .or, sU 10, sU 12, sU 11⟩]) ++ if adGo w u e h then [⟨.ieq, sI 9, sI 21, bR q⟩] else []), LL := [⟨0, 4, sI 1⟩], LX := ⟨0, 2, [sI 3, sI 4, sI 5, sI 6]⟩ :: (if w = 0 then [] else [⟨30, 2, [sI 15]⟩]), LA := if w = 0 then [] else [⟨50, [sI 9], 51⟩], LW := if w = 0 then [] else [⟨40, 9, sI 2, 41⟩], Y := ⟨fAcross, [gateQ, sI 8], adAc w⟩ :: ((if w = 0 then [] else [⟨fUsable, [gateQ], bR u⟩, ⟨fHas, [sU 10, sI 9], bR h⟩, ⟨fOnly, [sI 9], sU 12⟩]) ++ if adGo w u e h then [⟨fHas, [sU 11, sI 21], bR q⟩] else []) }
noncomputable def ad1 (q w : Nat) (u e h : Bool) : Bool := atH (fromH (adTb w u e h false) [] fAdd 1 (adIn q)) fAdd 1 (.lst 40 40 :: .lst 50 50 :: adS (sI 7) (sI 8) (sU 10)) [0, 1, 2, 3, 4, 5, 6] (adIn q)
set_option maxRecDepth 100000 in
theorem ad_skip : (allU 3 fun q => allU 3 fun w => all2 fun u => all2 fun e => all2 fun h => adGo w u e h || ad1 q w u e h) = true := by kernel_rfl
def adPushS (q : Nat) : SE := if q = 0 then .new 50 [sI 9] else .lst 50 51
def adPushQ (q : Nat) : Nat := if q = 0 then 1 else q
noncomputable def ad2 (q w : Nat) : Bool := atH (fromH (adTb w true false false false) [] fAdd 1 (adIn q)) fAdd 1 (.lst 40 41 :: adPushS q :: adS (sI 7) (sI 8) (sU 11)) [0, 1, 2, 3, 4, 5, 9] (adIn (adPushQ q))
set_option maxRecDepth 100000 in
theorem ad_push : (allU 3 fun q => allU 3 fun w => Nat.beq w 0 || ad2 q w) = true := by kernel_rfl
/-- The way back: 9 the grazing, 18 the gate by which it was come to, 19 the other side, 15 and 16 what the gate is used for. -/
noncomputable def adTr : St := ⟨patW [(0, .ptr 3 0), (2, sI 20), (5, .ptr 4 0), (9, .ptr 5 0), (17, sI 9)] 114 0, adB0⟩
def adTS (y : RV) : List SE := [.int 0 (sI 0), .int 1 (sI 1), .int 9 y, .int 20 (sI 20), .lst 0 0]
noncomputable def ad3 (q w : Nat) : Bool := atH (fromH (adTb w true false false true) [] fAdd 1 (adIn q)) fAdd 2 (.lst 40 41 :: .lst 30 30 :: adTS (sI 21)) [0, 1, 2, 3, 4, 5] adTr
set_option maxRecDepth 100000 in
theorem ad_found : (allU 3 fun q => allU 3 fun w => Nat.beq w 0 || ad3 q w) = true := by kernel_rfl
set_option maxRecDepth 100000 in
theorem ad_next : (allU 3 fun q => atH (fromH { T := hT false, LL := [⟨0, 4, sI 1⟩] } [] fAdd 1 (adIn q)) fAdd 0 (.lst 40 40 :: .lst 50 50 :: adOS) [0, 1, 2, 3, 4, 5, 6] (adOut q)) = true := by kernel_rfl
noncomputable def adOT (b : Bool) : Tb := { T := if b then [⟨.bin .gtr, sI 13, lI 0, bR true⟩, ⟨.inb, sI 14, sI 13, bR true⟩] else [⟨.bin .gtr, sI 13, lI 0, bR false⟩], LL := [⟨0, 4, sI 1⟩, ⟨50, 1, sI 13⟩], LX := if b then [⟨50, 14, [sI 18]⟩] else [], IZ := [(14, 0)], LP := if b then [⟨50, 1, some (lI 1), none, 52, 77777⟩] else [], Y := if b then [] else [⟨fHas, [sU 10, sI 21], bR false⟩] }
noncomputable def ad4 (q : Nat) : Bool := atH (fromH (adOT true) [] fAdd 0 (adOut q)) fAdd 1 (.lst 40 40 :: .lst 50 52 :: adS (lI 0) (sI 18) (sU 10)) [0, 1, 2, 3, 4, 5, 7] (adIn 2)
set_option maxRecDepth 100000 in
theorem ad_take : (allU 3 fun q => Nat.beq q 0 || ad4 q) = true := by kernel_rfl
def adK : RH := mlH 31
set_option maxRecDepth 100000 in
theorem ad_none : endQ (adOT false) fAdd (fromH { Y := [⟨fHas, [sU 10, sI 21], bR false⟩], LL := [⟨0, 4, sI 1⟩] } [] fAdd 0 (adOut 0)) [.int 0 (sI 0), .lst 0 0, .lst 31 30] [0, 1, 2, 3] (bR false) adK = true := by kernel_rfl
set_option maxRecDepth 100000 in
theorem ad_none2 : (allU 3 fun q => Nat.beq q 0 || endQ (adOT false) fAdd (fromH (adOT false) [] fAdd 0 (adOut q)) [.int 0 (sI 0), .lst 0 0, .lst 31 30] [0, 1, 2, 3] (bR false) adK) = true := by kernel_rfl
def adTW (w : Nat) : RV := if w = 1 then .tup [sI 19, lI 1] else .tup [sI 19, lI (-1)]
noncomputable def adTT (w : Nat) : Tb := { T := [⟨.ieq, sI 9, sI 20, bR false⟩, ⟨.inb, sI 9, lI 16, bR true⟩, ⟨.inb, sI 18, sI 1, bR true⟩, ⟨.inb, sI 18, lI 32, bR true⟩, ⟨.bin .sub, sI 15, adWay w, sI 16⟩], LL := [⟨0, 4, sI 1⟩], LX := [⟨0, 18, [sI 3, sI 4, sI 5, sI 6]⟩, ⟨40, 9, [sI 18]⟩, ⟨30, 18, [sI 15]⟩], LW := [⟨30, 18, sI 16, 31⟩], Y := [⟨fAcross, [gateQ, sI 9], adTW w⟩] }
set_option maxRecDepth 100000 in
theorem ad_back : (allU 3 fun w => Nat.beq w 0 || atH (fromH (adTT w) [] fAdd 2 adTr) fAdd 2 (.lst 40 40 :: .lst 30 31 :: adTS (sI 19)) [0, 1, 2, 3, 4, 5] adTr) = true := by kernel_rfl
noncomputable def adTE : Tb := { T := [⟨.ieq, sI 9, sI 20, bR true⟩], LL := [⟨0, 4, sI 1⟩] }
set_option maxRecDepth 100000 in
theorem ad_end : endQ adTE fAdd (fromH adTE [] fAdd 2 adTr) [.int 0 (sI 0), .lst 0 0, .lst 31 30] [0, 1, 2, 3] (bR true) adK = true := by kernel_rfl
end Go.Proofs.Z

namespace Go.Proofs.Z
/-! The search for one lane more: its steps, and what they come to. -/
inductive AS where
  | inn (q x i : Nat) (Q : List Nat) (S : Nat) (bf : Nat → Nat)
  | out (q : Nat) (Q : List Nat) (S : Nat) (bf : Nat → Nat)
  | tr (y : Nat) (t : Nat → Int) (bf : Nat → Nat)
def updN (f : Nat → Nat) (i x : Nat) : Nat → Nat := fun j => if j = i then x else f j
def pushQ (q : Nat) : Nat := if q = 0 then 1 else q
section
variable (A B : Nat → Nat) (n : Nat) (u : Nat → Bool) (a b : Nat) (t0 : Nat → Int)
def adGoP (x i S : Nat) : Bool := decide (wayF A B i x ≠ 0) && (u i && (!decide (t0 i = wayF A B i x) && !S.testBit (othF A B i x)))
def adStep (s : AS) : Sum AS (Bool × (Nat → Int)) := match s with
  | .inn q x i Q S bf => if i < n then (if adGoP A B u t0 x i S then (if othF A B i x = b then .inl (.tr b t0 (updN bf (othF A B i x) i)) else .inl (.inn (pushQ q) x (i + 1) (Q ++ [othF A B i x]) (S ||| 2 ^ othF A B i x) (updN bf (othF A B i x) i))) else .inl (.inn q x (i + 1) Q S bf)) else .inl (.out q Q S bf)
  | .out _ [] _ _ => .inr (false, t0)
  | .out _ (x :: Q) S bf => .inl (.inn 2 x 0 Q S bf)
  | .tr y t bf => if y = a then .inr (true, t) else .inl (.tr (othF A B (bf y) y) (updF t (bf y) (t (bf y) - wayF A B (bf y) y)) bf)
def AdRuns : Nat → AS → Bool × (Nat → Int) → Prop
  | 0, s, r => adStep A B n u a b t0 s = .inr r
  | m + 1, s, r => ∃ s', adStep A B n u a b t0 s = .inl s' ∧ AdRuns m s' r
/-- What holds of the set, and of how its grazings were come to. -/
def InvB (S : Nat) (bf : Nat → Nat) : Prop := S < 65536 ∧ S.testBit a = true ∧ ∃ r, Tree A B n u a t0 (fun x => S.testBit x) bf r ∧ ∀ y, S.testBit y = true → r y < cnt (fun x => S.testBit x) 16
def ClAt (S z i : Nat) : Prop := ∀ j, j < i → u j = true → wayF A B j z ≠ 0 → t0 j ≠ wayF A B j z → S.testBit (othF A B j z) = true
def InvQ (q : Nat) (Q : List Nat) (S : Nat) : Prop := q ≤ 2 ∧ (q = 0 → Q = []) ∧ (∀ y, y ∈ Q → S.testBit y = true) ∧ S.testBit b = false ∧ Q.length ≤ cnt (fun x => S.testBit x) 16
def AInv (k : Int) : AS → Prop
  | .inn q x i Q S bf => i ≤ n ∧ InvB A B n u a t0 S bf ∧ InvQ b q Q S ∧ S.testBit x = true ∧ ClAt A B u t0 S x i ∧ ∀ z, S.testBit z = true → z ∉ Q → z ≠ x → ClAt A B u t0 S z n
  | .out q Q S bf => InvB A B n u a t0 S bf ∧ InvQ b q Q S ∧ ∀ z, S.testBit z = true → z ∉ Q → ClAt A B u t0 S z n
  | .tr y t bf => ∃ S r, S < 65536 ∧ Tree A B n u a t0 (fun x => S.testBit x) bf r ∧ Trace A B n u a b t0 k (fun x => S.testBit x) bf r t y
variable {A B n u a b t0}
theorem or_bit (S y x : Nat) : (S ||| 2 ^ y).testBit x = (S.testBit x || decide (y = x)) := by rw [Nat.testBit_or, Nat.testBit_two_pow]
theorem bit_lt3 {S x : Nat} (hS : S < 65536) (h : S.testBit x = true) : x < 16 := by
  rcases Nat.lt_or_ge x 16 with h1 | h1
  · exact h1
  · have : S.testBit x = false := Nat.testBit_lt_two_pow (Nat.lt_of_lt_of_le hS (by
      have := Nat.pow_le_pow_right (n := 2) (by decide) h1
      simpa using this))
    rw [this] at h
    cases h
theorem oth_lt {i x : Nat} (hr : A i < 16 ∧ B i < 16) : othF A B i x < 16 := by
  unfold othF
  split
  · exact hr.2
  · exact hr.1
theorem goP_iff {x i S : Nat} : adGoP A B u t0 x i S = true ↔ wayF A B i x ≠ 0 ∧ u i = true ∧ t0 i ≠ wayF A B i x ∧ S.testBit (othF A B i x) = false := by
  unfold adGoP
  simp
theorem invB_push (hr : ∀ i, i < n → A i < 16 ∧ B i < 16) (hne : ∀ i, i < n → A i ≠ B i) {S : Nat} {bf : Nat → Nat} {x i : Nat} (hi : i < n) (hx : S.testBit x = true) (h : InvB A B n u a t0 S bf) (hg : adGoP A B u t0 x i S = true) :
    InvB A B n u a t0 (S ||| 2 ^ othF A B i x) (updN bf (othF A B i x) i) ∧ cnt (fun x => S.testBit x) 16 < cnt (fun z => (S ||| 2 ^ othF A B i x).testBit z) 16 := by
  obtain ⟨h1, h2, r, T, hr2⟩ := h
  obtain ⟨g1, g2, g3, g4⟩ := goP_iff.1 hg
  have hy := oth_lt (x := x) (hr i hi)
  obtain ⟨w1, w2, w3⟩ := way_oth (A := A) (B := B) (hne i hi) g1
  generalize othF A B i x = y at hy w1 w2 w3 g4 ⊢
  have hsub : ∀ z, S.testBit z = true → (S ||| 2 ^ y).testBit z = true := fun z hz => by rw [or_bit, hz]; rfl
  have hc : cnt (fun x => S.testBit x) 16 < cnt (fun z => (S ||| 2 ^ y).testBit z) 16 := cnt_lt (S := fun x => S.testBit x) hsub (i := y) g4 (by rw [or_bit]; simp) 16 hy
  have hnew : ∀ z, (S ||| 2 ^ y).testBit z = true → S.testBit z = true ∨ z = y := fun z hz => by
    rw [or_bit] at hz
    cases h : S.testBit z with
    | true => exact .inl rfl
    | false =>
      rw [h, Bool.false_or] at hz
      exact .inr (of_decide_eq_true hz).symm
  have hay : a ≠ y := fun e => by rw [e, g4] at h2; cases h2
  have hxy : x ≠ y := fun e => by rw [e, g4] at hx; cases hx
  refine ⟨⟨?_, hsub a h2, fun z => if z = y then cnt (fun x => S.testBit x) 16 else r z, ⟨fun z hz hza => ?_, fun z hz hza => ?_⟩, fun z hz => ?_⟩, hc⟩
  · exact Nat.or_lt_two_pow (n := 16) h1 (by
      have := Nat.pow_lt_pow_right (a := 2) (by decide) hy
      simpa using this)
  · unfold updN
    by_cases e : z = y
    · rw [if_pos e, e]
      refine ⟨hi, g2, ?_, ?_⟩
      · rw [w1]; omega
      · rw [w2]; exact g3
    · rw [if_neg e]
      exact T.gate z ((hnew z hz).resolve_right e) hza
  · unfold updN
    by_cases e : z = y
    · rw [if_pos e, e, w2, if_pos rfl, if_neg hxy]
      exact ⟨hsub x hx, hr2 x hx⟩
    · rw [if_neg e, if_neg e]
      obtain ⟨c1, c2⟩ := T.back z ((hnew z hz).resolve_right e) hza
      have : othF A B (bf z) z ≠ y := fun e2 => by
        have c1 : S.testBit (othF A B (bf z) z) = true := c1
        rw [e2, g4] at c1
        cases c1
      rw [if_neg this]
      exact ⟨hsub _ c1, c2⟩
  · show (if z = y then _ else r z) < _
    by_cases e : z = y
    · rw [if_pos e]
      exact hc
    · rw [if_neg e]
      have := hr2 z ((hnew z hz).resolve_right e)
      omega
theorem clAt_mono {S S' z i : Nat} (h : ∀ y, S.testBit y = true → S'.testBit y = true) (hc : ClAt A B u t0 S z i) : ClAt A B u t0 S' z i := fun j h1 h2 h3 h4 => h _ (hc j h1 h2 h3 h4)
variable {k : Nat}
theorem ad_inv (hr : ∀ i, i < n → A i < 16 ∧ B i < 16) (hne : ∀ i, i < n → A i ≠ B i) (F : IsFlow A B n u a b t0 (k : Int)) {s s' : AS} (h : AInv A B n u a b t0 (k : Int) s) (hs : adStep A B n u a b t0 s = .inl s') : AInv A B n u a b t0 (k : Int) s' := by
  cases s with
  | inn q x i Q S bf =>
    obtain ⟨h1, h2, ⟨q1, q2, q3, q4, q5⟩, h3, h4, h5⟩ := h
    simp only [adStep] at hs
    split at hs
    · rename_i hi
      split at hs
      · rename_i hg
        obtain ⟨g1, g2, g3, g4⟩ := goP_iff.1 hg
        obtain ⟨p1, p2⟩ := invB_push hr hne hi h3 h2 hg
        have hsub : ∀ z, S.testBit z = true → (S ||| 2 ^ othF A B i x).testBit z = true := fun z hz => by rw [or_bit, hz]; rfl
        have hin : (S ||| 2 ^ othF A B i x).testBit (othF A B i x) = true := by rw [or_bit]; simp
        split at hs
        · rename_i hb
          cases hs
          obtain ⟨p3, p4, r, T, hr2⟩ := p1
          exact ⟨S ||| 2 ^ othF A B i x, r, p3, T, trace_start F (hb ▸ hin)⟩
        · rename_i hb
          cases hs
          refine ⟨hi, p1, ⟨?_, ?_, ?_, ?_, ?_⟩, hsub x h3, ?_, ?_⟩
          · unfold pushQ
            split <;> omega
          · unfold pushQ
            intro e
            split at e <;> omega
          · intro y hy
            rcases List.mem_append.1 hy with hy | hy
            · exact hsub y (q3 y hy)
            · rw [List.mem_singleton.1 hy]
              exact hin
          · rw [or_bit, q4, Bool.false_or]
            exact decide_eq_false hb
          · rw [List.length_append]
            show Q.length + 1 ≤ _
            omega
          · intro j hj hu hw ht
            rcases Nat.lt_or_eq_of_le (Nat.le_of_lt_succ hj) with h | rfl
            · exact hsub _ (h4 j h hu hw ht)
            · exact hin
          · intro z hz hzq hzx
            rw [or_bit] at hz
            cases hS : S.testBit z with
            | true => exact clAt_mono hsub (h5 z hS (fun e => hzq (List.mem_append_left _ e)) hzx)
            | false =>
              rw [hS, Bool.false_or] at hz
              exact absurd (List.mem_append_right _ (List.mem_singleton.2 (of_decide_eq_true hz).symm)) hzq
      · rename_i hg
        cases hs
        refine ⟨hi, h2, ⟨q1, q2, q3, q4, q5⟩, h3, fun j hj hu hw ht => ?_, h5⟩
        rcases Nat.lt_or_eq_of_le (Nat.le_of_lt_succ hj) with h | rfl
        · exact h4 j h hu hw ht
        · cases hS : S.testBit (othF A B j x) with
          | true => rfl
          | false => exact absurd (goP_iff.2 ⟨hw, hu, ht, hS⟩) hg
    · rename_i hi
      cases hs
      obtain rfl : i = n := by omega
      refine ⟨h2, ⟨q1, q2, q3, q4, q5⟩, fun z hz hzq => ?_⟩
      by_cases e : z = x
      · rw [e]
        exact h4
      · exact h5 z hz hzq e
  | out q Q S bf =>
    obtain ⟨h2, ⟨q1, q2, q3, q4, q5⟩, h5⟩ := h
    cases Q with
    | nil => cases hs
    | cons x Q =>
      cases hs
      refine ⟨Nat.zero_le _, h2, ⟨Nat.le_refl _, fun e => absurd e (by decide), fun y hy => q3 y (List.mem_cons_of_mem _ hy), q4, ?_⟩, q3 x List.mem_cons_self, fun j hj => absurd hj (Nat.not_lt_zero _), fun z hz hzq hzx => h5 z hz fun e => ?_⟩
      · have : (x :: Q).length = Q.length + 1 := rfl
        omega
      · rcases List.mem_cons.1 e with e | e
        · exact hzx e
        · exact hzq e
  | tr y t bf =>
    obtain ⟨S, r, h1, T, h2⟩ := h
    simp only [adStep] at hs
    split at hs
    · cases hs
    · rename_i hya
      cases hs
      exact ⟨S, r, h1, T, trace_step hne T h2 hya⟩
theorem ad_done (hr : ∀ i, i < n → A i < 16 ∧ B i < 16) (hne : ∀ i, i < n → A i ≠ B i) (ha : a < 16) (hb : b < 16) (F : IsFlow A B n u a b t0 (k : Int)) {s : AS} {q : Bool} {t' : Nat → Int} (h : AInv A B n u a b t0 (k : Int) s) (hs : adStep A B n u a b t0 s = .inr (q, t')) :
    (q = false → t' = t0 ∧ IsMF A B n u a b k) ∧ (q = true → IsFlow A B n u a b t' ((k : Int) + 1)) := by
  cases s with
  | inn q x i Q S bf =>
    simp only [adStep] at hs
    split at hs
    · split at hs
      · split at hs <;> cases hs
      · cases hs
    · cases hs
  | out q Q S bf =>
    obtain ⟨⟨h1, h2, h3⟩, ⟨q1, q2, q3, q4, q5⟩, h5⟩ := h
    cases Q with
    | nil =>
      cases hs
      have key : IsMF A B n u a b k := mf_of_closed hr hne ha hb F (S := fun x => S.testBit x) h2 q4 fun i x hi hu hx hw ht => h5 x hx (by intro e; cases e) i hi hu hw ht
      exact ⟨fun _ => ⟨rfl, key⟩, (by intro e; cases e)⟩
    | cons x Q => cases hs
  | tr y t bf =>
    obtain ⟨S, r, h1, T, h2⟩ := h
    simp only [adStep] at hs
    split at hs
    · rename_i hya
      cases hs
      subst hya
      exact ⟨(by intro e; cases e), fun _ => trace_end h2⟩
    · cases hs
theorem ad_runs_tr (hne : ∀ i, i < n → A i ≠ B i) {S : Nat} {bf r : Nat → Nat} (T : Tree A B n u a t0 (fun x => S.testBit x) bf r) : ∀ (N y : Nat) (t : Nat → Int), r y ≤ N → Trace A B n u a b t0 (k : Int) (fun x => S.testBit x) bf r t y → ∃ m res, AdRuns A B n u a b t0 m (.tr y t bf) res := by
  intro N
  induction N with
  | zero =>
    intro y t hN h
    by_cases hya : y = a
    · exact ⟨0, (true, t), show adStep A B n u a b t0 (.tr y t bf) = _ by simp only [adStep, if_pos hya]⟩
    · have := (T.back y h.sy hya).2
      omega
  | succ N ih =>
    intro y t hN h
    by_cases hya : y = a
    · exact ⟨0, (true, t), show adStep A B n u a b t0 (.tr y t bf) = _ by simp only [adStep, if_pos hya]⟩
    · have hb2 := (T.back y h.sy hya).2
      obtain ⟨m, res, hm⟩ := ih _ _ (by omega) (trace_step hne T h hya)
      exact ⟨m + 1, res, _, show adStep A B n u a b t0 (.tr y t bf) = _ by simp only [adStep, if_neg hya], hm⟩
def adMu (n : Nat) : AS → Nat
  | .inn _ _ i Q S _ => (16 - cnt (fun x => S.testBit x) 16 + Q.length) * (n + 2) + (n + 1 - i)
  | .out _ Q S _ => (16 - cnt (fun x => S.testBit x) 16 + Q.length) * (n + 2)
  | .tr _ _ _ => 0
theorem ad_mu (hr : ∀ i, i < n → A i < 16 ∧ B i < 16) (hne : ∀ i, i < n → A i ≠ B i) {s s' : AS} (h : AInv A B n u a b t0 (k : Int) s) (hs : adStep A B n u a b t0 s = .inl s') : adMu n s' < adMu n s ∨ ∃ y t bf, s' = .tr y t bf := by
  cases s with
  | inn q x i Q S bf =>
    obtain ⟨h1, h2, ⟨q1, q2, q3, q4, q5⟩, h3, h4, h5⟩ := h
    simp only [adStep] at hs
    split at hs
    · rename_i hi
      split at hs
      · rename_i hg
        obtain ⟨p1, p2⟩ := invB_push hr hne hi h3 h2 hg
        split at hs
        · cases hs
          exact .inr ⟨_, _, _, rfl⟩
        · cases hs
          left
          have c1 := cnt_le (fun z => (S ||| 2 ^ othF A B i x).testBit z) 16
          show (16 - cnt (fun z => (S ||| 2 ^ othF A B i x).testBit z) 16 + (Q ++ [othF A B i x]).length) * (n + 2) + (n + 1 - (i + 1)) < (16 - cnt (fun x => S.testBit x) 16 + Q.length) * (n + 2) + (n + 1 - i)
          rw [List.length_append]
          have e : 16 - cnt (fun z => (S ||| 2 ^ othF A B i x).testBit z) 16 + (Q.length + [othF A B i x].length) ≤ 16 - cnt (fun x => S.testBit x) 16 + Q.length := by
            show _ + (Q.length + 1) ≤ _
            omega
          have := Nat.mul_le_mul_right (n + 2) e
          omega
      · cases hs
        left
        show _ * (n + 2) + (n + 1 - (i + 1)) < _ * (n + 2) + (n + 1 - i)
        omega
    · cases hs
      left
      show _ * (n + 2) < _ * (n + 2) + (n + 1 - i)
      omega
  | out q Q S bf =>
    cases Q with
    | nil => cases hs
    | cons x Q =>
      cases hs
      left
      show (16 - cnt (fun x => S.testBit x) 16 + Q.length) * (n + 2) + (n + 1 - 0) < (16 - cnt (fun x => S.testBit x) 16 + (Q.length + 1)) * (n + 2)
      rw [← Nat.add_assoc, Nat.succ_mul]
      omega
  | tr y t bf =>
    simp only [adStep] at hs
    split at hs
    · cases hs
    · cases hs
      exact .inr ⟨_, _, _, rfl⟩
theorem ad_runs (hr : ∀ i, i < n → A i < 16 ∧ B i < 16) (hne : ∀ i, i < n → A i ≠ B i) (F : IsFlow A B n u a b t0 (k : Int)) : ∀ (N : Nat) (s : AS), adMu n s ≤ N → AInv A B n u a b t0 (k : Int) s → ∃ m res, AdRuns A B n u a b t0 m s res := by
  intro N
  induction N with
  | zero =>
    intro s hN h
    cases hs : adStep A B n u a b t0 s with
    | inr r => exact ⟨0, r, hs⟩
    | inl s' =>
      have h' := ad_inv hr hne F h hs
      rcases ad_mu hr hne h hs with h1 | ⟨y, t, bf, rfl⟩
      · omega
      · obtain ⟨S, r, _, T, h2⟩ := h'
        obtain ⟨m, res, hm⟩ := ad_runs_tr hne T _ y t (Nat.le_refl _) h2
        exact ⟨m + 1, res, _, hs, hm⟩
  | succ N ih =>
    intro s hN h
    cases hs : adStep A B n u a b t0 s with
    | inr r => exact ⟨0, r, hs⟩
    | inl s' =>
      have h' := ad_inv hr hne F h hs
      rcases ad_mu hr hne h hs with h1 | ⟨y, t, bf, rfl⟩
      · obtain ⟨m, res, hm⟩ := ih s' (by omega) h'
        exact ⟨m + 1, res, _, hs, hm⟩
      · obtain ⟨S, r, _, T, h2⟩ := h'
        obtain ⟨m, res, hm⟩ := ad_runs_tr hne T _ y t (Nat.le_refl _) h2
        exact ⟨m + 1, res, _, hs, hm⟩
theorem ad_spec (hr : ∀ i, i < n → A i < 16 ∧ B i < 16) (hne : ∀ i, i < n → A i ≠ B i) (ha : a < 16) (hb : b < 16) (F : IsFlow A B n u a b t0 (k : Int)) : ∀ (m : Nat) (s : AS) (q : Bool) (t' : Nat → Int), AInv A B n u a b t0 (k : Int) s → AdRuns A B n u a b t0 m s (q, t') → (q = false → t' = t0 ∧ IsMF A B n u a b k) ∧ (q = true → IsFlow A B n u a b t' ((k : Int) + 1))
  | 0, _, _, _, h, hs => ad_done hr hne ha hb F h hs
  | m + 1, _, q, t', h, ⟨s', hs, hm⟩ => ad_spec hr hne ha hb F m s' q t' (ad_inv hr hne F h hs) hm
/-- Where the search begins. -/
def adS0 (a : Nat) : AS := .inn 0 a 0 [] (2 ^ a) (fun _ => 0)
theorem ad_start (ha : a < 16) (hab : a ≠ b) : AInv A B n u a b t0 (k : Int) (adS0 a) := by
  have hbit : ∀ x, (2 ^ a).testBit x = decide (a = x) := fun x => Nat.testBit_two_pow
  have hone : ∀ x, (2 ^ a).testBit x = true → x = a := fun x hx => by
    rw [hbit] at hx
    exact (of_decide_eq_true hx).symm
  have hself : (2 ^ a).testBit a = true := by rw [hbit]; simp
  have hpos : 0 < cnt (fun x => (2 ^ a).testBit x) 16 := by
    have := cnt_lt (S := fun _ => false) (T := fun x => (2 ^ a).testBit x) (fun x h => by cases h) (i := a) rfl hself 16 ha
    omega
  refine ⟨Nat.zero_le _, ⟨?_, hself, fun _ => 0, ⟨fun y hy hya => absurd (hone y hy) hya, fun y hy hya => absurd (hone y hy) hya⟩, fun y _ => hpos⟩, ⟨by omega, fun _ => rfl, (fun y hy => nomatch hy), ?_, Nat.zero_le _⟩, hself, fun j hj => absurd hj (Nat.not_lt_zero _), fun z hz _ hzx => absurd (hone z hz) hzx⟩
  · have := Nat.pow_lt_pow_right (a := 2) (by decide) ha
    simpa using this
  · rw [hbit]
    exact decide_eq_false hab
end
end Go.Proofs.Z

namespace Go.Proofs.Z
open Go Go.RowKit Go.Proofs Go.Ri Go.Proofs.Z.Fa
/-! addLane: its contract. -/
theorem ivl_set (f : Nat → Int) (j : Nat) (v : Int) : ∀ n, (ivl f n).set j (Value.int .i64 v) = ivl (fun i => if i = j then v else f i) n
  | 0 => rfl
  | n + 1 => by
    show (ivl f n ++ [Value.int .i64 (f n)]).set j _ = ivl (fun i => if i = j then v else f i) n ++ [Value.int .i64 (if n = j then v else f n)]
    by_cases h : j < n
    · rw [List.set_append_left _ _ (by rw [ivl_len]; exact h), ivl_set f j v n, if_neg (show n ≠ j by omega)]
    · rw [List.set_append_right _ _ (by rw [ivl_len]; omega), ivl_len]
      have e : ivl (fun i => if i = j then v else f i) n = ivl f n := ivl_congr n fun i hi => if_neg (by omega)
      rw [e]
      by_cases h2 : j = n
      · subst h2
        rw [Nat.sub_self, if_pos rfl]
        rfl
      · rw [if_neg (Ne.symm h2)]
        congr 1
        rw [List.set_eq_of_length_le]
        simp
        omega
theorem f_inb [Val] {a b : RV} {m n : Int} (ha : cv a = .int .i64 m) (hb : cv b = .int .i64 n) (h : 0 ≤ m ∧ m < n) : TETrue ⟨.inb, a, b, bR true⟩ :=
  ⟨rfl, .i64, .i64, m, n, ha, hb, congrArg Value.bool (decide_eq_true h).symm⟩
def intsL (Q : List Nat) : List Value := Q.map fun (q : Nat) => Value.int .i64 (q : Int)
def adI (l : List Value) (a b : Nat) (t : Nat → Int) (i x y S : Nat) (Q : List Nat) (hd o : Nat) (j : Nat) : Int :=
  if j = 8 then (x : Int) else if j = 9 then (y : Int) else if j = 10 then (S : Int) else if j = 11 then ((S ||| 2 ^ y : Nat) : Int) else if j = 12 then ((2 ^ y : Nat) : Int) else if j = 13 then (Q.length : Int) else if j = 14 then 0 else if j = 15 then t i else if j = 16 then t i - wayF (gA' l) (gB' l) i y else if j = 18 then (hd : Int) else if j = 19 then (o : Int) else if j = 20 then (a : Int) else if j = 21 then (b : Int) else 1
def adL (l : List Value) (t : Nat → Int) (i y : Nat) (Q : List Nat) (bf : Nat → Nat) (j : Nat) : List Value :=
  if j = 30 then ivl t 32 else if j = 31 then ivl (updF t i (t i - wayF (gA' l) (gB' l) i y)) 32 else if j = 40 then ivl (fun y => (bf y : Int)) 16 else if j = 41 then ivl (fun z => (updN bf y i z : Int)) 16 else if j = 50 then intsL Q else if j = 51 then intsL (Q ++ [y]) else intsL Q.tail
def adNm (G : Int) (l : List Value) (n a b : Nat) (t : Nat → Int) (i x y S : Nat) (Q : List Nat) (bf : Nat → Nat) (hd o : Nat) : Nm := gnm G l n i (adI l a b t i x y S Q hd o) ny (adL l t i y Q bf)
section
variable {G : Int} {l : List Value} {n a b : Nat} {t0 : Nat → Int}
def nmS (G : Int) (l : List Value) (n a b : Nat) (t0 : Nat → Int) : AS → Nm
  | .inn _ x i Q S bf => adNm G l n a b t0 i x (othF (gA' l) (gB' l) i x) S Q bf 0 0
  | .out _ Q S bf => adNm G l n a b t0 0 0 0 S Q bf (Q.headD 0) 0
  | .tr y t bf => adNm G l n a b t (bf y) 0 y 0 [] bf (bf y) (othF (gA' l) (gB' l) (bf y) y)
def keyS : AS → Nat × Nat
  | .inn q _ _ _ _ _ => (1, q)
  | .out q _ _ _ => (0, q)
  | .tr _ _ _ => (2, 0)
noncomputable def patS (k : Nat × Nat) : St := match k.1 with | 0 => adOut k.2 | 1 => adIn k.2 | _ => adTr
theorem gate_in (hva : validM G l n = true) : (∀ i, i < n → gA' l i < 16 ∧ gB' l i < 16) ∧ (∀ i, i < n → gA' l i ≠ gB' l i) := by
  refine ⟨fun i hi => ?_, fun i hi => ?_⟩
  · obtain ⟨a0, a1, b0, b1, _, _⟩ := gate_range hva hi
    unfold gA' gB'
    omega
  · have h := (validM_iff _ _ _).1 hva
    have := (gOk_iff _ _ _ _ _).1 (okL_at h.2.2.2 hi)
    unfold gA' gB'
    omega
def acw (l : List Value) (i x : Nat) : Nat := if x = gA' l i then 1 else if x = gB' l i then 2 else 0
theorem acw_lt (l : List Value) (i x : Nat) : acw l i x < 3 := by
  unfold acw
  split
  · omega
  · split <;> omega
theorem acw_way (l : List Value) (i x : Nat) : wayF (gA' l) (gB' l) i x = if acw l i x = 0 then 0 else if acw l i x = 1 then 1 else -1 := by
  unfold wayF acw
  by_cases h1 : x = gA' l i
  · rw [if_pos h1, if_pos h1]
    rfl
  · rw [if_neg h1, if_neg h1]
    by_cases h2 : x = gB' l i
    · rw [if_pos h2, if_pos h2]
      rfl
    · rw [if_neg h2, if_neg h2]
      rfl
theorem across_w (hva : validM G l n = true) {i x : Nat} (hi : i < n) : Ans fAcross [gateV (gtA l i) (gtB l i) (gtF l i) (gtT l i), .int .i64 (x : Int)] (if acw l i x = 0 then .tuple #[.int .i64 0, .int .i64 0] else if acw l i x = 1 then .tuple #[.int .i64 (othF (gA' l) (gB' l) i x : Int), .int .i64 1] else .tuple #[.int .i64 (othF (gA' l) (gB' l) i x : Int), .int .i64 (-1)]) := by
  obtain ⟨a0, a1, b0, b1, _, _⟩ := gate_range hva hi
  have h := across_ans (gtA l i) (gtB l i) (gtF l i) (gtT l i) (x : Int)
  have e : acV (gtA l i) (gtB l i) (x : Int) = if acw l i x = 0 then .tuple #[.int .i64 0, .int .i64 0] else if acw l i x = 1 then .tuple #[.int .i64 (othF (gA' l) (gB' l) i x : Int), .int .i64 1] else .tuple #[.int .i64 (othF (gA' l) (gB' l) i x : Int), .int .i64 (-1)] := by
    have ea : (((gA' l i : Nat) : Int)) = gtA l i := by unfold gA'; omega
    have eb : (((gB' l i : Nat) : Int)) = gtB l i := by unfold gB'; omega
    unfold acV acw othF
    by_cases h1 : x = gA' l i
    · rw [if_pos (show (x : Int) = gtA l i by omega), if_pos h1, if_pos h1, eb]
      rfl
    · rw [if_neg (show ¬ (x : Int) = gtA l i by omega), if_neg h1]
      by_cases h2 : x = gB' l i
      · rw [if_pos (show (x : Int) = gtB l i by omega), if_pos h2, if_neg h1, ea]
        rfl
      · rw [if_neg (show ¬ (x : Int) = gtB l i by omega), if_neg h2]
        rfl
  rw [← e]
  exact h
theorem intsL_one (Q : List Nat) : ∀ v, v ∈ intsL Q → v.oneCell' = true := fun v hv => by
  obtain ⟨q, _, rfl⟩ := List.mem_map.1 hv
  rfl
/-- What is known in a round over a gate. -/
theorem ad_tb (hl : ints l) (hn : l.length = n * 4) (hva : validM G l n = true) (hb : b < 16) {k : Nat} {q x i : Nat} {Q : List Nat} {S : Nat} {bf : Nat → Nat} (hi : i < n) (h : AInv (gA' l) (gB' l) n (usP l) a b t0 (k : Int) (.inn q x i Q S bf)) (W : Nat → Value) :
    @TbOK ((nmS G l n a b t0 (.inn q x i Q S bf)).val W) (adTb (acw l i x) (usP l i) (decide (t0 i = wayF (gA' l) (gB' l) i x)) (S.testBit (othF (gA' l) (gB' l) i x)) (decide (othF (gA' l) (gB' l) i x = b))) := by
  letI V : Val := (nmS G l n a b t0 (.inn q x i Q S bf)).val W
  obtain ⟨h1, ⟨h2, h3, _⟩, ⟨q1, q2, q3, q4, q5⟩, h4, h5, h6⟩ := h
  have hb32 : n ≤ 32 := ((validM_iff _ _ _).1 hva).2.2.1
  have hy : othF (gA' l) (gB' l) i x < 16 := oth_lt ((gate_in hva).1 i hi)
  have hac := across_w hva (x := x) hi
  have hway := acw_way l i x
  have hQ : Q.length ≤ 16 := Nat.le_trans q5 (cnt_le _ 16)
  have hTw := hT_ok (G := G) (l := l) (n := n) (x := adI l a b t0 i x (othF (gA' l) (gB' l) i x) S Q 0 0) (y := ny) (z := adL l t0 i (othF (gA' l) (gB' l) i x) Q bf) (show i ≤ 1000000000 by omega) W (b := true) (decide_eq_true hi)
  have hXw := hLX_ok (G := G) (x := adI l a b t0 i x (othF (gA' l) (gB' l) i x) S Q 0 0) (y := ny) (z := adL l t0 i (othF (gA' l) (gB' l) i x) Q bf) hl hn hi W
  have key : ∀ w, acw l i x = w → TbOK (adTb w (usP l i) (decide (t0 i = wayF (gA' l) (gB' l) i x)) (S.testBit (othF (gA' l) (gB' l) i x)) (decide (othF (gA' l) (gB' l) i x = b))) := fun w hw => by
    rw [hw] at hac hway
    have hgo : adGo w (usP l i) (decide (t0 i = wayF (gA' l) (gB' l) i x)) (S.testBit (othF (gA' l) (gB' l) i x)) = true → ∀ q, decide (othF (gA' l) (gB' l) i x = b) = q → (S ||| 2 ^ othF (gA' l) (gB' l) i x).testBit b = q := fun _ q hq => by
      rw [or_bit, q4, Bool.false_or]
      exact hq
    have hlt : S ||| 2 ^ othF (gA' l) (gB' l) i x < 65536 := Nat.or_lt_two_pow (n := 16) h2 (pow_lt16 hy)
    by_cases h0 : w = 0
    · subst h0
      rw [if_pos rfl] at hac
      refine { T := fapp hTw (fapp fz fz), LL := fa ⟨rfl, n, Nat.succ_pos 3, hn, rfl⟩ fz, LX := fapp hXw fz, Y := fa hac (fapp fz fz) }
    · have hadW : @cv V (adWay w) = .int .i64 (wayF (gA' l) (gB' l) i x) := by
        rw [hway, if_neg h0]
        unfold adWay
        split <;> rfl
      have hadA : @cvF V (adAc w) = if w = 0 then .tuple #[.int .i64 0, .int .i64 0] else if w = 1 then .tuple #[.int .i64 (othF (gA' l) (gB' l) i x : Int), .int .i64 1] else .tuple #[.int .i64 (othF (gA' l) (gB' l) i x : Int), .int .i64 (-1)] := by
        unfold adAc
        rw [if_neg h0, if_neg h0]
        split <;> rfl
      rw [← hadA] at hac
      have us := usable_ans (gtA l i) (gtB l i) (gtF l i) (gtT l i)
      rw [show (!(gtF l i == gtT l i)) = usP l i from rfl] at us
      unfold adTb
      rw [if_neg h0, if_neg h0, if_neg h0, if_neg h0, if_neg h0]
      refine { T := fapp hTw (fapp (fa (f_inb (m := (i : Int)) (n := 32) rfl rfl (by omega)) (fa (f_ieq (k := .i64) (m := t0 i) (n := wayF (gA' l) (gB' l) i x) rfl hadW (eqdec _ _)) (fa (f_inb (m := (othF (gA' l) (gB' l) i x : Int)) (n := 16) rfl rfl (by omega)) (fa (f_bin rfl rfl rfl rfl (t_or16 h2 (pow_lt16 hy))) fz)))) ?_), LL := fa ⟨rfl, n, Nat.succ_pos 3, hn, rfl⟩ fz, LX := fapp hXw (fa ⟨rfl, ?_, ?_⟩ fz), LA := fa ⟨?_, ?_, intsL_one Q⟩ fz, LW := fa ⟨Int.natCast_nonneg _, ?_, ?_⟩ fz, Y := fa hac (fapp (fa us (fa (has_ans h2 hy) (fa (only_ans hy) fz))) ?_) }
      · split
        · exact fa (f_ieq (k := .i64) (m := (othF (gA' l) (gB' l) i x : Int)) (n := (b : Int)) rfl rfl (by rw [eqdec]; exact decide_eq_decide.2 (by omega))) fz
        · exact fz
      · split
        · rename_i hg
          have hh := has_ans hlt hb
          rw [hgo hg _ rfl] at hh
          exact fa hh fz
        · exact fz
      · show ((i : Int)).toNat * 1 + 1 ≤ (ivl t0 32).length
        rw [ivl_len]
        omega
      · show ((ivl t0 32).drop (((i : Int)).toNat * 1)).take 1 = [.int .i64 (t0 i)]
        rw [Int.toNat_natCast]
        exact ivl_row (by omega)
      · show intsL (Q ++ [_]) = intsL Q ++ _
        unfold intsL
        rw [List.map_append]
        rfl
      · show (intsL (Q ++ [_])).length ≤ _
        unfold intsL
        rw [List.length_map, List.length_append]
        show Q.length + 1 ≤ _
        omega
      · show ((othF (gA' l) (gB' l) i x : Int)).toNat < (ivl (fun y => (bf y : Int)) 16).length
        rw [ivl_len]
        omega
      · show ivl (fun z => (updN bf (othF (gA' l) (gB' l) i x) i z : Int)) 16 = (ivl (fun y => (bf y : Int)) 16).set ((othF (gA' l) (gB' l) i x : Int)).toNat (.int .i64 (i : Int))
        rw [Int.toNat_natCast, ivl_set]
        refine ivl_congr 16 fun j _ => ?_
        unfold updN
        split <;> rfl
  exact key _ rfl
theorem adGo_eq {l : List Value} {x i S : Nat} : adGo (acw l i x) (usP l i) (decide (t0 i = wayF (gA' l) (gB' l) i x)) (S.testBit (othF (gA' l) (gB' l) i x)) = adGoP (gA' l) (gB' l) (usP l) t0 x i S := by
  unfold adGo adGoP
  have : (!(Nat.beq (acw l i x) 0)) = decide (wayF (gA' l) (gB' l) i x ≠ 0) := by
    rw [acw_way]
    unfold acw
    split
    · rfl
    · split <;> rfl
  rw [this, Bool.and_assoc, Bool.and_assoc]
/-- What holds at a head. -/
def AdPhi (G : Int) (l : List Value) (n a b : Nat) (t0 : Nat → Int) (k : Nat) (res : Bool × (Nat → Int)) (m : Nat) (kk : Nat × Nat) (c : Nm) : Prop :=
  ∃ s, kk = keyS s ∧ c = nmS G l n a b t0 s ∧ AInv (gA' l) (gB' l) n (usP l) a b t0 (k : Int) s ∧ AdRuns (gA' l) (gB' l) n (usP l) a b t0 m s res
theorem okLs {V V' : Val} {i j : Nat} (v : List Value) (h1 : V'.L i = v) (h2 : V.L j = v) : okSE V V' (.lst i j) := h1.trans h2.symm
theorem ad_ids {V V' : Val} (G n a b : Int) (l tl : List Value) (i x s : RV) (mi mx ms : Int) (hi : @cv V i = .int .i64 mi) (hx : @cv V x = .int .i64 mx) (hs : @cv V s = .int .u16 ms) (h2 : V'.I 2 = mi) (h8 : V'.I 8 = mx) (h10 : V'.I 10 = ms) (g0 : V.I 0 = G) (g1 : V.I 1 = n) (g2 : V.I 20 = a) (g3 : V.I 21 = b) (g4 : V.L 0 = l) (g5 : V.L 30 = tl) (h0 : V'.I 0 = G) (h1 : V'.I 1 = n) (h20 : V'.I 20 = a) (h21 : V'.I 21 = b) (hl : V'.L 0 = l) (ht : V'.L 30 = tl) : ∀ e, e ∈ adS i x s → okSE V V' e :=
  fa ⟨.i64, G, congrArg _ g0, h0⟩ (fa ⟨.i64, n, congrArg _ g1, h1⟩ (fa ⟨.i64, mi, hi, h2⟩ (fa ⟨.i64, mx, hx, h8⟩ (fa ⟨.u16, ms, hs, h10⟩ (fa ⟨.i64, a, congrArg _ g2, h20⟩ (fa ⟨.i64, b, congrArg _ g3, h21⟩ (fa (okLs l hl g4) (fa (okLs tl ht g5) fz))))))))
theorem range2 {E0 : Env} (hE : E0.length = 4) {R : List Nat} (h : R.take 4 = [0, 1, 2, 3]) : R.take E0.length = List.range E0.length := by
  rw [hE, h]
  rfl
set_option maxRecDepth 10000 in
theorem ad_step (hl : ints l) (hn : l.length = n * 4) (hva : validM G l n = true) (_ha : a < 16) (hb : b < 16) {k : Nat} (F : IsFlow (gA' l) (gB' l) n (usP l) a b t0 (k : Int)) {res : Bool × (Nat → Int)} (V : Val) (hVG : V.I 0 = G) (hV0 : V.L 0 = l) (hV31 : V.L 31 = ivl res.2 32) (base : Nat) (w0 : World) (E0 : Env) (hE : E0.length = 4) (m : Nat) (kk : Nat × Nat) (c : Nm) (hΦ : AdPhi G l n a b t0 k res m kk c) (W : Nat → Value) :
    StepH fAdd Prod.fst patS base w0 E0 (DE V base w0 E0 (bR res.1) adK) (fun k' c' => ∃ n', n' < m ∧ AdPhi G l n a b t0 k res n' k' c') kk c W := by
  obtain ⟨s, rfl, rfl, hI, hR⟩ := hΦ
  have hg := gate_in hva
  have hb32 : n ≤ 32 := ((validM_iff _ _ _).1 hva).2.2.1
  cases s with
  | inn q x i Q S bf =>
    have hI0 := hI
    obtain ⟨h1, ⟨h2, h3, _⟩, ⟨q1, q2, q3, q4, q5⟩, h4, h5, h6⟩ := hI0
    have hq3 : q < 3 := by omega
    cases m with
    | zero =>
      exfalso
      have hR : adStep _ _ _ _ _ _ _ _ = .inr res := hR
      simp only [adStep] at hR
      split at hR
      · split at hR
        · split at hR <;> cases hR
        · cases hR
      · cases hR
    | succ m =>
      obtain ⟨s', hs, hm⟩ := hR
      have hI' := ad_inv hg.1 hg.2 F hI hs
      by_cases hi : i < n
      · have ht := ad_tb hl hn hva hb hi hI W
        have hgo := adGo_eq (t0 := t0) (l := l) (x := x) (i := i) (S := S)
        have hs1 := hs
        simp only [adStep] at hs1
        rw [if_pos hi] at hs1
        by_cases hgp : adGoP (gA' l) (gB' l) (usP l) t0 x i S = true
        · rw [if_pos hgp] at hs1
          rw [hgp] at hgo
          obtain ⟨g1, g2, g3, g4⟩ := goP_iff.1 hgp
          have hw0 : Nat.beq (acw l i x) 0 = false := by
            cases h : Nat.beq (acw l i x) 0 with
            | false => rfl
            | true =>
              unfold adGo at hgo
              rw [h] at hgo
              simp at hgo
          rw [g2, decide_eq_false g3, g4] at ht
          by_cases hob : othF (gA' l) (gB' l) i x = b
          · rw [if_pos hob] at hs1
            cases hs1
            rw [decide_eq_true hob] at ht
            have hrun := allU_lt (allU_lt ad_found q hq3) (acw l i x) (acw_lt l i x)
            rw [hw0, Bool.false_or] at hrun
            refine stepH_to _ [] ht (.lst 40 41 :: .lst 30 30 :: adTS (sI 21)) [0, 1, 2, 3, 4, 5] (range2 hE rfl) (2, 0) (nmS G l n a b t0 (.tr b t0 (updN bf (othF (gA' l) (gB' l) i x) i))) hrun (fun W' => holds_all (fa (okLs (ivl (fun z => (updN bf (othF (gA' l) (gB' l) i x) i z : Int)) 16) rfl rfl) (fa (okLs (ivl t0 32) rfl rfl) (fa ⟨.i64, G, rfl, rfl⟩ (fa ⟨.i64, (n : Int), rfl, rfl⟩ (fa ⟨.i64, (b : Int), rfl, rfl⟩ (fa ⟨.i64, (a : Int), rfl, rfl⟩ (fa (okLs l rfl rfl) fz)))))))) ⟨m, by omega, _, rfl, rfl, hI', hm⟩
          · rw [if_neg hob] at hs1
            cases hs1
            rw [decide_eq_false hob] at ht
            have hrun := allU_lt (allU_lt ad_push q hq3) (acw l i x) (acw_lt l i x)
            rw [hw0, Bool.false_or] at hrun
            have hpq : adPushQ q = pushQ q := rfl
            unfold ad2 at hrun
            rw [hpq] at hrun
            refine stepH_to _ [] ht (.lst 40 41 :: adPushS q :: adS (sI 7) (sI 8) (sU 11)) [0, 1, 2, 3, 4, 5, 9] (range2 hE rfl) (1, pushQ q) (nmS G l n a b t0 (.inn (pushQ q) x (i + 1) (Q ++ [othF (gA' l) (gB' l) i x]) (S ||| 2 ^ othF (gA' l) (gB' l) i x) (updN bf (othF (gA' l) (gB' l) i x) i))) hrun (fun W' => holds_all (fa (okLs (ivl (fun z => (updN bf (othF (gA' l) (gB' l) i x) i z : Int)) 16) rfl rfl) (fa ?_ (ad_ids G n a b l (ivl t0 32) (sI 7) (sI 8) (sU 11) ((i : Int) + 1) (x : Int) ((S ||| 2 ^ othF (gA' l) (gB' l) i x : Nat) : Int) rfl rfl rfl rfl rfl rfl rfl rfl rfl rfl rfl rfl rfl rfl rfl rfl rfl rfl)))) ⟨m, by omega, _, rfl, rfl, hI', hm⟩
            unfold adPushS
            by_cases hq : q = 0
            · rw [if_pos hq]
              show intsL (Q ++ [_]) = _
              rw [q2 hq]
              rfl
            · rw [if_neg hq]
              exact okLs (intsL (Q ++ [othF (gA' l) (gB' l) i x])) rfl rfl
        · rw [if_neg hgp] at hs1
          cases hs1
          have hgf : adGoP (gA' l) (gB' l) (usP l) t0 x i S = false := by simpa using hgp
          rw [hgf] at hgo
          have hrun := all2_all (all2_all (all2_all (allU_lt (allU_lt ad_skip q hq3) (acw l i x) (acw_lt l i x)) (usP l i)) (decide (t0 i = wayF (gA' l) (gB' l) i x))) (S.testBit (othF (gA' l) (gB' l) i x))
          rw [hgo, Bool.false_or] at hrun
          have htq : ∀ q', adTb (acw l i x) (usP l i) (decide (t0 i = wayF (gA' l) (gB' l) i x)) (S.testBit (othF (gA' l) (gB' l) i x)) q' = adTb (acw l i x) (usP l i) (decide (t0 i = wayF (gA' l) (gB' l) i x)) (S.testBit (othF (gA' l) (gB' l) i x)) false := fun q' => by
            unfold adTb
            rw [hgo]
            rfl
          rw [htq] at ht
          exact stepH_to _ [] ht (.lst 40 40 :: .lst 50 50 :: adS (sI 7) (sI 8) (sU 10)) [0, 1, 2, 3, 4, 5, 6] (range2 hE rfl) (1, q) (nmS G l n a b t0 (.inn q x (i + 1) Q S bf)) hrun (fun W' => holds_all (fa (okLs (ivl (fun z => (bf z : Int)) 16) rfl rfl) (fa (okLs (intsL Q) rfl rfl) (ad_ids G n a b l (ivl t0 32) (sI 7) (sI 8) (sU 10) ((i : Int) + 1) (x : Int) (S : Int) rfl rfl rfl rfl rfl rfl rfl rfl rfl rfl rfl rfl rfl rfl rfl rfl rfl rfl)))) ⟨m, by omega, _, rfl, rfl, hI', hm⟩
      · have hs1 := hs
        simp only [adStep] at hs1
        rw [if_neg hi] at hs1
        cases hs1
        have ht : @TbOK ((nmS G l n a b t0 (.inn q x i Q S bf)).val W) { T := hT false, LL := [⟨0, 4, sI 1⟩] } := by
          letI : Val := (nmS G l n a b t0 (.inn q x i Q S bf)).val W
          exact { T := hT_ok _ _ _ (show i ≤ 1000000000 by omega) W (decide_eq_false hi), LL := fa ⟨rfl, n, Nat.succ_pos 3, hn, rfl⟩ fz }
        obtain rfl : i = n := by omega
        exact stepH_to _ [] ht (.lst 40 40 :: .lst 50 50 :: adOS) [0, 1, 2, 3, 4, 5, 6] (range2 hE rfl) (0, q) (nmS G l i a b t0 (.out q Q S bf)) (allU_lt ad_next q hq3) (fun W' => holds_all (fa (okLs (ivl (fun z => (bf z : Int)) 16) rfl rfl) (fa (okLs (intsL Q) rfl rfl) (fa ⟨.i64, G, rfl, rfl⟩ (fa ⟨.i64, (i : Int), rfl, rfl⟩ (fa ⟨.u16, (S : Int), rfl, rfl⟩ (fa ⟨.i64, (a : Int), rfl, rfl⟩ (fa ⟨.i64, (b : Int), rfl, rfl⟩ (fa (okLs l rfl rfl) (fa (okLs (ivl t0 32) rfl rfl) fz)))))))))) ⟨m, by omega, _, rfl, rfl, hI', hm⟩
  | out q Q S bf =>
    have hI0 := hI
    obtain ⟨⟨h2, h3, _⟩, ⟨q1, q2, q3, q4, q5⟩, h6⟩ := hI0
    have hq3 : q < 3 := by omega
    cases Q with
    | nil =>
      cases m with
      | succ m =>
        obtain ⟨s', hs, hm⟩ := hR
        cases hs
      | zero =>
        have hR : adStep (gA' l) (gB' l) n (usP l) a b t0 (.out q [] S bf) = .inr res := hR
        cases hR
        have hhas := has_ans h2 hb
        rw [q4] at hhas
        by_cases hq : q = 0
        · subst hq
          have ht : @TbOK ((nmS G l n a b t0 (.out 0 [] S bf)).val W) { Y := [⟨fHas, [sU 10, sI 21], bR false⟩], LL := [⟨0, 4, sI 1⟩] } := by
            letI : Val := (nmS G l n a b t0 (.out 0 [] S bf)).val W
            exact { Y := fa hhas fz, LL := fa ⟨rfl, n, Nat.succ_pos 3, hn, rfl⟩ fz }
          exact stepH_outE _ [] ht V [.int 0 (sI 0), .lst 0 0, .lst 31 30] (bR false) adK 4 hE ad_none rfl (holds_all (fa ⟨.i64, G, rfl, hVG⟩ (fa (okLs l hV0 rfl) (fa (okLs (ivl t0 32) hV31 rfl) fz))))
        · have ht : @TbOK ((nmS G l n a b t0 (.out q [] S bf)).val W) (adOT false) := by
            letI : Val := (nmS G l n a b t0 (.out q [] S bf)).val W
            exact { T := fa (f_gtr (k := .i64) (m := 0) (n := 0) rfl rfl (decide_eq_false (by omega))) fz, LL := fa ⟨rfl, n, Nat.succ_pos 3, hn, rfl⟩ (fa ⟨rfl, 0, Nat.succ_pos 0, rfl, rfl⟩ fz), IZ := fa rfl fz, Y := fa hhas fz }
          have hrun := allU_lt ad_none2 q hq3
          have hq0 : Nat.beq q 0 = false := by
            cases h : Nat.beq q 0 with
            | false => rfl
            | true => exact absurd (Nat.eq_of_beq_eq_true h) hq
          rw [hq0, Bool.false_or] at hrun
          exact stepH_outE _ [] ht V [.int 0 (sI 0), .lst 0 0, .lst 31 30] (bR false) adK 4 hE hrun rfl (holds_all (fa ⟨.i64, G, rfl, hVG⟩ (fa (okLs l hV0 rfl) (fa (okLs (ivl t0 32) hV31 rfl) fz))))
    | cons x Q =>
      cases m with
      | zero =>
        have hR : adStep (gA' l) (gB' l) n (usP l) a b t0 (.out q (x :: Q) S bf) = .inr res := hR
        cases hR
      | succ m =>
        obtain ⟨s', hs, hm⟩ := hR
        have hI' := ad_inv hg.1 hg.2 F hI hs
        cases hs
        have hq0 : Nat.beq q 0 = false := by
          cases h : Nat.beq q 0 with
          | false => rfl
          | true => cases q2 (Nat.eq_of_beq_eq_true h)
        have hrun := allU_lt ad_take q hq3
        rw [hq0, Bool.false_or] at hrun
        have ht : @TbOK ((nmS G l n a b t0 (.out q (x :: Q) S bf)).val W) (adOT true) := by
          letI : Val := (nmS G l n a b t0 (.out q (x :: Q) S bf)).val W
          have hlen : (((x :: Q).length : Nat) : Int) = (Q.length : Int) + 1 := rfl
          refine { T := fa (f_gtr (k := .i64) (m := ((x :: Q).length : Nat)) (n := 0) rfl rfl (decide_eq_true (by omega))) (fa (f_inb (m := 0) (n := ((x :: Q).length : Nat)) rfl rfl (by omega)) fz), LL := fa ⟨rfl, n, Nat.succ_pos 3, hn, rfl⟩ (fa ⟨rfl, (x :: Q).length, Nat.succ_pos 0, ?_, rfl⟩ fz), LX := fa ⟨rfl, ?_, ?_⟩ fz, IZ := fa rfl fz, LP := fa ⟨(x :: Q).length, 1, (x :: Q).length, ?_, ⟨rfl, .i64, rfl⟩, rfl, ?_, Nat.le_refl _, rfl, ?_⟩ fz }
          · show (intsL (x :: Q)).length = _
            unfold intsL
            rw [List.length_map, Nat.mul_one]
          · show (0 : Int).toNat * 1 + 1 ≤ (intsL (x :: Q)).length
            unfold intsL
            rw [List.length_map]
            show 0 * 1 + 1 ≤ Q.length + 1
            omega
          · rfl
          · show (intsL (x :: Q)).length = _
            unfold intsL
            rw [List.length_map, Nat.mul_one]
          · show 1 ≤ Q.length + 1
            omega
          · show intsL Q = ((intsL (x :: Q)).drop (1 * 1)).take (((x :: Q).length - 1) * 1)
            rw [Nat.mul_one, Nat.mul_one]
            show intsL Q = (intsL Q).take Q.length
            rw [List.take_of_length_le]
            unfold intsL
            rw [List.length_map]
            exact Nat.le_refl _
        exact stepH_to _ [] ht (.lst 40 40 :: .lst 50 52 :: adS (lI 0) (sI 18) (sU 10)) [0, 1, 2, 3, 4, 5, 7] (range2 hE rfl) (1, 2) (nmS G l n a b t0 (.inn 2 x 0 Q S bf)) hrun (fun W' => holds_all (fa (okLs (ivl (fun z => (bf z : Int)) 16) rfl rfl) (fa (okLs (intsL Q) rfl rfl) (ad_ids G n a b l (ivl t0 32) (lI 0) (sI 18) (sU 10) 0 (x : Int) (S : Int) rfl rfl rfl rfl rfl rfl rfl rfl rfl rfl rfl rfl rfl rfl rfl rfl rfl rfl)))) ⟨m, by omega, _, rfl, rfl, hI', hm⟩
  | tr y t bf =>
    have hI0 := hI
    obtain ⟨S, r, h1, T, h2⟩ := hI0
    have hy : y < 16 := bit_lt3 h1 h2.sy
    by_cases hya : y = a
    · cases m with
      | succ m =>
        obtain ⟨s', hs, hm⟩ := hR
        simp only [adStep, if_pos hya] at hs
        cases hs
      | zero =>
        have hR : adStep (gA' l) (gB' l) n (usP l) a b t0 (.tr y t bf) = .inr res := hR
        simp only [adStep, if_pos hya] at hR
        cases hR
        have ht : @TbOK ((nmS G l n a b t0 (.tr y t bf)).val W) adTE := by
          letI : Val := (nmS G l n a b t0 (.tr y t bf)).val W
          exact { T := fa (f_ieq (k := .i64) (m := (y : Int)) (n := (a : Int)) rfl rfl (by rw [eqdec]; exact decide_eq_true (by omega))) fz, LL := fa ⟨rfl, n, Nat.succ_pos 3, hn, rfl⟩ fz }
        exact stepH_outE _ [] ht V [.int 0 (sI 0), .lst 0 0, .lst 31 30] (bR true) adK 4 hE ad_end rfl (holds_all (fa ⟨.i64, G, rfl, hVG⟩ (fa (okLs l hV0 rfl) (fa (okLs (ivl t 32) hV31 rfl) fz))))
    · cases m with
      | zero =>
        have hR : adStep (gA' l) (gB' l) n (usP l) a b t0 (.tr y t bf) = .inr res := hR
        simp only [adStep, if_neg hya] at hR
        cases hR
      | succ m =>
        obtain ⟨s', hs, hm⟩ := hR
        have hI' := ad_inv hg.1 hg.2 F hI hs
        simp only [adStep, if_neg hya] at hs
        cases hs
        obtain ⟨g1, g2, g3, g4⟩ := T.gate y h2.sy hya
        have hac := across_w hva (x := y) g1
        have hway := acw_way l (bf y) y
        have hw0 : acw l (bf y) y ≠ 0 := fun e => by
          rw [e] at hway
          exact g3 hway
        have hrun := allU_lt ad_back (acw l (bf y) y) (acw_lt l (bf y) y)
        have hwb : Nat.beq (acw l (bf y) y) 0 = false := by
          cases h : Nat.beq (acw l (bf y) y) 0 with
          | false => rfl
          | true => exact absurd (Nat.eq_of_beq_eq_true h) hw0
        rw [hwb, Bool.false_or] at hrun
        have ht1 := h2.one _ g1
        have hw1 : wayF (gA' l) (gB' l) (bf y) y = 1 ∨ wayF (gA' l) (gB' l) (bf y) y = -1 := by
          rw [hway, if_neg hw0]
          split
          · exact .inl rfl
          · exact .inr rfl
        have ht : @TbOK ((nmS G l n a b t0 (.tr y t bf)).val W) (adTT (acw l (bf y) y)) := by
          letI V1 : Val := (nmS G l n a b t0 (.tr y t bf)).val W
          have hadW : @cv V1 (adWay (acw l (bf y) y)) = .int .i64 (wayF (gA' l) (gB' l) (bf y) y) := by
            rw [hway, if_neg hw0]
            unfold adWay
            split <;> rfl
          rw [if_neg hw0] at hac
          have hadA : @cvF V1 (adTW (acw l (bf y) y)) = if acw l (bf y) y = 1 then .tuple #[.int .i64 (othF (gA' l) (gB' l) (bf y) y : Int), .int .i64 1] else .tuple #[.int .i64 (othF (gA' l) (gB' l) (bf y) y : Int), .int .i64 (-1)] := by
            unfold adTW
            split <;> rfl
          rw [← hadA] at hac
          refine { T := fa (f_ieq (k := .i64) (m := (y : Int)) (n := (a : Int)) rfl rfl (by rw [eqdec]; exact decide_eq_false (by omega))) (fa (f_inb (m := (y : Int)) (n := 16) rfl rfl (by omega)) (fa (f_inb (m := (bf y : Int)) (n := (n : Int)) rfl rfl (by omega)) (fa (f_inb (m := (bf y : Int)) (n := 32) rfl rfl (by omega)) (fa (f_sub (m := t (bf y)) (n := wayF (gA' l) (gB' l) (bf y) y) (r := t (bf y) - wayF (gA' l) (gB' l) (bf y) y) rfl hadW rfl rfl rfl (by omega) (by omega)) fz)))), LL := fa ⟨rfl, n, Nat.succ_pos 3, hn, rfl⟩ fz, LX := fa ⟨rfl, ?_, ?_⟩ (fa ⟨rfl, ?_, ?_⟩ (fa ⟨rfl, ?_, ?_⟩ fz)), LW := fa ⟨Int.natCast_nonneg _, ?_, ?_⟩ fz, Y := fa hac fz }
          · show ((bf y : Int)).toNat * 4 + 4 ≤ l.length
            rw [Int.toNat_natCast]
            omega
          · show (l.drop (((bf y : Int)).toNat * 4)).take 4 = _
            rw [Int.toNat_natCast]
            exact row4 hl (bf y) (by omega)
          · show ((y : Int)).toNat * 1 + 1 ≤ (ivl (fun z => (bf z : Int)) 16).length
            rw [ivl_len]
            omega
          · show ((ivl (fun z => (bf z : Int)) 16).drop (((y : Int)).toNat * 1)).take 1 = [.int .i64 (bf y : Int)]
            rw [Int.toNat_natCast]
            exact ivl_row (f := fun z => (bf z : Int)) hy
          · show ((bf y : Int)).toNat * 1 + 1 ≤ (ivl t 32).length
            rw [ivl_len]
            omega
          · show ((ivl t 32).drop (((bf y : Int)).toNat * 1)).take 1 = [.int .i64 (t (bf y))]
            rw [Int.toNat_natCast]
            exact ivl_row (by omega)
          · show ((bf y : Int)).toNat < (ivl t 32).length
            rw [ivl_len]
            omega
          · show ivl (updF t (bf y) (t (bf y) - wayF (gA' l) (gB' l) (bf y) y)) 32 = (ivl t 32).set ((bf y : Int)).toNat (.int .i64 (t (bf y) - wayF (gA' l) (gB' l) (bf y) y))
            rw [Int.toNat_natCast, ivl_set]
            rfl
        exact stepH_to _ [] ht (.lst 40 40 :: .lst 30 31 :: adTS (sI 19)) [0, 1, 2, 3, 4, 5] (range2 hE rfl) (2, 0) (nmS G l n a b t0 (.tr (othF (gA' l) (gB' l) (bf y) y) (updF t (bf y) (t (bf y) - wayF (gA' l) (gB' l) (bf y) y)) bf)) hrun (fun W' => holds_all (fa (okLs (ivl (fun z => (bf z : Int)) 16) rfl rfl) (fa (okLs (ivl (updF t (bf y) (t (bf y) - wayF (gA' l) (gB' l) (bf y) y)) 32) rfl rfl) (fa ⟨.i64, G, rfl, rfl⟩ (fa ⟨.i64, (n : Int), rfl, rfl⟩ (fa ⟨.i64, (othF (gA' l) (gB' l) (bf y) y : Int), rfl, rfl⟩ (fa ⟨.i64, (a : Int), rfl, rfl⟩ (fa (okLs l rfl rfl) fz)))))))) ⟨m, by omega, _, rfl, rfl, hI', hm⟩
end
end Go.Proofs.Z

namespace Go.Proofs.Z
open Go Go.RowKit Go.Proofs Go.Ri Go.Proofs.Z.Fa
/-! addLane, as a call that changes the use of the gates. -/
def adId : List SE := [.int 0 (sI 0), .int 20 (sI 20), .int 21 (sI 21), .lst 0 0, .lst 30 30]
theorem pick2 {E : Env} (h : E.length = 4) : pickE [0, 1, 2, 3] E = E := by
  have : pickE (List.range 4) E = E.take 4 := pick_rng (by omega)
  rw [show (List.range 4) = [0, 1, 2, 3] from rfl] at this
  rw [this]
  exact List.take_of_length_le (by omega)
set_option maxRecDepth 100000 in
theorem ad_fit : mtH (mtO adId adH [0, 1, 2, 3]) adH [0, 1, 2, 3] adH = true := by kernel_rfl
set_option maxRecDepth 100000 in
theorem ad_fitA : mtL (mt2 adId adH [0, 1, 2, 3]) adA adA = true := by kernel_rfl
section
variable {G : Int} {l : List Value} {n a b : Nat} {t0 : Nat → Int}
theorem ad_calls (V : Val) (hV0 : V.I 0 = G) (hVl : V.L 0 = l) (hVa : V.I 20 = (a : Int)) (hVb : V.I 21 = (b : Int)) (hV30 : V.L 30 = ivl t0 32) (hl : ints l) (hn : l.length = n * 4) (hva : validM G l n = true) (ha : a < 16) (hb : b < 16) (hab : a ≠ b) {k : Nat} (F : IsFlow (gA' l) (gB' l) n (usP l) a b t0 (k : Int))
    {m : Nat} {res : Bool × (Nat → Int)} (hR : AdRuns (gA' l) (gB' l) n (usP l) a b t0 m (adS0 a) res) (hV31 : V.L 31 = ivl res.2 32) (base : Nat) (w0 : World) (E0 : Env) (w : World) (vs : List Value) (H : @HInv V ro base w0 E0 adH w) (hv : All2 (@VRel V E0) adA vs) :
    Calls Tryz.prog fAdd vs.toArray w (DE V base w0 E0 (bR res.1) adK) := by
  have hE : E0.length = 4 := (@HInv.len V _ _ _ _ _ _ H).symm
  let V1 : Val := (nmS G l n a b t0 (adS0 a)).val fun _ => undef
  have hS : Holds adId V V1 := holds_all (fa ⟨.i64, G, congrArg _ hV0, rfl⟩ (fa ⟨.i64, (a : Int), congrArg _ hVa, rfl⟩ (fa ⟨.i64, (b : Int), congrArg _ hVb, rfl⟩ (fa (okLs l rfl hVl) (fa (okLs (ivl t0 32) rfl hV30) fz)))))
  have H0 := mtH_inv hS (nb := [0, 1, 2, 3]) rfl ad_fit H
  have hv0 := all2_trans (E' := pickE [0, 1, 2, 3] E0) (fun r q v hx hv => mt2_ok hS hx hv) (mtL_spec _ _ ad_fitA) hv
  rw [pick2 hE] at H0 hv0
  have ht0 : @TbOK V1 adE := by
    letI : Val := V1
    exact { LL := fa ⟨rfl, n, Nat.succ_pos 3, hn, rfl⟩ fz, Y := fa (only_ans ha) fz }
  refine fn_heads (κ := Nat × Nat) (nmS G l n a b t0 (adS0 a)) (fun _ => undef) adE [false] fAdd adA adH Prod.fst patS (AdPhi G l n a b t0 k res) ht0 (.new 40 z16L :: adS (lI 0) (sI 20) (sU 10)) [0, 1, 2, 3, 4, 5, 6] (1, 0) m ad_enter (nmS G l n a b t0 (adS0 a)) (fun W' => holds_all (fa rfl (ad_ids G n a b l (ivl t0 32) (lI 0) (sI 20) (sU 10) 0 (a : Int) ((2 ^ a : Nat) : Int) rfl rfl rfl rfl rfl rfl rfl rfl rfl rfl rfl rfl rfl rfl rfl rfl rfl rfl))) ⟨adS0 a, rfl, rfl, ad_start ha hab, hR⟩ base w0 E0 E0 (List.prefix_refl _) (range2 hE rfl) (DE V base w0 E0 (bR res.1) adK) ?_ w H0 vs hv0
  exact fun m kk c hΦ W => ad_step hl hn hva ha hb F V hV0 hVl hV31 base w0 E0 hE m kk c hΦ W
end
end Go.Proofs.Z
