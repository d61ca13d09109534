/- A part of the proof that EarOrder answers true for every three ears. -/
import Derived.Test.YtedbdpaioikhgaaDoorWCmpD
namespace Go.Proofs.W
open Go Go.RowKit Go.Proofs
theorem cmpI_neg (x y : Int) : cmpI y x = - cmpI x y := by
  unfold cmpI
  split <;> split <;> (try split) <;> omega
theorem lexI_neg : ∀ k m : List Int, k.length = m.length → lexI m k = - lexI k m
  | [], [], _ => rfl
  | [], _ :: _, h => by cases h
  | _ :: _, [], h => by cases h
  | x :: k, y :: m, h => by
    rw [lexI_cons, lexI_cons, cmpI_neg x y]
    by_cases e : cmpI x y = 0
    · rw [e, if_pos (by rfl), if_pos rfl]
      exact lexI_neg k m (by simpa using h)
    · rw [if_neg e, if_neg (by omega)]
theorem cmpI_three (x y : Int) : cmpI x y = -1 ∨ cmpI x y = 0 ∨ cmpI x y = 1 := by
  unfold cmpI
  split
  · exact .inl rfl
  · split
    · exact .inr (.inr rfl)
    · exact .inr (.inl rfl)
theorem lexI_three : ∀ k m : List Int, lexI k m = -1 ∨ lexI k m = 0 ∨ lexI k m = 1
  | [], _ => .inr (.inl (by cases ‹List Int› <;> rfl))
  | _ :: _, [] => .inr (.inl rfl)
  | x :: k, y :: m => by
    rw [lexI_cons]
    split
    · exact lexI_three k m
    · exact cmpI_three x y
theorem lexI_zero : ∀ k m : List Int, k.length = m.length → (lexI k m = 0 ↔ k = m)
  | [], [], _ => by simp [lexI]
  | [], _ :: _, h => by cases h
  | _ :: _, [], h => by cases h
  | x :: k, y :: m, h => by
    rw [lexI_cons]
    by_cases e : cmpI x y = 0
    · rw [if_pos e, lexI_zero k m (by simpa using h)]
      have := (cmpI_zero x y).mp e
      subst this
      simp
    · rw [if_neg e]
      constructor
      · intro h; exact (e h).elim
      · intro h
        cases h
        exact (e (cmpI_self x)).elim
theorem cmpI_lt {x y : Int} (h : cmpI x y = -1) : x < y := by
  unfold cmpI at h
  split at h
  · assumption
  · split at h <;> omega
theorem cmpI_of_lt {x y : Int} (h : x < y) : cmpI x y = -1 := by
  unfold cmpI
  rw [if_pos h]
theorem lexI_trans : ∀ k m n : List Int, k.length = m.length → m.length = n.length → lexI k m = -1 → lexI m n = -1 → lexI k n = -1
  | [], [], [], _, _, h, _ => by cases h
  | _ :: _, [], _, h, _, _, _ => by cases h
  | [], _ :: _, _, h, _, _, _ => by cases h
  | _, _ :: _, [], _, h, _, _ => by cases h
  | _, [], _ :: _, _, h, _, _ => by cases h
  | x :: k, y :: m, z :: n, h1, h2, h3, h4 => by
    rw [lexI_cons] at h3 h4 ⊢
    by_cases e1 : cmpI x y = 0
    · have := (cmpI_zero x y).mp e1
      subst this
      rw [if_pos e1] at h3
      by_cases e2 : cmpI x z = 0
      · rw [if_pos e2] at h4 ⊢
        exact lexI_trans k m n (by simpa using h1) (by simpa using h2) h3 h4
      · rw [if_neg e2] at h4 ⊢
        exact h4
    · rw [if_neg e1] at h3
      have l1 := cmpI_lt h3
      by_cases e2 : cmpI y z = 0
      · have := (cmpI_zero y z).mp e2
        subst this
        rw [if_neg e1]
        exact h3
      · rw [if_neg e2] at h4
        have l2 := cmpI_lt h4
        have l3 : cmpI x z = -1 := cmpI_of_lt (by omega)
        rw [l3, if_neg (by decide)]
/-- The signs that three lists can have. -/
theorem lexI_all (k m n : List Int) (h1 : k.length = m.length) (h2 : m.length = n.length) :
    ∃ x y z : Int, lexI k m = x ∧ lexI m n = y ∧ lexI k n = z ∧ lexI m k = -x ∧ lexI n k = -z ∧ lexI n n = 0 ∧
      ((x, y, z) = (0, 0, 0) ∨ (x, y, z) = (0, 1, 1) ∨ (x, y, z) = (0, -1, -1) ∨ (x, y, z) = (1, 0, 1) ∨ (x, y, z) = (-1, 0, -1) ∨ (x, y, z) = (1, 1, 1) ∨ (x, y, z) = (-1, -1, -1) ∨
        (x, y, z) = (1, -1, -1) ∨ (x, y, z) = (1, -1, 0) ∨ (x, y, z) = (1, -1, 1) ∨ (x, y, z) = (-1, 1, -1) ∨ (x, y, z) = (-1, 1, 0) ∨ (x, y, z) = (-1, 1, 1)) := by
  refine ⟨_, _, _, rfl, rfl, rfl, lexI_neg k m h1, lexI_neg k n (h1.trans h2), (lexI_zero n n rfl).mpr rfl, ?_⟩
  rcases lexI_three k m with hx | hx | hx
  · rcases lexI_three m n with hy | hy | hy
    · rw [hx, hy, lexI_trans k m n h1 h2 hx hy]; simp
    · have := (lexI_zero m n h2).mp hy
      subst this
      rw [hx, hy]; simp
    · rcases lexI_three k n with hz | hz | hz <;> rw [hx, hy, hz] <;> simp
  · have := (lexI_zero k m h1).mp hx
    subst this
    rcases lexI_three k n with hy | hy | hy <;> rw [hx, hy] <;> simp
  · rcases lexI_three m n with hy | hy | hy
    · rcases lexI_three k n with hz | hz | hz <;> rw [hx, hy, hz] <;> simp
    · have := (lexI_zero m n h2).mp hy
      subst this
      rw [hx, hy]; simp
    · have a := lexI_trans n m k h2.symm h1.symm (by rw [lexI_neg m n h2, hy]) (by rw [lexI_neg k m h1, hx])
      have b : lexI k n = 1 := by have := lexI_neg k n (h1.trans h2); omega
      rw [hx, hy, b]; simp
theorem holesI_inj {a b c a' b' c' : Bool} (h : holesI a b c = holesI a' b' c') : a = a' ∧ b = b' ∧ c = c' := by
  cases a <;> cases b <;> cases c <;> cases a' <;> cases b' <;> cases c' <;> first | exact ⟨rfl, rfl, rfl⟩ | exact absurd h (by decide)
def chainO : List (Option Bool) → Option Bool
  | [] => some true
  | o :: l => match o with
    | some true => chainO l
    | r => r
set_option maxRecDepth 100000 in
theorem eqV_ear (t u0 u1 u2 u3 l0 l1 l2 l3 t' u0' u1' u2' u3' l0' l1' l2' l3' : Int) (h0 h1 h2 h0' h1' h2' : Bool) :
    Ri.eqV Tryd.prog 8 25 (earV t u0 u1 u2 u3 l0 l1 l2 l3 h0 h1 h2) (earV t' u0' u1' u2' u3' l0' l1' l2' l3' h0' h1' h2') =
      some ([t == t', u0 == u0', u1 == u1', u2 == u2', u3 == u3', l0 == l0', l1 == l1', l2 == l2', l3 == l3', h0 == h0', h1 == h1', h2 == h2'].all id) := by
  have e : Ri.eqV Tryd.prog 8 25 (earV t u0 u1 u2 u3 l0 l1 l2 l3 h0 h1 h2) (earV t' u0' u1' u2' u3' l0' l1' l2' l3' h0' h1' h2') =
      chainO [some (t == t'), chain [u0 == u0', u1 == u1', u2 == u2', u3 == u3'], chain [l0 == l0', l1 == l1', l2 == l2', l3 == l3'], chain [h0 == h0', h1 == h1', h2 == h2']] := by kernel_rfl
  rw [e, chain_all, chain_all, chain_all]
  generalize hU : [u0 == u0', u1 == u1', u2 == u2', u3 == u3'].all id = U
  generalize hL : [l0 == l0', l1 == l1', l2 == l2', l3 == l3'].all id = L
  generalize hH : [h0 == h0', h1 == h1', h2 == h2'].all id = H
  have : [t == t', u0 == u0', u1 == u1', u2 == u2', u3 == u3', l0 == l0', l1 == l1', l2 == l2', l3 == l3', h0 == h0', h1 == h1', h2 == h2'].all id = ((t == t') && (U && (L && H))) := by
    rw [← hU, ← hL, ← hH]
    simp [Bool.and_assoc]
  rw [this]
  cases (t == t') <;> cases U <;> cases L <;> cases H <;> rfl
theorem equal_ear (t u0 u1 u2 u3 l0 l1 l2 l3 t' u0' u1' u2' u3' l0' l1' l2' l3' : Int) (h0 h1 h2 h0' h1' h2' : Bool) (w : World) :
    (Op.equalIn 10000 25 (earV t u0 u1 u2 u3 l0 l1 l2 l3 h0 h1 h2) (earV t' u0' u1' u2' u3' l0' l1' l2' l3' h0' h1' h2')).run Tryd.prog w =
      .ok (decide (lexI (keys t u0 u1 u2 u3 l0 l1 l2 l3 h0 h1 h2) (keys t' u0' u1' u2' u3' l0' l1' l2' l3' h0' h1' h2') = 0)) w := by
  rw [Ri.eqV_run 8 9992 _ _ _ _ (eqV_ear t u0 u1 u2 u3 l0 l1 l2 l3 t' u0' u1' u2' u3' l0' l1' l2' l3' h0 h1 h2 h0' h1' h2') w]
  congr 1
  rw [Bool.eq_iff_iff, decide_eq_true_iff, lexI_zero (keys t u0 u1 u2 u3 l0 l1 l2 l3 h0 h1 h2) (keys t' u0' u1' u2' u3' l0' l1' l2' l3' h0' h1' h2') rfl]
  constructor
  · intro h
    simp at h
    obtain ⟨rfl, rfl, rfl, rfl, rfl, rfl, rfl, rfl, rfl, rfl, rfl, rfl⟩ := h
    rfl
  · intro h
    simp only [keys, List.cons.injEq] at h
    obtain ⟨rfl, rfl, rfl, rfl, rfl, rfl, rfl, rfl, rfl, hh, _⟩ := h
    obtain ⟨rfl, rfl, rfl⟩ := holesI_inj hh
    simp
end Go.Proofs.W
