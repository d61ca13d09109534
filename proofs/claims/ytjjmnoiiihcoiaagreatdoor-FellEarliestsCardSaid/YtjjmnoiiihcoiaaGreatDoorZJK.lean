/- A part of the proofs that the laws of layer four answer true for every input. -/
import Derived.Test.YtjjmnoiiihcoiaaGreatDoorZJJ
namespace Go.Proofs.Z
open Go Go.RowKit Go.Proofs Go.Ri Go.Proofs.Z.Fa
/-! The law FellArrives: mathematics. -/
theorem cells_ints : ∀ L : List (Int × Nat), ints (cellsP L)
  | [] => by intro v hv; cases hv
  | (_, _) :: L => fa ⟨_, rfl⟩ (fa ⟨_, rfl⟩ (cells_ints L))
section
variable {G : Int} {l : List Value} {n : Nat} {q : List Value} {m : Nat} {a b fr to : Int}
theorem cp0_iff : cpM G l n q m a b fr to = 0 ↔ validM G l n = true ∧ agCls G a b fr to = 8 ∧ okP l n q to a fr m = true ∧ (pst l q a fr m).1 = b := by
  unfold cpM
  constructor
  · intro h
    cases hva : validM G l n with
    | false => rw [hva, if_neg (by decide)] at h; cases h
    | true =>
      rw [hva, if_pos rfl] at h
      by_cases hc : agCls G a b fr to = 8
      · rw [if_pos hc] at h
        refine ⟨rfl, hc, ?_⟩
        cases ho : okP l n q to a fr m with
        | false => rw [ho] at h; cases h
        | true =>
          rw [ho] at h
          by_cases hb : (pst l q a fr m).1 = b
          · exact ⟨rfl, hb⟩
          · rw [decide_eq_false hb] at h; cases h
      · rw [if_neg hc] at h; cases h
  · rintro ⟨h1, h2, h3, h4⟩
    rw [h1, if_pos rfl, if_pos h2, h3, decide_eq_true h4]
    rfl
theorem ag8_iff : agCls G a b fr to = 8 ↔ 0 ≤ a ∧ a < G ∧ 0 ≤ b ∧ b < G ∧ 0 ≤ fr ∧ fr ≤ 1048576 ∧ fr ≤ to ∧ to ≤ 1048576 := by
  constructor
  · intro h
    have p := fun j (hj : j < 8) => agTest_pass (G := G) (a := a) (b := b) (fr := fr) (to := to) (j := j) (by omega)
    exact ⟨of_decide_eq_true (p 0 (by omega)), of_decide_eq_true (p 1 (by omega)), of_decide_eq_true (p 2 (by omega)), of_decide_eq_true (p 3 (by omega)), of_decide_eq_true (p 4 (by omega)), of_decide_eq_true (p 5 (by omega)), of_decide_eq_true (p 6 (by omega)), of_decide_eq_true (p 7 (by omega))⟩
  · rintro ⟨h0, h1, h2, h3, h4, h5, h6, h7⟩
    exact agCls_ok h0 h1 h2 h3 h4 h5 h6 h7
theorem cp0_leads (h : cpM G l n q m a b fr to = 0) : Leads l n to (sfx q 0 m) a fr b := by
  obtain ⟨h1, h2, h3, h4⟩ := cp0_iff.1 h
  have := okP_leads h3 m 0 (by omega)
  rw [h4] at this
  exact this
/-- What Earliest answers, in words. -/
theorem eq_cases (G : Int) (l : List Value) (n : Nat) (a b fr : Int) : (∃ e, eqM G l n a b fr = eqV 0 false e ∧ ∀ q m to, cpM G l n q m a b fr to ≠ 0) ∨
    (∃ (an bn : Nat) (day : Int), validM G l n = true ∧ a = an ∧ b = bn ∧ an < 16 ∧ bn < 16 ∧ (an : Int) < G ∧ (bn : Int) < G ∧ 0 ≤ fr ∧ fr ≤ day ∧ day ≤ 1048576 ∧ eqM G l n a b fr = eqV day true 0 ∧ (∃ L, Leads l n day L an fr bn) ∧ ∀ to L, fr ≤ to → Leads l n to L an fr bn → day ≤ to) := by
  unfold eqM
  cases hva : validM G l n with
  | false =>
    refine .inl ⟨40, if_neg (by decide), fun q m to h => ?_⟩
    have := (cp0_iff.1 h).1
    rw [hva] at this
    cases this
  | true =>
    rw [if_pos rfl]
    by_cases hc : agCls G a b fr fr = 8
    · rw [if_pos hc]
      obtain ⟨h0, h1, h2, h3, h4, h5, _, _⟩ := ag8_iff.1 hc
      have hG16 := ((validM_iff _ _ _).1 hva).2.1
      have ha16 : a.toNat < 16 := by omega
      have hS : 2 ^ a.toNat < 65536 := pow_lt16 ha16
      have hstart : ∀ to L, fr ≤ to → to ≤ 1048576 → Leads l n to L a fr b → eaK l n (2 ^ a.toNat) b.toNat fr ≤ (to + 1 - fr).toNat := by
        intro to L h6 h7 hL
        have hbit := leads_set (fr := fr) hva hS L a fr b (Int.le_refl _) h6 (by
          rw [show (fr + 1 - fr).toNat = 0 + 1 by omega]
          refine runS_sub hva hS 0 1 _ ?_
          show (2 ^ a.toNat).testBit a.toNat = true
          rw [Nat.testBit_two_pow_self]) hL
        rcases Nat.lt_or_ge (to + 1 - fr).toNat (eaK l n (2 ^ a.toNat) b.toNat fr) with h | h
        · have := firstBad_pass (fun j => !(runS l n (2 ^ a.toNat) fr j).testBit b.toNat) ((1048577 - fr).toNat + 1) 0 (to + 1 - fr).toNat (Nat.zero_le _) h
          rw [hbit] at this
          cases this
        · exact h
      have hle := firstBad_le (fun j => !(runS l n (2 ^ a.toNat) fr j).testBit b.toNat) ((1048577 - fr).toNat + 1) 0
      unfold eaM
      by_cases hk : eaK l n (2 ^ a.toNat) b.toNat fr < (1048577 - fr).toNat + 1
      · rw [if_pos hk]
        have hbit := firstBad_fail (fun j => !(runS l n (2 ^ a.toNat) fr j).testBit b.toNat) ((1048577 - fr).toNat + 1) 0 (by show eaK l n (2 ^ a.toNat) b.toNat fr < 0 + _; omega)
        have hbit : (runS l n (2 ^ a.toNat) fr (eaK l n (2 ^ a.toNat) b.toNat fr)).testBit b.toNat = true := by
          cases hh : (runS l n (2 ^ a.toNat) fr (eaK l n (2 ^ a.toNat) b.toNat fr)).testBit b.toNat with
          | true => rfl
          | false =>
            have h9 : (!(runS l n (2 ^ a.toNat) fr (eaK l n (2 ^ a.toNat) b.toNat fr)).testBit b.toNat) = false := hbit
            rw [hh] at h9
            cases h9
        obtain ⟨L, hL⟩ := set_leads hva ha16 _ _ hbit
        refine .inr ⟨a.toNat, b.toNat, if eaK l n (2 ^ a.toNat) b.toNat fr = 0 then fr else fr + eaK l n (2 ^ a.toNat) b.toNat fr - 1, rfl, by omega, by omega, ha16, by omega, by omega, by omega, h4, ?_, ?_, rfl, ⟨L, leads_mono ?_ hL⟩, fun to L h6 hL => ?_⟩
        · split <;> omega
        · split <;> omega
        · split <;> omega
        · rw [show ((a.toNat : Nat) : Int) = a by omega, show ((b.toNat : Nat) : Int) = b by omega] at hL
          rcases Int.lt_or_le 1048576 to with h7 | h7
          · split <;> omega
          · have := hstart to L h6 h7 hL
            split <;> omega
      · rw [if_neg hk]
        refine .inl ⟨0, rfl, fun q m to h => ?_⟩
        obtain ⟨g1, g2, g3, g4⟩ := cp0_iff.1 h
        obtain ⟨_, _, _, _, _, _, h6, h7⟩ := ag8_iff.1 g2
        have := hstart to _ h6 h7 (cp0_leads h)
        omega
    · rw [if_neg hc]
      refine .inl ⟨1, rfl, fun q m to h => ?_⟩
      obtain ⟨g1, g2, g3, g4⟩ := cp0_iff.1 h
      obtain ⟨h0, h1, h2, h3, h4, h5, h6, h7⟩ := ag8_iff.1 g2
      exact hc (ag8_iff.2 ⟨h0, h1, h2, h3, h4, h5, Int.le_refl _, h5⟩)
end
end Go.Proofs.Z
