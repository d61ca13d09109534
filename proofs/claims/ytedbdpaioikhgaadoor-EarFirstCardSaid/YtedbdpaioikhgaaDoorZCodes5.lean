/- A part of the proofs that the laws of layer one answer true for every input. -/
import Derived.Test.YtedbdpaioikhgaaDoorZCodes4
namespace Go.Proofs.Z
open Go Go.RowKit Go.Proofs Go.Ri
theorem cmpI_zero (a b : Int) : cmpI a b = 0 ↔ a = b := by
  unfold cmpI
  by_cases h : a < b
  · rw [if_pos h]; omega
  · rw [if_neg h]
    by_cases h2 : a > b
    · rw [if_pos h2]; omega
    · rw [if_neg h2]; omega
theorem cmpI_lt {a b : Int} (h : a < b) : cmpI a b = -1 := by unfold cmpI; rw [if_pos h]
theorem cmpI_gt {a b : Int} (h : a > b) : cmpI a b = 1 := by unfold cmpI; rw [if_neg (by omega), if_pos h]
theorem fd_shift (p : Nat → Bool) (c : Nat) : ∀ (n i : Nat), fd p (i + c) n = fd (fun j => p (j + c)) i n + c
  | 0, _ => rfl
  | n + 1, i => by
    show (if p (i + c) then fd p (i + c + 1) n else i + c) = (if p (i + c) then fd (fun j => p (j + c)) (i + 1) n else i) + c
    rw [show i + c + 1 = i + 1 + c by omega, fd_shift p c n (i + 1)]
    split <;> rfl
theorem edge_cmp (s : Nat) (hs : s = 3 ∨ s = 4) (k k' : Nat) (hk : k < numE s) (hk' : k' < numE s) : edgeCmp s k k' = cmpI k k' := by
  have : ecmpRun s k k' = true := by
    rcases hs with rfl | rfl
    · exact allN_lt (allN_lt ecmp3 k hk) k' hk'
    · exact allN_lt (allN_lt ecmp4 k hk) k' hk'
  unfold ecmpRun at this
  exact beq_iff_eq.mp this
/-- What the first difference of two edges tells. -/
theorem edge_fd (s : Nat) (hs : s = 3 ∨ s = 4) (k k' : Nat) (hk : k < numE s) (hk' : k' < numE s) :
    (fd (eqP (edgeAt s k) (edgeAt s k')) 0 4 = 4 → k = k') ∧ (fd (eqP (edgeAt s k) (edgeAt s k')) 0 4 ≠ 4 → k ≠ k' ∧ cmpI (edgeAt s k (fd (eqP (edgeAt s k) (edgeAt s k')) 0 4)) (edgeAt s k' (fd (eqP (edgeAt s k) (edgeAt s k')) 0 4)) = cmpI k k') := by
  have h := edge_cmp s hs k k' hk hk'
  unfold edgeCmp at h
  have hd := fd_spec (eqP (edgeAt s k) (edgeAt s k')) 4 0
  generalize fd (eqP (edgeAt s k) (edgeAt s k')) 0 4 = m at *
  constructor
  · intro e
    rw [if_pos e] at h
    have := (cmpI_zero _ _).mp h.symm
    omega
  · intro e
    rw [if_neg e] at h
    refine ⟨fun e2 => ?_, h⟩
    subst e2
    have := hd.2.1 (by omega)
    simp [eqP] at this
theorem Q.cmp {q r : Q} (hq : q.ok) (hr : r.ok) : cmpE q.X q.Y r.X r.Y = cmpI q.code r.code := by
  have bq := Q.bound hq
  have br := Q.bound hr
  obtain ⟨q1, q2, q3, q4⟩ := hq
  obtain ⟨r1, r2, r3, r4⟩ := hr
  have e0 : fd (eqP q.X r.X) 0 9 = if eqP q.X r.X 0 then fd (eqP q.X r.X) 1 8 else 0 := rfl
  have p0 : eqP q.X r.X 0 = ((q.t : Int) == (r.t : Int)) := rfl
  unfold cmpE
  by_cases ht : q.t = r.t
  · have hcc : cmpI (q.code : Nat) (r.code : Nat) = if q.u = r.u then (if q.l = r.l then cmpI (q.h : Nat) (r.h : Nat) else cmpI (q.l : Nat) (r.l : Nat)) else cmpI (q.u : Nat) (r.u : Nat) := by
      obtain ⟨t, u, l, k⟩ := q
      obtain ⟨t', u', l', k'⟩ := r
      simp only at *
      subst ht
      unfold Q.code
      simp only
      have e := numT_two t
      generalize numT t = N at *
      generalize baseT t = B at *
      by_cases hu : u = u'
      · rw [if_pos hu]
        subst hu
        by_cases hl : l = l'
        · rw [if_pos hl]
          subst hl
          rcases Nat.lt_trichotomy k k' with h | h | h
          · rw [cmpI_lt (by omega), cmpI_lt (by omega)]
          · subst h; rw [cmpI_self, cmpI_self]
          · rw [cmpI_gt (by omega), cmpI_gt (by omega)]
        · rw [if_neg hl]
          rcases Nat.lt_or_gt_of_ne hl with h | h
          · rw [cmpI_lt (by omega), cmpI_lt (by omega)]
          · rw [cmpI_gt (by omega), cmpI_gt (by omega)]
      · rw [if_neg hu]
        rcases Nat.lt_or_gt_of_ne hu with h | h
        · rw [cmpI_lt (by rcases e with rfl | rfl <;> omega), cmpI_lt (by omega)]
        · rw [cmpI_gt (by rcases e with rfl | rfl <;> omega), cmpI_gt (by omega)]
    rw [hcc]
    have p0' : eqP q.X r.X 0 = true := by rw [p0, ht]; simp
    rw [e0, if_pos p0']
    have hs : slotsT r.t = slotsT q.t := by rw [ht]
    have r2' : r.u < numE (slotsT q.t) := by rw [← hs]; exact r2
    have r3' : r.l < numE (slotsT q.t) := by rw [← hs]; exact r3
    obtain ⟨U1, U2⟩ := edge_fd (slotsT q.t) (slotsT34 _) q.u r.u q2 r2'
    obtain ⟨L1, L2⟩ := edge_fd (slotsT q.t) (slotsT34 _) q.l r.l q3 r3'
    have xu : ∀ (z : Q) j, j < 4 → z.X (j + 1) = edgeAt (slotsT z.t) z.u j := fun z j hj => by
      show (if j + 1 = 0 then _ else if j + 1 < 5 then edgeAt (slotsT z.t) z.u (j + 1 - 1) else _) = _
      rw [if_neg (by omega), if_pos (by omega), show j + 1 - 1 = j by omega]
    have xl : ∀ (z : Q) j, j < 4 → z.X (j + 5) = edgeAt (slotsT z.t) z.l j := fun z j hj => by
      show (if j + 5 = 0 then _ else if j + 5 < 5 then _ else edgeAt (slotsT z.t) z.l (j + 5 - 5)) = _
      rw [if_neg (by omega), if_neg (by omega), show j + 5 - 5 = j by omega]
    have fu : fd (eqP q.X r.X) 1 4 = fd (eqP (edgeAt (slotsT q.t) q.u) (edgeAt (slotsT q.t) r.u)) 0 4 + 1 := by
      have := fd_shift (eqP q.X r.X) 1 4 0
      rw [Nat.zero_add] at this
      rw [this, fd_congr 4 0 fun j _ hj => ?_]
      show (q.X (j + 1) == r.X (j + 1)) = _
      rw [xu q j (by omega), xu r j (by omega), hs]; rfl
    have fl : fd (eqP q.X r.X) 5 4 = fd (eqP (edgeAt (slotsT q.t) q.l) (edgeAt (slotsT q.t) r.l)) 0 4 + 5 := by
      have := fd_shift (eqP q.X r.X) 5 4 0
      rw [Nat.zero_add] at this
      rw [this, fd_congr 4 0 fun j _ hj => ?_]
      show (q.X (j + 5) == r.X (j + 5)) = _
      rw [xl q j (by omega), xl r j (by omega), hs]; rfl
    have ha := fd_add (eqP q.X r.X) 4 1 4
    rw [show 4 + 4 = 8 from rfl, show 1 + 4 = 5 from rfl, fu, fl] at ha
    have du := (fd_spec (eqP (edgeAt (slotsT q.t) q.u) (edgeAt (slotsT q.t) r.u)) 4 0).2.2.2
    have dl := (fd_spec (eqP (edgeAt (slotsT q.t) q.l) (edgeAt (slotsT q.t) r.l)) 4 0).2.2.2
    rw [ha]
    generalize hmu : fd (eqP (edgeAt (slotsT q.t) q.u) (edgeAt (slotsT q.t) r.u)) 0 4 = mu at *
    generalize hml : fd (eqP (edgeAt (slotsT q.t) q.l) (edgeAt (slotsT q.t) r.l)) 0 4 = ml at *
    by_cases hu : mu = 4
    · rw [if_pos (show mu + 1 = 5 by omega), if_pos (U1 hu)]
      by_cases hl : ml = 4
      · rw [if_pos (show ml + 5 = 9 by omega), if_pos (L1 hl)]
        show cmpI (hc (hBit q.h)) (hc (hBit r.h)) = _
        rw [hc_hBit _ q4, hc_hBit _ r4]
      · rw [if_neg (show ¬ ml + 5 = 9 by omega), if_neg (L2 hl).1, xl q ml (by omega), xl r ml (by omega), hs]
        exact (L2 hl).2
    · rw [if_neg (show ¬ mu + 1 = 5 by omega), if_neg (U2 hu).1, if_neg (show ¬ mu + 1 = 9 by omega), xu q mu (by omega), xu r mu (by omega), hs]
      exact (U2 hu).2
  · have p0' : ¬ eqP q.X r.X 0 = true := by rw [p0]; simp; omega
    rw [e0, if_neg p0', if_neg (by omega)]
    show cmpI (q.t : Nat) (r.t : Nat) = _
    rcases Nat.lt_or_gt_of_ne ht with h | h
    · have f := (base_facts r.t r1).2.2.1 q.t h
      have g := (base_facts q.t q1).1
      rw [cmpI_lt (by omega), cmpI_lt (by omega)]
    · have f := (base_facts q.t q1).2.2.1 r.t h
      have g := (base_facts r.t r1).1
      rw [cmpI_gt (by omega), cmpI_gt (by omega)]
end Go.Proofs.Z
