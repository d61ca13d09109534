/- A part of the proofs that the laws of layer one answer true for every input. -/
import Derived.Test.YtedbdpaioikhgaaDoorZCodes2
namespace Go.Proofs.Z
open Go Go.RowKit Go.Proofs Go.Ri
/-- A valid ear, by its tip, the indices of its edges, and its holes. -/
structure Q where
  t : Nat
  u : Nat
  l : Nat
  h : Nat
def Q.ok (q : Q) : Prop := q.t < 5 ∧ q.u < numT q.t ∧ q.l < numT q.t ∧ q.h < 8
def Q.code (q : Q) : Nat := baseT q.t + (q.u * numT q.t + q.l) * 8 + q.h
noncomputable def Q.X (q : Q) : Nat → Int := fun i => if i = 0 then (q.t : Nat) else if i < 5 then edgeAt (slotsT q.t) q.u (i - 1) else edgeAt (slotsT q.t) q.l (i - 5)
def Q.Y (q : Q) : Nat → Bool := hBit q.h
theorem slotsT34 (t : Nat) : slotsT t = 3 ∨ slotsT t = 4 := by
  unfold slotsT
  split
  · exact .inl rfl
  · exact .inr rfl
theorem numT_two (t : Nat) : numT t = 19 ∨ numT t = 40 := by
  unfold numT numE
  split
  · exact .inl rfl
  · exact .inr rfl
theorem base_facts : ∀ t, t < 5 → baseT t + numT t * numT t * 8 = baseT (t + 1) ∧ baseT (t + 1) ≤ 44176 ∧ (∀ j, j < t → baseT j + numT j * numT j * 8 ≤ baseT t) ∧ slotsOf (tcl (t : Nat)) = slotsT t ∧ tipOK (tcl (t : Nat)) = true
  | 0, _ => ⟨by decide, by decide, by decide, rfl, rfl⟩
  | 1, _ => ⟨by decide, by decide, by decide, rfl, rfl⟩
  | 2, _ => ⟨by decide, by decide, by decide, rfl, rfl⟩
  | 3, _ => ⟨by decide, by decide, by decide, rfl, rfl⟩
  | 4, _ => ⟨by decide, by decide, by decide, rfl, rfl⟩
theorem Q.bound {q : Q} (h : q.ok) : baseT q.t ≤ q.code ∧ q.code < baseT (q.t + 1) ∧ q.code < 44176 ∧ (q.u * numT q.t + q.l) * 8 + q.h < numT q.t * numT q.t * 8 := by
  obtain ⟨h1, h2, h3, h4⟩ := h
  obtain ⟨b1, b2, _⟩ := base_facts q.t h1
  unfold Q.code
  generalize baseT q.t = B at *
  generalize baseT (q.t + 1) = B' at *
  generalize q.u = u at *
  generalize q.l = l at *
  have e := numT_two q.t
  generalize numT q.t = N at *
  rcases e with rfl | rfl <;> omega
set_option maxRecDepth 100000 in
theorem edges_ok3 : allN (fun k => edgeB 3 (edgeAt 3 k)) 19 = true := by kernel_rfl
set_option maxRecDepth 100000 in
theorem edges_ok4 : allN (fun k => edgeB 4 (edgeAt 4 k)) 40 = true := by kernel_rfl
theorem edge_ok (s : Nat) (hs : s = 3 ∨ s = 4) (k : Nat) (hk : k < numE s) : edgeB s (edgeAt s k) = true := by
  rcases hs with rfl | rfl
  · exact allN_lt edges_ok3 k hk
  · exact allN_lt edges_ok4 k hk
theorem Q.val {q : Q} (h : q.ok) : valB q.X = true := by
  obtain ⟨h1, h2, h3, h4⟩ := h
  obtain ⟨_, _, _, e1, e2⟩ := base_facts q.t h1
  unfold valB
  have e0 : q.X 0 = (q.t : Nat) := rfl
  rw [e0, e1, e2]
  have eu : edgeB (slotsT q.t) (sh 1 q.X) = edgeB (slotsT q.t) (edgeAt (slotsT q.t) q.u) := rfl
  have el : edgeB (slotsT q.t) (sh 5 q.X) = edgeB (slotsT q.t) (edgeAt (slotsT q.t) q.l) := rfl
  rw [eu, el, edge_ok _ (slotsT34 _) _ h2, edge_ok _ (slotsT34 _) _ h3]
  rfl
theorem tcl_range {x : Int} (h : tipOK (tcl x) = true) : 0 ≤ x ∧ x < 5 := by
  obtain ⟨_, h1, h2, _⟩ := tcl_spec x
  unfold tipOK at h
  rw [h1, h2] at h
  simp at h
  omega
theorem holes_h (y : Nat → Bool) : ∃ h, h < 8 ∧ y 0 = hBit h 0 ∧ y 1 = hBit h 1 ∧ y 2 = hBit h 2 ∧ hc y = (h : Nat) := by
  unfold hc
  generalize y 0 = a
  generalize y 1 = b
  generalize y 2 = c
  cases a <;> cases b <;> cases c
  · exact ⟨0, by decide⟩
  · exact ⟨1, by decide⟩
  · exact ⟨2, by decide⟩
  · exact ⟨3, by decide⟩
  · exact ⟨4, by decide⟩
  · exact ⟨5, by decide⟩
  · exact ⟨6, by decide⟩
  · exact ⟨7, by decide⟩
theorem hc_hBit (h : Nat) (hh : h < 8) : hc (hBit h) = (h : Nat) := by
  match h, hh with
  | 0, _ => rfl
  | 1, _ => rfl
  | 2, _ => rfl
  | 3, _ => rfl
  | 4, _ => rfl
  | 5, _ => rfl
  | 6, _ => rfl
  | 7, _ => rfl
/-- Every valid ear is one of these. -/
theorem val_Q (x : Nat → Int) (y : Nat → Bool) (hv : valB x = true) : ∃ q : Q, q.ok ∧ earF x y = earF q.X q.Y := by
  unfold valB at hv
  simp only [Bool.and_eq_true] at hv
  obtain ⟨ht, hu, hl⟩ := hv
  obtain ⟨t0, t5⟩ := tcl_range ht
  obtain ⟨t, et⟩ : ∃ t : Nat, x 0 = t := ⟨(x 0).toNat, by omega⟩
  have ht5 : t < 5 := by omega
  obtain ⟨_, _, _, e1, e2⟩ := base_facts t ht5
  rw [et, e1] at hu hl
  obtain ⟨u, hu1, hu2⟩ := idx_of _ (slotsT34 t) _ hu
  obtain ⟨l, hl1, hl2⟩ := idx_of _ (slotsT34 t) _ hl
  obtain ⟨h, hh, y0, y1, y2, _⟩ := holes_h y
  refine ⟨⟨t, u, l, h⟩, ⟨ht5, hu1, hl1, hh⟩, ?_⟩
  obtain ⟨a0, a1, a2, a3⟩ := edgeF_inj hu2
  obtain ⟨b0, b1, b2, b3⟩ := edgeF_inj hl2
  have a0 : x 1 = _ := a0
  have a1 : x 2 = _ := a1
  have a2 : x 3 = _ := a2
  have a3 : x 4 = _ := a3
  have b0 : x 5 = _ := b0
  have b1 : x 6 = _ := b1
  have b2 : x 7 = _ := b2
  have b3 : x 8 = _ := b3
  show Value.agg #[.int .i64 (x 0), .int .i64 (x 1), .int .i64 (x 2), .int .i64 (x 3), .int .i64 (x 4), .int .i64 (x 5), .int .i64 (x 6), .int .i64 (x 7), .int .i64 (x 8), .bool (y 0), .bool (y 1), .bool (y 2)] = _
  rw [et, a0, a1, a2, a3, b0, b1, b2, b3, y0, y1, y2]
  rfl
/-- Every number below the count is the code of one of these. -/
theorem num_Q (n : Nat) (hn : n < 44176) : ∃ q : Q, q.ok ∧ q.code = n := by
  obtain ⟨t, ht, h1, h2⟩ : ∃ t, t < 5 ∧ baseT t ≤ n ∧ n < baseT (t + 1) := by
    by_cases a : n < 12800
    · exact ⟨0, by decide, Nat.zero_le _, a⟩
    · by_cases b : n < 25600
      · exact ⟨1, by decide, by show 12800 ≤ n; omega, b⟩
      · by_cases c : n < 38400
        · exact ⟨2, by decide, by show 25600 ≤ n; omega, c⟩
        · by_cases d : n < 41288
          · exact ⟨3, by decide, by show 38400 ≤ n; omega, d⟩
          · exact ⟨4, by decide, by show 41288 ≤ n; omega, hn⟩
  obtain ⟨b1, _⟩ := base_facts t ht
  refine ⟨⟨t, (n - baseT t) / 8 / numT t, (n - baseT t) / 8 % numT t, (n - baseT t) % 8⟩, ⟨ht, ?_, ?_, by show (n - baseT t) % 8 < 8; omega⟩, ?_⟩
  · show (n - baseT t) / 8 / numT t < numT t
    have e := numT_two t
    generalize numT t = N at *
    rcases e with rfl | rfl <;> omega
  · show (n - baseT t) / 8 % numT t < numT t
    have e := numT_two t
    generalize numT t = N at *
    rcases e with rfl | rfl <;> omega
  · show baseT t + ((n - baseT t) / 8 / numT t * numT t + (n - baseT t) / 8 % numT t) * 8 + (n - baseT t) % 8 = n
    have e := numT_two t
    generalize numT t = N at *
    rcases e with rfl | rfl <;> omega
theorem code_inj {q r : Q} (hq : q.ok) (hr : r.ok) (h : q.code = r.code) : q = r := by
  have bq := Q.bound hq
  have br := Q.bound hr
  obtain ⟨q1, q2, q3, q4⟩ := hq
  obtain ⟨r1, r2, r3, r4⟩ := hr
  have ht : q.t = r.t := by
    rcases Nat.lt_trichotomy q.t r.t with hlt | he | hlt
    · have := (base_facts r.t r1).2.2.1 q.t hlt
      have b := (base_facts q.t q1).1
      omega
    · exact he
    · have := (base_facts q.t q1).2.2.1 r.t hlt
      have b := (base_facts r.t r1).1
      omega
  obtain ⟨t, u, l, k⟩ := q
  obtain ⟨t', u', l', k'⟩ := r
  simp only at ht
  subst ht
  unfold Q.code at h
  simp only at *
  have e := numT_two t
  generalize numT t = N at *
  simp only [Q.mk.injEq, true_and]
  rcases e with rfl | rfl <;> omega
end Go.Proofs.Z
