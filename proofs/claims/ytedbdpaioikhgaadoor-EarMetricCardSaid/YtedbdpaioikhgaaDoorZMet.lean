/- A part of the proofs that the laws of layer one answer true for every input. -/
import Derived.Test.YtedbdpaioikhgaaDoorZIn
import Derived.Test.YtedbdpaioikhgaaDoorZEarOf
namespace Go.Proofs.Z
open Go Go.RowKit Go.Proofs Go.Ri W
/-! Distances of rows, and neighbours. -/
theorem dcn_congr {s s' t t' : Nat → Int} : ∀ n, (∀ j, j < n → s j = s' j) → (∀ j, j < n → t j = t' j) → dcn s t n = dcn s' t' n
  | 0, _, _ => rfl
  | n + 1, h1, h2 => by
    show dcn s t n + (if s n = t n then 0 else 1) = dcn s' t' n + (if s' n = t' n then 0 else 1)
    rw [dcn_congr n (fun j hj => h1 j (by omega)) (fun j hj => h2 j (by omega)), h1 n (by omega), h2 n (by omega)]
theorem dcn_symm (s t : Nat → Int) : ∀ n, dcn s t n = dcn t s n
  | 0 => rfl
  | n + 1 => by
    show dcn s t n + (if s n = t n then 0 else 1) = dcn t s n + (if t n = s n then 0 else 1)
    rw [dcn_symm s t n]
    by_cases h : s n = t n
    · rw [if_pos h, if_pos h.symm]
    · rw [if_neg h, if_neg (fun e => h e.symm)]
theorem dcn_tri (s t u : Nat → Int) : ∀ n, dcn s u n ≤ dcn s t n + dcn t u n
  | 0 => Nat.le_refl _
  | n + 1 => by
    have := dcn_tri s t u n
    show dcn s u n + (if s n = u n then 0 else 1) ≤ dcn s t n + (if s n = t n then 0 else 1) + (dcn t u n + (if t n = u n then 0 else 1))
    by_cases h1 : s n = t n
    · rw [if_pos h1, h1]
      omega
    · rw [if_neg h1]
      split <;> omega
theorem dcn_zero (s t : Nat → Int) : ∀ n, dcn s t n = 0 ↔ ∀ j, j < n → s j = t j
  | 0 => ⟨fun _ j hj => absurd hj (Nat.not_lt_zero _), fun _ => rfl⟩
  | n + 1 => by
    show dcn s t n + (if s n = t n then 0 else 1) = 0 ↔ _
    constructor
    · intro h j hj
      have h0 : dcn s t n = 0 := by omega
      by_cases he : s n = t n
      · rcases Nat.lt_succ_iff_lt_or_eq.1 hj with h1 | rfl
        · exact (dcn_zero s t n).1 h0 j h1
        · exact he
      · rw [if_neg he] at h
        omega
    · intro h
      rw [(dcn_zero s t n).2 fun j hj => h j (by omega), if_pos (h n (by omega))]
theorem dcn_one (s t : Nat → Int) : ∀ n, dcn s t n = 1 → ∃ k, k < n ∧ s k ≠ t k ∧ ∀ j, j < n → j ≠ k → s j = t j
  | 0, h => by cases h
  | n + 1, h => by
    have h : dcn s t n + (if s n = t n then 0 else 1) = 1 := h
    by_cases he : s n = t n
    · rw [if_pos he] at h
      obtain ⟨k, h1, h2, h3⟩ := dcn_one s t n h
      refine ⟨k, by omega, h2, fun j hj hne => ?_⟩
      rcases Nat.lt_succ_iff_lt_or_eq.1 hj with h4 | rfl
      · exact h3 j h4 hne
      · exact he
    · rw [if_neg he] at h
      have h0 := (dcn_zero s t n).1 (by omega)
      refine ⟨n, Nat.lt_succ_self n, he, fun j hj hne => h0 j (by omega)⟩
theorem dcn_mk1 (s t : Nat → Int) (k : Nat) (hk : s k ≠ t k) : ∀ n, (∀ j, j < n → j ≠ k → s j = t j) → dcn s t n = if k < n then 1 else 0
  | 0, _ => rfl
  | n + 1, h => by
    show dcn s t n + (if s n = t n then 0 else 1) = _
    rw [dcn_mk1 s t k hk n fun j hj hne => h j (by omega) hne]
    by_cases he : n = k
    · subst he
      rw [if_neg (Nat.lt_irrefl _), if_neg hk, if_pos (Nat.lt_succ_self _)]
    · rw [if_pos (h n (Nat.lt_succ_self _) he)]
      by_cases h1 : k < n
      · rw [if_pos h1, if_pos (by omega)]
      · rw [if_neg h1, if_neg (by omega)]
/-- A row of truth values from the ninth place on. -/
def bin (s : Nat → Int) : Prop := ∀ j, 9 ≤ j → s j = 0 ∨ s j = 1
theorem shp_bin (x : Nat → Int) (y : Nat → Bool) : bin (shp x y) := fun j hj => by
  unfold shp
  rw [if_neg (by omega)]
  split
  · exact .inr rfl
  · exact .inl rfl
theorem shp_of_bin {s : Nat → Int} (h : bin s) : shp s (bitY s) = s := by
  funext j
  show (if j < 9 then s j else if (!(s (9 + (j - 9)) == 0)) then 1 else 0) = s j
  by_cases h9 : j < 9
  · rw [if_pos h9]
  · rw [if_neg h9, show 9 + (j - 9) = j by omega]
    rcases h j (by omega) with e | e <;> rw [e] <;> rfl
section
variable {s : Nat → Int} (H : Row s)
include H
theorem nb_stw {q : Nat × Nat} (h : q ∈ nbL s 12) : q.1 < 12 ∧ q.2 < vc q.1 ∧ (q.2 : Int) ≠ s q.1 ∧ valB (stw s q) = true := by
  obtain ⟨h1, h2, h3⟩ := (nbL_mem H (Nat.le_refl _) q).1 h
  unfold mskB at h3
  rw [Bool.and_eq_true] at h3
  exact ⟨h1, h2, of_decide_eq_true h3.1, h3.2⟩
theorem stw_bin (hb : bin s) {q : Nat × Nat} (h : q ∈ nbL s 12) : bin (stw s q) := fun j hj => by
  obtain ⟨h1, h2, _, _⟩ := nb_stw H h
  show (if j = q.1 then (q.2 : Int) else s j) = 0 ∨ (if j = q.1 then (q.2 : Int) else s j) = 1
  split
  · rename_i e
    have hv : vc q.1 = 2 := by
      unfold vc
      rw [if_neg (by omega), if_neg (by omega)]
    omega
  · exact hb j hj
/-- Each neighbour is at the distance one. -/
theorem nb_one {q : Nat × Nat} (h : q ∈ nbL s 12) : dcn s (stw s q) 12 = 1 := by
  obtain ⟨h1, _, h3, _⟩ := nb_stw H h
  have := dcn_mk1 s (stw s q) q.1 (fun e => by
    have : stw s q q.1 = q.2 := if_pos rfl
    rw [this] at e
    exact h3 e.symm) 12 (fun j _ hne => (if_neg hne).symm)
  rw [if_pos h1] at this
  exact this
/-- What is at the distance one is a neighbour. -/
theorem one_nb {t : Nat → Int} (T : Row t) (h : dcn s t 12 = 1) : ∃ q, q ∈ nbL s 12 ∧ ∀ j, j < 12 → stw s q j = t j := by
  obtain ⟨k, h1, h2, h3⟩ := dcn_one s t 12 h
  have hv : (((t k).toNat : Nat) : Int) = t k := by
    have := T.lo k h1
    omega
  have hagree : ∀ j, j < 12 → stw s (k, (t k).toNat) j = t j := fun j hj => by
    show (if j = k then (((t k).toNat : Nat) : Int) else s j) = t j
    by_cases e : j = k
    · rw [if_pos e, hv, e]
    · rw [if_neg e]
      exact h3 j hj e
  refine ⟨(k, (t k).toNat), (nbL_mem H (Nat.le_refl _) _).2 ⟨h1, ?_, ?_⟩, hagree⟩
  · have := T.hi k h1
    show (t k).toNat < vc k
    omega
  · unfold mskB
    rw [Bool.and_eq_true]
    refine ⟨decide_eq_true ?_, ?_⟩
    · show (((t k).toNat : Nat) : Int) ≠ s k
      rw [hv]
      exact fun e => h2 e.symm
    · have : valB (stw s (k, (t k).toNat)) = valB t := by
        have e : ∀ j, j < 9 → stw s (k, (t k).toNat) j = t j := fun j hj => hagree j (by omega)
        unfold valB edgeB sh
        simp only [e, Nat.reduceAdd, Nat.reduceLT]
      rw [this]
      exact T.val
end
/-- Two rows of ears agree as ears exactly if they agree in their twelve places. -/
theorem eqE_rows {u : Nat → Int} (hu : bin u) (x : Nat → Int) (y : Nat → Bool) : eqE u x y = true ↔ ∀ j, j < 12 → u j = shp x y j := by
  rw [eqE_iff]
  constructor
  · rintro ⟨a, b⟩ j hj
    unfold shp
    by_cases h9 : j < 9
    · rw [if_pos h9]
      exact a j h9
    · rw [if_neg h9, ← b (j - 9) (by omega)]
      show u j = if (!(u (9 + (j - 9)) == 0)) then 1 else 0
      rw [show 9 + (j - 9) = j by omega]
      rcases hu j (by omega) with e | e <;> rw [e] <;> rfl
  · intro h
    refine ⟨fun j hj => ?_, fun j hj => ?_⟩
    · rw [h j (by omega)]
      exact if_pos hj
    · show (!(u (9 + j) == 0)) = y j
      rw [h (9 + j) (by omega)]
      unfold shp
      rw [if_neg (by omega), Nat.add_sub_cancel_left]
      cases y j <;> rfl
/-- A neighbour, exactly at the distance one. -/
theorem any_one {x x' : Nat → Int} {y y' : Nat → Bool} (hv : valB x = true) (hv' : valB x' = true) : ((neighL x y).any fun t => eqE t x' y') = decide (dcn (shp x y) (shp x' y') 12 = 1) := by
  have H := shp_row x y hv
  have H' := shp_row x' y' hv'
  rw [Bool.eq_iff_iff, decide_eq_true_iff, List.any_eq_true]
  constructor
  · rintro ⟨t, ht, he⟩
    obtain ⟨q, hq, rfl⟩ := List.mem_map.1 ht
    have hq := (nbS_mem x y q).1 hq
    have := (eqE_rows (stw_bin H (shp_bin x y) hq) x' y').1 he
    rw [← nb_one H hq]
    exact (dcn_congr 12 (fun _ _ => rfl) this).symm
  · intro h
    obtain ⟨q, hq, hagree⟩ := one_nb H H' h
    exact ⟨stw (shp x y) q, List.mem_map.2 ⟨q, (nbS_mem x y q).2 hq, rfl⟩, (eqE_rows (stw_bin H (shp_bin x y) hq) x' y').2 hagree⟩
/-- The ear of a neighbour: valid, and the first one is its neighbour. -/
theorem nb_back {x : Nat → Int} {y : Nat → Bool} (hv : valB x = true) {t : Nat → Int} (ht : t ∈ neighL x y) : valB t = true ∧ shp t (bitY t) = t ∧ dcn (shp x y) t 12 = 1 ∧ ((neighL t (bitY t)).any fun u => eqE u x y) = true := by
  have H := shp_row x y hv
  obtain ⟨q, hq, rfl⟩ := List.mem_map.1 ht
  have hq := (nbS_mem x y q).1 hq
  have hval := (nb_stw H hq).2.2.2
  have hsh := shp_of_bin (stw_bin H (shp_bin x y) hq)
  refine ⟨hval, hsh, nb_one H hq, ?_⟩
  rw [any_one hval hv, hsh, dcn_symm, nb_one H hq]
  rfl
/-- Sorted. -/
theorem nb_sorted {x : Nat → Int} {y : Nat → Bool} (hv : valB x = true) (i j : Nat) (hij : i < j) (hj : j < (neighL x y).length) : W.lexI (W.rk ((neighL x y).getD i fun _ => 0)) (W.rk ((neighL x y).getD j fun _ => 0)) = -1 := by
  have H := shp_row x y hv
  have hs := W.srt_sd (shp x y) _ (nbL_nd H (Nat.le_refl 12)) (nbL_good H)
  have hl : (nbS x y).length = (neighL x y).length := (List.length_map _).symm
  have := List.pairwise_iff_getElem.1 hs i j (by show i < (nbS x y).length; omega) (by show j < (nbS x y).length; omega) hij
  rw [List.getD_eq_getElem?_getD, List.getD_eq_getElem?_getD, List.getElem?_eq_getElem (show i < (neighL x y).length by omega), List.getElem?_eq_getElem hj]
  simp only [Option.getD_some, List.getElem_map]
  exact this
end Go.Proofs.Z
