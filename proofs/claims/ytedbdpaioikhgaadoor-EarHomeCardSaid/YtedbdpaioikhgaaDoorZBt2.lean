/- A part of the proofs that the laws of layer one answer true for every input. -/
import Derived.Test.YtedbdpaioikhgaaDoorZBuild2
namespace Go.Proofs.Z
open Go Go.RowKit Go.Proofs Go.Ri
/-! The law EarBuilt: lists of places. -/
/-- The cells of the features of places. -/
def cs (s : Nat → Int) : List Nat → List Value
  | [] => []
  | p :: ps => featC p (s p) ++ cs s ps
theorem cs_app (s : Nat → Int) : ∀ a b, cs s (a ++ b) = cs s a ++ cs s b
  | [], b => rfl
  | p :: a, b => by
    show featC p (s p) ++ cs s (a ++ b) = featC p (s p) ++ cs s a ++ cs s b
    rw [cs_app s a b, List.append_assoc]
theorem cs_len (s : Nat → Int) : ∀ ps, (cs s ps).length = ps.length * 4
  | [] => rfl
  | p :: ps => by
    show (featC p (s p) ++ cs s ps).length = (ps.length + 1) * 4
    rw [List.length_append, featC_len, cs_len s ps]
    omega
theorem cs_one (s : Nat → Int) : ∀ ps v, v ∈ cs s ps → v.oneCell' = true
  | [], v, h => by cases h
  | p :: ps, v, h => by
    rcases List.mem_append.1 (show v ∈ featC p (s p) ++ cs s ps from h) with h | h
    · exact featC_one _ _ _ h
    · exact cs_one s ps v h
theorem cs_ints (s : Nat → Int) : ∀ ps, ints (cs s ps)
  | [], v, h => by cases h
  | p :: ps, v, h => by
    rcases List.mem_append.1 (show v ∈ featC p (s p) ++ cs s ps from h) with h | h
    · unfold featC at h
      split at h
      · simp at h; rcases h with rfl | rfl | rfl <;> exact ⟨_, rfl⟩
      · split at h
        · simp at h; rcases h with rfl | rfl | rfl | rfl <;> exact ⟨_, rfl⟩
        · split at h <;> (simp at h; rcases h with rfl | rfl | rfl | rfl <;> exact ⟨_, rfl⟩)
    · exact cs_ints s ps v h
theorem cs_drop (s : Nat → Int) : ∀ (k : Nat) (ps : List Nat), (cs s ps).drop (k * 4) = cs s (ps.drop k)
  | 0, ps => by simp
  | k + 1, [] => by simp [cs]
  | k + 1, p :: ps => by
    show (featC p (s p) ++ cs s ps).drop ((k + 1) * 4) = cs s (ps.drop k)
    rw [List.drop_append, featC_len, List.drop_of_length_le (by rw [featC_len]; omega), show (k + 1) * 4 - 4 = k * 4 by omega, cs_drop s k ps]
    rfl
theorem cs_take (s : Nat → Int) : ∀ (k : Nat) (ps : List Nat), (cs s ps).take (k * 4) = cs s (ps.take k)
  | 0, ps => by simp [cs]
  | k + 1, [] => by simp [cs]
  | k + 1, p :: ps => by
    show (featC p (s p) ++ cs s ps).take ((k + 1) * 4) = featC p (s p) ++ cs s (ps.take k)
    rw [List.take_append, featC_len, List.take_of_length_le (by rw [featC_len]; omega), show (k + 1) * 4 - 4 = k * 4 by omega, cs_take s k ps]
theorem cs_row (s : Nat → Int) (ps : List Nat) (k : Nat) (h : k < ps.length) : row (cs s ps) k = featC (ps.getD k 0) (s (ps.getD k 0)) := by
  unfold row
  rw [cs_drop, List.drop_eq_getElem_cons h]
  show (featC ps[k] (s ps[k]) ++ cs s (ps.drop (k + 1))).take 4 = _
  rw [List.take_append_of_le_length (by rw [featC_len]; omega), List.take_of_length_le (by rw [featC_len]; omega)]
  rw [List.getD_eq_getElem?_getD, List.getElem?_eq_getElem h]
  rfl
theorem take_succ' (ps : List Nat) (k : Nat) (h : k < ps.length) : ps.take (k + 1) = ps.take k ++ [ps.getD k 0] := by
  rw [List.take_add_one, List.getD_eq_getElem?_getD, List.getElem?_eq_getElem h]
  rfl
/-- The places of a row that are not bare. -/
def pls (s : Nat → Int) (n : Nat) : List Nat := (List.range n).filter fun p => !(s p == 0)
theorem featL_cs (s : Nat → Int) : ∀ n, featL s n = cs s (pls s n)
  | 0 => rfl
  | n + 1 => by
    show featL s n ++ (if s n = 0 then [] else featC n (s n)) = cs s (pls s (n + 1))
    unfold pls
    rw [List.range_succ, List.filter_append, cs_app, featL_cs s n]
    congr 1
    by_cases h : s n = 0
    · simp [h, cs]
    · simp [h, cs]
/-! A feature of a valid row is none of the bad kinds. -/
def bcB (q : BC) (f : Nat → Int) : Bool := (List.range q.pre.length).all (fun i => f i == q.pre.getD i 0) && !(decide (q.lo ≤ f q.pre.length) && decide (f q.pre.length ≤ q.hi))
def fiF (p v : Nat) : Nat → Int := row4F ((fiL p v).getD 0 0) ((fiL p v).getD 1 0) ((fiL p v).getD 2 0) ((fiL p v).getD 3 0)
theorem nb_all : (allU 12 fun p => allU 5 fun v => allU 20 fun j => !(Nat.ble 1 v && Nat.blt v (vc p)) || !(bcB (bc j) (fiF p v))) = true := by kernel_rfl
theorem bcB_of {q : BC} {a b c d : Int} (h : isBC q a b c d) : bcB q (row4F a b c d) = true := by
  obtain ⟨h1, h2, h3⟩ := h
  unfold bcB
  rw [Bool.and_eq_true]
  refine ⟨?_, ?_⟩
  · rw [List.all_eq_true]
    intro i hi
    have hi := List.mem_range.1 hi
    rw [h1 i hi, List.getD_eq_getElem?_getD, List.getElem?_eq_getElem hi]
    simp
  · by_cases a1 : q.lo ≤ row4F a b c d q.pre.length
    · by_cases a2 : row4F a b c d q.pre.length ≤ q.hi
      · exact absurd ⟨a1, a2⟩ h3
      · simp [a2]
    · simp [a1]
theorem not_bad {p v : Nat} (hp : p < 12) (h1 : 1 ≤ v) (h2 : v < vc p) : ¬ badF (featC p v) := by
  rintro ⟨a, b, c, d, j, e, hj, hq⟩
  have e2 : fiL p v = [a, b, c, d] := by
    rw [← fiL_map, e]
    rfl
  have := allU_lt (allU_lt (allU_lt nb_all p hp) v (vc5 h2)) j hj
  rw [Nat.ble_eq_true_of_le h1, blt_of h2] at this
  have hb := bcB_of hq
  have e3 : fiF p v = row4F a b c d := by unfold fiF; rw [e2]; rfl
  rw [e3, hb] at this
  cases this
/-! The bounds of a valid row. -/
theorem ok_rng (s i p : Nat) (z : Int) (h : (Nat.beq (cls z) 0 || !badC s i p (cls z)) = true) : 0 ≤ z ∧ z ≤ 3 := by
  have h0 := cls0 z
  have h2 := cls2 z
  have h3 := cls3 z
  cases hb : Nat.beq (cls z) 0 with
  | true =>
    rw [hb] at h0
    have : z = 0 := by simpa using h0.symm
    omega
  | false =>
    rw [hb] at h
    unfold badC at h
    rw [h2, h3] at h
    by_cases a : z < 0
    · simp [a] at h
    · by_cases b : z > 3
      · simp [b] at h
      · omega
theorem edge_rng (s : Nat) (x : Nat → Int) (h : edgeB s x = true) : ∀ i, i < 4 → 0 ≤ x i ∧ x i ≤ 3 := by
  unfold edgeB okC at h
  simp only [Bool.and_eq_true] at h
  obtain ⟨⟨⟨a, b⟩, c⟩, d⟩ := h
  intro i hi
  match i, hi with
  | 0, _ => exact ok_rng _ _ _ _ a
  | 1, _ => exact ok_rng _ _ _ _ b
  | 2, _ => exact ok_rng _ _ _ _ c
  | 3, _ => exact ok_rng _ _ _ _ d
theorem tip_rng (t : Int) (h : tipOK (tcl t) = true) : 0 ≤ t ∧ t ≤ 4 := by
  obtain ⟨_, h1, h2, _, _⟩ := tcl_spec t
  unfold tipOK at h
  rw [h1, h2] at h
  by_cases a : t < 0
  · simp [a] at h
  · by_cases b : t > 4
    · simp [b] at h
    · omega
theorem val_rng (x : Nat → Int) (y : Nat → Bool) (hv : valB x = true) (p : Nat) (hp : p < 12) : 0 ≤ shp x y p ∧ shp x y p < (vc p : Int) := by
  unfold valB at hv
  simp only [Bool.and_eq_true] at hv
  obtain ⟨ht, hu, hl⟩ := hv
  have t := tip_rng _ ht
  have u := edge_rng _ _ hu
  have l := edge_rng _ _ hl
  unfold shp
  by_cases h9 : p < 9
  · rw [if_pos h9]
    by_cases h0 : p = 0
    · subst h0
      have : ((vc 0 : Nat) : Int) = 5 := rfl
      omega
    · have e : ((vc p : Nat) : Int) = 4 := by unfold vc; rw [if_neg h0, if_pos h9]; rfl
      rw [e]
      by_cases h5 : p < 5
      · have := u (p - 1) (by omega)
        unfold sh at this
        rw [show 1 + (p - 1) = p by omega] at this
        omega
      · have := l (p - 5) (by omega)
        unfold sh at this
        rw [show 5 + (p - 5) = p by omega] at this
        omega
  · rw [if_neg h9]
    have e : ((vc p : Nat) : Int) = 2 := by unfold vc; rw [if_neg (by omega), if_neg h9]; rfl
    rw [e]
    split <;> omega
/-! Some of the features. -/
/-- The row of some places. -/
def sr (s : Nat → Int) (ps : List Nat) : Nat → Int := fun i => if i ∈ ps then s i else 0
theorem bld_cs (s : Nat → Int) (hs : ∀ p, p < 12 → 0 ≤ s p ∧ s p < (vc p : Int)) (ps : List Nat) (hnd : ps.Nodup) (hps : ∀ p ∈ ps, p < 12 ∧ s p ≠ 0) : ∀ k, k ≤ ps.length → bld (cs s ps) k = some (sr s (ps.take k))
  | 0, _ => by
    show some _ = some _
    congr 1
  | k + 1, hk => by
    show (match bld (cs s ps) k with | some t => bldS t (row (cs s ps) k) | none => none) = _
    rw [bld_cs s hs ps hnd hps k (by omega), cs_row s ps k hk]
    have hmem : ps.getD k 0 ∈ ps := by
      rw [List.getD_eq_getElem?_getD, List.getElem?_eq_getElem hk]
      exact List.getElem_mem hk
    have hnot : ps.getD k 0 ∉ ps.take k := by
      intro hm
      have h2 : (ps.take (k + 1)).Nodup := hnd.sublist (List.take_sublist _ _)
      rw [take_succ' ps k hk] at h2
      have := (List.nodup_append.1 h2).2.2
      exact this _ hm _ (List.mem_singleton.2 rfl) rfl
    rw [take_succ' ps k hk]
    generalize ps.getD k 0 = p at hmem hnot
    obtain ⟨hp, h0⟩ := hps p hmem
    obtain ⟨r0, r1⟩ := hs p hp
    have ev : s p = ((s p).toNat : Int) := by omega
    have h1 : 1 ≤ (s p).toNat := by omega
    have h2 : (s p).toNat < vc p := by omega
    show bldS (sr s (ps.take k)) (featC p (s p)) = _
    unfold bldS
    rw [ev, dec_some hp h1 h2 (not_bad hp h1 h2)]
    show (if sr s (ps.take k) p = 0 then some (upd (sr s (ps.take k)) p ((s p).toNat : Int)) else none) = _
    rw [if_pos (by unfold sr; rw [if_neg hnot])]
    congr 1
    funext i
    unfold upd sr
    by_cases hi : i = p
    · subst hi
      rw [if_pos rfl, if_pos (by simp)]
      omega
    · rw [if_neg hi]
      by_cases hm : i ∈ ps.take k
      · rw [if_pos hm, if_pos (List.mem_append_left _ hm)]
      · rw [if_neg hm, if_neg (by simp [hm, hi])]
/-! What is left out keeps an ear valid. -/
theorem okC_less {s s' i p p' c c' : Nat} (hs : s ≤ s') (hp : p' = 0 ∨ p' = p) (hc : c' = 0 ∨ c' = c) (h : (Nat.beq c 0 || !badC s i p c) = true) : (Nat.beq c' 0 || !badC s' i p' c') = true := by
  rcases hc with rfl | rfl
  · rfl
  · cases hb : Nat.beq c' 0 with
    | true => rfl
    | false =>
      rw [hb] at h
      simp only [Bool.false_or] at h ⊢
      unfold badC at h ⊢
      rw [Bool.not_eq_true'] at h ⊢
      simp only [Bool.or_eq_false_iff] at h ⊢
      obtain ⟨⟨⟨h1, h2⟩, h3⟩, h4⟩ := h
      refine ⟨⟨⟨?_, ?_⟩, h3⟩, h4⟩
      · rcases hp with rfl | rfl
        · simp
        · exact h1
      · cases hq : Nat.ble s' i with
        | false => rfl
        | true =>
          have := Nat.le_of_ble_eq_true hq
          rw [Nat.ble_eq_true_of_le (by omega : s ≤ i)] at h2
          cases h2
theorem cls_sr (s : Nat → Int) (ps : List Nat) (i : Nat) : cls (sr s ps i) = 0 ∨ cls (sr s ps i) = cls (s i) := by
  unfold sr
  split
  · exact .inr rfl
  · exact .inl rfl
theorem edge_sr (t t' : Nat) (ht : t ≤ t') (k : Nat) (s : Nat → Int) (ps : List Nat) (h : edgeB t (sh k s) = true) : edgeB t' (sh k (sr s ps)) = true := by
  unfold edgeB okC at h ⊢
  simp only [Bool.and_eq_true] at h ⊢
  obtain ⟨⟨⟨a, b⟩, c⟩, d⟩ := h
  have e : ∀ i, cls (sh k (sr s ps) i) = 0 ∨ cls (sh k (sr s ps) i) = cls (sh k s i) := fun i => cls_sr s ps (k + i)
  exact ⟨⟨⟨okC_less ht (.inl rfl) (e 0) a, okC_less ht (e 0) (e 1) b⟩, okC_less ht (e 1) (e 2) c⟩, okC_less ht (e 2) (e 3) d⟩
theorem val_sr (s : Nat → Int) (ps : List Nat) (h : valB s = true) : valB (sr s ps) = true := by
  unfold valB at h ⊢
  simp only [Bool.and_eq_true] at h ⊢
  obtain ⟨ht, hu, hl⟩ := h
  have hsl : slotsOf (tcl (s 0)) ≤ slotsOf (tcl (sr s ps 0)) := by
    unfold sr
    split
    · exact Nat.le_refl _
    · rcases slots34 (tcl (s 0)) with h | h <;> rw [h] <;> decide
  refine ⟨?_, edge_sr _ _ hsl 1 s ps hu, edge_sr _ _ hsl 5 s ps hl⟩
  unfold sr
  split
  · exact ht
  · rfl
theorem valB_shp (x : Nat → Int) (y : Nat → Bool) : valB (shp x y) = valB x := rfl
end Go.Proofs.Z
