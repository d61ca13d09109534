/- A part of the proofs that the laws of layer one answer true for every input. -/
import Derived.Sort.Statements
import Derived.Test.YtedbdpaioikhgaaDoorZNb4
import Derived.Test.YtedbdpaioikhgaaDoorZNb1
import Derived.Test.YtedbdpaioikhgaaDoorZNb2
import Derived.Test.YtedbdpaioikhgaaDoorZNb3
import Derived.Shelf.GgSortFunc.InsertionK
import Derived.Below
namespace Go.Proofs.Z.W
/-! Lists of numbers in order; the neighbours of a row; what is sorted. -/
def cmpI (x y : Int) : Int := if x < y then -1 else if y < x then 1 else 0
def lexI : List Int → List Int → Int
  | x :: l, y :: m => if cmpI x y = 0 then lexI l m else cmpI x y
  | _, _ => 0
theorem lexI_cons (x y : Int) (l m : List Int) : lexI (x :: l) (y :: m) = if cmpI x y = 0 then lexI l m else cmpI x y := rfl
theorem cmpI_zero (x y : Int) : cmpI x y = 0 ↔ x = y := by
  unfold cmpI
  split
  · constructor
    · intro h; omega
    · intro h; omega
  · split
    · constructor
      · intro h; omega
      · intro h; omega
    · constructor
      · intro _; omega
      · intro _; rfl
theorem cmpI_self (x : Int) : cmpI x x = 0 := (cmpI_zero x x).mpr rfl
theorem cmpI_neg (x y : Int) : cmpI y x = - cmpI x y := by
  unfold cmpI
  split <;> split <;> omega
theorem lexI_same : ∀ a c d : List Int, lexI (a ++ c) (a ++ d) = lexI c d
  | [], _, _ => rfl
  | x :: a, c, d => by rw [List.cons_append, List.cons_append, lexI_cons, if_pos (cmpI_self x), lexI_same a c d]
theorem lexI_app : ∀ a b c d : List Int, a.length = b.length → a ≠ b → lexI (a ++ c) (b ++ d) = lexI a b
  | [], [], _, _, _, h => (h rfl).elim
  | [], _ :: _, _, _, hl, _ => by cases hl
  | _ :: _, [], _, _, hl, _ => by cases hl
  | x :: a, y :: b, c, d, hl, h => by
    rw [List.cons_append, List.cons_append, lexI_cons, lexI_cons]
    by_cases hxy : x = y
    · subst hxy
      rw [if_pos (cmpI_self x), if_pos (cmpI_self x)]
      exact lexI_app a b c d (by simpa using hl) (fun e => h (by rw [e]))
    · rw [if_neg (fun e => hxy ((cmpI_zero x y).mp e)), if_neg (fun e => hxy ((cmpI_zero x y).mp e))]
theorem lexI_one (x y : Int) : lexI [x] [y] = cmpI x y := by
  rw [lexI_cons]
  split
  · rename_i h; rw [h]; rfl
  · rfl
theorem lexI_neg : ∀ k m : List Int, k.length = m.length → lexI m k = - lexI k m
  | [], [], _ => rfl
  | [], _ :: _, h => by cases h
  | _ :: _, [], h => by cases h
  | x :: k, y :: m, h => by
    rw [lexI_cons, lexI_cons, cmpI_neg x y]
    by_cases e : cmpI x y = 0
    · rw [e, if_pos (by rfl), if_pos rfl]
      exact lexI_neg k m (by simpa using h)
    · rw [if_neg e, if_neg (by omega)]
theorem cmpI_three (x y : Int) : cmpI x y = -1 ∨ cmpI x y = 0 ∨ cmpI x y = 1 := by
  unfold cmpI
  split
  · exact .inl rfl
  · split
    · exact .inr (.inr rfl)
    · exact .inr (.inl rfl)
theorem lexI_three : ∀ k m : List Int, lexI k m = -1 ∨ lexI k m = 0 ∨ lexI k m = 1
  | [], m => .inr (.inl (by cases m <;> rfl))
  | _ :: _, [] => .inr (.inl rfl)
  | x :: k, y :: m => by
    rw [lexI_cons]
    split
    · exact lexI_three k m
    · exact cmpI_three x y
theorem lexI_zero : ∀ k m : List Int, k.length = m.length → (lexI k m = 0 ↔ k = m)
  | [], [], _ => by simp [lexI]
  | [], _ :: _, h => by cases h
  | _ :: _, [], h => by cases h
  | x :: k, y :: m, h => by
    rw [lexI_cons]
    by_cases e : cmpI x y = 0
    · rw [if_pos e, lexI_zero k m (by simpa using h)]
      have := (cmpI_zero x y).mp e
      subst this
      simp
    · rw [if_neg e]
      constructor
      · intro h; exact (e h).elim
      · intro h
        cases h
        exact (e (cmpI_self x)).elim
theorem cmpI_lt {x y : Int} (h : cmpI x y = -1) : x < y := by
  unfold cmpI at h
  split at h
  · assumption
  · split at h <;> omega
theorem cmpI_of_lt {x y : Int} (h : x < y) : cmpI x y = -1 := by
  unfold cmpI
  rw [if_pos h]
theorem lexI_trans : ∀ k m n : List Int, k.length = m.length → m.length = n.length → lexI k m = -1 → lexI m n = -1 → lexI k n = -1
  | [], [], [], _, _, h, _ => by cases h
  | _ :: _, [], _, h, _, _, _ => by cases h
  | [], _ :: _, _, h, _, _, _ => by cases h
  | _, _ :: _, [], _, h, _, _ => by cases h
  | _, [], _ :: _, _, h, _, _ => by cases h
  | x :: k, y :: m, z :: n, h1, h2, h3, h4 => by
    rw [lexI_cons] at h3 h4 ⊢
    by_cases e1 : cmpI x y = 0
    · have := (cmpI_zero x y).mp e1
      subst this
      rw [if_pos e1] at h3
      by_cases e2 : cmpI x z = 0
      · rw [if_pos e2] at h4 ⊢
        exact lexI_trans k m n (by simpa using h1) (by simpa using h2) h3 h4
      · rw [if_neg e2] at h4 ⊢
        exact h4
    · rw [if_neg e1] at h3
      have l1 := cmpI_lt h3
      by_cases e2 : cmpI y z = 0
      · have := (cmpI_zero y z).mp e2
        subst this
        rw [if_neg e1]
        exact h3
      · rw [if_neg e2] at h4
        have l2 := cmpI_lt h4
        have l3 : cmpI x z = -1 := cmpI_of_lt (by omega)
        rw [l3, if_neg (by decide)]
/-! Rows. -/
def bI (n : Int) : Int := if n = 0 then 0 else 1
/-- What a row is compared by. -/
def rk (t : Nat → Int) : List Int := [t 0, t 1, t 2, t 3, t 4, t 5, t 6, t 7, t 8, 4 * bI (t 9) + 2 * bI (t 10) + bI (t 11)]
theorem rl (t u : Nat → Int) : (rk t).length = (rk u).length := rfl
/-- A row with place q.1 turned to q.2. -/
def stw (s : Nat → Int) (q : Nat × Nat) : Nat → Int := fun j => if j = q.1 then (q.2 : Int) else s j
def cf (s : Nat → Int) (q r : Nat × Nat) : Int := lexI (rk (stw s q)) (rk (stw s r))
section
variable (s : Nat → Int)
theorem cf_self (q : Nat × Nat) : cf s q q = 0 := (lexI_zero _ _ rfl).2 rfl
theorem cf_neg (q r : Nat × Nat) : cf s r q = - cf s q r := lexI_neg _ _ rfl
theorem cf_three (q r : Nat × Nat) : cf s q r = -1 ∨ cf s q r = 0 ∨ cf s q r = 1 := lexI_three _ _
theorem cf_trans {a b c : Nat × Nat} (h1 : cf s a b = -1) (h2 : cf s b c = -1) : cf s a c = -1 := lexI_trans _ _ _ (rl _ _) (rl _ _) h1 h2
theorem cf_zero_l {a b : Nat × Nat} (h : cf s a b = 0) (c : Nat × Nat) : cf s a c = cf s b c := by
  have : rk (stw s a) = rk (stw s b) := (lexI_zero _ _ (rl _ _)).1 h
  unfold cf
  rw [this]
theorem cf_zero_r {a b : Nat × Nat} (h : cf s a b = 0) (c : Nat × Nat) : cf s c a = cf s c b := by
  have : rk (stw s a) = rk (stw s b) := (lexI_zero _ _ (rl _ _)).1 h
  unfold cf
  rw [this]
theorem cf_swo : Go.Sort.SWO (fun q r => decide (cf s q r < 0)) where
  irrefl x := by rw [cf_self]; rfl
  trans x y z h1 h2 := by
    have h1 := of_decide_eq_true h1
    have h2 := of_decide_eq_true h2
    have a := cf_three s x y
    have b := cf_three s y z
    rw [cf_trans s (a := x) (b := y) (c := z) (by omega) (by omega)]
    rfl
  ntrans x y z h1 h2 := by
    have h1 := of_decide_eq_false h1
    have h2 := of_decide_eq_false h2
    refine decide_eq_false ?_
    rcases cf_three s x y with a | a | a
    · omega
    · rw [cf_zero_l s a]; exact h2
    rcases cf_three s y z with b | b | b
    · omega
    · rw [← cf_zero_r s b]; exact h1
    have := cf_trans s (a := z) (b := y) (c := x) (by rw [cf_neg s y z, b]) (by rw [cf_neg s x y, a])
    rw [cf_neg s z x, this]
    decide
/-- What can be a neighbour: a place and another value. -/
def good (q : Nat × Nat) : Prop := q.1 < 12 ∧ (q.2 : Int) ≠ s q.1 ∧ (9 ≤ q.1 → q.2 < 2 ∧ (s q.1 = 0 ∨ s q.1 = 1))
theorem rk_eq {t u : Nat → Int} (h : rk t = rk u) : (∀ j, j < 9 → t j = u j) ∧ ∀ j, 9 ≤ j → j < 12 → bI (t j) = bI (u j) := by
  simp only [rk, List.cons.injEq, and_true] at h
  obtain ⟨h0, h1, h2, h3, h4, h5, h6, h7, h8, hb⟩ := h
  constructor
  · intro j hj
    match j, hj with
    | 0, _ => exact h0
    | 1, _ => exact h1
    | 2, _ => exact h2
    | 3, _ => exact h3
    | 4, _ => exact h4
    | 5, _ => exact h5
    | 6, _ => exact h6
    | 7, _ => exact h7
    | 8, _ => exact h8
  · have two : ∀ n, bI n = 0 ∨ bI n = 1 := fun n => by unfold bI; split <;> simp
    have a := two (t 9)
    have b := two (t 10)
    have c := two (t 11)
    have a' := two (u 9)
    have b' := two (u 10)
    have c' := two (u 11)
    intro j h9 hj
    match j, h9, hj with
    | 9, _, _ => omega
    | 10, _, _ => omega
    | 11, _, _ => omega
theorem bI_two {n : Int} (h : n = 0 ∨ n = 1) : bI n = n := by rcases h with rfl | rfl <;> rfl
theorem cf_good {q r : Nat × Nat} (hq : good s q) (hr : good s r) (h : cf s q r = 0) : q = r := by
  obtain ⟨e1, e2⟩ := rk_eq ((lexI_zero _ _ (rl (stw s q) (stw s r))).1 h)
  obtain ⟨q1, q2⟩ := q
  obtain ⟨r1, r2⟩ := r
  obtain ⟨hq1, hq2, hq3⟩ := hq
  obtain ⟨hr1, hr2, hr3⟩ := hr
  simp only at hq1 hq2 hq3 hr1 hr2 hr3
  have at1 : stw s (q1, q2) q1 = q2 := if_pos rfl
  by_cases hne : q1 = r1
  · subst hne
    have at2 : stw s (q1, r2) q1 = r2 := if_pos rfl
    by_cases h9 : q1 < 9
    · have := e1 q1 h9
      rw [at1, at2] at this
      have : q2 = r2 := by omega
      rw [this]
    · have := e2 q1 (by omega) hq1
      rw [at1, at2, bI_two (by omega), bI_two (by omega)] at this
      have : q2 = r2 := by omega
      rw [this]
  · have at2 : stw s (r1, r2) q1 = s q1 := if_neg hne
    by_cases h9 : q1 < 9
    · have := e1 q1 h9
      rw [at1, at2] at this
      exact absurd this hq2
    · have := e2 q1 (by omega) hq1
      rw [at1, at2, bI_two (by omega), bI_two (hq3 (by omega)).2] at this
      exact absurd this hq2
/-- Put into a sorted list. -/
def ins (q : Nat × Nat) : List (Nat × Nat) → List (Nat × Nat)
  | [] => [q]
  | a :: l => if cf s a q < 0 then a :: ins q l else q :: a :: l
def srt (l : List (Nat × Nat)) : List (Nat × Nat) := l.foldl (fun m q => ins s q m) []
theorem ins_perm (q : Nat × Nat) : ∀ l, (ins s q l).Perm (q :: l)
  | [] => .refl _
  | a :: l => by
    unfold ins
    split
    · exact ((ins_perm q l).cons a).trans (.swap q a l)
    · exact .refl _
theorem ins_len (q : Nat × Nat) (l : List (Nat × Nat)) : (ins s q l).length = l.length + 1 := (ins_perm s q l).length_eq
/-- Sorted without equals. -/
abbrev Sd (l : List (Nat × Nat)) : Prop := l.Pairwise fun a b => cf s a b = -1
theorem ins_sd (q : Nat × Nat) : ∀ l, Sd s l → (∀ a, a ∈ l → cf s a q ≠ 0) → Sd s (ins s q l)
  | [], _, _ => List.pairwise_singleton _ _
  | a :: l, h, hn => by
    have h := List.pairwise_cons.1 h
    unfold ins
    split
    · rename_i hlt
      refine List.pairwise_cons.2 ⟨fun b hb => ?_, ins_sd q l h.2 fun b hb => hn b (List.mem_cons_of_mem _ hb)⟩
      rcases List.mem_cons.1 ((ins_perm s q l).mem_iff.1 hb) with rfl | hb
      · have := cf_three s a b
        omega
      · exact h.1 b hb
    · rename_i hlt
      have ha := hn a List.mem_cons_self
      have h3 := cf_three s a q
      have hqa : cf s q a = -1 := by rw [cf_neg s a q]; omega
      refine List.pairwise_cons.2 ⟨fun b hb => ?_, List.pairwise_cons.2 h⟩
      rcases List.mem_cons.1 hb with rfl | hb
      · exact hqa
      · exact cf_trans s hqa (h.1 b hb)
theorem srt_app (l : List (Nat × Nat)) (q : Nat × Nat) : srt s (l ++ [q]) = ins s q (srt s l) := by
  unfold srt
  rw [List.foldl_append]
  rfl
theorem foldl_perm : ∀ (l m : List (Nat × Nat)), (l.foldl (fun m q => ins s q m) m).Perm (m ++ l)
  | [], m => by rw [List.append_nil]; exact .refl _
  | q :: l, m => by
    refine (foldl_perm l (ins s q m)).trans ?_
    refine ((ins_perm s q m).append_right l).trans ?_
    exact List.perm_middle.symm
theorem srt_perm (l : List (Nat × Nat)) : (srt s l).Perm l := foldl_perm s l []
theorem foldl_sd : ∀ (l m : List (Nat × Nat)), Sd s m → (m ++ l).Nodup → (∀ q, q ∈ m ++ l → good s q) → Sd s (l.foldl (fun m q => ins s q m) m)
  | [], m, h, _, _ => h
  | q :: l, m, h, hn, hg => by
    have hp : (ins s q m ++ l).Perm (m ++ q :: l) := ((ins_perm s q m).append_right l).trans List.perm_middle.symm
    refine foldl_sd l (ins s q m) (ins_sd s q m h fun a ha e => ?_) (hp.nodup_iff.2 hn) fun r hr => hg r (hp.mem_iff.1 hr)
    have := cf_good s (hg a (List.mem_append_left _ ha)) (hg q (List.mem_append_right _ List.mem_cons_self)) e
    subst this
    have := (List.nodup_append.1 hn).2.2 a ha a List.mem_cons_self
    exact this rfl
theorem srt_sd (l : List (Nat × Nat)) (hn : l.Nodup) (hg : ∀ q, q ∈ l → good s q) : Sd s (srt s l) := foldl_sd s l [] List.Pairwise.nil hn hg
theorem sd_uniq {l m : List (Nat × Nat)} (hp : l.Perm m) (hl : Sd s l) (hm : Sd s m) : l = m := by
  refine List.Perm.eq_of_pairwise (le := fun a b => cf s a b = -1) (fun a b _ _ h1 h2 => ?_) hl hm hp
  rw [cf_neg s a b] at h2
  omega
/-- What the sort of the library answers is this. -/
theorem sorted_srt (l : List (Nat × Nat)) (d : Array (Nat × Nat)) (hn : l.Nodup) (hg : ∀ q, q ∈ l → good s q) (hp : Go.Sort.PermIn 0 l.toArray.size l.toArray d) (hs : Go.Sort.SortedIn (fun q r => decide (cf s q r < 0)) 0 l.toArray.size d) : d.toList = srt s l := by
  obtain ⟨h1, _, h3⟩ := hp
  have hsz : d.size = l.length := by simpa using h1
  have hp : d.toList.Perm l := by
    have e1 : (d.extract 0 l.toArray.size) = d := by rw [← h1]; simp
    have e2 : (l.toArray.extract 0 l.toArray.size) = l.toArray := by simp
    rw [e1, e2] at h3
    simpa using h3
  refine sd_uniq s (hp.trans (srt_perm s l).symm) ?_ (srt_sd s l hn hg)
  refine List.pairwise_iff_getElem.2 fun i j hi hj hij => ?_
  have hi' : i < d.size := by simpa using hi
  have hj' : j < d.size := by simpa using hj
  have := of_decide_eq_false (hs i j (Nat.zero_le _) hij (by rw [List.size_toArray, ← hsz]; exact hj'))
  rw [getElem!_pos d i hi', getElem!_pos d j hj'] at this
  rw [Array.getElem_toList, Array.getElem_toList]
  have hne : cf s d[i] d[j] ≠ 0 := fun e => by
    have hgi := hg d[i] (hp.mem_iff.1 (by simp))
    have hgj := hg d[j] (hp.mem_iff.1 (by simp))
    have heq := cf_good s hgi hgj e
    have hnd := List.pairwise_iff_getElem.1 (hp.nodup_iff.2 hn) i j hi hj hij
    rw [Array.getElem_toList, Array.getElem_toList] at hnd
    exact hnd heq
  have h3 := cf_three s d[i] d[j]
  rw [cf_neg s d[i] d[j]] at this
  omega
end
end Go.Proofs.Z.W

namespace Go.Proofs.Z
open Go Go.RowKit Go.Proofs Go.Ri W
/-! Neighbours of a row: places and values. -/
theorem rng_mem {v : Nat} : ∀ {n : Nat}, v ∈ nbV.rngN5 n ↔ v < n
  | 0 => by simp [nbV.rngN5]
  | n + 1 => by
    rw [nbV.rngN5, List.mem_append, rng_mem (n := n), List.mem_singleton]
    omega
theorem rng_nd : ∀ n : Nat, (nbV.rngN5 n).Nodup
  | 0 => List.Pairwise.nil
  | n + 1 => by
    rw [nbV.rngN5]
    refine List.nodup_append.2 ⟨rng_nd n, List.pairwise_singleton _ n, fun a ha b hb => ?_⟩
    have := rng_mem.1 ha
    have := List.mem_singleton.1 hb
    omega
section
variable (s : Nat → Int)
/-- Which values of a place make a valid ear, other than the present one. -/
def mskB (k v : Nat) : Bool := decide ((v : Int) ≠ s k) && valB (stw s (k, v))
def msk (k : Nat) : Nat → Nat
  | 0 => 0
  | n + 1 => msk k n + if mskB s k n then 2 ^ n else 0
theorem msk_lt (k : Nat) : ∀ n, msk s k n < 2 ^ n
  | 0 => Nat.one_pos
  | n + 1 => by
    have := msk_lt k n
    show msk s k n + _ < _
    rw [Nat.pow_succ]
    split <;> omega
theorem msk_bit (k v : Nat) : ∀ n, v < n → nbit (msk s k n) v = mskB s k v
  | 0, h => absurd h (Nat.not_lt_zero _)
  | n + 1, h => by
    have hlt := msk_lt s k n
    have hp : 0 < 2 ^ v := Nat.two_pow_pos v
    unfold nbit
    show Nat.beq ((msk s k n + _) / 2 ^ v % 2) 1 = _
    by_cases hv : v < n
    · have ih := msk_bit k v n hv
      unfold nbit at ih
      rw [← ih]
      congr 1
      split
      · have e : (2 : Nat) ^ n = 2 ^ v * (2 * 2 ^ (n - v - 1)) := by
          rw [← Nat.mul_assoc, Nat.mul_comm (2 ^ v) 2, ← Nat.pow_succ', ← Nat.pow_add]
          congr 1
          omega
        rw [e, Nat.add_mul_div_left _ _ hp]
        omega
      · rfl
    · obtain rfl : v = n := by omega
      by_cases hb : mskB s k v = true
      · rw [if_pos hb, Nat.add_div_right _ hp, Nat.div_eq_of_lt hlt, hb]
        rfl
      · rw [if_neg hb, Nat.add_zero, Nat.div_eq_of_lt hlt]
        simp only [Bool.not_eq_true] at hb
        rw [hb]
        rfl
def pv (k : Nat) : Nat := (s k).toNat
/-- The neighbours at one place. -/
def nbA (k : Nat) : List Nat := nbV k (pv s k) (msk s k (vc k))
/-- The neighbours at the first k places. -/
def nbL : Nat → List (Nat × Nat)
  | 0 => []
  | k + 1 => nbL k ++ (nbA s k).map fun v => (k, v)
end
/-- A row as the shape of a valid ear. -/
structure Row (s : Nat → Int) : Prop where
  lo : ∀ j, j < 12 → 0 ≤ s j
  hi : ∀ j, j < 12 → s j < vc j
  val : valB s = true
section
variable {s : Nat → Int} (H : Row s)
include H
theorem pv_eq {k : Nat} (hk : k < 12) : ((pv s k : Nat) : Int) = s k := by
  have := H.lo k hk
  unfold pv
  omega
theorem pv_lt {k : Nat} (hk : k < 12) : pv s k < vc k := by
  have := pv_eq H hk
  have := H.hi k hk
  omega
theorem nbA_mem {k : Nat} (hk : k < 12) (v : Nat) : v ∈ nbA s k ↔ v < vc k ∧ mskB s k v = true := by
  unfold nbA nbV
  rw [List.mem_filter, rng_mem]
  refine and_congr_right fun hv => ?_
  rw [msk_bit s k v (vc k) hv]
  have e := pv_eq H hk
  constructor
  · intro h
    exact (Bool.and_eq_true _ _ ▸ h).2
  · intro h
    have h1 : (v : Int) ≠ s k := by
      unfold mskB at h
      rw [Bool.and_eq_true] at h
      exact of_decide_eq_true h.1
    rw [h, Bool.and_true]
    have : v ≠ pv s k := by omega
    rw [show Nat.beq v (pv s k) = false by
      cases h : Nat.beq v (pv s k) with
      | false => rfl
      | true => exact absurd (Nat.eq_of_beq_eq_true h) this]
    rfl
omit H in
theorem nbA_nd (k : Nat) : (nbA s k).Nodup := (rng_nd _).filter _
theorem nbL_mem : ∀ {k : Nat}, k ≤ 12 → ∀ q : Nat × Nat, q ∈ nbL s k ↔ q.1 < k ∧ q.2 < vc q.1 ∧ mskB s q.1 q.2 = true
  | 0, _, q => by simp [nbL]
  | k + 1, hk, q => by
    obtain ⟨q1, q2⟩ := q
    rw [nbL, List.mem_append, nbL_mem (by omega), List.mem_map]
    simp only [Prod.mk.injEq]
    constructor
    · rintro (⟨h1, h2⟩ | ⟨v, hv, rfl, rfl⟩)
      · exact ⟨by omega, h2⟩
      · exact ⟨by omega, (nbA_mem H (by omega) v).1 hv⟩
    · rintro ⟨h1, h2⟩
      by_cases h : q1 < k
      · exact .inl ⟨h, h2⟩
      · obtain rfl : q1 = k := by omega
        exact .inr ⟨q2, (nbA_mem H (by omega) q2).2 h2, rfl, rfl⟩
theorem nbL_nd : ∀ {k : Nat}, k ≤ 12 → (nbL s k).Nodup
  | 0, _ => List.Pairwise.nil
  | k + 1, hk => by
    rw [nbL]
    refine List.nodup_append.2 ⟨nbL_nd (by omega), ?_, fun a ha b hb => ?_⟩
    · refine List.Pairwise.map _ ?_ (nbA_nd (s := s) k)
      intro a b hab e
      exact hab (Prod.mk.inj e).2
    · rintro rfl
      have h1 := (nbL_mem H (by omega) a).1 ha
      obtain ⟨v, _, rfl⟩ := List.mem_map.1 hb
      exact absurd h1.1 (Nat.lt_irrefl _)
theorem nbL_good : ∀ q, q ∈ nbL s 12 → good s q := by
  intro q hq
  obtain ⟨h1, h2, h3⟩ := (nbL_mem H (Nat.le_refl _) q).1 hq
  refine ⟨h1, ?_, fun h9 => ?_⟩
  · unfold mskB at h3
    rw [Bool.and_eq_true] at h3
    exact of_decide_eq_true h3.1
  · have e : vc q.1 = 2 := by
      unfold vc
      rw [if_neg (by omega), if_neg (by omega)]
    have hl := H.lo q.1 h1
    have hh := H.hi q.1 h1
    rw [e] at h2 hh
    exact ⟨h2, by omega⟩
omit H in
theorem valB_hole (k v : Nat) (hk : 9 ≤ k) : valB (stw s (k, v)) = valB s := by
  have e : ∀ j, j < 9 → stw s (k, v) j = s j := fun j hj => if_neg (show j ≠ k by omega)
  unfold valB edgeB sh
  simp only [e, Nat.reduceAdd, Nat.reduceLT]
/-- There is always a neighbour. -/
theorem nbL_last : nbL s 12 ≠ [] := by
  have h11 := H.lo 11 (by decide)
  have h11' := H.hi 11 (by decide)
  have e : vc 11 = 2 := rfl
  rw [e] at h11'
  have hm : (11, if s 11 = 0 then 1 else 0) ∈ nbL s 12 := by
    refine (nbL_mem H (Nat.le_refl _) _).2 ⟨show (11 : Nat) < 12 by decide, ?_, ?_⟩
    · show (if s 11 = 0 then 1 else 0) < vc 11
      rw [e]
      split <;> omega
    · show mskB s 11 _ = true
      unfold mskB
      rw [valB_hole 11 _ (by decide), H.val, Bool.and_true]
      refine decide_eq_true ?_
      split <;> omega
  intro h
  rw [h] at hm
  cases hm
end
end Go.Proofs.Z

namespace Go.Proofs.Z.W
open Go Go.RowKit Go.Sort
/-! The worlds of the sort, block by block. -/
section
variable {α : Type} [Inhabited α]
theorem flat_list (enc : α → List Value) (k : Nat) (h0 : 0 < k) (hk : ∀ x, (enc x).length = k) : ∀ l : List α, (List.range (l.length * k)).map (fun t => (enc l[t / k]!)[t % k]!) = l.flatMap enc
  | [] => by simp
  | a :: l => by
    have e : (a :: l).length * k = k + l.length * k := by rw [List.length_cons, Nat.add_mul, Nat.one_mul, Nat.add_comm]
    rw [e, List.range_add, List.map_append, List.flatMap_cons, List.map_map, ← flat_list enc k h0 hk l]
    congr 1
    · refine List.ext_getElem (by simp [hk]) fun i h1 h2 => ?_
      have hi : i < k := by simpa using h1
      rw [List.getElem_map, List.getElem_range, Nat.div_eq_of_lt hi, Nat.mod_eq_of_lt hi]
      show (enc a)[i]! = _
      rw [getElem!_pos (enc a) i h2]
    · refine List.map_congr_left fun t _ => ?_
      show (enc (a :: l)[(k + t) / k]!)[(k + t) % k]! = _
      rw [Nat.add_div_left _ h0, Nat.add_mod_left]
      rfl
theorem flatK_list (enc : α → List Value) (k : Nat) (h0 : 0 < k) (hk : ∀ x, (enc x).length = k) (l : List α) : (flatK enc k l.toArray).toList = l.flatMap enc := by
  rw [← flat_list enc k h0 hk l]
  unfold flatK
  simp
theorem flatK_toList (enc : α → List Value) (k : Nat) (h0 : 0 < k) (hk : ∀ x, (enc x).length = k) (d : Array α) : (flatK enc k d).toList = d.toList.flatMap enc := flatK_list enc k h0 hk d.toList
/-- A block's first cells are held. -/
theorem holds_of (enc : α → List Value) (k : Nat) (h0 : 0 < k) (hk : ∀ x, (enc x).length = k) (d : Array α) (w : World) (b : Nat) (cur : Array Value) (e : TypeId) (hb : w.heap[b]? = some (.cells cur e (0, 0)))
    (hc : cur.toList.take (d.toList.flatMap enc).length = d.toList.flatMap enc) : HoldsK enc k w b 0 d := by
  intro j hj
  have hl := flatK_toList enc k h0 hk d
  have hj2 : j < (d.toList.flatMap enc).length := by rw [← hl]; simpa using hj
  have hcj : cur[j]? = some (flatK enc k d)[j]! := by
    have e1 : cur.toList[j]? = (d.toList.flatMap enc)[j]? := by
      rw [← hc, List.getElem?_take, if_pos (by simpa using hj2)]
    rw [← Array.getElem?_toList, e1, ← hl, getElem!_pos _ j hj, Array.getElem?_toList, Array.getElem?_eq_getElem hj]
  constructor
  · unfold World.cell?
    simp only [hb, Nat.zero_add]
    simpa using hcj
  · unfold World.frozen?
    simp only [hb]
    simp
/-- The world behind the sort. -/
theorem sorted_world (enc : α → List Value) (k : Nat) (h0 : 0 < k) (hk : ∀ x, (enc x).length = k) (w : World) (b n : Nat) (cur : Array Value) (e : TypeId) (d : Array α) (os : Array Obj) (hb : w.heap[b]? = some (.cells cur e (0, 0))) (hsz : d.size * k ≤ cur.size) :
    (∃ cur', (sortWorldK enc k w b 0 n d os).heap[b]? = some (.cells cur' e (0, 0)) ∧ cur'.size = cur.size ∧ cur'.toList.take (d.toList.flatMap enc).length = d.toList.flatMap enc) ∧
    (∀ j, j ≠ b → j < w.heap.size → (sortWorldK enc k w b 0 n d os).heap[j]? = w.heap[j]?) ∧ w.heap.size ≤ (sortWorldK enc k w b 0 n d os).heap.size ∧ (sortWorldK enc k w b 0 n d os).os = w.os ∧ (sortWorldK enc k w b 0 n d os).tape = w.tape ∧ (sortWorldK enc k w b 0 n d os).output = w.output := by
  have hbl : b < w.heap.size := by
    rcases Nat.lt_or_ge b w.heap.size with h | h
    · exact h
    · rw [Array.getElem?_eq_none h] at hb; cases hb
  have hh : (sortWorldK enc k w b 0 n d os).heap = w.heap.modify b (onCells (putCells id 0 (flatK enc k d))) ++ os := rfl
  have hl := flatK_toList enc k h0 hk d
  refine ⟨⟨putCells id 0 (flatK enc k d) cur, ?_, ?_, ?_⟩, ?_, ?_, rfl, rfl, rfl⟩
  · rw [hh, Array.getElem?_append_left (by simpa using hbl), Array.getElem?_modify, if_pos rfl, hb]
    rfl
  · simp [putCells]
  · refine List.ext_getElem? fun i => ?_
    rw [List.getElem?_take]
    split
    · rename_i hi
      have hi2 : i < (flatK enc k d).size := by rw [← hl] at hi; simpa using hi
      have hi3 : i < cur.size := by rw [size_flatK] at hi2; omega
      rw [Array.getElem?_toList]
      unfold putCells
      rw [Array.getElem?_mapIdx, Array.getElem?_eq_getElem hi3, Option.map_some, if_pos ⟨Nat.zero_le _, by omega⟩, ← hl, Array.getElem?_toList, Array.getElem?_eq_getElem hi2, Nat.sub_zero, getElem!_pos _ i hi2]
      rfl
    · rename_i hi
      rw [List.getElem?_eq_none (by omega)]
  · intro j hj hjl
    rw [hh, Array.getElem?_append_left (by simpa using hjl), Array.getElem?_modify, if_neg (fun e => hj e.symm)]
  · rw [hh]
    simp
end
end Go.Proofs.Z.W

namespace Go.Proofs.Z
open Go Go.RowKit Go.Proofs Go.Ri W
/-! Neighbours of package ear: the rounds. -/
/-- The cells of a row's ear. -/
def earC (t : Nat → Int) : List Value := [.int .i64 (t 0), .int .i64 (t 1), .int .i64 (t 2), .int .i64 (t 3), .int .i64 (t 4), .int .i64 (t 5), .int .i64 (t 6), .int .i64 (t 7), .int .i64 (t 8), .bool (bitY t 0), .bool (bitY t 1), .bool (bitY t 2)]
theorem earC_len (t : Nat → Int) : (earC t).length = 12 := rfl
theorem earC_one (t : Nat → Int) : ∀ v, v ∈ earC t → v.oneCell' = true := by
  intro v hv
  simp only [earC, List.mem_cons, List.not_mem_nil, or_false] at hv
  rcases hv with rfl | rfl | rfl | rfl | rfl | rfl | rfl | rfl | rfl | rfl | rfl | rfl <;> rfl
theorem earF_C (t : Nat → Int) : earF t (bitY t) = .agg (earC t).toArray := rfl
def encN (s : Nat → Int) (q : Nat × Nat) : List Value := earC (stw s q)
/-- The cells of neighbours. -/
def cellsN (s : Nat → Int) (l : List (Nat × Nat)) : List Value := l.flatMap (encN s)
theorem cellsN_len (s : Nat → Int) : ∀ l, (cellsN s l).length = l.length * 12
  | [] => rfl
  | q :: l => by
    show (encN s q ++ cellsN s l).length = _
    rw [List.length_append, cellsN_len s l, List.length_cons]
    show 12 + _ = _
    omega
theorem cellsN_one (s : Nat → Int) (l : List (Nat × Nat)) : ∀ v, v ∈ cellsN s l → v.oneCell' = true := by
  intro v hv
  obtain ⟨q, _, hq⟩ := List.mem_flatMap.1 hv
  exact earC_one _ v hq
theorem cellsN_app (s : Nat → Int) (l m : List (Nat × Nat)) : cellsN s (l ++ m) = cellsN s l ++ cellsN s m := List.flatMap_append
theorem nbA_len (s : Nat → Int) (k : Nat) : (nbA s k).length ≤ 5 := by
  unfold nbA nbV
  refine Nat.le_trans (List.length_filter_le _ _) ?_
  have : ∀ n, (nbV.rngN5 n).length = n := fun n => by
    induction n with
    | zero => rfl
    | succ n ih => rw [nbV.rngN5, List.length_append, ih]; rfl
  rw [this]
  unfold vc
  split
  · omega
  · split <;> omega
theorem nbL_len (s : Nat → Int) : ∀ k, (nbL s k).length ≤ 5 * k
  | 0 => Nat.le_refl _
  | k + 1 => by
    have := nbL_len s k
    have := nbA_len s k
    rw [nbL, List.length_append, List.length_map]
    omega
theorem W.ok_rng (s i p : Nat) (z : Int) (h : (Nat.beq (cls z) 0 || !badC s i p (cls z)) = true) : 0 ≤ z ∧ z ≤ 3 := by
  have h0 := cls0 z
  have h2 := cls2 z
  have h3 := cls3 z
  cases hb : Nat.beq (cls z) 0 with
  | true =>
    rw [hb] at h0
    have : z = 0 := by simpa using h0.symm
    omega
  | false =>
    rw [hb] at h
    unfold badC at h
    rw [h2, h3] at h
    by_cases a : z < 0
    · simp [a] at h
    · by_cases b : z > 3
      · simp [b] at h
      · omega
theorem W.edge_rng (s : Nat) (x : Nat → Int) (h : edgeB s x = true) : ∀ i, i < 4 → 0 ≤ x i ∧ x i ≤ 3 := by
  unfold edgeB okC at h
  simp only [Bool.and_eq_true] at h
  obtain ⟨⟨⟨a, b⟩, c⟩, d⟩ := h
  intro i hi
  match i, hi with
  | 0, _ => exact W.ok_rng _ _ _ _ a
  | 1, _ => exact W.ok_rng _ _ _ _ b
  | 2, _ => exact W.ok_rng _ _ _ _ c
  | 3, _ => exact W.ok_rng _ _ _ _ d
theorem W.tip_rng (t : Int) (h : tipOK (tcl t) = true) : 0 ≤ t ∧ t ≤ 4 := by
  obtain ⟨_, h1, h2, _, _⟩ := tcl_spec t
  unfold tipOK at h
  rw [h1, h2] at h
  by_cases a : t < 0
  · simp [a] at h
  · by_cases b : t > 4
    · simp [b] at h
    · omega
theorem W.val_rng (x : Nat → Int) (y : Nat → Bool) (hv : valB x = true) (p : Nat) (hp : p < 12) : 0 ≤ shp x y p ∧ shp x y p < (vc p : Int) := by
  unfold valB at hv
  simp only [Bool.and_eq_true] at hv
  obtain ⟨ht, hu, hl⟩ := hv
  have t := W.tip_rng _ ht
  have u := W.edge_rng _ _ hu
  have l := W.edge_rng _ _ hl
  unfold shp
  by_cases h9 : p < 9
  · rw [if_pos h9]
    by_cases h0 : p = 0
    · subst h0
      have : ((vc 0 : Nat) : Int) = 5 := rfl
      omega
    · have e : ((vc p : Nat) : Int) = 4 := by unfold vc; rw [if_neg h0, if_pos h9]; rfl
      rw [e]
      by_cases h5 : p < 5
      · have := u (p - 1) (by omega)
        unfold sh at this
        rw [show 1 + (p - 1) = p by omega] at this
        omega
      · have := l (p - 5) (by omega)
        unfold sh at this
        rw [show 5 + (p - 5) = p by omega] at this
        omega
  · rw [if_neg h9]
    have e : ((vc p : Nat) : Int) = 2 := by unfold vc; rw [if_neg (by omega), if_neg h9]; rfl
    rw [e]
    split <;> omega
theorem shp_lt (x : Nat → Int) (y : Nat → Bool) {j : Nat} (h : j < 9) : shp x y j = x j := if_pos h
theorem W.valB_row (x : Nat → Int) (y : Nat → Bool) : valB (shp x y) = valB x := by
  have e : ∀ j, j < 9 → shp x y j = x j := fun j hj => if_pos hj
  unfold valB edgeB sh
  simp only [e, Nat.reduceAdd, Nat.reduceLT]
section
variable (x : Nat → Int) (y : Nat → Bool)
def nbN (k : Nat) : Nm := ⟨fun j => if j < 20 then x j else shp x y (j - 20), fun j => if j < 20 then y j else bitY (shp x y) (j - 20), fun _ => ⟨#[]⟩, fun i => if i = 50 then cellsN (shp x y) (W.srt (shp x y) (nbL (shp x y) 12)) else cellsN (shp x y) (nbL (shp x y) k ++ ((nbA (shp x y) k).take (i - 1)).map fun v => (k, v))⟩
abbrev nbVal (k : Nat) (W : Nat → Value) : Val := (nbN x y k).val W
theorem nb_I (k j : Nat) (hj : j < 12) : (nbN x y k).I (20 + j) = shp x y j := by
  show (if 20 + j < 20 then _ else shp x y (20 + j - 20)) = _
  rw [if_neg (by omega), Nat.add_sub_cancel_left]
theorem nb_row (m k v : Nat) (hk : k < 12) (W : Nat → Value) : @cvF (nbVal x y m W) (.agg (rowS k v)) = shapeF (stw (shp x y) (k, v)) := by
  match k, hk with
  | 0, _ => rfl
  | 1, _ => rfl
  | 2, _ => rfl
  | 3, _ => rfl
  | 4, _ => rfl
  | 5, _ => rfl
  | 6, _ => rfl
  | 7, _ => rfl
  | 8, _ => rfl
  | 9, _ => rfl
  | 10, _ => rfl
  | 11, _ => rfl
theorem vb (v : Nat) : (!((v : Int) == 0)) = (!(Nat.beq v 0)) := by
  cases v with
  | zero => rfl
  | succ n =>
    have : ((n + 1 : Nat) : Int) ≠ 0 := by omega
    rw [show (((n + 1 : Nat) : Int) == 0) = false by simpa using this]
    rfl
theorem nb_earL (m k v : Nat) (hk : k < 12) (W : Nat → Value) : (earS k v).map (@cv (nbVal x y m W)) = encN (shp x y) (k, v) := by
  match k, hk with
  | 0, _ => rfl
  | 1, _ => rfl
  | 2, _ => rfl
  | 3, _ => rfl
  | 4, _ => rfl
  | 5, _ => rfl
  | 6, _ => rfl
  | 7, _ => rfl
  | 8, _ => rfl
  | 9, _ =>
    have e : encN (shp x y) (9, v) = [.int .i64 (shp x y 0), .int .i64 (shp x y 1), .int .i64 (shp x y 2), .int .i64 (shp x y 3), .int .i64 (shp x y 4), .int .i64 (shp x y 5), .int .i64 (shp x y 6), .int .i64 (shp x y 7), .int .i64 (shp x y 8), .bool (!((v : Int) == 0)), .bool (bitY (shp x y) 1), .bool (bitY (shp x y) 2)] := rfl
    rw [e, vb]
    rfl
  | 10, _ =>
    have e : encN (shp x y) (10, v) = [.int .i64 (shp x y 0), .int .i64 (shp x y 1), .int .i64 (shp x y 2), .int .i64 (shp x y 3), .int .i64 (shp x y 4), .int .i64 (shp x y 5), .int .i64 (shp x y 6), .int .i64 (shp x y 7), .int .i64 (shp x y 8), .bool (bitY (shp x y) 0), .bool (!((v : Int) == 0)), .bool (bitY (shp x y) 2)] := rfl
    rw [e, vb]
    rfl
  | 11, _ =>
    have e : encN (shp x y) (11, v) = [.int .i64 (shp x y 0), .int .i64 (shp x y 1), .int .i64 (shp x y 2), .int .i64 (shp x y 3), .int .i64 (shp x y 4), .int .i64 (shp x y 5), .int .i64 (shp x y 6), .int .i64 (shp x y 7), .int .i64 (shp x y 8), .bool (bitY (shp x y) 0), .bool (bitY (shp x y) 1), .bool (!((v : Int) == 0))] := rfl
    rw [e, vb]
    rfl
theorem nb_ear (m k v : Nat) (hk : k < 12) (W : Nat → Value) : @cvF (nbVal x y m W) (.agg (earS k v)) = earF (stw (shp x y) (k, v)) (bitY (stw (shp x y) (k, v))) := by
  show Value.agg ((earS k v).map (@cv (nbVal x y m W))).toArray = _
  rw [nb_earL x y m k v hk W]
  rfl
theorem shp_row (hv : valB x = true) : Row (shp x y) := ⟨fun j hj => (W.val_rng x y hv j hj).1, fun j hj => (W.val_rng x y hv j hj).2, (W.valB_row x y).trans hv⟩
theorem laCh_mem (k : Nat) : ∀ (l : List Nat) (i : Nat) (e : LAE), e ∈ laCh k l i → ∃ j v, j < l.length ∧ l[j]? = some v ∧ e = ⟨i + j, earS k v, i + j + 1⟩
  | [], _, _, h => by cases h
  | v :: l, i, e, h => by
    rcases List.mem_cons.1 h with rfl | h
    · exact ⟨0, v, Nat.succ_pos _, rfl, rfl⟩
    · obtain ⟨j, v', h1, h2, rfl⟩ := laCh_mem k l (i + 1) e h
      refine ⟨j + 1, v', by simpa using h1, by simpa using h2, ?_⟩
      rw [show i + 1 + j = i + (j + 1) by omega]
theorem nbTb_ok (hv : valB x = true) (k : Nat) (hk : k < 12) (W : Nat → Value) : @TbOK (nbVal x y k W) (nbTb k (pv (shp x y) k) (msk (shp x y) k (vc k))) := by
  have H := shp_row x y hv
  letI : Val := nbVal x y k W
  refine { T := ?_, Y := ?_, LA := ?_ }
  · intro e he
    obtain ⟨v, hv, rfl⟩ := List.mem_map.1 he
    refine ⟨rfl, ?_⟩
    show TCTrue .ieq (.int .i64 (v : Int)) (.int .i64 ((nbN x y k).I (20 + k))) (.bool (Nat.beq v (pv (shp x y) k)))
    rw [nb_I x y k k hk, ← pv_eq H hk, show (Nat.beq v (pv (shp x y) k)) = ((v : Int) == ((pv (shp x y) k : Nat) : Int)) by
      cases h : Nat.beq v (pv (shp x y) k) with
      | true =>
        have := Nat.eq_of_beq_eq_true h
        rw [this]
        simp
      | false =>
        have : v ≠ pv (shp x y) k := fun e => by rw [e] at h; simp at h
        have : (v : Int) ≠ ((pv (shp x y) k : Nat) : Int) := by omega
        simp [this]]
    exact t_ieq .i64 _ _
  · intro e he
    rcases List.mem_cons.1 he with rfl | he
    · exact shape_ans x y
    · obtain ⟨v, hv1, he⟩ := List.mem_flatMap.1 he
      obtain ⟨hv2, hv3⟩ := List.mem_filter.1 hv1
      have hvl := rng_mem.1 hv2
      simp only [List.mem_cons, List.not_mem_nil, or_false] at he
      rcases he with rfl | rfl
      · show Ans fEar [@cvF (nbVal x y k W) (.agg (rowS k v))] (@cvF (nbVal x y k W) (.agg (earS k v)))
        rw [nb_row x y k k v hk W, nb_ear x y k k v hk W]
        exact ear_ans (stw (shp x y) (k, v))
      · show Ans fCheck [@cvF (nbVal x y k W) (.agg (earS k v))] (@cvF (nbVal x y k W) (lI (if nbit (msk (shp x y) k (vc k)) v then 0 else 10)))
        rw [nb_ear x y k k v hk W]
        have hb : nbit (msk (shp x y) k (vc k)) v = valB (stw (shp x y) (k, v)) := by
          rw [msk_bit _ k v (vc k) hvl]
          unfold mskB
          have : (v : Int) ≠ shp x y k := by
            rw [← pv_eq H hk]
            intro e
            have e : v = pv (shp x y) k := by omega
            rw [e] at hv3
            simp at hv3
          rw [decide_eq_true this, Bool.true_and]
        rw [hb]
        exact chk_ans (stw (shp x y) (k, v)) _
  · intro e he
    obtain ⟨j, v, h1, h2, rfl⟩ := laCh_mem k _ _ e he
    have hlen : ∀ i, (cellsN (shp x y) (nbL (shp x y) k ++ ((nbA (shp x y) k).take i).map fun v => (k, v))).length ≤ 1000000 := fun i => by
      rw [cellsN_len, List.length_append, List.length_map, List.length_take]
      have := nbL_len (shp x y) k
      have := nbA_len (shp x y) k
      omega
    have hA := nbA_len (shp x y) k
    have h1 : j < (nbA (shp x y) k).length := h1
    have hL : ∀ i, i ≠ 50 → (nbN x y k).L i = cellsN (shp x y) (nbL (shp x y) k ++ ((nbA (shp x y) k).take (i - 1)).map fun v => (k, v)) := fun i hi => if_neg hi
    refine ⟨?_, ?_, ?_⟩
    · show (nbN x y k).L (1 + j + 1) = (nbN x y k).L (1 + j) ++ (earS k v).map (@cv (nbVal x y k W))
      rw [hL _ (by omega), hL _ (by omega), nb_earL x y k k v hk W, show 1 + j + 1 - 1 = j + 1 by omega, show 1 + j - 1 = j by omega, List.take_add_one]
      rw [show (nbA (shp x y) k)[j]? = some v from h2, Option.toList_some, List.map_append, ← List.append_assoc, cellsN_app]
      show _ ++ (encN (shp x y) (k, v) ++ []) = _
      rw [List.append_nil]
    · show ((nbN x y k).L (1 + j + 1)).length ≤ _
      rw [hL _ (by omega)]
      exact hlen _
    · show ∀ v, v ∈ (nbN x y k).L (1 + j) → _
      rw [hL _ (by omega)]
      exact cellsN_one _ _
theorem nbIds_ok (k k' : Nat) (W W' : Nat → Value) : ∀ e, e ∈ nbIds → okSE (nbVal x y k W) (nbVal x y k' W') e := by
  intro e he
  rcases List.mem_append.1 he with he | he
  · obtain ⟨j, _, rfl⟩ := List.mem_map.1 he
    exact ⟨.i64, _, rfl, rfl⟩
  · obtain ⟨j, _, rfl⟩ := List.mem_map.1 he
    exact ⟨_, rfl, rfl⟩
theorem nbSE_ok (k : Nat) (hk : k < 12) (W W' : Nat → Value) : Holds (nbSE k (pv (shp x y) k) (msk (shp x y) k (vc k)) (nbL (shp x y) k).isEmpty) (nbVal x y k W) (nbVal x y (k + 1) W') := by
  have hnew : (nbN x y (k + 1)).L 1 = cellsN (shp x y) (nbL (shp x y) k ++ (nbA (shp x y) k).map fun v => (k, v)) := by
    show cellsN (shp x y) (nbL (shp x y) (k + 1) ++ ((nbA (shp x y) (k + 1)).take 0).map fun v => (k + 1, v)) = _
    rw [List.take_zero, List.map_nil, List.append_nil]
    rfl
  refine holds_all fun e he => ?_
  rcases List.mem_append.1 he with he | he
  · split at he
    · rename_i hnl
      have hnl : nbL (shp x y) k = [] := by simpa using hnl
      split at he
      · cases he
      · simp only [List.mem_cons, List.not_mem_nil, or_false] at he
        subst he
        show (nbN x y (k + 1)).L 1 = ((nbA (shp x y) k).flatMap (earS k)).map (@cv (nbVal x y k W))
        rw [hnew, hnl, List.nil_append, List.map_flatMap]
        unfold cellsN
        rw [List.flatMap_map]
        congr 1
        funext v
        exact (nb_earL x y k k v hk W).symm
    · simp only [List.mem_cons, List.not_mem_nil, or_false] at he
      subst he
      have hA := nbA_len (shp x y) k
      have hL : (nbN x y k).L (1 + (nbA (shp x y) k).length) = cellsN (shp x y) (nbL (shp x y) k ++ ((nbA (shp x y) k).take (1 + (nbA (shp x y) k).length - 1)).map fun v => (k, v)) := if_neg (by omega)
      show (nbN x y (k + 1)).L 1 = (nbN x y k).L (1 + (nbA (shp x y) k).length)
      rw [hnew, hL, Nat.add_sub_cancel_left, List.take_length]
  · exact nbIds_ok x y k (k + 1) W W' e he
theorem nb_run (k p m : Nat) (nl : Bool) (hk : k < 12) (hp : p < vc k) (hm : m < 2 ^ vc k) (hb : nbit m p = false) : nbAgain k p m nl = true := by
  have hv5 : vc k ≤ 5 := by
    unfold vc
    split
    · omega
    · split <;> omega
  have h32 : m < 32 := Nat.lt_of_lt_of_le hm (Nat.pow_le_pow_right (by decide) hv5)
  have h1 : nbOne k p m = true := by
    by_cases h0 : k < 1
    · have := allU_lt (allU_lt (allU_lt nb_all0 k h0) p (by omega)) m h32
      rwa [Nat.zero_add] at this
    · by_cases h5 : k < 5
      · have := allU_lt (allU_lt (allU_lt nb_all1 (k - 1) (by omega)) p (by omega)) m h32
        rwa [show 1 + (k - 1) = k by omega] at this
      · by_cases h9 : k < 9
        · have := allU_lt (allU_lt (allU_lt nb_all2 (k - 5) (by omega)) p (by omega)) m h32
          rwa [show 5 + (k - 5) = k by omega] at this
        · have := allU_lt (allU_lt (allU_lt nb_all3 (k - 9) (by omega)) p (by omega)) m h32
          rwa [show 9 + (k - 9) = k by omega] at this
  unfold nbOne at h1
  have e : (Nat.blt p (vc k) && Nat.blt m (2 ^ vc k) && !(nbit m p)) = true := by
    rw [hb, Bool.not_false, Bool.and_true, Bool.and_eq_true]
    exact ⟨Nat.ble_eq_true_of_le hp, Nat.ble_eq_true_of_le hm⟩
  rw [e] at h1
  exact all2_all h1 nl
end
end Go.Proofs.Z
