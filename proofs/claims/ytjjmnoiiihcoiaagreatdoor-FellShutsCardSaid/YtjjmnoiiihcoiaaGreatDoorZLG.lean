/- A part of the proofs that the laws of layer four answer true for every input. -/
import Derived.Test.YtjjmnoiiihcoiaaGreatDoorZLD
namespace Go.Proofs.Z
open Go Go.RowKit Go.Proofs Go.Ri Go.Proofs.Z.Fa
/-! What a gate that is never open changes. -/
theorem set_getD {l : List Value} {i j : Nat} {v : Value} : (l.set i v).getD j undef = if i = j ∧ i < l.length then v else l.getD j undef := by
  rw [List.getD_eq_getElem?_getD, List.getD_eq_getElem?_getD, List.getElem?_set]
  by_cases h : i = j
  · subst h
    by_cases hl : i < l.length
    · rw [if_pos rfl, if_pos hl, if_pos ⟨rfl, hl⟩]
      rfl
    · rw [if_pos rfl, if_neg hl, if_neg (fun h => hl h.2), List.getElem?_eq_none (by omega)]
  · rw [if_neg h, if_neg (fun q => h q.1)]
section
variable {G : Int} {l : List Value} {n i : Nat}
theorem wiS_A (k : Nat) : gtA (wiS l i) k = gtA l k := by
  unfold gtA wiS
  rw [set_getD, if_neg (fun h => by omega)]
theorem wiS_B (k : Nat) : gtB (wiS l i) k = gtB l k := by
  unfold gtB wiS
  rw [set_getD, if_neg (fun h => by omega)]
theorem wiS_F (k : Nat) : gtF (wiS l i) k = gtF l k := by
  unfold gtF wiS
  rw [set_getD, if_neg (fun h => by omega)]
theorem wiS_T (hl : l.length = n * 4) (hi : i < n) (k : Nat) : gtT (wiS l i) k = if k = i then gtF l k else gtT l k := by
  by_cases h : k = i
  · subst h
    rw [if_pos rfl]
    show intOf ((l.set (k * 4 + 3) _).getD (k * 4 + 3) undef) = _
    rw [set_getD, if_pos ⟨rfl, by omega⟩]
    rfl
  · rw [if_neg h]
    unfold gtT wiS
    rw [set_getD, if_neg (fun h => by omega)]
theorem wiS_us (hl : l.length = n * 4) (hi : i < n) (k : Nat) : usP (wiS l i) k = (usP l k && !decide (k = i)) := by
  unfold usP
  rw [wiS_F, wiS_T hl hi]
  by_cases h : k = i
  · rw [if_pos h, decide_eq_true h]
    simp
  · rw [if_neg h, decide_eq_false h]
    simp
theorem okL_all {l : List Value} : ∀ {n : Nat}, (∀ k, k < n → gokL G l k = true) → okL G l n = true
  | 0, _ => rfl
  | n + 1, h => by
    show (okL G l n && gokL G l n) = true
    rw [okL_all fun k hk => h k (by omega), h n (by omega)]
    rfl
theorem wiS_valid (hva : validM G l n = true) (hl : l.length = n * 4) (hi : i < n) : validM G (wiS l i) n = true := by
  have h := (validM_iff _ _ _).1 hva
  refine (validM_iff _ _ _).2 ⟨h.1, h.2.1, h.2.2.1, okL_all fun k hk => ?_⟩
  have hg := (gOk_iff _ _ _ _ _).1 (okL_at h.2.2.2 hk)
  refine (gOk_iff _ _ _ _ _).2 ?_
  show 0 ≤ gtA (wiS l i) k ∧ gtA (wiS l i) k < gtB (wiS l i) k ∧ gtB (wiS l i) k < G ∧ 0 ≤ gtF (wiS l i) k ∧ gtF (wiS l i) k < 360 ∧ 0 ≤ gtT (wiS l i) k ∧ gtT (wiS l i) k < 360
  rw [wiS_A, wiS_B, wiS_F, wiS_T hl hi]
  split
  · rename_i h
    subst h
    exact ⟨hg.1, hg.2.1, hg.2.2.1, hg.2.2.2.1, hg.2.2.2.2.1, hg.2.2.2.1, hg.2.2.2.2.1⟩
  · exact hg
theorem wiS_gA (k : Nat) : gA' (wiS l i) k = gA' l k := by unfold gA'; rw [wiS_A]
theorem wiS_gB (k : Nat) : gB' (wiS l i) k = gB' l k := by unfold gB'; rw [wiS_B]
end
end Go.Proofs.Z

namespace Go.Proofs.Z
open Go Go.RowKit Go.Proofs Go.Ri Go.Proofs.Z.Fa
/-! Bridges, of both packages: contracts. -/
theorem qn_len {V : Val} {f : FuncId} {ds : List RV} {b i j s : Nat} {h : RH} (hl : (V.L j).length = (V.L i).length) (q : @QNTrue V ⟨f, ds, .slN b i s, h⟩) : @QNTrue V ⟨f, ds, .slN b j s, h⟩ := fun w hr vs hv =>
  (q w hr vs hv).mono fun x w' ⟨u, E', he, hu, H⟩ => by
    obtain ⟨p, n, g1, g2, g3, g4, g5⟩ := hu
    exact ⟨u, E', he, ⟨p, n, g1, g2, hl ▸ g3, g4, g5⟩, H⟩
section
variable (V : Val) {G : Int} {l : List Value} {n : Nat}
end
end Go.Proofs.Z
