/- A part of the proof that EarOrder answers true for every three ears. -/
import Derived.Test.YtedbdpaioikhgaaDoorWSane
import Derived.Handy
import Derived.Deep.Cut
namespace Go.Proofs.W
open Go Go.RowKit Go.Proofs Go.Ri
abbrev earC (t u0 u1 u2 u3 l0 l1 l2 l3 : Int) (h0 h1 h2 : Bool) : Array Value :=
  #[.int .i64 t, .int .i64 u0, .int .i64 u1, .int .i64 u2, .int .i64 u3, .int .i64 l0, .int .i64 l1, .int .i64 l2, .int .i64 l3, .bool h0, .bool h1, .bool h2]
def Three (B : Nat) (A C D : Array Value) (w : World) : Prop :=
  B + 3 ≤ w.heap.size ∧ (∀ k v, A[k]? = some v → w.cell? ⟨B, k, none⟩ = some v) ∧ (∀ k v, C[k]? = some v → w.cell? ⟨B + 1, k, none⟩ = some v) ∧ (∀ k v, D[k]? = some v → w.cell? ⟨B + 2, k, none⟩ = some v)
theorem Three.step {B : Nat} {A C D : Array Value} {w w' : World} (h : Three B A C D w) (hb : Below w.heap.size w w') : Three B A C D w' := by
  obtain ⟨h0, h1, h2, h3⟩ := h
  refine ⟨Nat.le_trans h0 hb.size, fun k v e => ?_, fun k v e => ?_, fun k v e => ?_⟩
  · rw [hb.cell (by show B < _; omega)]; exact h1 k v e
  · rw [hb.cell (by show B + 1 < _; omega)]; exact h2 k v e
  · rw [hb.cell (by show B + 2 < _; omega)]; exact h3 k v e
theorem cell_at {w : World} {b k : Nat} {A : Array Value} {t : TypeId} {v : Value} (h : w.heap[b]? = some (.cells A t)) (e : A[k]? = some v) : w.cell? ⟨b, k, none⟩ = some v := by
  simp only [World.cell?, h]
  exact e
theorem Three.start (w : World) (A C D : Array Value) (t u x : TypeId) : Three w.heap.size A C D (((w.alloc (.cells A t)).alloc (.cells C u)).alloc (.cells D x)) := by
  have e0 : (((w.alloc (.cells A t)).alloc (.cells C u)).alloc (.cells D x)).heap = ((w.heap.push (.cells A t)).push (.cells C u)).push (.cells D x) := rfl
  have h1 : (((w.alloc (.cells A t)).alloc (.cells C u)).alloc (.cells D x)).heap[w.heap.size]? = some (.cells A t) := by
    rw [e0, Array.getElem?_push_lt (by simp; omega)]
    simp [Array.getElem_push]
  have h2 : (((w.alloc (.cells A t)).alloc (.cells C u)).alloc (.cells D x)).heap[w.heap.size + 1]? = some (.cells C u) := by
    rw [e0, Array.getElem?_push_lt (by simp)]
    simp [Array.getElem_push]
  have h3 : (((w.alloc (.cells A t)).alloc (.cells C u)).alloc (.cells D x)).heap[w.heap.size + 2]? = some (.cells D x) := by
    have e : w.heap.size + 2 = ((w.heap.push (.cells A t)).push (.cells C u)).size := by simp
    rw [e0, e]
    exact Array.getElem?_push_size
  exact ⟨by rw [e0]; simp, fun k v e => cell_at h1 e, fun k v e => cell_at h2 e, fun k v e => cell_at h3 e⟩
theorem below_three (w : World) (A C D : Array Value) (t u x : TypeId) : Below w.heap.size w (((w.alloc (.cells A t)).alloc (.cells C u)).alloc (.cells D x)) :=
  Below.trans (below_two w A C t u) (Below.alloc (Below.refl _ _) (below_two w A C t u).size _)
end Go.Proofs.W
