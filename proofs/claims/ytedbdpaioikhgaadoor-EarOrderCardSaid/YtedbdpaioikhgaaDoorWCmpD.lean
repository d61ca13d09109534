/- A part of the proof that EarOrder answers true for every three ears. -/
import Derived.Test.YtedbdpaioikhgaaDoorWCmpC
namespace Go.Proofs.W
open Go Go.RowKit Go.Proofs
theorem cmpI_zero (x y : Int) : cmpI x y = 0 ↔ x = y := by
  unfold cmpI
  split
  · constructor
    · intro h; omega
    · intro h; omega
  · split
    · constructor
      · intro h; omega
      · intro h; omega
    · constructor
      · intro _; omega
      · intro _; rfl
theorem cmpI_self (x : Int) : cmpI x x = 0 := (cmpI_zero x x).mpr rfl
theorem lexI_same : ∀ a c d : List Int, lexI (a ++ c) (a ++ d) = lexI c d
  | [], _, _ => rfl
  | x :: a, c, d => by rw [List.cons_append, List.cons_append, lexI_cons, if_pos (cmpI_self x), lexI_same a c d]
theorem lexI_app : ∀ a b c d : List Int, a.length = b.length → a ≠ b → lexI (a ++ c) (b ++ d) = lexI a b
  | [], [], _, _, _, h => (h rfl).elim
  | [], _ :: _, _, _, hl, _ => by cases hl
  | _ :: _, [], _, _, hl, _ => by cases hl
  | x :: a, y :: b, c, d, hl, h => by
    rw [List.cons_append, List.cons_append, lexI_cons, lexI_cons]
    by_cases hxy : x = y
    · subst hxy
      rw [if_pos (cmpI_self x), if_pos (cmpI_self x)]
      exact lexI_app a b c d (by simpa using hl) (fun e => h (by rw [e]))
    · rw [if_neg (fun e => hxy ((cmpI_zero x y).mp e)), if_neg (fun e => hxy ((cmpI_zero x y).mp e))]
theorem lexI_one (x y : Int) : lexI [x] [y] = cmpI x y := by
  rw [lexI_cons]
  split
  · rename_i h; rw [h]; rfl
  · rfl
abbrev keys (t u0 u1 u2 u3 l0 l1 l2 l3 : Int) (h0 h1 h2 : Bool) : List Int := [t, u0, u1, u2, u3, l0, l1, l2, l3, holesI h0 h1 h2]
theorem all_four {a0 a1 a2 a3 b0 b1 b2 b3 : Int} : ([a0 == b0, a1 == b1, a2 == b2, a3 == b3].all id) = true ↔ (a0 = b0 ∧ a1 = b1 ∧ a2 = b2 ∧ a3 = b3) := by
  simp
theorem compare_all (t u0 u1 u2 u3 l0 l1 l2 l3 t' u0' u1' u2' u3' l0' l1' l2' l3' : Int) (h0 h1 h2 h0' h1' h2' : Bool) (w : World) :
    Calls Tryd.prog 15 #[earV t u0 u1 u2 u3 l0 l1 l2 l3 h0 h1 h2, earV t' u0' u1' u2' u3' l0' l1' l2' l3' h0' h1' h2'] w
      fun e w' => e = .returned (.int .i64 (lexI (keys t u0 u1 u2 u3 l0 l1 l2 l3 h0 h1 h2) (keys t' u0' u1' u2' u3' l0' l1' l2' l3' h0' h1' h2'))) ∧ Below w.heap.size w w' := by
  by_cases ht : t = t'
  · subst ht
    by_cases hu : ([u0 == u0', u1 == u1', u2 == u2', u3 == u3'].all id) = true
    · obtain ⟨rfl, rfl, rfl, rfl⟩ := all_four.mp hu
      by_cases hl : ([l0 == l0', l1 == l1', l2 == l2', l3 == l3'].all id) = true
      · obtain ⟨rfl, rfl, rfl, rfl⟩ := all_four.mp hl
        have e : lexI (keys t u0 u1 u2 u3 l0 l1 l2 l3 h0 h1 h2) (keys t u0 u1 u2 u3 l0 l1 l2 l3 h0' h1' h2') = cmpI (holesI h0 h1 h2) (holesI h0' h1' h2') :=
          (lexI_same [t, u0, u1, u2, u3, l0, l1, l2, l3] _ _).trans (lexI_one _ _)
        rw [e]
        exact compare_holes t u0 u1 u2 u3 l0 l1 l2 l3 h0 h1 h2 h0' h1' h2' w
      · have e : lexI (keys t u0 u1 u2 u3 l0 l1 l2 l3 h0 h1 h2) (keys t u0 u1 u2 u3 l0' l1' l2' l3' h0' h1' h2') = lexI [l0, l1, l2, l3] [l0', l1', l2', l3'] :=
          (lexI_same [t, u0, u1, u2, u3] _ _).trans (lexI_app [l0, l1, l2, l3] [l0', l1', l2', l3'] _ _ rfl (fun e => hl (by simp at e; simp [e])))
        rw [e]
        exact compare_lower t u0 u1 u2 u3 l0 l1 l2 l3 l0' l1' l2' l3' h0 h1 h2 h0' h1' h2' w (by simpa using hl)
    · have e : lexI (keys t u0 u1 u2 u3 l0 l1 l2 l3 h0 h1 h2) (keys t u0' u1' u2' u3' l0' l1' l2' l3' h0' h1' h2') = lexI [u0, u1, u2, u3] [u0', u1', u2', u3'] :=
        (lexI_same [t] _ _).trans (lexI_app [u0, u1, u2, u3] [u0', u1', u2', u3'] _ _ rfl (fun e => hu (by simp at e; simp [e])))
      rw [e]
      exact compare_upper t u0 u1 u2 u3 l0 l1 l2 l3 u0' u1' u2' u3' l0' l1' l2' l3' h0 h1 h2 h0' h1' h2' w (by simpa using hu)
  · have e : lexI (keys t u0 u1 u2 u3 l0 l1 l2 l3 h0 h1 h2) (keys t' u0' u1' u2' u3' l0' l1' l2' l3' h0' h1' h2') = cmpI t t' :=
      (lexI_app [t] [t'] _ _ rfl (fun e => ht (by simpa using e))).trans (lexI_one _ _)
    rw [e]
    exact compare_tip t u0 u1 u2 u3 l0 l1 l2 l3 t' u0' u1' u2' u3' l0' l1' l2' l3' h0 h1 h2 h0' h1' h2' w ht
theorem cells_two (w w' : World) (A B : Array Value) (t u : TypeId) (hg : Below ((w.alloc (.cells A t)).alloc (.cells B u)).heap.size ((w.alloc (.cells A t)).alloc (.cells B u)) w') :
    (∀ k v, A[k]? = some v → w'.cell? ⟨w.heap.size, k, none⟩ = some v) ∧ (∀ k v, B[k]? = some v → w'.cell? ⟨w.heap.size + 1, k, none⟩ = some v) := by
  have hs : ((w.alloc (.cells A t)).alloc (.cells B u)).heap.size = w.heap.size + 2 := by
    show ((w.heap.push _).push _).size = _
    simp
  have h1 : ((w.alloc (.cells A t)).alloc (.cells B u)).heap[w.heap.size]? = some (.cells A t) := by
    show ((w.heap.push _).push _)[_]? = _
    simp [Array.getElem?_push]
  have h2 : ((w.alloc (.cells A t)).alloc (.cells B u)).heap[w.heap.size + 1]? = some (.cells B u) := by
    have e : w.heap.size + 1 = (w.heap.push (.cells A t)).size := by simp
    show ((w.heap.push _).push _)[_]? = _
    rw [e]
    exact Array.getElem?_push_size
  refine ⟨fun k v h => ?_, fun k v h => ?_⟩
  · rw [hg.cell (by rw [hs]; show w.heap.size < _; omega)]
    simp only [World.cell?, h1]
    exact h
  · rw [hg.cell (by rw [hs]; show w.heap.size + 1 < _; omega)]
    simp only [World.cell?, h2]
    exact h
set_option maxRecDepth 100000 in
set_option maxHeartbeats 1000000 in
/-- The order of two marks. -/
theorem marks_any (a0 a1 a2 a3 a4 a5 a6 a7 a8 b0 b1 b2 b3 b4 b5 b6 b7 b8 c0 c1 c2 c3 c4 c5 c6 c7 c8 d0 d1 d2 d3 d4 d5 d6 d7 d8 : Int) (a9 aa ab b9 ba bb c9 ca cb d9 da db : Bool) (n f : Int)
    (hn : lexI (keys a0 a1 a2 a3 a4 a5 a6 a7 a8 a9 aa ab) (keys c0 c1 c2 c3 c4 c5 c6 c7 c8 c9 ca cb) = n) (hf : lexI (keys b0 b1 b2 b3 b4 b5 b6 b7 b8 b9 ba bb) (keys d0 d1 d2 d3 d4 d5 d6 d7 d8 d9 da db) = f) (w : World) :
    Calls Tryd.prog 16 #[.agg #[.int .i64 a0, .int .i64 a1, .int .i64 a2, .int .i64 a3, .int .i64 a4, .int .i64 a5, .int .i64 a6, .int .i64 a7, .int .i64 a8, .bool a9, .bool aa, .bool ab, .int .i64 b0, .int .i64 b1, .int .i64 b2, .int .i64 b3, .int .i64 b4, .int .i64 b5, .int .i64 b6, .int .i64 b7, .int .i64 b8, .bool b9, .bool ba, .bool bb],
      .agg #[.int .i64 c0, .int .i64 c1, .int .i64 c2, .int .i64 c3, .int .i64 c4, .int .i64 c5, .int .i64 c6, .int .i64 c7, .int .i64 c8, .bool c9, .bool ca, .bool cb, .int .i64 d0, .int .i64 d1, .int .i64 d2, .int .i64 d3, .int .i64 d4, .int .i64 d5, .int .i64 d6, .int .i64 d7, .int .i64 d8, .bool d9, .bool da, .bool db]] w
      fun e w' => e = .returned (.int .i64 (if n = 0 then f else n)) ∧ Below w.heap.size w w' := by
  by_cases h : n = 0
  · rw [if_pos h]
    subst h
    replace hn := Lib.hid hn
    replace hf := Lib.hid hf
    go_enter Tryd.func16, Tryd.ntmps16
    go_wp2_with (go_at_call 15; refine (compare_all _ _ _ _ _ _ _ _ _ _ _ _ _ _ _ _ _ _ _ _ _ _ _ _ _).mono ?_; first | (rw [hn.out]; rintro e w' ⟨rfl, hg⟩; have hc := cells_two _ _ _ _ _ _ hg; have f12 := hc.1 12 _ rfl; have g12 := hc.2 12 _ rfl; have f13 := hc.1 13 _ rfl; have g13 := hc.2 13 _ rfl; have f14 := hc.1 14 _ rfl; have g14 := hc.2 14 _ rfl; have f15 := hc.1 15 _ rfl; have g15 := hc.2 15 _ rfl; have f16 := hc.1 16 _ rfl; have g16 := hc.2 16 _ rfl; have f17 := hc.1 17 _ rfl; have g17 := hc.2 17 _ rfl; have f18 := hc.1 18 _ rfl; have g18 := hc.2 18 _ rfl; have f19 := hc.1 19 _ rfl; have g19 := hc.2 19 _ rfl; have f20 := hc.1 20 _ rfl; have g20 := hc.2 20 _ rfl; have f21 := hc.1 21 _ rfl; have g21 := hc.2 21 _ rfl; have f22 := hc.1 22 _ rfl; have g22 := hc.2 22 _ rfl; have f23 := hc.1 23 _ rfl; have g23 := hc.2 23 _ rfl; clear hc; replace hg := Lib.hid hg) | (rw [hf.out]; rintro e w'' ⟨rfl, hg2⟩; replace hg2 := Lib.hid hg2))
    all_goals (go_ret; exact ⟨rfl, Below.trans (below_two _ _ _ _ _) ((hg.out.trans (hg2.out.mono hg.out.size)).mono (below_two _ _ _ _ _).size)⟩)
  · rw [if_neg h]
    have hb : (n != 0) = true := by simpa using h
    clear h hf
    replace hn := Lib.hid hn
    go_enter Tryd.func16, Tryd.ntmps16
    go_wp2_with (go_at_call 15; refine (compare_all _ _ _ _ _ _ _ _ _ _ _ _ _ _ _ _ _ _ _ _ _ _ _ _ _).mono ?_; rw [hn.out]; rintro e w' ⟨rfl, hg⟩; replace hg := Lib.hid hg)
    all_goals (go_ret; exact ⟨rfl, Below.trans (below_two _ _ _ _ _) (hg.out.mono (below_two _ _ _ _ _).size)⟩)
end Go.Proofs.W
