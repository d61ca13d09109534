/- A part of the proof that EarOrder answers true for every three ears. -/
import Derived.Test.YtedbdpaioikhgaaDoorWCmpA
import Derived.Test.YtedbdpaioikhgaaDoorWCmpB
import Derived.Test.YtedbdpaioikhgaaDoorRiS15
import Derived.Deep.RegionWith
import Derived.Handy
namespace Go.Proofs.W
open Go Go.RowKit Go.Proofs
def chain : List Bool → Option Bool
  | [] => some true
  | b :: l => match some b with
    | some true => chain l
    | r => r
theorem chain_all : ∀ l : List Bool, chain l = some (l.all id)
  | [] => rfl
  | true :: l => by simp [chain, chain_all l]
  | false :: l => by simp [chain]
set_option maxRecDepth 100000 in
theorem eqV_four (a0 a1 a2 a3 b0 b1 b2 b3 : Int) : Ri.eqV Tryd.prog 8 22 (.agg #[.int .i64 a0, .int .i64 a1, .int .i64 a2, .int .i64 a3]) (.agg #[.int .i64 b0, .int .i64 b1, .int .i64 b2, .int .i64 b3]) = some ([a0 == b0, a1 == b1, a2 == b2, a3 == b3].all id) :=
  (show _ = chain [a0 == b0, a1 == b1, a2 == b2, a3 == b3] by kernel_rfl).trans (chain_all _)
theorem equal_four (a0 a1 a2 a3 b0 b1 b2 b3 : Int) (w : World) : (Op.equalIn 10000 22 (.agg #[.int .i64 a0, .int .i64 a1, .int .i64 a2, .int .i64 a3]) (.agg #[.int .i64 b0, .int .i64 b1, .int .i64 b2, .int .i64 b3])).run Tryd.prog w = .ok ([a0 == b0, a1 == b1, a2 == b2, a3 == b3].all id) w :=
  Ri.eqV_run 8 9992 _ _ _ _ (eqV_four a0 a1 a2 a3 b0 b1 b2 b3) w

theorem below_drewN {B : Nat} {a w : World} (h : Below B a w) (n : Nat) : Below B a (w.drewN n) := ⟨h.os, h.tape, h.output, h.size, h.block⟩
theorem below_two (w : World) (c d : Array Value) (t u : TypeId) : Below w.heap.size w ((w.alloc (.cells c t)).alloc (.cells d u)) :=
  Below.alloc (Below.alloc (Below.refl _ _) (Nat.le_refl _) _) (by show _ ≤ (w.heap.push _).size; simp) _
theorem below_four (w : World) (c d e f : Array Value) (t u v x : TypeId) : Below w.heap.size w ((((w.alloc (.cells c t)).alloc (.cells d u)).alloc (.cells e v)).alloc (.cells f x)) :=
  Below.trans (below_two w c d t u) ((below_two _ e f v x).mono (by show _ ≤ ((w.heap.push _).push _).size; simp; omega))
abbrev earV (t u0 u1 u2 u3 l0 l1 l2 l3 : Int) (h0 h1 h2 : Bool) : Value :=
  .agg #[.int .i64 t, .int .i64 u0, .int .i64 u1, .int .i64 u2, .int .i64 u3, .int .i64 l0, .int .i64 l1, .int .i64 l2, .int .i64 l3, .bool h0, .bool h1, .bool h2]
set_option maxRecDepth 100000 in
set_option maxHeartbeats 1000000 in
theorem compare_tip (t u0 u1 u2 u3 l0 l1 l2 l3 t' u0' u1' u2' u3' l0' l1' l2' l3' : Int) (h0 h1 h2 h0' h1' h2' : Bool) (w : World) (h : ¬ t = t') :
    Calls Tryd.prog 15 #[earV t u0 u1 u2 u3 l0 l1 l2 l3 h0 h1 h2, earV t' u0' u1' u2' u3' l0' l1' l2' l3' h0' h1' h2'] w fun e w' => e = .returned (.int .i64 (cmpI t t')) ∧ Below w.heap.size w w' := by
  go_enter Tryd.func15, Tryd.ntmps15
  go_wp2_with (go_at_call 44; refine (cmp_any _ _ _).mono ?_; rintro e w' ⟨rfl, rfl⟩)
  all_goals (go_ret; exact ⟨rfl, by first | exact below_two _ _ _ _ _ | exact below_drewN (below_two _ _ _ _ _) _ | exact below_four _ _ _ _ _ _ _ _ _ | exact Below.drew (below_four _ _ _ _ _ _ _ _ _)⟩)
theorem cell_four (W : World) (b k : Nat) (x0 x1 x2 x3 : Int) (c0 : W.cell? ⟨b, k, none⟩ = some (.int .i64 x0)) (c1 : W.cell? ⟨b, k + 1, none⟩ = some (.int .i64 x1)) (c2 : W.cell? ⟨b, k + 2, none⟩ = some (.int .i64 x2)) (c3 : W.cell? ⟨b, k + 3, none⟩ = some (.int .i64 x3)) :
    ∀ i, i < 4 → W.cell? ⟨b, k + i, none⟩ = some (.int .i64 ((fun i => match i with | 0 => x0 | 1 => x1 | 2 => x2 | _ => x3) i)) := by
  intro i hi
  match i, hi with
  | 0, _ => exact c0
  | 1, _ => exact c1
  | 2, _ => exact c2
  | 3, _ => exact c3
theorem slc_four (b1 o1 c1 b2 o2 c2 : Nat) (x0 x1 x2 x3 y0 y1 y2 y3 : Int) (w : World)
    (a0 : w.cell? ⟨b1, o1, none⟩ = some (.int .i64 x0)) (a1 : w.cell? ⟨b1, o1 + 1, none⟩ = some (.int .i64 x1)) (a2 : w.cell? ⟨b1, o1 + 2, none⟩ = some (.int .i64 x2)) (a3 : w.cell? ⟨b1, o1 + 3, none⟩ = some (.int .i64 x3))
    (d0 : w.cell? ⟨b2, o2, none⟩ = some (.int .i64 y0)) (d1 : w.cell? ⟨b2, o2 + 1, none⟩ = some (.int .i64 y1)) (d2 : w.cell? ⟨b2, o2 + 2, none⟩ = some (.int .i64 y2)) (d3 : w.cell? ⟨b2, o2 + 3, none⟩ = some (.int .i64 y3)) :
    Calls Tryd.prog 45 #[.slice (some ⟨b1, o1, none⟩) 4 c1, .slice (some ⟨b2, o2, none⟩) 4 c2] w fun e w' => e = .returned (.int .i64 (lexI [x0, x1, x2, x3] [y0, y1, y2, y3])) ∧ w' = w :=
  slc_any b1 o1 c1 b2 o2 c2 _ _ w (cell_four w b1 o1 x0 x1 x2 x3 a0 a1 a2 a3) (cell_four w b2 o2 y0 y1 y2 y3 d0 d1 d2 d3)
set_option maxRecDepth 100000 in
set_option maxHeartbeats 1000000 in
theorem compare_upper (t u0 u1 u2 u3 l0 l1 l2 l3 u0' u1' u2' u3' l0' l1' l2' l3' : Int) (h0 h1 h2 h0' h1' h2' : Bool) (w : World) (h : ([u0 == u0', u1 == u1', u2 == u2', u3 == u3'].all id) = false) :
    Calls Tryd.prog 15 #[earV t u0 u1 u2 u3 l0 l1 l2 l3 h0 h1 h2, earV t u0' u1' u2' u3' l0' l1' l2' l3' h0' h1' h2'] w fun e w' => e = .returned (.int .i64 (lexI [u0, u1, u2, u3] [u0', u1', u2', u3'])) ∧ Below w.heap.size w w' := by
  have q : ∀ w, (Op.equalIn 10000 22 (.agg #[.int .i64 u0, .int .i64 u1, .int .i64 u2, .int .i64 u3]) (.agg #[.int .i64 u0', .int .i64 u1', .int .i64 u2', .int .i64 u3'])).run Tryd.prog w = .ok false w := fun w => by rw [equal_four, h]
  clear h
  go_enter Tryd.func15, Tryd.ntmps15
  go_wp2
  go_quiet ((go_at_call 45; refine Calls.quiet_of_same (slc_four _ _ _ _ _ _ u0 u1 u2 u3 u0' u1' u2' u3' _ ?_ ?_ ?_ ?_ ?_ ?_ ?_ ?_) <;> go_simp))
  go_wp2
  all_goals (go_ret; exact ⟨rfl, by first | exact below_two _ _ _ _ _ | exact below_drewN (below_two _ _ _ _ _) _ | exact below_four _ _ _ _ _ _ _ _ _ | exact Below.drew (below_four _ _ _ _ _ _ _ _ _)⟩)

set_option maxRecDepth 100000 in
set_option maxHeartbeats 1000000 in
theorem compare_lower (t u0 u1 u2 u3 l0 l1 l2 l3 l0' l1' l2' l3' : Int) (h0 h1 h2 h0' h1' h2' : Bool) (w : World) (h : ([l0 == l0', l1 == l1', l2 == l2', l3 == l3'].all id) = false) :
    Calls Tryd.prog 15 #[earV t u0 u1 u2 u3 l0 l1 l2 l3 h0 h1 h2, earV t u0 u1 u2 u3 l0' l1' l2' l3' h0' h1' h2'] w fun e w' => e = .returned (.int .i64 (lexI [l0, l1, l2, l3] [l0', l1', l2', l3'])) ∧ Below w.heap.size w w' := by
  have p : ∀ w, (Op.equalIn 10000 22 (.agg #[.int .i64 u0, .int .i64 u1, .int .i64 u2, .int .i64 u3]) (.agg #[.int .i64 u0, .int .i64 u1, .int .i64 u2, .int .i64 u3])).run Tryd.prog w = .ok true w := fun w => by rw [equal_four]; simp
  have q : ∀ w, (Op.equalIn 10000 22 (.agg #[.int .i64 l0, .int .i64 l1, .int .i64 l2, .int .i64 l3]) (.agg #[.int .i64 l0', .int .i64 l1', .int .i64 l2', .int .i64 l3'])).run Tryd.prog w = .ok false w := fun w => by rw [equal_four, h]
  clear h
  go_enter Tryd.func15, Tryd.ntmps15
  go_wp2
  go_quiet ((go_at_call 45; refine Calls.quiet_of_same (slc_four _ _ _ _ _ _ l0 l1 l2 l3 l0' l1' l2' l3' _ ?_ ?_ ?_ ?_ ?_ ?_ ?_ ?_) <;> go_simp))
  go_wp2
  all_goals (go_ret; exact ⟨rfl, by first | exact below_two _ _ _ _ _ | exact below_drewN (below_two _ _ _ _ _) _ | exact below_four _ _ _ _ _ _ _ _ _ | exact Below.drew (below_four _ _ _ _ _ _ _ _ _)⟩)
set_option maxRecDepth 100000 in
set_option maxHeartbeats 1000000 in
theorem compare_holes (t u0 u1 u2 u3 l0 l1 l2 l3 : Int) (h0 h1 h2 h0' h1' h2' : Bool) (w : World) :
    Calls Tryd.prog 15 #[earV t u0 u1 u2 u3 l0 l1 l2 l3 h0 h1 h2, earV t u0 u1 u2 u3 l0 l1 l2 l3 h0' h1' h2'] w fun e w' => e = .returned (.int .i64 (cmpI (holesI h0 h1 h2) (holesI h0' h1' h2'))) ∧ Below w.heap.size w w' := by
  have p : ∀ w, (Op.equalIn 10000 22 (.agg #[.int .i64 u0, .int .i64 u1, .int .i64 u2, .int .i64 u3]) (.agg #[.int .i64 u0, .int .i64 u1, .int .i64 u2, .int .i64 u3])).run Tryd.prog w = .ok true w := fun w => by rw [equal_four]; simp
  have q : ∀ w, (Op.equalIn 10000 22 (.agg #[.int .i64 l0, .int .i64 l1, .int .i64 l2, .int .i64 l3]) (.agg #[.int .i64 l0, .int .i64 l1, .int .i64 l2, .int .i64 l3])).run Tryd.prog w = .ok true w := fun w => by rw [equal_four]; simp
  go_enter Tryd.func15, Tryd.ntmps15
  go_wp2
  go_region_with (first | (go_at_call 42; refine (holes_any _ _ _ _).mono ?_; rintro e w' ⟨rfl, rfl⟩) | (go_at_call 44; refine (cmp_any _ _ _).mono ?_; rintro e w' ⟨rfl, rfl⟩))
  all_goals go_wp2
  all_goals (go_ret; exact ⟨rfl, by first | exact below_two _ _ _ _ _ | exact below_drewN (below_two _ _ _ _ _) _ | exact below_four _ _ _ _ _ _ _ _ _ | exact Below.drew (below_four _ _ _ _ _ _ _ _ _)⟩)
end Go.Proofs.W
