/- A part of the proofs that the laws of layer one answer true for every input. -/
import Derived.Test.YtedbdpaioikhgaaDoorZNbT
import Derived.Test.YtedbdpaioikhgaaDoorProg
import Derived.WalkKit
import Derived.BigQuiet
import Derived.Deep.QuietTactic
import Derived.Deep.RegionWith
import Derived.KernelRfl
import Derived.Lib.Hide
import Derived.Handy
import Derived.Test.YtedbdpaioikhgaaDoorZTab
import Derived.Sort.Grow
namespace Go.Proofs.Z.W
open Go Go.RowKit Go.Proofs
/-! The order of two ears, walked: it lays blocks and draws, no more. -/
set_option maxHeartbeats 400000 in
theorem isNaN_any (x : Int) (w : World) : Calls Tryd.prog 61 #[.int .i64 x] w fun e w' => e = .returned (.bool false) ∧ w' = w := by
  go_enter Tryd.func61, Tryd.ntmps61
  go_wp2
  all_goals (go_ret; exact ⟨rfl, rfl⟩)
set_option maxHeartbeats 400000 in
theorem cmp_lt (x y : Int) (h : x < y) (w : World) : Calls Tryd.prog 44 #[.int .i64 x, .int .i64 y] w fun e w' => e = .returned (.int .i64 (-1)) ∧ w' = w := by
  go_enter Tryd.func44, Tryd.ntmps44
  go_wp2_with (go_at_call 61; refine (isNaN_any _ _).mono ?_; rintro e w' ⟨rfl, rfl⟩)
  all_goals (go_ret; exact ⟨rfl, rfl⟩)
set_option maxHeartbeats 400000 in
theorem cmp_gt (x y : Int) (h : y < x) (w : World) : Calls Tryd.prog 44 #[.int .i64 x, .int .i64 y] w fun e w' => e = .returned (.int .i64 1) ∧ w' = w := by
  have h' : ¬ x < y := by omega
  go_enter Tryd.func44, Tryd.ntmps44
  go_wp2_with (go_at_call 61; refine (isNaN_any _ _).mono ?_; rintro e w' ⟨rfl, rfl⟩)
  all_goals (go_ret; exact ⟨rfl, rfl⟩)
set_option maxHeartbeats 400000 in
theorem cmp_eq (x : Int) (w : World) : Calls Tryd.prog 44 #[.int .i64 x, .int .i64 x] w fun e w' => e = .returned (.int .i64 0) ∧ w' = w := by
  have h' : ¬ x < x := by omega
  go_enter Tryd.func44, Tryd.ntmps44
  go_wp2_with (go_at_call 61; refine (isNaN_any _ _).mono ?_; rintro e w' ⟨rfl, rfl⟩)
  all_goals (go_ret; exact ⟨rfl, rfl⟩)
theorem cmp_any (x y : Int) (w : World) : Calls Tryd.prog 44 #[.int .i64 x, .int .i64 y] w fun e w' => e = .returned (.int .i64 (cmpI x y)) ∧ w' = w := by
  unfold cmpI
  by_cases h : x < y
  · rw [if_pos h]; exact cmp_lt x y h w
  · rw [if_neg h]
    by_cases h' : y < x
    · rw [if_pos h']; exact cmp_gt x y h' w
    · rw [if_neg h']
      obtain rfl : x = y := by omega
      exact cmp_eq x w
def four (x : Nat → Int) : List Int := [x 0, x 1, x 2, x 3]
theorem four_drop (x : Nat → Int) (k : Nat) (h : k < 4) : (four x).drop k = x k :: (four x).drop (k + 1) := by
  match k, h with
  | 0, _ => rfl
  | 1, _ => rfl
  | 2, _ => rfl
  | 3, _ => rfl
set_option maxHeartbeats 1000000 in
theorem slc_any (b1 o1 c1 b2 o2 c2 : Nat) (x y : Nat → Int) (w : World) (hx : ∀ i, i < 4 → w.cell? ⟨b1, o1 + i, none⟩ = some (.int .i64 (x i))) (hy : ∀ i, i < 4 → w.cell? ⟨b2, o2 + i, none⟩ = some (.int .i64 (y i))) :
    Calls Tryd.prog 45 #[.slice (some ⟨b1, o1, none⟩) 4 c1, .slice (some ⟨b2, o2, none⟩) 4 c2] w fun e w' => e = .returned (.int .i64 (lexI (four x) (four y))) ∧ w' = w := by
  have HX := Lib.hid hx
  have HY := Lib.hid hy
  clear hx hy
  go_enter Tryd.func45, Tryd.ntmps45
  go_wp2
  go_loop [11] (fun i => ∃ k : Nat, k ≤ 4 ∧ i = .int .i64 k ∧ Hid (lexI (four x) (four y) = lexI ((four x).drop k) ((four y).drop k))) (fun i => 4 - (intOf i).toNat)
  case atStart => exact ⟨0, by omega, rfl, rfl⟩
  case round =>
    obtain ⟨k, hk, rfl, hr⟩ := hrel
    by_cases hlt : k < 4
    · have gx := HX.out k hlt
      have gy := HY.out k hlt
      have hl : ¬ ((4 : Int) ≤ (k : Int)) := by omega
      have hd : lexI ((four x).drop k) ((four y).drop k) = if cmpI (x k) (y k) = 0 then lexI ((four x).drop (k + 1)) ((four y).drop (k + 1)) else cmpI (x k) (y k) := by
        rw [four_drop x k hlt, four_drop y k hlt]; rfl
      have HD := Lib.hid hd
      clear hd
      by_cases hc : cmpI (x k) (y k) = 0
      · have HC := Lib.hid hc
        clear hc
        go_wp2_with (go_at_call 44; refine (cmp_any _ _ _).mono ?_; rw [HC.out]; rintro e w' ⟨rfl, rfl⟩)
        go_round
        case rel => exact ⟨k + 1, by omega, by go_num, by have := hr.out; rw [HD.out, if_pos HC.out] at this; exact this⟩
        case measure => simp [intOf]; omega
      · have hc' : ((cmpI (x k) (y k)) != 0) = true := by simpa using hc
        have HE := Lib.hid (show lexI (four x) (four y) = cmpI (x k) (y k) by rw [hr.out, HD.out, if_neg hc])
        clear hc
        go_wp2_with (go_at_call 44; refine (cmp_any _ _ _).mono ?_; rintro e w' ⟨rfl, rfl⟩)
        all_goals (go_ret; exact ⟨by rw [HE.out]; rfl, rfl⟩)
    · obtain rfl : k = 4 := by omega
      go_wp2
      all_goals (go_ret; exact ⟨by rw [hr.out]; rfl, rfl⟩)
end Go.Proofs.Z.W

namespace Go.Proofs.Z.W
open Go Go.RowKit Go.Proofs
def bitI (b : Bool) : Int := if b then 1 else 0
def holesI (a b c : Bool) : Int := 4 * bitI a + 2 * bitI b + bitI c
set_option maxRecDepth 100000 in
set_option maxHeartbeats 1000000 in
theorem holes_000 (w : World) :
    Calls Tryd.prog 42 #[.agg #[.bool false, .bool false, .bool false]] w fun e w' => e = .returned (.int .i64 0) ∧ w' = w.alloc (.cells #[.bool false, .bool false, .bool false] 23) := by
  have i0 : ∀ w, (Instr.index 23 (.agg #[.bool false, .bool false, .bool false]) (.int .i64 0)).run Tryd.prog w = .ok (.bool false) w := fun _ => by kernel_rfl
  have i1 : ∀ w, (Instr.index 23 (.agg #[.bool false, .bool false, .bool false]) (.int .i64 1)).run Tryd.prog w = .ok (.bool false) w := fun _ => by kernel_rfl
  have i2 : ∀ w, (Instr.index 23 (.agg #[.bool false, .bool false, .bool false]) (.int .i64 2)).run Tryd.prog w = .ok (.bool false) w := fun _ => by kernel_rfl
  go_enter Tryd.func42, Tryd.ntmps42
  go_wp2
  go_loop [3, 7] (fun n i => (i = .int .i64 0 ∧ n = .int .i64 0) ∨ (i = .int .i64 1 ∧ n = .int .i64 0) ∨ (i = .int .i64 2 ∧ n = .int .i64 0) ∨ (i = .int .i64 3 ∧ n = .int .i64 0)) (fun _ i => 3 - (intOf i).toNat)
  case atStart => exact .inl ⟨rfl, rfl⟩
  case round =>
    rcases hrel with ⟨rfl, rfl⟩ | ⟨rfl, rfl⟩ | ⟨rfl, rfl⟩ | ⟨rfl, rfl⟩
    · go_wp2
      go_round
      case rel => first | exact .inl ⟨rfl, rfl⟩ | exact .inr (.inl ⟨rfl, rfl⟩) | exact .inr (.inr (.inl ⟨rfl, rfl⟩)) | exact .inr (.inr (.inr ⟨rfl, rfl⟩))
      case measure => simp [intOf]
    · go_wp2
      go_round
      case rel => first | exact .inl ⟨rfl, rfl⟩ | exact .inr (.inl ⟨rfl, rfl⟩) | exact .inr (.inr (.inl ⟨rfl, rfl⟩)) | exact .inr (.inr (.inr ⟨rfl, rfl⟩))
      case measure => simp [intOf]
    · go_wp2
      go_round
      case rel => first | exact .inl ⟨rfl, rfl⟩ | exact .inr (.inl ⟨rfl, rfl⟩) | exact .inr (.inr (.inl ⟨rfl, rfl⟩)) | exact .inr (.inr (.inr ⟨rfl, rfl⟩))
      case measure => simp [intOf]
    · go_wp2
      all_goals (go_ret; exact ⟨rfl, rfl⟩)
set_option maxRecDepth 100000 in
set_option maxHeartbeats 1000000 in
theorem holes_001 (w : World) :
    Calls Tryd.prog 42 #[.agg #[.bool false, .bool false, .bool true]] w fun e w' => e = .returned (.int .i64 1) ∧ w' = w.alloc (.cells #[.bool false, .bool false, .bool true] 23) := by
  have i0 : ∀ w, (Instr.index 23 (.agg #[.bool false, .bool false, .bool true]) (.int .i64 0)).run Tryd.prog w = .ok (.bool false) w := fun _ => by kernel_rfl
  have i1 : ∀ w, (Instr.index 23 (.agg #[.bool false, .bool false, .bool true]) (.int .i64 1)).run Tryd.prog w = .ok (.bool false) w := fun _ => by kernel_rfl
  have i2 : ∀ w, (Instr.index 23 (.agg #[.bool false, .bool false, .bool true]) (.int .i64 2)).run Tryd.prog w = .ok (.bool true) w := fun _ => by kernel_rfl
  go_enter Tryd.func42, Tryd.ntmps42
  go_wp2
  go_loop [3, 7] (fun n i => (i = .int .i64 0 ∧ n = .int .i64 0) ∨ (i = .int .i64 1 ∧ n = .int .i64 0) ∨ (i = .int .i64 2 ∧ n = .int .i64 0) ∨ (i = .int .i64 3 ∧ n = .int .i64 1)) (fun _ i => 3 - (intOf i).toNat)
  case atStart => exact .inl ⟨rfl, rfl⟩
  case round =>
    rcases hrel with ⟨rfl, rfl⟩ | ⟨rfl, rfl⟩ | ⟨rfl, rfl⟩ | ⟨rfl, rfl⟩
    · go_wp2
      go_round
      case rel => first | exact .inl ⟨rfl, rfl⟩ | exact .inr (.inl ⟨rfl, rfl⟩) | exact .inr (.inr (.inl ⟨rfl, rfl⟩)) | exact .inr (.inr (.inr ⟨rfl, rfl⟩))
      case measure => simp [intOf]
    · go_wp2
      go_round
      case rel => first | exact .inl ⟨rfl, rfl⟩ | exact .inr (.inl ⟨rfl, rfl⟩) | exact .inr (.inr (.inl ⟨rfl, rfl⟩)) | exact .inr (.inr (.inr ⟨rfl, rfl⟩))
      case measure => simp [intOf]
    · go_wp2
      go_round
      case rel => first | exact .inl ⟨rfl, rfl⟩ | exact .inr (.inl ⟨rfl, rfl⟩) | exact .inr (.inr (.inl ⟨rfl, rfl⟩)) | exact .inr (.inr (.inr ⟨rfl, rfl⟩))
      case measure => simp [intOf]
    · go_wp2
      all_goals (go_ret; exact ⟨rfl, rfl⟩)
set_option maxRecDepth 100000 in
set_option maxHeartbeats 1000000 in
theorem holes_010 (w : World) :
    Calls Tryd.prog 42 #[.agg #[.bool false, .bool true, .bool false]] w fun e w' => e = .returned (.int .i64 2) ∧ w' = w.alloc (.cells #[.bool false, .bool true, .bool false] 23) := by
  have i0 : ∀ w, (Instr.index 23 (.agg #[.bool false, .bool true, .bool false]) (.int .i64 0)).run Tryd.prog w = .ok (.bool false) w := fun _ => by kernel_rfl
  have i1 : ∀ w, (Instr.index 23 (.agg #[.bool false, .bool true, .bool false]) (.int .i64 1)).run Tryd.prog w = .ok (.bool true) w := fun _ => by kernel_rfl
  have i2 : ∀ w, (Instr.index 23 (.agg #[.bool false, .bool true, .bool false]) (.int .i64 2)).run Tryd.prog w = .ok (.bool false) w := fun _ => by kernel_rfl
  go_enter Tryd.func42, Tryd.ntmps42
  go_wp2
  go_loop [3, 7] (fun n i => (i = .int .i64 0 ∧ n = .int .i64 0) ∨ (i = .int .i64 1 ∧ n = .int .i64 0) ∨ (i = .int .i64 2 ∧ n = .int .i64 1) ∨ (i = .int .i64 3 ∧ n = .int .i64 2)) (fun _ i => 3 - (intOf i).toNat)
  case atStart => exact .inl ⟨rfl, rfl⟩
  case round =>
    rcases hrel with ⟨rfl, rfl⟩ | ⟨rfl, rfl⟩ | ⟨rfl, rfl⟩ | ⟨rfl, rfl⟩
    · go_wp2
      go_round
      case rel => first | exact .inl ⟨rfl, rfl⟩ | exact .inr (.inl ⟨rfl, rfl⟩) | exact .inr (.inr (.inl ⟨rfl, rfl⟩)) | exact .inr (.inr (.inr ⟨rfl, rfl⟩))
      case measure => simp [intOf]
    · go_wp2
      go_round
      case rel => first | exact .inl ⟨rfl, rfl⟩ | exact .inr (.inl ⟨rfl, rfl⟩) | exact .inr (.inr (.inl ⟨rfl, rfl⟩)) | exact .inr (.inr (.inr ⟨rfl, rfl⟩))
      case measure => simp [intOf]
    · go_wp2
      go_round
      case rel => first | exact .inl ⟨rfl, rfl⟩ | exact .inr (.inl ⟨rfl, rfl⟩) | exact .inr (.inr (.inl ⟨rfl, rfl⟩)) | exact .inr (.inr (.inr ⟨rfl, rfl⟩))
      case measure => simp [intOf]
    · go_wp2
      all_goals (go_ret; exact ⟨rfl, rfl⟩)
set_option maxRecDepth 100000 in
set_option maxHeartbeats 1000000 in
theorem holes_011 (w : World) :
    Calls Tryd.prog 42 #[.agg #[.bool false, .bool true, .bool true]] w fun e w' => e = .returned (.int .i64 3) ∧ w' = w.alloc (.cells #[.bool false, .bool true, .bool true] 23) := by
  have i0 : ∀ w, (Instr.index 23 (.agg #[.bool false, .bool true, .bool true]) (.int .i64 0)).run Tryd.prog w = .ok (.bool false) w := fun _ => by kernel_rfl
  have i1 : ∀ w, (Instr.index 23 (.agg #[.bool false, .bool true, .bool true]) (.int .i64 1)).run Tryd.prog w = .ok (.bool true) w := fun _ => by kernel_rfl
  have i2 : ∀ w, (Instr.index 23 (.agg #[.bool false, .bool true, .bool true]) (.int .i64 2)).run Tryd.prog w = .ok (.bool true) w := fun _ => by kernel_rfl
  go_enter Tryd.func42, Tryd.ntmps42
  go_wp2
  go_loop [3, 7] (fun n i => (i = .int .i64 0 ∧ n = .int .i64 0) ∨ (i = .int .i64 1 ∧ n = .int .i64 0) ∨ (i = .int .i64 2 ∧ n = .int .i64 1) ∨ (i = .int .i64 3 ∧ n = .int .i64 3)) (fun _ i => 3 - (intOf i).toNat)
  case atStart => exact .inl ⟨rfl, rfl⟩
  case round =>
    rcases hrel with ⟨rfl, rfl⟩ | ⟨rfl, rfl⟩ | ⟨rfl, rfl⟩ | ⟨rfl, rfl⟩
    · go_wp2
      go_round
      case rel => first | exact .inl ⟨rfl, rfl⟩ | exact .inr (.inl ⟨rfl, rfl⟩) | exact .inr (.inr (.inl ⟨rfl, rfl⟩)) | exact .inr (.inr (.inr ⟨rfl, rfl⟩))
      case measure => simp [intOf]
    · go_wp2
      go_round
      case rel => first | exact .inl ⟨rfl, rfl⟩ | exact .inr (.inl ⟨rfl, rfl⟩) | exact .inr (.inr (.inl ⟨rfl, rfl⟩)) | exact .inr (.inr (.inr ⟨rfl, rfl⟩))
      case measure => simp [intOf]
    · go_wp2
      go_round
      case rel => first | exact .inl ⟨rfl, rfl⟩ | exact .inr (.inl ⟨rfl, rfl⟩) | exact .inr (.inr (.inl ⟨rfl, rfl⟩)) | exact .inr (.inr (.inr ⟨rfl, rfl⟩))
      case measure => simp [intOf]
    · go_wp2
      all_goals (go_ret; exact ⟨rfl, rfl⟩)
set_option maxRecDepth 100000 in
set_option maxHeartbeats 1000000 in
theorem holes_100 (w : World) :
    Calls Tryd.prog 42 #[.agg #[.bool true, .bool false, .bool false]] w fun e w' => e = .returned (.int .i64 4) ∧ w' = w.alloc (.cells #[.bool true, .bool false, .bool false] 23) := by
  have i0 : ∀ w, (Instr.index 23 (.agg #[.bool true, .bool false, .bool false]) (.int .i64 0)).run Tryd.prog w = .ok (.bool true) w := fun _ => by kernel_rfl
  have i1 : ∀ w, (Instr.index 23 (.agg #[.bool true, .bool false, .bool false]) (.int .i64 1)).run Tryd.prog w = .ok (.bool false) w := fun _ => by kernel_rfl
  have i2 : ∀ w, (Instr.index 23 (.agg #[.bool true, .bool false, .bool false]) (.int .i64 2)).run Tryd.prog w = .ok (.bool false) w := fun _ => by kernel_rfl
  go_enter Tryd.func42, Tryd.ntmps42
  go_wp2
  go_loop [3, 7] (fun n i => (i = .int .i64 0 ∧ n = .int .i64 0) ∨ (i = .int .i64 1 ∧ n = .int .i64 1) ∨ (i = .int .i64 2 ∧ n = .int .i64 2) ∨ (i = .int .i64 3 ∧ n = .int .i64 4)) (fun _ i => 3 - (intOf i).toNat)
  case atStart => exact .inl ⟨rfl, rfl⟩
  case round =>
    rcases hrel with ⟨rfl, rfl⟩ | ⟨rfl, rfl⟩ | ⟨rfl, rfl⟩ | ⟨rfl, rfl⟩
    · go_wp2
      go_round
      case rel => first | exact .inl ⟨rfl, rfl⟩ | exact .inr (.inl ⟨rfl, rfl⟩) | exact .inr (.inr (.inl ⟨rfl, rfl⟩)) | exact .inr (.inr (.inr ⟨rfl, rfl⟩))
      case measure => simp [intOf]
    · go_wp2
      go_round
      case rel => first | exact .inl ⟨rfl, rfl⟩ | exact .inr (.inl ⟨rfl, rfl⟩) | exact .inr (.inr (.inl ⟨rfl, rfl⟩)) | exact .inr (.inr (.inr ⟨rfl, rfl⟩))
      case measure => simp [intOf]
    · go_wp2
      go_round
      case rel => first | exact .inl ⟨rfl, rfl⟩ | exact .inr (.inl ⟨rfl, rfl⟩) | exact .inr (.inr (.inl ⟨rfl, rfl⟩)) | exact .inr (.inr (.inr ⟨rfl, rfl⟩))
      case measure => simp [intOf]
    · go_wp2
      all_goals (go_ret; exact ⟨rfl, rfl⟩)
set_option maxRecDepth 100000 in
set_option maxHeartbeats 1000000 in
theorem holes_101 (w : World) :
    Calls Tryd.prog 42 #[.agg #[.bool true, .bool false, .bool true]] w fun e w' => e = .returned (.int .i64 5) ∧ w' = w.alloc (.cells #[.bool true, .bool false, .bool true] 23) := by
  have i0 : ∀ w, (Instr.index 23 (.agg #[.bool true, .bool false, .bool true]) (.int .i64 0)).run Tryd.prog w = .ok (.bool true) w := fun _ => by kernel_rfl
  have i1 : ∀ w, (Instr.index 23 (.agg #[.bool true, .bool false, .bool true]) (.int .i64 1)).run Tryd.prog w = .ok (.bool false) w := fun _ => by kernel_rfl
  have i2 : ∀ w, (Instr.index 23 (.agg #[.bool true, .bool false, .bool true]) (.int .i64 2)).run Tryd.prog w = .ok (.bool true) w := fun _ => by kernel_rfl
  go_enter Tryd.func42, Tryd.ntmps42
  go_wp2
  go_loop [3, 7] (fun n i => (i = .int .i64 0 ∧ n = .int .i64 0) ∨ (i = .int .i64 1 ∧ n = .int .i64 1) ∨ (i = .int .i64 2 ∧ n = .int .i64 2) ∨ (i = .int .i64 3 ∧ n = .int .i64 5)) (fun _ i => 3 - (intOf i).toNat)
  case atStart => exact .inl ⟨rfl, rfl⟩
  case round =>
    rcases hrel with ⟨rfl, rfl⟩ | ⟨rfl, rfl⟩ | ⟨rfl, rfl⟩ | ⟨rfl, rfl⟩
    · go_wp2
      go_round
      case rel => first | exact .inl ⟨rfl, rfl⟩ | exact .inr (.inl ⟨rfl, rfl⟩) | exact .inr (.inr (.inl ⟨rfl, rfl⟩)) | exact .inr (.inr (.inr ⟨rfl, rfl⟩))
      case measure => simp [intOf]
    · go_wp2
      go_round
      case rel => first | exact .inl ⟨rfl, rfl⟩ | exact .inr (.inl ⟨rfl, rfl⟩) | exact .inr (.inr (.inl ⟨rfl, rfl⟩)) | exact .inr (.inr (.inr ⟨rfl, rfl⟩))
      case measure => simp [intOf]
    · go_wp2
      go_round
      case rel => first | exact .inl ⟨rfl, rfl⟩ | exact .inr (.inl ⟨rfl, rfl⟩) | exact .inr (.inr (.inl ⟨rfl, rfl⟩)) | exact .inr (.inr (.inr ⟨rfl, rfl⟩))
      case measure => simp [intOf]
    · go_wp2
      all_goals (go_ret; exact ⟨rfl, rfl⟩)
set_option maxRecDepth 100000 in
set_option maxHeartbeats 1000000 in
theorem holes_110 (w : World) :
    Calls Tryd.prog 42 #[.agg #[.bool true, .bool true, .bool false]] w fun e w' => e = .returned (.int .i64 6) ∧ w' = w.alloc (.cells #[.bool true, .bool true, .bool false] 23) := by
  have i0 : ∀ w, (Instr.index 23 (.agg #[.bool true, .bool true, .bool false]) (.int .i64 0)).run Tryd.prog w = .ok (.bool true) w := fun _ => by kernel_rfl
  have i1 : ∀ w, (Instr.index 23 (.agg #[.bool true, .bool true, .bool false]) (.int .i64 1)).run Tryd.prog w = .ok (.bool true) w := fun _ => by kernel_rfl
  have i2 : ∀ w, (Instr.index 23 (.agg #[.bool true, .bool true, .bool false]) (.int .i64 2)).run Tryd.prog w = .ok (.bool false) w := fun _ => by kernel_rfl
  go_enter Tryd.func42, Tryd.ntmps42
  go_wp2
  go_loop [3, 7] (fun n i => (i = .int .i64 0 ∧ n = .int .i64 0) ∨ (i = .int .i64 1 ∧ n = .int .i64 1) ∨ (i = .int .i64 2 ∧ n = .int .i64 3) ∨ (i = .int .i64 3 ∧ n = .int .i64 6)) (fun _ i => 3 - (intOf i).toNat)
  case atStart => exact .inl ⟨rfl, rfl⟩
  case round =>
    rcases hrel with ⟨rfl, rfl⟩ | ⟨rfl, rfl⟩ | ⟨rfl, rfl⟩ | ⟨rfl, rfl⟩
    · go_wp2
      go_round
      case rel => first | exact .inl ⟨rfl, rfl⟩ | exact .inr (.inl ⟨rfl, rfl⟩) | exact .inr (.inr (.inl ⟨rfl, rfl⟩)) | exact .inr (.inr (.inr ⟨rfl, rfl⟩))
      case measure => simp [intOf]
    · go_wp2
      go_round
      case rel => first | exact .inl ⟨rfl, rfl⟩ | exact .inr (.inl ⟨rfl, rfl⟩) | exact .inr (.inr (.inl ⟨rfl, rfl⟩)) | exact .inr (.inr (.inr ⟨rfl, rfl⟩))
      case measure => simp [intOf]
    · go_wp2
      go_round
      case rel => first | exact .inl ⟨rfl, rfl⟩ | exact .inr (.inl ⟨rfl, rfl⟩) | exact .inr (.inr (.inl ⟨rfl, rfl⟩)) | exact .inr (.inr (.inr ⟨rfl, rfl⟩))
      case measure => simp [intOf]
    · go_wp2
      all_goals (go_ret; exact ⟨rfl, rfl⟩)
set_option maxRecDepth 100000 in
set_option maxHeartbeats 1000000 in
theorem holes_111 (w : World) :
    Calls Tryd.prog 42 #[.agg #[.bool true, .bool true, .bool true]] w fun e w' => e = .returned (.int .i64 7) ∧ w' = w.alloc (.cells #[.bool true, .bool true, .bool true] 23) := by
  have i0 : ∀ w, (Instr.index 23 (.agg #[.bool true, .bool true, .bool true]) (.int .i64 0)).run Tryd.prog w = .ok (.bool true) w := fun _ => by kernel_rfl
  have i1 : ∀ w, (Instr.index 23 (.agg #[.bool true, .bool true, .bool true]) (.int .i64 1)).run Tryd.prog w = .ok (.bool true) w := fun _ => by kernel_rfl
  have i2 : ∀ w, (Instr.index 23 (.agg #[.bool true, .bool true, .bool true]) (.int .i64 2)).run Tryd.prog w = .ok (.bool true) w := fun _ => by kernel_rfl
  go_enter Tryd.func42, Tryd.ntmps42
  go_wp2
  go_loop [3, 7] (fun n i => (i = .int .i64 0 ∧ n = .int .i64 0) ∨ (i = .int .i64 1 ∧ n = .int .i64 1) ∨ (i = .int .i64 2 ∧ n = .int .i64 3) ∨ (i = .int .i64 3 ∧ n = .int .i64 7)) (fun _ i => 3 - (intOf i).toNat)
  case atStart => exact .inl ⟨rfl, rfl⟩
  case round =>
    rcases hrel with ⟨rfl, rfl⟩ | ⟨rfl, rfl⟩ | ⟨rfl, rfl⟩ | ⟨rfl, rfl⟩
    · go_wp2
      go_round
      case rel => first | exact .inl ⟨rfl, rfl⟩ | exact .inr (.inl ⟨rfl, rfl⟩) | exact .inr (.inr (.inl ⟨rfl, rfl⟩)) | exact .inr (.inr (.inr ⟨rfl, rfl⟩))
      case measure => simp [intOf]
    · go_wp2
      go_round
      case rel => first | exact .inl ⟨rfl, rfl⟩ | exact .inr (.inl ⟨rfl, rfl⟩) | exact .inr (.inr (.inl ⟨rfl, rfl⟩)) | exact .inr (.inr (.inr ⟨rfl, rfl⟩))
      case measure => simp [intOf]
    · go_wp2
      go_round
      case rel => first | exact .inl ⟨rfl, rfl⟩ | exact .inr (.inl ⟨rfl, rfl⟩) | exact .inr (.inr (.inl ⟨rfl, rfl⟩)) | exact .inr (.inr (.inr ⟨rfl, rfl⟩))
      case measure => simp [intOf]
    · go_wp2
      all_goals (go_ret; exact ⟨rfl, rfl⟩)
theorem holes_any (a b c : Bool) (w : World) :
    Calls Tryd.prog 42 #[.agg #[.bool a, .bool b, .bool c]] w fun e w' => e = .returned (.int .i64 (holesI a b c)) ∧ w' = w.alloc (.cells #[.bool a, .bool b, .bool c] 23) := by
  cases a <;> cases b <;> cases c
  · exact holes_000 w
  · exact holes_001 w
  · exact holes_010 w
  · exact holes_011 w
  · exact holes_100 w
  · exact holes_101 w
  · exact holes_110 w
  · exact holes_111 w
end Go.Proofs.Z.W

namespace Go.Proofs.Z.W
open Go Go.RowKit Go.Proofs
def chain : List Bool → Option Bool
  | [] => some true
  | b :: l => match some b with
    | some true => chain l
    | r => r
theorem chain_all : ∀ l : List Bool, chain l = some (l.all id)
  | [] => rfl
  | true :: l => by simp [chain, chain_all l]
  | false :: l => by simp [chain]
set_option maxRecDepth 100000 in
theorem eqV_four (a0 a1 a2 a3 b0 b1 b2 b3 : Int) : Ri.eqV Tryd.prog 8 22 (.agg #[.int .i64 a0, .int .i64 a1, .int .i64 a2, .int .i64 a3]) (.agg #[.int .i64 b0, .int .i64 b1, .int .i64 b2, .int .i64 b3]) = some ([a0 == b0, a1 == b1, a2 == b2, a3 == b3].all id) :=
  (show _ = chain [a0 == b0, a1 == b1, a2 == b2, a3 == b3] by kernel_rfl).trans (chain_all _)
theorem equal_four (a0 a1 a2 a3 b0 b1 b2 b3 : Int) (w : World) : (Op.equalIn 10000 22 (.agg #[.int .i64 a0, .int .i64 a1, .int .i64 a2, .int .i64 a3]) (.agg #[.int .i64 b0, .int .i64 b1, .int .i64 b2, .int .i64 b3])).run Tryd.prog w = .ok ([a0 == b0, a1 == b1, a2 == b2, a3 == b3].all id) w :=
  Ri.eqV_run 8 9992 _ _ _ _ (eqV_four a0 a1 a2 a3 b0 b1 b2 b3) w

theorem g_two (w : World) (A B : Obj) : (w.alloc A).alloc B = Sort.grow (w.drewN 0) #[A, B] := by
  rw [Sort.alloc_eq_grow, Sort.alloc_eq_grow, Sort.grow_grow]
  rfl
theorem g_four (w : World) (A B D E : Obj) : (((w.alloc A).alloc B).alloc D).alloc E = Sort.grow (w.drewN 0) #[A, B, D, E] := by
  rw [Sort.alloc_eq_grow, Sort.alloc_eq_grow, Sort.alloc_eq_grow, Sort.alloc_eq_grow, Sort.grow_grow, Sort.grow_grow, Sort.grow_grow]
  rfl
def Gr (w w' : World) : Prop := ∃ q os', w' = Sort.grow (w.drewN q) os'
theorem gr_drew {w w' : World} (h : Gr w w') (n : Nat) : Gr w (w'.drewN n) := by
  obtain ⟨q, os, rfl⟩ := h
  refine ⟨q + n, os, ?_⟩
  show { (Sort.grow (w.drewN q) os) with drawn := w.drawn + q + n } = _
  rw [Nat.add_assoc]
  rfl
theorem gr_two (w : World) (A B : Obj) : Gr w ((w.alloc A).alloc B) := ⟨0, _, g_two w A B⟩
theorem gr_four (w : World) (A B D E : Obj) : Gr w ((((w.alloc A).alloc B).alloc D).alloc E) := ⟨0, _, g_four w A B D E⟩
abbrev earV (t u0 u1 u2 u3 l0 l1 l2 l3 : Int) (h0 h1 h2 : Bool) : Value :=
  .agg #[.int .i64 t, .int .i64 u0, .int .i64 u1, .int .i64 u2, .int .i64 u3, .int .i64 l0, .int .i64 l1, .int .i64 l2, .int .i64 l3, .bool h0, .bool h1, .bool h2]
set_option maxRecDepth 100000 in
set_option maxHeartbeats 1000000 in
theorem compare_tip (t u0 u1 u2 u3 l0 l1 l2 l3 t' u0' u1' u2' u3' l0' l1' l2' l3' : Int) (h0 h1 h2 h0' h1' h2' : Bool) (w : World) (h : ¬ t = t') :
    Calls Tryd.prog 15 #[earV t u0 u1 u2 u3 l0 l1 l2 l3 h0 h1 h2, earV t' u0' u1' u2' u3' l0' l1' l2' l3' h0' h1' h2'] w fun e w' => e = .returned (.int .i64 (cmpI t t')) ∧ Gr w w' := by
  go_enter Tryd.func15, Tryd.ntmps15
  go_wp2_with (go_at_call 44; refine (cmp_any _ _ _).mono ?_; rintro e w' ⟨rfl, rfl⟩)
  all_goals (go_ret; exact ⟨rfl, by first | exact gr_two _ _ _ | exact gr_drew (gr_two _ _ _) _ | exact gr_four _ _ _ _ _ | exact gr_drew (gr_four _ _ _ _ _) 1⟩)
theorem cell_four (W : World) (b k : Nat) (x0 x1 x2 x3 : Int) (c0 : W.cell? ⟨b, k, none⟩ = some (.int .i64 x0)) (c1 : W.cell? ⟨b, k + 1, none⟩ = some (.int .i64 x1)) (c2 : W.cell? ⟨b, k + 2, none⟩ = some (.int .i64 x2)) (c3 : W.cell? ⟨b, k + 3, none⟩ = some (.int .i64 x3)) :
    ∀ i, i < 4 → W.cell? ⟨b, k + i, none⟩ = some (.int .i64 ((fun i => match i with | 0 => x0 | 1 => x1 | 2 => x2 | _ => x3) i)) := by
  intro i hi
  match i, hi with
  | 0, _ => exact c0
  | 1, _ => exact c1
  | 2, _ => exact c2
  | 3, _ => exact c3
theorem slc_four (b1 o1 c1 b2 o2 c2 : Nat) (x0 x1 x2 x3 y0 y1 y2 y3 : Int) (w : World)
    (a0 : w.cell? ⟨b1, o1, none⟩ = some (.int .i64 x0)) (a1 : w.cell? ⟨b1, o1 + 1, none⟩ = some (.int .i64 x1)) (a2 : w.cell? ⟨b1, o1 + 2, none⟩ = some (.int .i64 x2)) (a3 : w.cell? ⟨b1, o1 + 3, none⟩ = some (.int .i64 x3))
    (d0 : w.cell? ⟨b2, o2, none⟩ = some (.int .i64 y0)) (d1 : w.cell? ⟨b2, o2 + 1, none⟩ = some (.int .i64 y1)) (d2 : w.cell? ⟨b2, o2 + 2, none⟩ = some (.int .i64 y2)) (d3 : w.cell? ⟨b2, o2 + 3, none⟩ = some (.int .i64 y3)) :
    Calls Tryd.prog 45 #[.slice (some ⟨b1, o1, none⟩) 4 c1, .slice (some ⟨b2, o2, none⟩) 4 c2] w fun e w' => e = .returned (.int .i64 (lexI [x0, x1, x2, x3] [y0, y1, y2, y3])) ∧ w' = w :=
  slc_any b1 o1 c1 b2 o2 c2 _ _ w (cell_four w b1 o1 x0 x1 x2 x3 a0 a1 a2 a3) (cell_four w b2 o2 y0 y1 y2 y3 d0 d1 d2 d3)
set_option maxRecDepth 100000 in
set_option maxHeartbeats 1000000 in
theorem compare_upper (t u0 u1 u2 u3 l0 l1 l2 l3 u0' u1' u2' u3' l0' l1' l2' l3' : Int) (h0 h1 h2 h0' h1' h2' : Bool) (w : World) (h : ([u0 == u0', u1 == u1', u2 == u2', u3 == u3'].all id) = false) :
    Calls Tryd.prog 15 #[earV t u0 u1 u2 u3 l0 l1 l2 l3 h0 h1 h2, earV t u0' u1' u2' u3' l0' l1' l2' l3' h0' h1' h2'] w fun e w' => e = .returned (.int .i64 (lexI [u0, u1, u2, u3] [u0', u1', u2', u3'])) ∧ Gr w w' := by
  have q : ∀ w, (Op.equalIn 10000 22 (.agg #[.int .i64 u0, .int .i64 u1, .int .i64 u2, .int .i64 u3]) (.agg #[.int .i64 u0', .int .i64 u1', .int .i64 u2', .int .i64 u3'])).run Tryd.prog w = .ok false w := fun w => by rw [equal_four, h]
  clear h
  go_enter Tryd.func15, Tryd.ntmps15
  go_wp2
  go_quiet ((go_at_call 45; refine Calls.quiet_of_same (slc_four _ _ _ _ _ _ u0 u1 u2 u3 u0' u1' u2' u3' _ ?_ ?_ ?_ ?_ ?_ ?_ ?_ ?_) <;> go_simp))
  go_wp2
  all_goals (go_ret; exact ⟨rfl, by first | exact gr_two _ _ _ | exact gr_drew (gr_two _ _ _) _ | exact gr_four _ _ _ _ _ | exact gr_drew (gr_four _ _ _ _ _) 1⟩)

set_option maxRecDepth 100000 in
set_option maxHeartbeats 1000000 in
theorem compare_lower (t u0 u1 u2 u3 l0 l1 l2 l3 l0' l1' l2' l3' : Int) (h0 h1 h2 h0' h1' h2' : Bool) (w : World) (h : ([l0 == l0', l1 == l1', l2 == l2', l3 == l3'].all id) = false) :
    Calls Tryd.prog 15 #[earV t u0 u1 u2 u3 l0 l1 l2 l3 h0 h1 h2, earV t u0 u1 u2 u3 l0' l1' l2' l3' h0' h1' h2'] w fun e w' => e = .returned (.int .i64 (lexI [l0, l1, l2, l3] [l0', l1', l2', l3'])) ∧ Gr w w' := by
  have p : ∀ w, (Op.equalIn 10000 22 (.agg #[.int .i64 u0, .int .i64 u1, .int .i64 u2, .int .i64 u3]) (.agg #[.int .i64 u0, .int .i64 u1, .int .i64 u2, .int .i64 u3])).run Tryd.prog w = .ok true w := fun w => by rw [equal_four]; simp
  have q : ∀ w, (Op.equalIn 10000 22 (.agg #[.int .i64 l0, .int .i64 l1, .int .i64 l2, .int .i64 l3]) (.agg #[.int .i64 l0', .int .i64 l1', .int .i64 l2', .int .i64 l3'])).run Tryd.prog w = .ok false w := fun w => by rw [equal_four, h]
  clear h
  go_enter Tryd.func15, Tryd.ntmps15
  go_wp2
  go_quiet ((go_at_call 45; refine Calls.quiet_of_same (slc_four _ _ _ _ _ _ l0 l1 l2 l3 l0' l1' l2' l3' _ ?_ ?_ ?_ ?_ ?_ ?_ ?_ ?_) <;> go_simp))
  go_wp2
  all_goals (go_ret; exact ⟨rfl, by first | exact gr_two _ _ _ | exact gr_drew (gr_two _ _ _) _ | exact gr_four _ _ _ _ _ | exact gr_drew (gr_four _ _ _ _ _) 1⟩)
set_option maxRecDepth 100000 in
set_option maxHeartbeats 1000000 in
theorem compare_holes (t u0 u1 u2 u3 l0 l1 l2 l3 : Int) (h0 h1 h2 h0' h1' h2' : Bool) (w : World) :
    Calls Tryd.prog 15 #[earV t u0 u1 u2 u3 l0 l1 l2 l3 h0 h1 h2, earV t u0 u1 u2 u3 l0 l1 l2 l3 h0' h1' h2'] w fun e w' => e = .returned (.int .i64 (cmpI (holesI h0 h1 h2) (holesI h0' h1' h2'))) ∧ Gr w w' := by
  have p : ∀ w, (Op.equalIn 10000 22 (.agg #[.int .i64 u0, .int .i64 u1, .int .i64 u2, .int .i64 u3]) (.agg #[.int .i64 u0, .int .i64 u1, .int .i64 u2, .int .i64 u3])).run Tryd.prog w = .ok true w := fun w => by rw [equal_four]; simp
  have q : ∀ w, (Op.equalIn 10000 22 (.agg #[.int .i64 l0, .int .i64 l1, .int .i64 l2, .int .i64 l3]) (.agg #[.int .i64 l0, .int .i64 l1, .int .i64 l2, .int .i64 l3])).run Tryd.prog w = .ok true w := fun w => by rw [equal_four]; simp
  go_enter Tryd.func15, Tryd.ntmps15
  go_wp2
  go_region_with (first | (go_at_call 42; refine (holes_any _ _ _ _).mono ?_; rintro e w' ⟨rfl, rfl⟩) | (go_at_call 44; refine (cmp_any _ _ _).mono ?_; rintro e w' ⟨rfl, rfl⟩))
  all_goals go_wp2
  all_goals (go_ret; exact ⟨rfl, by first | exact gr_two _ _ _ | exact gr_drew (gr_two _ _ _) _ | exact gr_four _ _ _ _ _ | exact gr_drew (gr_four _ _ _ _ _) 1⟩)
abbrev keys (t u0 u1 u2 u3 l0 l1 l2 l3 : Int) (h0 h1 h2 : Bool) : List Int := [t, u0, u1, u2, u3, l0, l1, l2, l3, holesI h0 h1 h2]
theorem all_four {a0 a1 a2 a3 b0 b1 b2 b3 : Int} : ([a0 == b0, a1 == b1, a2 == b2, a3 == b3].all id) = true ↔ (a0 = b0 ∧ a1 = b1 ∧ a2 = b2 ∧ a3 = b3) := by
  simp
theorem compare_all (t u0 u1 u2 u3 l0 l1 l2 l3 t' u0' u1' u2' u3' l0' l1' l2' l3' : Int) (h0 h1 h2 h0' h1' h2' : Bool) (w : World) :
    Calls Tryd.prog 15 #[earV t u0 u1 u2 u3 l0 l1 l2 l3 h0 h1 h2, earV t' u0' u1' u2' u3' l0' l1' l2' l3' h0' h1' h2'] w
      fun e w' => e = .returned (.int .i64 (lexI (keys t u0 u1 u2 u3 l0 l1 l2 l3 h0 h1 h2) (keys t' u0' u1' u2' u3' l0' l1' l2' l3' h0' h1' h2'))) ∧ Gr w w' := by
  by_cases ht : t = t'
  · subst ht
    by_cases hu : ([u0 == u0', u1 == u1', u2 == u2', u3 == u3'].all id) = true
    · obtain ⟨rfl, rfl, rfl, rfl⟩ := all_four.mp hu
      by_cases hl : ([l0 == l0', l1 == l1', l2 == l2', l3 == l3'].all id) = true
      · obtain ⟨rfl, rfl, rfl, rfl⟩ := all_four.mp hl
        have e : lexI (keys t u0 u1 u2 u3 l0 l1 l2 l3 h0 h1 h2) (keys t u0 u1 u2 u3 l0 l1 l2 l3 h0' h1' h2') = cmpI (holesI h0 h1 h2) (holesI h0' h1' h2') :=
          (lexI_same [t, u0, u1, u2, u3, l0, l1, l2, l3] _ _).trans (lexI_one _ _)
        rw [e]
        exact compare_holes t u0 u1 u2 u3 l0 l1 l2 l3 h0 h1 h2 h0' h1' h2' w
      · have e : lexI (keys t u0 u1 u2 u3 l0 l1 l2 l3 h0 h1 h2) (keys t u0 u1 u2 u3 l0' l1' l2' l3' h0' h1' h2') = lexI [l0, l1, l2, l3] [l0', l1', l2', l3'] :=
          (lexI_same [t, u0, u1, u2, u3] _ _).trans (lexI_app [l0, l1, l2, l3] [l0', l1', l2', l3'] _ _ rfl (fun e => hl (by simp at e; simp [e])))
        rw [e]
        exact compare_lower t u0 u1 u2 u3 l0 l1 l2 l3 l0' l1' l2' l3' h0 h1 h2 h0' h1' h2' w (by simpa using hl)
    · have e : lexI (keys t u0 u1 u2 u3 l0 l1 l2 l3 h0 h1 h2) (keys t u0' u1' u2' u3' l0' l1' l2' l3' h0' h1' h2') = lexI [u0, u1, u2, u3] [u0', u1', u2', u3'] :=
        (lexI_same [t] _ _).trans (lexI_app [u0, u1, u2, u3] [u0', u1', u2', u3'] _ _ rfl (fun e => hu (by simp at e; simp [e])))
      rw [e]
      exact compare_upper t u0 u1 u2 u3 l0 l1 l2 l3 u0' u1' u2' u3' l0' l1' l2' l3' h0 h1 h2 h0' h1' h2' w (by simpa using hu)
  · have e : lexI (keys t u0 u1 u2 u3 l0 l1 l2 l3 h0 h1 h2) (keys t' u0' u1' u2' u3' l0' l1' l2' l3' h0' h1' h2') = cmpI t t' :=
      (lexI_app [t] [t'] _ _ rfl (fun e => ht (by simpa using e))).trans (lexI_one _ _)
    rw [e]
    exact compare_tip t u0 u1 u2 u3 l0 l1 l2 l3 t' u0' u1' u2' u3' l0' l1' l2' l3' h0 h1 h2 h0' h1' h2' w ht
end Go.Proofs.Z.W
