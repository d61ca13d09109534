/- A part of the proof that EarOrder answers true for every three ears. -/
import Derived.Test.YtedbdpaioikhgaaDoorProg
import Derived.WalkKit
import Derived.BigQuiet
import Derived.Deep.QuietTactic
import Derived.KernelRfl
import Derived.Lib.Hide
namespace Go.Proofs.W
open Go Go.RowKit Go.Proofs
set_option maxHeartbeats 400000 in
theorem isNaN_any (x : Int) (w : World) : Calls Tryd.prog 61 #[.int .i64 x] w fun e w' => e = .returned (.bool false) ∧ w' = w := by
  go_enter Tryd.func61, Tryd.ntmps61
  go_wp2
  all_goals (go_ret; exact ⟨rfl, rfl⟩)
def cmpI (x y : Int) : Int := if x < y then -1 else if y < x then 1 else 0
set_option maxHeartbeats 400000 in
theorem cmp_lt (x y : Int) (h : x < y) (w : World) : Calls Tryd.prog 44 #[.int .i64 x, .int .i64 y] w fun e w' => e = .returned (.int .i64 (-1)) ∧ w' = w := by
  go_enter Tryd.func44, Tryd.ntmps44
  go_wp2_with (go_at_call 61; refine (isNaN_any _ _).mono ?_; rintro e w' ⟨rfl, rfl⟩)
  all_goals (go_ret; exact ⟨rfl, rfl⟩)
set_option maxHeartbeats 400000 in
theorem cmp_gt (x y : Int) (h : y < x) (w : World) : Calls Tryd.prog 44 #[.int .i64 x, .int .i64 y] w fun e w' => e = .returned (.int .i64 1) ∧ w' = w := by
  have h' : ¬ x < y := by omega
  go_enter Tryd.func44, Tryd.ntmps44
  go_wp2_with (go_at_call 61; refine (isNaN_any _ _).mono ?_; rintro e w' ⟨rfl, rfl⟩)
  all_goals (go_ret; exact ⟨rfl, rfl⟩)
set_option maxHeartbeats 400000 in
theorem cmp_eq (x : Int) (w : World) : Calls Tryd.prog 44 #[.int .i64 x, .int .i64 x] w fun e w' => e = .returned (.int .i64 0) ∧ w' = w := by
  have h' : ¬ x < x := by omega
  go_enter Tryd.func44, Tryd.ntmps44
  go_wp2_with (go_at_call 61; refine (isNaN_any _ _).mono ?_; rintro e w' ⟨rfl, rfl⟩)
  all_goals (go_ret; exact ⟨rfl, rfl⟩)
theorem cmp_any (x y : Int) (w : World) : Calls Tryd.prog 44 #[.int .i64 x, .int .i64 y] w fun e w' => e = .returned (.int .i64 (cmpI x y)) ∧ w' = w := by
  unfold cmpI
  by_cases h : x < y
  · rw [if_pos h]; exact cmp_lt x y h w
  · rw [if_neg h]
    by_cases h' : y < x
    · rw [if_pos h']; exact cmp_gt x y h' w
    · rw [if_neg h']
      obtain rfl : x = y := by omega
      exact cmp_eq x w
def lexI : List Int → List Int → Int
  | x :: l, y :: m => if cmpI x y = 0 then lexI l m else cmpI x y
  | _, _ => 0
theorem lexI_cons (x y : Int) (l m : List Int) : lexI (x :: l) (y :: m) = if cmpI x y = 0 then lexI l m else cmpI x y := rfl
def four (x : Nat → Int) : List Int := [x 0, x 1, x 2, x 3]
theorem four_drop (x : Nat → Int) (k : Nat) (h : k < 4) : (four x).drop k = x k :: (four x).drop (k + 1) := by
  match k, h with
  | 0, _ => rfl
  | 1, _ => rfl
  | 2, _ => rfl
  | 3, _ => rfl
set_option maxHeartbeats 1000000 in
theorem slc_any (b1 o1 c1 b2 o2 c2 : Nat) (x y : Nat → Int) (w : World) (hx : ∀ i, i < 4 → w.cell? ⟨b1, o1 + i, none⟩ = some (.int .i64 (x i))) (hy : ∀ i, i < 4 → w.cell? ⟨b2, o2 + i, none⟩ = some (.int .i64 (y i))) :
    Calls Tryd.prog 45 #[.slice (some ⟨b1, o1, none⟩) 4 c1, .slice (some ⟨b2, o2, none⟩) 4 c2] w fun e w' => e = .returned (.int .i64 (lexI (four x) (four y))) ∧ w' = w := by
  have HX := Lib.hid hx
  have HY := Lib.hid hy
  clear hx hy
  go_enter Tryd.func45, Tryd.ntmps45
  go_wp2
  go_loop [11] (fun i => ∃ k : Nat, k ≤ 4 ∧ i = .int .i64 k ∧ Hid (lexI (four x) (four y) = lexI ((four x).drop k) ((four y).drop k))) (fun i => 4 - (intOf i).toNat)
  case atStart => exact ⟨0, by omega, rfl, rfl⟩
  case round =>
    obtain ⟨k, hk, rfl, hr⟩ := hrel
    by_cases hlt : k < 4
    · have gx := HX.out k hlt
      have gy := HY.out k hlt
      have hl : ¬ ((4 : Int) ≤ (k : Int)) := by omega
      have hd : lexI ((four x).drop k) ((four y).drop k) = if cmpI (x k) (y k) = 0 then lexI ((four x).drop (k + 1)) ((four y).drop (k + 1)) else cmpI (x k) (y k) := by
        rw [four_drop x k hlt, four_drop y k hlt]; rfl
      have HD := Lib.hid hd
      clear hd
      by_cases hc : cmpI (x k) (y k) = 0
      · have HC := Lib.hid hc
        clear hc
        go_wp2_with (go_at_call 44; refine (cmp_any _ _ _).mono ?_; rw [HC.out]; rintro e w' ⟨rfl, rfl⟩)
        go_round
        case rel => exact ⟨k + 1, by omega, by go_num, by have := hr.out; rw [HD.out, if_pos HC.out] at this; exact this⟩
        case measure => simp [intOf]; omega
      · have hc' : ((cmpI (x k) (y k)) != 0) = true := by simpa using hc
        have HE := Lib.hid (show lexI (four x) (four y) = cmpI (x k) (y k) by rw [hr.out, HD.out, if_neg hc])
        clear hc
        go_wp2_with (go_at_call 44; refine (cmp_any _ _ _).mono ?_; rintro e w' ⟨rfl, rfl⟩)
        all_goals (go_ret; exact ⟨by rw [HE.out]; rfl, rfl⟩)
    · obtain rfl : k = 4 := by omega
      go_wp2
      all_goals (go_ret; exact ⟨by rw [hr.out]; rfl, rfl⟩)
end Go.Proofs.W
