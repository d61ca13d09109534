/- A part of the proofs that the laws of layer three answer true for every input. -/
import Derived.Test.YtbacimjjelkfbaaGreatDoorZGB
namespace Go.Proofs.Z
open Go Go.RowKit Go.Proofs Go.Ri
abbrev fSound : Nat := 65
abbrev fCheck : Nat := 34
abbrev fREdge : Nat := 105
abbrev fValid : Nat := 67
abbrev fRCheck : Nat := 36
/-! A whole number's class: 0: it is 0; 1: from 1 to 3; 2: below 0; 3: above 3. -/
def cls (x : Int) : Nat := if x = 0 then 0 else if x < 0 then 2 else if x > 3 then 3 else 1
/-- What is known of a name of class c. -/
def entC (i c : Nat) : List TE := [⟨.ieq, sI i, lI 0, bR (Nat.beq c 0)⟩, ⟨.bin .lss, sI i, lI 0, bR (Nat.beq c 2)⟩, ⟨.bin .gtr, sI i, lI 3, bR (Nat.beq c 3)⟩]
theorem cls0 (x : Int) : Nat.beq (cls x) 0 = (x == 0) := by
  by_cases h : x = 0
  · subst h; rfl
  · have e : (x == 0) = false := by simpa using h
    rw [e]; unfold cls; rw [if_neg h]
    split
    · rfl
    · split <;> rfl
theorem cls2 (x : Int) : Nat.beq (cls x) 2 = decide (x < 0) := by
  unfold cls
  by_cases h : x = 0
  · subst h; rfl
  · rw [if_neg h]
    by_cases h2 : x < 0
    · rw [if_pos h2, decide_eq_true h2]; rfl
    · rw [if_neg h2, decide_eq_false h2]; split <;> rfl
theorem cls3 (x : Int) : Nat.beq (cls x) 3 = decide (x > 3) := by
  unfold cls
  by_cases h : x = 0
  · subst h; rfl
  · rw [if_neg h]
    by_cases h2 : x < 0
    · rw [if_pos h2, decide_eq_false (by omega)]; rfl
    · rw [if_neg h2]
      by_cases h3 : x > 3
      · rw [if_pos h3, decide_eq_true h3]; rfl
      · rw [if_neg h3, decide_eq_false h3]; rfl
theorem cls_lt (x : Int) : cls x < 4 := by 
  unfold cls
  split
  · omega
  · split
    · omega
    · split <;> omega
theorem entC_true [Val] (i : Nat) : ∀ e ∈ entC i (cls (Val.I i)), TETrue e := by
  intro e he
  simp only [entC, List.mem_cons, List.not_mem_nil, or_false] at he
  rcases he with rfl | rfl | rfl
  · exact ⟨rfl, by rw [cls0]; exact t_ieq .i64 (Val.I i) 0⟩
  · exact ⟨rfl, by rw [cls2]; exact t_lss .i64 (Val.I i) 0⟩
  · exact ⟨rfl, by rw [cls3]; exact t_gtr .i64 (Val.I i) 3⟩
/-- Does a value of this class have to go. -/
def badC (slots i prev c : Nat) : Bool := (Nat.ble 1 i && !(Nat.beq prev 0)) || Nat.ble slots i || Nat.beq c 2 || Nat.beq c 3
def keep (b : Bool) (i : Nat) : RV := if b then lI 0 else sI i
noncomputable def soundRun (slots c0 c1 c2 c3 : Nat) : Bool := runOK noX (entC 0 c0 ++ (entC 1 c1 ++ (entC 2 c2 ++ entC 3 c3))) [] 1000 10 fSound [.agg [sI 0, sI 1, sI 2, sI 3], lI slots]
  (.agg [keep (badC slots 0 0 c0) 0, keep (badC slots 1 c0 c1) 1, keep (badC slots 2 c1 c2) 2, keep (badC slots 3 c2 c3) 3])
noncomputable def allB (f : Nat → Bool) : Bool := match f 0 with
  | true => match f 1 with
    | true => match f 2 with
      | true => f 3
      | false => false
    | false => false
  | false => false
theorem allB_lt {f : Nat → Bool} (h : allB f = true) (c : Nat) (hc : c < 4) : f c = true := by
  unfold allB at h
  split at h
  · split at h
    · split at h
      · match c, hc with
        | 0, _ => assumption
        | 1, _ => assumption
        | 2, _ => assumption
        | 3, _ => exact h
      · cases h
    · cases h
  · cases h
end Go.Proofs.Z
