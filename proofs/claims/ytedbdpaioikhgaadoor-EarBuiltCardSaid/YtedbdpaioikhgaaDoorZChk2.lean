/- A part of the proofs that the laws of layer one answer true for every input. -/
import Derived.Test.YtedbdpaioikhgaaDoorZChk
namespace Go.Proofs.Z
open Go Go.RowKit Go.Proofs Go.Ri
/-! The first place at which two rows differ. -/
def fd (p : Nat → Bool) : Nat → Nat → Nat
  | i, 0 => i
  | i, n + 1 => if p i then fd p (i + 1) n else i
theorem fd_spec (p : Nat → Bool) : ∀ n i, (∀ j, i ≤ j → j < fd p i n → p j = true) ∧ (fd p i n < i + n → p (fd p i n) = false) ∧ i ≤ fd p i n ∧ fd p i n ≤ i + n
  | 0, i => ⟨fun j h1 h2 => by have h2 : j < i := h2; omega, fun h => by have h : i < i + 0 := h; omega, Nat.le_refl _, Nat.le_refl _⟩
  | n + 1, i => by
    obtain ⟨h1, h2, h3, h4⟩ := fd_spec p n (i + 1)
    by_cases hp : p i = true
    · have e : fd p i (n + 1) = fd p (i + 1) n := by show (if p i then _ else _) = _; rw [if_pos hp]
      rw [e]
      refine ⟨fun j hj hj2 => ?_, fun h => h2 (by omega), by omega, by omega⟩
      rcases Nat.eq_or_lt_of_le hj with rfl | hlt
      · exact hp
      · exact h1 j hlt hj2
    · have e : fd p i (n + 1) = i := by show (if p i then _ else _) = _; rw [if_neg hp]
      rw [e]
      exact ⟨fun j hj hj2 => by omega, fun _ => by simpa using hp, Nat.le_refl _, by omega⟩
theorem blt_self (j : Nat) : Nat.blt j j = false := by
  cases h : Nat.blt j j with
  | false => rfl
  | true => have := Nat.le_of_ble_eq_true h; omega
theorem beq_ne {i j : Nat} (h : i ≠ j) : Nat.beq i j = false := by
  cases h2 : Nat.beq i j with
  | false => rfl
  | true => exact absurd (Nat.eq_of_beq_eq_true h2) h
/-- What is known of two rows of names that differ first at m. -/
def eqs (k k' n m : Nat) : List TE := (List.range (Nat.min (m + 1) n)).map fun j => ⟨.ieq, sI (k + j), sI (k' + j), bR (Nat.blt j m)⟩
theorem eqs_true [Val] (k k' n : Nat) : ∀ e ∈ eqs k k' n (fd (fun j => Val.I (k + j) == Val.I (k' + j)) 0 n), TETrue e := by
  intro e he
  obtain ⟨j, hj, rfl⟩ := List.mem_map.1 he
  obtain ⟨h1, h2, h3, h4⟩ := fd_spec (fun j => Val.I (k + j) == Val.I (k' + j)) n 0
  generalize fd (fun j => Val.I (k + j) == Val.I (k' + j)) 0 n = m at *
  have hj := List.mem_range.1 hj
  have hj1 : j < m + 1 := Nat.lt_of_lt_of_le hj (Nat.min_le_left _ _)
  have hj2 : j < n := Nat.lt_of_lt_of_le hj (Nat.min_le_right _ _)
  have e : Nat.blt j m = (Val.I (k + j) == Val.I (k' + j)) := by
    by_cases hlt : j < m
    · rw [h1 j (Nat.zero_le _) hlt]
      exact Nat.ble_eq_true_of_le hlt
    · obtain rfl : j = m := by omega
      rw [h2 (by omega)]
      exact blt_self j
  exact ⟨rfl, by rw [e]; exact t_ieq .i64 (Val.I (k + j)) (Val.I (k' + j))⟩
def allE (p : Nat → Bool) (n : Nat) : Bool := Nat.beq (fd p 0 n) n
theorem fd_all (p : Nat → Bool) : ∀ n i, Nat.beq (fd p i n) (i + n) = ((List.range n).all fun j => p (i + j))
  | 0, i => by show Nat.beq i (i + 0) = true; simp
  | n + 1, i => by
    rw [List.range_succ_eq_map, List.all_cons, List.all_map]
    by_cases hp : p i = true
    · have e : fd p i (n + 1) = fd p (i + 1) n := by show (if p i then _ else _) = _; rw [if_pos hp]
      have := fd_all p n (i + 1)
      rw [e, show i + (n + 1) = i + 1 + n by omega, this]
      simp only [Nat.add_zero, hp, Bool.true_and]
      congr 1
      funext j
      show p (i + 1 + j) = p (i + (j + 1))
      rw [show i + 1 + j = i + (j + 1) by omega]
    · have e : fd p i (n + 1) = i := by show (if p i then _ else _) = _; rw [if_neg hp]
      rw [e]
      have : p (i + 0) = false := by simpa using hp
      rw [this, beq_ne (by omega)]
      simp

/-! The tip's class: 0: it takes nothing away; 1: hollowed; 2: cropped; 3: below; 4: above. -/
def tcl (t : Int) : Nat := if t < 0 then 3 else if t > 4 then 4 else if t = 3 then 1 else if t = 4 then 2 else 0
def entT (i c : Nat) : List TE := [⟨.bin .lss, sI i, lI 0, bR (Nat.beq c 3)⟩, ⟨.bin .gtr, sI i, lI 4, bR (Nat.beq c 4)⟩, ⟨.ieq, sI i, lI 3, bR (Nat.beq c 1)⟩, ⟨.ieq, sI i, lI 4, bR (Nat.beq c 2)⟩]
theorem tcl_spec (t : Int) : tcl t < 5 ∧ Nat.beq (tcl t) 3 = decide (t < 0) ∧ Nat.beq (tcl t) 4 = decide (t > 4) ∧ Nat.beq (tcl t) 1 = (t == 3) ∧ Nat.beq (tcl t) 2 = (t == 4) := by
  unfold tcl
  by_cases h : t < 0
  · rw [if_pos h]
    refine ⟨by omega, by rw [decide_eq_true h]; rfl, by rw [decide_eq_false (by omega)]; rfl, ?_, ?_⟩
    · have : (t == 3) = false := by simp; omega
      rw [this]; rfl
    · have : (t == 4) = false := by simp; omega
      rw [this]; rfl
  · rw [if_neg h]
    by_cases h2 : t > 4
    · rw [if_pos h2]
      refine ⟨by omega, by rw [decide_eq_false (by omega)]; rfl, by rw [decide_eq_true h2]; rfl, ?_, ?_⟩
      · have : (t == 3) = false := by simp; omega
        rw [this]; rfl
      · have : (t == 4) = false := by simp; omega
        rw [this]; rfl
    · rw [if_neg h2, decide_eq_false (by omega), decide_eq_false (by omega)]
      by_cases h3 : t = 3
      · subst h3; exact ⟨by decide, rfl, rfl, rfl, rfl⟩
      · rw [if_neg h3]
        by_cases h4 : t = 4
        · subst h4; exact ⟨by decide, rfl, rfl, rfl, rfl⟩
        · rw [if_neg h4]
          have e3 : (t == 3) = false := by simpa using h3
          have e4 : (t == 4) = false := by simpa using h4
          rw [e3, e4]
          exact ⟨by decide, rfl, rfl, rfl, rfl⟩
theorem entT_true [Val] (i : Nat) : ∀ e ∈ entT i (tcl (Val.I i)), TETrue e := by
  intro e he
  obtain ⟨_, h1, h2, h3, h4⟩ := tcl_spec (Val.I i)
  simp only [entT, List.mem_cons, List.not_mem_nil, or_false] at he
  rcases he with rfl | rfl | rfl | rfl
  · exact ⟨rfl, by rw [h1]; exact t_lss .i64 (Val.I i) 0⟩
  · exact ⟨rfl, by rw [h2]; exact t_gtr .i64 (Val.I i) 4⟩
  · exact ⟨rfl, by rw [h3]; exact t_ieq .i64 (Val.I i) 3⟩
  · exact ⟨rfl, by rw [h4]; exact t_ieq .i64 (Val.I i) 4⟩
def slotsOf (c : Nat) : Nat := if Nat.beq c 1 || Nat.beq c 2 then 3 else 4
noncomputable def all5 (f : Nat → Bool) : Bool := match allB f with
  | true => f 4
  | false => false
theorem all5_lt {f : Nat → Bool} (h : all5 f = true) (c : Nat) (hc : c < 5) : f c = true := by
  unfold all5 at h
  split at h
  · rename_i hb
    by_cases h4 : c = 4
    · subst h4; exact h
    · exact allB_lt hb c (by omega)
  · cases h
def tipOK (c : Nat) : Bool := !(Nat.beq c 3) && !(Nat.beq c 4)
noncomputable def chkRun (tc mu ml : Nat) : Bool := runOK noX (entT 0 tc ++ (eqs 1 30 4 mu ++ eqs 5 40 4 ml)) [⟨fSound, [edgeR 1, lI (slotsOf tc)], edgeR 30⟩, ⟨fSound, [edgeR 5, lI (slotsOf tc)], edgeR 40⟩] 1000 10 fCheck [earR 0]
  (lI (if tipOK tc && (Nat.beq mu 4 && Nat.beq ml 4) then 0 else 10))
set_option maxRecDepth 100000 in
theorem chk_run : (all5 fun tc => all5 fun mu => all5 fun ml => chkRun tc mu ml) = true := by kernel_rfl
end Go.Proofs.Z
