/- A part of the proofs that the laws of layer three answer true for every input. -/
import Derived.Test.YtbacimjjelkfbaaGreatDoorZSnd3
import Derived.Test.YtbacimjjelkfbaaGreatDoorZSnd4
namespace Go.Proofs.Z
open Go Go.RowKit Go.Proofs Go.Ri
/-! Ears and edges as values. -/
def edgeF (x : Nat → Int) : Value := .agg #[.int .i64 (x 0), .int .i64 (x 1), .int .i64 (x 2), .int .i64 (x 3)]
def earF (x : Nat → Int) (y : Nat → Bool) : Value := .agg #[.int .i64 (x 0), .int .i64 (x 1), .int .i64 (x 2), .int .i64 (x 3), .int .i64 (x 4), .int .i64 (x 5), .int .i64 (x 6), .int .i64 (x 7), .int .i64 (x 8), .bool (y 0), .bool (y 1), .bool (y 2)]
def edgeR (k : Nat) : RV := .agg [sI k, sI (k + 1), sI (k + 2), sI (k + 3)]
def earR (k : Nat) : RV := .agg [sI k, sI (k + 1), sI (k + 2), sI (k + 3), sI (k + 4), sI (k + 5), sI (k + 6), sI (k + 7), sI (k + 8), sB k, sB (k + 1), sB (k + 2)]
def sh {α : Type} (k : Nat) (x : Nat → α) : Nat → α := fun i => x (k + i)
def pc (x : Nat → Int) : Nat → Nat
  | 0 => 0
  | i + 1 => cls (x i)
def sndI (s : Nat) (x : Nat → Int) (i : Nat) : Int := if badC s i (pc x i) (cls (x i)) then 0 else x i
theorem keep_cv [Val] (b : Bool) (i : Nat) : cv (keep b i) = .int .i64 (if b then 0 else Val.I i) := by
  cases b <;> rfl
theorem sound_ans (s : Nat) (hs : s = 3 ∨ s = 4) (x : Nat → Int) : Ans fSound [edgeF x, .int .i64 s] (edgeF (sndI s x)) := by
  have h : soundRun s (cls (x 0)) (cls (x 1)) (cls (x 2)) (cls (x 3)) = true := by
    rcases hs with rfl | rfl
    · exact allB_lt (allB_lt (allB_lt (allB_lt snd3 _ (cls_lt (x 0))) _ (cls_lt (x 1))) _ (cls_lt (x 2))) _ (cls_lt (x 3))
    · exact allB_lt (allB_lt (allB_lt (allB_lt snd4 _ (cls_lt (x 0))) _ (cls_lt (x 1))) _ (cls_lt (x 2))) _ (cls_lt (x 3))
  have := @ans (VE x fun _ => false) noX _ [] noX_true (by
    intro e he
    simp only [List.mem_append] at he
    rcases he with he | he | he | he
    · exact @entC_true (VE x fun _ => false) 0 e he
    · exact @entC_true (VE x fun _ => false) 1 e he
    · exact @entC_true (VE x fun _ => false) 2 e he
    · exact @entC_true (VE x fun _ => false) 3 e he) (by intro e he; cases he) _ _ _ _ _ h
  have e : @cvF (VE x fun _ => false) (.agg [keep (badC s 0 0 (cls (x 0))) 0, keep (badC s 1 (cls (x 0)) (cls (x 1))) 1, keep (badC s 2 (cls (x 1)) (cls (x 2))) 2, keep (badC s 3 (cls (x 2)) (cls (x 3))) 3]) = edgeF (sndI s x) := by
    show Value.agg _ = Value.agg _
    simp only [List.map_cons, List.map_nil, keep_cv]
    rfl
  rw [e] at this
  exact this

/-- An edge that its classes allow: this program's way of telling. -/
def okC (s c0 c1 c2 c3 : Nat) : Bool := (Nat.beq c0 0 || !badC s 0 0 c0) && (Nat.beq c1 0 || !badC s 1 c0 c1) && (Nat.beq c2 0 || !badC s 2 c1 c2) && (Nat.beq c3 0 || !badC s 3 c2 c3)
theorem snd_eq (s : Nat) (x : Nat → Int) (i : Nat) : (x i == sndI s x i) = (Nat.beq (cls (x i)) 0 || !badC s i (pc x i) (cls (x i))) := by
  unfold sndI
  rw [cls0]
  cases badC s i (pc x i) (cls (x i)) <;> simp
end Go.Proofs.Z

namespace Go.Proofs.Z
open Go Go.RowKit Go.Proofs Go.Ri
/-! The first place at which two rows differ. -/
def fd (p : Nat → Bool) : Nat → Nat → Nat
  | i, 0 => i
  | i, n + 1 => if p i then fd p (i + 1) n else i
theorem fd_spec (p : Nat → Bool) : ∀ n i, (∀ j, i ≤ j → j < fd p i n → p j = true) ∧ (fd p i n < i + n → p (fd p i n) = false) ∧ i ≤ fd p i n ∧ fd p i n ≤ i + n
  | 0, i => ⟨fun j h1 h2 => by have h2 : j < i := h2; omega, fun h => by have h : i < i + 0 := h; omega, Nat.le_refl _, Nat.le_refl _⟩
  | n + 1, i => by
    obtain ⟨h1, h2, h3, h4⟩ := fd_spec p n (i + 1)
    by_cases hp : p i = true
    · have e : fd p i (n + 1) = fd p (i + 1) n := by show (if p i then _ else _) = _; rw [if_pos hp]
      rw [e]
      refine ⟨fun j hj hj2 => ?_, fun h => h2 (by omega), by omega, by omega⟩
      rcases Nat.eq_or_lt_of_le hj with rfl | hlt
      · exact hp
      · exact h1 j hlt hj2
    · have e : fd p i (n + 1) = i := by show (if p i then _ else _) = _; rw [if_neg hp]
      rw [e]
      exact ⟨fun j hj hj2 => by omega, fun _ => by simpa using hp, Nat.le_refl _, by omega⟩
theorem blt_self (j : Nat) : Nat.blt j j = false := by
  cases h : Nat.blt j j with
  | false => rfl
  | true => have := Nat.le_of_ble_eq_true h; omega
theorem beq_ne {i j : Nat} (h : i ≠ j) : Nat.beq i j = false := by
  cases h2 : Nat.beq i j with
  | false => rfl
  | true => exact absurd (Nat.eq_of_beq_eq_true h2) h
/-- What is known of two rows of names that differ first at m. -/
def eqs (k k' n m : Nat) : List TE := (List.range (Nat.min (m + 1) n)).map fun j => ⟨.ieq, sI (k + j), sI (k' + j), bR (Nat.blt j m)⟩
theorem eqs_true [Val] (k k' n : Nat) : ∀ e ∈ eqs k k' n (fd (fun j => Val.I (k + j) == Val.I (k' + j)) 0 n), TETrue e := by
  intro e he
  obtain ⟨j, hj, rfl⟩ := List.mem_map.1 he
  obtain ⟨h1, h2, h3, h4⟩ := fd_spec (fun j => Val.I (k + j) == Val.I (k' + j)) n 0
  generalize fd (fun j => Val.I (k + j) == Val.I (k' + j)) 0 n = m at *
  have hj := List.mem_range.1 hj
  have hj1 : j < m + 1 := Nat.lt_of_lt_of_le hj (Nat.min_le_left _ _)
  have hj2 : j < n := Nat.lt_of_lt_of_le hj (Nat.min_le_right _ _)
  have e : Nat.blt j m = (Val.I (k + j) == Val.I (k' + j)) := by
    by_cases hlt : j < m
    · rw [h1 j (Nat.zero_le _) hlt]
      exact Nat.ble_eq_true_of_le hlt
    · obtain rfl : j = m := by omega
      rw [h2 (by omega)]
      exact blt_self j
  exact ⟨rfl, by rw [e]; exact t_ieq .i64 (Val.I (k + j)) (Val.I (k' + j))⟩
theorem fd_all (p : Nat → Bool) : ∀ n i, Nat.beq (fd p i n) (i + n) = ((List.range n).all fun j => p (i + j))
  | 0, i => by show Nat.beq i (i + 0) = true; simp
  | n + 1, i => by
    rw [List.range_succ_eq_map, List.all_cons, List.all_map]
    by_cases hp : p i = true
    · have e : fd p i (n + 1) = fd p (i + 1) n := by show (if p i then _ else _) = _; rw [if_pos hp]
      have := fd_all p n (i + 1)
      rw [e, show i + (n + 1) = i + 1 + n by omega, this]
      simp only [Nat.add_zero, hp, Bool.true_and]
      congr 1
      funext j
      show p (i + 1 + j) = p (i + (j + 1))
      rw [show i + 1 + j = i + (j + 1) by omega]
    · have e : fd p i (n + 1) = i := by show (if p i then _ else _) = _; rw [if_neg hp]
      rw [e]
      have : p (i + 0) = false := by simpa using hp
      rw [this, beq_ne (by omega)]
      simp

/-! The tip's class: 0: it takes nothing away; 1: hollowed; 2: cropped; 3: below; 4: above. -/
def tcl (t : Int) : Nat := if t < 0 then 3 else if t > 4 then 4 else if t = 3 then 1 else if t = 4 then 2 else 0
def entT (i c : Nat) : List TE := [⟨.bin .lss, sI i, lI 0, bR (Nat.beq c 3)⟩, ⟨.bin .gtr, sI i, lI 4, bR (Nat.beq c 4)⟩, ⟨.ieq, sI i, lI 3, bR (Nat.beq c 1)⟩, ⟨.ieq, sI i, lI 4, bR (Nat.beq c 2)⟩]
theorem tcl_spec (t : Int) : tcl t < 5 ∧ Nat.beq (tcl t) 3 = decide (t < 0) ∧ Nat.beq (tcl t) 4 = decide (t > 4) ∧ Nat.beq (tcl t) 1 = (t == 3) ∧ Nat.beq (tcl t) 2 = (t == 4) := by
  unfold tcl
  by_cases h : t < 0
  · rw [if_pos h]
    refine ⟨by omega, by rw [decide_eq_true h]; rfl, by rw [decide_eq_false (by omega)]; rfl, ?_, ?_⟩
    · have : (t == 3) = false := by simp; omega
      rw [this]; rfl
    · have : (t == 4) = false := by simp; omega
      rw [this]; rfl
  · rw [if_neg h]
    by_cases h2 : t > 4
    · rw [if_pos h2]
      refine ⟨by omega, by rw [decide_eq_false (by omega)]; rfl, by rw [decide_eq_true h2]; rfl, ?_, ?_⟩
      · have : (t == 3) = false := by simp; omega
        rw [this]; rfl
      · have : (t == 4) = false := by simp; omega
        rw [this]; rfl
    · rw [if_neg h2, decide_eq_false (by omega), decide_eq_false (by omega)]
      by_cases h3 : t = 3
      · subst h3; exact ⟨by decide, rfl, rfl, rfl, rfl⟩
      · rw [if_neg h3]
        by_cases h4 : t = 4
        · subst h4; exact ⟨by decide, rfl, rfl, rfl, rfl⟩
        · rw [if_neg h4]
          have e3 : (t == 3) = false := by simpa using h3
          have e4 : (t == 4) = false := by simpa using h4
          rw [e3, e4]
          exact ⟨by decide, rfl, rfl, rfl, rfl⟩
theorem entT_true [Val] (i : Nat) : ∀ e ∈ entT i (tcl (Val.I i)), TETrue e := by
  intro e he
  obtain ⟨_, h1, h2, h3, h4⟩ := tcl_spec (Val.I i)
  simp only [entT, List.mem_cons, List.not_mem_nil, or_false] at he
  rcases he with rfl | rfl | rfl | rfl
  · exact ⟨rfl, by rw [h1]; exact t_lss .i64 (Val.I i) 0⟩
  · exact ⟨rfl, by rw [h2]; exact t_gtr .i64 (Val.I i) 4⟩
  · exact ⟨rfl, by rw [h3]; exact t_ieq .i64 (Val.I i) 3⟩
  · exact ⟨rfl, by rw [h4]; exact t_ieq .i64 (Val.I i) 4⟩
def slotsOf (c : Nat) : Nat := if Nat.beq c 1 || Nat.beq c 2 then 3 else 4
noncomputable def all5 (f : Nat → Bool) : Bool := match allB f with
  | true => f 4
  | false => false
theorem all5_lt {f : Nat → Bool} (h : all5 f = true) (c : Nat) (hc : c < 5) : f c = true := by
  unfold all5 at h
  split at h
  · rename_i hb
    by_cases h4 : c = 4
    · subst h4; exact h
    · exact allB_lt hb c (by omega)
  · cases h
def tipOK (c : Nat) : Bool := !(Nat.beq c 3) && !(Nat.beq c 4)
noncomputable def chkRun (tc mu ml : Nat) : Bool := runOK noX (entT 0 tc ++ (eqs 1 30 4 mu ++ eqs 5 40 4 ml)) [⟨fSound, [edgeR 1, lI (slotsOf tc)], edgeR 30⟩, ⟨fSound, [edgeR 5, lI (slotsOf tc)], edgeR 40⟩] 1000 10 fCheck [earR 0]
  (lI (if tipOK tc && (Nat.beq mu 4 && Nat.beq ml 4) then 0 else 10))
set_option maxRecDepth 100000 in
theorem chk_run : (all5 fun tc => all5 fun mu => all5 fun ml => chkRun tc mu ml) = true := by kernel_rfl
end Go.Proofs.Z

namespace Go.Proofs.Z
open Go Go.RowKit Go.Proofs Go.Ri
/-! What Check answers. -/
def edgeB (s : Nat) (x : Nat → Int) : Bool := okC s (cls (x 0)) (cls (x 1)) (cls (x 2)) (cls (x 3))
def valB (x : Nat → Int) : Bool := tipOK (tcl (x 0)) && (edgeB (slotsOf (tcl (x 0))) (sh 1 x) && edgeB (slotsOf (tcl (x 0))) (sh 5 x))
theorem slots34 (c : Nat) : slotsOf c = 3 ∨ slotsOf c = 4 := by
  unfold slotsOf
  split
  · exact .inl rfl
  · exact .inr rfl
theorem snd_all (s : Nat) (x : Nat → Int) : Nat.beq (fd (fun j => x j == sndI s x j) 0 4) 4 = edgeB s x := by
  have := fd_all (fun j => x j == sndI s x j) 4 0
  simp only [Nat.zero_add] at this
  rw [this]
  have e : List.range 4 = [0, 1, 2, 3] := rfl
  simp only [e, List.all_cons, List.all_nil, Bool.and_true, snd_eq]
  unfold edgeB okC
  rw [Bool.and_assoc, Bool.and_assoc]
  rfl
theorem chk_ans (x : Nat → Int) (y : Nat → Bool) : Ans fCheck [earF x y] (intV (if valB x then 0 else 10)) := by
  let s := slotsOf (tcl (x 0))
  let X : Nat → Int := fun i => if i < 30 then x i else if i < 40 then sndI s (sh 1 x) (i - 30) else sndI s (sh 5 x) (i - 40)
  let V := VE X y
  let mu := fd (fun j => sh 1 x j == sndI s (sh 1 x) j) 0 4
  let ml := fd (fun j => sh 5 x j == sndI s (sh 5 x) j) 0 4
  have hmu := fd_spec (fun j => sh 1 x j == sndI s (sh 1 x) j) 4 0
  have hml := fd_spec (fun j => sh 5 x j == sndI s (sh 5 x) j) 4 0
  have h : chkRun (tcl (x 0)) mu ml = true := all5_lt (all5_lt (all5_lt chk_run _ (tcl_spec (x 0)).1) mu (by have := hmu.2.2.2; show fd _ 0 4 < 5; omega)) ml (by have := hml.2.2.2; show fd _ 0 4 < 5; omega)
  have hT : ∀ e ∈ entT 0 (tcl (x 0)) ++ (eqs 1 30 4 mu ++ eqs 5 40 4 ml), @TETrue V e := by
    intro e he
    simp only [List.mem_append] at he
    rcases he with he | he | he
    · exact @entT_true V 0 e he
    · exact @eqs_true V 1 30 4 e he
    · exact @eqs_true V 5 40 4 e he
  have hY : ∀ e ∈ ([⟨fSound, [edgeR 1, lI (slotsOf (tcl (x 0)))], edgeR 30⟩, ⟨fSound, [edgeR 5, lI (slotsOf (tcl (x 0)))], edgeR 40⟩] : List YE), Ans e.f (e.a.map (@cvF V)) (@cvF V e.r) := by
    intro e he
    simp only [List.mem_cons, List.not_mem_nil, or_false] at he
    rcases he with rfl | rfl
    · exact sound_ans s (slots34 _) (sh 1 x)
    · exact sound_ans s (slots34 _) (sh 5 x)
  have r := @ans V noX _ _ noX_true hT hY _ _ _ _ _ h
  have e : (if tipOK (tcl (x 0)) && (Nat.beq mu 4 && Nat.beq ml 4) then (0 : Int) else 10) = if valB x then 0 else 10 := by
    show (if tipOK (tcl (x 0)) && (Nat.beq (fd (fun j => sh 1 x j == sndI s (sh 1 x) j) 0 4) 4 && Nat.beq (fd (fun j => sh 5 x j == sndI s (sh 5 x) j) 0 4) 4) then (0 : Int) else 10) = _
    rw [snd_all, snd_all]
    rfl
  rw [e] at r
  exact r
end Go.Proofs.Z
