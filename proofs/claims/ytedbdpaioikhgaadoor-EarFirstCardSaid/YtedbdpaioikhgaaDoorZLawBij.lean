/- A part of the proofs that the laws of layer one answer true for every input. -/
import Derived.Test.YtedbdpaioikhgaaDoorZSane
import Derived.Test.YtedbdpaioikhgaaDoorZCodes5
namespace Go.Proofs.Z
open Go Go.RowKit Go.Proofs Go.Ri
theorem saneX_true : XTrue saneX := by
  intro f vs v h
  unfold saneX at h
  split at h
  · split at h
    · rename_i hf
      obtain rfl := Nat.eq_of_beq_eq_true hf
      cases h
      exact sane_ans
    · cases h
  · cases h
/-! n: sI 80; k: sI 81; the ear e: 0; from n: 20; from k: 40; from e's code: 0; the next one: 60. -/
def bTs (n : Nat) : List TE := match n with
  | 0 => [⟨.bin .geq, sI 80, lI 0, bR false⟩, ⟨.bin .lss, sI 80, lI 44176, bR true⟩]
  | 1 => [⟨.bin .geq, sI 80, lI 0, bR true⟩, ⟨.bin .lss, sI 80, lI 44176, bR false⟩]
  | 2 => [⟨.bin .geq, sI 80, lI 0, bR true⟩, ⟨.bin .lss, sI 80, lI 44176, bR true⟩, ⟨.bin .lss, sI 80, lI 44175, bR true⟩, ⟨.bin .add, sI 80, lI 1, sI 83⟩]
  | _ => [⟨.bin .geq, sI 80, lI 0, bR true⟩, ⟨.bin .lss, sI 80, lI 44176, bR true⟩, ⟨.bin .lss, sI 80, lI 44175, bR false⟩]
def bFrom (r : RV) (k : Nat) (b : Bool) : YE := if b then ⟨fFromCode, [r], .tup [earR k, lI 0]⟩ else ⟨fFromCode, [r], .tup [zeroR, lI 1]⟩
def bE (b : Bool) : List YE := if b then [⟨fCode, [earR 0], .tup [sI 82, lI 0]⟩, ⟨fFromCode, [sI 82], .tup [earR 0, lI 0]⟩, ⟨fCheck, [earR 0], lI 0⟩] else [⟨fCode, [earR 0], .tup [lI 0, lI 10]⟩, ⟨fCheck, [earR 0], lI 10⟩]
def bN (n : Nat) : List YE := match n with
  | 0 => []
  | 1 => []
  | 2 => [⟨fCode, [earR 20], .tup [sI 80, lI 0]⟩, ⟨fNext, [earR 20], .tup [earR 60, bR true, lI 0]⟩, ⟨fCheck, [earR 20], lI 0⟩, ⟨fCode, [earR 60], .tup [sI 83, lI 0]⟩, ⟨fCompare, [earR 20, earR 60], lI (-1)⟩]
  | _ => [⟨fCode, [earR 20], .tup [sI 80, lI 0]⟩, ⟨fNext, [earR 20], .tup [earR 60, bR false, lI 0]⟩, ⟨fCheck, [earR 20], lI 0⟩]
def bS (c : Nat) : List TE := [⟨.bin .lss, sI 80, sI 81, bR (Nat.beq c 0)⟩, ⟨.ieq, sI 80, sI 81, bR (Nat.beq c 1)⟩, ⟨.bin .gtr, sI 80, sI 81, bR (Nat.beq c 2)⟩]
def bC (n : Nat) (k : Bool) (c : Nat) : List YE := if Nat.ble 2 n && k then [⟨fCompare, [earR 20, earR 40], lI (sgn c)⟩] else []
noncomputable def bRun (n : Nat) (k e : Bool) (c : Nat) : Bool := runOK saneX (bTs n ++ bS c) (bFrom (sI 80) 20 (Nat.ble 2 n) :: bFrom (sI 81) 40 k :: (bE e ++ (bN n ++ bC n k c))) 1000 20 fBijection [sI 80, sI 81, earR 0] (bR true)
set_option maxRecDepth 100000 in
theorem b_run : (allB fun n => all2 fun k => all2 fun e => all3 fun c => bRun n k e c) = true := by kernel_rfl
theorem scl_facts (a b : Int) : Nat.beq (scl a b) 0 = decide (a < b) ∧ Nat.beq (scl a b) 1 = (a == b) ∧ Nat.beq (scl a b) 2 = decide (a > b) := by
  unfold scl
  by_cases h : a < b
  · rw [if_pos h, decide_eq_true h, decide_eq_false (by omega)]
    have : (a == b) = false := by simp; omega
    rw [this]; exact ⟨rfl, rfl, rfl⟩
  · rw [if_neg h, decide_eq_false h]
    by_cases h2 : a > b
    · rw [if_pos h2, decide_eq_true h2]
      have : (a == b) = false := by simp; omega
      rw [this]; exact ⟨rfl, rfl, rfl⟩
    · rw [if_neg h2, decide_eq_false h2]
      have : (a == b) = true := by simp; omega
      rw [this]; exact ⟨rfl, rfl, rfl⟩
def ncl (n : Int) : Nat := if n < 0 then 0 else if n ≥ 44176 then 1 else if n < 44175 then 2 else 3
theorem bij_ans (n k : Int) (x : Nat → Int) (y : Nat → Bool) : Ans fBijection [intV n, intV k, earF x y] (.bool true) := by
  obtain ⟨ce, E1, E2⟩ : ∃ ce : Int, (valB x = true → Ans fCode [earF x y] (.tuple #[intV ce, intV 0]) ∧ Ans fFromCode [intV ce] (.tuple #[earF x y, intV 0]) ∧ Ans fCheck [earF x y] (intV 0)) ∧
      (valB x = false → Ans fCode [earF x y] (.tuple #[intV 0, intV 10]) ∧ Ans fCheck [earF x y] (intV 10)) := by
    cases hv : valB x with
    | true =>
      obtain ⟨q, hq, he⟩ := val_Q x y hv
      refine ⟨(q.code : Nat), fun _ => ?_, fun h => by cases h⟩
      rw [he]
      exact ⟨code_ans hq, from_ans hq, Q.chk hq⟩
    | false =>
      refine ⟨0, (fun h => by cases h), fun _ => ⟨code_no_ans x y hv, ?_⟩⟩
      have := chk_ans x y
      rw [hv, if_neg (by simp)] at this
      exact this
  have num : ∀ n : Int, 0 ≤ n → n < 44176 → ∃ q : Q, q.ok ∧ (q.code : Nat) = n := fun n h0 h1 => by
    obtain ⟨q, hq, hc⟩ := num_Q n.toNat (by omega)
    exact ⟨q, hq, by omega⟩
  obtain ⟨qk, K1, K2⟩ : ∃ qk : Q, (decide (0 ≤ k ∧ k < 44176) = true → qk.ok ∧ (qk.code : Nat) = k) ∧ (decide (0 ≤ k ∧ k < 44176) = false → Ans fFromCode [intV k] (.tuple #[earF zeroX zeroY, intV 1])) := by
    by_cases h : 0 ≤ k ∧ k < 44176
    · obtain ⟨q, hq, hc⟩ := num k h.1 h.2
      exact ⟨q, fun _ => ⟨hq, hc⟩, fun h2 => absurd h (by simpa using h2)⟩
    · exact ⟨⟨0, 0, 0, 0⟩, fun h2 => absurd (by simpa using h2) h, fun _ => from_no_ans k (by omega)⟩
  obtain ⟨qn, N1⟩ : ∃ qn : Q, 0 ≤ n → n < 44176 → qn.ok ∧ (qn.code : Nat) = n := by
    by_cases h : 0 ≤ n ∧ n < 44176
    · obtain ⟨q, hq, hc⟩ := num n h.1 h.2
      exact ⟨q, fun _ _ => ⟨hq, hc⟩⟩
    · exact ⟨⟨0, 0, 0, 0⟩, fun h1 h2 => absurd ⟨h1, h2⟩ h⟩
  obtain ⟨qm, M1⟩ : ∃ qm : Q, 0 ≤ n → n < 44175 → qm.ok ∧ (qm.code : Nat) = n + 1 := by
    by_cases h : 0 ≤ n ∧ n < 44175
    · obtain ⟨q, hq, hc⟩ := num (n + 1) (by omega) (by omega)
      exact ⟨q, fun _ _ => ⟨hq, hc⟩⟩
    · exact ⟨⟨0, 0, 0, 0⟩, fun h1 h2 => absurd ⟨h1, h2⟩ h⟩
  let mx : Nat → Int := if n < 44175 then qm.X else zeroX
  let my : Nat → Bool := if n < 44175 then qm.Y else zeroY
  let V := VE (four x qn.X qk.X mx fun i => if i = 0 then n else if i = 1 then k else if i = 2 then ce else n + 1) (four y qn.Y qk.Y my fun _ => false)
  have hncl : ncl n < 4 := by
    unfold ncl
    split
    · omega
    · split
      · omega
      · split <;> omega
  have hr := all3_lt (all2_all (all2_all (allB_lt b_run (ncl n) hncl) (decide (0 ≤ k ∧ k < 44176))) (valB x)) (scl n k) (scl_lt n k)
  have hS : ∀ e ∈ bS (scl n k), @TETrue V e := by
    obtain ⟨s0, s1, s2⟩ := scl_facts n k
    intro e he
    simp only [bS, List.mem_cons, List.not_mem_nil, or_false] at he
    rcases he with rfl | rfl | rfl
    · exact @tc_lss V _ _ n k rfl rfl _ s0
    · exact @te_ieq V _ _ n k rfl rfl _ s1
    · exact @te_gtr V _ _ n k rfl rfl _ s2
  have hK : Ans (bFrom (sI 81) 40 (decide (0 ≤ k ∧ k < 44176))).f ((bFrom (sI 81) 40 (decide (0 ≤ k ∧ k < 44176))).a.map (@cvF V)) (@cvF V (bFrom (sI 81) 40 (decide (0 ≤ k ∧ k < 44176))).r) := by
    cases hk : decide (0 ≤ k ∧ k < 44176) with
    | true =>
      obtain ⟨o, c⟩ := K1 hk
      have := from_ans o
      rw [c] at this
      exact this
    | false => exact K2 hk
  have hE : ∀ e ∈ bE (valB x), Ans e.f (e.a.map (@cvF V)) (@cvF V e.r) := by
    intro e he
    cases hv : valB x with
    | true =>
      rw [hv] at he
      obtain ⟨a1, a2, a3⟩ := E1 hv
      simp only [bE, if_true, List.mem_cons, List.not_mem_nil, or_false] at he
      rcases he with rfl | rfl | rfl
      · exact a1
      · exact a2
      · exact a3
    | false =>
      rw [hv] at he
      obtain ⟨a1, a2⟩ := E2 hv
      simp only [bE, Bool.false_eq_true, if_false, List.mem_cons, List.not_mem_nil, or_false] at he
      rcases he with rfl | rfl
      · exact a1
      · exact a2
  have hC : 0 ≤ n → n < 44176 → ∀ m, Nat.ble 2 m = true → ∀ e ∈ bC m (decide (0 ≤ k ∧ k < 44176)) (scl n k), Ans e.f (e.a.map (@cvF V)) (@cvF V e.r) := by
    intro n0 n1 m hm e he
    obtain ⟨o, c⟩ := N1 n0 n1
    cases hk : decide (0 ≤ k ∧ k < 44176) with
    | true =>
      rw [hk] at he
      obtain ⟨o', c'⟩ := K1 hk
      unfold bC at he
      rw [hm] at he
      simp only [Bool.and_self, if_true, List.mem_cons, List.not_mem_nil, or_false] at he
      rcases he with rfl
      have := cmp_ans qn.X qk.X qn.Y qk.Y
      rw [Q.cmp o o', c, c', ← sgn_scl] at this
      exact this
    | false =>
      rw [hk] at he
      unfold bC at he
      rw [hm] at he
      cases he
  have fin : ∀ m, ncl n = m → (∀ e ∈ bTs m, @TETrue V e) → (Ans (bFrom (sI 80) 20 (Nat.ble 2 m)).f ((bFrom (sI 80) 20 (Nat.ble 2 m)).a.map (@cvF V)) (@cvF V (bFrom (sI 80) 20 (Nat.ble 2 m)).r)) → (∀ e ∈ bN m, Ans e.f (e.a.map (@cvF V)) (@cvF V e.r)) →
      (∀ e ∈ bC m (decide (0 ≤ k ∧ k < 44176)) (scl n k), Ans e.f (e.a.map (@cvF V)) (@cvF V e.r)) → Ans fBijection [intV n, intV k, earF x y] (.bool true) := by
    intro m hm h1 h2 h3 h4
    rw [hm] at hr
    exact @ans V saneX _ _ saneX_true (by
      intro e he
      simp only [List.mem_append] at he
      rcases he with he | he
      · exact h1 e he
      · exact hS e he) (by
      intro e he
      simp only [List.mem_cons, List.mem_append] at he
      rcases he with rfl | rfl | he | he | he
      · exact h2
      · exact hK
      · exact hE e he
      · exact h3 e he
      · exact h4 e he) _ _ _ _ _ hr
  by_cases c0 : n < 0
  · refine fin 0 (by unfold ncl; rw [if_pos c0]) ?_ (from_no_ans n (.inl c0)) (by intro e he; cases he) (by intro e he; cases he)
    intro e he
    simp only [bTs, List.mem_cons, List.not_mem_nil, or_false] at he
    rcases he with rfl | rfl
    · exact @te_geq V _ _ n 0 rfl rfl _ (by symm; simp; omega)
    · exact @tc_lss V _ _ n 44176 rfl rfl _ (by symm; simp; omega)
  · by_cases c1 : n ≥ 44176
    · refine fin 1 (by unfold ncl; rw [if_neg c0, if_pos c1]) ?_ (from_no_ans n (.inr c1)) (by intro e he; cases he) (by intro e he; cases he)
      intro e he
      simp only [bTs, List.mem_cons, List.not_mem_nil, or_false] at he
      rcases he with rfl | rfl
      · exact @te_geq V _ _ n 0 rfl rfl _ (by symm; simp; omega)
      · exact @tc_lss V _ _ n 44176 rfl rfl _ (by symm; simp; omega)
    · obtain ⟨o, c⟩ := N1 (by omega) (by omega)
      have f1 := from_ans o
      rw [c] at f1
      have f2 := code_ans o
      rw [c] at f2
      by_cases c2 : n < 44175
      · obtain ⟨o', c'⟩ := M1 (by omega) c2
        have emx : mx = qm.X := if_pos c2
        have emy : my = qm.Y := if_pos c2
        have f3 := from_ans o'
        have ecc : ((qn.code + 1 : Nat) : Int) = (qm.code : Nat) := by omega
        have f4 := next_of o true qm.X qm.Y (by rw [ecc]; exact f3)
        have f5 := code_ans o'
        rw [c'] at f5
        have f6 := cmp_ans qn.X qm.X qn.Y qm.Y
        rw [Q.cmp o o', cmpI_lt (by omega)] at f6
        refine fin 2 (by unfold ncl; rw [if_neg c0, if_neg c1, if_pos c2]) ?_ f1 ?_ (hC (by omega) (by omega) 2 rfl)
        · intro e he
          simp only [bTs, List.mem_cons, List.not_mem_nil, or_false] at he
          rcases he with rfl | rfl | rfl | rfl
          · exact @te_geq V _ _ n 0 rfl rfl _ (by symm; simp; omega)
          · exact @tc_lss V _ _ n 44176 rfl rfl _ (by symm; simp; omega)
          · exact @tc_lss V _ _ n 44175 rfl rfl _ (by symm; simp; omega)
          · exact @te_add V _ _ _ n 1 (n + 1) rfl rfl rfl rfl rfl (by unfold inI; omega)
        · intro e he
          simp only [bN, List.mem_cons, List.not_mem_nil, or_false] at he
          have g4 : Ans fNext [qn.ear] (.tuple #[earF mx my, .bool true, intV 0]) := by rw [emx, emy]; exact f4
          have g5 : Ans fCode [earF mx my] (.tuple #[intV (n + 1), intV 0]) := by rw [emx, emy]; exact f5
          have g6 : Ans fCompare [earF qn.X qn.Y, earF mx my] (intV (-1)) := by rw [emx, emy]; exact f6
          rcases he with rfl | rfl | rfl | rfl | rfl
          · exact f2
          · exact g4
          · exact Q.chk o
          · exact g5
          · exact g6
      · have emx : mx = zeroX := if_neg c2
        have emy : my = zeroY := if_neg c2
        have f4 := next_of o false zeroX zeroY (from_no_ans _ (by omega))
        refine fin 3 (by unfold ncl; rw [if_neg c0, if_neg c1, if_neg c2]) ?_ f1 ?_ (hC (by omega) (by omega) 3 rfl)
        · intro e he
          simp only [bTs, List.mem_cons, List.not_mem_nil, or_false] at he
          rcases he with rfl | rfl | rfl
          · exact @te_geq V _ _ n 0 rfl rfl _ (by symm; simp; omega)
          · exact @tc_lss V _ _ n 44176 rfl rfl _ (by symm; simp; omega)
          · exact @tc_lss V _ _ n 44175 rfl rfl _ (by symm; simp; omega)
        · intro e he
          simp only [bN, List.mem_cons, List.not_mem_nil, or_false] at he
          have g4 : Ans fNext [qn.ear] (.tuple #[earF mx my, .bool false, intV 0]) := by rw [emx, emy]; exact f4
          rcases he with rfl | rfl | rfl
          · exact f2
          · exact g4
          · exact Q.chk o
end Go.Proofs.Z
