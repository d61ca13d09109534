/- A part of the proofs that the laws of layer one answer true for every input. -/
import Derived.Test.YtedbdpaioikhgaaGreatDoorZRCodes3
namespace Go.Proofs.Z
open Go Go.RowKit Go.Proofs Go.Ri
theorem te_inb [Val] {a b : RV} {k k' : IntKind} {m n : Int} (ha : cv a = .int k m) (hb : cv b = .int k' n) (h : 0 ≤ m ∧ m < n) : TETrue ⟨.inb, a, b, bR true⟩ := by
  refine ⟨rfl, k, k', m, n, ha, hb, ?_⟩
  show Value.bool true = .bool _
  rw [decide_eq_true h]
theorem beq_one (x : Nat) : Nat.beq x 1 = ((x : Int) == 1) := by
  by_cases h : x = 1
  · subst h; rfl
  · rw [beq_ne h]
    symm
    simp
    omega
theorem rfrom_ans {q : Q} (h : q.ok) : Ans fRFromCode [intV q.code] (.tuple #[q.ear, intV 0]) := by
  have hb := Q.bound h
  obtain ⟨q1, q2, q3, q4⟩ := h
  obtain ⟨f1, f2, f3, _⟩ := base_facts q.t q1
  have bN := numT_two q.t
  obtain ⟨m, hm⟩ : ∃ m, m = (q.u * numT q.t + q.l) * 8 + q.h := ⟨_, rfl⟩
  have hcode : q.code = baseT q.t + m := by rw [hm]; unfold Q.code; omega
  let W : Nat → Int := fun i => if i < 9 then q.X i else if i < 70 then ((q.code - baseT (i - 60) : Nat) : Int) else if i = 70 then ((m / 8 : Nat) : Int) else if i = 71 then (q.u : Nat) else if i = 72 then (q.l : Nat) else if i = 74 then ((m / 4 : Nat) : Int) else if i = 75 then ((m / 4 % 2 : Nat) : Int)
    else if i = 76 then ((m / 2 : Nat) : Int) else if i = 77 then ((m / 2 % 2 : Nat) : Int) else ((m % 2 : Nat) : Int)
  let V := VE W q.Y
  have w60 : ∀ j, j ≤ 5 → @cv V (sI (60 + j)) = .int .i64 ((q.code - baseT j : Nat) : Int) := fun j hj => by
    show Value.int .i64 (W (60 + j)) = _
    have : W (60 + j) = ((q.code - baseT j : Nat) : Int) := by
      show (if 60 + j < 9 then _ else if 60 + j < 70 then ((q.code - baseT (60 + j - 60) : Nat) : Int) else _) = _
      rw [if_neg (by omega), if_pos (by omega), show 60 + j - 60 = j by omega]
    rw [this]
  have hme : q.code - baseT q.t = m := by omega
  have hbase0 : baseT 0 = 0 := rfl
  have hmb : m < 20000 := by
    have e := bN
    generalize numT q.t = N at *
    rcases e with rfl | rfl <;> omega
  have m1 : m / 8 = q.u * numT q.t + q.l := by omega
  have m2 : (m / 8) / numT q.t = q.u := by
    rw [m1]
    have e := bN
    generalize numT q.t = N at *
    rcases e with rfl | rfl <;> omega
  have m3 : (m / 8) % numT q.t = q.l := by
    rw [m1]
    have e := bN
    generalize numT q.t = N at *
    rcases e with rfl | rfl <;> omega
  have m4 : m % 8 = q.h := by omega
  have h0 : hBit q.h 0 = Nat.beq (m / 4 % 2) 1 := by
    show Nat.beq (q.h / 4 % 2) 1 = _
    rw [show q.h / 4 % 2 = m / 4 % 2 by omega]
  have h1 : hBit q.h 1 = Nat.beq (m / 2 % 2) 1 := by
    show Nat.beq (q.h / 2 % 2) 1 = _
    rw [show q.h / 2 % 2 = m / 2 % 2 by omega]
  have h2 : hBit q.h 2 = Nat.beq (m % 2) 1 := by
    show Nat.beq (q.h / 1 % 2) 1 = _
    rw [show q.h / 1 % 2 = m % 2 by omega]
  have hT : ∀ e ∈ rfTs q.t (hBit q.h 0) (hBit q.h 1) (hBit q.h 2) ++ (subTs q.t ++ subTs2 q.t), @TETrue V e := by
    intro e he
    simp only [List.mem_append] at he
    rcases he with he | he | he
    · simp only [rfTs, List.mem_cons, List.not_mem_nil, or_false] at he
      rcases he with rfl | rfl | rfl | rfl | rfl | rfl | rfl | rfl | rfl | rfl | rfl | rfl | rfl | rfl | rfl
      · exact @te_lss V _ _ _ _ (w60 0 (by omega)) rfl _ (by symm; simp)
      · exact @te_geq V _ _ _ _ (w60 0 (by omega)) rfl _ (by symm; rw [hbase0]; simp; omega)
      · exact @te_quo V _ _ _ _ _ ((m / 8 : Nat) : Int) (w60 q.t (by omega)) rfl rfl rfl (by omega) (by omega) (by rw [hme]; simp) (by unfold inI; omega)
      · exact @te_quo V _ _ _ ((m / 8 : Nat) : Int) ((numT q.t : Nat) : Int) ((q.u : Nat) : Int) rfl rfl rfl rfl (by omega) (by omega) (by rw [← m2]; simp) (by unfold inI; omega)
      · exact @te_rem V _ _ _ ((m / 8 : Nat) : Int) ((numT q.t : Nat) : Int) ((q.l : Nat) : Int) rfl rfl rfl rfl (by omega) (by omega) (by rw [← m3]; simp)
      · exact @te_inb V _ _ .i64 .i64 ((q.u : Nat) : Int) ((numT q.t : Nat) : Int) rfl rfl (by omega)
      · exact @te_inb V _ _ .i64 .i64 ((q.l : Nat) : Int) ((numT q.t : Nat) : Int) rfl rfl (by omega)
      · exact @te_quo V _ _ _ _ _ ((m / 4 : Nat) : Int) (w60 q.t (by omega)) rfl rfl rfl (by omega) (by omega) (by rw [hme]; simp) (by unfold inI; omega)
      · exact @te_rem V _ _ _ ((m / 4 : Nat) : Int) 2 ((m / 4 % 2 : Nat) : Int) rfl rfl rfl rfl (by omega) (by omega) (by simp)
      · exact @te_ieq V _ _ ((m / 4 % 2 : Nat) : Int) 1 rfl rfl _ (by rw [h0]; exact beq_one _)
      · exact @te_quo V _ _ _ _ _ ((m / 2 : Nat) : Int) (w60 q.t (by omega)) rfl rfl rfl (by omega) (by omega) (by rw [hme]; simp) (by unfold inI; omega)
      · exact @te_rem V _ _ _ ((m / 2 : Nat) : Int) 2 ((m / 2 % 2 : Nat) : Int) rfl rfl rfl rfl (by omega) (by omega) (by simp)
      · exact @te_ieq V _ _ ((m / 2 % 2 : Nat) : Int) 1 rfl rfl _ (by rw [h1]; exact beq_one _)
      · exact @te_rem V _ _ _ _ _ ((m % 2 : Nat) : Int) (w60 q.t (by omega)) rfl rfl rfl (by omega) (by omega) (by rw [hme]; simp)
      · exact @te_ieq V _ _ ((m % 2 : Nat) : Int) 1 rfl rfl _ (by rw [h2]; exact beq_one _)
    · obtain ⟨j, hj, rfl⟩ := List.mem_map.1 he
      have hj := List.mem_range.1 hj
      refine @te_geq V _ _ _ _ (w60 j (by omega)) rfl _ ?_
      by_cases hlt : j < q.t
      · have hb2 : Nat.blt j q.t = true := Nat.ble_eq_true_of_le hlt
        have := f3 j hlt
        rw [hb2]
        symm
        simp
        omega
      · obtain rfl : j = q.t := by omega
        rw [blt_self]
        symm
        simp
        omega
    · obtain ⟨j, hj, rfl⟩ := List.mem_map.1 he
      have hj := List.mem_range.1 hj
      have := f3 j hj
      have g := (base_facts j (by omega)).1
      exact @te_sub V _ _ _ _ _ _ (w60 j (by omega)) rfl (w60 (j + 1) (by omega)) rfl (by omega) (by unfold inI; omega)
  have hN : ∀ e ∈ rfNs q.t, @Ri.NTrue V e := by
    intro e he
    simp only [rfNs, List.mem_cons, List.not_mem_nil, or_false] at he
    rcases he with rfl | rfl
    · refine @Z.ne_true V _ (slotsT34 q.t) 71 1 q.u q2 rfl fun j hj => ?_
      show W (1 + j) = _
      show (if 1 + j < 9 then q.X (1 + j) else _) = _
      rw [if_pos (by omega)]
      show (if 1 + j = 0 then _ else if 1 + j < 5 then edgeAt (slotsT q.t) q.u (1 + j - 1) else _) = _
      rw [if_neg (by omega), if_pos (by omega), show 1 + j - 1 = j by omega]
    · refine @Z.ne_true V _ (slotsT34 q.t) 72 5 q.l q3 rfl fun j hj => ?_
      show W (5 + j) = _
      show (if 5 + j < 9 then q.X (5 + j) else _) = _
      rw [if_pos (by omega)]
      show (if 5 + j = 0 then _ else if 5 + j < 5 then _ else edgeAt (slotsT q.t) q.l (5 + j - 5)) = _
      rw [if_neg (by omega), if_neg (by omega), show 5 + j - 5 = j by omega]
  have t := @ansN V rX rF _ [] [] _ rX_true rF_true hT (by intro e he; cases he) (by intro e he; cases he) hN _ _ _ _ _ (all2_all (all2_all (all2_all (allN_lt rf_run q.t q1) (hBit q.h 0)) (hBit q.h 1)) (hBit q.h 2))
  have e : Ans fRFromCode [@cvF V (sI (60 + 0))] (.tuple #[q.ear, intV 0]) := t
  have e60 : @cvF V (sI (60 + 0)) = intV q.code := w60 0 (by omega)
  rw [e60] at e
  exact e
noncomputable def rnextNo : Bool := runOK noX [] [⟨fRCode, [earR 0], .tup [lI 0, lI 10]⟩] 1000 20 fRNext [earR 0] (.tup [zeroR, bR false, lI 10])
noncomputable def rnextRun (b : Bool) : Bool := runOK noX [⟨.bin .add, sI 50, lI 1, sI 51⟩] [⟨fRCode, [earR 0], .tup [sI 50, lI 0]⟩, ⟨fRFromCode, [sI 51], .tup [earR 20, lI (if b then 0 else 1)]⟩] 1000 20 fRNext [earR 0] (.tup [earR 20, bR b, lI 0])
set_option maxRecDepth 100000 in
theorem rnext_no : rnextNo = true := by kernel_rfl
set_option maxRecDepth 100000 in
theorem rnext_run : all2 rnextRun = true := by kernel_rfl
theorem rnext_no_ans (x : Nat → Int) (y : Nat → Bool) (h : valB x = false) : Ans fRNext [earF x y] (.tuple #[earF zeroX zeroY, .bool false, intV 10]) :=
  @ans (VE x y) noX _ _ noX_true (by intro e he; cases he) (by
    intro e he
    simp only [List.mem_cons, List.not_mem_nil, or_false] at he
    rcases he with rfl
    exact rcode_no_ans x y h) _ _ _ _ _ rnext_no
theorem rnext_of {q : Q} (h : q.ok) (b : Bool) (x' : Nat → Int) (y' : Nat → Bool) (hf : Ans fRFromCode [intV (q.code + 1 : Nat)] (.tuple #[earF x' y', intV (if b then 0 else 1)])) :
    Ans fRNext [q.ear] (.tuple #[earF x' y', .bool b, intV 0]) := by
  let W : Nat → Int := two 20 q.X (fun i => if i < 20 then x' i else if i = 30 then (q.code : Nat) else (q.code + 1 : Nat))
  let V := VE W (two 20 q.Y y')
  have hb := Q.bound h
  exact @ans V noX _ _ noX_true (by
    intro e he
    simp only [List.mem_cons, List.not_mem_nil, or_false] at he
    rcases he with rfl
    exact @te_add V _ _ _ ((q.code : Nat) : Int) 1 ((q.code + 1 : Nat) : Int) rfl rfl rfl rfl (by simp) (by unfold inI; omega)) (by
    intro e he
    simp only [List.mem_cons, List.not_mem_nil, or_false] at he
    rcases he with rfl | rfl
    · exact rcode_ans h
    · cases b
      · exact hf
      · exact hf) _ _ _ _ _ (all2_all rnext_run b)
end Go.Proofs.Z
