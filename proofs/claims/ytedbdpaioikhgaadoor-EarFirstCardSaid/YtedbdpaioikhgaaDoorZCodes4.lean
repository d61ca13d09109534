/- A part of the proofs that the laws of layer one answer true for every input. -/
import Derived.Test.YtedbdpaioikhgaaDoorZCodes3
namespace Go.Proofs.Z
open Go Go.RowKit Go.Proofs Go.Ri
def inI (r : Int) : Prop := -9223372036854775808 ≤ r ∧ r ≤ 9223372036854775807
theorem wrapI {r : Int} (h : inI r) : IntKind.i64.wrap r = r := IntWalk.i64_in r h
section
variable [Val] {a b c : RV} {m n r : Int} (ha : cv a = .int .i64 m) (hb : cv b = .int .i64 n)
include ha hb
theorem te_add (hc : cv c = .int .i64 r) (hf : flat0 c = true) (h : m + n = r) (hr : inI r) : TETrue ⟨.bin .add, a, b, c⟩ := by
  refine ⟨hf, ?_⟩
  show TCTrue _ (cv a) (cv b) (cv c)
  rw [ha, hb, hc, ← h]
  have := t_add .i64 m n
  rw [wrapI (h ▸ hr)] at this
  exact this
theorem te_sub (hc : cv c = .int .i64 r) (hf : flat0 c = true) (h : m - n = r) (hr : inI r) : TETrue ⟨.bin .sub, a, b, c⟩ := by
  refine ⟨hf, ?_⟩
  show TCTrue _ (cv a) (cv b) (cv c)
  rw [ha, hb, hc, ← h]
  have := t_sub .i64 m n
  rw [wrapI (h ▸ hr)] at this
  exact this
theorem te_mul (hc : cv c = .int .i64 r) (hf : flat0 c = true) (h : m * n = r) (hr : inI r) : TETrue ⟨.bin .mul, a, b, c⟩ := by
  refine ⟨hf, ?_⟩
  show TCTrue _ (cv a) (cv b) (cv c)
  rw [ha, hb, hc, ← h]
  have := t_mul .i64 m n
  rw [wrapI (h ▸ hr)] at this
  exact this
theorem te_quo (hc : cv c = .int .i64 r) (hf : flat0 c = true) (h0 : 0 ≤ m) (h1 : 0 < n) (h : m / n = r) (hr : inI r) : TETrue ⟨.bin .quo, a, b, c⟩ := by
  refine ⟨hf, ?_⟩
  show TCTrue _ (cv a) (cv b) (cv c)
  rw [ha, hb, hc, ← h]
  have := t_quo .i64 m n (by omega)
  rw [Int.tdiv_eq_ediv_of_nonneg h0, wrapI (h ▸ hr)] at this
  exact this
theorem te_rem (hc : cv c = .int .i64 r) (hf : flat0 c = true) (h0 : 0 ≤ m) (h1 : 0 < n) (h : m % n = r) : TETrue ⟨.bin .rem, a, b, c⟩ := by
  refine ⟨hf, ?_⟩
  show TCTrue _ (cv a) (cv b) (cv c)
  rw [ha, hb, hc, ← h]
  have := t_rem .i64 m n (by omega)
  rw [Int.tmod_eq_emod_of_nonneg h0] at this
  exact this
theorem te_geq {q : Bool} (h : q = decide (m ≥ n)) : TETrue ⟨.bin .geq, a, b, bR q⟩ := by
  refine ⟨rfl, ?_⟩
  show TCTrue _ (cv a) (cv b) (.bool q)
  rw [ha, hb, h]
  exact t_geq .i64 m n
theorem tc_lss {q : Bool} (h : q = decide (m < n)) : TETrue ⟨.bin .lss, a, b, bR q⟩ := by
  refine ⟨rfl, ?_⟩
  show TCTrue _ (cv a) (cv b) (.bool q)
  rw [ha, hb, h]
  exact t_lss .i64 m n
theorem te_gtr {q : Bool} (h : q = decide (m > n)) : TETrue ⟨.bin .gtr, a, b, bR q⟩ := by
  refine ⟨rfl, ?_⟩
  show TCTrue _ (cv a) (cv b) (.bool q)
  rw [ha, hb, h]
  exact t_gtr .i64 m n
theorem te_ieq {q : Bool} (h : q = (m == n)) : TETrue ⟨.ieq, a, b, bR q⟩ := by
  refine ⟨rfl, ?_⟩
  show TCTrue _ (cv a) (cv b) (.bool q)
  rw [ha, hb, h]
  exact t_ieq .i64 m n
end
theorem Q.chk {q : Q} (h : q.ok) : Ans fCheck [earF q.X q.Y] (intV 0) := by
  have := chk_ans q.X q.Y
  rw [if_pos (Q.val h)] at this
  exact this
noncomputable def Q.ear (q : Q) : Value := earF q.X q.Y
theorem code_ans {q : Q} (h : q.ok) : Ans fCode [q.ear] (.tuple #[intV q.code, intV 0]) := by
  have hb := Q.bound h
  have hc := Q.chk h
  obtain ⟨q1, q2, q3, q4⟩ := h
  let N := numT q.t
  let W : Nat → Int := fun i => if i < 9 then q.X i else if i = 50 then (q.u : Nat) else if i = 51 then (q.l : Nat) else if i = 52 then (q.h : Nat) else if i = 53 then (q.u * N : Nat) else if i = 54 then (q.u * N + q.l : Nat) else if i = 55 then ((q.u * N + q.l) * 8 : Nat) else if i = 56 then (baseT q.t + (q.u * N + q.l) * 8 : Nat) else (q.code : Nat)
  let V := VE W q.Y
  have bN := numT_two q.t
  have hN : N = 19 ∨ N = 40 := bN
  have hc8 : (q.u * N + q.l) * 8 ≤ q.code := by show _ ≤ baseT q.t + _ + _; show (q.u * numT q.t + q.l) * 8 ≤ _; omega
  have hT : ∀ e ∈ codeTs q.t, @TETrue V e := by
    have hcode : q.code = baseT q.t + (q.u * N + q.l) * 8 + q.h := rfl
    intro e he
    simp only [codeTs, List.mem_cons, List.not_mem_nil, or_false] at he
    rcases he with rfl | rfl | rfl | rfl | rfl
    · exact @te_mul V _ _ _ ((q.u : Nat) : Int) ((N : Nat) : Int) ((q.u * N : Nat) : Int) rfl rfl rfl rfl (by simp) (by unfold inI; omega)
    · exact @te_add V _ _ _ ((q.u * N : Nat) : Int) ((q.l : Nat) : Int) ((q.u * N + q.l : Nat) : Int) rfl rfl rfl rfl (by simp) (by unfold inI; omega)
    · exact @te_mul V _ _ _ ((q.u * N + q.l : Nat) : Int) (8 : Int) (((q.u * N + q.l) * 8 : Nat) : Int) rfl rfl rfl rfl (by simp) (by unfold inI; omega)
    · exact @te_add V _ _ _ ((baseT q.t : Nat) : Int) (((q.u * N + q.l) * 8 : Nat) : Int) ((baseT q.t + (q.u * N + q.l) * 8 : Nat) : Int) rfl rfl rfl rfl (by simp) (by unfold inI; omega)
    · exact @te_add V _ _ _ ((baseT q.t + (q.u * N + q.l) * 8 : Nat) : Int) ((q.h : Nat) : Int) ((q.code : Nat) : Int) rfl rfl rfl rfl (by rw [hcode]; simp) (by unfold inI; omega)
  have hh : Ans fHolesCode [holesF q.Y] (intV (q.h : Nat)) := by rw [← hc_hBit q.h q4]; exact hc_ans q.Y
  have hY : ∀ e ∈ codeYs q.t, Ans e.f (e.a.map (@cvF V)) (@cvF V e.r) := by
    intro e he
    simp only [codeYs, List.mem_cons, List.not_mem_nil, or_false] at he
    rcases he with rfl | rfl | rfl | rfl
    · exact hc
    · exact ec_ans _ (slotsT34 q.t) q.u q2
    · exact ec_ans _ (slotsT34 q.t) q.l q3
    · exact hh
  exact @ans V noX _ _ noX_true hT hY _ _ _ _ _ (allN_lt code_run q.t q1)
theorem code_no_ans (x : Nat → Int) (y : Nat → Bool) (h : valB x = false) : Ans fCode [earF x y] (.tuple #[intV 0, intV 10]) := by
  have hc := chk_ans x y
  rw [h, if_neg (by simp)] at hc
  exact @ans (VE x y) noX _ _ noX_true (by intro e he; cases he) (by
    intro e he
    simp only [List.mem_cons, List.not_mem_nil, or_false] at he
    rcases he with rfl
    exact hc) _ _ _ _ _ code_no
theorem from_ans {q : Q} (h : q.ok) : Ans fFromCode [intV q.code] (.tuple #[q.ear, intV 0]) := by
  have hb := Q.bound h
  obtain ⟨q1, q2, q3, q4⟩ := h
  obtain ⟨f1, f2, f3, _⟩ := base_facts q.t q1
  have bN := numT_two q.t
  obtain ⟨m, hm⟩ : ∃ m, m = (q.u * numT q.t + q.l) * 8 + q.h := ⟨_, rfl⟩
  have hcode : q.code = baseT q.t + m := by rw [hm]; unfold Q.code; omega
  let W : Nat → Int := fun i => if i < 9 then q.X i else if i < 70 then ((q.code - baseT (i - 60) : Nat) : Int) else if i = 70 then ((m / 8 : Nat) : Int) else if i = 71 then (q.u : Nat) else if i = 72 then (q.l : Nat) else (q.h : Nat)
  let V := VE W q.Y
  have w60 : ∀ j, j ≤ 5 → @cv V (sI (60 + j)) = .int .i64 ((q.code - baseT j : Nat) : Int) := fun j hj => by
    show Value.int .i64 (W (60 + j)) = _
    have : W (60 + j) = ((q.code - baseT j : Nat) : Int) := by
      show (if 60 + j < 9 then _ else if 60 + j < 70 then ((q.code - baseT (60 + j - 60) : Nat) : Int) else _) = _
      rw [if_neg (by omega), if_pos (by omega), show 60 + j - 60 = j by omega]
    rw [this]
  have hme : q.code - baseT q.t = m := by omega
  have hbase0 : baseT 0 = 0 := rfl
  have hmb : m < 20000 := by
    have e := bN
    generalize numT q.t = N at *
    rcases e with rfl | rfl <;> omega
  have m1 : m / 8 = q.u * numT q.t + q.l := by omega
  have m2 : (m / 8) / numT q.t = q.u := by
    rw [m1]
    have e := bN
    generalize numT q.t = N at *
    rcases e with rfl | rfl <;> omega
  have m3 : (m / 8) % numT q.t = q.l := by
    rw [m1]
    have e := bN
    generalize numT q.t = N at *
    rcases e with rfl | rfl <;> omega
  have m4 : m % 8 = q.h := by omega
  have hT : ∀ e ∈ fcTs q.t ++ (subTs q.t ++ subTs2 q.t), @TETrue V e := by
    intro e he
    simp only [List.mem_append] at he
    rcases he with he | he | he
    · simp only [fcTs, List.mem_cons, List.not_mem_nil, or_false] at he
      rcases he with rfl | rfl | rfl | rfl | rfl | rfl
      · exact @tc_lss V _ _ _ _ (w60 0 (by omega)) rfl _ (by symm; simp)
      · exact @te_geq V _ _ _ _ (w60 0 (by omega)) rfl _ (by symm; rw [hbase0]; simp; omega)
      · exact @te_quo V _ _ _ _ _ ((m / 8 : Nat) : Int) (w60 q.t (by omega)) rfl rfl rfl (by omega) (by omega) (by rw [hme]; simp) (by unfold inI; omega)
      · exact @te_quo V _ _ _ ((m / 8 : Nat) : Int) ((numT q.t : Nat) : Int) ((q.u : Nat) : Int) rfl rfl rfl rfl (by omega) (by omega) (by rw [← m2]; simp) (by unfold inI; omega)
      · exact @te_rem V _ _ _ ((m / 8 : Nat) : Int) ((numT q.t : Nat) : Int) ((q.l : Nat) : Int) rfl rfl rfl rfl (by omega) (by omega) (by rw [← m3]; simp)
      · exact @te_rem V _ _ _ _ _ ((q.h : Nat) : Int) (w60 q.t (by omega)) rfl rfl rfl (by omega) (by omega) (by rw [hme, ← m4]; simp)
    · obtain ⟨j, hj, rfl⟩ := List.mem_map.1 he
      have hj := List.mem_range.1 hj
      refine @te_geq V _ _ _ _ (w60 j (by omega)) rfl _ ?_
      by_cases hlt : j < q.t
      · have hb2 : Nat.blt j q.t = true := Nat.ble_eq_true_of_le hlt
        have := f3 j hlt
        rw [hb2]
        symm
        simp
        omega
      · obtain rfl : j = q.t := by omega
        rw [blt_self]
        symm
        simp
        omega
    · obtain ⟨j, hj, rfl⟩ := List.mem_map.1 he
      have hj := List.mem_range.1 hj
      have := f3 j hj
      have g := (base_facts j (by omega)).1
      exact @te_sub V _ _ _ _ _ _ (w60 j (by omega)) rfl (w60 (j + 1) (by omega)) rfl (by omega) (by unfold inI; omega)
  have hY : ∀ e ∈ fcYs q.t, Ans e.f (e.a.map (@cvF V)) (@cvF V e.r) := by
    intro e he
    simp only [fcYs, List.mem_cons, List.not_mem_nil, or_false] at he
    rcases he with rfl | rfl | rfl
    · exact ef_ans _ (slotsT34 q.t) q.u q2
    · exact ef_ans _ (slotsT34 q.t) q.l q3
    · exact hf_ans q.h q4
  have t := @ans V noX _ _ noX_true hT hY _ _ _ _ _ (allN_lt fc_run q.t q1)
  have e : Ans fFromCode [@cvF V (sI (60 + 0))] (.tuple #[q.ear, intV 0]) := t
  have e60 : @cvF V (sI (60 + 0)) = intV q.code := w60 0 (by omega)
  rw [e60] at e
  exact e
def zeroX : Nat → Int := fun _ => 0
def zeroY : Nat → Bool := fun _ => false
theorem from_no_ans (n : Int) (h : n < 0 ∨ n ≥ 44176) : Ans fFromCode [intV n] (.tuple #[earF zeroX zeroY, intV 1]) := by
  let V := VE (fun _ => n) fun _ => false
  have hT : ∀ e ∈ noTs (decide (n < 0)), @TETrue V e := by
    intro e he
    by_cases hn : n < 0
    · rw [decide_eq_true hn] at he
      simp only [noTs, List.mem_cons, List.not_mem_nil, or_false] at he
      rcases he with rfl
      exact @tc_lss V _ _ n 0 rfl rfl _ (by symm; simpa using hn)
    · rw [decide_eq_false hn] at he
      simp only [noTs, List.mem_cons, List.not_mem_nil, or_false] at he
      rcases he with rfl | rfl
      · exact @tc_lss V _ _ n 0 rfl rfl _ (by symm; simpa using hn)
      · exact @te_geq V _ _ n 44176 rfl rfl _ (by symm; simp; omega)
  exact @ans V noX _ _ noX_true hT (by intro e he; cases he) _ _ _ _ _ (all2_all fc_no (decide (n < 0)))
/-! Next. -/
theorem next_no_ans (x : Nat → Int) (y : Nat → Bool) (h : valB x = false) : Ans fNext [earF x y] (.tuple #[earF zeroX zeroY, .bool false, intV 10]) :=
  @ans (VE x y) noX _ _ noX_true (by intro e he; cases he) (by
    intro e he
    simp only [List.mem_cons, List.not_mem_nil, or_false] at he
    rcases he with rfl
    exact code_no_ans x y h) _ _ _ _ _ next_no
theorem next_of {q : Q} (h : q.ok) (b : Bool) (x' : Nat → Int) (y' : Nat → Bool) (hf : Ans fFromCode [intV (q.code + 1 : Nat)] (.tuple #[earF x' y', intV (if b then 0 else 1)])) :
    Ans fNext [q.ear] (.tuple #[earF x' y', .bool b, intV 0]) := by
  let W : Nat → Int := two 20 q.X (fun i => if i < 20 then x' i else if i = 30 then (q.code : Nat) else (q.code + 1 : Nat))
  let V := VE W (two 20 q.Y y')
  have hb := Q.bound h
  exact @ans V noX _ _ noX_true (by
    intro e he
    simp only [List.mem_cons, List.not_mem_nil, or_false] at he
    rcases he with rfl
    exact @te_add V _ _ _ ((q.code : Nat) : Int) 1 ((q.code + 1 : Nat) : Int) rfl rfl rfl rfl (by simp) (by unfold inI; omega)) (by
    intro e he
    simp only [List.mem_cons, List.not_mem_nil, or_false] at he
    rcases he with rfl | rfl
    · exact code_ans h
    · cases b
      · exact hf
      · exact hf) _ _ _ _ _ (all2_all next_run b)
/-! The order of codes is the order of ears. -/
noncomputable def edgeCmp (s k k' : Nat) : Int := if fd (eqP (edgeAt s k) (edgeAt s k')) 0 4 = 4 then 0 else cmpI (edgeAt s k (fd (eqP (edgeAt s k) (edgeAt s k')) 0 4)) (edgeAt s k' (fd (eqP (edgeAt s k) (edgeAt s k')) 0 4))
noncomputable def ecmpRun (s k k' : Nat) : Bool := (edgeCmp s k k' == cmpI k k')
set_option maxRecDepth 100000 in
theorem ecmp3 : allN (fun k => allN (ecmpRun 3 k) 19) 19 = true := by kernel_rfl
set_option maxRecDepth 100000 in
theorem ecmp4 : allN (fun k => allN (ecmpRun 4 k) 40) 40 = true := by kernel_rfl
end Go.Proofs.Z
