/- A part of the proofs that the laws of layer three answer true for every input. -/
import Derived.Test.YtbacimjjelkfbaaGreatDoorZKC
namespace Go.Proofs.Z
open Go Go.RowKit Go.Proofs Go.Ri Go.Proofs.Z.Fa
/-! Apply of both packages answers the same. -/
theorem eqdk (m n : Int) : (m == n) = decide (m = n) := by
  by_cases h : m = n
  · subst h; simp
  · simp [h]
theorem ct_true (V : Val) (k : Nat) (i : Nat) (q : Bool) (h : ctest k (V.I 21) (V.I 22) (V.I 23) i = q) : ∀ e, e ∈ ctF k i q → @TETrue V e := by
  letI := V
  unfold ctest at h
  unfold ctF
  by_cases h0 : i = 0
  · rw [if_pos h0] at h ⊢
    exact fa (f_geq (k := .i64) (m := V.I 21) (n := 0) rfl rfl h) fz
  rw [if_neg h0] at h ⊢
  by_cases h1 : i = 1
  · rw [if_pos h1] at h ⊢
    exact fa (f_lss (k := .i64) (m := V.I 21) (n := eds k) rfl rfl h) fz
  rw [if_neg h1] at h ⊢
  by_cases h2 : i = 2
  · rw [if_pos h2] at h ⊢
    exact fa (f_geq (k := .i64) (m := V.I 22) (n := 0) rfl rfl h) fz
  rw [if_neg h2] at h ⊢
  by_cases h3 : i = 3
  · rw [if_pos h3] at h ⊢
    exact fa (f_lss (k := .i64) (m := V.I 22) (n := ats k) rfl rfl h) fz
  rw [if_neg h3] at h ⊢
  by_cases h4 : i = 4
  · rw [if_pos h4] at h ⊢
    exact fa (f_geq (k := .i64) (m := V.I 23) (n := lo k) rfl rfl h) fz
  rw [if_neg h4] at h ⊢
  exact fa (f_leq (k := .i64) (m := V.I 23) (n := hi k) rfl rfl h) fz
theorem ctT_true (V : Val) (k : Nat) : ∀ e, e ∈ ctT k (firstBad (ctest k (V.I 21) (V.I 22) (V.I 23)) 6 0) → @TETrue V e := by
  intro e he
  unfold ctT at he
  obtain ⟨i, hi, he⟩ := List.mem_flatMap.1 he
  have hi := List.mem_range.1 hi
  generalize hm : firstBad (ctest k (V.I 21) (V.I 22) (V.I 23)) 6 0 = m at *
  have hi1 : i < m + 1 := Nat.lt_of_lt_of_le hi (Nat.min_le_left _ _)
  have hi2 : i < 6 := Nat.lt_of_lt_of_le hi (Nat.min_le_right _ _)
  refine ct_true V k i _ ?_ e he
  by_cases hlt : i < m
  · rw [firstBad_pass (ctest k (V.I 21) (V.I 22) (V.I 23)) 6 0 i (Nat.zero_le _) (by rw [hm]; exact hlt)]
    exact (Nat.ble_eq_true_of_le hlt).symm
  · obtain rfl : i = m := by omega
    have := firstBad_fail (ctest k (V.I 21) (V.I 22) (V.I 23)) 6 0 (by rw [hm]; omega)
    rw [hm] at this
    rw [this, blt_self]
def vC (x : Nat → Int) (c : Nat → Int) (i : Nat) : Int := if i < 20 then x i else c (i - 20)
/-- The specification's tests, as they are. -/
def rtest (k : Nat) (e a t : Int) (i : Nat) : Bool :=
  if k = 1 then (if i = 0 then decide (e = 0) else if i = 1 then decide (a = 0) else if i = 2 then decide (t ≥ 1) else decide (t ≤ 4))
  else if k = 2 then (if i = 0 then decide (e ≥ 0) else if i = 1 then decide (e ≤ 1) else if i = 2 then decide (a ≥ 0) else if i = 3 then decide (a < 4) else if i = 4 then decide (t ≥ 1) else decide (t ≤ 3))
  else if k = 3 then (if i = 0 then decide (e = 0) else if i = 1 then decide (a ≥ 0) else if i = 2 then decide (a < 3) else decide (t = 0))
  else (if i = 0 then decide (e ≥ 0) else if i = 1 then decide (e ≤ 1) else if i = 2 then decide (a ≥ 0) else if i = 3 then decide (a < 3) else decide (t = 0))
theorem rt_true (V : Val) (k i : Nat) (q : Bool) (h : rtest k (V.I 21) (V.I 22) (V.I 23) i = q) : @TETrue V (rtE k i q) := by
  letI := V
  have ieq : ∀ {j : Nat} {n : Int}, decide (V.I j = n) = q → @TETrue V ⟨.ieq, sI j, lI n, bR q⟩ := fun {j n} h => f_ieq (k := .i64) (m := V.I j) (n := n) rfl rfl (by rw [eqdk]; exact h)
  have geq : ∀ {j : Nat} {n : Int}, decide (V.I j ≥ n) = q → @TETrue V ⟨.bin .geq, sI j, lI n, bR q⟩ := fun {j n} h => f_geq (k := .i64) (m := V.I j) (n := n) rfl rfl h
  have leq : ∀ {j : Nat} {n : Int}, decide (V.I j ≤ n) = q → @TETrue V ⟨.bin .leq, sI j, lI n, bR q⟩ := fun {j n} h => f_leq (k := .i64) (m := V.I j) (n := n) rfl rfl h
  have lss : ∀ {j : Nat} {n : Int}, decide (V.I j < n) = q → @TETrue V ⟨.bin .lss, sI j, lI n, bR q⟩ := fun {j n} h => f_lss (k := .i64) (m := V.I j) (n := n) rfl rfl h
  unfold rtest at h
  unfold rtE
  by_cases k1 : k = 1
  · rw [if_pos k1] at h ⊢
    by_cases h0 : i = 0
    · rw [if_pos h0] at h ⊢; exact ieq h
    rw [if_neg h0] at h ⊢
    by_cases h1 : i = 1
    · rw [if_pos h1] at h ⊢; exact ieq h
    rw [if_neg h1] at h ⊢
    by_cases h2 : i = 2
    · rw [if_pos h2] at h ⊢; exact geq h
    rw [if_neg h2] at h ⊢
    exact leq h
  rw [if_neg k1] at h ⊢
  by_cases k2 : k = 2
  · rw [if_pos k2] at h ⊢
    by_cases h0 : i = 0
    · rw [if_pos h0] at h ⊢; exact geq h
    rw [if_neg h0] at h ⊢
    by_cases h1 : i = 1
    · rw [if_pos h1] at h ⊢; exact leq h
    rw [if_neg h1] at h ⊢
    by_cases h2 : i = 2
    · rw [if_pos h2] at h ⊢; exact geq h
    rw [if_neg h2] at h ⊢
    by_cases h3 : i = 3
    · rw [if_pos h3] at h ⊢; exact lss h
    rw [if_neg h3] at h ⊢
    by_cases h4 : i = 4
    · rw [if_pos h4] at h ⊢; exact geq h
    rw [if_neg h4] at h ⊢
    exact leq h
  rw [if_neg k2] at h ⊢
  by_cases k3 : k = 3
  · rw [if_pos k3] at h ⊢
    by_cases h0 : i = 0
    · rw [if_pos h0] at h ⊢; exact ieq h
    rw [if_neg h0] at h ⊢
    by_cases h1 : i = 1
    · rw [if_pos h1] at h ⊢; exact geq h
    rw [if_neg h1] at h ⊢
    by_cases h2 : i = 2
    · rw [if_pos h2] at h ⊢; exact lss h
    rw [if_neg h2] at h ⊢
    exact ieq h
  rw [if_neg k3] at h ⊢
  by_cases h0 : i = 0
  · rw [if_pos h0] at h ⊢; exact geq h
  rw [if_neg h0] at h ⊢
  by_cases h1 : i = 1
  · rw [if_pos h1] at h ⊢; exact leq h
  rw [if_neg h1] at h ⊢
  by_cases h2 : i = 2
  · rw [if_pos h2] at h ⊢; exact geq h
  rw [if_neg h2] at h ⊢
  by_cases h3 : i = 3
  · rw [if_pos h3] at h ⊢; exact lss h
  rw [if_neg h3] at h ⊢
  exact ieq h
theorem rtT_true (V : Val) (k : Nat) : ∀ e, e ∈ rtT k (firstBad (rtest k (V.I 21) (V.I 22) (V.I 23)) (rnum k) 0) → @TETrue V e := by
  intro e he
  obtain ⟨i, hi, rfl⟩ := List.mem_map.1 he
  have hi := List.mem_range.1 hi
  generalize hm : firstBad (rtest k (V.I 21) (V.I 22) (V.I 23)) (rnum k) 0 = m at *
  have hi1 : i < m + 1 := Nat.lt_of_lt_of_le hi (Nat.min_le_left _ _)
  have hi2 : i < rnum k := Nat.lt_of_lt_of_le hi (Nat.min_le_right _ _)
  refine rt_true V k i _ ?_
  by_cases hlt : i < m
  · rw [firstBad_pass (rtest k (V.I 21) (V.I 22) (V.I 23)) (rnum k) 0 i (Nat.zero_le _) (by rw [hm]; exact hlt)]
    exact (Nat.ble_eq_true_of_le hlt).symm
  · obtain rfl : i = m := by omega
    have := firstBad_fail (rtest k (V.I 21) (V.I 22) (V.I 23)) (rnum k) 0 (by rw [hm]; omega)
    rw [hm] at this
    rw [this, blt_self]
theorem first_all {p : Nat → Bool} {n : Nat} : Nat.beq (firstBad p n 0) n = true ↔ ∀ i, i < n → p i = true := by
  constructor
  · intro h i hi
    have h := Nat.eq_of_beq_eq_true h
    exact firstBad_pass p n 0 i (Nat.zero_le _) (by rw [h]; exact hi)
  · intro h
    have hle := firstBad_le p n 0
    rcases Nat.lt_or_ge (firstBad p n 0) (0 + n) with hlt | hge
    · have := firstBad_fail p n 0 hlt
      rw [h _ (by omega)] at this
      cases this
    · have : firstBad p n 0 = n := by omega
      rw [this, Nat.beq_refl]
/-- What is a cut. -/
def Cut4 (c : Nat → Int) : Prop := (c 0 = 1 ∧ c 1 = 0 ∧ c 2 = 0 ∧ 1 ≤ c 3 ∧ c 3 ≤ 4) ∨ (c 0 = 2 ∧ 0 ≤ c 1 ∧ c 1 ≤ 1 ∧ 0 ≤ c 2 ∧ c 2 < 4 ∧ 1 ≤ c 3 ∧ c 3 ≤ 3) ∨ (c 0 = 3 ∧ c 1 = 0 ∧ 0 ≤ c 2 ∧ c 2 < 3 ∧ c 3 = 0) ∨ (c 0 = 4 ∧ 0 ≤ c 1 ∧ c 1 ≤ 1 ∧ 0 ≤ c 2 ∧ c 2 < 3 ∧ c 3 = 0)
end Go.Proofs.Z

namespace Go.Proofs.Z
open Go Go.RowKit Go.Proofs Go.Ri Go.Proofs.Z.Fa
/-! Check of cuts, both packages; Apply of both packages answers the same. -/
instance instCut4 (c : Nat → Int) : Decidable (Cut4 c) := by unfold Cut4; infer_instance
abbrev VC (x : Nat → Int) (y : Nat → Bool) (c : Nat → Int) : Val := VE (vC x c) y
theorem run_is [Val] {T : List TE} {f : FuncId} {args : List RV} {r0 : RV} (h : (match runG noX T [] f args with | some r => eqTopR r r0 | none => false) = true) (hT : ∀ e, e ∈ T → TETrue e) : Ans f (args.map cvF) (cvF r0) := by
  split at h
  · rename_i r hr
    obtain ⟨h2, h3⟩ := runG_ans noX_true hT (by intro e he; cases he) hr
    rw [eqTopR_cv h h2] at h3
    exact h3
  · cases h
theorem kinds {c : Nat → Int} (h : 1 ≤ c 0 ∧ c 0 ≤ 4) : ∃ k : Nat, k < 4 ∧ c 0 = ((k + 1 : Nat) : Int) := ⟨(c 0).toNat - 1, by omega, by omega⟩
theorem ct_all {c : Nat → Int} {k : Nat} (hk : k < 4) (h0 : c 0 = ((k + 1 : Nat) : Int)) : Nat.beq (firstBad (ctest (k + 1) (c 1) (c 2) (c 3)) 6 0) 6 = true ↔ Cut4 c := by
  rw [first_all]
  constructor
  · intro h
    have t0 := h 0 (by omega)
    have t1 := h 1 (by omega)
    have t2 := h 2 (by omega)
    have t3 := h 3 (by omega)
    have t4 := h 4 (by omega)
    have t5 := h 5 (by omega)
    match k, hk with
    | 0, _ | 1, _ | 2, _ | 3, _ =>
      simp [ctest, eds, ats, lo, hi] at t0 t1 t2 t3 t4 t5 h0
      unfold Cut4
      omega
  · intro h i hi6
    unfold Cut4 at h
    match k, hk with
    | 0, _ | 1, _ | 2, _ | 3, _ =>
      match i, hi6 with
      | 0, _ | 1, _ | 2, _ | 3, _ | 4, _ | 5, _ =>
        simp [ctest, eds, ats, lo, hi] at h0 ⊢
        omega
theorem rt_all {c : Nat → Int} {k : Nat} (hk : k < 4) (h0 : c 0 = ((k + 1 : Nat) : Int)) : Nat.beq (firstBad (rtest (k + 1) (c 1) (c 2) (c 3)) (rnum (k + 1)) 0) (rnum (k + 1)) = true ↔ Cut4 c := by
  rw [first_all]
  constructor
  · intro h
    match k, hk with
    | 0, _ | 2, _ =>
      have t0 := h 0 (by decide)
      have t1 := h 1 (by decide)
      have t2 := h 2 (by decide)
      have t3 := h 3 (by decide)
      simp [rtest] at t0 t1 t2 t3 h0
      unfold Cut4
      omega
    | 1, _ =>
      have t0 := h 0 (by decide)
      have t1 := h 1 (by decide)
      have t2 := h 2 (by decide)
      have t3 := h 3 (by decide)
      have t4 := h 4 (by decide)
      have t5 := h 5 (by decide)
      simp [rtest] at t0 t1 t2 t3 t4 t5 h0
      unfold Cut4
      omega
    | 3, _ =>
      have t0 := h 0 (by decide)
      have t1 := h 1 (by decide)
      have t2 := h 2 (by decide)
      have t3 := h 3 (by decide)
      have t4 := h 4 (by decide)
      simp [rtest] at t0 t1 t2 t3 t4 h0
      unfold Cut4
      omega
  · intro h i hi6
    unfold Cut4 at h
    match k, hk with
    | 0, _ | 1, _ | 2, _ | 3, _ =>
      have : i < 6 := Nat.lt_of_lt_of_le hi6 (by decide)
      match i, this with
      | 0, _ | 1, _ | 2, _ | 3, _ | 4, _ | 5, _ =>
        simp [rtest] at h0 ⊢
        omega
set_option maxRecDepth 100000 in
theorem kc_ans (c : Nat → Int) : Ans fKCheck [cutF c] (.int .i64 (if Cut4 c then 0 else 30)) := by
  letI V : Val := VC (fun _ => 0) (fun _ => false) c
  by_cases hk : 1 ≤ c 0 ∧ c 0 ≤ 4
  · obtain ⟨k, hk4, h0⟩ := kinds hk
    have hm : firstBad (ctest (k + 1) (c 1) (c 2) (c 3)) 6 0 < 7 := by
      have := firstBad_le (ctest (k + 1) (c 1) (c 2) (c 3)) 6 0
      omega
    have h := allU_lt (allU_lt kc_run k hk4) _ hm
    have a := @run_is V _ _ _ _ h (ctT_true V (k + 1))
    have e : (if Nat.beq (firstBad (ctest (k + 1) (c 1) (c 2) (c 3)) 6 0) 6 = true then (0 : Int) else 30) = if Cut4 c then 0 else 30 := by
      by_cases hc : Cut4 c
      · rw [if_pos hc, if_pos ((ct_all hk4 h0).2 hc)]
      · rw [if_neg hc, if_neg fun h => hc ((ct_all hk4 h0).1 h)]
    rw [e] at a
    unfold cutF
    rw [h0]
    exact a
  · have hn : ¬ Cut4 c := by unfold Cut4; omega
    rw [if_neg hn]
    by_cases h1 : c 0 < 1
    · exact @run_is V _ _ _ _ (all2_all kc_out true) (fa (@f_lss V (sI 20) (lI 1) .i64 (c 0) 1 true rfl rfl (by simpa using h1)) fz)
    · exact @run_is V _ _ _ _ (all2_all kc_out false) (fa (@f_lss V (sI 20) (lI 1) .i64 (c 0) 1 false rfl rfl (by simpa using h1)) (fa (@f_gtr V (sI 20) (lI 4) .i64 (c 0) 4 true rfl rfl (by simp; omega)) fz))
set_option maxRecDepth 100000 in
theorem rkc_ans (c : Nat → Int) : Ans fRKCheck [cutF c] (.int .i64 (if Cut4 c then 0 else 30)) := by
  letI V : Val := VC (fun _ => 0) (fun _ => false) c
  by_cases hk : 1 ≤ c 0 ∧ c 0 ≤ 4
  · obtain ⟨k, hk4, h0⟩ := kinds hk
    have hr6 : rnum (k + 1) ≤ 6 := by
      unfold rnum
      split
      · omega
      · split <;> omega
    have hle := firstBad_le (rtest (k + 1) (c 1) (c 2) (c 3)) (rnum (k + 1)) 0
    have h := allU_lt (allU_lt rkc_run k hk4) (firstBad (rtest (k + 1) (c 1) (c 2) (c 3)) (rnum (k + 1)) 0) (by omega)
    have hb : Nat.blt (rnum (k + 1)) (firstBad (rtest (k + 1) (c 1) (c 2) (c 3)) (rnum (k + 1)) 0) = false := by
      cases hb : Nat.blt (rnum (k + 1)) (firstBad (rtest (k + 1) (c 1) (c 2) (c 3)) (rnum (k + 1)) 0) with
      | false => rfl
      | true =>
        have := Nat.le_of_ble_eq_true hb
        omega
    simp only [hb, Bool.false_or] at h
    have a := @run_is V _ _ _ _ h (rtT_true V (k + 1))
    have e : (if Nat.beq (firstBad (rtest (k + 1) (c 1) (c 2) (c 3)) (rnum (k + 1)) 0) (rnum (k + 1)) = true then (0 : Int) else 30) = if Cut4 c then 0 else 30 := by
      by_cases hc : Cut4 c
      · rw [if_pos hc, if_pos ((rt_all hk4 h0).2 hc)]
      · rw [if_neg hc, if_neg fun h => hc ((rt_all hk4 h0).1 h)]
    rw [e] at a
    unfold cutF
    rw [h0]
    exact a
  · have hn : ¬ Cut4 c := by unfold Cut4; omega
    rw [if_neg hn]
    have q : ∀ n : Int, c 0 ≠ n → @TETrue V ⟨.ieq, sI 20, lI n, bR false⟩ := fun n hn => @f_ieq V (sI 20) (lI n) .i64 (c 0) n false rfl rfl (by simpa using hn)
    exact @run_is V [⟨.ieq, sI 20, lI 1, bR false⟩, ⟨.ieq, sI 20, lI 2, bR false⟩, ⟨.ieq, sI 20, lI 3, bR false⟩, ⟨.ieq, sI 20, lI 4, bR false⟩] fRKCheck [cutR] (lI 30) rkc_out (fa (q 1 (by omega)) (fa (q 2 (by omega)) (fa (q 3 (by omega)) (fa (q 4 (by omega)) fz))))
/-- Both packages' Apply answer the same: an ear and a number. -/
def AppB (e c : Value) : Prop := ∃ x' y' n, Ans fApply [e, c] (.tuple #[earF x' y', .int .i64 n]) ∧ Ans fRApply [e, c] (.tuple #[earF x' y', .int .i64 n])
theorem appB_of {V : Val} {T : List TE} {Y Y' : List YE} {e c : RV} (h : bothG noX T T Y Y' fApply fRApply [e, c] earN = true) (hT : ∀ e, e ∈ T → @TETrue V e) (hY : ∀ e, e ∈ Y → Ans e.f (e.a.map (@cvF V)) (@cvF V e.r)) (hY' : ∀ e, e ∈ Y' → Ans e.f (e.a.map (@cvF V)) (@cvF V e.r)) : AppB (@cvF V e) (@cvF V c) := by
  obtain ⟨r, hk, h1, h2⟩ := @bothG_ans V noX _ _ _ _ noX_true hT hT hY hY' _ _ _ _ h
  obtain ⟨x', y', n, e'⟩ := @earN_cv V r hk
  rw [e'] at h1 h2
  exact ⟨x', y', n, h1, h2⟩
theorem app_bad (x : Nat → Int) (y : Nat → Bool) (c : Nat → Int) (hv : valB x = false) : AppB (earF x y) (cutF c) := by
  have a := chk_ans x y
  have b := rchk_ans x y
  rw [hv] at a b
  exact @appB_of (VC x y c) [] [⟨fCheck, [earR 0], lI 10⟩] [⟨fRCheck, [earR 0], lI 10⟩] (earR 0) cutR ap_ear fz (fa a fz) (fa b fz)
theorem app_not (x : Nat → Int) (y : Nat → Bool) (c : Nat → Int) (hv : valB x = true) (hc : ¬ Cut4 c) : AppB (earF x y) (cutF c) := by
  have a := chk_ans x y
  have b := rchk_ans x y
  have a2 := kc_ans c
  have b2 := rkc_ans c
  rw [hv] at a b
  rw [if_neg hc] at a2 b2
  exact @appB_of (VC x y c) [] [⟨fCheck, [earR 0], lI 0⟩, ⟨fKCheck, [cutR], lI 30⟩] [⟨fRCheck, [earR 0], lI 0⟩, ⟨fRKCheck, [cutR], lI 30⟩] (earR 0) cutR ap_cut fz (fa a (fa a2 fz)) (fa b (fa b2 fz))
/-- An ear and a cut that both are valid. -/
theorem app_at {V : Val} {x : Nat → Int} {y : Nat → Bool} {c : Nat → Int} (hv : valB x = true) (hc : Cut4 c) {T : List TE} {e k : RV} (h : apH T e k = true) (he : @cvF V e = earF x y) (hk : @cvF V k = cutF c) (hT : ∀ e, e ∈ T → @TETrue V e) : AppB (earF x y) (cutF c) := by
  have a := chk_ans x y
  have b := rchk_ans x y
  have a2 := kc_ans c
  have b2 := rkc_ans c
  rw [hv] at a b
  rw [if_pos hc] at a2 b2
  have := @appB_of V T (kY e k) (kY' e k) e k h hT (fa (by show Ans fCheck [@cvF V e] _; rw [he]; exact a) (fa (by show Ans fKCheck [@cvF V k] _; rw [hk]; exact a2) fz)) (fa (by show Ans fRCheck [@cvF V e] _; rw [he]; exact b) (fa (by show Ans fRKCheck [@cvF V k] _; rw [hk]; exact b2) fz))
  rw [he, hk] at this
  exact this
section
variable (x : Nat → Int) (y : Nat → Bool) (c : Nat → Int)
theorem q_ieq {V : Val} (j : Nat) (n : Int) {q : Bool} (h : (V.I j == n) = q) : @TETrue V ⟨.ieq, sI j, lI n, bR q⟩ := @f_ieq V (sI j) (lI n) .i64 (V.I j) n q rfl rfl h
theorem nb_true {V : Val} (n a m : Nat) (h1 : a ≠ 0 → (V.I (4 * n + a) == 0) = Nat.ble 1 m) (h2 : 1 ≤ m → a < 3 → (V.I (4 * n + a + 2) == 0) = Nat.ble 2 m) : ∀ e, e ∈ nbT n a m → @TETrue V e := by
  intro e he
  unfold nbT at he
  rcases List.mem_append.1 he with he | he
  · split at he
    · cases he
    · rename_i hn
      obtain rfl := List.mem_singleton.1 he
      exact q_ieq _ _ (h1 (by rintro rfl; exact hn rfl))
  · split at he
    · rename_i hn
      obtain rfl := List.mem_singleton.1 he
      simp only [Bool.and_eq_true] at hn
      exact q_ieq _ _ (h2 (Nat.le_of_ble_eq_true hn.1) (by have := hn.2; unfold Nat.blt at this; exact Nat.le_of_ble_eq_true this))
    · cases he
/-- Which neighbour is cut. -/
def nbM (n a : Nat) : Nat := if a ≠ 0 ∧ x (4 * n + a) ≠ 0 then 0 else if a < 3 ∧ x (4 * n + a + 2) ≠ 0 then 1 else 2
theorem nbM_1 (n a m : Nat) (hm : m = nbM x n a ∨ (2 ≤ m ∧ nbM x n a = 2)) (ha : a ≠ 0) : (x (4 * n + a) == 0) = Nat.ble 1 m := by
  unfold nbM at hm
  by_cases h : x (4 * n + a) = 0
  · have : 1 ≤ m := by
      rw [if_neg (by simp [h])] at hm
      split at hm <;> omega
    rw [Nat.ble_eq_true_of_le this]
    simpa using h
  · rw [if_pos ⟨ha, h⟩] at hm
    obtain rfl : m = 0 := by omega
    show _ = false
    simpa using h
theorem nbM_2 (n a m : Nat) (hm : m = nbM x n a ∨ (2 ≤ m ∧ nbM x n a = 2)) (h1 : 1 ≤ m) (ha : a < 3) : (x (4 * n + a + 2) == 0) = Nat.ble 2 m := by
  unfold nbM at hm
  have hn : ¬ (a ≠ 0 ∧ x (4 * n + a) ≠ 0) := fun h => by
    rw [if_pos h] at hm
    omega
  rw [if_neg hn] at hm
  by_cases h : x (4 * n + a + 2) = 0
  · rw [if_neg (by simp [h])] at hm
    have : 2 ≤ m := by omega
    rw [Nat.ble_eq_true_of_le this]
    simpa using h
  · rw [if_pos ⟨ha, h⟩] at hm
    obtain rfl : m = 1 := by omega
    show _ = false
    simpa using h
theorem bad_no (n a m : Nat) (ha : a < 4) (hm : m = nbM x n a ∨ (2 ≤ m ∧ nbM x n a = 2)) : badM a m = false := by
  unfold badM
  unfold nbM at hm
  match a, ha with
  | 0, _ =>
    rw [if_neg (by simp)] at hm
    have : m ≠ 0 := by
      rcases hm with hm | hm
      · split at hm <;> omega
      · omega
    rw [beq_ne this]
    rfl
  | 1, _ | 2, _ => rfl
  | 3, _ =>
    have : m ≠ 1 := by
      intro h
      subst h
      rcases hm with hm | hm
      · split at hm
        · omega
        · rw [if_neg (by omega)] at hm
          omega
      · omega
    rw [beq_ne this]
    rfl
theorem bad_op (n a : Nat) (ha : a < 3) : (Nat.beq a 0 && Nat.beq (nbM x n a) 0) = false := by
  match a, ha with
  | 0, _ =>
    unfold nbM
    rw [if_neg (by simp)]
    split <;> rfl
  | 1, _ | 2, _ => rfl
theorem app_tip (hv : valB x = true) (hc : Cut4 c) (h0 : c 0 = 1) : AppB (earF x y) (cutF c) := by
  letI V : Val := VC x y c
  have h := all2_all (all2_all tip_run (decide (x 0 ≥ c 3))) (decide (c 3 ≥ 3))
  have hz : c 1 = 0 ∧ c 2 = 0 := by unfold Cut4 at hc; omega
  refine @app_at V x y c hv hc (tipT (decide (x 0 ≥ c 3)) (decide (c 3 ≥ 3))) (earR 0) tipR h rfl (by unfold cutF; rw [h0, hz.1, hz.2]; rfl) (fa ?_ (fa ?_ (fa ?_ fz)))
  · exact @f_geq V (sI 0) (sI 23) .i64 (x 0) (c 3) _ rfl rfl rfl
  · exact @f_leq V (sI 23) (sI 0) .i64 (c 3) (x 0) _ rfl rfl rfl
  · exact @f_geq V (sI 23) (lI 3) .i64 (c 3) 3 _ rfl rfl rfl
theorem nats (h1 : 0 ≤ c 1 ∧ c 1 ≤ 1) (h2 : 0 ≤ c 2 ∧ c 2 < 4) : ∃ n a : Nat, n < 2 ∧ a < 4 ∧ c 1 = (n : Int) ∧ c 2 = (a : Int) := ⟨(c 1).toNat, (c 2).toNat, by omega, by omega, by omega, by omega⟩
theorem app_edge (hv : valB x = true) (hc : Cut4 c) (h0 : c 0 = 2) : AppB (earF x y) (cutF c) := by
  letI V : Val := VC x y c
  obtain ⟨n, a, hn, ha, e1, e2⟩ := nats c (by unfold Cut4 at hc; omega) (by unfold Cut4 at hc; omega)
  have hrun : edg1 n a = true := by
    match n, hn with
    | 0, _ => exact allU_lt edg_u a ha
    | 1, _ => exact allU_lt edg_l a ha
  obtain ⟨m, hm4, hm, hm2, hm3⟩ : ∃ m, m < 4 ∧ (m = nbM x n a ∨ (2 ≤ m ∧ nbM x n a = 2)) ∧ (2 ≤ m → Nat.beq m 2 = decide (x 0 ≥ 3)) ∧ (2 ≤ m → Nat.beq m 3 = decide (x 0 < 3)) := by
    have h3 : nbM x n a ≤ 2 := by
      unfold nbM
      split
      · omega
      · split <;> omega
    by_cases h2 : nbM x n a = 2
    · by_cases ht : x 0 ≥ 3
      · exact ⟨2, by omega, .inl h2.symm, fun _ => by rw [decide_eq_true ht]; rfl, fun _ => by rw [decide_eq_false (by omega)]; rfl⟩
      · exact ⟨3, by omega, .inr ⟨by omega, h2⟩, fun _ => by rw [decide_eq_false ht]; rfl, fun _ => by rw [decide_eq_true (by omega)]; rfl⟩
    · exact ⟨nbM x n a, by omega, .inl rfl, fun h => by omega, fun h => by omega⟩
  have hb := bad_no x n a m ha hm
  have h1 : (badM a m || all2 fun z => all2 fun g => apG (edgT n a m g z) (edgR n a)) = true := allU_lt hrun m hm4
  rw [hb, Bool.false_or] at h1
  have h : apG (edgT n a m (decide (x (slo n a) ≥ c 3)) (x (slo n a) == 0)) (edgR n a) = true := all2_all (all2_all h1 (x (slo n a) == 0)) (decide (x (slo n a) ≥ c 3))
  have hxs : ∀ i, i < 20 → vC x c i = x i := fun i hi => if_pos hi
  have hsl : slo n a < 20 := by unfold slo; omega
  refine @app_at V x y c hv hc (edgT n a m (decide (x (slo n a) ≥ c 3)) (x (slo n a) == 0)) (earR 0) (edgR n a) h rfl (by unfold cutF; rw [h0, e1, e2]; rfl) ?_
  intro e he
  unfold edgT at he
  rcases List.mem_append.1 he with he | he
  · rcases List.mem_append.1 he with he | he
    · refine fa (p := fun e => @TETrue V e) ?_ (fa ?_ fz) e he
      · refine @f_geq V (sI (slo n a)) (sI 23) .i64 (x (slo n a)) (c 3) _ ?_ rfl rfl
        show Value.int .i64 (vC x c (slo n a)) = _
        rw [hxs _ hsl]
      · refine q_ieq _ _ ?_
        show (vC x c (slo n a) == 0) = _
        rw [hxs _ hsl]
    · refine nb_true n a m (fun h => ?_) (fun h1 h2 => ?_) e he
      · show (vC x c _ == 0) = _
        rw [hxs _ (by omega)]
        exact nbM_1 x n a m hm h
      · show (vC x c _ == 0) = _
        rw [hxs _ (by omega)]
        exact nbM_2 x n a m hm h1 h2
  · split at he
    · rename_i h2
      have h2 := Nat.le_of_ble_eq_true h2
      refine fa (p := fun e => @TETrue V e) ?_ (fa ?_ fz) e he
      · exact @f_geq V (sI 0) (lI 3) .i64 (x 0) 3 _ rfl rfl (hm2 h2).symm
      · exact @f_lss V (sI 0) (lI 3) .i64 (x 0) 3 _ rfl rfl (hm3 h2).symm
    · cases he
theorem earH_cv {V : Val} (hx : ∀ i, i < 9 → V.I i = x i) (hy : ∀ i, V.B i = y i) {a : Nat} (ha : a < 3) {h : Bool} (hh : h = y a) : @cvF V (earH a h) = earF x y := by
  subst hh
  unfold earF
  match a, ha with
  | 0, _ | 1, _ | 2, _ =>
    rw [← hx 0 (by omega), ← hx 1 (by omega), ← hx 2 (by omega), ← hx 3 (by omega), ← hx 4 (by omega), ← hx 5 (by omega), ← hx 6 (by omega), ← hx 7 (by omega), ← hx 8 (by omega), ← hy 0, ← hy 1, ← hy 2]
    rfl
theorem app_pun (hv : valB x = true) (hc : Cut4 c) (h0 : c 0 = 3) : AppB (earF x y) (cutF c) := by
  letI V : Val := VC x y c
  obtain ⟨n, a, hn, ha, e1, e2⟩ := nats c (by unfold Cut4 at hc; omega) (by unfold Cut4 at hc; omega)
  have ha : a < 3 := by unfold Cut4 at hc; omega
  have hz : c 1 = 0 ∧ c 3 = 0 := by unfold Cut4 at hc; omega
  obtain ⟨m, hm4, hm0, hm1, hm2⟩ : ∃ m, m < 4 ∧ Nat.beq m 0 = y a ∧ (1 ≤ m → (x (1 + a) == 3) = Nat.beq m 1) ∧ (2 ≤ m → (x (5 + a) == 3) = Nat.beq m 2) := by
    by_cases hy : y a = true
    · exact ⟨0, by omega, hy.symm, fun h => by omega, fun h => by omega⟩
    · have hy : y a = false := by simpa using hy
      by_cases hu : x (1 + a) = 3
      · exact ⟨1, by omega, hy.symm, fun _ => by show _ = true; simpa using hu, fun h => by omega⟩
      · by_cases hl : x (5 + a) = 3
        · exact ⟨2, by omega, hy.symm, fun _ => by show _ = false; simpa using hu, fun _ => by show _ = true; simpa using hl⟩
        · exact ⟨3, by omega, hy.symm, fun _ => by show _ = false; simpa using hu, fun _ => by show _ = false; simpa using hl⟩
  have h := allU_lt (allU_lt pun_run a ha) m hm4
  have hxs : ∀ i, i < 20 → vC x c i = x i := fun i hi => if_pos hi
  refine @app_at V x y c hv hc _ _ _ h (earH_cv x y (fun i hi => hxs i (by omega)) (fun _ => rfl) ha hm0) (by unfold cutF; rw [h0, hz.1, hz.2, e2]; rfl) ?_
  intro e he
  unfold punT at he
  rcases List.mem_append.1 he with he | he
  · split at he
    · rename_i h1
      obtain rfl := List.mem_singleton.1 he
      refine q_ieq _ _ ?_
      show (vC x c _ == 3) = _
      rw [hxs _ (by omega)]
      exact hm1 (Nat.le_of_ble_eq_true h1)
    · cases he
  · split at he
    · rename_i h1
      obtain rfl := List.mem_singleton.1 he
      refine q_ieq _ _ ?_
      show (vC x c _ == 3) = _
      rw [hxs _ (by omega)]
      exact hm2 (Nat.le_of_ble_eq_true h1)
    · cases he
theorem app_open (hv : valB x = true) (hc : Cut4 c) (h0 : c 0 = 4) : AppB (earF x y) (cutF c) := by
  letI V : Val := VC x y c
  obtain ⟨n, a, hn, ha, e1, e2⟩ := nats c (by unfold Cut4 at hc; omega) (by unfold Cut4 at hc; omega)
  have ha : a < 3 := by unfold Cut4 at hc; omega
  have hz : c 3 = 0 := by unfold Cut4 at hc; omega
  have hrun : opn1 n a = true := by
    match n, hn, a, ha with
    | 0, _, 0, _ => exact opn_00
    | 0, _, 1, _ => exact opn_01
    | 0, _, 2, _ => exact opn_02
    | 1, _, 0, _ => exact opn_10
    | 1, _, 1, _ => exact opn_11
    | 1, _, 2, _ => exact opn_12
  have h3 : nbM x n a < 3 := by
      unfold nbM
      split
      · omega
      · split <;> omega
  have h1 : ((Nat.beq a 0 && Nat.beq (nbM x n a) 0) || all2 fun z => all2 fun h => apH (opnT n a (nbM x n a) z) (earH a h) (opnR n a)) = true := allU_lt hrun (nbM x n a) h3
  have hb := bad_op x n a ha
  rw [hb, Bool.false_or] at h1
  have h : apH (opnT n a (nbM x n a) (x (slo n a) == 0)) (earH a (y a)) (opnR n a) = true := all2_all (all2_all h1 (x (slo n a) == 0)) (y a)
  have hxs : ∀ i, i < 20 → vC x c i = x i := fun i hi => if_pos hi
  refine @app_at V x y c hv hc _ _ _ h (earH_cv x y (fun i hi => hxs i (by omega)) (fun _ => rfl) ha rfl) (by unfold cutF; rw [h0, hz, e1, e2]; rfl) ?_
  intro e he
  unfold opnT at he
  rcases List.mem_append.1 he with he | he
  · obtain rfl := List.mem_singleton.1 he
    refine q_ieq _ _ ?_
    show (vC x c _ == 0) = _
    rw [hxs _ (by unfold slo; omega)]
  · refine nb_true n a _ (fun h => ?_) (fun h1 h2 => ?_) e he
    · show (vC x c _ == 0) = _
      rw [hxs _ (by omega)]
      exact nbM_1 x n a _ (.inl rfl) h
    · show (vC x c _ == 0) = _
      rw [hxs _ (by omega)]
      exact nbM_2 x n a _ (.inl rfl) h1 h2
/-- Apply answers the same in both packages. -/
theorem app_both : AppB (earF x y) (cutF c) := by
  cases hv : valB x with
  | false => exact app_bad x y c hv
  | true =>
    by_cases hc : Cut4 c
    · have hk : c 0 = 1 ∨ c 0 = 2 ∨ c 0 = 3 ∨ c 0 = 4 := by unfold Cut4 at hc; omega
      rcases hk with h | h | h | h
      · exact app_tip x y c hv hc h
      · exact app_edge x y c hv hc h
      · exact app_pun x y c hv hc h
      · exact app_open x y c hv hc h
    · exact app_not x y c hv hc
end
end Go.Proofs.Z
