/- A part of the proofs that the laws of layer one answer true for every input. -/
import Derived.Test.YtedbdpaioikhgaaDoorZBt7
namespace Go.Proofs.Z
open Go Go.RowKit Go.Proofs Go.Ri
/-! The law EarBuilt, whole. -/
section
variable (x : Nat → Int) (y : Nat → Bool) (lv tu : List Value)
theorem rest2_empty (mixed rest : List Nat) (hr : rest ≠ []) : (rest2 tu mixed rest).isEmpty = Nat.beq (cut (kO tu mixed rest) rest.length) 3 := by
  have hl : 0 < rest.length := by
    cases rest with
    | nil => exact absurd rfl hr
    | cons a b => simp
  have hk : kO tu mixed rest < rest.length := Nat.mod_lt _ hl
  unfold rest2
  generalize kO tu mixed rest = k at hk
  have hlen : (rest.take k ++ rest.drop (k + 1)).length = rest.length - 1 := by
    rw [List.length_append, List.length_take, List.length_drop]
    omega
  by_cases hr1 : rest.length = 1
  · have e : rest.take k ++ rest.drop (k + 1) = [] := List.eq_nil_of_length_eq_zero (by omega)
    rw [e, show cut k rest.length = 3 by unfold cut; rw [if_pos (by omega), if_pos hr1]]
    rfl
  · have hc : cut k rest.length ≠ 3 := by
      unfold cut
      split
      · decide
      · split <;> decide
    have hb : Nat.beq (cut k rest.length) 3 = false := by
      cases h : Nat.beq (cut k rest.length) 3 with
      | false => rfl
      | true => exact absurd (Nat.eq_of_beq_eq_true h) hc
    rw [hb]
    cases h : rest.take k ++ rest.drop (k + 1) with
    | nil =>
      rw [h] at hlen
      simp at hlen
      omega
    | cons a b => rfl
theorem rest2_len (mixed rest : List Nat) (hr : rest ≠ []) : (rest2 tu mixed rest).length < rest.length := by
  have hl : 0 < rest.length := by
    cases rest with
    | nil => exact absurd rfl hr
    | cons a b => simp
  have hk : kO tu mixed rest < rest.length := Nat.mod_lt _ hl
  unfold rest2
  rw [List.length_append, List.length_take, List.length_drop]
  omega
theorem at_head2 (hv : valB x = true) (htu : u8s tu) (tn : Bool) (htn : tn = true → tu = []) (kept : List Nat) (hk : kept.Sublist (PL x y)) (hP : PL x y ≠ []) (w : World) :
    AtHead fEarBuilt B2 K2 w.heap.size w (DF (.bool true) w) (pat2 tn kept.isEmpty true false) (N2 x y lv tu kept [] (PL x y)) := by
  intro fn hf W E a w' hS
  have hPe : (PL x y).isEmpty = false := by simpa using hP
  refine loop_wp hf B2 K2 (fun κ : Bool × Bool => pat2 tn kept.isEmpty κ.1 κ.2) w.heap.size w (DF (.bool true) w) (fun m κ c => ∃ mixed rest, (mixed ++ rest).Perm (PL x y) ∧ m = rest.length ∧ κ = (mixed.isEmpty, rest.isEmpty) ∧ c = N2 x y lv tu kept mixed rest) ?_ (PL x y).length (true, false) _ W E a w' ⟨[], PL x y, .refl _, rfl, by rw [hPe]; rfl, rfl⟩ hS
  rintro m κ c ⟨mixed, rest, hp, rfl, rfl, rfl⟩ W
  by_cases hr : rest = []
  · subst hr
    have hp' : mixed.Perm (PL x y) := by simpa using hp
    have hme : mixed.isEmpty = false := by
      cases mixed with
      | nil => exact absurd hp'.symm.eq_nil hP
      | cons a b => rfl
    refine step_outF (tb2e kept.isEmpty) [] (tb2e_ok x y lv tu hv kept mixed hk hp' W) (bR true) ?_ rfl
    rw [hme]
    exact all2_all (all2_all bt_out2 tn) kept.isEmpty
  · have hlen : mixed.length + rest.length ≤ 12 := by
      have := hp.length_eq
      rw [List.length_append] at this
      have h2 : (PL x y).length ≤ 12 := pls_len _ _
      omega
    have hre : rest.isEmpty = false := by simpa using hr
    have hm2 : (mixed2 tu mixed rest).isEmpty = false := by
      unfold mixed2
      cases mixed <;> rfl
    refine step_to (tb2 (cut (kO tu mixed rest) rest.length) tn) [] (tb2_ok x y lv tu htu tn htn kept mixed rest hr hlen W) (ids2 (cut (kO tu mixed rest) rest.length) mixed.isEmpty) (blk2 (cut (kO tu mixed rest) rest.length) tn kept.isEmpty mixed.isEmpty) (false, (rest2 tu mixed rest).isEmpty) (N2 x y lv tu kept (mixed2 tu mixed rest) (rest2 tu mixed rest)) ?_ (ids2_ok x y lv tu kept mixed rest hr W)
      ⟨(rest2 tu mixed rest).length, rest2_len tu mixed rest hr, mixed2 tu mixed rest, rest2 tu mixed rest, (perm2 tu mixed rest hr).trans hp, rfl, by rw [hm2], rfl⟩
    rw [hre, rest2_empty tu mixed rest hr]
    exact all2_all (all2_all (all2_all (allU_lt bt_again2 _ (cut_lt _ _)) tn) kept.isEmpty) mixed.isEmpty
theorem kept1_empty (i : Nat) (kept : List Nat) : (kept1 x y lv i kept).isEmpty = sn1 (mode1 lv i) kept.isEmpty := by
  unfold kept1 sn1
  by_cases h : mode1 lv i = 2
  · rw [if_pos h, h]
    rfl
  · have hb : Nat.beq (mode1 lv i) 2 = false := by
      cases h2 : Nat.beq (mode1 lv i) 2 with
      | false => rfl
      | true => exact absurd (Nat.eq_of_beq_eq_true h2) h
    rw [if_neg h, hb]
    cases kept <;> rfl
theorem built_main (hv : valB x = true) (hlv : bools lv) (htu : u8s tu) (tn ln : Bool) (htn : tn = true → tu = []) (hln : ln = true → lv = []) (hP : PL x y ≠ []) (w : World) (hr : RoIn ro w) (vs : List Value) (hvs : All2 (@Go.Ri.NVal ((N1 x y lv tu 0 []).val fun _ => undef) w) (btArgs tn ln) vs) :
    Calls Tryd.prog fEarBuilt vs.toArray w (DF (.bool true) w) := by
  have hn0 : 0 < (PL x y).length := by
    cases h : PL x y with
    | nil => exact absurd h hP
    | cons a b => simp
  refine fn_loopL (κ := Bool × Bool) (N1 x y lv tu 0 []) (fun _ => undef) btStart [] fEarBuilt (btArgs tn ln) (fun κ => pat1 tn ln κ.1 κ.2) (fun m κ c => ∃ i kept, i ≤ (PL x y).length ∧ m = (PL x y).length - i ∧ kept.Sublist ((PL x y).take i) ∧ κ = (kept.isEmpty, Nat.beq i 0) ∧ c = N1 x y lv tu i kept) ?_ stIds (rngN (fl tn + fl ln + 2)) (true, true) (PL x y).length
    (all2_all (all2_all bt_enter tn) ln) (N1 x y lv tu 0 []) ?_ ⟨0, [], Nat.zero_le _, rfl, List.nil_sublist _, rfl, rfl⟩ (DF (.bool true)) ?_ w hr vs hvs
  · letI : Val := (N1 x y lv tu 0 []).val fun _ => undef
    refine { X := sanexB, Q := ?_ }
    intro e he
    obtain rfl : e = ⟨fFeatures, [earR 0], .tup [.slN 0 0 4, lI 0], [some (.lst 0 47 true)]⟩ := List.mem_singleton.1 he
    have := features_ans x y hv ((N1 x y lv tu 0 []).val fun _ => undef) (featL_cs (shp x y) 12).symm
    have hne : (featL (shp x y) 12).isEmpty = false := by
      rw [featL_cs]
      simpa using cs_nil (s := shp x y) hP
    rw [hne] at this
    exact this
  · intro W'
    refine holds_all fun e he => ?_
    simp only [stIds, List.mem_cons] at he
    rcases he with rfl | rfl | he
    · exact ⟨.i64, 0, rfl, rfl⟩
    · rfl
    · exact @eIds_ok ((N1 x y lv tu 0 []).val fun _ => undef) ((N1 x y lv tu 0 []).val W') (fun _ _ => rfl) (fun _ _ => rfl) rfl rfl e he
  · rintro w m κ c ⟨i, kept, hi, rfl, hk, rfl, rfl⟩ W
    have hkl : kept.length ≤ i := by
      have := hk.length_le
      rw [List.length_take] at this
      omega
    by_cases hlt : i < (PL x y).length
    · refine .inl (step_to (tb1 (mode1 lv i)) [] (tb1_ok x y lv tu hlv i kept hlt hkl W) (ids1 (mode1 lv i) kept.isEmpty (Nat.beq i 0)) (blk1 (mode1 lv i) tn ln kept.isEmpty (Nat.beq i 0)) ((kept1 x y lv i kept).isEmpty, false) (N1 x y lv tu (i + 1) (kept1 x y lv i kept)) ?_ (ids1_ok x y lv tu i kept hlt W)
        ⟨(PL x y).length - (i + 1), by omega, i + 1, kept1 x y lv i kept, hlt, rfl, ?_, rfl, rfl⟩)
      · rw [kept1_empty]
        cases hl : ln with
        | false => exact all2_all (all2_all (all2_all (allU_lt bt_again1 _ (mode1_lt lv i)) tn) kept.isEmpty) (Nat.beq i 0)
        | true =>
          have h0 : mode1 lv i = 0 := by
            unfold mode1
            rw [hln hl, if_neg (by simp)]
          rw [h0]
          exact all2_all (all2_all (all2_all bt_again1n tn) kept.isEmpty) (Nat.beq i 0)
      · rw [take_succ' _ _ hlt]
        unfold kept1
        split
        · exact hk.trans (List.sublist_append_left _ _)
        · exact hk.append (.refl _)
    · obtain rfl : i = (PL x y).length := by omega
      have hb0 : Nat.beq (PL x y).length 0 = false := by
        cases h : Nat.beq (PL x y).length 0 with
        | false => rfl
        | true =>
          have := Nat.eq_of_beq_eq_true h
          omega
      rw [List.take_length] at hk
      refine .inr ⟨tb1e, [], ids12 kept.isEmpty, blk12 tn ln kept.isEmpty, pat2 tn kept.isEmpty true false, N2 x y lv tu kept [] (PL x y), ?_, ?_, ?_, ?_⟩
      · letI : Val := (N1 x y lv tu (PL x y).length kept).val W
        refine { T := ?_, LL := ?_ }
        · intro e he
          obtain rfl : e = ⟨.bin .lss, sI 100, sI 101, bR false⟩ := List.mem_singleton.1 he
          refine te_lss 100 101 false ?_
          show decide (((PL x y).length : Int) < ((PL x y).length : Int)) = false
          simp
        · intro e he
          obtain rfl : e = ⟨0, 4, sI 101⟩ := List.mem_singleton.1 he
          exact ⟨rfl, (PL x y).length, by decide, cs_len _ _, rfl⟩
      · rw [hb0]
        exact all2_all (all2_all (all2_all bt_out1 tn) ln) kept.isEmpty
      · intro W'
        refine holds_all fun e he => ?_
        simp only [ids12, List.cons_append, List.mem_cons, List.mem_append] at he
        rcases he with rfl | he | rfl | he
        · exact ⟨.i64, 0, rfl, rfl⟩
        · split at he
          · cases he
          · obtain rfl : e = .lst 0 2 := List.mem_singleton.1 he
            rfl
        · show cs (shp x y) (PL x y) = cs (shp x y) ((PL x y).take (PL x y).length)
          rw [List.take_length]
        · have hI : ∀ j, j < 9 → (N2 x y lv tu kept [] (PL x y)).I j = (N1 x y lv tu (PL x y).length kept).I j := by
            intro j hj
            show (if j < 9 then x j else _) = (if j < 9 then x j else _)
            rw [if_pos hj, if_pos hj]
          have hB : ∀ j, j < 3 → (N2 x y lv tu kept [] (PL x y)).B j = (N1 x y lv tu (PL x y).length kept).B j := by
            intro j hj
            show (if j < 40 then y j else _) = y j
            rw [if_pos (by omega)]
          have h6 : (N2 x y lv tu kept [] (PL x y)).L 6 = (N1 x y lv tu (PL x y).length kept).L 6 := by
            show tu = tu
            rfl
          have h1 : (N2 x y lv tu kept [] (PL x y)).L 1 = (N1 x y lv tu (PL x y).length kept).L 1 := by
            show lv = lv
            rfl
          exact @eIds_ok ((N1 x y lv tu (PL x y).length kept).val W) ((N2 x y lv tu kept [] (PL x y)).val W') hI hB h6 h1 e he
      · rw [hb0]
        have e1 := b2_eq tn ln kept.isEmpty
        have e2 := k2_eq tn ln kept.isEmpty
        show AtHead fEarBuilt (oB (r12 tn ln kept.isEmpty)) (oK (r12 tn ln kept.isEmpty)) _ _ _ _ _
        rw [e1, e2]
        exact at_head2 x y lv tu hv htu tn htn kept hk hP w
end
end Go.Proofs.Z
