/- A part of the proofs that the laws of layer one answer true for every input. -/
import Derived.Test.YtedbdpaioikhgaaDoorZBuild1
namespace Go.Proofs.Z
open Go Go.RowKit Go.Proofs Go.Ri
/-- The names in Build: the number, the length, an element's cells, the next number, the row so far. -/
noncomputable def bnm (l : List Value) (n i : Nat) (s : Nat → Int) : Nm := ⟨fun j => if j = 0 then i else if j = 1 then n else if j < 6 then intOf (l.getD (i * 4 + (j - 2)) undef) else if j = 6 then (i : Int) + 1 else s (j - 20), fun _ => false, fun _ => ⟨#[]⟩, fun _ => l⟩
theorem row_eq {l : List Value} (hl : ints l) (i : Nat) (h : i * 4 + 4 ≤ l.length) : row l i = [.int .i64 (intOf (l.getD (i * 4) undef)), .int .i64 (intOf (l.getD (i * 4 + 1) undef)), .int .i64 (intOf (l.getD (i * 4 + 2) undef)), .int .i64 (intOf (l.getD (i * 4 + 3) undef))] := row4 hl i h
section
variable {l : List Value} {n : Nat} (hl : ints l) (hn : l.length = n * 4) (hb : n ≤ 1000000)
include hn in
theorem bLL (i : Nat) (s : Nat → Int) (W : Nat → Value) : ∀ e, e ∈ ([⟨0, 4, sI 1⟩] : List LNE) → @LLTrue ((bnm l n i s).val W) e := by
  intro e he
  simp only [List.mem_cons, List.not_mem_nil, or_false] at he
  subst he
  exact ⟨rfl, n, Nat.succ_pos 3, hn, rfl⟩
include hb in
theorem bBase_true (i : Nat) (hi : i ≤ n) (s : Nat → Int) (W : Nat → Value) (b : Bool) (hbb : b = decide (i < n)) : ∀ e, e ∈ bBase b → @TETrue ((bnm l n i s).val W) e := by
  letI : Val := (bnm l n i s).val W
  intro e he
  simp only [bBase, List.mem_cons, List.not_mem_nil, or_false] at he
  rcases he with rfl | rfl | rfl
  · refine te_lss 0 1 b ?_
    show decide ((i : Int) < (n : Int)) = b
    rw [hbb]
    simp
  · refine te_inb 0 1 b ?_
    show decide (0 ≤ (i : Int) ∧ (i : Int) < (n : Int)) = b
    rw [hbb]
    simp
  · exact te_add1 0 6 i rfl rfl (by omega) (by omega)
include hn hb in
theorem bGood_ok (i : Nat) (hi : i < n) (s : Nat → Int) (W : Nat → Value) (p v : Nat) (hp : p < 12) (h1 : 1 ≤ v) (h2 : v < vc p) (hrow : row l i = featC p v) : @TbOK ((bnm l n i s).val W) (bGood p v (s p == 0)) := by
  letI : Val := (bnm l n i s).val W
  refine { LL := bLL hn i s W, T := ?_, LX := ?_, Y := ?_ }
  · intro e he
    simp only [bGood, List.mem_cons] at he
    rcases he with rfl | he
    · refine ⟨rfl, ?_⟩
      have e1 : Val.I (20 + p) = s p := by
        show (if 20 + p = 0 then _ else if 20 + p = 1 then _ else if 20 + p < 6 then _ else if 20 + p = 6 then _ else s (20 + p - 20)) = _
        rw [if_neg (by omega), if_neg (by omega), if_neg (by omega), if_neg (by omega), Nat.add_sub_cancel_left]
      show TCTrue .ieq (.int .i64 (Val.I (20 + p))) _ _
      rw [e1]
      exact t_ieq .i64 (s p) 0
    · exact bBase_true hb i (Nat.le_of_lt hi) s W true (by simp [hi]) e he
  · intro e he
    simp only [bGood, List.mem_cons, List.not_mem_nil, or_false] at he
    subst he
    have := loc_good p v hp h1 h2
    show Ans fLocate [Value.agg ((litR p v).map cv).toArray] _
    rw [litR_cv]
    exact this
  · intro e he
    simp only [bGood, List.mem_cons, List.not_mem_nil, or_false] at he
    subst he
    obtain ⟨g1, g2⟩ := litR_flat p v
    refine ⟨g1, ?_, ?_⟩
    · show ((i : Int)).toNat * (litR p v).length + (litR p v).length ≤ l.length
      rw [g2, Int.toNat_natCast]
      omega
    · show (l.drop (((i : Int)).toNat * (litR p v).length)).take (litR p v).length = _
      rw [g2, Int.toNat_natCast, litR_cv]
      exact hrow
include hl hn hb in
theorem bBad_ok (i : Nat) (hi : i < n) (s : Nat → Int) (W : Nat → Value) (hrow : badF (row l i)) : @TbOK ((bnm l n i s).val W) bBad := by
  letI : Val := (bnm l n i s).val W
  have h4 : i * 4 + 4 ≤ l.length := by omega
  have hr := row_eq hl i h4
  refine { LL := bLL hn i s W, T := ?_, LX := ?_, Y := ?_ }
  · exact bBase_true hb i (Nat.le_of_lt hi) s W true (by simp [hi])
  · intro e he
    simp only [bBad, List.mem_cons, List.not_mem_nil, or_false] at he
    subst he
    obtain ⟨a, b, c, d, j, e1, hj, hq⟩ := hrow
    have := loc_none a b c d j hj hq
    rw [e1] at hr
    have e2 : ([Value.int .i64 a, .int .i64 b, .int .i64 c, .int .i64 d] : List Value) = cell4.map (@cv ((bnm l n i s).val W)) := hr
    show Ans fLocate [Value.agg (cell4.map cv).toArray] _
    rw [← e2]
    exact this
  · intro e he
    simp only [bBad, List.mem_cons, List.not_mem_nil, or_false] at he
    subst he
    refine ⟨rfl, ?_, ?_⟩
    · show ((i : Int)).toNat * 4 + 4 ≤ l.length
      rw [Int.toNat_natCast]
      exact h4
    · show (l.drop (((i : Int)).toNat * 4)).take 4 = _
      rw [Int.toNat_natCast]
      exact hr
end
theorem zE_eq : (Value.agg zEL.toArray) = zE := rfl
theorem good_or {l : List Value} (hl : ints l) (i : Nat) (h : i * 4 + 4 ≤ l.length) : badF (row l i) ∨ ∃ p v, p < 12 ∧ 1 ≤ v ∧ v < vc p ∧ row l i = featC p (v : Nat) := by
  rw [row_eq hl i h]
  rcases feat_or (intOf (l.getD (i * 4) undef)) (intOf (l.getD (i * 4 + 1) undef)) (intOf (l.getD (i * 4 + 2) undef)) (intOf (l.getD (i * 4 + 3) undef)) with h | ⟨j, hj, hq⟩
  · exact .inr h
  · exact .inl ⟨_, _, _, _, j, rfl, hj, hq⟩
theorem build_ans (V : Val) (l : List Value) (hL : V.L 0 = l) (hl : ints l) (n : Nat) (hn : l.length = n * 4) (hb : n ≤ 1000000) : @AnsN V fBuild bds (bV (bld l n)) := by
  intro w hr vs hv
  refine fn_loop (κ := Unit) (bnm l n 0 fun _ => 0) (fun _ => undef) bStart [] fBuild bds bpat (fun m _ c => ∃ i s, i ≤ n ∧ m = n - i ∧ bld l i = some s ∧ c = bnm l n i s) ?_ bSIds [0, 1, 2] () n b_enter (bnm l n 0 fun _ => 0) ?_ ⟨0, fun _ => 0, Nat.zero_le _, rfl, rfl, rfl⟩ (DF (bV (bld l n))) ?_ w hr vs ?_
  · letI : Val := (bnm l n 0 fun _ => 0).val fun _ => undef
    exact { LL := bLL hn 0 (fun _ => 0) _ }
  · intro W'
    refine holds_all fun e he => ?_
    simp only [bSIds, fids, List.map_cons, List.map_nil, List.mem_cons, List.not_mem_nil, or_false] at he
    rcases he with rfl | rfl | rfl | rfl | rfl | rfl | rfl | rfl | rfl | rfl | rfl | rfl | rfl | rfl | rfl
    · exact ⟨.i64, 0, rfl, rfl⟩
    · exact ⟨.i64, n, rfl, rfl⟩
    · rfl
    all_goals exact ⟨.i64, 0, rfl, rfl⟩
  · rintro w m k c ⟨i, s, hi, rfl, hs, rfl⟩ W
    by_cases hlt : i < n
    · have h4 : i * 4 + 4 ≤ l.length := by omega
      have hnext : bld l (i + 1) = bldS s (row l i) := by
        show (match bld l i with | some s => bldS s (row l i) | none => none) = _
        rw [hs]
      have stop : bldS s (row l i) = none → @cvF ((bnm l n i s).val W) (errR 11) = bV (bld l n) := fun h => by
        rw [bld_none l (i + 1) (hnext.trans h) n hlt]
        rfl
      rcases Classical.em (badF (row l i)) with hbad | hbad
      · refine step_outF bBad [] (bBad_ok hl hn hb i hlt s W hbad) (errR 11) b_bad (stop ?_)
        unfold bldS
        rw [dec_none hbad]
      · rcases good_or hl i h4 with h | ⟨p, v, hp, h1, h2, hrow⟩
        · exact absurd h hbad
        · have hd : dec (row l i) = some (p, v) := by
            rw [hrow] at hbad ⊢
            exact dec_some hp h1 h2 hbad
          have hc : (Nat.ble 1 v && Nat.blt v (vc p)) = true := by rw [Nat.ble_eq_true_of_le h1, blt_of h2]; rfl
          by_cases hz : s p = 0
          · have hstep : bldS s (row l i) = some (upd s p v) := by
              unfold bldS
              rw [hd]
              show (if s p = 0 then some (upd s p v) else none) = _
              rw [if_pos hz]
            have hrun := allU_lt (allU_lt b_again p hp) v (vc5 h2)
            unfold bAgain at hrun
            rw [hc] at hrun
            have htb := bGood_ok hn hb i hlt s W p v hp h1 h2 hrow
            rw [show (s p == 0) = true by simp [hz]] at htb
            refine step_to (bGood p v true) [] htb (bIds p v) [0, 1, 2] () (bnm l n (i + 1) (upd s p v)) hrun ?_ ⟨n - (i + 1), by omega, i + 1, upd s p v, hlt, rfl, hnext.trans hstep, rfl⟩
            intro W'
            have hcell : ∀ j, j < 12 → j ≠ p → (bnm l n (i + 1) (upd s p v)).I (20 + j) = (bnm l n i s).I (20 + j) := by
              intro j hj hne
              show (if 20 + j = 0 then _ else if 20 + j = 1 then _ else if 20 + j < 6 then _ else if 20 + j = 6 then _ else upd s p v (20 + j - 20)) = (if 20 + j = 0 then _ else if 20 + j = 1 then _ else if 20 + j < 6 then _ else if 20 + j = 6 then _ else s (20 + j - 20))
              rw [if_neg (by omega), if_neg (by omega), if_neg (by omega), if_neg (by omega), if_neg (by omega), if_neg (by omega), if_neg (by omega), if_neg (by omega), Nat.add_sub_cancel_left]
              unfold upd
              rw [if_neg hne]
            have hpv : (bnm l n (i + 1) (upd s p v)).I (20 + p) = v := by
              show (if 20 + p = 0 then _ else if 20 + p = 1 then _ else if 20 + p < 6 then _ else if 20 + p = 6 then _ else upd s p v (20 + p - 20)) = _
              rw [if_neg (by omega), if_neg (by omega), if_neg (by omega), if_neg (by omega), Nat.add_sub_cancel_left]
              unfold upd
              rw [if_pos rfl]
            refine holds_all fun e he => ?_
            simp only [bIds, idI, List.mem_cons, List.mem_map, List.mem_filter] at he
            rcases he with rfl | rfl | rfl | rfl | ⟨j, ⟨hj, hjp⟩, rfl⟩
            · exact ⟨.i64, (i : Int) + 1, rfl, rfl⟩
            · exact ⟨.i64, n, rfl, rfl⟩
            · rfl
            · exact ⟨.i64, v, rfl, hpv⟩
            · obtain ⟨q, hq, rfl⟩ : ∃ q, q < 12 ∧ j = 20 + q := by
                simp only [fids, List.mem_cons, List.not_mem_nil, or_false] at hj
                exact ⟨j - 20, by omega, by omega⟩
              have hqp : q ≠ p := by
                rintro rfl
                simp at hjp
              exact ⟨.i64, _, rfl, hcell q hq hqp⟩
          · have hstep : bldS s (row l i) = none := by
              unfold bldS
              rw [hd]
              show (if s p = 0 then some (upd s p v) else none) = _
              rw [if_neg hz]
            have hrun := allU_lt (allU_lt b_twice p hp) v (vc5 h2)
            unfold bTwice at hrun
            rw [hc] at hrun
            have htb := bGood_ok hn hb i hlt s W p v hp h1 h2 hrow
            rw [show (s p == 0) = false by simpa using hz] at htb
            exact step_outF (bGood p v false) [] htb (errR 11) hrun (stop hstep)
    · obtain rfl : i = n := by omega
      rw [hs]
      have ht : @TbOK ((bnm l i i s).val W) (bEnd (earY s 0) (earY s 1) (earY s 2) (valB s)) := by
        letI : Val := (bnm l i i s).val W
        refine { LL := bLL hn i s W, T := ?_, Y := ?_ }
        · intro e he
          simp only [bEnd, List.mem_append] at he
          rcases he with he | he
          · simp only [bitT, List.mem_cons, List.not_mem_nil, or_false] at he
            rcases he with rfl | rfl | rfl
            · exact ⟨rfl, by show TCTrue .ieq (.int .i64 (s 9)) (.int .i64 0) (.bool !!(s 9 == 0)); rw [Bool.not_not]; exact t_ieq .i64 (s 9) 0⟩
            · exact ⟨rfl, by show TCTrue .ieq (.int .i64 (s 10)) (.int .i64 0) (.bool !!(s 10 == 0)); rw [Bool.not_not]; exact t_ieq .i64 (s 10) 0⟩
            · exact ⟨rfl, by show TCTrue .ieq (.int .i64 (s 11)) (.int .i64 0) (.bool !!(s 11 == 0)); rw [Bool.not_not]; exact t_ieq .i64 (s 11) 0⟩
          · exact bBase_true hb i (Nat.le_refl _) s W false (by simp) e he
        · intro e he
          simp only [bEnd, List.mem_cons, List.not_mem_nil, or_false] at he
          subst he
          have := chk_ans s (earY s)
          cases hvb : valB s <;> rw [hvb] at this <;> exact this
      have ho := all2_all (all2_all (all2_all (all2_all b_out (valB s)) (earY s 0)) (earY s 1)) (earY s 2)
      refine step_outF _ [] ht _ ho ?_
      cases hvb : valB s
      · show _ = (if valB s then _ else _)
        rw [hvb]
        rfl
      · show _ = (if valB s then _ else _)
        rw [hvb]
        rfl
  · cases hv with
    | cons h1 h2 =>
      cases h2
      obtain ⟨a, m, cap, g1, g2, g3, g4, g5, g6⟩ := h1
      rw [hL] at g2 g4 g6
      exact .cons ⟨a, m, cap, g1, g2, g3, g4, g5, g6⟩ .nil
end Go.Proofs.Z
