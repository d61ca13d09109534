/- A part of the proofs that the laws of layer one answer true for every input. -/
import Derived.Test.YtedbdpaioikhgaaGreatDoorZRBuild1
namespace Go.Proofs.Z
open Go Go.RowKit Go.Proofs Go.Ri
/-- The names in the specification's Build. -/
noncomputable def rbnm (l : List Value) (n i : Nat) (s : Nat → Int) : Nm := ⟨(bnm l n i s).I, earY s, fun _ => ⟨#[]⟩, fun _ => l⟩
section
variable {l : List Value} {n : Nat} (hl : ints l) (hn : l.length = n * 4) (hb : n ≤ 1000000)
include hn in
theorem rbLL (i : Nat) (s : Nat → Int) (W : Nat → Value) : ∀ e, e ∈ ([⟨0, 4, sI 1⟩] : List LNE) → @LLTrue ((rbnm l n i s).val W) e := by
  intro e he
  simp only [List.mem_cons, List.not_mem_nil, or_false] at he
  subst he
  exact ⟨rfl, n, Nat.succ_pos 3, hn, rfl⟩
include hb in
theorem rbBase_true (i : Nat) (hi : i ≤ n) (s : Nat → Int) (W : Nat → Value) (b : Bool) (hbb : b = decide (i < n)) : ∀ e, e ∈ bBase b → @TETrue ((rbnm l n i s).val W) e := by
  letI : Val := (rbnm l n i s).val W
  intro e he
  simp only [bBase, List.mem_cons, List.not_mem_nil, or_false] at he
  rcases he with rfl | rfl | rfl
  · refine te_lss 0 1 b ?_
    show decide ((i : Int) < (n : Int)) = b
    rw [hbb]
    simp
  · refine te_inb 0 1 b ?_
    show decide (0 ≤ (i : Int) ∧ (i : Int) < (n : Int)) = b
    rw [hbb]
    simp
  · exact te_add1 0 6 i rfl rfl (by omega) (by omega)
theorem bnm20 (i : Nat) (s : Nat → Int) (p : Nat) : (bnm l n i s).I (20 + p) = s p := by
  show (if 20 + p = 0 then _ else if 20 + p = 1 then _ else if 20 + p < 6 then _ else if 20 + p = 6 then _ else s (20 + p - 20)) = _
  rw [if_neg (by omega), if_neg (by omega), if_neg (by omega), if_neg (by omega), Nat.add_sub_cancel_left]
theorem zT_true (i : Nat) (s : Nat → Int) (W : Nat → Value) (p : Nat) : @TETrue ((rbnm l n i s).val W) (zT p (s p == 0)) := by
  unfold zT
  split
  · refine ⟨rfl, ?_⟩
    show TCTrue .ieq (.int .i64 ((bnm l n i s).I (20 + p))) _ _
    rw [bnm20]
    exact t_ieq .i64 (s p) 0
  · rename_i hp
    refine ⟨rfl, ?_⟩
    have e : earY s (p - 9) = !(s p == 0) := by
      show (!(s (9 + (p - 9)) == 0)) = _
      rw [show 9 + (p - 9) = p by omega]
    show TCTrue .truth (.bool (earY s (p - 9))) _ (.bool !(s p == 0))
    rw [e]
    exact t_truth _ _
include hn hb in
theorem rbGood_ok (i : Nat) (hi : i < n) (s : Nat → Int) (W : Nat → Value) (p v : Nat) (hp : p < 12) (h1 : 1 ≤ v) (h2 : v < vc p) (hrow : row l i = featC p v) : @TbOK ((rbnm l n i s).val W) (rbGood p v (s p == 0)) := by
  letI : Val := (rbnm l n i s).val W
  refine { LL := rbLL hn i s W, T := ?_, Y := ?_, LX := ?_ }
  · intro e he
    simp only [rbGood, List.mem_cons] at he
    rcases he with rfl | he
    · exact zT_true i s W p
    · exact rbBase_true hb i (Nat.le_of_lt hi) s W true (by simp [hi]) e he
  · intro e he
    simp only [rbGood, List.mem_cons, List.not_mem_nil, or_false] at he
    subst he
    have := plc_good p v hp h1 h2
    show Ans fPlace [Value.agg ((litR p v).map cv).toArray] _
    rw [litR_cv]
    exact this
  · intro e he
    simp only [rbGood, List.mem_cons, List.not_mem_nil, or_false] at he
    subst he
    obtain ⟨g1, g2⟩ := litR_flat p v
    refine ⟨g1, ?_, ?_⟩
    · show ((i : Int)).toNat * (litR p v).length + (litR p v).length ≤ l.length
      rw [g2, Int.toNat_natCast]
      omega
    · show (l.drop (((i : Int)).toNat * (litR p v).length)).take (litR p v).length = _
      rw [g2, Int.toNat_natCast, litR_cv]
      exact hrow
include hl hn hb in
theorem rbBad_ok (i : Nat) (hi : i < n) (s : Nat → Int) (W : Nat → Value) (hrow : badF (row l i)) : @TbOK ((rbnm l n i s).val W) rbBad := by
  letI : Val := (rbnm l n i s).val W
  have h4 : i * 4 + 4 ≤ l.length := by omega
  have hr := row_eq hl i h4
  refine { LL := rbLL hn i s W, T := ?_, Y := ?_, LX := ?_ }
  · exact rbBase_true hb i (Nat.le_of_lt hi) s W true (by simp [hi])
  · intro e he
    simp only [rbBad, List.mem_cons, List.not_mem_nil, or_false] at he
    subst he
    obtain ⟨a, b, c, d, j, e1, hj, hq⟩ := hrow
    have := plc_none a b c d j hj hq
    rw [e1] at hr
    have e2 : ([Value.int .i64 a, .int .i64 b, .int .i64 c, .int .i64 d] : List Value) = cell4.map (@cv ((rbnm l n i s).val W)) := hr
    show Ans fPlace [Value.agg (cell4.map cv).toArray] _
    rw [← e2]
    exact this
  · intro e he
    simp only [rbBad, List.mem_cons, List.not_mem_nil, or_false] at he
    subst he
    refine ⟨rfl, ?_, ?_⟩
    · show ((i : Int)).toNat * 4 + 4 ≤ l.length
      rw [Int.toNat_natCast]
      exact h4
    · show (l.drop (((i : Int)).toNat * 4)).take 4 = _
      rw [Int.toNat_natCast]
      exact hr
end
theorem rbuild_ans (V : Val) (l : List Value) (hL : V.L 0 = l) (hl : ints l) (n : Nat) (hn : l.length = n * 4) (hb : n ≤ 1000000) : @AnsN V fRBuild bds (bV (bld l n)) := by
  intro w hr vs hv
  refine fn_loop (κ := Unit) (rbnm l n 0 fun _ => 0) (fun _ => undef) bStart [] fRBuild bds rbpat (fun m _ c => ∃ i s, i ≤ n ∧ m = n - i ∧ bld l i = some s ∧ c = rbnm l n i s) ?_ rbSIds [0, 1, 2] () n rb_enter (rbnm l n 0 fun _ => 0) ?_ ⟨0, fun _ => 0, Nat.zero_le _, rfl, rfl, rfl⟩ (DF (bV (bld l n))) ?_ w hr vs ?_
  · letI : Val := (rbnm l n 0 fun _ => 0).val fun _ => undef
    exact { LL := rbLL hn 0 (fun _ => 0) _ }
  · intro W'
    refine holds_all fun e he => ?_
    simp only [rbSIds, List.map_cons, List.map_nil, List.cons_append, List.nil_append, List.mem_cons, List.not_mem_nil, or_false] at he
    rcases he with rfl | rfl | rfl | rfl | rfl | rfl | rfl | rfl | rfl | rfl | rfl | rfl | rfl | rfl | rfl
    · exact ⟨.i64, 0, rfl, rfl⟩
    · exact ⟨.i64, n, rfl, rfl⟩
    · rfl
    all_goals first | exact ⟨.i64, 0, rfl, rfl⟩ | exact ⟨false, rfl, rfl⟩
  · rintro w m k c ⟨i, s, hi, rfl, hs, rfl⟩ W
    by_cases hlt : i < n
    · have h4 : i * 4 + 4 ≤ l.length := by omega
      have hnext : bld l (i + 1) = bldS s (row l i) := by
        show (match bld l i with | some s => bldS s (row l i) | none => none) = _
        rw [hs]
      have stop : bldS s (row l i) = none → @cvF ((rbnm l n i s).val W) (errR 11) = bV (bld l n) := fun h => by
        rw [bld_none l (i + 1) (hnext.trans h) n hlt]
        rfl
      rcases Classical.em (badF (row l i)) with hbad | hbad
      · refine step_outF rbBad [] (rbBad_ok hl hn hb i hlt s W hbad) (errR 11) rb_bad (stop ?_)
        unfold bldS
        rw [dec_none hbad]
      · rcases good_or hl i h4 with h | ⟨p, v, hp, h1, h2, hrow⟩
        · exact absurd h hbad
        · have hd : dec (row l i) = some (p, v) := by
            rw [hrow] at hbad ⊢
            exact dec_some hp h1 h2 hbad
          have hc : (Nat.ble 1 v && Nat.blt v (vc p)) = true := by rw [Nat.ble_eq_true_of_le h1, blt_of h2]; rfl
          by_cases hz : s p = 0
          · have hstep : bldS s (row l i) = some (upd s p v) := by
              unfold bldS
              rw [hd]
              show (if s p = 0 then some (upd s p v) else none) = _
              rw [if_pos hz]
            have hrun := allU_lt (allU_lt rb_again p hp) v (vc5 h2)
            unfold rbAgain at hrun
            rw [hc] at hrun
            have htb := rbGood_ok hn hb i hlt s W p v hp h1 h2 hrow
            rw [show (s p == 0) = true by simp [hz]] at htb
            refine step_to (rbGood p v true) [] htb (rbIds p v) [0, 1, 2] () (rbnm l n (i + 1) (upd s p v)) hrun ?_ ⟨n - (i + 1), by omega, i + 1, upd s p v, hlt, rfl, hnext.trans hstep, rfl⟩
            intro W'
            have hcell : ∀ j, j ≠ p → upd s p v j = s j := fun j hne => by unfold upd; rw [if_neg hne]
            have hpv : upd s p v p = v := by unfold upd; rw [if_pos rfl]
            have hI : ∀ j, (rbnm l n (i + 1) (upd s p v)).I (20 + j) = upd s p v j := fun j => bnm20 (i + 1) _ j
            have hI' : ∀ j, (rbnm l n i s).I (20 + j) = s j := fun j => bnm20 i s j
            refine holds_all fun e he => ?_
            simp only [rbIds, List.mem_cons] at he
            rcases he with rfl | rfl | rfl | he
            · exact ⟨.i64, (i : Int) + 1, rfl, rfl⟩
            · exact ⟨.i64, n, rfl, rfl⟩
            · rfl
            · unfold rbSet at he
              split at he
              · simp only [idB, idI, List.mem_cons, List.mem_append, List.mem_map, List.mem_filter, List.not_mem_nil, or_false] at he
                rcases he with rfl | ⟨j, hj, rfl⟩ | ⟨j, ⟨hj, hjp⟩, rfl⟩
                · exact ⟨.i64, v, rfl, (hI p).trans hpv⟩
                · refine ⟨earY s j, rfl, ?_⟩
                  show (!(upd s p v (9 + j) == 0)) = !(s (9 + j) == 0)
                  rw [hcell (9 + j) (by omega)]
                · obtain ⟨q, hq, rfl⟩ : ∃ q, q < 12 ∧ j = 20 + q := ⟨j - 20, by omega, by omega⟩
                  have hqp : q ≠ p := by
                    rintro rfl
                    simp at hjp
                  exact ⟨.i64, _, rfl, ((hI q).trans (hcell q hqp)).trans (hI' q).symm⟩
              · rename_i hp9
                simp only [idB, idI, List.mem_cons, List.mem_append, List.mem_map, List.mem_filter, List.not_mem_nil, or_false] at he
                rcases he with rfl | ⟨j, hj, rfl⟩ | ⟨j, ⟨hj, hjp⟩, rfl⟩
                · refine ⟨true, rfl, ?_⟩
                  show (!(upd s p v (9 + (p - 9)) == 0)) = true
                  rw [show 9 + (p - 9) = p by omega, hpv]
                  have h0 : ((v : Int) == 0) = false := by
                    have : (v : Int) ≠ 0 := by omega
                    simpa using this
                  rw [h0]
                  rfl
                · obtain ⟨q, hq, rfl⟩ : ∃ q, q < 9 ∧ j = 20 + q := ⟨j - 20, by omega, by omega⟩
                  exact ⟨.i64, _, rfl, ((hI q).trans (hcell q (by omega))).trans (hI' q).symm⟩
                · refine ⟨earY s j, rfl, ?_⟩
                  have hne : 9 + j ≠ p := by
                    intro e
                    have : j = p - 9 := by omega
                    subst this
                    simp at hjp
                  show (!(upd s p v (9 + j) == 0)) = !(s (9 + j) == 0)
                  rw [hcell (9 + j) hne]
          · have hstep : bldS s (row l i) = none := by
              unfold bldS
              rw [hd]
              show (if s p = 0 then some (upd s p v) else none) = _
              rw [if_neg hz]
            have hrun := allU_lt (allU_lt rb_twice p hp) v (vc5 h2)
            unfold rbTwice at hrun
            rw [hc] at hrun
            have htb := rbGood_ok hn hb i hlt s W p v hp h1 h2 hrow
            rw [show (s p == 0) = false by simpa using hz] at htb
            exact step_outF (rbGood p v false) [] htb (errR 11) hrun (stop hstep)
    · obtain rfl : i = n := by omega
      rw [hs]
      have ht : @TbOK ((rbnm l i i s).val W) (rbEnd (valB s)) := by
        letI : Val := (rbnm l i i s).val W
        refine { LL := rbLL hn i s W, T := rbBase_true hb i (Nat.le_refl _) s W false (by simp), Y := ?_ }
        intro e he
        simp only [rbEnd, List.mem_cons, List.not_mem_nil, or_false] at he
        subst he
        exact val_ans s (earY s)
      have ho := all2_all rb_out (valB s)
      refine step_outF _ [] ht _ ho ?_
      cases hvb : valB s
      · show _ = (if valB s then _ else _)
        rw [hvb]
        rfl
      · show _ = (if valB s then _ else _)
        rw [hvb]
        rfl
  · cases hv with
    | cons h1 h2 =>
      cases h2
      obtain ⟨a, m, cap, g1, g2, g3, g4, g5, g6⟩ := h1
      rw [hL] at g2 g4 g6
      exact .cons ⟨a, m, cap, g1, g2, g3, g4, g5, g6⟩ .nil
end Go.Proofs.Z
