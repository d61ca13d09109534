/- A part of the proofs that the laws of layer four answer true for every input. -/
import Derived.Test.YtjjmnoiiihcoiaaGreatDoorZLJ
namespace Go.Proofs.Z
open Go Go.RowKit Go.Proofs Go.Ri Go.Proofs.Z.Fa
/-! Without of the specification; Ever and Folds, of both packages, for all inputs: contracts. -/
section
variable (V : Val) {G : Int} {l : List Value} {n : Nat} {a : Int}
theorem rwE_ok (hl : ints l) (hn : l.length = n * 4) (hva : validM G l n = true) (hn1 : 1 ≤ n) (q : List Value) (m : Nat) (hqm : q.length = m) : @TbOK ((wonm G l q n m 0).val fun _ => undef) rwE := by
  have hb32 := ((validM_iff _ _ _).1 hva).2.2.1
  have hC : @AnsN ((wonm G l q n m 0).val fun _ => undef) fValid [fellR] (.bool (validM G l n)) := valid_ans _ rfl rfl hl hn
  rw [hva] at hC
  letI : Val := (wonm G l q n m 0).val fun _ => undef
  refine { LL := woLL_ok q m hn hqm 0 _, C := fa hC fz, LB := fa ⟨?_, rfl, ?_, fun v hv => int_one (hl v hv)⟩ fz }
  · show l ≠ []
    exact fun h => by rw [h] at hn; simp at hn; omega
  · show l.length ≤ 1000000
    omega
theorem rwout_good (hG : V.I 0 = G) (hL : V.L 0 = l) (hl : ints l) (hn : l.length = n * 4) (hva : validM G l n = true) (hn1 : 1 ≤ n) (q : List Value) (hq : ints q) (m : Nat) (hqm : q.length = m) (hm : m ≤ 1000000) (h40 : V.L 40 = q) (hin : InR q n m) (h41 : V.L 41 = wiF l q m) :
    @QNTrue V ⟨fRWithout, woD, .tup [woR, lI 0], [some (.lst 41 tGate true)]⟩ := by
  intro w hr vs hv
  have hv := wt_args V (V' := (wonm G l q n m 0).val fun _ => undef) hG hL h40 rfl rfl rfl hv
  have main := fn_loop (κ := Unit) (wonm G l q n m 0) (fun _ => undef) rwE [] fRWithout woD (fun _ => rwP) (fun j _ cc => ∃ k, k ≤ m ∧ j = m - k ∧ cc = wonm G l q n m k) (rwE_ok hl hn hva hn1 q m hqm) (woS (lI 0) 0) [0, 1, 2, 3, 4, 5] () m rw_enter (wonm G l q n m 0) (fun W' => holds_all (rwS_ok q m 0 0 _ W' rfl rfl)) ⟨0, Nat.zero_le _, rfl, rfl⟩ (DQ ((wonm G l q n m m).val fun _ => undef) (.tup [.agg [sI 0, .slN 0 0 4], lI 0]) [some (.lst 41 tGate true)]) ?_ w hr vs hv
  · refine main.mono fun x w' h => dq_wt ?_ ?_ ?_ h
    · show l.length = (wiF l q m).length
      rw [wiF_len]
    · exact hG
    · exact h41
  · rintro w j _ cc ⟨k, hk, rfl, rfl⟩ W
    rcases Nat.lt_or_ge k m with hlt | hge
    · exact rw_good hl hn q hq m hqm hm hlt (hin k hlt) W w _ ⟨m - (k + 1), by omega, k + 1, hlt, rfl, rfl⟩
    · obtain rfl : k = m := by omega
      have ht : @TbOK ((wonm G l q n k k).val W) { T := woT false, LL := woLL } := by
        letI : Val := (wonm G l q n k k).val W
        exact { T := woT_ok q k k hm hk W (decide_eq_false (by omega)), LL := woLL_ok q k hn hqm k W }
      exact step_outQ _ [] ht ((wonm G l q n k k).val fun _ => undef) _ _ _ _ rw_out rfl (holds_all (fa ⟨.i64, G, rfl, rfl⟩ (fa rfl (fa rfl fz))))
theorem rwout_bad (hG : V.I 0 = G) (hL : V.L 0 = l) (hl : ints l) (hn : l.length = n * 4) (hva : validM G l n = true) (hn1 : 1 ≤ n) (q : List Value) (hq : ints q) (m : Nat) (hqm : q.length = m) (hm : m ≤ 1000000) (h40 : V.L 40 = q) (hin : ¬ InR q n m) :
    @AnsN V fRWithout woD (@cvF V0 (wtZ 1)) := by
  intro w hr vs hv
  have hv := wt_args V (V' := (wonm G l q n m 0).val fun _ => undef) hG hL h40 rfl rfl rfl hv
  refine fn_loop (κ := Unit) (wonm G l q n m 0) (fun _ => undef) rwE [] fRWithout woD (fun _ => rwP) (fun j _ cc => ∃ k, k ≤ m ∧ InR q n k ∧ j = m - k ∧ cc = wonm G l q n m k) (rwE_ok hl hn hva hn1 q m hqm) (woS (lI 0) 0) [0, 1, 2, 3, 4, 5] () m rw_enter (wonm G l q n m 0) (fun W' => holds_all (rwS_ok q m 0 0 _ W' rfl rfl)) ⟨0, Nat.zero_le _, fun k hk => absurd hk (Nat.not_lt_zero _), rfl, rfl⟩ (DF (@cvF V0 (wtZ 1))) ?_ w hr vs hv
  rintro w j _ cc ⟨k, hk, hpre, rfl, rfl⟩ W
  have hlt : k < m := by
    rcases Nat.lt_or_ge k m with h | h
    · exact h
    · exact absurd (fun i hi => hpre i (by omega)) hin
  by_cases hc : 0 ≤ intOf (q.getD k undef) ∧ intOf (q.getD k undef) < n
  · refine rw_good hl hn q hq m hqm hm hlt hc W w _ ⟨m - (k + 1), by omega, k + 1, hlt, fun i hi => ?_, rfl, rfl⟩
    rcases Nat.lt_or_eq_of_le (Nat.le_of_lt_succ hi) with h1 | rfl
    · exact hpre i h1
    · exact hc
  · have tb : @TbOK ((wonm G l q n m k).val W) (rwT (decide (0 ≤ intOf (q.getD k undef))) (decide (intOf (q.getD k undef) < n))) := by
      letI : Val := (wonm G l q n m k).val W
      exact { T := fapp (wtI_ok2 _ rfl rfl rfl rfl) (woT_ok q m k hm hk W (decide_eq_true hlt)), LL := woLL_ok q m hn hqm k W, LX := fa (wo40 q hq m hqm hlt W) fz }
    have hb := all2_all (all2_all rw_bad (decide (0 ≤ intOf (q.getD k undef)))) (decide (intOf (q.getD k undef) < n))
    rw [Bool.or_eq_true] at hb
    rcases hb with hb | hb
    · simp only [Bool.and_eq_true, decide_eq_true_eq] at hb
      exact absurd hb hc
    · exact step_outF _ [] tb _ hb rfl
/-! Folds -/
theorem folds_q (hG : V.I 0 = G) (hL : V.L 0 = l) (hl : ints l) (hn : l.length = n * 4) (h20 : V.L 20 = ptG l n (usP l) G.toNat) :
    ∀ w, RoIn ro w → ∀ vs, All2 (@Go.Ri.NVal V w) [fellR] vs → Calls Tryz.prog fFolds vs.toArray w (DQ V (ptAns (errM G l n)).1 (ptAns (errM G l n)).2 w) := by
  intro w hr vs hv
  obtain ⟨P, hP⟩ : ∃ P, P = ptG l n (usP l) G.toNat := ⟨_, rfl⟩
  rw [← hP] at h20
  let V1 : Val := (ptNm G l n 0 P []).val fun _ => undef
  have hv : All2 (@Go.Ri.NVal V1 w) [fellR] vs := by
    cases hv with
    | cons h1 h2 => cases h2; exact .cons (fell_nval1 hG hL h1) .nil
  have hC : @AnsN V1 fCheck [fellR] (.int .i64 (errM G l n)) := check_ans _ rfl rfl hl hn
  have hLL : ∀ q, q ∈ hLL → @LLTrue V1 q := fa ⟨rfl, n, Nat.succ_pos 3, hn, rfl⟩ fz
  unfold errM
  unfold errM at hC
  cases hva : validM G l n with
  | false =>
    rw [hva] at hC
    have ht : @TbOK V1 { LL := Z.hLL, C := [⟨fCheck, [fellR], lI 40⟩] } := by
      letI : Val := V1
      exact { LL := hLL, C := fa hC fz }
    exact done_calls V1 V ht fds_err40 rfl (holds_all fz) w hr vs hv
  | true =>
    rw [hva] at hC
    have hsp := split_q V1 (G := G) (l := l) (n := n) (d := 0) false rfl rfl hl hn hva rfl (fun h => by cases h) (by rw [srv_false]; exact hP)
    have ht : @TbOK V1 fdTb' := by
      letI : Val := V1
      exact { LL := hLL, C := fa hC fz, U := qnU_ok _ (fa hsp fz) }
    exact done_calls V1 V ht fds_good rfl (holds_all (fa h20 fz)) w hr vs hv
def rfNm (G : Int) (l : List Value) (n : Nat) (A U P : List Value) : Nm := ⟨fun i => if i = 0 then G else (n : Int), ny, fun _ => ⟨#[]⟩, fun i => if i = 0 then l else if i = 12 then A else if i = 11 then U else P⟩
theorem rfolds_q (hG : V.I 0 = G) (hL : V.L 0 = l) (hl : ints l) (hn : l.length = n * 4) (h20 : V.L 20 = ptG l n (usP l) G.toNat) :
    ∀ w, RoIn ro w → ∀ vs, All2 (@Go.Ri.NVal V w) [fellR] vs → Calls Tryz.prog fRFolds vs.toArray w (DQ V (ptAns (errM G l n)).1 (ptAns (errM G l n)).2 w) := by
  intro w hr vs hv
  obtain ⟨P, hP⟩ : ∃ P, P = ptG l n (usP l) G.toNat := ⟨_, rfl⟩
  rw [← hP] at h20
  let V1 : Val := (rfNm G l n (bls (fun _ => false) n) (bls (usB l fun _ => false) n) P).val fun _ => undef
  have hv : All2 (@Go.Ri.NVal V1 w) [fellR] vs := by
    cases hv with
    | cons h1 h2 => cases h2; exact .cons (fell_nval1 hG hL h1) .nil
  have hC : @AnsN V1 fValid [fellR] (.bool (validM G l n)) := valid_ans _ rfl rfl hl hn
  have hLL : ∀ q, q ∈ hLL → @LLTrue V1 q := fa ⟨rfl, n, Nat.succ_pos 3, hn, rfl⟩ fz
  unfold errM
  cases hva : validM G l n with
  | false =>
    rw [hva] at hC
    have ht : @TbOK V1 { LL := Z.hLL, C := [⟨fValid, [fellR], bR false⟩] } := by
      letI : Val := V1
      exact { LL := hLL, C := fa hC fz }
    exact done_calls V1 V ht rfd_err40 rfl (holds_all fz) w hr vs hv
  | true =>
    rw [hva] at hC
    have hb32 := ((validM_iff _ _ _).1 hva).2.2.1
    have hall := all_q V1 (G := G) (l := l) (n := n) rfl rfl hn (by omega) rfl
    have huse := ruse_q V1 (G := G) (l := l) (n := n) rfl rfl hl hn (by omega) (fun _ => false) (i12 := 12) rfl rfl
    have hst := sets_q V1 (G := G) (l := l) (n := n) rfl rfl hl hn hva (usP l) (show bls (usB l fun _ => false) n = _ by rw [usB_none]) hP
    have hU : ∀ q, q ∈ rfU (decide (0 < n)) → @QNTrue V1 q := by
      refine fa hall (fa huse (fa ?_ fz))
      by_cases h0 : 0 < n
      · rw [decide_eq_true h0, if_pos rfl]
        exact hst
      · rw [decide_eq_false h0, if_neg (by decide)]
        have : n = 0 := by omega
        subst this
        exact nil_qn2 (V := V1) (i := 11) rfl hst
    have ht : @TbOK V1 { LL := Z.hLL, C := [⟨fValid, [fellR], bR true⟩], U := qnU (rfU (decide (0 < n))) } := by
      letI : Val := V1
      exact { LL := hLL, C := fa hC fz, U := qnU_ok _ hU }
    exact done_calls V1 V ht (all2_all rfd_good (decide (0 < n))) rfl (holds_all (fa h20 fz)) w hr vs hv
end
end Go.Proofs.Z

namespace Go.Proofs.Z
open Go Go.RowKit Go.Proofs Go.Ri Go.Proofs.Z.Fa
/-! Ever, of both packages, for all inputs. -/
theorem agCls2 {G a : Int} (h : ¬ (0 ≤ a ∧ a < G)) : agCls G a a 0 0 < 2 := by
  by_cases h0 : 0 ≤ a
  · have h1 : ¬ a < G := fun q => h ⟨h0, q⟩
    have := fb_le (f := agTest G a a 0 0) (M := 8) (k := 1) (decide_eq_false h1)
    show firstBad (agTest G a a 0 0) 8 0 < 2
    omega
  · have := fb_le (f := agTest G a a 0 0) (M := 8) (k := 0) (decide_eq_false h0)
    show firstBad (agTest G a a 0 0) 8 0 < 2
    omega
noncomputable def evEr (G : Int) (l : List Value) (n : Nat) (a : Int) : Int := if validM G l n then (if 0 ≤ a ∧ a < G then 0 else 1) else 40
noncomputable def evAns (e : Int) : RV × RH := if e = 0 then (.tup [.slN 0 9 1, lI 0], [some (.lst 9 tInt true)]) else (tupN e, [])
def evNm (G : Int) (l : List Value) (n : Nat) (a : Int) (L9 L11 L12 L13 L14 : List Value) : Nm := ⟨fun i => if i = 0 then G else if i = 1 then (n : Int) else if i = 20 then a else if i = 21 then a else 0, ny, fun _ => ⟨#[]⟩, fun i => if i = 0 then l else if i = 9 then L9 else if i = 11 then L11 else if i = 12 then L12 else if i = 13 then L13 else L14⟩
section
variable (V : Val) {G : Int} {l : List Value} {n : Nat} {a : Int}
theorem ev_args {V' : Val} {w : World} {vs : List Value} (hG : V.I 0 = G) (hL : V.L 0 = l) (hx : V.I 20 = a) (e0 : V'.I 0 = G) (e1 : V'.L 0 = l) (e2 : V'.I 20 = a) (hv : All2 (@Go.Ri.NVal V w) [fellR, sI 20] vs) : All2 (@Go.Ri.NVal V' w) [fellR, sI 20] vs := by
  cases hv with
  | cons h1 h2 => cases h2 with
    | cons h2 h3 =>
      cases h3
      exact .cons (fell_nval1 (hG.trans e0.symm) (hL.trans e1.symm) h1) (.cons (nval_re (V := V) (x := sI 20) rfl rfl (congrArg (Value.int .i64) hx) (congrArg (Value.int .i64) e2) h2) .nil)
theorem ever_all (hG : V.I 0 = G) (hL : V.L 0 = l) (hl : ints l) (hn : l.length = n * 4) (hx : V.I 20 = a) (h9 : V.L 9 = sL (clS l n (usP l) (2 ^ a.toNat))) :
    ∀ w, RoIn ro w → ∀ vs, All2 (@Go.Ri.NVal V w) [fellR, sI 20] vs → Calls Tryz.prog fEver vs.toArray w (DQ V (evAns (evEr G l n a)).1 (evAns (evEr G l n a)).2 w) := by
  intro w hr vs hv
  let V1 : Val := (evNm G l n a [] [] [] [] []).val fun _ => undef
  have hC1 : @AnsN V1 fCheck [fellR] (.int .i64 (errM G l n)) := check_ans _ rfl rfl hl hn
  have hC2 : @AnsN V1 fValid [fellR] (.bool (validM G l n)) := valid_ans _ rfl rfl hl hn
  have hLL : ∀ q, q ∈ hLL → @LLTrue V1 q := fa ⟨rfl, n, Nat.succ_pos 3, hn, rfl⟩ fz
  unfold evEr
  unfold errM at hC1
  cases hva : validM G l n with
  | false =>
    rw [hva] at hC1
    have ht : @TbOK V1 { LL := Z.hLL, C := [⟨fCheck, [fellR], lI 40⟩] } := by
      letI : Val := V1
      exact { LL := hLL, C := fa hC1 fz }
    exact done_calls V1 V ht ev_err40 rfl (holds_all fz) w hr vs (ev_args V (V' := V1) hG hL hx rfl rfl rfl hv)
  | true =>
    rw [hva] at hC1 hC2
    by_cases hc : 0 ≤ a ∧ a < G
    · rw [if_pos rfl, if_pos hc]
      exact ever_q V (a := a.toNat) hG hL hl hn hva (by omega) (by rw [hx]; omega) h9 w hr vs hv
    · rw [if_pos rfl, if_neg hc]
      have ht : @TbOK V1 (rcE 0 (agCls G a a 0 0) (decide ((0 : Int) ≤ 0))) := by
        letI : Val := V1
        exact { T := agT_gen _ rfl rfl rfl rfl rfl, LL := hLL, C := fa hC1 (fa hC2 fz) }
      exact done_calls V1 V ht (all2_all (allU_lt ev_err _ (agCls2 hc)) (decide ((0 : Int) ≤ 0))) rfl (holds_all fz) w hr vs (ev_args V (V' := V1) hG hL hx rfl rfl rfl hv)
theorem rever_all (hG : V.I 0 = G) (hL : V.L 0 = l) (hl : ints l) (hn : l.length = n * 4) (hx : V.I 20 = a) (h9 : V.L 9 = sL (clS l n (usP l) (2 ^ a.toNat))) :
    ∀ w, RoIn ro w → ∀ vs, All2 (@Go.Ri.NVal V w) [fellR, sI 20] vs → Calls Tryz.prog fREver vs.toArray w (DQ V (evAns (evEr G l n a)).1 (evAns (evEr G l n a)).2 w) := by
  intro w hr vs hv
  obtain ⟨L9, e9⟩ : ∃ L9, L9 = sL (clS l n (usP l) (2 ^ a.toNat)) := ⟨_, rfl⟩
  rw [← e9] at h9
  obtain ⟨L13, h13⟩ : ∃ L13, L13 = bls (fun x => (2 ^ a.toNat).testBit x) G.toNat := ⟨_, rfl⟩
  obtain ⟨L14, h14⟩ : ∃ L14, L14 = bls (cloL l n (usP l) (fun x => (2 ^ a.toNat).testBit x)) G.toNat := ⟨_, rfl⟩
  let V1 : Val := (evNm G l n a L9 (bls (usB l fun _ => false) n) (bls (fun _ => false) n) L13 L14).val fun _ => undef
  have hC2 : @AnsN V1 fValid [fellR] (.bool (validM G l n)) := valid_ans _ rfl rfl hl hn
  have hLL : ∀ q, q ∈ hLL → @LLTrue V1 q := fa ⟨rfl, n, Nat.succ_pos 3, hn, rfl⟩ fz
  have hv1 := ev_args V (V' := V1) hG hL hx rfl rfl rfl hv
  unfold evEr
  cases hva : validM G l n with
  | false =>
    rw [hva] at hC2
    have ht : @TbOK V1 { LL := Z.hLL, C := [⟨fValid, [fellR], bR false⟩] } := by
      letI : Val := V1
      exact { LL := hLL, C := fa hC2 fz }
    exact done_calls V1 V ht rev_err40 rfl (holds_all fz) w hr vs hv1
  | true =>
    rw [hva] at hC2
    by_cases hc : 0 ≤ a ∧ a < G
    · rw [if_pos rfl, if_pos hc]
      have hg := (validM_iff _ _ _).1 hva
      have hb32 := hg.2.2.1
      have ha16 : a.toNat < 16 := by omega
      have ea : ((a.toNat : Nat) : Int) = a := by omega
      have hself := kl_self (e := usP l) hva ha16
      have hne := sL_ne ha16 hself
      have egl := kl_gl (e := usP l) hva (show ((a.toNat : Nat) : Int) < G by omega)
      rw [← e9] at hne egl
      have hone := one_q V1 (G := G) (l := l) (x := sI 20) (a := a.toNat) rfl rfl hn hva (by omega) rfl (show Value.int .i64 a = .int .i64 ((a.toNat : Nat) : Int) by rw [ea]) (show L13 = _ from h13.trans (bls_congr fun x _ => by
        show (2 ^ a.toNat).testBit x = decide (x = a.toNat)
        rw [Nat.testBit_two_pow]
        exact decide_eq_decide.2 ⟨fun h => h.symm, fun h => h.symm⟩))
      have hall := all_q V1 (G := G) (l := l) (n := n) rfl rfl hn (by omega) rfl
      have huse := ruse_q V1 (G := G) (l := l) (n := n) rfl rfl hl hn (by omega) (fun _ => false) (i12 := 12) rfl rfl
      have hsp := rspread_q V1 (G := G) (l := l) (n := n) rfl rfl hl hn hva (fun x => (2 ^ a.toNat).testBit x) (usP l) (show L13 = _ from h13) (show bls (usB l fun _ => false) n = _ by rw [usB_none]) (show L14 = _ from h14)
      have hli := list_q V1 (cloL l n (usP l) (fun x => (2 ^ a.toNat).testBit x)) G.toNat (by omega) (i := 14) (show L14 = _ from h14) (show L9 = _ from egl.symm)
      rw [egl, hne] at hli
      have hU : ∀ q, q ∈ rvU (decide (0 < n)) → @QNTrue V1 q := by
        refine fa hone (fa hall (fa huse (fa ?_ (fa hli fz))))
        by_cases h0 : 0 < n
        · rw [decide_eq_true h0, if_pos rfl]
          exact hsp
        · rw [decide_eq_false h0, if_neg (by decide)]
          have : n = 0 := by omega
          subst this
          exact nil_qn3 (V := V1) (i := 11) rfl hsp
      have ht : @TbOK V1 (rvTb (decide (0 < n))) := by
        letI : Val := V1
        exact { T := ag_gen V1 (G := G) (a := a) rfl rfl hc.1 hc.2, LL := hLL, C := fa hC2 fz, U := qnU_ok _ hU }
      exact done_calls V1 V ht (all2_all rv_good (decide (0 < n))) rfl (holds_all (fa h9 fz)) w hr vs hv1
    · rw [if_pos rfl, if_neg hc]
      have ht : @TbOK V1 (rrE true (agCls G a a 0 0) (decide ((0 : Int) ≤ 0))) := by
        letI : Val := V1
        exact { T := agT_gen _ rfl rfl rfl rfl rfl, LL := hLL, C := fa hC2 fz }
      exact done_calls V1 V ht (all2_all (allU_lt rev_err _ (agCls2 hc)) (decide ((0 : Int) ≤ 0))) rfl (holds_all fz) w hr vs hv1
end
end Go.Proofs.Z
