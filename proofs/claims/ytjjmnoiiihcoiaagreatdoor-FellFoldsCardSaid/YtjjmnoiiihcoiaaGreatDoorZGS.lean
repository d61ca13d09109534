/- A part of the proofs that the laws of layer four answer true for every input. -/
import Derived.Test.YtjjmnoiiihcoiaaGreatDoorZGW
import Derived.Test.YtjjmnoiiihcoiaaGreatDoorZGK
namespace Go.Proofs.Z
open Go Go.RowKit Go.Proofs Go.Ri Go.Proofs.Z.Fa
/-! Reach of package fell. -/
def rcD : List RV := [fellR, sI 20, sI 22, sI 23]
noncomputable def rcE (e : Int) (c : Nat) (s : Bool) : Tb := { T := agN c 8 ++ agX c s, LL := hLL, C := [⟨fCheck, [fellR], lI e⟩, ⟨fValid, [fellR], bR (vld e)⟩] }
noncomputable def rcE8 : Tb := { rcE 0 8 true with C := [⟨fCheck, [fellR], lI 0⟩, ⟨fLeaving, [fellR, sU 10, sI 22], sI 24⟩], Y := [⟨fOnly, [sI 20], sU 10⟩] }
noncomputable def rcP : St := ⟨patW [(4, .ptr 1 0), (3, sI 23), (11, sU 10), (12, sI 24)] 42 0, fellB⟩
def rcS (u D : RV) : List SE := .int 10 u :: .int 24 D :: (idI [0, 1, 20, 22, 23] ++ [.lst 0 0])
noncomputable def rcB : Code := hB rcE8 [] fReach rcD
noncomputable def rcK : List Fr := hK rcE8 [] fReach rcD
set_option maxRecDepth 100000 in
theorem rc_enter : enterT rcE8 [] fReach rcD (rcS (sU 10) (sI 24)) [0, 1] rcP = true := by kernel_rfl
set_option maxRecDepth 100000 in
theorem rc_err : (allU 8 fun k => all2 fun s => Nat.beq k 2 || Nat.beq k 3 || doneQ (rcE 0 k s) [] fReach rcD [] [] (tupN 1) []) = true := by kernel_rfl
set_option maxRecDepth 100000 in
theorem rc_err40 : doneQ { LL := hLL, C := [⟨fCheck, [fellR], lI 40⟩] } [] fReach rcD [] [] (tupN 40) [] = true := by kernel_rfl
noncomputable def rcT : Tb := { T := [⟨.bin .leq, sI 24, sI 23, bR true⟩], C := [⟨fEndOf, [fellR, sU 10, sI 24], sU 11⟩, ⟨fLeaving, [fellR, sU 11, sI 24], sI 25⟩] }
set_option maxRecDepth 100000 in
theorem rc_again : againT rcT [] rcB rcK rcP (rcS (sU 11) (sI 25)) [0, 1] rcP = true := by kernel_rfl
noncomputable def rcO (e : Bool) : Tb := { T := [⟨.bin .leq, sI 24, sI 23, bR false⟩], Q := [⟨fSetList, [sU 10], (lstA1 e).1, (lstA1 e).2⟩] }
set_option maxRecDepth 100000 in
theorem rc_out : (all2 fun e => outQ (rcO e) [] fReach rcB rcK rcP (if e then [] else [.lst 9 9]) (if e then [] else [2]) (ogAns 0 (!e)).1 (ogAns 0 (!e)).2) = true := by kernel_rfl
def rcErr (G : Int) (l : List Value) (n : Nat) (a fr to : Int) : Int := if validM G l n then (if agCls G a a fr to = 8 then 0 else 1) else 40
noncomputable def rcSet (l : List Value) (n : Nat) (a fr to : Int) : Nat := runS l n (2 ^ a.toNat) fr (to + 1 - fr).toNat
def rcnm (G : Int) (l : List Value) (n : Nat) (a fr to : Int) (s : Nat) (D : Int) (t : Nat) (E : Int) : Nm :=
  ⟨fun j => if j = 0 then G else if j = 1 then (n : Int) else if j = 20 then a else if j = 21 then a else if j = 22 then fr else if j = 23 then to else if j = 10 then (s : Int) else if j = 24 then D else if j = 11 then (t : Int) else E, ny, fun _ => ⟨#[]⟩, fun j => if j = 0 then l else sL s⟩
def agN1 : RV → Bool
  | .pl _ => true
  | .sym (.int .i64) i => i == 0 || i == 20 || i == 21 || i == 22 || i == 23
  | _ => false
def agNames (e : TE) : Bool := agN1 e.x && agN1 e.y && agN1 e.r
theorem agNames_all (c : Nat) (h : c ≤ 0 + 8) (s : Bool) : (agN c 8 ++ agX c s).all agNames = true := by
  have : (allU 9 fun c => all2 fun s => (agN c 8 ++ agX c s).all agNames) = true := by kernel_rfl
  exact all2_all (allU_lt this c (by omega)) s
theorem agT_gen (V : Val) {G a b fr to : Int} (h0 : V.I 0 = G) (h20 : V.I 20 = a) (h21 : V.I 21 = b) (h22 : V.I 22 = fr) (h23 : V.I 23 = to) : ∀ e, e ∈ agN (agCls G a b fr to) 8 ++ agX (agCls G a b fr to) (decide (0 ≤ to)) → @TETrue V e := by
  intro e he
  have key : ∀ W, ∀ e, e ∈ agN (agCls G a b fr to) 8 ++ agX (agCls G a b fr to) (decide (0 ≤ to)) → @TETrue ((pnm G [] 0 [] 0 a b fr to 0).val W) e := fun W => fapp (agN_ok 0 _ _ 8 (fun i hi _ => firstBad_pass _ 8 0 i (Nat.zero_le _) hi) (fun h => firstBad_fail _ 8 0 h)) (agX_ok 0 _)
  have hn : ∀ e, e ∈ agN (agCls G a b fr to) 8 ++ agX (agCls G a b fr to) (decide (0 ≤ to)) → agNames e = true := fun e he => List.all_eq_true.1 (agNames_all (agCls G a b fr to) (firstBad_le _ 8 0) (decide (0 ≤ to))) e he
  have h1 := key (fun _ => undef) e he
  have h2 := hn e he
  have cvE : ∀ r, agN1 r = true → @cv V r = @cv ((pnm G [] 0 [] 0 a b fr to 0).val fun _ => undef) r := fun r hr => by
    unfold agN1 at hr
    split at hr
    · rfl
    · rename_i i
      simp only [Bool.or_eq_true, beq_iff_eq] at hr
      rcases hr with (((rfl | rfl) | rfl) | rfl) | rfl
      · show Value.int .i64 (V.I 0) = _; rw [h0]; rfl
      · show Value.int .i64 (V.I 20) = _; rw [h20]; rfl
      · show Value.int .i64 (V.I 21) = _; rw [h21]; rfl
      · show Value.int .i64 (V.I 22) = _; rw [h22]; rfl
      · show Value.int .i64 (V.I 23) = _; rw [h23]; rfl
    · cases hr
  unfold agNames at h2
  simp only [Bool.and_eq_true] at h2
  obtain ⟨f, h3⟩ := h1
  refine ⟨f, ?_⟩
  rw [cvE _ h2.1.1, cvE _ h2.1.2, cvE _ h2.2]
  exact h3
theorem agCls_fail {G a b fr to : Int} {c : Nat} (h : agCls G a b fr to = c) (hc : c < 8) : agTest G a b fr to c = false := by
  have := firstBad_fail (agTest G a b fr to) 8 0 (by show agCls G a b fr to < 8; omega)
  rw [show firstBad (agTest G a b fr to) 8 0 = c from h] at this
  exact this
theorem agCls_ne2 {G a fr to : Int} (h : agCls G a a fr to = 2) : False := by
  have h1 : ¬ 0 ≤ a := of_decide_eq_false (agCls_fail h (by omega))
  have h2 : 0 ≤ a := of_decide_eq_true (agTest_pass (G := G) (a := a) (b := a) (fr := fr) (to := to) (j := 0) (by omega))
  exact h1 h2
theorem agCls_ne3 {G a fr to : Int} (h : agCls G a a fr to = 3) : False := by
  have h1 : ¬ a < G := of_decide_eq_false (agCls_fail h (by omega))
  have h2 : a < G := of_decide_eq_true (agTest_pass (G := G) (a := a) (b := a) (fr := fr) (to := to) (j := 1) (by omega))
  exact h1 h2
theorem rcS_ok {G : Int} {l : List Value} {n : Nat} {a fr to : Int} (s : Nat) (D : Int) (t : Nat) (E : Int) (t2 : Nat) (E2 : Int) (W W' : Nat → Value) : ∀ e, e ∈ rcS (sU 11) (sI 25) → okSE ((rcnm G l n a fr to s D t E).val W) ((rcnm G l n a fr to t E t2 E2).val W') e :=
  fa ⟨.u16, (t : Int), rfl, rfl⟩ (fa ⟨.i64, E, rfl, rfl⟩ (fapp (ids_ok [0, 1, 20, 22, 23] (fa rfl (fa rfl (fa rfl (fa rfl (fa rfl fz)))))) (fa (show l = l from rfl) fz)))
set_option maxHeartbeats 1000000 in
theorem reach_q (V : Val) {G : Int} {l : List Value} {n : Nat} {a fr to : Int} {x y z : RV} (hG : V.I 0 = G) (hL : V.L 0 = l) (hl : ints l) (hn : l.length = n * 4) (fx : flat x = true) (hx : @cvF V x = .int .i64 a) (fy : flat y = true) (hy : @cvF V y = .int .i64 fr) (fz' : flat z = true) (hz : @cvF V z = .int .i64 to) (h9 : V.L 9 = sL (rcSet l n a fr to)) :
    ∀ w, RoIn ro w → ∀ vs, All2 (@Go.Ri.NVal V w) [fellR, x, y, z] vs → Calls Tryz.prog fReach vs.toArray w (DQ V (ogAns (rcErr G l n a fr to) (!(sL (rcSet l n a fr to)).isEmpty)).1 (ogAns (rcErr G l n a fr to) (!(sL (rcSet l n a fr to)).isEmpty)).2 w) := by
  intro w hr vs hv
  have hv : ∀ s D t E, All2 (@Go.Ri.NVal ((rcnm G l n a fr to s D t E).val fun _ => undef) w) rcD vs := fun s D t E => by
    cases hv with
    | cons h1 h2 => cases h2 with
      | cons h2 h3 => cases h3 with
        | cons h3 h4 => cases h4 with
          | cons h4 h5 =>
            cases h5
            exact .cons (fell_nval1 hG hL h1) (.cons (nval_re fx rfl hx rfl h2) (.cons (nval_re fy rfl hy rfl h3) (.cons (nval_re fz' rfl hz rfl h4) .nil)))
  have h4L : ∀ s D t E W, ∀ e, e ∈ hLL → @LLTrue ((rcnm G l n a fr to s D t E).val W) e := fun s D t E W => fa ⟨rfl, n, Nat.succ_pos 3, hn, rfl⟩ fz
  have hC1 : ∀ s D t E W, @AnsN ((rcnm G l n a fr to s D t E).val W) fCheck [fellR] (.int .i64 (errM G l n)) := fun s D t E W => check_ans _ rfl rfl hl hn
  have hC2 : ∀ s D t E W, @AnsN ((rcnm G l n a fr to s D t E).val W) fValid [fellR] (.bool (validM G l n)) := fun s D t E W => valid_ans _ rfl rfl hl hn
  unfold rcErr
  cases hva : validM G l n with
  | false =>
    have he : errM G l n = 40 := by unfold errM; rw [hva]; rfl
    have ht : @TbOK ((rcnm G l n a fr to 0 0 0 0).val fun _ => undef) { LL := hLL, C := [⟨fCheck, [fellR], lI 40⟩] } := by
      letI : Val := (rcnm G l n a fr to 0 0 0 0).val fun _ => undef
      have h := hC1 0 0 0 0 fun _ => undef
      rw [he] at h
      exact { LL := h4L _ _ _ _ _, C := fa h fz }
    exact done_calls _ V ht rc_err40 rfl (holds_all fz) w hr vs (hv _ _ _ _)
  | true =>
    have he : errM G l n = 0 := by unfold errM; rw [hva]; rfl
    have hle : agCls G a a fr to ≤ 8 := firstBad_le (agTest G a a fr to) 8 0
    by_cases hc8 : agCls G a a fr to = 8
    · rw [if_pos rfl, if_pos hc8]
      have p0 : (0 : Int) ≤ a := of_decide_eq_true (agTest_pass (G := G) (a := a) (b := a) (fr := fr) (to := to) (j := 0) (by omega))
      have p1 : a < G := of_decide_eq_true (agTest_pass (G := G) (a := a) (b := a) (fr := fr) (to := to) (j := 1) (by omega))
      have p4 : (0 : Int) ≤ fr := of_decide_eq_true (agTest_pass (G := G) (a := a) (b := a) (fr := fr) (to := to) (j := 4) (by omega))
      have p5 : fr ≤ 1048576 := of_decide_eq_true (agTest_pass (G := G) (a := a) (b := a) (fr := fr) (to := to) (j := 5) (by omega))
      have p6 : fr ≤ to := of_decide_eq_true (agTest_pass (G := G) (a := a) (b := a) (fr := fr) (to := to) (j := 6) (by omega))
      have p7 : to ≤ 1048576 := of_decide_eq_true (agTest_pass (G := G) (a := a) (b := a) (fr := fr) (to := to) (j := 7) (by omega))
      have hG16 := ((validM_iff _ _ _).1 hva).2.1
      have hon := only_ans (show a.toNat < 16 by omega)
      rw [show ((a.toNat : Nat) : Int) = a by omega] at hon
      have hS0 : 2 ^ a.toNat < 65536 := pow_lt16 (by omega)
      have h9 : V.L 9 = sL (runS l n (2 ^ a.toNat) fr (to + 1 - fr).toNat) := h9
      show Calls Tryz.prog fReach vs.toArray w (DQ V (ogAns 0 (!(sL (runS l n (2 ^ a.toNat) fr (to + 1 - fr).toNat)).isEmpty)).1 (ogAns 0 (!(sL (runS l n (2 ^ a.toNat) fr (to + 1 - fr).toNat)).isEmpty)).2 w)
      have hT := agT_gen ((rcnm G l n a fr to 0 0 0 0).val fun _ => undef) (G := G) (a := a) (b := a) (fr := fr) (to := to) rfl rfl rfl rfl rfl
      generalize 2 ^ a.toNat = S0 at *
      obtain ⟨D0, hD0⟩ : ∃ D0, D0 = lvM l S0 fr n := ⟨_, rfl⟩
      obtain ⟨t0, ht0⟩ : ∃ t0, t0 = dayS l n S0 D0 := ⟨_, rfl⟩
      obtain ⟨E0, hE0⟩ : ∃ E0, E0 = lvM l t0 D0 n := ⟨_, rfl⟩
      have hlv : ∀ s d, 0 ≤ d → 0 ≤ lvM l s d n := fun s d hd => by
        rcases Int.lt_or_le 1048576 (lvM l s d n) with h | h
        · omega
        · have := (lv_open (S := s) hva hd h).1
          omega
      have ht : @TbOK ((rcnm G l n a fr to S0 D0 t0 E0).val fun _ => undef) rcE8 := by
        letI : Val := (rcnm G l n a fr to S0 D0 t0 E0).val fun _ => undef
        have h := hC1 S0 D0 t0 E0 fun _ => undef
        rw [he] at h
        have hT := agT_gen ((rcnm G l n a fr to S0 D0 t0 E0).val fun _ => undef) (G := G) (a := a) (b := a) (fr := fr) (to := to) rfl rfl rfl rfl rfl
        rw [hc8, show decide (0 ≤ to) = true from decide_eq_true (by omega)] at hT
        have hlea := leaving_ans ((rcnm G l n a fr to S0 D0 t0 E0).val fun _ => undef) (G := G) (l := l) (d := fr) (s := S0) (x := sU 10) (y := sI 22) rfl rfl hl hn hva p4 (by omega) hS0 rfl rfl rfl rfl
        rw [← hD0] at hlea
        exact { T := hT, LL := h4L _ _ _ _ _, C := fa h (fa hlea fz), Y := fa hon fz }
      refine fn_loop (κ := Unit) (rcnm G l n a fr to S0 D0 t0 E0) (fun _ => undef) rcE8 [] fReach rcD (fun _ => rcP) (fun m _ c => ∃ s D t E, s < 65536 ∧ ReachI l n S0 fr to s D ∧ 0 ≤ D ∧ D ≤ 1048577 ∧ t = dayS l n s D ∧ E = lvM l t D n ∧ c = rcnm G l n a fr to s D t E ∧ m = 16 - cnt (fun x => s.testBit x) 16) ht (rcS (sU 10) (sI 24)) [0, 1] () _ rc_enter (rcnm G l n a fr to S0 D0 t0 E0) (fun W' => holds_all (fa ⟨.u16, _, rfl, rfl⟩ (fa ⟨.i64, _, rfl, rfl⟩ (fapp (ids_ok _ (fa rfl (fa rfl (fa rfl (fa rfl (fa rfl fz)))))) (fa (show l = l from rfl) fz))))) ⟨_, _, _, _, hS0, by rw [hD0]; exact reach_start hva hS0 p4 p6, by rw [hD0]; exact hlv _ _ p4, by rw [hD0]; exact lv_le _ _ _ _, ht0, hE0, rfl, rfl⟩ _ ?_ w hr vs (hv _ _ _ _)
      rintro w m _ c ⟨s, D, t, E, hs, hI, hDa, hDb, rfl, rfl, rfl, rfl⟩ W
      by_cases hD : D ≤ to
      · obtain ⟨hI', hc⟩ := reach_next hva hS0 p4 p7 hD hI
        have hs' : dayS l n s D < 65536 := clS_lt _ _ _ _
        have hle16 := cnt_le (fun x => (dayS l n s D).testBit x) 16
        have hend := endOf_ans ((rcnm G l n a fr to s D (dayS l n s D) (lvM l (dayS l n s D) D n)).val W) (G := G) (l := l) (d := D) (s := s) (x := sU 10) (y := sI 24) rfl rfl hl hn hva hDa hs rfl rfl rfl rfl
        have hlea := leaving_ans ((rcnm G l n a fr to s D (dayS l n s D) (lvM l (dayS l n s D) D n)).val W) (G := G) (l := l) (d := D) (s := dayS l n s D) (x := sU 11) (y := sI 24) rfl rfl hl hn hva hDa (by omega) hs' rfl rfl rfl rfl
        rw [show clS l n (odP l D) s = dayS l n s D from rfl] at hend
        have hE := hlv (dayS l n s D) D hDa
        have hE2 := lv_le l (dayS l n s D) D n
        generalize hs'' : dayS l n s D = s' at *
        generalize hE'' : lvM l s' D n = E' at *
        letI : Val := (rcnm G l n a fr to s D s' E').val W
        exact step_to rcT [] { T := fa (f_leq (k := .i64) (m := D) (n := to) rfl rfl (decide_eq_true hD)) fz, C := fa hend (fa hlea fz) } (rcS (sU 11) (sI 25)) [0, 1] () (rcnm G l n a fr to s' E' (dayS l n s' E') (lvM l (dayS l n s' E') E' n)) rc_again (fun W' => holds_all (rcS_ok s D s' E' (dayS l n s' E') (lvM l (dayS l n s' E') E' n) W W')) ⟨16 - cnt (fun x => s'.testBit x) 16, by omega, s', E', dayS l n s' E', lvM l (dayS l n s' E') E' n, hs', hI', hE, hE2, rfl, rfl, rfl, rfl⟩
      · have es := reach_end (by omega) hI
        rw [← es] at h9 ⊢
        generalize dayS l n s D = s' at *
        generalize lvM l s' D n = E' at *
        have hsl := setList_q ((rcnm G l n a fr to s D s' E').val W) hs rfl
        letI : Val := (rcnm G l n a fr to s D s' E').val W
        have ho := all2_all rc_out (sL s).isEmpty
        refine step_outQ (rcO (sL s).isEmpty) [] { T := fa (f_leq (k := .i64) (m := D) (n := to) rfl rfl (decide_eq_false hD)) fz, Q := fa hsl fz } V _ _ _ _ ho ?_ (holds_all ?_)
        · cases (sL s).isEmpty <;> rfl
        · split
          · exact fz
          · exact fa h9 fz
    · rw [if_pos rfl, if_neg hc8]
      have ht : @TbOK ((rcnm G l n a fr to 0 0 0 0).val fun _ => undef) (rcE 0 (agCls G a a fr to) (decide (0 ≤ to))) := by
        letI : Val := (rcnm G l n a fr to 0 0 0 0).val fun _ => undef
        have h := hC1 0 0 0 0 fun _ => undef
        have h' := hC2 0 0 0 0 fun _ => undef
        rw [he] at h
        rw [hva] at h'
        exact { T := agT_gen _ rfl rfl rfl rfl rfl, LL := h4L _ _ _ _ _, C := fa h (fa h' fz) }
      have hk := all2_all (allU_lt rc_err _ (show agCls G a a fr to < 8 by omega)) (decide (0 ≤ to))
      have h2 : agCls G a a fr to ≠ 2 := fun h => agCls_ne2 h
      have h3 : agCls G a a fr to ≠ 3 := fun h => agCls_ne3 h
      simp only [Bool.or_eq_true] at hk
      rcases hk with (hk | hk) | hk
      · exact absurd (Nat.eq_of_beq_eq_true hk) h2
      · exact absurd (Nat.eq_of_beq_eq_true hk) h3
      · exact done_calls _ V ht hk rfl (holds_all fz) w hr vs (hv _ _ _ _)
end Go.Proofs.Z
