/- A part of the proofs that the laws of layer four answer true for every input. -/
import Derived.Test.YtjjmnoiiihcoiaaGreatDoorZHN
namespace Go.Proofs.Z
open Go Go.RowKit Go.Proofs Go.Ri Go.Proofs.Z.Fa
/-! The law FellComposes: closed. -/
set_option maxHeartbeats 400000 in
theorem composes_law (G : Int) (l : List Value) (n : Nat) (a fr mid to : Int) (hl : ints l) (hn : l.length = n * 4) (w : World) (hr : RoIn ro w) (vs : List Value) (hv : ∀ i e u x L9 L10 L11 L12 L13, All2 (@Go.Ri.NVal ((fcnm G l n a fr mid to i e u x L9 L10 L11 L12 L13).val fun _ => undef) w) fcD vs) : Calls Tryz.prog fFellComposes vs.toArray w (fun e w' => e = .returned (.bool true) ∧ Below w.heap.size w w') := by
  let nm0 : Nm := fcnm G l n a fr mid to 0 0 0 0 [] [] [] [] []
  by_cases hbig : (n : Int) > 200
  · exact done_flat (nm0.val fun _ => undef) (big_tb (l := l) rfl rfl hn hbig) fc_big rfl rfl rfl w hr vs (hv _ _ _ _ _ _ _ _ _)
  · have hLL0 : ∀ q, q ∈ hLL → @LLTrue (nm0.val fun _ => undef) q := fa ⟨rfl, n, Nat.succ_pos 3, hn, rfl⟩ fz
    have hck : @AnsN (nm0.val fun _ => undef) fCheck [fellR] (.int .i64 (errM G l n)) := check_ans _ rfl rfl hl hn
    have hgt : @TETrue (nm0.val fun _ => undef) ⟨.bin .gtr, sI 1, lI 200, bR false⟩ := by
      letI : Val := nm0.val fun _ => undef
      exact f_gtr (k := .i64) (m := (n : Int)) (n := 200) rfl rfl (decide_eq_false hbig)
    cases hva : validM G l n with
    | false =>
      have ht : @TbOK (nm0.val fun _ => undef) fcInv := by
        letI : Val := nm0.val fun _ => undef
        rw [show errM G l n = 40 by unfold errM; rw [hva]; rfl] at hck
        exact { X := saneX_true, T := fa hgt fz, LL := hLL0, C := fa hck fz }
      exact done_flat _ ht fc_inv rfl rfl rfl w hr vs (hv _ _ _ _ _ _ _ _ _)
    | true =>
      rw [show errM G l n = 0 by unfold errM; rw [hva]; rfl] at hck
      have hle : fcCls G a fr mid to ≤ 6 := firstBad_le (fcTest G a fr mid to) 6 0
      by_cases hc6 : fcCls G a fr mid to = 6
      · have pass : ∀ j, j < 6 → fcTest G a fr mid to j = true := fun j hj => firstBad_pass _ 6 0 j (Nat.zero_le _) (show j < fcCls G a fr mid to by omega)
        have p0 : (0 : Int) ≤ a := of_decide_eq_true (pass 0 (by omega))
        have p1 : a < G := of_decide_eq_true (pass 1 (by omega))
        have p2 : (0 : Int) ≤ fr := of_decide_eq_true (pass 2 (by omega))
        have p3 : fr ≤ mid := of_decide_eq_true (pass 3 (by omega))
        have p4 : mid < to := of_decide_eq_true (pass 4 (by omega))
        have p5 : to ≤ 1048216 := of_decide_eq_true (pass 5 (by omega))
        have hN := fun V h0 h20 h22 h23 h24 => fcN_ok V (G := G) (a := a) (fr := fr) (mid := mid) (to := to) h0 h20 h22 h23 h24 6 (Nat.le_refl _)
        rw [hc6] at hN
        have hG16 := ((validM_iff _ _ _).1 hva).2.1
        obtain ⟨ka, rfl⟩ : ∃ k : Nat, a = (k : Int) := ⟨a.toNat, by omega⟩
        obtain ⟨m1, m2, m3⟩ := comp_math (l := l) (n := n) (a := ka) hva p1 p3 p4
        have hself : (rcSet l n ka fr mid).testBit ka = true := runS_self hva (by omega) _
        have hinL : ∀ x, (rcSet l n ka fr mid).testBit x = true → (x : Int) < G := fun x h => runS_in hva p1 _ x h
        have hinM : ∀ x, (rcSet l n ka fr to).testBit x = true → (x : Int) < G := fun x h => runS_in hva p1 _ x h
        obtain ⟨SL, hSL⟩ : ∃ SL, SL = rcSet l n ka fr mid := ⟨_, rfl⟩
        obtain ⟨SM, hSM⟩ : ∃ SM, SM = rcSet l n ka fr to := ⟨_, rfl⟩
        rw [← hSM] at m1
        rw [← hSL, ← hSM] at m2 m3
        rw [← hSL] at hself hinL
        rw [← hSM] at hinM
        have hne := sL_some (show ka < 16 by omega) hself
        obtain ⟨EL, hEL⟩ : ∃ EL : Nat → Int, ∀ i, EL i = elI SL i := ⟨_, fun _ => rfl⟩
        obtain ⟨L9, h9⟩ : ∃ L, L = sL SL := ⟨_, rfl⟩
        obtain ⟨L10, h10⟩ : ∃ L, L = sL SM := ⟨_, rfl⟩
        obtain ⟨LK, hLK⟩ : ∃ f : Nat → List Value, ∀ i, f i = sL (rcSet l n (EL i) (mid + 1) to) := ⟨_, fun _ => rfl⟩
        obtain ⟨CL, hCL⟩ : ∃ f : Nat → List Value, ∀ i, f i = cL l n SL (mid + 1) to i := ⟨_, fun _ => rfl⟩
        have hC0 : CL 0 = [] := hCL 0
        have hCs : ∀ i, CL (i + 1) = CL i ++ LK i := fun i => by
          rw [hCL, hCL, hLK, hEL]
          exact Eq.refl (cL l n SL (mid + 1) to i ++ sL (kS l n (mid + 1) to (elI SL i)))
        have i9 : ints L9 := h9 ▸ sL_ints SL
        have i10 : ints L10 := h10 ▸ sL_ints SM
        have iK : ∀ i, ints (LK i) := fun i => hLK i ▸ sL_ints _
        have iC : ∀ i, ints (CL i) := fun i => hCL i ▸ cL_ints SL (mid + 1) to i
        have n9 : L9.length ≤ 16 := h9 ▸ sL_len SL
        have n10 : L10.length ≤ 16 := h10 ▸ sL_len SM
        have nK : ∀ i, (LK i).length ≤ 16 := fun i => hLK i ▸ sL_len _
        have nC : ∀ i, (CL i).length ≤ 16 * i := fun i => hCL i ▸ cL_len SL (mid + 1) to i
        have a9 : Value.int .i64 (ka : Int) ∈ L9 := by
          rw [h9]
          exact sL_mem.2 ⟨by omega, by omega, by rw [Int.toNat_natCast]; exact hself⟩
        have hN0 : 0 < L9.length := List.length_pos_of_mem a9
        have hat : ∀ i, i < L9.length → Value.int .i64 (EL i) = L9.getD i undef ∧ 0 ≤ EL i ∧ EL i < 16 ∧ SL.testBit (EL i).toNat = true := fun i hi => by
          rw [h9] at hi ⊢
          rw [hEL]
          exact elI_at hi
        have g1 : ∀ e w' w V, V.L 9 = L9 → DQ ((rgnm G l n ka fr mid (rcSet l n ka fr mid)).val fun _ => undef) (.tup [.slN 0 9 1, lI 0]) [some (.lst 9 tInt true)] w e w' → DQ V (.tup [.slN 0 9 1, lI 0]) [some (.lst 9 tInt true)] w e w' := fun e w' w V hV h => dq_t9 (by rw [hV, h9, hSL]; exact Eq.refl (sL (rcSet l n ka fr mid))) h
        have g2 : ∀ e w' w V, V.L 10 = L10 → DQ ((rgnm G l n ka fr to (rcSet l n ka fr to)).val fun _ => undef) (.tup [.slN 0 9 1, lI 0]) [some (.lst 9 tInt true)] w e w' → DQ V (.tup [.slN 0 10 1, lI 0]) [some (.lst 10 tInt true)] w e w' := fun e w' w V hV h => dq_t10 (by rw [hV, h10, hSM]; exact Eq.refl (sL (rcSet l n ka fr to))) h
        have g3 : ∀ e w' w V, V.L 10 = L10 → DQ ((rgnm G l n ka (fr + 360) (to + 360) (rcSet l n ka (fr + 360) (to + 360))).val fun _ => undef) (.tup [.slN 0 9 1, lI 0]) [some (.lst 9 tInt true)] w e w' → DQ V (.tup [.slN 0 10 1, lI 0]) [some (.lst 10 tInt true)] w e w' := fun e w' w V hV h => dq_t10 (by rw [hV, h10, ← m1]; exact Eq.refl (sL (rcSet l n ka (fr + 360) (to + 360)))) h
        have g4 : ∀ i e w' w V, V.L 11 = LK i → DQ ((rgnm G l n (EL i) (mid + 1) to (rcSet l n (EL i) (mid + 1) to)).val fun _ => undef) (.tup [.slN 0 9 1, lI 0]) [some (.lst 9 tInt true)] w e w' → DQ V (.tup [.slN 0 11 1, lI 0]) [some (.lst 11 tInt true)] w e w' := fun i e w' w V hV h => dq_t11 (by rw [hV, hLK]; exact Eq.refl (sL (rcSet l n (EL i) (mid + 1) to))) h
        have kK : ∀ i, 0 ≤ EL i → EL i < 16 → Value.int .i64 (EL i) ∈ LK i := fun i e1 e2 => by
          rw [hLK]
          exact sL_mem.2 ⟨e1, e2, runS_self hva (by omega) _⟩
        let nm : Nat → Nm := fun i => fcnm G l n ka fr mid to i (EL i) 0 0 L9 L10 (LK i) (CL i) (CL (i + 1))
        have ht : @TbOK ((nm 0).val fun _ => undef) fcG := by
          have r1 := reach_good (l := l) (n := n) ((nm 0).val fun _ => undef) (a := (ka : Int)) (fr := fr) (to := mid) (x := sI 20) (y := sI 22) (z := sI 23) rfl rfl hl hn hva rfl rfl rfl rfl rfl rfl p0 p1 p2 p3 (by omega)
          have r2 := reach_good (l := l) (n := n) ((nm 0).val fun _ => undef) (a := (ka : Int)) (fr := fr) (to := to) (x := sI 20) (y := sI 22) (z := sI 24) rfl rfl hl hn hva rfl rfl rfl rfl rfl rfl p0 p1 p2 (by omega) (by omega)
          have r3 := reach_good (l := l) (n := n) ((nm 0).val fun _ => undef) (a := (ka : Int)) (fr := fr + 360) (to := to + 360) (x := sI 20) (y := sI 32) (z := sI 34) rfl rfl hl hn hva rfl rfl rfl rfl rfl rfl p0 p1 (by omega) (by omega) (by omega)
          have q1 : @QNTrue ((nm 0).val fun _ => undef) ⟨fReach, [fellR, sI 20, sI 22, sI 23], .tup [.slN 0 9 1, lI 0], [some (.lst 9 tInt true)]⟩ := fun w hr vs hv => (r1 w hr vs hv).mono fun e w' h => g1 e w' w _ rfl h
          have q2 : @QNTrue ((nm 0).val fun _ => undef) ⟨fReach, [fellR, sI 20, sI 22, sI 24], .tup [.slN 0 10 1, lI 0], [some (.lst 10 tInt true)]⟩ := fun w hr vs hv => (r2 w hr vs hv).mono fun e w' h => g2 e w' w _ rfl h
          have q3 : @QNTrue ((nm 0).val fun _ => undef) ⟨fReach, [fellR, sI 20, sI 32, sI 34], .tup [.slN 0 10 1, lI 0], [some (.lst 10 tInt true)]⟩ := fun w hr vs hv => (r3 w hr vs hv).mono fun e w' h => g3 e w' w _ rfl h
          have hck0 := check_ans ((nm 0).val fun _ => undef) (G := G) (l := l) (n := n) rfl rfl hl hn
          rw [show errM G l n = 0 by unfold errM; rw [hva]; rfl] at hck0
          have hin := in_ansq ((nm 0).val fun _ => undef) L9 i9 (by omega) (i := 9) rfl (x := sI 20) (v := (ka : Int)) rfl rfl (q := true) ⟨fun _ => rfl, fun _ => a9⟩
          have hint := ints_ans ((nm 0).val fun _ => undef) L10 i10 _ rfl (by omega) (i := 10) rfl
          have hN' := hN ((nm 0).val fun _ => undef) rfl rfl rfl rfl rfl
          letI : Val := (nm 0).val fun _ => undef
          exact { X := saneX_true, T := fapp (fa (f_gtr (k := .i64) (m := (n : Int)) (n := 200) rfl rfl (decide_eq_false hbig)) hN') (fa (f_add (m := fr) (n := 360) (r := fr + 360) rfl rfl rfl rfl rfl (by omega) (by omega)) (fa (f_add (m := to) (n := 360) (r := to + 360) rfl rfl rfl rfl rfl (by omega) (by omega)) fz)), LL := fa ⟨rfl, n, Nat.succ_pos 3, hn, rfl⟩ fz, C := fa hck0 (fa hin (fa hint fz)), U := qnU_ok _ (fa q1 (fa q2 (fa q3 fz))) }
        refine fn_loopL (κ := Bool) (nm 0) (fun _ => undef) fcG [] fFellComposes fcD fcP (fun m ne c => ∃ i, i ≤ L9.length ∧ ne = decide (0 < i) ∧ c = nm i ∧ m = L9.length - i) ht (fcS (lI 0) none) [0, 1, 2, 3] false L9.length fc_enter (nm 0) (fun W' => holds_all (fcS_ok (fun _ => undef) W' rfl false (fun h => by cases h))) ⟨0, Nat.zero_le _, rfl, rfl, rfl⟩ (DF (.bool true)) ?_ w hr vs (hv _ _ _ _ _ _ _ _ _)
        rintro w m ne c ⟨i, hi, rfl, rfl, rfl⟩ W
        rcases Nat.lt_or_ge i L9.length with hlt | hge
        · obtain ⟨e0, e1, e2, e3⟩ := hat i hlt
          have e4 : EL i < G := by
            have := hinL _ e3
            omega
          have r1 := reach_good (l := l) (n := n) ((nm i).val W) (a := EL i) (fr := mid + 1) (to := to) (x := sI 3) (y := sI 33) (z := sI 24) rfl rfl hl hn hva rfl rfl rfl rfl rfl rfl e1 e4 (by omega) (by omega) (by omega)
          have q1 : @QNTrue ((nm i).val W) ⟨fReach, [fellR, sI 3, sI 33, sI 24], .tup [.slN 0 11 1, lI 0], [some (.lst 11 tInt true)]⟩ := fun w hr vs hv => (r1 w hr vs hv).mono fun e w' h => g4 i e w' w _ rfl h
          have l11 := nK i
          have hin := in_ansq ((nm i).val W) (LK i) (iK i) (by omega) (i := 11) rfl (x := sI 3) (v := EL i) rfl rfl (q := true) ⟨fun _ => rfl, fun _ => kK i e1 e2⟩
          have h11 : LK i ≠ [] := fun h => by
            have := kK i e1 e2
            rw [h] at this
            cases this
          have hlb : @LBTrue ((nm i).val W) ⟨if decide (0 < i) then some 12 else none, 11, 13⟩ := by
            have hl13 := nC (i + 1)
            refine ⟨h11, ?_, ?_, fun v hv => ?_⟩
            · show CL (i + 1) = _
              rw [hCs]
              by_cases h0 : 0 < i
              · rw [decide_eq_true h0]
                rfl
              · obtain rfl : i = 0 := by omega
                rw [hC0]
                rfl
            · show (CL (i + 1)).length ≤ 1000000
              omega
            · obtain ⟨z, hz⟩ := iC (i + 1) v hv
              rw [hz]
              rfl
          have hlx : ∀ e, e ∈ ([⟨9, 2, [sI 3]⟩] : List LEE) → @LXTrue ((nm i).val W) e := by
            refine fa ⟨rfl, ?_, ?_⟩ fz
            · show ((i : Int)).toNat * 1 + 1 ≤ L9.length
              rw [Int.toNat_natCast]
              omega
            · show (L9.drop (((i : Int)).toNat * 1)).take 1 = [.int .i64 (EL i)]
              rw [Int.toNat_natCast, row1 i hlt, e0]
          have tb : @TbOK ((nm i).val W) (fcL (decide (0 < i))) := by
            letI : Val := (nm i).val W
            exact { T := fa (f_lss (k := .i64) (m := (i : Int)) (n := (L9.length : Int)) rfl rfl (decide_eq_true (by omega))) (fa (f_lss (k := .i64) (m := (i : Int)) (n := 16) rfl rfl (decide_eq_true (by omega))) (fa ⟨rfl, .i64, .i64, (i : Int), (L9.length : Int), rfl, rfl, congrArg Value.bool (decide_eq_true ⟨by omega, by omega⟩).symm⟩ (fa (f_add1 (m := mid) rfl rfl rfl (by omega) (by omega)) (fa (f_add1 (m := (i : Int)) rfl rfl rfl (by omega) (by omega)) fz)))), LL := fa ⟨rfl, n, Nat.succ_pos 3, hn, rfl⟩ (fa ⟨rfl, L9.length, Nat.succ_pos 0, by rw [Nat.mul_one]; rfl, rfl⟩ fz), LX := hlx, C := fa hin fz, U := qnU_ok _ (fa q1 fz), LB := fa hlb fz }
          exact .inl (step_to _ [] tb (fcS (sI 7) (some 13)) _ true (nm (i + 1)) (all2_all fc_again (decide (0 < i))) (fun W' => holds_all (fcS_ok W W' rfl true (fun _ => rfl))) ⟨L9.length - (i + 1), by omega, i + 1, hlt, by simp, rfl, rfl⟩)
        · obtain rfl : i = L9.length := by omega
          rw [decide_eq_true hN0]
          have tb : @TbOK ((nm L9.length).val W) fcX := by
            letI : Val := (nm L9.length).val W
            exact { T := fa (f_lss (k := .i64) (m := (L9.length : Int)) (n := (L9.length : Int)) rfl rfl (decide_eq_false (by omega))) fz, LL := fa ⟨rfl, L9.length, Nat.succ_pos 0, by rw [Nat.mul_one]; rfl, rfl⟩ fz }
          have hl12 := nC L9.length
          have m3' : ∀ x : Nat, x < 16 → (Value.int .i64 (x : Int) ∈ CL L9.length ↔ SM.testBit x = true) := fun x hx => by
            rw [hCL, h9]
            exact m3 x hx
          have hd := fc_head2 (G := G) (l := l) (n := n) (a := (ka : Int)) (fr := fr) (mid := mid) (to := to) SL SM (CL L9.length) m2 (by omega) hG16 (iC _) (by omega) m3' hinM w
          rw [← h9, ← h10] at hd
          exact .inr ⟨fcX, [], fcS2 (lI 0) (lI 0), [0, 1, 2, 3, 4], fcQ, fcnm G l n ka fr mid to 0 0 0 0 L9 L10 [] (CL L9.length) [], tb, fc_next, fun W' => holds_all (fcS2_ok W W' rfl rfl), hd⟩
      · have ht : @TbOK (nm0.val fun _ => undef) (fcE (fcCls G a fr mid to)) := by
          have h := fcN_ok (nm0.val fun _ => undef) (G := G) (a := a) (fr := fr) (mid := mid) (to := to) rfl rfl rfl rfl rfl 6 (Nat.le_refl _)
          letI : Val := nm0.val fun _ => undef
          exact { X := saneX_true, T := fa hgt h, LL := hLL0, C := fa hck fz }
        exact done_flat _ ht (allU_lt fc_err _ (show fcCls G a fr mid to < 6 by omega)) rfl rfl rfl w hr vs (hv _ _ _ _ _ _ _ _ _)
end Go.Proofs.Z
