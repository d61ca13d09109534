/- A part of the proofs that the laws of layer four answer true for every input. -/
import Derived.Test.YtjjmnoiiihcoiaaGreatDoorZGX
namespace Go.Proofs.Z
open Go Go.RowKit Go.Proofs Go.Ri Go.Proofs.Z.Fa
/-! Reach of the specification: its contract. -/
def endM (fr to : Int) : Int := if to - fr > 5760 then fr + 5760 else to
def rrnm (G : Int) (l : List Value) (n : Nat) (a : Nat) (fr to : Int) (d : Int) (L13 L14 L9 : List Value) : Nm :=
  ⟨fun j => if j = 0 then G else if j = 1 then (n : Int) else if j = 20 then (a : Int) else if j = 21 then (a : Int) else if j = 22 then fr else if j = 23 then to else if j = 8 then d else if j = 25 then d + 1 else if j = 50 then to - fr else fr + 5760, ny, fun _ => ⟨#[]⟩,
   fun j => if j = 0 then l else if j = 13 then L13 else if j = 11 then onL l n d else if j = 14 then L14 else L9⟩
theorem f_sub [Val] {a b c : RV} {m n r : Int} (ha : cv a = .int .i64 m) (hb : cv b = .int .i64 n) (hc : cv c = .int .i64 r) (hf : flat0 c = true) (hr : r = m - n) (h0 : -9000000000000000000 ≤ r) (h1 : r ≤ 9000000000000000000) : TETrue ⟨.bin .sub, a, b, c⟩ := by
  refine ⟨hf, ?_⟩
  show TCTrue _ (cv a) (cv b) (cv c)
  rw [ha, hb, hc]
  have := t_sub .i64 m n
  rw [← hr, IntWalk.i64_in _ (by omega)] at this
  exact this
section
variable {G : Int} {l : List Value} {n : Nat} {a : Nat} {fr to : Int}
theorem rrS_ok (d : Int) (L13 L14 L14' L9 L9' : List Value) (W W' : Nat → Value) : ∀ e, e ∈ rrS (sI 25) 14 → okSE ((rrnm G l n a fr to d L13 L14 L9).val W) ((rrnm G l n a fr to (d + 1) L14 L14' L9').val W') e :=
  fa ⟨.i64, d + 1, rfl, rfl⟩ (fapp (ids_ok [0, 1, 20, 22, 23] (fa rfl (fa rfl (fa rfl (fa rfl (fa rfl fz)))))) (fa (show l = l from rfl) (fa (show L14 = L14 from rfl) fz)))
theorem rrS0_ok (d : Int) (L13 L14 L14' L9 L9' : List Value) (W W' : Nat → Value) : ∀ e, e ∈ rrS (sI 22) 13 → okSE ((rrnm G l n a fr to d L13 L14 L9).val W) ((rrnm G l n a fr to fr L13 L14' L9').val W') e :=
  fa ⟨.i64, fr, rfl, rfl⟩ (fapp (ids_ok [0, 1, 20, 22, 23] (fa rfl (fa rfl (fa rfl (fa rfl (fa rfl fz)))))) (fa (show l = l from rfl) (fa (show L13 = L13 from rfl) fz)))
theorem rrT_ok (d : Int) (L13 L14 L9 : List Value) (W : Nat → Value) (h0 : 0 ≤ fr) (h1 : fr ≤ 1048576) (h2 : 0 ≤ to) (h3 : to ≤ 1048576) (h4 : 0 ≤ d) (h5 : d ≤ 10000000) {b : Bool} (hb : decide (d ≤ endM fr to) = b) : ∀ e, e ∈ rrT (decide (to - fr > 5760)) b → @TETrue ((rrnm G l n a fr to d L13 L14 L9).val W) e := by
  letI : Val := (rrnm G l n a fr to d L13 L14 L9).val W
  refine fapp (fa (f_sub (m := to) (n := fr) (r := to - fr) rfl rfl rfl rfl rfl (by omega) (by omega)) (fa (f_gtr (k := .i64) (m := to - fr) (n := 5760) rfl rfl rfl) (fa (f_add (m := fr) (n := 5760) (r := fr + 5760) rfl rfl rfl rfl rfl (by omega) (by omega)) fz))) (fa ?_ (fa (f_add1 (m := d) rfl rfl rfl h4 (by omega)) fz))
  unfold endM at hb
  by_cases hl : to - fr > 5760
  · rw [decide_eq_true hl, if_pos rfl]
    rw [if_pos hl] at hb
    exact f_leq (k := .i64) (m := d) (n := fr + 5760) rfl rfl hb
  · rw [decide_eq_false hl, if_neg (by decide)]
    rw [if_neg hl] at hb
    exact f_leq (k := .i64) (m := d) (n := to) rfl rfl hb
end
set_option maxHeartbeats 2000000 in
theorem rreach_q (V : Val) {G : Int} {l : List Value} {n : Nat} {a fr to : Int} {x y z : RV} (hG : V.I 0 = G) (hL : V.L 0 = l) (hl : ints l) (hn : l.length = n * 4) (fx : flat x = true) (hx : @cvF V x = .int .i64 a) (fy : flat y = true) (hy : @cvF V y = .int .i64 fr) (fz' : flat z = true) (hz : @cvF V z = .int .i64 to) (h9 : V.L 9 = sL (rcSet l n a fr to)) :
    ∀ w, RoIn ro w → ∀ vs, All2 (@Go.Ri.NVal V w) [fellR, x, y, z] vs → Calls Tryz.prog fRReach vs.toArray w (DQ V (ogAns (rcErr G l n a fr to) (!(sL (rcSet l n a fr to)).isEmpty)).1 (ogAns (rcErr G l n a fr to) (!(sL (rcSet l n a fr to)).isEmpty)).2 w) := by
  intro w hr vs hv
  have hva0 : ∀ nm : Nm, nm.I 0 = G → nm.L 0 = l → nm.I 20 = a → nm.I 22 = fr → nm.I 23 = to → All2 (@Go.Ri.NVal (nm.val fun _ => undef) w) rcD vs := fun nm e0 e1 e2 e3 e4 => by
    cases hv with
    | cons h1 h2 => cases h2 with
      | cons h2 h3 => cases h3 with
        | cons h3 h4 => cases h4 with
          | cons h4 h5 =>
            cases h5
            exact .cons (fell_nval1 (hG.trans e0.symm) (hL.trans e1.symm) h1) (.cons (nval_re fx rfl hx (show Value.int .i64 (nm.I 20) = .int .i64 a by rw [e2]) h2) (.cons (nval_re fy rfl hy (show Value.int .i64 (nm.I 22) = .int .i64 fr by rw [e3]) h3) (.cons (nval_re fz' rfl hz (show Value.int .i64 (nm.I 23) = .int .i64 to by rw [e4]) h4) .nil)))
  unfold rcErr
  let nm0 : Nm := ⟨fun j => if j = 0 then G else if j = 1 then (n : Int) else if j = 20 then a else if j = 21 then a else if j = 22 then fr else to, ny, fun _ => ⟨#[]⟩, fun _ => l⟩
  have hLL0 : ∀ e, e ∈ hLL → @LLTrue (nm0.val fun _ => undef) e := fa ⟨rfl, n, Nat.succ_pos 3, hn, rfl⟩ fz
  have hC0 : @AnsN (nm0.val fun _ => undef) fValid [fellR] (.bool (validM G l n)) := valid_ans _ rfl rfl hl hn
  cases hva : validM G l n with
  | false =>
    have ht : @TbOK (nm0.val fun _ => undef) { LL := hLL, C := [⟨fValid, [fellR], bR false⟩] } := by
      letI : Val := nm0.val fun _ => undef
      rw [hva] at hC0
      exact { LL := hLL0, C := fa hC0 fz }
    exact done_calls _ V ht rr_err40 rfl (holds_all fz) w hr vs (hva0 nm0 rfl rfl rfl rfl rfl)
  | true =>
    have hle : agCls G a a fr to ≤ 8 := firstBad_le (agTest G a a fr to) 8 0
    by_cases hc8 : agCls G a a fr to = 8
    · rw [if_pos rfl, if_pos hc8]
      have p0 : (0 : Int) ≤ a := of_decide_eq_true (agTest_pass (G := G) (a := a) (b := a) (fr := fr) (to := to) (j := 0) (by omega))
      have p1 : a < G := of_decide_eq_true (agTest_pass (G := G) (a := a) (b := a) (fr := fr) (to := to) (j := 1) (by omega))
      have p4 : (0 : Int) ≤ fr := of_decide_eq_true (agTest_pass (G := G) (a := a) (b := a) (fr := fr) (to := to) (j := 4) (by omega))
      have p5 : fr ≤ 1048576 := of_decide_eq_true (agTest_pass (G := G) (a := a) (b := a) (fr := fr) (to := to) (j := 5) (by omega))
      have p6 : fr ≤ to := of_decide_eq_true (agTest_pass (G := G) (a := a) (b := a) (fr := fr) (to := to) (j := 6) (by omega))
      have p7 : to ≤ 1048576 := of_decide_eq_true (agTest_pass (G := G) (a := a) (b := a) (fr := fr) (to := to) (j := 7) (by omega))
      have hg := (validM_iff _ _ _).1 hva
      have hG16 := hg.2.1
      have hb32 := hg.2.2.1
      obtain ⟨k, rfl⟩ : ∃ k : Nat, a = (k : Int) := ⟨a.toNat, by omega⟩
      have hk16 : k < 16 := by omega
      have hS0 : 2 ^ k < 65536 := pow_lt16 hk16
      have eset : rcSet l n (k : Int) fr to = runS l n (2 ^ k) fr (to + 1 - fr).toNat := by
        unfold rcSet
        rw [Int.toNat_natCast]
      rw [eset] at h9 ⊢
      have hT := agT_gen ((rrnm G l n k fr to 0 [] [] []).val fun _ => undef) (G := G) (a := (k : Int)) (b := (k : Int)) (fr := fr) (to := to) rfl rfl rfl rfl rfl
      rw [hc8, show decide (0 ≤ to) = true from decide_eq_true (by omega)] at hT
      -- the set on the days, as bits
      have hin := runS_in (fr := fr) hva p1
      have hrun : runS l n (2 ^ k) fr (to + 1 - fr).toNat = runS l n (2 ^ k) fr (endM fr to + 1 - fr).toNat := by
        unfold endM
        by_cases hlg : to - fr > 5760
        · rw [if_pos hlg]
          rw [runS_long hva hS0 p4 (cnt_pow hk16) (j := (to + 1 - fr).toNat) (by omega), runS_long hva hS0 p4 (cnt_pow hk16) (j := (fr + 5760 + 1 - fr).toNat) (by omega)]
        · rw [if_neg hlg]
      have hE1 : fr ≤ endM fr to := by unfold endM; split <;> omega
      have hE2 : endM fr to ≤ 1048576 := by unfold endM; split <;> omega
      obtain ⟨M, hM⟩ : ∃ M : Nat, M = (endM fr to + 1 - fr).toNat := ⟨_, rfl⟩
      rw [hrun, ← hM] at h9 ⊢
      let B : Nat → List Value := fun i => bls (fun x => (runS l n (2 ^ k) fr i).testBit x) G.toNat
      let C : Nat → List Value := fun i => bls (cloL l n (odP l (fr + i)) (fun x => (runS l n (2 ^ k) fr i).testBit x)) G.toNat
      have hBC : ∀ i, C i = B (i + 1) := fun i => bls_congr fun x _ => (clS_bit (e := odP l (fr + i)) hva (runS_lt hS0 i) x).symm
      let nm : Nat → Nm := fun i => rrnm G l n k fr to (fr + i) (B i) (C i) (sL (runS l n (2 ^ k) fr M))
      have hLL : ∀ i W, ∀ e, e ∈ hLL → @LLTrue ((nm i).val W) e := fun i W => fa ⟨rfl, n, Nat.succ_pos 3, hn, rfl⟩ fz
      have ht : @TbOK ((nm 0).val fun _ => undef) rrE8 := by
        letI : Val := (nm 0).val fun _ => undef
        have hT' := agT_gen ((nm 0).val fun _ => undef) (G := G) (a := (k : Int)) (b := (k : Int)) (fr := fr) (to := to) rfl rfl rfl rfl rfl
        rw [hc8, show decide (0 ≤ to) = true from decide_eq_true (by omega)] at hT'
        have hC1 := valid_ans ((nm 0).val fun _ => undef) (G := G) (l := l) rfl rfl hl hn
        rw [hva] at hC1
        have hone := one_q ((nm 0).val fun _ => undef) (G := G) (l := l) (x := sI 20) (a := k) rfl rfl hn hva p1 rfl rfl (bls_congr fun x _ => by
          show (2 ^ k).testBit x = decide (x = k)
          rw [Nat.testBit_two_pow]
          exact decide_eq_decide.2 ⟨fun h => h.symm, fun h => h.symm⟩)
        exact { T := hT', LL := hLL 0 _, C := fa hC1 fz, U := qnU_ok _ (fa hone fz) }
      refine fn_loop (κ := Unit) (nm 0) (fun _ => undef) rrE8 [] fRReach rcD (fun _ => rrP) (fun m _ c => ∃ i, i ≤ M ∧ c = nm i ∧ m = M - i) ht (rrS (sI 22) 13) [0, 1, 2] () M rr_enter (rrnm G l n k fr to fr (B 0) (C 0) (sL (runS l n (2 ^ k) fr M))) (fun W' => holds_all (rrS0_ok _ _ _ _ _ _ _ W')) ⟨0, Nat.zero_le _, ?_, rfl⟩ _ ?_ w hr vs (hva0 (nm 0) rfl rfl rfl rfl rfl)
      · show rrnm G l n k fr to fr (B 0) (C 0) _ = rrnm G l n k fr to (fr + ((0 : Nat) : Int)) (B 0) (C 0) _
        rw [show fr + ((0 : Nat) : Int) = fr by omega]
      · rintro w m _ c ⟨i, hi, rfl, rfl⟩ W
        rcases Nat.lt_or_ge i M with hlt | hge
        · have hd : fr + (i : Int) ≤ endM fr to := by omega
          have hTr := rrT_ok (G := G) (l := l) (n := n) (a := k) (fr + i) (B i) (C i) (sL (runS l n (2 ^ k) fr M)) W p4 p5 (by omega) p7 (by omega) (by omega) (decide_eq_true hd)
          have hon := on_q ((nm i).val W) (G := G) (l := l) (n := n) (d := fr + i) rfl rfl hl hn hb32 rfl (by omega) rfl
          have hsp := rspread_q ((nm i).val W) (G := G) (l := l) (n := n) rfl rfl hl hn hva (fun x => (runS l n (2 ^ k) fr i).testBit x) (odP l (fr + i)) rfl rfl rfl
          have hU : ∀ q, q ∈ rrU (!(onL l n (fr + i)).isEmpty) → @QNTrue ((nm i).val W) q := by
            cases hE : (onL l n (fr + i)).isEmpty with
            | false =>
              rw [hE] at hon
              exact fa hon (fa hsp fz)
            | true =>
              rw [hE] at hon
              refine fa hon (fa (fun w hr vs hv => hsp w hr vs ?_) fz)
              cases hv with
              | cons h1 h2 => cases h2 with
                | cons h2 h3 => cases h3 with
                  | cons h3 h4 =>
                    cases h4
                    refine .cons h1 (.cons h2 (.cons ?_ .nil))
                    have h3 : _ = Value.slice none 0 0 := h3
                    rw [h3]
                    have hnil : onL l n (fr + i) = [] := List.isEmpty_iff.1 hE
                    refine ⟨none, 0, 0, rfl, fun h => absurd hnil h, by decide, ?_, Nat.le_refl _, fun a ha => by cases ha⟩
                    show (onL l n (fr + i)).length = 0 * 1
                    rw [hnil]
                    rfl
          have htb : @TbOK ((nm i).val W) { T := rrT (decide (to - fr > 5760)) true, U := qnU (rrU (!(onL l n (fr + i)).isEmpty)) } := by
            letI : Val := (nm i).val W
            exact { T := hTr, U := qnU_ok _ hU }
          refine step_to _ [] htb (rrS (sI 25) 14) _ () (rrnm G l n k fr to (fr + i + 1) (C i) (C (i + 1)) (sL (runS l n (2 ^ k) fr M))) (all2_all (all2_all rr_again (decide (to - fr > 5760))) (!(onL l n (fr + i)).isEmpty)) (fun W' => holds_all (rrS_ok _ _ _ _ _ _ W W')) ⟨M - (i + 1), by omega, i + 1, hlt, ?_, rfl⟩
          show rrnm G l n k fr to (fr + i + 1) (C i) (C (i + 1)) _ = rrnm G l n k fr to (fr + ((i + 1 : Nat) : Int)) (B (i + 1)) (C (i + 1)) _
          rw [hBC i, show fr + ((i + 1 : Nat) : Int) = fr + i + 1 by omega]
        · obtain rfl : i = M := by omega
          have hd : ¬ fr + (i : Int) ≤ endM fr to := by omega
          have hTr := rrT_ok (G := G) (l := l) (n := n) (a := k) (fr + i) (B i) (C i) (sL (runS l n (2 ^ k) fr i)) W p4 p5 (by omega) p7 (by omega) (by omega) (decide_eq_false hd)
          have egl : gl (fun x => (runS l n (2 ^ k) fr i).testBit x) ogC G.toNat = sL (runS l n (2 ^ k) fr i) := by
            have := gl_trunc (b := fun x => (runS l n (2 ^ k) fr i).testBit x) (c := ogC) (m := G.toNat) (fun j hj => by
              show (runS l n (2 ^ k) fr i).testBit j = false
              rw [Bool.eq_false_iff]
              intro h
              have := hin i j h
              omega) (16 - G.toNat)
            rw [show G.toNat + (16 - G.toNat) = 16 by omega] at this
            exact this.symm
          have hli := list_q ((nm i).val W) (fun x => (runS l n (2 ^ k) fr i).testBit x) G.toNat (by omega) (i := 13) rfl egl.symm
          rw [egl] at hli
          have htb : @TbOK ((nm i).val W) { T := rrT (decide (to - fr > 5760)) false, U := qnU [⟨fList, [.slN 0 13 1], (lstA1 (sL (runS l n (2 ^ k) fr i)).isEmpty).1, (lstA1 (sL (runS l n (2 ^ k) fr i)).isEmpty).2⟩] } := by
            letI : Val := (nm i).val W
            refine { T := hTr, U := qnU_ok _ (fa (fun w hr vs hv => (hli w hr vs hv).mono fun e w' h => ?_) fz) }
            cases hE : (sL (runS l n (2 ^ k) fr i)).isEmpty <;> rw [hE] at h <;> exact h
          refine step_outQ _ [] htb V _ _ _ _ (all2_all (all2_all rr_out (decide (to - fr > 5760))) (sL (runS l n (2 ^ k) fr i)).isEmpty) ?_ (holds_all ?_)
          · cases (sL (runS l n (2 ^ k) fr i)).isEmpty <;> rfl
          · split
            · exact fz
            · exact fa h9 fz
    · rw [if_pos rfl, if_neg hc8]
      have ht : @TbOK (nm0.val fun _ => undef) (rrE true (agCls G a a fr to) (decide (0 ≤ to))) := by
        letI : Val := nm0.val fun _ => undef
        rw [hva] at hC0
        exact { T := agT_gen _ rfl rfl rfl rfl rfl, LL := hLL0, C := fa hC0 fz }
      have hk := all2_all (allU_lt rr_err _ (show agCls G a a fr to < 8 by omega)) (decide (0 ≤ to))
      have h2 : agCls G a a fr to ≠ 2 := fun h => agCls_ne2 h
      have h3 : agCls G a a fr to ≠ 3 := fun h => agCls_ne3 h
      simp only [Bool.or_eq_true] at hk
      rcases hk with (hk | hk) | hk
      · exact absurd (Nat.eq_of_beq_eq_true hk) h2
      · exact absurd (Nat.eq_of_beq_eq_true hk) h3
      · exact done_calls _ V ht hk rfl (holds_all fz) w hr vs (hva0 nm0 rfl rfl rfl rfl rfl)
end Go.Proofs.Z
