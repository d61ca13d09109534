/- A part of the proofs that the laws of layer four answer true for every input. -/
import Derived.Test.YtjjmnoiiihcoiaaGreatDoorZHD
namespace Go.Proofs.Z
open Go Go.RowKit Go.Proofs Go.Ri Go.Proofs.Z.Fa
/-! Meeting of the specification: its contract; the law FellMeets. -/
def renm (G : Int) (l : List Value) (n : Nat) (a b fr to : Int) (d : Int) (x : Nat) (L13 L15 L14 L16 : List Value) : Nm :=
  ⟨fun j => if j = 0 then G else if j = 1 then (n : Int) else if j = 20 then a else if j = 21 then b else if j = 22 then fr else if j = 23 then to else if j = 8 then d else if j = 25 then d + 1 else if j = 24 then (x : Int) else if j = 27 then (x : Int) + 1 else if j = 50 then to - fr else fr + 5760, ny, fun _ => ⟨#[]⟩,
   fun j => if j = 0 then l else if j = 13 then L13 else if j = 15 then L15 else if j = 11 then onL l n d else if j = 14 then L14 else L16⟩
theorem rrT_gen (V : Val) {fr to d : Int} (h8 : V.I 8 = d) (h22 : V.I 22 = fr) (h23 : V.I 23 = to) (h25 : V.I 25 = d + 1) (h50 : V.I 50 = to - fr) (h51 : V.I 51 = fr + 5760) (h0 : 0 ≤ fr) (h1 : fr ≤ 1048576) (h2 : 0 ≤ to) (h3 : to ≤ 1048576) (h4 : 0 ≤ d) (h5 : d ≤ 10000000) {b : Bool} (hb : decide (d ≤ endM fr to) = b) : ∀ e, e ∈ rrT (decide (to - fr > 5760)) b → @TETrue V e := by
  letI := V
  have e8 : cv (sI 8) = .int .i64 d := congrArg (Value.int .i64) h8
  have e22 : cv (sI 22) = .int .i64 fr := congrArg (Value.int .i64) h22
  have e23 : cv (sI 23) = .int .i64 to := congrArg (Value.int .i64) h23
  have e25 : cv (sI 25) = .int .i64 (d + 1) := congrArg (Value.int .i64) h25
  have e50 : cv (sI 50) = .int .i64 (to - fr) := congrArg (Value.int .i64) h50
  have e51 : cv (sI 51) = .int .i64 (fr + 5760) := congrArg (Value.int .i64) h51
  refine fapp (fa (f_sub (m := to) (n := fr) (r := to - fr) e23 e22 e50 rfl rfl (by omega) (by omega)) (fa (f_gtr (k := .i64) (m := to - fr) (n := 5760) e50 rfl rfl) (fa (f_add (m := fr) (n := 5760) (r := fr + 5760) e22 rfl e51 rfl rfl (by omega) (by omega)) fz))) (fa ?_ (fa (f_add1 (m := d) e8 e25 rfl h4 (by omega)) fz))
  unfold endM at hb
  by_cases hl : to - fr > 5760
  · rw [decide_eq_true hl, if_pos rfl]
    rw [if_pos hl] at hb
    exact f_leq (k := .i64) (m := d) (n := fr + 5760) e8 e51 hb
  · rw [decide_eq_false hl, if_neg (by decide)]
    rw [if_neg hl] at hb
    exact f_leq (k := .i64) (m := d) (n := to) e8 e23 hb
section
variable {G : Int} {l : List Value} {n : Nat} {a b fr to : Int}
theorem reX_ok (d : Int) (x x' : Nat) (L13 L15 L14 L16 M13 M15 M14 M16 : List Value) {r : RV} {j k : Nat} (W W' : Nat → Value) (hr : @cv ((renm G l n a b fr to d x L13 L15 L14 L16).val W) r = .int .i64 (x' : Nat)) (hj : M13 = ((renm G l n a b fr to d x L13 L15 L14 L16).val W).L j) (hk : M15 = ((renm G l n a b fr to d x L13 L15 L14 L16).val W).L k) : ∀ e, e ∈ reX r j k → okSE ((renm G l n a b fr to d x L13 L15 L14 L16).val W) ((renm G l n a b fr to d x' M13 M15 M14 M16).val W') e :=
  fa ⟨.i64, (x' : Int), hr, rfl⟩ (fa ⟨.i64, d, rfl, rfl⟩ (fapp (ids_ok [0, 1, 20, 21, 22, 23] (fa rfl (fa rfl (fa rfl (fa rfl (fa rfl (fa rfl fz))))))) (fa (show l = l from rfl) (fa hj (fa hk fz)))))
theorem reS_ok (d d' : Int) (x x' : Nat) (L13 L15 L14 L16 M14 M16 : List Value) {r : RV} (W W' : Nat → Value) (hr : @cv ((renm G l n a b fr to d x L13 L15 L14 L16).val W) r = .int .i64 d') : ∀ e, e ∈ reS r 13 15 → okSE ((renm G l n a b fr to d x L13 L15 L14 L16).val W) ((renm G l n a b fr to d' x' L13 L15 M14 M16).val W') e :=
  fa ⟨.i64, d', hr, rfl⟩ (fapp (ids_ok [0, 1, 20, 21, 22, 23] (fa rfl (fa rfl (fa rfl (fa rfl (fa rfl (fa rfl fz))))))) (fa (show l = l from rfl) (fa (show L13 = L13 from rfl) (fa (show L15 = L15 from rfl) fz))))
end
/-- A list of booleans that is empty, as nil. -/
theorem nil_nval {V : Val} {w : World} {i : Nat} {v : Value} (hnil : V.L i = []) (h : @Go.Ri.NVal V w nilR v) : @Go.Ri.NVal V w (.slN 0 i 1) v := by
  have h : v = Value.slice none 0 0 := h
  rw [h]
  refine ⟨none, 0, 0, rfl, fun h => absurd hnil h, by decide, ?_, Nat.le_refl _, fun a ha => by cases ha⟩
  rw [hnil]
  rfl
theorem nil_qn {V : Val} {f : FuncId} {d : RV} {i : Nat} {r : RV} {h : RH} {x : RV} (hnil : V.L i = []) (q : @QNTrue V ⟨f, [x, d, .slN 0 i 1], r, h⟩) : @QNTrue V ⟨f, [x, d, nilR], r, h⟩ := fun w hr vs hv => by
  refine q w hr vs ?_
  cases hv with
  | cons h1 h2 => cases h2 with
    | cons h2 h3 => cases h3 with
      | cons h3 h4 =>
        cases h4
        exact .cons h1 (.cons h2 (.cons (nil_nval hnil h3) .nil))
set_option maxHeartbeats 4000000 in
theorem rmeeting_ans (V : Val) {G : Int} {l : List Value} {n : Nat} {a b fr to : Int} {x y z u : RV} (hG : V.I 0 = G) (hL : V.L 0 = l) (hl : ints l) (hn : l.length = n * 4) (fx : flat x = true) (hx : @cvF V x = .int .i64 a) (fy : flat y = true) (hy : @cvF V y = .int .i64 b) (fz' : flat z = true) (hz : @cvF V z = .int .i64 fr) (fu : flat u = true) (hu : @cvF V u = .int .i64 to) :
    @AnsN V fRMeeting [fellR, x, y, z, u] (meM G l n a b fr to) := by
  intro w hr vs hv
  have hva0 : ∀ d x L13 L15 L14 L16, All2 (@Go.Ri.NVal ((renm G l n a b fr to d x L13 L15 L14 L16).val fun _ => undef) w) meD vs := fun d x L13 L15 L14 L16 => nval5 hG hL fx hx fy hy fz' hz fu hu rfl rfl rfl rfl rfl rfl hv
  unfold meM
  let nm0 : Nm := renm G l n a b fr to 0 0 [] [] [] []
  have hLL0 : ∀ e, e ∈ hLL → @LLTrue (nm0.val fun _ => undef) e := fa ⟨rfl, n, Nat.succ_pos 3, hn, rfl⟩ fz
  have hC0 : @AnsN (nm0.val fun _ => undef) fValid [fellR] (.bool (validM G l n)) := valid_ans _ rfl rfl hl hn
  cases hva : validM G l n with
  | false =>
    have ht : @TbOK (nm0.val fun _ => undef) { LL := hLL, C := [⟨fValid, [fellR], bR false⟩] } := by
      letI : Val := nm0.val fun _ => undef
      rw [hva] at hC0
      exact { LL := hLL0, C := fa hC0 fz }
    exact done_flat _ ht re_err40 rfl rfl rfl w hr vs (hva0 _ _ _ _ _ _)
  | true =>
    have hle : agCls G a b fr to ≤ 8 := firstBad_le (agTest G a b fr to) 8 0
    by_cases hc8 : agCls G a b fr to = 8
    · rw [if_pos rfl, if_pos hc8]
      have p0 : (0 : Int) ≤ a := of_decide_eq_true (agTest_pass (G := G) (a := a) (b := b) (fr := fr) (to := to) (j := 0) (by omega))
      have p1 : a < G := of_decide_eq_true (agTest_pass (G := G) (a := a) (b := b) (fr := fr) (to := to) (j := 1) (by omega))
      have p2 : (0 : Int) ≤ b := of_decide_eq_true (agTest_pass (G := G) (a := a) (b := b) (fr := fr) (to := to) (j := 2) (by omega))
      have p3 : b < G := of_decide_eq_true (agTest_pass (G := G) (a := a) (b := b) (fr := fr) (to := to) (j := 3) (by omega))
      have p4 : (0 : Int) ≤ fr := of_decide_eq_true (agTest_pass (G := G) (a := a) (b := b) (fr := fr) (to := to) (j := 4) (by omega))
      have p5 : fr ≤ 1048576 := of_decide_eq_true (agTest_pass (G := G) (a := a) (b := b) (fr := fr) (to := to) (j := 5) (by omega))
      have p6 : fr ≤ to := of_decide_eq_true (agTest_pass (G := G) (a := a) (b := b) (fr := fr) (to := to) (j := 6) (by omega))
      have p7 : to ≤ 1048576 := of_decide_eq_true (agTest_pass (G := G) (a := a) (b := b) (fr := fr) (to := to) (j := 7) (by omega))
      have hg := (validM_iff _ _ _).1 hva
      have hG16 := hg.2.1
      have hb32 := hg.2.2.1
      obtain ⟨ka, rfl⟩ : ∃ k : Nat, a = (k : Int) := ⟨a.toNat, by omega⟩
      obtain ⟨kb, rfl⟩ : ∃ k : Nat, b = (k : Int) := ⟨b.toNat, by omega⟩
      have hS0 : 2 ^ ka < 65536 := pow_lt16 (by omega)
      have hT0 : 2 ^ kb < 65536 := pow_lt16 (by omega)
      rw [Int.toNat_natCast, Int.toNat_natCast]
      show Calls Tryz.prog fRMeeting vs.toArray w (DF (if meK l n (2 ^ ka) (2 ^ kb) fr (to + 1 - fr).toNat < (to + 1 - fr).toNat then meV (fr + meK l n (2 ^ ka) (2 ^ kb) fr (to + 1 - fr).toNat) (Lib.ctz 16 (meB l n (2 ^ ka) (2 ^ kb) fr (meK l n (2 ^ ka) (2 ^ kb) fr (to + 1 - fr).toNat)) : Nat) true 0 else meV 0 0 false 0) w)
      have hinS := runS_in (fr := fr) hva p1
      have hinT := runS_in (fr := fr) hva p3
      have hE1 : fr ≤ endM fr to := by unfold endM; split <;> omega
      have hE2 : endM fr to ≤ to := by unfold endM; split <;> omega
      obtain ⟨M, hM⟩ : ∃ M : Nat, M = (endM fr to + 1 - fr).toNat := ⟨_, rfl⟩
      -- what is found is found within sixteen years
      have hlong : (∀ j, j < M → meB l n (2 ^ ka) (2 ^ kb) fr j = 0) → ∀ j, j < (to + 1 - fr).toNat → meB l n (2 ^ ka) (2 ^ kb) fr j = 0 := fun h j hj => by
        by_cases hlg : to - fr > 5760
        · have eM : M = 5761 := by
            rw [hM]
            unfold endM
            rw [if_pos hlg]
            omega
          rcases Nat.lt_or_ge j 5761 with h1 | h1
          · exact h j (by omega)
          · have := h 5759 (by omega)
            unfold meB at this ⊢
            rw [runS_long hva hS0 p4 (cnt_pow (by omega)) (j := j + 1) (by omega), runS_long hva hT0 p4 (cnt_pow (by omega)) (j := j + 1) (by omega)]
            exact this
        · have eM : M = (to + 1 - fr).toNat := by
            rw [hM]
            unfold endM
            rw [if_neg hlg]
          exact h j (by omega)
      have hMM : M ≤ (to + 1 - fr).toNat := by omega
      let B : Nat → List Value := fun i => bls (fun x => (runS l n (2 ^ ka) fr i).testBit x) G.toNat
      let B' : Nat → List Value := fun i => bls (fun x => (runS l n (2 ^ kb) fr i).testBit x) G.toNat
      let C : Nat → List Value := fun i => bls (cloL l n (odP l (fr + i)) (fun x => (runS l n (2 ^ ka) fr i).testBit x)) G.toNat
      let C' : Nat → List Value := fun i => bls (cloL l n (odP l (fr + i)) (fun x => (runS l n (2 ^ kb) fr i).testBit x)) G.toNat
      have hBC : ∀ i, C i = B (i + 1) := fun i => bls_congr fun x _ => (clS_bit (e := odP l (fr + i)) hva (runS_lt hS0 i) x).symm
      have hBC' : ∀ i, C' i = B' (i + 1) := fun i => bls_congr fun x _ => (clS_bit (e := odP l (fr + i)) hva (runS_lt hT0 i) x).symm
      let nm : Nat → Nm := fun i => renm G l n ka kb fr to (fr + i) 0 (B i) (B' i) (C i) (C' i)
      let ni : Nat → Nat → Nm := fun i x => renm G l n ka kb fr to (fr + i) x (B (i + 1)) (B' (i + 1)) [] []
      have ht : @TbOK ((nm 0).val fun _ => undef) reE8 := by
        letI : Val := (nm 0).val fun _ => undef
        have hT' := agT_gen ((nm 0).val fun _ => undef) (G := G) (a := (ka : Int)) (b := (kb : Int)) (fr := fr) (to := to) rfl rfl rfl rfl rfl
        rw [hc8, show decide (0 ≤ to) = true from decide_eq_true (by omega)] at hT'
        have hC1 := valid_ans ((nm 0).val fun _ => undef) (G := G) (l := l) rfl rfl hl hn
        rw [hva] at hC1
        have hone := one_q ((nm 0).val fun _ => undef) (G := G) (l := l) (x := sI 20) (a := ka) rfl rfl hn hva p1 rfl rfl (bls_congr fun x _ => by
          show (2 ^ ka).testBit x = decide (x = ka)
          rw [Nat.testBit_two_pow]
          exact decide_eq_decide.2 ⟨fun h => h.symm, fun h => h.symm⟩)
        have hone2 := one_q15 ((nm 0).val fun _ => undef) (G := G) (l := l) (x := sI 21) (a := kb) rfl rfl hn hva p3 rfl rfl (bls_congr fun x _ => by
          show (2 ^ kb).testBit x = decide (x = kb)
          rw [Nat.testBit_two_pow]
          exact decide_eq_decide.2 ⟨fun h => h.symm, fun h => h.symm⟩)
        exact { T := hT', LL := fa ⟨rfl, n, Nat.succ_pos 3, hn, rfl⟩ fz, C := fa hC1 fz, U := qnU_ok _ (fa hone (fa hone2 fz)) }
      refine fn_loopO3 (κ := Unit) (nm 0) (fun _ => undef) reE8 [] fRMeeting meD (fun _ => reP) (fun m _ c => ∃ i, i ≤ M ∧ (∀ j, j < i → meB l n (2 ^ ka) (2 ^ kb) fr j = 0) ∧ c = nm i ∧ m = M - i) ht (reS (sI 22) 13 15) [0, 1, 2, 3] () M re_enter (renm G l n ka kb fr to fr 0 (B 0) (B' 0) (C 0) (C' 0)) (fun W' => holds_all (reS_ok _ _ _ _ _ _ _ _ _ _ _ W' rfl)) ⟨0, Nat.zero_le _, fun j hj => absurd hj (Nat.not_lt_zero _), ?_, rfl⟩ _ ?_ w hr vs (hva0 _ _ _ _ _ _)
      · show renm G l n ka kb fr to fr 0 (B 0) (B' 0) (C 0) (C' 0) = renm G l n ka kb fr to (fr + ((0 : Nat) : Int)) 0 (B 0) (B' 0) (C 0) (C' 0)
        rw [show fr + ((0 : Nat) : Int) = fr by omega]
      · rintro w m _ c ⟨i, hi, hz, rfl, rfl⟩ W
        rcases Nat.lt_or_ge i M with hlt | hge
        · have hd : fr + (i : Int) ≤ endM fr to := by omega
          have hTr := rrT_gen ((nm i).val W) (fr := fr) (to := to) (d := fr + i) rfl rfl rfl rfl rfl rfl p4 p5 (by omega) p7 (by omega) (by omega) (decide_eq_true hd)
          have hon := on_q ((nm i).val W) (G := G) (l := l) (n := n) (d := fr + i) rfl rfl hl hn hb32 rfl (by omega) rfl
          have hsp := rspread_q ((nm i).val W) (G := G) (l := l) (n := n) rfl rfl hl hn hva (fun x => (runS l n (2 ^ ka) fr i).testBit x) (odP l (fr + i)) rfl rfl rfl
          have hsp2 := rspread_q16 ((nm i).val W) (G := G) (l := l) (n := n) rfl rfl hl hn hva (fun x => (runS l n (2 ^ kb) fr i).testBit x) (odP l (fr + i)) rfl rfl rfl
          have hU : ∀ q, q ∈ reU (!(onL l n (fr + i)).isEmpty) → @QNTrue ((nm i).val W) q := by
            cases hE : (onL l n (fr + i)).isEmpty with
            | false =>
              rw [hE] at hon
              exact fa hon (fa hsp (fa hsp2 fz))
            | true =>
              rw [hE] at hon
              have hnil : ((nm i).val W).L 11 = [] := List.isEmpty_iff.1 hE
              exact fa hon (fa (nil_qn hnil hsp) (fa (nil_qn hnil hsp2) fz))
          generalize (!(onL l n (fr + i)).isEmpty) = ne at hU
          have htb : @TbOK ((nm i).val W) (reT (decide (to - fr > 5760)) ne) := by
            letI : Val := (nm i).val W
            exact { T := hTr, U := qnU_ok _ hU }
          refine .inr ⟨Unit, reT (decide (to - fr > 5760)) ne, [], reX (lI 0) 14 16, if ne then [0, 1, 5, 7] else [0, 1, 4, 5], fun _ => reQ, fun m _ c => ∃ x, x ≤ G.toNat ∧ (∀ j, j < x → (meB l n (2 ^ ka) (2 ^ kb) fr i).testBit j = false) ∧ c = ni i x ∧ m = G.toNat - x, G.toNat, (), ni i 0, htb, fun W' => holds_all (reX_ok _ _ 0 _ _ _ _ _ _ _ _ W W' rfl (hBC i).symm (hBC' i).symm), all2_all (all2_all re_in (decide (to - fr > 5760))) ne, ⟨0, Nat.zero_le _, fun j hj => absurd hj (Nat.not_lt_zero _), rfl, rfl⟩, ?_⟩
          generalize decide (to - fr > 5760) = lg
          rintro m _ c ⟨x, hx, hlow, rfl, rfl⟩ W
          letI : Val := (ni i x).val W
          rcases Nat.lt_or_ge x G.toNat with hxl | hxg
          · have hxG : (x : Int) < G := by omega
            have bit : (meB l n (2 ^ ka) (2 ^ kb) fr i).testBit x = ((runS l n (2 ^ ka) fr (i + 1)).testBit x && (runS l n (2 ^ kb) fr (i + 1)).testBit x) := by
              unfold meB
              rw [Nat.testBit_and]
            have lx1 := bls_lx (V := (ni i x).val W) (b := fun x => (runS l n (2 ^ ka) fr (i + 1)).testBit x) (n := G.toNat) (i := 13) (j := 24) rfl (show (0 : Int) ≤ (x : Int) by omega) (by show ((x : Int)).toNat < G.toNat; rw [Int.toNat_natCast]; exact hxl)
            have lx2 := bls_lx (V := (ni i x).val W) (b := fun x => (runS l n (2 ^ kb) fr (i + 1)).testBit x) (n := G.toNat) (i := 15) (j := 24) rfl (show (0 : Int) ≤ (x : Int) by omega) (by show ((x : Int)).toNat < G.toNat; rw [Int.toNat_natCast]; exact hxl)
            rw [show (((ni i x).val W).I 24).toNat = x from Int.toNat_natCast x] at lx1 lx2
            have hB : ∀ s : Nat → Bool, (bls s G.toNat).length = G.toNat * 1 := fun s => by rw [bls_len, Nat.mul_one]
            have hGc : Value.int .i64 G = .int .i64 ((G.toNat : Nat) : Int) := by rw [show ((G.toNat : Nat) : Int) = G by omega]
            have tb : TbOK (reI ((runS l n (2 ^ ka) fr (i + 1)).testBit x) ((runS l n (2 ^ kb) fr (i + 1)).testBit x)) :=
              { T := fa (f_lss (k := .i64) (m := (x : Int)) (n := G) rfl rfl (decide_eq_true hxG)) (fa ⟨rfl, .i64, .i64, (x : Int), G, rfl, rfl, congrArg Value.bool (decide_eq_true ⟨by omega, hxG⟩).symm⟩ (fa (f_add1 (m := (x : Int)) rfl rfl rfl (by omega) (by omega)) fz)),
                LL := fa ⟨rfl, n, Nat.succ_pos 3, hn, rfl⟩ (fa ⟨rfl, G.toNat, Nat.succ_pos 0, hB _, hGc⟩ (fa ⟨rfl, G.toNat, Nat.succ_pos 0, hB _, hGc⟩ fz)), LX := fa lx1 (fa lx2 fz) }
            cases hpq : ((runS l n (2 ^ ka) fr (i + 1)).testBit x && (runS l n (2 ^ kb) fr (i + 1)).testBit x) with
            | false =>
              have hrun := all2_all (all2_all (all2_all (all2_all re_again lg) ne) ((runS l n (2 ^ ka) fr (i + 1)).testBit x)) ((runS l n (2 ^ kb) fr (i + 1)).testBit x)
              rw [hpq, Bool.false_or] at hrun
              refine ⟨_, [], tb, .inl ⟨reX (sI 27) 13 15, [0, 1, 2, 3], (), ni i (x + 1), ⟨G.toNat - (x + 1), by omega, x + 1, hxl, fun j hj => ?_, rfl, rfl⟩, fun W' => holds_all (reX_ok _ _ (x + 1) _ _ _ _ _ _ _ _ W W' rfl rfl rfl), hrun⟩⟩
              rcases Nat.lt_or_eq_of_le (Nat.le_of_lt_succ hj) with h1 | rfl
              · exact hlow j h1
              · rw [bit]; exact hpq
            | true =>
              have hne : meB l n (2 ^ ka) (2 ^ kb) fr i ≠ 0 := fun h => by
                rw [h, hpq] at bit
                simp at bit
              have hlt16 : meB l n (2 ^ ka) (2 ^ kb) fr i < 65536 := Nat.lt_of_le_of_lt Nat.and_le_left (runS_lt hS0 (i + 1))
              have hk : meK l n (2 ^ ka) (2 ^ kb) fr (to + 1 - fr).toNat = i := fb_eq (fun j hj => decide_eq_true (hz j hj)) (by omega) (decide_eq_false hne)
              obtain ⟨c1, c2, c3⟩ := ctz_bit hne hlt16
              have hcx : Lib.ctz 16 (meB l n (2 ^ ka) (2 ^ kb) fr i) = x := by
                rcases Nat.lt_trichotomy (Lib.ctz 16 (meB l n (2 ^ ka) (2 ^ kb) fr i)) x with h1 | h1 | h1
                · rw [hlow _ h1] at c1
                  cases c1
                · exact h1
                · have := c3 x h1
                  rw [bit, hpq] at this
                  cases this
              rw [hk, if_pos (show i < (to + 1 - fr).toNat by omega), hcx]
              simp only [Bool.and_eq_true] at hpq
              rw [hpq.1, hpq.2] at tb
              exact step_outIF (reI true true) [] [] tb _ (all2_all (all2_all re_found lg) ne) rfl
          · obtain rfl : x = G.toNat := by omega
            have tb : TbOK { T := [⟨.bin .lss, sI 24, sI 0, bR false⟩, ⟨.bin .add, sI 8, lI 1, sI 25⟩] } :=
              { T := fa (f_lss (k := .i64) (m := ((G.toNat : Nat) : Int)) (n := G) rfl rfl (decide_eq_false (by omega))) (fa (f_add1 (m := fr + i) rfl rfl rfl (by omega) (by omega)) fz) }
            have hzi : meB l n (2 ^ ka) (2 ^ kb) fr i = 0 := by
              apply Nat.eq_of_testBit_eq
              intro j
              rw [Nat.zero_testBit]
              rcases Nat.lt_or_ge j G.toNat with h1 | h1
              · exact hlow j h1
              · rw [Bool.eq_false_iff]
                intro h
                unfold meB at h
                rw [Nat.testBit_and, Bool.and_eq_true] at h
                have := hinS (i + 1) j h.1
                omega
            refine ⟨_, [], tb, .inr (.inl ⟨reS (sI 25) 13 15, [0, 1, 2, 3], (), renm G l n ka kb fr to (fr + i + 1) 0 (B (i + 1)) (B' (i + 1)) (C (i + 1)) (C' (i + 1)), ⟨M - (i + 1), by omega, i + 1, hlt, fun j hj => ?_, ?_, rfl⟩, fun W' => holds_all (reS_ok _ _ _ _ _ _ _ _ _ _ W W' rfl), all2_all (all2_all re_back lg) ne⟩)⟩
            · rcases Nat.lt_or_eq_of_le (Nat.le_of_lt_succ hj) with h1 | rfl
              · exact hz j h1
              · exact hzi
            · show renm G l n ka kb fr to (fr + i + 1) 0 (B (i + 1)) (B' (i + 1)) (C (i + 1)) (C' (i + 1)) = renm G l n ka kb fr to (fr + ((i + 1 : Nat) : Int)) 0 (B (i + 1)) (B' (i + 1)) (C (i + 1)) (C' (i + 1))
              rw [show fr + ((i + 1 : Nat) : Int) = fr + i + 1 by omega]
        · obtain rfl : i = M := by omega
          have hd : ¬ fr + (i : Int) ≤ endM fr to := by omega
          have hTr := rrT_gen ((nm i).val W) (fr := fr) (to := to) (d := fr + i) rfl rfl rfl rfl rfl rfl p4 p5 (by omega) p7 (by omega) (by omega) (decide_eq_false hd)
          have hk : meK l n (2 ^ ka) (2 ^ kb) fr (to + 1 - fr).toNat = (to + 1 - fr).toNat := fb_end fun j hj => decide_eq_true (hlong hz j hj)
          rw [hk, if_neg (Nat.lt_irrefl _)]
          letI : Val := (nm i).val W
          exact .inl (step_outF _ [] { T := hTr } _ (all2_all re_out (decide (to - fr > 5760))) rfl)
    · rw [if_pos rfl, if_neg hc8]
      have ht : @TbOK (nm0.val fun _ => undef) (rrE true (agCls G a b fr to) (decide (0 ≤ to))) := by
        letI : Val := nm0.val fun _ => undef
        rw [hva] at hC0
        exact { T := agT_gen _ rfl rfl rfl rfl rfl, LL := hLL0, C := fa hC0 fz }
      exact done_flat _ ht (all2_all (allU_lt re_err _ (show agCls G a b fr to < 8 by omega)) (decide (0 ≤ to))) rfl rfl rfl w hr vs (hva0 _ _ _ _ _ _)
end Go.Proofs.Z
