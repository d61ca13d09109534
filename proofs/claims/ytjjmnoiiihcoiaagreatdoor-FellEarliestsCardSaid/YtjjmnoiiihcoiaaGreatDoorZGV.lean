/- A part of the proofs that the laws of layer four answer true for every input. -/
import Derived.Test.YtjjmnoiiihcoiaaGreatDoorZGU
namespace Go.Proofs.Z
open Go Go.RowKit Go.Proofs Go.Ri Go.Proofs.Z.Fa
/-! spread of the specification: its contract. -/
section
variable (V : Val) {G : Int} {l : List Value} {n : Nat}
noncomputable def cloL (l : List Value) (n : Nat) (e s : Nat → Bool) : Nat → Bool := clo n (gA' l) (gB' l) e s
set_option maxHeartbeats 4000000 in
theorem rspread_q (hG : V.I 0 = G) (hL : V.L 0 = l) (hl : ints l) (hn : l.length = n * 4) (hva : validM G l n = true) (s e : Nat → Bool) (h13 : V.L 13 = bls s G.toNat) (h11 : V.L 11 = bls e n) (h14 : V.L 14 = bls (cloL l n e s) G.toNat) :
    @QNTrue V ⟨fRSpread, [fellR, .slN 0 13 1, .slN 0 11 1], .slN 0 14 1, [some (.lst 14 tBool true)]⟩ := by
  intro w hr vs hv
  have hg := (validM_iff _ _ _).1 hva
  have hb32 : n ≤ 32 := hg.2.2.1
  have hv : All2 (@Go.Ri.NVal ((rsnm G l n s e s 0).val fun _ => undef) w) rsD vs := by
    cases hv with
    | cons h1 h2 => cases h2 with
      | cons h2 h3 => cases h3 with
        | cons h3 h4 =>
          cases h4
          exact .cons (fell_nval1 hG hL h1) (.cons (lst_nval (V := V) (V' := (rsnm G l n s e s 0).val fun _ => undef) (j := 1) h13 h2) (.cons (lst_nval (V := V) (V' := (rsnm G l n s e s 0).val fun _ => undef) (j := 2) h11 h3) .nil))
  have hll : ∀ b k W, ∀ q, q ∈ rsLL → @LLTrue ((rsnm G l n s e b k).val W) q := fun b k W => rs_ll hn (by omega) s e b k W
  let V1 : Val := (rsnm G l n s e (cloL l n e s) 0).val fun _ => undef
  have ht0 : @TbOK ((rsnm G l n s e s 0).val fun _ => undef) rsE := by
    letI : Val := (rsnm G l n s e s 0).val fun _ => undef
    refine { LL := hll s 0 _, LM := fa ⟨G.toNat, by omega, ?_, bls_rep _⟩ fz, OC := fa (bls_one s _) fz }
    show G = ((G.toNat : Nat) : Int)
    omega
  have main := fn_loopO (κ := Bool) (rsnm G l n s e s 0) (fun _ => undef) rsE [] fRSpread rsD rsO (fun m o c => ∃ b : Nat → Bool, (∀ x, s x = true → b x = true) ∧ (∀ x, b x = true → cloL l n e s x = true) ∧ (o = false → ∀ k, k < n → e k = true → b (gA' l k) = b (gB' l k)) ∧ c = rsnm G l n s e b 0 ∧ m = if o then 2 * (16 - cnt b 16) + 1 else 0) ht0 (rsS0 1) [0, 1, 2, 3, 4] true (2 * (16 - cnt s 16) + 1) rs_enter (rsnm G l n s e s 0) (fun W' => holds_all (rs_ids s e s s 0 0 1 (fun W => rfl) _ W')) ⟨s, fun x h => h, fun x h => clo_sub h, (fun h => by cases h), rfl, rfl⟩ (DQ V1 (.slN 0 30 1) [some (.lst 9 tBool true)]) ?_ w hr vs hv
  · refine main.mono fun x w' h => dq_ren14 (V1 := V1) ?_ ?_ h
    · show (bls (fun _ => false) G.toNat).length = (bls (cloL l n e s) G.toNat).length
      rw [bls_len, bls_len]
    · exact h14
  · rintro w m o c ⟨b0, hsb, hbc, hcl, rfl, rfl⟩ W
    cases o with
    | false =>
      refine .inl (step_outQ {} [] (tb0 _) V1 _ _ _ _ rs_out rfl (holds_all (fa (show bls (fun _ => false) G.toNat = bls (fun _ => false) G.toNat from rfl) (fa ?_ fz))))
      show bls (cloL l n e s) G.toNat = bls b0 G.toNat
      exact bls_congr fun i _ => (clo_eq hsb hbc (hcl rfl) i).symm
    | true =>
      have htI : @TbOK ((rsnm G l n s e b0 0).val W) { LL := rsLL } := by
        letI : Val := (rsnm G l n s e b0 0).val W
        exact { LL := hll b0 0 W }
      refine .inr ⟨Bool, { LL := rsLL }, [], rsS (lI 0) 9, [0, 1, 2, 3, 4], rsI, fun m o c => ∃ (b : Nat → Bool) (k : Nat), k ≤ n ∧ (∀ x, s x = true → b x = true) ∧ (∀ x, b x = true → cloL l n e s x = true) ∧ (o = false → ∀ j, j < k → e j = true → b (gA' l j) = b (gB' l j)) ∧ (o = true → cnt b0 16 < cnt b 16) ∧ (∀ x, b0 x = true → b x = true) ∧ c = rsnm G l n s e b k ∧ m = n - k, n, false, rsnm G l n s e b0 0, htI, fun W' => holds_all (fa ⟨.i64, 0, rfl, rfl⟩ (rs_ids s e b0 b0 0 0 9 (fun W => rfl) W W')), rs_in, ⟨b0, 0, Nat.zero_le _, hsb, hbc, fun _ j hj => absurd hj (Nat.not_lt_zero _), (fun h => by cases h), fun x h => h, rfl, rfl⟩, ?_⟩
      rintro m' o c ⟨b, k, hk, hsb2, hbc2, hcl2, hgr, hb0, rfl, rfl⟩ W
      letI : Val := (rsnm G l n s e b k).val W
      rcases Nat.lt_or_ge k n with hlt | hge
      · obtain ⟨a0, a1, c0, c1, a2, c2⟩ := gate_range hva hlt
        have la : gA' l k < G.toNat := by unfold gA'; omega
        have lb : gB' l k < G.toNat := by unfold gB'; omega
        have hlx : ∀ q, q ∈ ([⟨0, 2, [sI 3, sI 4, sI 5, sI 6]⟩, ⟨2, 2, [bR (e k)]⟩, ⟨9, 3, [bR (b (gA' l k))]⟩, ⟨9, 4, [bR (b (gB' l k))]⟩] : List LEE) → LXTrue q := by
          have h4 : k * 4 + 4 ≤ l.length := by omega
          refine fa ⟨rfl, ?_, ?_⟩ (fa ?_ (fa ?_ (fa ?_ fz)))
          · show ((k : Int)).toNat * 4 + 4 ≤ l.length
            rw [Int.toNat_natCast]
            exact h4
          · show (l.drop (((k : Int)).toNat * 4)).take 4 = _
            rw [Int.toNat_natCast, row4 hl k h4]
            rfl
          · have := bls_lx (V := (rsnm G l n s e b k).val W) (b := e) (n := n) (i := 2) (j := 2) rfl (show (0 : Int) ≤ (k : Int) by omega) (by show ((k : Int)).toNat < n; rw [Int.toNat_natCast]; exact hlt)
            rw [show (((rsnm G l n s e b k).val W).I 2).toNat = k from Int.toNat_natCast k] at this
            exact this
          · exact bls_lx (V := (rsnm G l n s e b k).val W) (b := b) (n := G.toNat) (i := 9) (j := 3) rfl a0 la
          · exact bls_lx (V := (rsnm G l n s e b k).val W) (b := b) (n := G.toNat) (i := 9) (j := 4) rfl c0 lb
        have hTf : ∀ q, q ∈ (rsT (e k) (b (gA' l k)) (b (gB' l k))).T → TETrue q := by
          refine fapp (hT_gen _ rfl rfl rfl (by omega) (by simp [hlt])) (fa ⟨rfl, e k, rfl, rfl⟩ (fa ⟨rfl, .i64, .i64, gtA l k, G, rfl, rfl, congrArg Value.bool (decide_eq_true ⟨a0, a2⟩).symm⟩ (fa ⟨rfl, .i64, .i64, gtB l k, G, rfl, rfl, congrArg Value.bool (decide_eq_true ⟨c0, c2⟩).symm⟩ fz)))
        cases hc : (e k && (b (gA' l k) != b (gB' l k))) with
        | false =>
          have tb : TbOK { rsT (e k) (b (gA' l k)) (b (gB' l k)) with LW := [] } := { T := hTf, LL := hll b k W, LX := hlx }
          have hrun := all2_all (all2_all (all2_all (all2_all rs_again o) (e k)) (b (gA' l k))) (b (gB' l k))
          rw [hc, Bool.false_or] at hrun
          refine ⟨_, [], tb, .inl ⟨rsS (sI 7) 9, [0, 1, 2, 3, 4], o, rsnm G l n s e b (k + 1), ⟨n - (k + 1), by omega, b, k + 1, hlt, hsb2, hbc2, fun ho j hj he => ?_, hgr, hb0, rfl, rfl⟩, fun W' => holds_all (fa ⟨.i64, (k : Int) + 1, rfl, rfl⟩ (rs_ids s e b b k (k + 1) 9 (fun W => rfl) W W')), hrun⟩⟩
          rcases Nat.lt_or_eq_of_le (Nat.le_of_lt_succ hj) with h1 | rfl
          · exact hcl2 ho j h1 he
          · rw [he, Bool.true_and] at hc
            simpa using hc
        | true =>
          simp only [Bool.and_eq_true] at hc
          have hne : b (gA' l k) ≠ b (gB' l k) := by simpa using hc.2
          have hq : b (gB' l k) = !(b (gA' l k)) := by
            cases h1 : b (gA' l k) <;> cases h2 : b (gB' l k) <;> first | rfl | (rw [h1, h2] at hne; exact absurd rfl hne)
          have tb : TbOK (rsT (e k) (b (gA' l k)) (b (gB' l k))) := by
            refine { T := hTf, LL := hll b k W, LX := hlx, LW := fa ⟨a0, ?_, ?_⟩ (fa ⟨c0, ?_, ?_⟩ fz) }
            · show (gtA l k).toNat < (bls b G.toNat).length
              rw [bls_len]
              exact la
            · show bls (fun x => b x || decide (x = gA' l k)) G.toNat = (bls b G.toNat).set (gA' l k) (.bool true)
              rw [bls_set _ _ _ la]
            · show (gtB l k).toNat < (bls (fun x => b x || decide (x = gA' l k)) G.toNat).length
              rw [bls_len]
              exact lb
            · show bls (fun x => (b x || decide (x = gA' l k)) || decide (x = gB' l k)) G.toNat = (bls (fun x => b x || decide (x = gA' l k)) G.toNat).set (gB' l k) (.bool true)
              rw [bls_set _ _ _ lb]
          have hrun := all2_all (all2_all rs_again2 o) (b (gA' l k))
          rw [hc.1, hq] at tb
          have hsub : ∀ x, b x = true → ((b x || decide (x = gA' l k)) || decide (x = gB' l k)) = true := fun x h => by rw [h]; rfl
          have hcab : cloL l n e s (gA' l k) = cloL l n e s (gB' l k) := clo_cl hlt hc.1
          have hboth : cloL l n e s (gA' l k) = true ∧ cloL l n e s (gB' l k) = true := by
            cases h1 : b (gA' l k) with
            | true => exact ⟨hbc2 _ h1, hcab ▸ hbc2 _ h1⟩
            | false =>
              have h2 : b (gB' l k) = true := by rw [hq, h1]; rfl
              exact ⟨hcab.symm ▸ hbc2 _ h2, hbc2 _ h2⟩
          have hcnt : cnt b 16 < cnt (fun x => (b x || decide (x = gA' l k)) || decide (x = gB' l k)) 16 := by
            cases h1 : b (gA' l k) with
            | false => exact cnt_lt (S := b) hsub (i := gA' l k) h1 (by simp) 16 (by unfold gA'; omega)
            | true => exact cnt_lt (S := b) hsub (i := gB' l k) (by rw [hq, h1]; rfl) (by simp) 16 (by unfold gB'; omega)
          have hcnt0 : cnt b0 16 < cnt (fun x => (b x || decide (x = gA' l k)) || decide (x = gB' l k)) 16 := by
            cases o with
            | true => have := hgr rfl; omega
            | false =>
              have h0 : cnt b0 16 ≤ cnt b 16 := cnt_mono (fun x h => hb0 x h) 16
              omega
          refine ⟨_, [], tb, .inl ⟨rsS (sI 7) 32, [0, 1, 2, 3, 4], true, rsnm G l n s e (fun x => (b x || decide (x = gA' l k)) || decide (x = gB' l k)) (k + 1), ⟨n - (k + 1), by omega, _, k + 1, hlt, fun x h => hsub x (hsb2 x h), fun x h => ?_, (fun h => by cases h), fun _ => hcnt0, fun x h => hsub x (hb0 x h), rfl, rfl⟩, fun W' => holds_all (fa ⟨.i64, (k : Int) + 1, rfl, rfl⟩ (rs_ids s e b _ k (k + 1) 32 (fun W => rfl) W W')), hrun⟩⟩
          simp only [Bool.or_eq_true, decide_eq_true_eq] at h
          rcases h with (h | rfl) | rfl
          · exact hbc2 x h
          · exact hboth.1
          · exact hboth.2
      · obtain rfl : k = n := by omega
        have tb : TbOK { T := hT false, LL := rsLL } := { T := hT_gen _ rfl rfl rfl (by omega) (by simp), LL := hll b k W }
        refine ⟨_, [], tb, .inr ⟨rsS0 9, [0, 1, 2, 3, 4], o, rsnm G l k s e b 0, ⟨if o then 2 * (16 - cnt b 16) + 1 else 0, ?_, b, hsb2, hbc2, fun ho j hj he => hcl2 ho j hj he, rfl, rfl⟩, fun W' => holds_all (rs_ids s e b b k 0 9 (fun W => rfl) W W'), all2_all rs_back o⟩⟩
        cases o with
        | false => simp
        | true =>
          have := hgr rfl
          have h2 := cnt_le b 16
          simp
          omega
end
end Go.Proofs.Z
