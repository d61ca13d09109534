/- A part of the proofs that the laws of layer four answer true for every input. -/
import Derived.Test.YtjjmnoiiihcoiaaGreatDoorZHI
namespace Go.Proofs.Z
open Go Go.RowKit Go.Proofs Go.Ri Go.Proofs.Z.Fa
/-! The law FellEvers. -/
def fvTest (G a b fr : Int) (i : Nat) : Bool := if i = 0 then decide (0 ≤ a) else if i = 1 then decide (a < G) else if i = 2 then decide (0 ≤ b) else if i = 3 then decide (b < G) else if i = 4 then decide (0 ≤ fr) else decide (fr ≤ 1042816)
def fvCls (G a b fr : Int) : Nat := firstBad (fvTest G a b fr) 6 0
theorem fvT_ok (V : Val) {G a b fr : Int} (h0 : V.I 0 = G) (h20 : V.I 20 = a) (h21 : V.I 21 = b) (h22 : V.I 22 = fr) (j : Nat) (p : Bool) (hp : fvTest G a b fr j = p) : ∀ e, e ∈ fvT j p → @TETrue V e := by
  letI := V
  have e0 : cv (sI 0) = .int .i64 G := congrArg (Value.int .i64) h0
  have e20 : cv (sI 20) = .int .i64 a := congrArg (Value.int .i64) h20
  have e21 : cv (sI 21) = .int .i64 b := congrArg (Value.int .i64) h21
  have e22 : cv (sI 22) = .int .i64 fr := congrArg (Value.int .i64) h22
  subst hp
  by_cases h0 : j = 0
  · subst h0
    exact fa (f_lss (k := .i64) (m := a) (n := 0) e20 rfl (nd' _ _)) fz
  by_cases h1 : j = 1
  · subst h1
    exact fa (f_geq (k := .i64) (m := a) (n := G) e20 e0 (ng' _ _)) fz
  by_cases h2 : j = 2
  · subst h2
    exact fa (f_lss (k := .i64) (m := b) (n := 0) e21 rfl (nd' _ _)) fz
  by_cases h3 : j = 3
  · subst h3
    exact fa (f_geq (k := .i64) (m := b) (n := G) e21 e0 (ng' _ _)) fz
  by_cases h4 : j = 4
  · subst h4
    exact fa (f_lss (k := .i64) (m := fr) (n := 0) e22 rfl (nd' _ _)) fz
  have et : fvTest G a b fr j = decide (fr ≤ 1042816) := by unfold fvTest; rw [if_neg h0, if_neg h1, if_neg h2, if_neg h3, if_neg h4]
  have eT : fvT j (fvTest G a b fr j) = [⟨.bin .gtr, sI 22, lI 1042816, bR (!(fvTest G a b fr j))⟩] := by unfold fvT; rw [if_neg h0, if_neg h1, if_neg h2, if_neg h3, if_neg h4]
  rw [eT, et]
  exact fa (f_gtr (k := .i64) (m := fr) (n := 1042816) e22 rfl (ngt' _ _)) fz
theorem fvN_ok (V : Val) {G a b fr : Int} (h0 : V.I 0 = G) (h20 : V.I 20 = a) (h21 : V.I 21 = b) (h22 : V.I 22 = fr) : ∀ m, m ≤ 6 → ∀ e, e ∈ fvN (fvCls G a b fr) m → @TETrue V e
  | 0, _ => fz
  | j + 1, hj => by
    refine fapp (fvN_ok V h0 h20 h21 h22 j (by omega)) ?_
    split
    · rename_i h
      exact fvT_ok V h0 h20 h21 h22 j true (firstBad_pass _ 6 0 j (Nat.zero_le _) h)
    · split
      · rename_i h
        refine fvT_ok V h0 h20 h21 h22 j false ?_
        have := firstBad_fail (fvTest G a b fr) 6 0 (by show fvCls G a b fr < 6; omega)
        rw [show firstBad (fvTest G a b fr) 6 0 = j from h.symm] at this
        exact this
      · exact fz
open Classical in
theorem in_ansq (V : Val) (l : List Value) (hl : ints l) (hb : l.length ≤ 1000000) {i : Nat} (hL : V.L i = l) {x : RV} {v : Int} (fx : flat x = true) (hx : @cvF V x = .int .i64 v) {q : Bool} (hq : Value.int .i64 v ∈ l ↔ q = true) : @AnsN V fIn [.slN 0 i 1, x] (.bool q) := by
  have h := in_ans V l hl hb hL fx hx
  rwa [show decide (Value.int .i64 v ∈ l) = q by rw [Bool.eq_iff_iff, decide_eq_true_iff]; exact hq] at h
def fvNm (G : Int) (l : List Value) (n : Nat) (a b fr d x wd : Int) (E : Nat) : Nm := ⟨fun i => if i = 0 then G else if i = 1 then (n : Int) else if i = 20 then a else if i = 21 then b else if i = 22 then fr else if i = 23 then IntKind.i64.wrap (fr + 5760) else if i = 40 then d else if i = 41 then x else wd, ny, fun _ => ⟨#[]⟩, fun i => if i = 0 then l else sL E⟩
theorem evers_law (G : Int) (l : List Value) (n : Nat) (a b fr : Int) (hl : ints l) (hn : l.length = n * 4) (w : World) (hr : RoIn ro w) (vs : List Value) (hv : ∀ d x wd E, All2 (@Go.Ri.NVal ((fvNm G l n a b fr d x wd E).val fun _ => undef) w) eaD vs) : Calls Tryz.prog fFellEvers vs.toArray w (fun e w' => e = .returned (.bool true) ∧ Below w.heap.size w w') := by
  have hadd : ∀ d x wd E, @TETrue ((fvNm G l n a b fr d x wd E).val fun _ => undef) fvA := fun d x wd E => by
    letI : Val := (fvNm G l n a b fr d x wd E).val fun _ => undef
    exact ⟨rfl, t_add .i64 fr 5760⟩
  have hLL : ∀ d x wd E, ∀ q, q ∈ hLL → @LLTrue ((fvNm G l n a b fr d x wd E).val fun _ => undef) q := fun d x wd E => fa ⟨rfl, n, Nat.succ_pos 3, hn, rfl⟩ fz
  by_cases hbig : (n : Int) > 200
  · have ht : @TbOK ((fvNm G l n a b fr 0 0 0 0).val fun _ => undef) fvBig := by
      letI : Val := (fvNm G l n a b fr 0 0 0 0).val fun _ => undef
      exact { X := saneX_true, T := fa (f_gtr (k := .i64) (m := (n : Int)) (n := 200) rfl rfl (decide_eq_true hbig)) (fa (hadd _ _ _ _) fz), LL := hLL _ _ _ _ }
    exact done_flat _ ht fv_big rfl rfl rfl w hr vs (hv _ _ _ _)
  · have hgt : ∀ d x wd E, @TETrue ((fvNm G l n a b fr d x wd E).val fun _ => undef) ⟨.bin .gtr, sI 1, lI 200, bR false⟩ := fun d x wd E => by
      letI : Val := (fvNm G l n a b fr d x wd E).val fun _ => undef
      exact f_gtr (k := .i64) (m := (n : Int)) (n := 200) rfl rfl (decide_eq_false hbig)
    have hck : ∀ d x wd E, @AnsN ((fvNm G l n a b fr d x wd E).val fun _ => undef) fCheck [fellR] (.int .i64 (errM G l n)) := fun d x wd E => check_ans _ rfl rfl hl hn
    cases hva : validM G l n with
    | false =>
      have he : errM G l n = 40 := by unfold errM; rw [hva]; rfl
      have ht : @TbOK ((fvNm G l n a b fr 0 0 0 0).val fun _ => undef) fvInv := by
        letI : Val := (fvNm G l n a b fr 0 0 0 0).val fun _ => undef
        have h := hck 0 0 0 0
        rw [he] at h
        exact { X := saneX_true, T := fa (hgt _ _ _ _) (fa (hadd _ _ _ _) fz), LL := hLL _ _ _ _, C := fa h fz }
      exact done_flat _ ht fv_inv rfl rfl rfl w hr vs (hv _ _ _ _)
    | true =>
      have he : errM G l n = 0 := by unfold errM; rw [hva]; rfl
      have hle : fvCls G a b fr ≤ 6 := firstBad_le (fvTest G a b fr) 6 0
      by_cases hc6 : fvCls G a b fr = 6
      · have pass : ∀ j, j < 6 → fvTest G a b fr j = true := fun j hj => firstBad_pass _ 6 0 j (Nat.zero_le _) (show j < fvCls G a b fr by omega)
        have p0 : (0 : Int) ≤ a := of_decide_eq_true (pass 0 (by omega))
        have p1 : a < G := of_decide_eq_true (pass 1 (by omega))
        have p2 : (0 : Int) ≤ b := of_decide_eq_true (pass 2 (by omega))
        have p3 : b < G := of_decide_eq_true (pass 3 (by omega))
        have p4 : (0 : Int) ≤ fr := of_decide_eq_true (pass 4 (by omega))
        have p5 : fr ≤ 1042816 := of_decide_eq_true (pass 5 (by omega))
        have hN := fun V h0 h20 h21 h22 => fvN_ok V (G := G) (a := a) (b := b) (fr := fr) h0 h20 h21 h22 6 (Nat.le_refl _)
        rw [hc6] at hN
        have hG16 := ((validM_iff _ _ _).1 hva).2.1
        obtain ⟨ka, rfl⟩ : ∃ k : Nat, a = (k : Int) := ⟨a.toNat, by omega⟩
        obtain ⟨kb, rfl⟩ : ∃ k : Nat, b = (k : Int) := ⟨b.toNat, by omega⟩
        obtain ⟨d, x, wd, m1, m2, m3, m4⟩ := evers_math (l := l) (n := n) (a := ka) (b := kb) (fr := fr) hva p1 p3 p4 p5
        have hset : rcSet l n ka fr (fr + 5760) = clS l n (usP l) (2 ^ ka) := by
          unfold rcSet
          rw [Int.toNat_natCast, show (fr + 5760 + 1 - fr).toNat = 5761 by omega]
          exact ever_set hva (by omega) p4 (by omega)
        have hself : (clS l n (usP l) (2 ^ ka)).testBit ka = true := clS_sub hva (pow_lt16 (by omega)) Nat.testBit_two_pow_self
        have hne := sL_some (show ka < 16 by omega) hself
        have hwr : IntKind.i64.wrap (fr + 5760) = fr + 5760 := IntWalk.i64_in _ (by omega)
        have hev := fun V h0 hL h20 h9 => ever_q V (G := G) (l := l) (n := n) (a := ka) h0 hL hl hn hva p1 h20 h9
        generalize clS l n (usP l) (2 ^ ka) = E at *
        let V : Val := (fvNm G l n ka kb fr d x wd E).val fun _ => undef
        have h23 : V.I 23 = fr + 5760 := hwr
        have c23 : @cvF V (sI 23) = .int .i64 (fr + 5760) := congrArg (Value.int .i64) h23
        have hre := reach_q V (G := G) (l := l) (n := n) (a := (ka : Int)) (fr := fr) (to := fr + 5760) (x := sI 20) (y := sI 22) (z := sI 23) rfl rfl hl hn rfl rfl rfl rfl rfl c23 (show V.L 9 = sL (rcSet l n ka fr (fr + 5760)) by
          rw [hset]
          exact (show sL E = sL E from rfl))
        rw [show rcErr G l n ka fr (fr + 5760) = 0 by
          unfold rcErr
          rw [if_pos hva, if_pos (agCls_ok p0 p1 p0 p1 p4 (by omega) (by omega) (by omega))], hset, hne] at hre
        have hm1 := meeting_ans V (G := G) (l := l) (n := n) (a := (ka : Int)) (b := (kb : Int)) (fr := fr) (to := fr + 5760) (x := sI 20) (y := sI 21) (z := sI 22) (u := sI 23) rfl rfl hl hn rfl rfl rfl rfl rfl rfl rfl c23
        have hm2 := meeting_ans V (G := G) (l := l) (n := n) (a := (kb : Int)) (b := (ka : Int)) (fr := fr) (to := fr + 5760) (x := sI 21) (y := sI 20) (z := sI 22) (u := sI 23) rfl rfl hl hn rfl rfl rfl rfl rfl rfl rfl c23
        have hea := earliest_ans V (G := G) (l := l) (n := n) (a := ka) (b := kb) (fr := fr) rfl rfl hl hn hva p1 p3 p4 (by omega) rfl rfl rfl
        rw [m1] at hm1
        rw [m2] at hm2
        rw [m3] at hea
        have hlen : (sL E).length ≤ 1 * 16 := gl_len ogC_len 16
        have hint := ints_ans V (sL E) (sL_ints E) _ rfl (by omega) (i := 9) (show sL E = sL E from rfl)
        have hmem : Value.int .i64 (kb : Int) ∈ sL E ↔ E.testBit kb = true := by
          rw [sL_mem, Int.toNat_natCast]
          exact ⟨fun h => h.2.2, fun h => ⟨by omega, by omega, h⟩⟩
        have hin := in_ansq V (sL E) (sL_ints E) (by omega) (i := 9) (show sL E = sL E from rfl) (x := sI 21) (v := (kb : Int)) rfl rfl hmem
        have hin2 := fun h => in_ansq V (sL E) (sL_ints E) (by omega) (i := 9) (show sL E = sL E from rfl) (x := sI 41) (v := x) rfl rfl (q := true) ⟨fun _ => rfl, fun _ => h⟩
        have hq : ∀ q, q ∈ fvU → @QNTrue V q := fa (hev V rfl rfl rfl (show sL E = sL E from rfl)) (fa hre fz)
        have hck0 : @AnsN V fCheck [fellR] (.int .i64 0) := by
          have h := hck d x wd E
          rw [he] at h
          exact h
        refine done_flat V (t := fvG (E.testBit kb)) ?_ (all2_all fv_run _) rfl rfl rfl w hr vs (hv _ _ _ _)
        letI := V
        cases hE : E.testBit kb with
        | true =>
          rw [hE] at hm1 hm2 hea hin
          obtain ⟨q1, q2, q3⟩ := m4 hE
          have hin2 := hin2 q3
          exact { X := saneX_true, T := fapp (fapp (fa (hgt _ _ _ _) (fa (hadd _ _ _ _) fz)) (hN V rfl rfl rfl rfl)) (fapp (fa (f_ieq (k := .i64) (m := d) (n := d) rfl rfl (by simp)) (fa (f_ieq (k := .i64) (m := x) (n := x) rfl rfl (by simp)) fz)) (fa (f_leq (k := .i64) (m := d) (n := wd) rfl rfl (decide_eq_true q1)) (fa (f_geq (k := .i64) (m := d) (n := fr) rfl rfl (decide_eq_true q2)) fz))), LL := hLL _ _ _ _, C := fapp (fa hck0 (fa hint (fa hm1 (fa hm2 (fa hea (fa hin fz)))))) (fa hin2 fz), U := qnU_ok _ hq }
        | false =>
          rw [hE] at hm1 hm2 hea hin
          exact { X := saneX_true, T := fapp (fapp (fa (hgt _ _ _ _) (fa (hadd _ _ _ _) fz)) (hN V rfl rfl rfl rfl)) (fapp (fa (f_ieq (k := .i64) (m := d) (n := d) rfl rfl (by simp)) (fa (f_ieq (k := .i64) (m := x) (n := x) rfl rfl (by simp)) fz)) fz), LL := hLL _ _ _ _, C := fapp (fa hck0 (fa hint (fa hm1 (fa hm2 (fa hea (fa hin fz)))))) fz, U := qnU_ok _ hq }
      · have ht : @TbOK ((fvNm G l n a b fr 0 0 0 0).val fun _ => undef) (fvE (fvCls G a b fr)) := by
          letI : Val := (fvNm G l n a b fr 0 0 0 0).val fun _ => undef
          have h := hck 0 0 0 0
          rw [he] at h
          exact { X := saneX_true, T := fapp (fa (hgt _ _ _ _) (fa (hadd _ _ _ _) fz)) (fvN_ok _ rfl rfl rfl rfl 6 (Nat.le_refl _)), LL := hLL _ _ _ _, C := fa h fz }
        exact done_flat _ ht (allU_lt fv_err _ (show fvCls G a b fr < 6 by omega)) rfl rfl rfl w hr vs (hv _ _ _ _)
end Go.Proofs.Z
