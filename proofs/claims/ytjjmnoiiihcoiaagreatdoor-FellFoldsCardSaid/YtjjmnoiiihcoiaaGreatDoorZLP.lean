/- A part of the proofs that the laws of layer four answer true for every input. -/
import Derived.Test.YtjjmnoiiihcoiaaGreatDoorZLL
namespace Go.Proofs.Z
open Go Go.RowKit Go.Proofs Go.Ri Go.Proofs.Z.Fa
/-! The law FellFolds: runs. 30 the place 0; 20 and 23 lists of sets and of bridges, 9 the list of Ever. -/
noncomputable def rw0T (p q : Bool) : Tb := { T := [⟨.bin .lss, lI 0, sI 45, bR true⟩, ⟨.inb, sI 30, sI 45, bR true⟩] ++ wtI p q, LL := woLL, LX := [⟨40, 30, [sI 32]⟩], IZ := [(30, 0)], LZ := [0], C := [⟨fValid, [fellR], bR true⟩] }
set_option maxRecDepth 100000 in
theorem rw0_bad : (all2 fun p => all2 fun q => (p && q) || doneQ (rw0T p q) [true] fRWithout woD [] [] (wtZ 1) []) = true := by kernel_rfl
def ffD : List RV := [fellR, sI 20, .slN 0 40 1]
noncomputable def ffE (c : Bool) : RV × RH := if c then (.tup [.slN 0 9 1, lI 0], [some (.lst 9 tInt true)]) else (tupN 1, [])
noncomputable def ffB (ne : Bool) : RV × RH := if ne then (.tup [.slN 0 23 1, lI 0], [some (.lst 23 tInt true)]) else (tupN 0, [])
noncomputable def ffU (c ne g : Bool) : List QE := [⟨fEver, [fellR, sI 20], (ffE c).1, (ffE c).2⟩, ⟨fREver, [fellR, sI 20], (ffE c).1, (ffE c).2⟩, ⟨fFolds, [fellR], .tup [.slN 0 20 1, lI 0], [some (.lstL 20 tInts 1)]⟩, ⟨fRFolds, [fellR], .tup [.slN 0 20 1, lI 0], [some (.lstL 20 tInts 1)]⟩, ⟨fBridges, [fellR], (ffB ne).1, (ffB ne).2⟩, ⟨fRBridges, [fellR], (ffB ne).1, (ffB ne).2⟩] ++ if g then [⟨fWithout, woD, .tup [woR, lI 0], [some (.lst 41 tGate true)]⟩, ⟨fRWithout, woD, .tup [woR, lI 0], [some (.lst 41 tGate true)]⟩] else []
noncomputable def ffT : List TE := [⟨.bin .gtr, sI 1, lI 200, bR false⟩, ⟨.bin .gtr, sI 45, lI 200, bR false⟩]
noncomputable def ffTb (c ne g : Bool) : Tb := { X := saneX, T := ffT, LL := woLL, C := (if c then [⟨fInts, [.slN 0 9 1, .slN 0 9 1], bR true⟩] else []) ++ (⟨fLists, [.slL 20 1, .slL 20 1], bR true⟩ :: ((if ne then [⟨fInts, [.slN 0 23 1, .slN 0 23 1], bR true⟩] else []) ++ if g then [⟨fSame, saD, bR true⟩] else [⟨fWithout, woD, wtZ 1⟩, ⟨fRWithout, woD, wtZ 1⟩])), U := qnU (ffU c ne g) }
set_option maxRecDepth 100000 in
theorem ff_run : (all2 fun c => all2 fun ne => all2 fun g => doneQ (ffTb c ne g) [] fFellFolds ffD [] [] (bR true) []) = true := by kernel_rfl
noncomputable def ffX : List QE := [⟨fEver, [fellR, sI 20], tupN 40, []⟩, ⟨fREver, [fellR, sI 20], tupN 40, []⟩, ⟨fFolds, [fellR], tupN 40, []⟩, ⟨fRFolds, [fellR], tupN 40, []⟩, ⟨fBridges, [fellR], tupN 40, []⟩, ⟨fRBridges, [fellR], tupN 40, []⟩]
set_option maxRecDepth 100000 in
theorem ff_bad : doneQ { X := saneX, T := ffT, LL := woLL, C := [⟨fWithout, woD, wtZ 40⟩, ⟨fRWithout, woD, wtZ 40⟩], U := qnU ffX } [] fFellFolds ffD [] [] (bR true) [] = true := by kernel_rfl
noncomputable def ffG (b : Bool) : Tb := { X := saneX, T := ⟨.bin .gtr, sI 1, lI 200, bR b⟩ :: if b then [] else [⟨.bin .gtr, sI 45, lI 200, bR true⟩], LL := woLL }
set_option maxRecDepth 100000 in
theorem ff_big : (all2 fun b => doneQ (ffG b) [] fFellFolds ffD [] [] (bR true) []) = true := by kernel_rfl
end Go.Proofs.Z

namespace Go.Proofs.Z
open Go Go.RowKit Go.Proofs Go.Ri Go.Proofs.Z.Fa
/-! The law FellFolds, but for a fell without gates and no index. -/
theorem br_ren {V1 V : Val} {w : World} {x : Ending} {w' : World} (h23 : V.L 23 = V1.L 9) (ne : Bool) (h : DQ V1 (ogAns 0 ne).1 (ogAns 0 ne).2 w x w') : DQ V (ffB ne).1 (ffB ne).2 w x w' := by
  obtain ⟨u, E', he, hu, H⟩ := h
  cases ne with
  | true =>
    have q := mtQ_ok (V := V1) (V' := V) (S := [.lst 23 9]) (R := [0]) (r := .tup [.slN 0 9 1, lI 0]) (r0 := .tup [.slN 0 23 1, lI 0]) (h' := [some (.lst 9 tInt true)]) (h0 := [some (.lst 23 tInt true)]) (by kernel_rfl) rfl (holds_all (fa h23 fz)) hu H
    exact ⟨u, _, he, q.1, q.2⟩
  | false =>
    have q := mtQ_ok (V := V1) (V' := V) (S := []) (R := []) (r := tupN 0) (r0 := tupN 0) (h' := []) (h0 := []) (by kernel_rfl) rfl (holds_all fz) hu H
    exact ⟨u, _, he, q.1, q.2⟩
section
variable (V : Val) {G : Int} {l : List Value} {n : Nat}
theorem wout_inv (hG : V.I 0 = G) (hL : V.L 0 = l) (hl : ints l) (hn : l.length = n * 4) (hva : validM G l n = false) : @AnsN V fWithout woD (@cvF V0 (wtZ 40)) := by
  intro w hr vs hv
  have hv := wt_args V (V' := (wonm G l (V.L 40) n 0 0).val fun _ => undef) hG hL rfl rfl rfl rfl hv
  have hC : @AnsN ((wonm G l (V.L 40) n 0 0).val fun _ => undef) fCheck [fellR] (.int .i64 (errM G l n)) := check_ans _ rfl rfl hl hn
  rw [show errM G l n = 40 by unfold errM; rw [hva]; rfl] at hC
  have ht : @TbOK ((wonm G l (V.L 40) n 0 0).val fun _ => undef) { LL := hLL, C := [⟨fCheck, [fellR], lI 40⟩] } := by
    letI : Val := (wonm G l (V.L 40) n 0 0).val fun _ => undef
    exact { LL := fa ⟨rfl, n, Nat.succ_pos 3, hn, rfl⟩ fz, C := fa hC fz }
  exact done_flat _ ht wt_err40 rfl rfl rfl w hr vs hv
theorem rwout_inv (hG : V.I 0 = G) (hL : V.L 0 = l) (hl : ints l) (hn : l.length = n * 4) (hva : validM G l n = false) : @AnsN V fRWithout woD (@cvF V0 (wtZ 40)) := by
  intro w hr vs hv
  have hv := wt_args V (V' := (wonm G l (V.L 40) n 0 0).val fun _ => undef) hG hL rfl rfl rfl rfl hv
  have hC : @AnsN ((wonm G l (V.L 40) n 0 0).val fun _ => undef) fValid [fellR] (.bool (validM G l n)) := valid_ans _ rfl rfl hl hn
  rw [hva] at hC
  have ht : @TbOK ((wonm G l (V.L 40) n 0 0).val fun _ => undef) { LL := hLL, C := [⟨fValid, [fellR], bR false⟩] } := by
    letI : Val := (wonm G l (V.L 40) n 0 0).val fun _ => undef
    exact { LL := fa ⟨rfl, n, Nat.succ_pos 3, hn, rfl⟩ fz, C := fa hC fz }
  exact done_flat _ ht rw_err40 rfl rfl rfl w hr vs hv
def w0nm (G : Int) (q : List Value) (m : Nat) : Nm := ⟨fun i => if i = 0 then G else if i = 1 then ((0 : Nat) : Int) else if i = 45 then (m : Int) else if i = 32 then intOf (q.getD 0 undef) else 0, ny, fun _ => ⟨#[]⟩, fun i => if i = 40 then q else []⟩
theorem rwout_bad0 (hG : V.I 0 = G) (hL : V.L 0 = []) (hva : validM G [] 0 = true) (q : List Value) (hq : ints q) (m : Nat) (hqm : q.length = m) (hm1 : 1 ≤ m) (h40 : V.L 40 = q) : @AnsN V fRWithout woD (@cvF V0 (wtZ 1)) := by
  intro w hr vs hv
  let V1 : Val := (w0nm G q m).val fun _ => undef
  have hv := wt_args V (V' := V1) hG hL h40 rfl rfl rfl hv
  have hC : @AnsN V1 fValid [fellR] (.bool (validM G [] 0)) := valid_ans _ rfl rfl (fun v hv => by cases hv) rfl
  rw [hva] at hC
  have ht : @TbOK V1 (rw0T (decide (0 ≤ intOf (q.getD 0 undef))) (decide (intOf (q.getD 0 undef) < ((0 : Nat) : Int)))) := by
    letI : Val := V1
    refine { T := fapp (fa (f_lss (k := .i64) (m := 0) (n := (m : Int)) rfl rfl (decide_eq_true (by omega))) (fa ⟨rfl, .i64, .i64, 0, (m : Int), rfl, rfl, congrArg Value.bool (decide_eq_true ⟨by omega, by omega⟩).symm⟩ fz)) (wtI_ok2 _ rfl rfl rfl rfl), LL := fa ⟨rfl, 0, Nat.succ_pos 3, rfl, rfl⟩ (fa ⟨rfl, m, Nat.succ_pos 0, by rw [Nat.mul_one]; exact hqm, rfl⟩ fz), LX := fa ⟨rfl, ?_, ?_⟩ fz, IZ := fa rfl fz, LZ := fa rfl fz, C := fa hC fz }
    · show ((0 : Int)).toNat * 1 + 1 ≤ q.length
      rw [hqm]
      exact hm1
    · show (q.drop (((0 : Int)).toNat * 1)).take 1 = [.int .i64 (intOf (q.getD 0 undef))]
      have e0 := row1 (l := q) 0 (by omega)
      obtain ⟨z, hz⟩ := hq (q.getD 0 undef) (by rw [List.getD_eq_getElem?_getD, List.getElem?_eq_getElem (by omega)]; exact List.getElem_mem _)
      rw [hz] at e0 ⊢
      exact e0
  have hb := all2_all (all2_all rw0_bad (decide (0 ≤ intOf (q.getD 0 undef)))) (decide (intOf (q.getD 0 undef) < ((0 : Nat) : Int)))
  rw [Bool.or_eq_true] at hb
  rcases hb with hb | hb
  · simp only [Bool.and_eq_true, decide_eq_true_eq] at hb
    omega
  · exact done_flat _ ht hb rfl rfl rfl w hr vs hv
end
noncomputable def ffNm (G : Int) (l q : List Value) (n m : Nat) (a : Int) (L9 L20 L23 L41 : List Value) : Nm := ⟨fun i => if i = 0 then G else if i = 1 then (n : Int) else if i = 45 then (m : Int) else a, ny, fun _ => ⟨#[]⟩, fun i => if i = 0 then l else if i = 40 then q else if i = 9 then L9 else if i = 20 then L20 else if i = 23 then L23 else L41⟩
def brNm (G : Int) (l : List Value) (n : Nat) (L9 : List Value) : Nm := ⟨fun i => if i = 0 then G else (n : Int), ny, fun _ => ⟨#[]⟩, fun i => if i = 0 then l else L9⟩
theorem folds_most (G : Int) (l q : List Value) (n m : Nat) (a : Int) (hl : ints l) (hn : l.length = n * 4) (hq : ints q) (hqm : q.length = m) (hcase : 1 ≤ n ∨ 1 ≤ m ∨ validM G l n = false) (w : World) (hr : RoIn ro w) (vs : List Value)
    (hv : ∀ L9 L20 L23 L41, All2 (@Go.Ri.NVal ((ffNm G l q n m a L9 L20 L23 L41).val fun _ => undef) w) ffD vs) : Calls Tryz.prog fFellFolds vs.toArray w (fun e w' => e = .returned (.bool true) ∧ Below w.heap.size w w') := by
  obtain ⟨L9, h9⟩ : ∃ L9, L9 = sL (clS l n (usP l) (2 ^ a.toNat)) := ⟨_, rfl⟩
  obtain ⟨L20, h20⟩ : ∃ L20, L20 = ptG l n (usP l) G.toNat := ⟨_, rfl⟩
  obtain ⟨L23, h23⟩ : ∃ L23, L23 = brG l n n := ⟨_, rfl⟩
  obtain ⟨L41, h41⟩ : ∃ L41, L41 = wiF l q m := ⟨_, rfl⟩
  let V : Val := (ffNm G l q n m a L9 L20 L23 L41).val fun _ => undef
  have hv : All2 (@Go.Ri.NVal V w) ffD vs := hv L9 L20 L23 L41
  have hLL : ∀ e, e ∈ woLL → @LLTrue V e := fa ⟨rfl, n, Nat.succ_pos 3, hn, rfl⟩ (fa ⟨rfl, m, Nat.succ_pos 0, by rw [Nat.mul_one]; exact hqm, rfl⟩ fz)
  by_cases hbig : (n : Int) > 200
  · have ht : @TbOK V (ffG true) := by
      letI : Val := V
      exact { X := saneX_true, T := fa (f_gtr (k := .i64) (m := (n : Int)) (n := 200) rfl rfl (decide_eq_true hbig)) fz, LL := hLL }
    exact done_flat V ht (all2_all ff_big true) rfl rfl rfl w hr vs hv
  by_cases hbig2 : (m : Int) > 200
  · have ht : @TbOK V (ffG false) := by
      letI : Val := V
      exact { X := saneX_true, T := fa (f_gtr (k := .i64) (m := (n : Int)) (n := 200) rfl rfl (decide_eq_false hbig)) (fa (f_gtr (k := .i64) (m := (m : Int)) (n := 200) rfl rfl (decide_eq_true hbig2)) fz), LL := hLL }
    exact done_flat V ht (all2_all ff_big false) rfl rfl rfl w hr vs hv
  have hT : ∀ e, e ∈ ffT → @TETrue V e := by
    letI : Val := V
    exact fa (f_gtr (k := .i64) (m := (n : Int)) (n := 200) rfl rfl (decide_eq_false hbig)) (fa (f_gtr (k := .i64) (m := (m : Int)) (n := 200) rfl rfl (decide_eq_false hbig2)) fz)
  have q1 := ever_all V (G := G) (l := l) (n := n) (a := a) rfl rfl hl hn rfl h9
  have q2 := rever_all V (G := G) (l := l) (n := n) (a := a) rfl rfl hl hn rfl h9
  have q3 := folds_q V (G := G) (l := l) (n := n) rfl rfl hl hn h20
  have q4 := rfolds_q V (G := G) (l := l) (n := n) rfl rfl hl hn h20
  let V1 : Val := (brNm G l n L23).val fun _ => undef
  have conv : ∀ w vs, All2 (@Go.Ri.NVal V w) [fellR] vs → All2 (@Go.Ri.NVal V1 w) [fellR] vs := fun w vs h => by
    cases h with
    | cons h1 h2 => cases h2; exact .cons (fell_nval1 (V := V) (V' := V1) rfl rfl h1) .nil
  have q5 := bridges_q V1 (G := G) (l := l) (n := n) rfl rfl hl hn h23
  have q6 := rbridges_q V1 (G := G) (l := l) (n := n) rfl rfl hl hn h23
  rw [← h23] at q5 q6
  cases hva : validM G l n with
  | false =>
    have e40 : errM G l n = 40 := by unfold errM; rw [hva]; rfl
    have ev40 : evEr G l n a = 40 := by unfold evEr; rw [hva]; rfl
    rw [ev40] at q1 q2
    rw [e40] at q3 q4 q5 q6
    have r5 : @QNTrue V ⟨fBridges, [fellR], tupN 40, []⟩ := fun w hr vs hv => (q5 w hr vs (conv w vs hv)).mono fun x w' ⟨u, E', he, hu, H⟩ => by
      have qq := mtQ_ok (V := V1) (V' := V) (S := []) (R := []) (r := tupN 40) (r0 := tupN 40) (h' := []) (h0 := []) (by kernel_rfl) rfl (holds_all fz) hu H
      exact ⟨u, _, he, qq.1, qq.2⟩
    have r6 : @QNTrue V ⟨fRBridges, [fellR], tupN 40, []⟩ := fun w hr vs hv => (q6 w hr vs (conv w vs hv)).mono fun x w' ⟨u, E', he, hu, H⟩ => by
      have qq := mtQ_ok (V := V1) (V' := V) (S := []) (R := []) (r := tupN 40) (r0 := tupN 40) (h' := []) (h0 := []) (by kernel_rfl) rfl (holds_all fz) hu H
      exact ⟨u, _, he, qq.1, qq.2⟩
    have ht : @TbOK V { X := saneX, T := ffT, LL := woLL, C := [⟨fWithout, woD, wtZ 40⟩, ⟨fRWithout, woD, wtZ 40⟩], U := qnU ffX } := by
      letI : Val := V
      exact { X := saneX_true, T := hT, LL := hLL, C := fa (wout_inv V rfl rfl hl hn hva) (fa (rwout_inv V rfl rfl hl hn hva) fz), U := qnU_ok _ (fa q1 (fa q2 (fa q3 (fa q4 (fa r5 (fa r6 fz)))))) }
    exact done_flat V ht ff_bad rfl rfl rfl w hr vs hv
  | true =>
    have hg := (validM_iff _ _ _).1 hva
    have e0 : errM G l n = 0 := by unfold errM; rw [hva]; rfl
    have ev : evEr G l n a = if 0 ≤ a ∧ a < G then 0 else 1 := by unfold evEr; rw [hva]; rfl
    rw [ev] at q1 q2
    rw [e0] at q3 q4 q5 q6
    have eE : evAns (if 0 ≤ a ∧ a < G then 0 else 1) = ffE (decide (0 ≤ a ∧ a < G)) := by
      by_cases hc : 0 ≤ a ∧ a < G
      · rw [if_pos hc, decide_eq_true hc]
        rfl
      · rw [if_neg hc, decide_eq_false hc]
        rfl
    rw [eE] at q1 q2
    have r5 : @QNTrue V ⟨fBridges, [fellR], (ffB (!L23.isEmpty)).1, (ffB (!L23.isEmpty)).2⟩ := fun w hr vs hv => (q5 w hr vs (conv w vs hv)).mono fun x w' h => br_ren (V1 := V1) (V := V) rfl _ h
    have r6 : @QNTrue V ⟨fRBridges, [fellR], (ffB (!L23.isEmpty)).1, (ffB (!L23.isEmpty)).2⟩ := fun w hr vs hv => (q6 w hr vs (conv w vs hv)).mono fun x w' h => br_ren (V1 := V1) (V := V) rfl _ h
    have hli9 := ints_ans V L9 (by rw [h9]; exact sL_ints' _) L9.length rfl (by
      have : L9.length ≤ 1 * 16 := by rw [h9]; exact gl_len ogC_len 16
      omega) (i := 9) rfl
    have hli23 := ints_ans V L23 (by rw [h23]; exact gl_mem (Q := fun v => ∃ n, v = .int .i64 n) (fun k => fa ⟨k, rfl⟩ fz) n) L23.length rfl (by
      have : L23.length ≤ 1 * n := by rw [h23]; exact gl_len ogC_len n
      omega) (i := 23) rfl
    have hls := lists_ans V L20 (by rw [h20]; exact ptG_agg _ _ _ _) L20.length rfl (by
      have : L20.length ≤ 1 * G.toNat := by rw [h20]; exact ptG_len _ _ _ _
      omega) (i := 20) rfl
    have tb : ∀ c ne g, (∀ e, e ∈ ffU c ne g → @QNTrue V e) → (∀ e, e ∈ (if g then [⟨fSame, saD, bR true⟩] else [⟨fWithout, woD, wtZ 1⟩, ⟨fRWithout, woD, wtZ 1⟩] : List YE) → @AnsN V e.f e.a (@cvF V e.r)) → @TbOK V (ffTb c ne g) := fun c ne g hU hC => by
      letI : Val := V
      refine { X := saneX_true, T := hT, LL := hLL, C := fapp ?_ (fa hls (fapp ?_ hC)), U := qnU_ok _ hU }
      · cases c with
        | true => exact fa hli9 fz
        | false => exact fz
      · cases ne with
        | true => exact fa hli23 fz
        | false => exact fz
    have run := fun c ne g => all2_all (all2_all (all2_all ff_run c) ne) g
    by_cases hin : InR q n m
    · have hn1 : 1 ≤ n := by
        rcases hcase with h | h | h
        · exact h
        · have := hin 0 (by omega)
          omega
        · rw [hva] at h
          cases h
      have w1 := wout_good V (G := G) (l := l) (n := n) rfl rfl hl hn hva hn1 q hq m hqm (by omega) rfl hin h41
      have w2 := rwout_good V (G := G) (l := l) (n := n) rfl rfl hl hn hva hn1 q hq m hqm (by omega) rfl hin h41
      have hsm := same_ans V (G := G) (l := L41) (n := n) rfl rfl (by rw [h41]; exact wiF_ints hl m) (by rw [h41, wiF_len]; exact hn) (by omega)
      exact done_flat V (tb (decide (0 ≤ a ∧ a < G)) (!L23.isEmpty) true (fa q1 (fa q2 (fa q3 (fa q4 (fa r5 (fa r6 (fa w1 (fa w2 fz)))))))) (fa hsm fz)) (run _ _ true) rfl rfl rfl w hr vs hv
    · have w1 := wout_bad V (G := G) (l := l) (n := n) rfl rfl hl hn hva q hq m hqm (by omega) rfl hin
      have w2 : @AnsN V fRWithout woD (@cvF V0 (wtZ 1)) := by
        rcases Nat.eq_zero_or_pos n with h0 | h1
        · subst h0
          have hl0 : l = [] := List.eq_nil_of_length_eq_zero (by omega)
          subst hl0
          exact rwout_bad0 V rfl rfl hva q hq m hqm (hcase.elim (fun h => absurd h (by decide)) fun h => h.elim id fun h => absurd (hva.symm.trans h) (by decide)) rfl
        · exact rwout_bad V (G := G) (l := l) (n := n) rfl rfl hl hn hva h1 q hq m hqm (by omega) rfl hin
      exact done_flat V (tb (decide (0 ≤ a ∧ a < G)) (!L23.isEmpty) false (fa q1 (fa q2 (fa q3 (fa q4 (fa r5 (fa r6 fz)))))) (fa w1 (fa w2 fz))) (run _ _ false) rfl rfl rfl w hr vs hv
end Go.Proofs.Z

namespace Go.Proofs.Z
open Go Go.RowKit Go.Proofs Go.Ri Go.Proofs.Z.Fa
/-! slices.Clone of a slice that holds nothing, whatever its address: some slice that holds nothing. The law FellFolds for a fell without gates and no index. -/
set_option maxRecDepth 100000 in
theorem cl_nil (c : Nat) : doneQ {} [] fClone [.pl (.slice none 0 c)] [] [] nilR [] = true := by kernel_rfl
set_option maxRecDepth 100000 in
theorem cl_some (a : Addr) (c : Nat) : doneQ {} [] fClone [.pl (.slice (some a) 0 c)] [] [0] (.sl 0 0 0 4 none) [some (.cells [] tGate false false)] = true := by kernel_rfl
theorem clone_em (oa : Option Addr) (c : Nat) (w : World) (hr : RoIn ro w) : Calls Tryz.prog fClone #[.slice oa 0 c] w (fun e w' => (∃ ob k, e = .returned (.slice ob 0 k)) ∧ Below w.heap.size w w') := by
  have ht : @TbOK V0 {} := by letI : Val := V0; exact {}
  cases oa with
  | none =>
    refine (done_calls V0 V0 ht (cl_nil c) rfl (holds_all fz) w hr [.slice none 0 c] (.cons rfl .nil)).mono fun e w' ⟨u, E', he, hu, H⟩ => ?_
    exact ⟨⟨none, 0, by rw [he, show u = .slice none 0 0 from hu]⟩, @HInv.below V0 _ _ _ _ _ _ H⟩
  | some a =>
    refine (done_calls V0 V0 ht (cl_some a c) rfl (holds_all fz) w hr [.slice (some a) 0 c] (.cons rfl .nil)).mono fun e w' ⟨u, E', he, hu, H⟩ => ?_
    obtain ⟨p, k, _, _, _, hu⟩ := hu
    exact ⟨⟨_, _, by rw [he, hu]⟩, @HInv.below V0 _ _ _ _ _ _ H⟩
section
variable [Val]
theorem pushA {ro : Ro} {base : Nat} {w0 w : World} {E : Env} {h : RH} (H : HInv ro base w0 E h w) {p : EP} {j : Nat} (hp : p.1 < base) (hB : ∀ E, BRel E p w (.lstA j)) : HInv ro base w0 (E ++ [p]) (h ++ [some (.lstA j)]) w := by
  have old : ∀ b, b < h.length → (E ++ [p])[b]? = E[b]? := fun b hb => List.getElem?_append_left (by rw [← H.len]; exact hb)
  have hat : ∀ b o, at? (h ++ [some (.lstA j)]) b = some o → (b < h.length ∧ at? h b = some o) ∨ (b = h.length ∧ o = .lstA j) := fun b o hb => by
    rcases Nat.lt_trichotomy b h.length with hl | he | hg
    · rw [at?_push_old hl] at hb
      exact .inl ⟨hl, hb⟩
    · subst he
      rw [at?_push_new] at hb
      cases hb
      exact .inr ⟨rfl, rfl⟩
    · rw [at?_push_far hg] at hb
      cases hb
  refine ⟨H.below, H.lb, by simp [H.len], H.ro, fun b o hb => ?_, fun b b' o o' p1 p2 hb hb' wo wo' h1 h2 e => ?_, fun b o p1 hb hn h1 q hq => ?_⟩
  · rcases hat b o hb with ⟨hl, hb⟩ | ⟨rfl, rfl⟩
    · obtain ⟨q, g1, g2, g3⟩ := H.blk b o hb
      exact ⟨q, by rw [old b hl]; exact g1, g2, g3.keep (List.prefix_append _ _) rfl fun _ _ _ => rfl⟩
    · exact ⟨p, by rw [H.len, List.getElem?_append_right (Nat.le_refl _)]; simp, hp, hB _⟩
  · rcases hat b o hb with ⟨hl, hb⟩ | ⟨rfl, rfl⟩
    · rcases hat b' o' hb' with ⟨hl', hb'⟩ | ⟨rfl, rfl⟩
      · rw [old b hl] at h1
        rw [old b' hl'] at h2
        exact H.inj b b' o o' p1 p2 hb hb' wo wo' h1 h2 e
      · cases wo'
    · cases wo
  · rcases hat b o hb with ⟨hl, hb⟩ | ⟨rfl, rfl⟩
    · rw [old b hl] at h1
      obtain ⟨g1, g2⟩ := H.frm b o p1 hb hn h1 q hq
      refine ⟨g1, ?_⟩
      split
      · rename_i ho
        rw [if_pos ho] at g2
        refine ⟨g2.1, fun b' o' p' hb' wo' hp' => ?_⟩
        rcases hat b' o' hb' with ⟨hl', hb'⟩ | ⟨rfl, rfl⟩
        · rw [old b' hl'] at hp'
          exact g2.2 b' o' p' hb' wo' hp'
        · cases wo'
      · rename_i ho
        rwa [if_neg ho] at g2
    · cases hn
/-- slices.Clone of the list j0, which is empty. -/
noncomputable def ceU (j0 : Nat) : CallF := fun f args h => match args with
  | [.slA b j 4] => match Nat.beq f fClone && Nat.beq j j0, lkp h b with
    | true, some (.lstA j') => match Nat.beq j' j with
      | true => some (.slA h.length j 4, h ++ [some (.lstA j)])
      | false => none
    | _, _ => none
  | _ => none
theorem ceU_ok (j0 : Nat) (hL : Val.L j0 = []) : UOK (ceU j0) := by
  intro f args h r h' hu base w0 E w vs H ha
  unfold ceU at hu
  split at hu
  · rename_i b j
    split at hu
    · rename_i j' hc hl
      split at hu
      · rename_i hj
        cases hu
        simp only [Bool.and_eq_true] at hc
        obtain rfl := Nat.eq_of_beq_eq_true hc.1
        obtain rfl := Nat.eq_of_beq_eq_true hc.2
        obtain rfl := Nat.eq_of_beq_eq_true hj
        cases ha with
        | cons h1 h2 =>
          cases h2
          obtain ⟨p, oa, n, cap, hp, hps, hab, _, hn, hcap, rfl⟩ := h1
          rw [hL] at hn
          obtain rfl : n = 0 := by
            have hn : 0 = n * 4 := hn
            omega
          refine (clone_em oa cap w H.roIn).mono fun e w' ⟨⟨ob, k, he⟩, hb⟩ => ?_
          have hb1 : at? h b = some (.lstA j') := by
            rw [lkp_eq] at hl
            exact hl
          obtain ⟨p', g1, g2, g3⟩ := (H.world hb).blk b _ hb1
          rw [hp] at g1
          cases g1
          have g4 := g3.heap_lt
          refine ⟨.slice ob 0 k, E ++ [⟨p.1, 0, .slice ob 0 k⟩], he, List.prefix_append _ _, ⟨⟨p.1, 0, .slice ob 0 k⟩, ob, 0, k, ?_, rfl, fun hne => absurd hL hne, by decide, by rw [hL]; rfl, Nat.zero_le _, rfl⟩, pushA (H.world hb) (show p.1 < base from g2) fun E => ⟨g4, ob, 0, k, rfl, fun hne => absurd hL hne, fun a _ i v hi => by rw [hL] at hi; cases hi⟩⟩
          rw [H.len, List.getElem?_append_right (Nat.le_refl _)]
          simp
      · cases hu
    · cases hu
  · cases hu
noncomputable def orU (A B : CallF) : CallF := fun f args h => match A f args h with | some r => some r | none => B f args h
theorem orU_ok {A B : CallF} (hA : UOK A) (hB : UOK B) : UOK (orU A B) := by
  intro f args h r h' hu
  unfold orU at hu
  split at hu
  · rename_i r1 h1
    cases hu
    exact hA f args h r h' h1
  · exact hB f args h r h' hu
end
noncomputable def f0Tb (c : Bool) : Tb := { X := saneX, LL := [⟨0, 4, lI 0⟩, ⟨40, 1, lI 0⟩], LZ := [0], C := (if c then [⟨fInts, [.slN 0 9 1, .slN 0 9 1], bR true⟩] else []) ++ [⟨fLists, [.slL 20 1, .slL 20 1], bR true⟩, ⟨fCheck, [fellR], lI 0⟩, ⟨fValid, [fellR], bR true⟩], U := orU (ceU 0) (qnU (ffU c false false)) }
set_option maxRecDepth 100000 in
theorem f0_run : (all2 fun c => doneQ (f0Tb c) [] fFellFolds ffD [] [] (bR true) []) = true := by kernel_rfl
end Go.Proofs.Z

namespace Go.Proofs.Z
open Go Go.RowKit Go.Proofs Go.Ri Go.Proofs.Z.Fa
/-! The law FellFolds for every fell and every list. -/
theorem folds_zero (G : Int) (a : Int) (hva : validM G [] 0 = true) (w : World) (hr : RoIn ro w) (vs : List Value)
    (hv : ∀ L9 L20 L23 L41, All2 (@Go.Ri.NVal ((ffNm G [] [] 0 0 a L9 L20 L23 L41).val fun _ => undef) w) ffD vs) : Calls Tryz.prog fFellFolds vs.toArray w (fun e w' => e = .returned (.bool true) ∧ Below w.heap.size w w') := by
  obtain ⟨L9, h9⟩ : ∃ L9, L9 = sL (clS [] 0 (usP []) (2 ^ a.toNat)) := ⟨_, rfl⟩
  obtain ⟨L20, h20⟩ : ∃ L20, L20 = ptG [] 0 (usP []) G.toNat := ⟨_, rfl⟩
  have hl : ints ([] : List Value) := fun v hv => by cases hv
  let V : Val := (ffNm G [] [] 0 0 a L9 L20 [] []).val fun _ => undef
  have hv : All2 (@Go.Ri.NVal V w) ffD vs := hv L9 L20 [] []
  have q1 := ever_all V (G := G) (l := []) (n := 0) (a := a) rfl rfl hl rfl rfl h9
  have q2 := rever_all V (G := G) (l := []) (n := 0) (a := a) rfl rfl hl rfl rfl h9
  have q3 := folds_q V (G := G) (l := []) (n := 0) rfl rfl hl rfl h20
  have q4 := rfolds_q V (G := G) (l := []) (n := 0) rfl rfl hl rfl h20
  let V1 : Val := (brNm G [] 0 []).val fun _ => undef
  have conv : ∀ w vs, All2 (@Go.Ri.NVal V w) [fellR] vs → All2 (@Go.Ri.NVal V1 w) [fellR] vs := fun w vs h => by
    cases h with
    | cons h1 h2 => cases h2; exact .cons (fell_nval1 (V := V) (V' := V1) rfl rfl h1) .nil
  have q5 := bridges_q V1 (G := G) (l := []) (n := 0) rfl rfl hl rfl (show V1.L 23 = brG [] 0 0 from rfl)
  have q6 := rbridges_q V1 (G := G) (l := []) (n := 0) rfl rfl hl rfl (show V1.L 23 = brG [] 0 0 from rfl)
  have e0 : errM G [] 0 = 0 := by unfold errM; rw [hva]; rfl
  have ev : evEr G [] 0 a = if 0 ≤ a ∧ a < G then 0 else 1 := by unfold evEr; rw [hva]; rfl
  rw [ev] at q1 q2
  rw [e0] at q3 q4 q5 q6
  have eE : evAns (if 0 ≤ a ∧ a < G then 0 else 1) = ffE (decide (0 ≤ a ∧ a < G)) := by
    by_cases hc : 0 ≤ a ∧ a < G
    · rw [if_pos hc, decide_eq_true hc]
      rfl
    · rw [if_neg hc, decide_eq_false hc]
      rfl
  rw [eE] at q1 q2
  have r5 : @QNTrue V ⟨fBridges, [fellR], (ffB false).1, (ffB false).2⟩ := fun w hr vs hv => (q5 w hr vs (conv w vs hv)).mono fun x w' h => br_ren (V1 := V1) (V := V) rfl _ h
  have r6 : @QNTrue V ⟨fRBridges, [fellR], (ffB false).1, (ffB false).2⟩ := fun w hr vs hv => (q6 w hr vs (conv w vs hv)).mono fun x w' h => br_ren (V1 := V1) (V := V) rfl _ h
  have hli9 := ints_ans V L9 (by rw [h9]; exact sL_ints' _) L9.length rfl (by
    have : L9.length ≤ 1 * 16 := by rw [h9]; exact gl_len ogC_len 16
    omega) (i := 9) rfl
  have hls := lists_ans V L20 (by rw [h20]; exact ptG_agg _ _ _ _) L20.length rfl (by
    have : L20.length ≤ 1 * G.toNat := by rw [h20]; exact ptG_len _ _ _ _
    have hg := (validM_iff _ _ _).1 hva
    omega) (i := 20) rfl
  have hC : @AnsN V fCheck [fellR] (.int .i64 (errM G [] 0)) := check_ans _ rfl rfl hl rfl
  have hV : @AnsN V fValid [fellR] (.bool (validM G [] 0)) := valid_ans _ rfl rfl hl rfl
  rw [e0] at hC
  rw [hva] at hV
  have ht : ∀ c, (∀ e, e ∈ ffU c false false → @QNTrue V e) → @TbOK V (f0Tb c) := fun c hU => by
    letI : Val := V
    refine { X := saneX_true, LL := fa ⟨rfl, 0, Nat.succ_pos 3, rfl, rfl⟩ (fa ⟨rfl, 0, Nat.succ_pos 0, rfl, rfl⟩ fz), LZ := fa rfl fz, C := fapp ?_ (fa hls (fa hC (fa hV fz))), U := orU_ok (ceU_ok 0 rfl) (qnU_ok _ hU) }
    cases c with
    | true => exact fa hli9 fz
    | false => exact fz
  exact done_flat V (ht (decide (0 ≤ a ∧ a < G)) (fa q1 (fa q2 (fa q3 (fa q4 (fa r5 (fa r6 fz))))))) (all2_all f0_run _) rfl rfl rfl w hr vs hv
theorem folds_all (G : Int) (l q : List Value) (n m : Nat) (a : Int) (hl : ints l) (hn : l.length = n * 4) (hq : ints q) (hqm : q.length = m) (w : World) (hr : RoIn ro w) (vs : List Value)
    (hv : ∀ L9 L20 L23 L41, All2 (@Go.Ri.NVal ((ffNm G l q n m a L9 L20 L23 L41).val fun _ => undef) w) ffD vs) : Calls Tryz.prog fFellFolds vs.toArray w (fun e w' => e = .returned (.bool true) ∧ Below w.heap.size w w') := by
  cases hva : validM G l n with
  | false => exact folds_most G l q n m a hl hn hq hqm (.inr (.inr hva)) w hr vs hv
  | true =>
    by_cases hcase : 1 ≤ n ∨ 1 ≤ m
    · exact folds_most G l q n m a hl hn hq hqm (hcase.elim .inl fun h => .inr (.inl h)) w hr vs hv
    · obtain rfl : n = 0 := by omega
      obtain rfl : m = 0 := by omega
      obtain rfl : l = [] := List.eq_nil_of_length_eq_zero (by omega)
      obtain rfl : q = [] := List.eq_nil_of_length_eq_zero hqm
      exact folds_zero G a hva w hr vs hv
end Go.Proofs.Z
