/- A part of the proofs that the laws of layer four answer true for every input. -/
import Derived.Test.YtjjmnoiiihcoiaaGreatDoorZKD
import Derived.Test.YtjjmnoiiihcoiaaGreatDoorZHI
import Derived.Test.YtjjmnoiiihcoiaaGreatDoorZGI
namespace Go.Proofs.Z
open Go Go.RowKit Go.Proofs Go.Ri Go.Proofs.Z.Fa
/-! Parts, Together: runs. -/
abbrev fParts : Nat := 29
abbrev fRParts : Nat := 30
abbrev fTogether : Nat := 31
abbrev fRTogether : Nat := 32
abbrev fFellParts : Nat := 4
noncomputable def pfTb : Tb := { T := dayT 2, LL := hLL, C := [⟨fCheck, [fellR], lI 0⟩], U := qnU [⟨fSplit, [fellR, fnA true], .slN 0 20 1, [some (.lstL 20 tInts 1)]⟩] }
set_option maxRecDepth 100000 in
theorem pf_bad : (allU 3 fun c => doneQ (oaTb 40 c) [] fParts [fellR, sI 8] [] [] (tupN 40) []) = true := by kernel_rfl
set_option maxRecDepth 100000 in
theorem pf_bad1 : (all2 fun c => doneQ (oaTb 0 (if c then 0 else 1)) [] fParts [fellR, sI 8] [] [] (tupN 1) []) = true := by kernel_rfl
noncomputable def prU (ne : Bool) : List QE := if ne then [⟨fOn, [fellR, sI 8], .slN 0 11 1, [some (.lst 11 tBool true)]⟩, ⟨fSets, [fellR, .slN 0 11 1], .slN 0 20 1, [some (.lstL 20 tInts 1)]⟩]
  else [⟨fOn, [fellR, sI 8], nilR, []⟩, ⟨fSets, [fellR, nilR], .slN 0 20 1, [some (.lstL 20 tInts 1)]⟩]
noncomputable def prTb (ne : Bool) : Tb := { T := dayT 2, LL := hLL, C := [⟨fValid, [fellR], bR true⟩], U := qnU (prU ne) }
set_option maxRecDepth 100000 in
theorem pr_bad : (allU 3 fun c => doneQ (roTbU false c) [] fRParts [fellR, sI 8] [] [] (tupN 40) []) = true := by kernel_rfl
set_option maxRecDepth 100000 in
theorem pr_bad1 : (all2 fun c => doneQ (roTbU true (if c then 0 else 1)) [] fRParts [fellR, sI 8] [] [] (tupN 1) []) = true := by kernel_rfl
set_option maxRecDepth 100000 in
theorem pr_good : (all2 fun ne => doneQ (prTb ne) [] fRParts [fellR, sI 8] [.lst 20 20] [if ne then 3 else 2] (.tup [.slN 0 20 1, lI 0]) [some (.lstL 20 tInts 1)]) = true := by kernel_rfl
/-! Together: 20, 21 the grazings, 22 and 8 the day, 10 the set with the first one, 11 the set at the end -/
def tgD : List RV := [fellR, sI 20, sI 21, sI 22]
noncomputable def tgTb : Tb := { T := agN 8 8 ++ agX 8 true, LL := hLL, C := [⟨fCheck, [fellR], lI 0⟩, ⟨fEndOf, [fellR, sU 10, sI 22], sU 11⟩], Y := [⟨fOnly, [sI 20], sU 10⟩, ⟨fHas, [sU 11, sI 21], sB 0⟩] }
set_option maxRecDepth 100000 in
theorem tg_good : doneQ tgTb [] fTogether tgD [.bool 0 (sB 0)] [] (.tup [sB 0, lI 0]) [] = true := by kernel_rfl
set_option maxRecDepth 100000 in
theorem tg_err : (allU 6 fun k => all2 fun s => doneQ (rcE 0 k s) [] fTogether tgD [] [] (tupB false 1) []) = true := by kernel_rfl
set_option maxRecDepth 100000 in
theorem tg_err40 : doneQ { LL := hLL, C := [⟨fCheck, [fellR], lI 40⟩] } [] fTogether tgD [] [] (tupB false 40) [] = true := by kernel_rfl
noncomputable def trU (ne : Bool) : List QE := ⟨fOne, [fellR, sI 20], .slN 0 13 1, [some (.lst 13 tBool true)]⟩ :: if ne then [⟨fOn, [fellR, sI 22], .slN 0 11 1, [some (.lst 11 tBool true)]⟩, ⟨fRSpread, [fellR, .slN 0 13 1, .slN 0 11 1], .slN 0 14 1, [some (.lst 14 tBool true)]⟩]
  else [⟨fOn, [fellR, sI 22], nilR, []⟩, ⟨fRSpread, [fellR, .slN 0 13 1, nilR], .slN 0 14 1, [some (.lst 14 tBool true)]⟩]
noncomputable def trTb (ne p : Bool) : Tb := { T := ⟨.inb, sI 21, sI 0, bR true⟩ :: (agN 8 8 ++ agX 8 true), LL := ⟨14, 1, sI 0⟩ :: hLL, LX := [⟨14, 21, [bR p]⟩], C := [⟨fValid, [fellR], bR true⟩], U := qnU (trU ne) }
set_option maxRecDepth 100000 in
theorem tr_good : (all2 fun ne => all2 fun p => doneQ (trTb ne p) [] fRTogether tgD [] [] (tupB p 0) []) = true := by kernel_rfl
set_option maxRecDepth 100000 in
theorem tr_err : (allU 6 fun k => all2 fun s => doneQ (rrE true k s) [] fRTogether tgD [] [] (tupB false 1) []) = true := by kernel_rfl
set_option maxRecDepth 100000 in
theorem tr_err40 : doneQ { LL := hLL, C := [⟨fValid, [fellR], bR false⟩] } [] fRTogether tgD [] [] (tupB false 40) [] = true := by kernel_rfl
set_option maxRecDepth 100000 in
theorem pf_good : doneQ pfTb [] fParts [fellR, sI 8] [.lst 20 20] [4] (.tup [.slN 0 20 1, lI 0]) [some (.lstL 20 tInts 1)] = true := by kernel_rfl
end Go.Proofs.Z

namespace Go.Proofs.Z
open Go Go.RowKit Go.Proofs Go.Ri Go.Proofs.Z.Fa
/-! Parts, Together: contracts; the law FellParts. -/
theorem srv_true (l : List Value) (d : Int) : srv true l d = odP l d := funext fun _ => if_pos rfl
theorem srv_false (l : List Value) (d : Int) : srv false l d = usP l := funext fun _ => if_neg (by decide)
theorem nil_qn2 {V : Val} {f : FuncId} {d : RV} {i : Nat} {r : RV} {h : RH} (hnil : V.L i = []) (q : @QNTrue V ⟨f, [d, .slN 0 i 1], r, h⟩) : @QNTrue V ⟨f, [d, nilR], r, h⟩ := fun w hr vs hv => by
  refine q w hr vs ?_
  cases hv with
  | cons h1 h2 => cases h2 with
    | cons h2 h3 =>
      cases h3
      refine .cons h1 (.cons ?_ .nil)
      have h : _ = Value.slice none 0 0 := h2
      rw [h]
      refine ⟨none, 0, 0, rfl, fun h => absurd hnil h, by decide, ?_, Nat.le_refl _, fun a ha => by cases ha⟩
      rw [hnil]
      rfl
theorem nil_qn3 {V : Val} {f : FuncId} {d : RV} {i : Nat} {r : RV} {h : RH} {x : RV} (hnil : V.L i = []) (q : @QNTrue V ⟨f, [x, d, .slN 0 i 1], r, h⟩) : @QNTrue V ⟨f, [x, d, nilR], r, h⟩ := fun w hr vs hv => by
  refine q w hr vs ?_
  cases hv with
  | cons h1 h2 => cases h2 with
    | cons h2 h3 => cases h3 with
      | cons h3 h4 =>
        cases h4
        refine .cons h1 (.cons h2 (.cons ?_ .nil))
        have h : _ = Value.slice none 0 0 := h3
        rw [h]
        refine ⟨none, 0, 0, rfl, fun h => absurd hnil h, by decide, ?_, Nat.le_refl _, fun a ha => by cases ha⟩
        rw [hnil]
        rfl
noncomputable def ptAns (e : Int) : RV × RH := if e = 0 then (.tup [.slN 0 20 1, lI 0], [some (.lstL 20 tInts 1)]) else (tupN e, [])
def ptNm (G : Int) (l : List Value) (n : Nat) (d : Int) (P O : List Value) : Nm := ⟨fun i => if i = 0 then G else if i = 1 then (n : Int) else d, ny, fun _ => ⟨#[]⟩, fun i => if i = 0 then l else if i = 11 then O else P⟩
section
variable (V : Val) {G : Int} {l : List Value} {n : Nat} {a b d : Int}
theorem parts_q (hG : V.I 0 = G) (hL : V.L 0 = l) (hl : ints l) (hn : l.length = n * 4) {x : RV} (fx : flat x = true) (hx : @cvF V x = .int .i64 d) (h20 : V.L 20 = ptG l n (odP l d) G.toNat) :
    ∀ w, RoIn ro w → ∀ vs, All2 (@Go.Ri.NVal V w) [fellR, x] vs → Calls Tryz.prog fParts vs.toArray w (DQ V (ptAns (fdE G l n d)).1 (ptAns (fdE G l n d)).2 w) := by
  intro w hr vs hv
  obtain ⟨P, hP⟩ : ∃ P, P = ptG l n (odP l d) G.toNat := ⟨_, rfl⟩
  rw [← hP] at h20
  let V1 : Val := (ptNm G l n d P []).val fun _ => undef
  have hv : All2 (@Go.Ri.NVal V1 w) [fellR, sI 8] vs := by
    cases hv with
    | cons h1 h2 => cases h2 with
      | cons h2 h3 =>
        cases h3
        exact .cons (fell_nval1 hG hL h1) (.cons (nval_re fx rfl hx (show @cvF V1 (sI 8) = .int .i64 d from rfl) h2) .nil)
  have hC : @AnsN V1 fCheck [fellR] (.int .i64 (errM G l n)) := check_ans _ rfl rfl hl hn
  have hLL : ∀ q, q ∈ hLL → @LLTrue V1 q := fa ⟨rfl, n, Nat.succ_pos 3, hn, rfl⟩ fz
  have ht : ∀ e, errM G l n = e → @TbOK V1 (oaTb e (dcls d)) := fun e he => by
    letI : Val := V1
    refine { T := dayT_ok _ rfl, LL := hLL, C := fa ?_ fz }
    have := hC
    rw [he] at this
    exact this
  unfold fdE
  cases hva : validM G l n with
  | false =>
    have ht := ht 40 (by unfold errM; rw [hva]; rfl)
    exact done_calls V1 V ht (allU_lt pf_bad _ (dcls_lt3 d)) rfl (holds_all fz) w hr vs hv
  | true =>
    have he : errM G l n = 0 := by unfold errM; rw [hva]; rfl
    by_cases hday : 0 ≤ d ∧ d ≤ 1048576
    · have e0 : (if true = true then dayE d else 40) = 0 := by simp [dayE, hday]
      rw [e0]
      have hT := dayT_ok V1 (d := d) rfl
      rw [dcls_two hday] at hT
      have hsp := split_q V1 (G := G) (l := l) (n := n) (d := d) true rfl rfl hl hn hva rfl (fun _ => hday.1) (by rw [srv_true]; exact hP)
      have ht2 : @TbOK V1 pfTb := by
        letI : Val := V1
        rw [he] at hC
        exact { T := hT, LL := hLL, C := fa hC fz, U := qnU_ok _ (fa hsp fz) }
      exact done_calls V1 V ht2 pf_good rfl (holds_all (fa h20 fz)) w hr vs hv
    · have e0 : (if true = true then dayE d else 40) = 1 := by simp only [dayE, if_true]; rw [if_neg hday]
      rw [e0]
      have key : doneQ (oaTb 0 (dcls d)) [] fParts [fellR, sI 8] [] [] (tupN 1) [] = true := by
        have := dcls_lt hday
        rcases (show dcls d = 0 ∨ dcls d = 1 by omega) with h | h
        · rw [h]; exact all2_all pf_bad1 true
        · rw [h]; exact all2_all pf_bad1 false
      exact done_calls V1 V (ht 0 he) key rfl (holds_all fz) w hr vs hv
theorem rparts_q (hG : V.I 0 = G) (hL : V.L 0 = l) (hl : ints l) (hn : l.length = n * 4) {x : RV} (fx : flat x = true) (hx : @cvF V x = .int .i64 d) (h20 : V.L 20 = ptG l n (odP l d) G.toNat) :
    ∀ w, RoIn ro w → ∀ vs, All2 (@Go.Ri.NVal V w) [fellR, x] vs → Calls Tryz.prog fRParts vs.toArray w (DQ V (ptAns (fdE G l n d)).1 (ptAns (fdE G l n d)).2 w) := by
  intro w hr vs hv
  obtain ⟨P, hP⟩ : ∃ P, P = ptG l n (odP l d) G.toNat := ⟨_, rfl⟩
  rw [← hP] at h20
  let V1 : Val := (ptNm G l n d P (onL l n d)).val fun _ => undef
  have hv : All2 (@Go.Ri.NVal V1 w) [fellR, sI 8] vs := by
    cases hv with
    | cons h1 h2 => cases h2 with
      | cons h2 h3 =>
        cases h3
        exact .cons (fell_nval1 hG hL h1) (.cons (nval_re fx rfl hx (show @cvF V1 (sI 8) = .int .i64 d from rfl) h2) .nil)
  have hC : @AnsN V1 fValid [fellR] (.bool (validM G l n)) := valid_ans _ rfl rfl hl hn
  have hLL : ∀ q, q ∈ hLL → @LLTrue V1 q := fa ⟨rfl, n, Nat.succ_pos 3, hn, rfl⟩ fz
  have ht : @TbOK V1 (roTbU (validM G l n) (dcls d)) := by
    letI : Val := V1
    exact { T := dayT_ok _ rfl, LL := hLL, C := fa hC fz }
  unfold fdE
  cases hva : validM G l n with
  | false =>
    rw [hva] at ht
    exact done_calls V1 V ht (allU_lt pr_bad _ (dcls_lt3 d)) rfl (holds_all fz) w hr vs hv
  | true =>
    by_cases hday : 0 ≤ d ∧ d ≤ 1048576
    · have e0 : (if true = true then dayE d else 40) = 0 := by simp [dayE, hday]
      rw [e0]
      have hT := dayT_ok V1 (d := d) rfl
      rw [dcls_two hday] at hT
      have hb : n ≤ 32 := ((validM_iff _ _ _).1 hva).2.2.1
      have hon := on_q V1 (G := G) (l := l) (n := n) (d := d) rfl rfl hl hn hb rfl hday.1 rfl
      have hst := sets_q V1 (G := G) (l := l) (n := n) rfl rfl hl hn hva (odP l d) rfl hP
      have hU : ∀ q, q ∈ prU (!(onL l n d).isEmpty) → @QNTrue V1 q := by
        cases hE : (onL l n d).isEmpty with
        | false =>
          rw [hE] at hon
          exact fa hon (fa hst fz)
        | true =>
          rw [hE] at hon
          exact fa hon (fa (nil_qn2 (List.isEmpty_iff.1 hE) hst) fz)
      have ht2 : @TbOK V1 (prTb (!(onL l n d).isEmpty)) := by
        letI : Val := V1
        rw [hva] at hC
        exact { T := hT, LL := hLL, C := fa hC fz, U := qnU_ok _ hU }
      exact done_calls V1 V ht2 (all2_all pr_good (!(onL l n d).isEmpty)) rfl (holds_all (fa h20 fz)) w hr vs hv
    · have e0 : (if true = true then dayE d else 40) = 1 := by simp only [dayE, if_true]; rw [if_neg hday]
      rw [e0]
      rw [hva] at ht
      have key : doneQ (roTbU true (dcls d)) [] fRParts [fellR, sI 8] [] [] (tupN 1) [] = true := by
        have := dcls_lt hday
        rcases (show dcls d = 0 ∨ dcls d = 1 by omega) with h | h
        · rw [h]; exact all2_all pr_bad1 true
        · rw [h]; exact all2_all pr_bad1 false
      exact done_calls V1 V ht key rfl (holds_all fz) w hr vs hv
/-! Together -/
noncomputable def tgB (G : Int) (l : List Value) (n : Nat) (a b d : Int) : Bool := if validM G l n then (if agCls G a b d d = 8 then (clS l n (odP l d) (2 ^ a.toNat)).testBit b.toNat else false) else false
noncomputable def tgX (G : Int) (l : List Value) (n : Nat) (a b d : Int) : Int := if validM G l n then (if agCls G a b d d = 8 then 0 else 1) else 40
theorem agCls6' {G a b fr : Int} (h : agCls G a b fr fr ≠ 8) : agCls G a b fr fr < 6 := by
  have hle : agCls G a b fr fr ≤ 8 := firstBad_le (agTest G a b fr fr) 8 0
  rcases Nat.lt_or_ge (agCls G a b fr fr) 6 with h1 | h1
  · exact h1
  · exfalso
    by_cases h6 : agCls G a b fr fr = 6
    · have h2 : ¬ fr ≤ fr := of_decide_eq_false (agCls_fail h6 (by omega))
      omega
    · have h7 : agCls G a b fr fr = 7 := by omega
      have h2 : ¬ fr ≤ 1048576 := of_decide_eq_false (agCls_fail h7 (by omega))
      have h3 : fr ≤ 1048576 := of_decide_eq_true (agTest_pass (G := G) (a := a) (b := b) (fr := fr) (to := fr) (j := 5) (by omega))
      omega
def tgnm (G : Int) (l : List Value) (n : Nat) (a b d : Int) (s0 s1 : Nat) (p : Bool) (L13 L14 : List Value) : Nm := ⟨fun i => if i = 0 then G else if i = 1 then (n : Int) else if i = 20 then a else if i = 21 then b else if i = 10 then (s0 : Int) else if i = 11 then (s1 : Int) else d, fun _ => p, fun _ => ⟨#[]⟩, fun i => if i = 0 then l else if i = 11 then onL l n d else if i = 13 then L13 else L14⟩
theorem nval4' {V V' : Val} {w : World} {vs : List Value} (hG : V.I 0 = G) (hL : V.L 0 = l) (hx : V.I 20 = a) (hy : V.I 21 = b) (hz : V.I 22 = d) (e0 : V'.I 0 = G) (e1 : V'.L 0 = l) (e2 : V'.I 20 = a) (e3 : V'.I 21 = b) (e4 : V'.I 22 = d) (hv : All2 (@Go.Ri.NVal V w) tgD vs) : All2 (@Go.Ri.NVal V' w) tgD vs := by
  cases hv with
  | cons h1 h2 => cases h2 with
    | cons h2 h3 => cases h3 with
      | cons h3 h4 => cases h4 with
        | cons h4 h5 =>
          cases h5
          exact .cons (fell_nval1 (hG.trans e0.symm) (hL.trans e1.symm) h1) (.cons (nval_re (V := V) (x := sI 20) rfl rfl (congrArg (Value.int .i64) hx) (congrArg (Value.int .i64) e2) h2) (.cons (nval_re (V := V) (x := sI 21) rfl rfl (congrArg (Value.int .i64) hy) (congrArg (Value.int .i64) e3) h3) (.cons (nval_re (V := V) (x := sI 22) rfl rfl (congrArg (Value.int .i64) hz) (congrArg (Value.int .i64) e4) h4) .nil)))
theorem together_ans (hG : V.I 0 = G) (hL : V.L 0 = l) (hl : ints l) (hn : l.length = n * 4) (hx : V.I 20 = a) (hy : V.I 21 = b) (hz : V.I 22 = d) : @AnsN V fTogether tgD (.tuple #[.bool (tgB G l n a b d), .int .i64 (tgX G l n a b d)]) := by
  intro w hr vs hv
  obtain ⟨s1, hs1⟩ : ∃ s1, s1 = clS l n (odP l d) (2 ^ a.toNat) := ⟨_, rfl⟩
  obtain ⟨s0, hs0⟩ : ∃ s0, s0 = 2 ^ a.toNat := ⟨_, rfl⟩
  let V1 : Val := (tgnm G l n a b d s0 s1 (s1.testBit b.toNat) [] []).val fun _ => undef
  have hv1 : All2 (@Go.Ri.NVal V1 w) tgD vs := nval4' hG hL hx hy hz rfl rfl rfl rfl rfl hv
  have hC1 : @AnsN V1 fCheck [fellR] (.int .i64 (errM G l n)) := check_ans _ rfl rfl hl hn
  have hC2 : @AnsN V1 fValid [fellR] (.bool (validM G l n)) := valid_ans _ rfl rfl hl hn
  have hLL : ∀ q, q ∈ hLL → @LLTrue V1 q := fa ⟨rfl, n, Nat.succ_pos 3, hn, rfl⟩ fz
  unfold tgB tgX
  cases hva : validM G l n with
  | false =>
    have ht : @TbOK V1 { LL := Z.hLL, C := [⟨fCheck, [fellR], lI 40⟩] } := by
      letI : Val := V1
      rw [show errM G l n = 40 by unfold errM; rw [hva]; rfl] at hC1
      exact { LL := hLL, C := fa hC1 fz }
    exact done_flat _ ht tg_err40 rfl rfl rfl w hr vs hv1
  | true =>
    rw [show errM G l n = 0 by unfold errM; rw [hva]; rfl] at hC1
    rw [if_pos rfl, if_pos rfl]
    by_cases hc8 : agCls G a b d d = 8
    · rw [if_pos hc8, if_pos hc8]
      have p0 : (0 : Int) ≤ a := of_decide_eq_true (agTest_pass (G := G) (a := a) (b := b) (fr := d) (to := d) (j := 0) (by omega))
      have p1 : a < G := of_decide_eq_true (agTest_pass (G := G) (a := a) (b := b) (fr := d) (to := d) (j := 1) (by omega))
      have p2 : (0 : Int) ≤ b := of_decide_eq_true (agTest_pass (G := G) (a := a) (b := b) (fr := d) (to := d) (j := 2) (by omega))
      have p3 : b < G := of_decide_eq_true (agTest_pass (G := G) (a := a) (b := b) (fr := d) (to := d) (j := 3) (by omega))
      have p4 : (0 : Int) ≤ d := of_decide_eq_true (agTest_pass (G := G) (a := a) (b := b) (fr := d) (to := d) (j := 4) (by omega))
      have p5 : d ≤ 1048576 := of_decide_eq_true (agTest_pass (G := G) (a := a) (b := b) (fr := d) (to := d) (j := 5) (by omega))
      have hg := (validM_iff _ _ _).1 hva
      have hG16 := hg.2.1
      have hT := agT_gen V1 (G := G) (a := a) (b := b) (fr := d) (to := d) rfl rfl rfl rfl rfl
      rw [hc8, show decide (0 ≤ d) = true from decide_eq_true p4] at hT
      have ha16 : a.toNat < 16 := by omega
      have ea : ((a.toNat : Nat) : Int) = a := by omega
      have eb : ((b.toNat : Nat) : Int) = b := by omega
      have hon := only_ans ha16
      rw [ea, ← hs0] at hon
      have hs1l : s1 < 65536 := by rw [hs1]; exact clS_lt _ _ _ _
      have hhas := has_ans hs1l (a := b.toNat) (by omega)
      rw [eb] at hhas
      have hend := endOf_ans V1 (G := G) (l := l) (n := n) (d := d) (s := s0) (x := sU 10) (y := sI 22) rfl rfl hl hn hva p4 (by rw [hs0]; exact pow_lt16 ha16) rfl rfl rfl rfl
      rw [hs0, ← hs1] at hend
      have ht : @TbOK V1 tgTb := by
        letI : Val := V1
        exact { T := hT, LL := hLL, C := fa hC1 (fa hend fz), Y := fa hon (fa hhas fz) }
      rw [← hs1]
      exact done_val V1 ht tg_good rfl rfl (fa ⟨_, rfl, rfl⟩ fz) rfl w hr vs hv1
    · rw [if_neg hc8, if_neg hc8]
      have ht : @TbOK V1 (rcE 0 (agCls G a b d d) (decide (0 ≤ d))) := by
        letI : Val := V1
        rw [hva] at hC2
        exact { T := agT_gen _ rfl rfl rfl rfl rfl, LL := hLL, C := fa hC1 (fa hC2 fz) }
      exact done_flat _ ht (all2_all (allU_lt tg_err _ (agCls6' hc8)) (decide (0 ≤ d))) rfl rfl rfl w hr vs hv1
theorem rtogether_ans (hG : V.I 0 = G) (hL : V.L 0 = l) (hl : ints l) (hn : l.length = n * 4) (hx : V.I 20 = a) (hy : V.I 21 = b) (hz : V.I 22 = d) : @AnsN V fRTogether tgD (.tuple #[.bool (tgB G l n a b d), .int .i64 (tgX G l n a b d)]) := by
  intro w hr vs hv
  obtain ⟨L13, h13⟩ : ∃ L13, L13 = bls (fun x => (2 ^ a.toNat).testBit x) G.toNat := ⟨_, rfl⟩
  obtain ⟨L14, h14⟩ : ∃ L14, L14 = bls (cloL l n (odP l d) (fun x => (2 ^ a.toNat).testBit x)) G.toNat := ⟨_, rfl⟩
  let V1 : Val := (tgnm G l n a b d 0 0 false L13 L14).val fun _ => undef
  have hv1 : All2 (@Go.Ri.NVal V1 w) tgD vs := nval4' hG hL hx hy hz rfl rfl rfl rfl rfl hv
  have hC2 : @AnsN V1 fValid [fellR] (.bool (validM G l n)) := valid_ans _ rfl rfl hl hn
  have hLL : ∀ q, q ∈ hLL → @LLTrue V1 q := fa ⟨rfl, n, Nat.succ_pos 3, hn, rfl⟩ fz
  unfold tgB tgX
  cases hva : validM G l n with
  | false =>
    rw [hva] at hC2
    have ht : @TbOK V1 { LL := Z.hLL, C := [⟨fValid, [fellR], bR false⟩] } := by
      letI : Val := V1
      exact { LL := hLL, C := fa hC2 fz }
    exact done_flat _ ht tr_err40 rfl rfl rfl w hr vs hv1
  | true =>
    rw [hva] at hC2
    rw [if_pos rfl, if_pos rfl]
    by_cases hc8 : agCls G a b d d = 8
    · rw [if_pos hc8, if_pos hc8]
      have p0 : (0 : Int) ≤ a := of_decide_eq_true (agTest_pass (G := G) (a := a) (b := b) (fr := d) (to := d) (j := 0) (by omega))
      have p1 : a < G := of_decide_eq_true (agTest_pass (G := G) (a := a) (b := b) (fr := d) (to := d) (j := 1) (by omega))
      have p2 : (0 : Int) ≤ b := of_decide_eq_true (agTest_pass (G := G) (a := a) (b := b) (fr := d) (to := d) (j := 2) (by omega))
      have p3 : b < G := of_decide_eq_true (agTest_pass (G := G) (a := a) (b := b) (fr := d) (to := d) (j := 3) (by omega))
      have p4 : (0 : Int) ≤ d := of_decide_eq_true (agTest_pass (G := G) (a := a) (b := b) (fr := d) (to := d) (j := 4) (by omega))
      have p5 : d ≤ 1048576 := of_decide_eq_true (agTest_pass (G := G) (a := a) (b := b) (fr := d) (to := d) (j := 5) (by omega))
      have hg := (validM_iff _ _ _).1 hva
      have hG16 := hg.2.1
      have hb32 := hg.2.2.1
      have hT := agT_gen V1 (G := G) (a := a) (b := b) (fr := d) (to := d) rfl rfl rfl rfl rfl
      rw [hc8, show decide (0 ≤ d) = true from decide_eq_true p4] at hT
      have ha16 : a.toNat < 16 := by omega
      have ea : ((a.toNat : Nat) : Int) = a := by omega
      have hone := one_q V1 (G := G) (l := l) (x := sI 20) (a := a.toNat) rfl rfl hn hva (by rw [ea]; exact p1) rfl (show Value.int .i64 a = .int .i64 ((a.toNat : Nat) : Int) by rw [ea]) (show L13 = _ from h13.trans (bls_congr fun x _ => by
        show (2 ^ a.toNat).testBit x = decide (x = a.toNat)
        rw [Nat.testBit_two_pow]
        exact decide_eq_decide.2 ⟨fun h => h.symm, fun h => h.symm⟩))
      have hon0 := on_q V1 (G := G) (l := l) (n := n) (d := d) rfl rfl hl hn hb32 rfl p4 rfl
      have hon : ∀ w, RoIn ro w → ∀ vs, All2 (@Go.Ri.NVal V1 w) [fellR, sI 22] vs → Calls Tryz.prog fOn vs.toArray w (DQ V1 (if (onL l n d).isEmpty then nilR else .slN 0 11 1) (if (onL l n d).isEmpty then [] else [some (.lst 11 tBool true)]) w) := fun w hr vs hv => by
        refine hon0 w hr vs ?_
        cases hv with
        | cons h1 h2 => cases h2 with
          | cons h2 h3 =>
            cases h3
            exact .cons h1 (.cons (nval_re (V := V1) (V' := V1) (x := sI 22) (y := sI 8) rfl rfl rfl rfl h2) .nil)
      have hsp := rspread_q V1 (G := G) (l := l) (n := n) rfl rfl hl hn hva (fun x => (2 ^ a.toNat).testBit x) (odP l d) (show L13 = _ from h13) rfl (show L14 = _ from h14)
      have hU : ∀ q, q ∈ trU (!(onL l n d).isEmpty) → @QNTrue V1 q := by
        cases hE : (onL l n d).isEmpty with
        | false =>
          rw [hE] at hon
          exact fa hone (fa hon (fa hsp fz))
        | true =>
          rw [hE] at hon
          exact fa hone (fa hon (fa (nil_qn3 (List.isEmpty_iff.1 hE) hsp) fz))
      have hcb : cloL l n (odP l d) (fun x => (2 ^ a.toNat).testBit x) b.toNat = (clS l n (odP l d) (2 ^ a.toNat)).testBit b.toNat := (clS_bit (e := odP l d) hva (pow_lt16 ha16) b.toNat).symm
      have lx := bls_lx (V := V1) (b := cloL l n (odP l d) (fun x => (2 ^ a.toNat).testBit x)) (n := G.toNat) (i := 14) (j := 21) (show L14 = _ from h14) (show (0 : Int) ≤ b from p2) (show b.toNat < G.toNat by omega)
      rw [show (V1.I 21).toNat = b.toNat from rfl, hcb] at lx
      have ht : @TbOK V1 (trTb (!(onL l n d).isEmpty) ((clS l n (odP l d) (2 ^ a.toNat)).testBit b.toNat)) := by
        letI : Val := V1
        refine { T := fa ⟨rfl, .i64, .i64, b, G, rfl, rfl, congrArg Value.bool (decide_eq_true ⟨p2, p3⟩).symm⟩ hT, LL := fa ⟨rfl, G.toNat, Nat.succ_pos 0, ?_, ?_⟩ hLL, LX := fa lx fz, C := fa hC2 fz, U := qnU_ok _ hU }
        · show L14.length = G.toNat * 1
          rw [h14, bls_len, Nat.mul_one]
        · show Value.int .i64 G = .int .i64 ((G.toNat : Nat) : Int)
          rw [show ((G.toNat : Nat) : Int) = G by omega]
      exact done_flat V1 ht (all2_all (all2_all tr_good (!(onL l n d).isEmpty)) ((clS l n (odP l d) (2 ^ a.toNat)).testBit b.toNat)) rfl rfl rfl w hr vs hv1
    · rw [if_neg hc8, if_neg hc8]
      have ht : @TbOK V1 (rrE true (agCls G a b d d) (decide (0 ≤ d))) := by
        letI : Val := V1
        exact { T := agT_gen _ rfl rfl rfl rfl rfl, LL := hLL, C := fa hC2 fz }
      exact done_flat _ ht (all2_all (allU_lt tr_err _ (agCls6' hc8)) (decide (0 ≤ d))) rfl rfl rfl w hr vs hv1
end
/-! The law. -/
noncomputable def fpU (m : Bool) : List QE := if m then [⟨fParts, [fellR, sI 22], .tup [.slN 0 20 1, lI 0], [some (.lstL 20 tInts 1)]⟩, ⟨fRParts, [fellR, sI 22], .tup [.slN 0 20 1, lI 0], [some (.lstL 20 tInts 1)]⟩]
  else [⟨fParts, [fellR, sI 22], .tup [nilR, sI 17], []⟩, ⟨fRParts, [fellR, sI 22], .tup [nilR, sI 17], []⟩]
noncomputable def fpTb (m : Bool) : Tb := { X := saneX, T := [⟨.bin .gtr, sI 1, lI 200, bR false⟩], LL := hLL, C := [⟨fTogether, tgD, .tup [sB 0, sI 18]⟩, ⟨fRTogether, tgD, .tup [sB 0, sI 18]⟩] ++ (if m then [⟨fLists, [.slL 20 1, .slL 20 1], bR true⟩] else []), U := qnU (fpU m) }
set_option maxRecDepth 100000 in
theorem fp_run : (all2 fun m => doneQ (fpTb m) [] fFellParts tgD [] [] (bR true) []) = true := by kernel_rfl
set_option maxRecDepth 100000 in
theorem fp_big : doneQ bigTb [] fFellParts tgD [] [] (bR true) [] = true := by kernel_rfl
noncomputable abbrev fpNm (G : Int) (l : List Value) (n : Nat) (a b d : Int) : Nm := ⟨fun i => if i = 0 then G else if i = 1 then (n : Int) else if i = 20 then a else if i = 21 then b else if i = 22 then d else if i = 17 then fdE G l n d else tgX G l n a b d, fun _ => tgB G l n a b d, fun _ => ⟨#[]⟩, fun i => if i = 0 then l else ptG l n (odP l d) G.toNat⟩
theorem parts_law (G : Int) (l : List Value) (n : Nat) (a b d : Int) (hl : ints l) (hn : l.length = n * 4) (w : World) (hr : RoIn ro w) (vs : List Value) (hv : All2 (@Go.Ri.NVal ((fpNm G l n a b d).val fun _ => undef) w) tgD vs) : Calls Tryz.prog fFellParts vs.toArray w (fun e w' => e = .returned (.bool true) ∧ Below w.heap.size w w') := by
  by_cases hbig : (n : Int) > 200
  · exact done_flat ((fpNm G l n a b d).val fun _ => undef) (big_tb (l := l) rfl rfl hn hbig) fp_big rfl rfl rfl w hr vs hv
  · have hq1 := parts_q ((fpNm G l n a b d).val fun _ => undef) (G := G) (l := l) (n := n) (d := d) (x := sI 22) rfl rfl hl hn rfl rfl rfl
    have hq2 := rparts_q ((fpNm G l n a b d).val fun _ => undef) (G := G) (l := l) (n := n) (d := d) (x := sI 22) rfl rfl hl hn rfl rfl rfl
    have ht1 := together_ans ((fpNm G l n a b d).val fun _ => undef) (G := G) (l := l) (n := n) (a := a) (b := b) (d := d) rfl rfl hl hn rfl rfl rfl
    have ht2 := rtogether_ans ((fpNm G l n a b d).val fun _ => undef) (G := G) (l := l) (n := n) (a := a) (b := b) (d := d) rfl rfl hl hn rfl rfl rfl
    have tb : ∀ m, (m = true → validM G l n = true) → (∀ q, q ∈ fpU m → @QNTrue ((fpNm G l n a b d).val fun _ => undef) q) → @TbOK ((fpNm G l n a b d).val fun _ => undef) (fpTb m) := fun m hm hU => by
      letI : Val := (fpNm G l n a b d).val fun _ => undef
      refine { X := saneX_true, T := fa (f_gtr (k := .i64) (m := (n : Int)) (n := 200) rfl rfl (decide_eq_false hbig)) fz, LL := fa ⟨rfl, n, Nat.succ_pos 3, hn, rfl⟩ fz, C := fapp (fa ht1 (fa ht2 fz)) ?_, U := qnU_ok _ hU }
      cases m with
      | true =>
        have hg := (validM_iff _ _ _).1 (hm rfl)
        have hlen := ptG_len l n (odP l d) G.toNat
        exact fa (lists_ans _ (ptG l n (odP l d) G.toNat) (ptG_agg _ _ _ _) _ rfl (by omega) (i := 20) rfl) fz
      | false => exact fz
    by_cases he : fdE G l n d = 0
    · rw [he] at hq1 hq2
      have hva : validM G l n = true := by
        unfold fdE at he
        cases h : validM G l n with
        | true => rfl
        | false => rw [h] at he; cases he
      exact done_flat _ (tb true (fun _ => hva) (fa hq1 (fa hq2 fz))) (all2_all fp_run true) rfl rfl rfl w hr vs hv
    · have ea : ptAns (fdE G l n d) = (tupN (fdE G l n d), []) := if_neg he
      rw [ea] at hq1 hq2
      exact done_flat _ (tb false (fun h => by cases h) (fa (fun w hr vs hv => (hq1 w hr vs hv).mono fun e w' h => dq_err rfl h) (fa (fun w hr vs hv => (hq2 w hr vs hv).mono fun e w' h => dq_err rfl h) fz))) (all2_all fp_run false) rfl rfl rfl w hr vs hv
end Go.Proofs.Z
