/- A part of the proofs that the laws of layer four answer true for every input. -/
import Derived.Test.YtjjmnoiiihcoiaaGreatDoorZHI
namespace Go.Proofs.Z
open Go Go.RowKit Go.Proofs Go.Ri Go.Proofs.Z.Fa
/-! Earliest, of both packages, for all inputs. -/
abbrev fREarliest : Nat := 37
def tup3 (e : Int) : RV := .pl (.tuple #[.int .i64 0, .bool false, .int .i64 e])
set_option maxRecDepth 100000 in
theorem eq_err : (allU 6 fun k => all2 fun s => doneQ (rcE 0 k s) [] fEarliest eaD [] [] (tup3 1) []) = true := by kernel_rfl
set_option maxRecDepth 100000 in
theorem eq_err40 : doneQ { LL := hLL, C := [⟨fCheck, [fellR], lI 40⟩] } [] fEarliest eaD [] [] (tup3 40) [] = true := by kernel_rfl
set_option maxRecDepth 100000 in
theorem er_err : (allU 6 fun k => all2 fun s => doneQ (rrE true k s) [] fREarliest eaD [] [] (tup3 1) []) = true := by kernel_rfl
set_option maxRecDepth 100000 in
theorem er_err40 : doneQ { LL := hLL, C := [⟨fValid, [fellR], bR false⟩] } [] fREarliest eaD [] [] (tup3 40) [] = true := by kernel_rfl
noncomputable def erE : Tb := { rrE true 8 true with U := qnU [oneE] }
noncomputable def erP : St := ⟨patW [(4, .ptr 1 0), (2, sI 21), (3, sI 22), (11, .slN 2 13 1), (12, sI 8)] 52 0, fellB ++ [some (.lst 13 tBool true)]⟩
def erS (d : RV) (j : Nat) : List SE := .int 8 d :: (idI [0, 1, 20, 21, 22] ++ [.lst 0 0, .lst 13 j])
noncomputable def erB : Code := hB erE [] fREarliest eaD
noncomputable def erK : List Fr := hK erE [] fREarliest eaD
set_option maxRecDepth 100000 in
theorem er_enter : enterT erE [] fREarliest eaD (erS (sI 22) 13) [0, 1, 2] erP = true := by kernel_rfl
def erT (lg b : Bool) : List TE := [⟨.bin .sub, lI 1048576, sI 22, sI 50⟩, ⟨.bin .gtr, sI 50, lI 5760, bR lg⟩, ⟨.bin .add, sI 22, lI 5760, sI 51⟩, ⟨.bin .leq, sI 8, if lg then sI 51 else lI 1048576, bR b⟩, ⟨.bin .add, sI 8, lI 1, sI 25⟩]
noncomputable def erG (lg ne p : Bool) : Tb := { T := ⟨.inb, sI 21, sI 0, bR true⟩ :: erT lg true, LL := [⟨14, 1, sI 0⟩], LX := [⟨14, 21, [bR p]⟩], U := qnU (rrU ne) }
set_option maxRecDepth 100000 in
theorem er_again : (all2 fun lg => all2 fun ne => againT (erG lg ne false) [] erB erK erP (erS (sI 25) 14) [0, 1, if ne then 4 else 3] erP) = true := by kernel_rfl
set_option maxRecDepth 100000 in
theorem er_found : (all2 fun lg => all2 fun ne => outF (erG lg ne true) [] fREarliest erB erK erP (.tup [sI 8, bR true, lI 0])) = true := by kernel_rfl
set_option maxRecDepth 100000 in
theorem er_out : (all2 fun lg => outF { T := erT lg false } [] fREarliest erB erK erP (tup3 0)) = true := by kernel_rfl
end Go.Proofs.Z

namespace Go.Proofs.Z
open Go Go.RowKit Go.Proofs Go.Ri Go.Proofs.Z.Fa
/-! Earliest, of both packages: contracts for all inputs. -/
def eqV (d : Int) (c : Bool) (e : Int) : Value := .tuple #[.int .i64 d, .bool c, .int .i64 e]
noncomputable def eqM (G : Int) (l : List Value) (n : Nat) (a b fr : Int) : Value := if validM G l n then (if agCls G a b fr fr = 8 then eaM l n (2 ^ a.toNat) b.toNat fr else eqV 0 false 1) else eqV 0 false 40
def eqnm (G : Int) (l : List Value) (n : Nat) (a b fr : Int) : Nm := ⟨fun i => if i = 0 then G else if i = 1 then (n : Int) else if i = 20 then a else if i = 21 then b else fr, ny, fun _ => ⟨#[]⟩, fun _ => l⟩
theorem agCls6 {G a b fr : Int} (h : agCls G a b fr fr ≠ 8) : agCls G a b fr fr < 6 := by
  have hle : agCls G a b fr fr ≤ 8 := firstBad_le (agTest G a b fr fr) 8 0
  rcases Nat.lt_or_ge (agCls G a b fr fr) 6 with h1 | h1
  · exact h1
  · exfalso
    by_cases h6 : agCls G a b fr fr = 6
    · have h2 : ¬ fr ≤ fr := of_decide_eq_false (agCls_fail h6 (by omega))
      omega
    · have h7 : agCls G a b fr fr = 7 := by omega
      have h2 : ¬ fr ≤ 1048576 := of_decide_eq_false (agCls_fail h7 (by omega))
      have h3 : fr ≤ 1048576 := of_decide_eq_true (agTest_pass (G := G) (a := a) (b := b) (fr := fr) (to := fr) (j := 5) (by omega))
      omega
theorem nval4 {V V' : Val} {w : World} {G : Int} {l : List Value} {a b fr : Int} {vs : List Value} (hG : V.I 0 = G) (hL : V.L 0 = l) (hx : V.I 20 = a) (hy : V.I 21 = b) (hz : V.I 22 = fr) (e0 : V'.I 0 = G) (e1 : V'.L 0 = l) (e2 : V'.I 20 = a) (e3 : V'.I 21 = b) (e4 : V'.I 22 = fr) (hv : All2 (@Go.Ri.NVal V w) eaD vs) : All2 (@Go.Ri.NVal V' w) eaD vs := by
  cases hv with
  | cons h1 h2 => cases h2 with
    | cons h2 h3 => cases h3 with
      | cons h3 h4 => cases h4 with
        | cons h4 h5 =>
          cases h5
          exact .cons (fell_nval1 (hG.trans e0.symm) (hL.trans e1.symm) h1) (.cons (nval_re (V := V) (x := sI 20) rfl rfl (congrArg (Value.int .i64) hx) (congrArg (Value.int .i64) e2) h2) (.cons (nval_re (V := V) (x := sI 21) rfl rfl (congrArg (Value.int .i64) hy) (congrArg (Value.int .i64) e3) h3) (.cons (nval_re (V := V) (x := sI 22) rfl rfl (congrArg (Value.int .i64) hz) (congrArg (Value.int .i64) e4) h4) .nil)))
theorem earliest_all (V : Val) {G : Int} {l : List Value} {n : Nat} {a b fr : Int} (hG : V.I 0 = G) (hL : V.L 0 = l) (hl : ints l) (hn : l.length = n * 4) (hx : V.I 20 = a) (hy : V.I 21 = b) (hz : V.I 22 = fr) : @AnsN V fEarliest eaD (eqM G l n a b fr) := by
  intro w hr vs hv
  have hv1 : All2 (@Go.Ri.NVal ((eqnm G l n a b fr).val fun _ => undef) w) eaD vs := nval4 hG hL hx hy hz rfl rfl rfl rfl rfl hv
  have hC1 : @AnsN ((eqnm G l n a b fr).val fun _ => undef) fCheck [fellR] (.int .i64 (errM G l n)) := check_ans _ rfl rfl hl hn
  have hC2 : @AnsN ((eqnm G l n a b fr).val fun _ => undef) fValid [fellR] (.bool (validM G l n)) := valid_ans _ rfl rfl hl hn
  have hLL : ∀ q, q ∈ hLL → @LLTrue ((eqnm G l n a b fr).val fun _ => undef) q := fa ⟨rfl, n, Nat.succ_pos 3, hn, rfl⟩ fz
  unfold eqM
  cases hva : validM G l n with
  | false =>
    have ht : @TbOK ((eqnm G l n a b fr).val fun _ => undef) { LL := Z.hLL, C := [⟨fCheck, [fellR], lI 40⟩] } := by
      letI : Val := (eqnm G l n a b fr).val fun _ => undef
      rw [show errM G l n = 40 by unfold errM; rw [hva]; rfl] at hC1
      exact { LL := hLL, C := fa hC1 fz }
    exact done_flat _ ht eq_err40 rfl rfl rfl w hr vs hv1
  | true =>
    rw [if_pos rfl]
    by_cases hc8 : agCls G a b fr fr = 8
    · rw [if_pos hc8]
      have p0 : (0 : Int) ≤ a := of_decide_eq_true (agTest_pass (G := G) (a := a) (b := b) (fr := fr) (to := fr) (j := 0) (by omega))
      have p1 : a < G := of_decide_eq_true (agTest_pass (G := G) (a := a) (b := b) (fr := fr) (to := fr) (j := 1) (by omega))
      have p2 : (0 : Int) ≤ b := of_decide_eq_true (agTest_pass (G := G) (a := a) (b := b) (fr := fr) (to := fr) (j := 2) (by omega))
      have p3 : b < G := of_decide_eq_true (agTest_pass (G := G) (a := a) (b := b) (fr := fr) (to := fr) (j := 3) (by omega))
      have p4 : (0 : Int) ≤ fr := of_decide_eq_true (agTest_pass (G := G) (a := a) (b := b) (fr := fr) (to := fr) (j := 4) (by omega))
      have p5 : fr ≤ 1048576 := of_decide_eq_true (agTest_pass (G := G) (a := a) (b := b) (fr := fr) (to := fr) (j := 5) (by omega))
      exact earliest_ans V (a := a.toNat) (b := b.toNat) hG hL hl hn hva (by omega) (by omega) p4 p5 (by omega) (by omega) hz w hr vs hv
    · rw [if_neg hc8]
      have ht : @TbOK ((eqnm G l n a b fr).val fun _ => undef) (rcE 0 (agCls G a b fr fr) (decide (0 ≤ fr))) := by
        letI : Val := (eqnm G l n a b fr).val fun _ => undef
        rw [show errM G l n = 0 by unfold errM; rw [hva]; rfl] at hC1
        rw [hva] at hC2
        exact { T := agT_gen _ rfl rfl rfl rfl rfl, LL := hLL, C := fa hC1 (fa hC2 fz) }
      exact done_flat _ ht (all2_all (allU_lt eq_err _ (agCls6 hc8)) (decide (0 ≤ fr))) rfl rfl rfl w hr vs hv1
def ernm (G : Int) (l : List Value) (n : Nat) (a b : Nat) (fr : Int) (d : Int) (L13 L14 : List Value) : Nm :=
  ⟨fun j => if j = 0 then G else if j = 1 then (n : Int) else if j = 20 then (a : Int) else if j = 21 then (b : Int) else if j = 22 then fr else if j = 23 then fr else if j = 8 then d else if j = 25 then d + 1 else if j = 50 then 1048576 - fr else fr + 5760, ny, fun _ => ⟨#[]⟩,
   fun j => if j = 0 then l else if j = 13 then L13 else if j = 11 then onL l n d else L14⟩
section
variable {G : Int} {l : List Value} {n a b : Nat} {fr : Int}
theorem erS_ok (d d' : Int) (L13 L14 M13 M14 : List Value) {r : RV} {j : Nat} (W W' : Nat → Value) (hr : @cv ((ernm G l n a b fr d L13 L14).val W) r = .int .i64 d') (hj : M13 = ((ernm G l n a b fr d L13 L14).val W).L j) : ∀ e, e ∈ erS r j → okSE ((ernm G l n a b fr d L13 L14).val W) ((ernm G l n a b fr d' M13 M14).val W') e :=
  fa ⟨.i64, d', hr, rfl⟩ (fapp (ids_ok [0, 1, 20, 21, 22] (fa rfl (fa rfl (fa rfl (fa rfl (fa rfl fz)))))) (fa (show l = l from rfl) (fa hj fz)))
theorem erT_ok (d : Int) (L13 L14 : List Value) (W : Nat → Value) (h0 : 0 ≤ fr) (h1 : fr ≤ 1048576) (h4 : 0 ≤ d) (h5 : d ≤ 10000000) {q : Bool} (hb : decide (d ≤ endM fr 1048576) = q) : ∀ e, e ∈ erT (decide (1048576 - fr > 5760)) q → @TETrue ((ernm G l n a b fr d L13 L14).val W) e := by
  letI : Val := (ernm G l n a b fr d L13 L14).val W
  refine fa (f_sub (m := 1048576) (n := fr) (r := 1048576 - fr) rfl rfl rfl rfl rfl (by omega) (by omega)) (fa (f_gtr (k := .i64) (m := 1048576 - fr) (n := 5760) rfl rfl rfl) (fa (f_add (m := fr) (n := 5760) (r := fr + 5760) rfl rfl rfl rfl rfl (by omega) (by omega)) (fa ?_ (fa (f_add1 (m := d) rfl rfl rfl h4 (by omega)) fz))))
  unfold endM at hb
  by_cases hl : 1048576 - fr > 5760
  · rw [decide_eq_true hl, if_pos rfl]
    rw [if_pos hl] at hb
    exact f_leq (k := .i64) (m := d) (n := fr + 5760) rfl rfl hb
  · rw [decide_eq_false hl, if_neg (by decide)]
    rw [if_neg hl] at hb
    exact f_leq (k := .i64) (m := d) (n := 1048576) rfl rfl hb
end
set_option maxHeartbeats 2000000 in
theorem rearliest_ans (V : Val) {G : Int} {l : List Value} {n : Nat} {a b : Nat} {fr : Int} (hG : V.I 0 = G) (hL : V.L 0 = l) (hl : ints l) (hn : l.length = n * 4) (hva : validM G l n = true) (p1 : (a : Int) < G) (p3 : (b : Int) < G) (p4 : 0 ≤ fr) (p5 : fr ≤ 1048576) (hx : V.I 20 = a) (hy : V.I 21 = b) (hz : V.I 22 = fr) :
    @AnsN V fREarliest eaD (eaM l n (2 ^ a) b fr) := by
  intro w hr vs hv
  have hva0 : ∀ d L13 L14, All2 (@Go.Ri.NVal ((ernm G l n a b fr d L13 L14).val fun _ => undef) w) eaD vs := fun d L13 L14 => nval4 hG hL hx hy hz rfl rfl rfl rfl rfl hv
  have hg := (validM_iff _ _ _).1 hva
  have hG16 := hg.2.1
  have hb32 := hg.2.2.1
  have ha16 : a < 16 := by omega
  have hS0 : 2 ^ a < 65536 := pow_lt16 ha16
  have hE1 : fr ≤ endM fr 1048576 := by unfold endM; split <;> omega
  have hE2 : endM fr 1048576 ≤ 1048576 := by unfold endM; split <;> omega
  obtain ⟨M, hM⟩ : ∃ M : Nat, M = (endM fr 1048576 + 1 - fr).toNat := ⟨_, rfl⟩
  have hgrow : ∀ i j, (runS l n (2 ^ a) fr i).testBit b = true → (runS l n (2 ^ a) fr (i + j)).testBit b = true := fun i j h => runS_sub hva hS0 i j b h
  show Calls Tryz.prog fREarliest vs.toArray w (DF (eaM l n (2 ^ a) b fr) w)
  let B : Nat → List Value := fun i => bls (fun x => (runS l n (2 ^ a) fr i).testBit x) G.toNat
  let C : Nat → List Value := fun i => bls (cloL l n (odP l (fr + i)) (fun x => (runS l n (2 ^ a) fr i).testBit x)) G.toNat
  have hBC : ∀ i, C i = B (i + 1) := fun i => bls_congr fun x _ => (clS_bit (e := odP l (fr + i)) hva (runS_lt hS0 i) x).symm
  let nm : Nat → Nm := fun i => ernm G l n a b fr (fr + i) (B i) (C i)
  have ht : @TbOK ((nm 0).val fun _ => undef) erE := by
    letI : Val := (nm 0).val fun _ => undef
    have hT' := agT_gen ((nm 0).val fun _ => undef) (G := G) (a := (a : Int)) (b := (b : Int)) (fr := fr) (to := fr) rfl rfl rfl rfl rfl
    rw [agCls_ok (by omega) p1 (by omega) p3 p4 p5 (Int.le_refl _) p5, show decide (0 ≤ fr) = true from decide_eq_true p4] at hT'
    have hC1 := valid_ans ((nm 0).val fun _ => undef) (G := G) (l := l) rfl rfl hl hn
    rw [hva] at hC1
    have hone := one_q ((nm 0).val fun _ => undef) (G := G) (l := l) (x := sI 20) (a := a) rfl rfl hn hva p1 rfl rfl (bls_congr fun x _ => by
      show (2 ^ a).testBit x = decide (x = a)
      rw [Nat.testBit_two_pow]
      exact decide_eq_decide.2 ⟨fun h => h.symm, fun h => h.symm⟩)
    exact { T := hT', LL := fa ⟨rfl, n, Nat.succ_pos 3, hn, rfl⟩ fz, C := fa hC1 fz, U := qnU_ok _ (fa hone fz) }
  refine fn_loop (κ := Unit) (nm 0) (fun _ => undef) erE [] fREarliest eaD (fun _ => erP) (fun m _ c => ∃ i, i ≤ M ∧ (∀ j, 1 ≤ j → j ≤ i → (runS l n (2 ^ a) fr j).testBit b = false) ∧ c = nm i ∧ m = M - i) ht (erS (sI 22) 13) [0, 1, 2] () M er_enter (ernm G l n a b fr fr (B 0) (C 0)) (fun W' => holds_all (erS_ok _ _ _ _ _ _ _ W' rfl rfl)) ⟨0, Nat.zero_le _, fun j h1 h2 => by omega, ?_, rfl⟩ _ ?_ w hr vs (hva0 _ _ _)
  · show ernm G l n a b fr fr (B 0) (C 0) = ernm G l n a b fr (fr + ((0 : Nat) : Int)) (B 0) (C 0)
    rw [show fr + ((0 : Nat) : Int) = fr by omega]
  · rintro w m _ c ⟨i, hi, hz, rfl, rfl⟩ W
    unfold eaM
    rcases Nat.lt_or_ge i M with hlt | hge
    · have hd : fr + (i : Int) ≤ endM fr 1048576 := by omega
      have hTr := erT_ok (G := G) (l := l) (n := n) (a := a) (b := b) (fr := fr) (fr + i) (B i) (C i) W p4 p5 (by omega) (by omega) (decide_eq_true hd)
      have hon := on_q ((nm i).val W) (G := G) (l := l) (n := n) (d := fr + i) rfl rfl hl hn hb32 rfl (by omega) rfl
      have hsp := rspread_q ((nm i).val W) (G := G) (l := l) (n := n) rfl rfl hl hn hva (fun x => (runS l n (2 ^ a) fr i).testBit x) (odP l (fr + i)) rfl rfl rfl
      have hU : ∀ q, q ∈ rrU (!(onL l n (fr + i)).isEmpty) → @QNTrue ((nm i).val W) q := by
        cases hE : (onL l n (fr + i)).isEmpty with
        | false =>
          rw [hE] at hon
          exact fa hon (fa hsp fz)
        | true =>
          rw [hE] at hon
          have hnil : ((nm i).val W).L 11 = [] := List.isEmpty_iff.1 hE
          exact fa hon (fa (nil_qn hnil hsp) fz)
      generalize (!(onL l n (fr + i)).isEmpty) = ne at hU
      have lx := bls_lx (V := (nm i).val W) (b := cloL l n (odP l (fr + i)) (fun x => (runS l n (2 ^ a) fr i).testBit x)) (n := G.toNat) (i := 14) (j := 21) rfl (show (0 : Int) ≤ (b : Int) by omega) (by show ((b : Int)).toNat < G.toNat; rw [Int.toNat_natCast]; omega)
      rw [show (((nm i).val W).I 21).toNat = b from Int.toNat_natCast b, show cloL l n (odP l (fr + i)) (fun x => (runS l n (2 ^ a) fr i).testBit x) b = (runS l n (2 ^ a) fr (i + 1)).testBit b from (clS_bit (e := odP l (fr + i)) hva (runS_lt hS0 i) b).symm] at lx
      have tb : @TbOK ((nm i).val W) (erG (decide (1048576 - fr > 5760)) ne ((runS l n (2 ^ a) fr (i + 1)).testBit b)) := by
        letI : Val := (nm i).val W
        refine { T := fa ⟨rfl, .i64, .i64, (b : Int), G, rfl, rfl, congrArg Value.bool (decide_eq_true ⟨by omega, p3⟩).symm⟩ hTr, LL := fa ⟨rfl, G.toNat, Nat.succ_pos 0, ?_, ?_⟩ fz, LX := fa lx fz, U := qnU_ok _ hU }
        · show (C i).length = G.toNat * 1
          rw [bls_len, Nat.mul_one]
        · show Value.int .i64 G = .int .i64 ((G.toNat : Nat) : Int)
          rw [show ((G.toNat : Nat) : Int) = G by omega]
      cases hb : (runS l n (2 ^ a) fr (i + 1)).testBit b with
      | true =>
        rw [hb] at tb
        have hk : eaK l n (2 ^ a) b fr ≤ i + 1 := fb_le (by rw [hb]; rfl)
        have hk2 : (1 ≤ i → eaK l n (2 ^ a) b fr = i + 1) := fun h1 => fb_eq (fun j hj => by
          rcases Nat.eq_zero_or_pos j with rfl | hj0
          · cases h : (runS l n (2 ^ a) fr 0).testBit b with
            | false => rfl
            | true =>
              have := hgrow 0 1 h
              rw [Nat.zero_add, hz 1 (Nat.le_refl _) h1] at this
              cases this
          · rw [hz j hj0 (by omega)]
            rfl) (by omega) (by rw [hb]; rfl)
        have hval : (if eaK l n (2 ^ a) b fr < (1048577 - fr).toNat + 1 then eaV (if eaK l n (2 ^ a) b fr = 0 then fr else fr + eaK l n (2 ^ a) b fr - 1) true else eaV 0 false) = eaV (fr + i) true := by
          rw [if_pos (by omega)]
          refine congrArg (fun d => eaV d true) ?_
          rcases Nat.eq_zero_or_pos i with rfl | h1
          · split <;> omega
          · rw [hk2 h1, if_neg (by omega)]
            omega
        rw [hval]
        letI : Val := (nm i).val W
        exact step_outF _ [] tb _ (all2_all (all2_all er_found (decide (1048576 - fr > 5760))) ne) rfl
      | false =>
        rw [hb] at tb
        refine step_to _ [] tb (erS (sI 25) 14) _ () (ernm G l n a b fr (fr + i + 1) (C i) (C (i + 1))) (all2_all (all2_all er_again (decide (1048576 - fr > 5760))) ne) (fun W' => holds_all (erS_ok _ _ _ _ _ _ W W' rfl rfl)) ⟨M - (i + 1), by omega, i + 1, hlt, fun j h1 h2 => ?_, ?_, rfl⟩
        · rcases Nat.lt_or_eq_of_le h2 with h | rfl
          · exact hz j h1 (by omega)
          · exact hb
        · show ernm G l n a b fr (fr + i + 1) (C i) (C (i + 1)) = ernm G l n a b fr (fr + ((i + 1 : Nat) : Int)) (B (i + 1)) (C (i + 1))
          rw [hBC i, show fr + ((i + 1 : Nat) : Int) = fr + i + 1 by omega]
    · obtain rfl : i = M := by omega
      have hd : ¬ fr + (i : Int) ≤ endM fr 1048576 := by omega
      have hTr := erT_ok (G := G) (l := l) (n := n) (a := a) (b := b) (fr := fr) (fr + i) (B i) (C i) W p4 p5 (by omega) (by omega) (decide_eq_false hd)
      have hall : ∀ j, j < (1048577 - fr).toNat + 1 → (runS l n (2 ^ a) fr j).testBit b = false := fun j hj => by
        have h1 := hz 1 (Nat.le_refl _) (by omega)
        rcases Nat.eq_zero_or_pos j with rfl | hj0
        · cases h : (runS l n (2 ^ a) fr 0).testBit b with
          | false => rfl
          | true =>
            have := hgrow 0 1 h
            rw [Nat.zero_add, h1] at this
            cases this
        · rcases Nat.lt_or_ge i j with h | h
          · by_cases hlg : 1048576 - fr > 5760
            · have eM : i = 5761 := by
                rw [hM]
                unfold endM
                rw [if_pos hlg]
                omega
              rw [runS_long hva hS0 p4 (cnt_pow ha16) (j := j) (by omega)]
              exact hz 5760 (by omega) (by omega)
            · have eM : i = (1048576 + 1 - fr).toNat := by
                rw [hM]
                unfold endM
                rw [if_neg hlg]
              omega
          · exact hz j hj0 h
      have hk : eaK l n (2 ^ a) b fr = (1048577 - fr).toNat + 1 := fb_end fun j hj => by rw [hall j hj]; rfl
      rw [hk, if_neg (Nat.lt_irrefl _)]
      letI : Val := (nm i).val W
      exact step_outF _ [] { T := hTr } _ (all2_all er_out (decide (1048576 - fr > 5760))) rfl
theorem rearliest_all (V : Val) {G : Int} {l : List Value} {n : Nat} {a b fr : Int} (hG : V.I 0 = G) (hL : V.L 0 = l) (hl : ints l) (hn : l.length = n * 4) (hx : V.I 20 = a) (hy : V.I 21 = b) (hz : V.I 22 = fr) : @AnsN V fREarliest eaD (eqM G l n a b fr) := by
  intro w hr vs hv
  have hv1 : All2 (@Go.Ri.NVal ((eqnm G l n a b fr).val fun _ => undef) w) eaD vs := nval4 hG hL hx hy hz rfl rfl rfl rfl rfl hv
  have hC2 : @AnsN ((eqnm G l n a b fr).val fun _ => undef) fValid [fellR] (.bool (validM G l n)) := valid_ans _ rfl rfl hl hn
  have hLL : ∀ q, q ∈ hLL → @LLTrue ((eqnm G l n a b fr).val fun _ => undef) q := fa ⟨rfl, n, Nat.succ_pos 3, hn, rfl⟩ fz
  unfold eqM
  cases hva : validM G l n with
  | false =>
    have ht : @TbOK ((eqnm G l n a b fr).val fun _ => undef) { LL := Z.hLL, C := [⟨fValid, [fellR], bR false⟩] } := by
      letI : Val := (eqnm G l n a b fr).val fun _ => undef
      rw [hva] at hC2
      exact { LL := hLL, C := fa hC2 fz }
    exact done_flat _ ht er_err40 rfl rfl rfl w hr vs hv1
  | true =>
    rw [if_pos rfl]
    by_cases hc8 : agCls G a b fr fr = 8
    · rw [if_pos hc8]
      have p0 : (0 : Int) ≤ a := of_decide_eq_true (agTest_pass (G := G) (a := a) (b := b) (fr := fr) (to := fr) (j := 0) (by omega))
      have p1 : a < G := of_decide_eq_true (agTest_pass (G := G) (a := a) (b := b) (fr := fr) (to := fr) (j := 1) (by omega))
      have p2 : (0 : Int) ≤ b := of_decide_eq_true (agTest_pass (G := G) (a := a) (b := b) (fr := fr) (to := fr) (j := 2) (by omega))
      have p3 : b < G := of_decide_eq_true (agTest_pass (G := G) (a := a) (b := b) (fr := fr) (to := fr) (j := 3) (by omega))
      have p4 : (0 : Int) ≤ fr := of_decide_eq_true (agTest_pass (G := G) (a := a) (b := b) (fr := fr) (to := fr) (j := 4) (by omega))
      have p5 : fr ≤ 1048576 := of_decide_eq_true (agTest_pass (G := G) (a := a) (b := b) (fr := fr) (to := fr) (j := 5) (by omega))
      exact rearliest_ans V (a := a.toNat) (b := b.toNat) hG hL hl hn hva (by omega) (by omega) p4 p5 (by omega) (by omega) hz w hr vs hv
    · rw [if_neg hc8]
      have ht : @TbOK ((eqnm G l n a b fr).val fun _ => undef) (rrE true (agCls G a b fr fr) (decide (0 ≤ fr))) := by
        letI : Val := (eqnm G l n a b fr).val fun _ => undef
        rw [hva] at hC2
        exact { T := agT_gen _ rfl rfl rfl rfl rfl, LL := hLL, C := fa hC2 fz }
      exact done_flat _ ht (all2_all (allU_lt er_err _ (agCls6 hc8)) (decide (0 ≤ fr))) rfl rfl rfl w hr vs hv1
end Go.Proofs.Z
