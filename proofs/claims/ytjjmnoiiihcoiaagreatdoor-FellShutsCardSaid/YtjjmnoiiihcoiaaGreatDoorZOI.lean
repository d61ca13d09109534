/- A part of the proofs that the laws of layer four answer true for every input. -/
import Derived.Test.YtjjmnoiiihcoiaaGreatDoorZOG
namespace Go.Proofs.Z
open Go Go.RowKit Go.Proofs Go.Ri Go.Proofs.Z.Fa
/-! LaneCount and Shut of the specification: contracts. -/
section
variable {G : Int} {l : List Value} {n a b : Nat}
theorem nil_an4 {V : Val} {f : FuncId} {x y z : RV} {i : Nat} {v : Value} (hnil : V.L i = []) (q : @AnsN V f [x, y, z, .slN 0 i 1] v) : @AnsN V f [x, y, z, nilR] v := fun w hr vs hv => by
  refine q w hr vs ?_
  cases hv with
  | cons h1 h2 => cases h2 with
    | cons h2 h3 => cases h3 with
      | cons h3 h4 => cases h4 with
        | cons h4 h5 =>
          refine .cons h1 (.cons h2 (.cons h3 (.cons ?_ h5)))
          have h : _ = Value.slice none 0 0 := h4
          rw [h]
          refine ⟨none, 0, 0, rfl, fun h => absurd hnil h, by decide, ?_, Nat.le_refl _, fun a ha => by cases ha⟩
          rw [hnil]
          rfl
/-- The gates that are left. -/
noncomputable def leftE (l : List Value) (L : List Nat) : Nat → Bool := usB l (fun j => L.contains j)
theorem left_mf (hn : l.length = n * 4) (hva : validM G l n = true) (ha : a < 16) (hb : b < 16) (hab : a ≠ b) {L : List Nat} (hL : ∀ x, x ∈ L → x < n) : IsMF (gA' l) (gB' l) n (leftE l L) a b (mlK (wiL l L) n a b) := wi_mf hn hva ha hb hab hL
noncomputable def lcNm (G : Int) (l : List Value) (n : Nat) (a b K : Int) : Nm := gnm G l n 0 (fun j => if j = 20 then a else if j = 21 then b else K) ny (fun j => if j = 12 then bls (fun _ => false) n else bls (leftE l []) n)
theorem lc_args {V V1 : Val} {w : World} {a b : Int} {vs : List Value} {x y : RV} (hG : V.I 0 = G) (hL : V.L 0 = l) (fx : flat x = true) (fy : flat y = true) (hx : @cvF V x = .int .i64 a) (hy : @cvF V y = .int .i64 b) (g0 : V1.I 0 = G) (g1 : V1.L 0 = l) (g2 : V1.I 20 = a) (g3 : V1.I 21 = b) (hv : All2 (@Go.Ri.NVal V w) [fellR, x, y] vs) : All2 (@Go.Ri.NVal V1 w) lcD vs := by
  cases hv with
  | cons h1 h2 => cases h2 with
    | cons h2 h3 => cases h3 with
      | cons h3 h4 =>
        cases h4
        exact .cons (fell_nval1 (hG.trans g0.symm) (hL.trans g1.symm) h1) (.cons (nval_re (V := V) (V' := V1) (y := sI 20) fx rfl hx (congrArg (Value.int .i64) g2) h2) (.cons (nval_re (V := V) (V' := V1) (y := sI 21) fy rfl hy (congrArg (Value.int .i64) g3) h3) .nil))
theorem count_ok (V : Val) (hG : V.I 0 = G) (hL : V.L 0 = l) (hl : ints l) (hn : l.length = n * 4) (hva : validM G l n = true) (haG : (a : Int) < G) (hbG : (b : Int) < G) (hab : a ≠ b) {x y : RV} (fx : flat x = true) (fy : flat y = true) (hx : @cvF V x = .int .i64 (a : Int)) (hy : @cvF V y = .int .i64 (b : Int)) : @AnsN V fCount [fellR, x, y] (.tuple #[.int .i64 (mlK l n a b : Nat), .int .i64 0]) := by
  intro w hr vs hv
  have hvv := (validM_iff _ _ _).1 hva
  have ha : a < 16 := by omega
  have hb : b < 16 := by omega
  obtain ⟨g, rfl⟩ : ∃ g : Nat, G = g := ⟨G.toNat, by omega⟩
  let V1 : Val := (lcNm g l n a b (mlK l n a b : Nat)).val fun _ => undef
  have hv : All2 (@Go.Ri.NVal V1 w) lcD vs := lc_args (V := V) (V1 := V1) hG hL fx fy hx hy rfl rfl rfl rfl hv
  have hM : IsMF (gA' l) (gB' l) n (leftE l []) a b (mlK l n a b) := left_mf (L := []) hn hva ha hb hab (fun x hx => by cases hx)
  have hvl : @AnsN V1 fValid [fellR] (.bool true) := by
    have := valid_ans V1 (G := (g : Int)) (l := l) (n := n) rfl rfl hl hn
    rwa [hva] at this
  have hru := ruse_q V1 (G := (g : Int)) (l := l) (n := n) rfl rfl hl hn (by omega) (fun _ => false) (i12 := 12) rfl (show bls (leftE l []) n = bls (usB l fun _ => false) n from bls_congr fun i _ => rfl)
  have hfl := flow_ans V1 (g := g) (l := l) (n := n) (e := leftE l []) (a := a) (b := b) rfl rfl hl hn hva (by omega) (by omega) hab (x := sI 20) (y := sI 21) rfl rfl rfl rfl (q := 11) rfl hM
  have hT : ∀ q, q ∈ lcT true true true true false → @TETrue V1 q := by
    letI : Val := V1
    exact fa (f_geq (k := .i64) (m := (a : Int)) (n := 0) rfl rfl (decide_eq_true (by omega))) (fa (f_lss (k := .i64) (m := (a : Int)) (n := (g : Int)) rfl rfl (decide_eq_true haG)) (fa (f_geq (k := .i64) (m := (b : Int)) (n := 0) rfl rfl (decide_eq_true (by omega))) (fa (f_lss (k := .i64) (m := (b : Int)) (n := (g : Int)) rfl rfl (decide_eq_true hbG)) (fa (f_ieq (k := .i64) (m := (a : Int)) (n := (b : Int)) rfl rfl (by rw [eqdec]; exact decide_eq_false (by omega))) fz))))
  have ht : @TbOK V1 (lcE (decide (0 < n)) true true true true false) := by
    letI : Val := V1
    refine { T := hT, LL := fa ⟨rfl, n, Nat.succ_pos 3, hn, rfl⟩ fz, C := fa hvl (fa ?_ fz), U := qnU_ok _ (fa (all_q V1 (G := (g : Int)) (l := l) (n := n) rfl rfl hn (by omega) rfl) (fa ?_ fz)) }
    · by_cases h0 : 0 < n
      · rw [decide_eq_true h0]
        exact hfl
      · rw [decide_eq_false h0]
        refine nil_an4 (i := 11) ?_ hfl
        obtain rfl : n = 0 := by omega
        rfl
    · exact hru
  refine (done_calls V1 V1 ht (all2_all lc_ok (decide (0 < n))) rfl (holds_all (ids_ok [17] (fa rfl fz))) w hr vs hv).mono fun e w' ⟨u, E', he, hu, H⟩ => ⟨?_, @HInv.below V1 _ _ _ _ _ _ H⟩
  rw [he]
  exact congrArg Ending.returned (@VRel.fn V1 E' (.tup [sI 17, lI 0]) u _ hu (@rel_cvF V1 E' (.tup [sI 17, lI 0]) rfl))
theorem count_err (V : Val) {a b : Int} (hG : V.I 0 = G) (hL : V.L 0 = l) (hl : ints l) (hn : l.length = n * 4) {v : Bool} (hev : ceM G l n a b = if v then 1 else 40) {x y : RV} (fx : flat x = true) (fy : flat y = true) (hx : @cvF V x = .int .i64 a) (hy : @cvF V y = .int .i64 b) : @AnsN V fCount [fellR, x, y] (.tuple #[.int .i64 0, .int .i64 (if v then 1 else 40)]) := by
  intro w hr vs hv
  let V1 : Val := (lcNm G l n a b 0).val fun _ => undef
  have hv : All2 (@Go.Ri.NVal V1 w) lcD vs := lc_args (V := V) (V1 := V1) hG hL fx fy hx hy rfl rfl rfl rfl hv
  have hvl := valid_ans V1 (G := G) (l := l) (n := n) rfl rfl hl hn
  unfold ceM at hev
  cases hva : validM G l n with
  | false =>
    rw [hva] at hev hvl
    have hv0 : v = false := by
      cases v with
      | false => rfl
      | true => exact absurd hev (by simp)
    subst hv0
    have ht : @TbOK V1 { LL := hLL, C := [⟨fValid, [fellR], bR false⟩] } := by
      letI : Val := V1
      exact { LL := fa ⟨rfl, n, Nat.succ_pos 3, hn, rfl⟩ fz, C := fa hvl fz }
    exact done_flat V1 ht lc_bad rfl rfl rfl w hr vs hv
  | true =>
    rw [hva, if_pos rfl] at hev
    rw [hva] at hvl
    have hvv := (validM_iff _ _ _).1 hva
    obtain ⟨g, rfl⟩ : ∃ g : Nat, G = g := ⟨G.toNat, by omega⟩
    have hno : ¬ (0 ≤ a ∧ a < (g : Int) ∧ 0 ≤ b ∧ b < (g : Int) ∧ a ≠ b) := fun h => by
      rw [if_pos h] at hev
      cases v <;> exact absurd hev (by decide)
    rw [if_neg hno] at hev
    have hv0 : v = true := by
      cases v with
      | true => rfl
      | false => exact absurd hev (by decide)
    subst hv0
    have hrun := all2_all (all2_all (all2_all (all2_all (all2_all lc_arg (decide (a ≥ 0))) (decide (a < (g : Int)))) (decide (b ≥ 0))) (decide (b < (g : Int)))) (decide (a = b))
    have hf : (decide (a ≥ 0) && decide (a < (g : Int)) && decide (b ≥ 0) && decide (b < (g : Int)) && !decide (a = b)) = false := by
      rw [← Bool.not_eq_true]
      simp only [Bool.and_eq_true, decide_eq_true_eq, Bool.not_eq_true', decide_eq_false_iff_not]
      exact fun h => hno ⟨h.1.1.1.1, h.1.1.1.2, h.1.1.2, h.1.2, h.2⟩
    rw [hf, Bool.false_or] at hrun
    have ht : @TbOK V1 (lcA (decide (a ≥ 0)) (decide (a < (g : Int))) (decide (b ≥ 0)) (decide (b < (g : Int))) (decide (a = b))) := by
      letI : Val := V1
      exact { T := fa (f_geq (k := .i64) (m := a) (n := 0) rfl rfl rfl) (fa (f_lss (k := .i64) (m := a) (n := (g : Int)) rfl rfl rfl) (fa (f_geq (k := .i64) (m := b) (n := 0) rfl rfl rfl) (fa (f_lss (k := .i64) (m := b) (n := (g : Int)) rfl rfl rfl) (fa (f_ieq (k := .i64) (m := a) (n := b) rfl rfl (eqdec _ _)) fz)))), LL := fa ⟨rfl, n, Nat.succ_pos 3, hn, rfl⟩ fz, C := fa hvl fz }
    exact done_flat V1 ht hrun rfl rfl rfl w hr vs hv
/-! Shut. -/
theorem bls_setv (c : Nat → Bool) (v : Bool) (i : Nat) : ∀ n, (bls c n).set i (.bool v) = bls (fun x => if x = i then v else c x) n
  | 0 => rfl
  | n + 1 => by
    show (bls c n ++ [Value.bool (c n)]).set i _ = bls _ n ++ [Value.bool (if n = i then v else c n)]
    rcases Nat.lt_trichotomy i n with h | rfl | h
    · rw [List.set_append_left _ _ (by rw [bls_len]; exact h), bls_setv c v i n, if_neg (by omega)]
    · rw [List.set_append_right _ _ (by rw [bls_len]; exact Nat.le_refl _), bls_len, Nat.sub_self, if_pos rfl, bls_congr (c := fun x => if x = i then v else c x) fun j hj => (if_neg (by omega)).symm]
      rfl
    · rw [List.set_eq_of_length_le (by rw [List.length_append, bls_len]; simp; omega), if_neg (by omega), bls_congr (c := fun x => if x = i then v else c x) fun j hj => (if_neg (by omega)).symm]
def ysI (a b k : Int) (K m : Nat) (j : Nat) : Int := if j = 20 then a else if j = 21 then b else if j = 17 then k else if j = 18 then k - 1 else if j = 8 then (K : Int) else if j = 19 then (m : Int) else 0
def hasL (L : List Nat) (j : Nat) : Bool := L.contains j
noncomputable def ysLs (l : List Value) (n i : Nat) (L : List Nat) (j : Nat) : List Value := if j = 16 then bls (hasL []) n else if j = 12 ∨ j = 14 then bls (hasL L) n else if j = 13 then bls (hasL (L ++ [i])) n else if j = 9 then intsL L else if j = 10 then intsL (L ++ [i]) else bls (leftE l (L ++ [i])) n
noncomputable def ysNm (G : Int) (l : List Value) (n a b i : Nat) (L : List Nat) : Nm := gnm G l n i (ysI a b ((mlK l n a b : Nat) - (L.length : Nat)) (mlK (wiL l (L ++ [i])) n a b) L.length) ny (ysLs l n i L)
theorem ysLL_ok (hn : l.length = n * 4) (i : Nat) (L : List Nat) (W : Nat → Value) : ∀ q, q ∈ ysLL → @LLTrue ((ysNm G l n a b i L).val W) q :=
  fa ⟨rfl, n, Nat.succ_pos 3, hn, rfl⟩ (fa ⟨rfl, n, Nat.succ_pos 0, by rw [Nat.mul_one]; exact bls_len _ n, rfl⟩ fz)
theorem ys_ids {V V' : Val} (G n a b : Int) (l C B' : List Value) (i k : RV) (mi mk : Int) (j : Nat) (hi : @cv V i = .int .i64 mi) (hk : @cv V k = .int .i64 mk) (h2 : V'.I 2 = mi) (h17 : V'.I 17 = mk) (g0 : V.I 0 = G) (g1 : V.I 1 = n) (g20 : V.I 20 = a) (g21 : V.I 21 = b) (k0 : V.L 0 = l) (k16 : V.L 16 = C) (kj : V.L j = B') (h0 : V'.I 0 = G) (h1 : V'.I 1 = n) (h20 : V'.I 20 = a) (h21 : V'.I 21 = b) (j0 : V'.L 0 = l) (j16 : V'.L 16 = C) (j12 : V'.L 12 = B') : ∀ q, q ∈ ysS i k j → okSE V V' q :=
  fa ⟨.i64, G, congrArg _ g0, h0⟩ (fa ⟨.i64, n, congrArg _ g1, h1⟩ (fa ⟨.i64, a, congrArg _ g20, h20⟩ (fa ⟨.i64, b, congrArg _ g21, h21⟩ (fa ⟨.i64, mi, hi, h2⟩ (fa ⟨.i64, mk, hk, h17⟩ (fa (okLs l j0 k0) (fa (okLs C j16 k16) (fa (okLs B' j12 kj) fz))))))))
theorem sh_stop (l : List Value) (n a b i : Nat) (h : mlK l n a b ≤ (shL l n a b i).length) : ∀ d, shL l n a b (i + d) = shL l n a b i
  | 0 => rfl
  | d + 1 => by
    have ih := sh_stop l n a b i h d
    show (if mlK (wiL l (shL l n a b (i + d) ++ [i + d])) n a b + ((shL l n a b (i + d)).length + 1) = mlK l n a b then _ else shL l n a b (i + d)) = _
    rw [ih, if_neg (by omega)]
set_option maxRecDepth 10000 in
theorem rshut_q (V : Val) (hG : V.I 0 = G) (hL : V.L 0 = l) (hl : ints l) (hn : l.length = n * 4) (hva : validM G l n = true) (haG : (a : Int) < G) (hbG : (b : Int) < G) (hab : a ≠ b) {x y : RV} (fx : flat x = true) (fy : flat y = true) (hx : @cvF V x = .int .i64 (a : Int)) (hy : @cvF V y = .int .i64 (b : Int)) (h9 : V.L 9 = intsL (shL l n a b n)) : @QNTrue V ⟨fRShut, [fellR, x, y], (ysAns (!(shL l n a b n).isEmpty)).1, (ysAns (!(shL l n a b n).isEmpty)).2⟩ := by
  intro w hr vs hv
  have hvv := (validM_iff _ _ _).1 hva
  have ha : a < 16 := by omega
  have hb : b < 16 := by omega
  have hK := mlK_le (n := n) hva ha hb hab
  have hgi := gate_in hva
  let V1 : Val := (ysNm G l n a b 0 []).val fun _ => undef
  have hv : All2 (@Go.Ri.NVal V1 w) lcD vs := lc_args (V := V) (V1 := V1) hG hL fx fy hx hy rfl rfl rfl rfl hv
  have htE : @TbOK V1 ysE := by
    letI : Val := V1
    refine { LL := ysLL_ok hn _ _ _, C := fa ?_ fz, U := qnU_ok _ (fa ?_ fz) }
    · have := count_ok V1 (G := G) (l := l) (n := n) (a := a) (b := b) rfl rfl hl hn hva haG hbG hab (x := sI 20) (y := sI 21) rfl rfl rfl rfl
      have e : ((mlK l n a b : Nat) : Int) = (mlK l n a b : Nat) - ((([] : List Nat).length : Nat) : Int) := by simp
      rw [e] at this
      exact this
    · exact qn_len (i := 12) (by show (bls (hasL []) n).length = (bls (hasL []) n).length; rfl) (all_q V1 (G := G) (l := l) (n := n) rfl rfl hn (by omega) (bls_congr fun j _ => rfl))
  refine fn_headsN (κ := Bool) (ysNm G l n a b 0 []) (fun _ => undef) ysE [] fRShut lcD (fun _ => 0) ysP (fun m k c => ∃ i, i ≤ n ∧ m = n - i ∧ (shL l n a b i).length ≤ mlK l n a b ∧ k = !(shL l n a b i).isEmpty ∧ c = ysNm G l n a b i (shL l n a b i)) htE (ysS (lI 0) (sI 17) 12) [0, 1, 2] false n ys_enter (ysNm G l n a b 0 []) (fun W' => holds_all (ys_ids G n a b l (bls (hasL []) n) (bls (hasL []) n) (lI 0) (sI 17) 0 ((mlK l n a b : Nat) - (([] : List Nat).length : Nat)) 12 rfl rfl rfl rfl rfl rfl rfl rfl rfl rfl rfl rfl rfl rfl rfl rfl rfl rfl)) ⟨0, Nat.zero_le _, rfl, Nat.zero_le _, rfl, rfl⟩ (DQ V (ysAns (!(shL l n a b n).isEmpty)).1 (ysAns (!(shL l n a b n).isEmpty)).2) ?_ w hr vs hv
  rintro w m k c ⟨i, hi, rfl, hle, rfl, rfl⟩ W
  have hlen := shL_len l n a b i
  have hlt0 := shL_lt l n a b i
  have hinv := sh_inv l n a b i
  have hout : ∀ c, (c = decide (i < n)) → (c = true → mlK l n a b ≤ (shL l n a b i).length) → StepH fRShut (fun _ => 0) ysP w.heap.size w [] (DQ V (ysAns (!(shL l n a b n).isEmpty)).1 (ysAns (!(shL l n a b n).isEmpty)).2 w) (fun k' c' => ∃ n', n' < n - i ∧ ∃ i, i ≤ n ∧ n' = n - i ∧ (shL l n a b i).length ≤ mlK l n a b ∧ k' = !(shL l n a b i).isEmpty ∧ c' = ysNm G l n a b i (shL l n a b i)) (!(shL l n a b i).isEmpty) (ysNm G l n a b i (shL l n a b i)) W := fun c hc hs => by
    have e : shL l n a b n = shL l n a b i := by
      cases hcc : c with
      | true =>
        have := sh_stop l n a b i (hs hcc) (n - i)
        rwa [show i + (n - i) = n by omega] at this
      | false =>
        have : i = n := by
          have := of_decide_eq_false (hc.symm.trans hcc)
          omega
        rw [this]
    have ht : @TbOK ((ysNm G l n a b i (shL l n a b i)).val W) (ysX c) := by
      letI V2 : Val := (ysNm G l n a b i (shL l n a b i)).val W
      refine { T := fapp (hT_ok _ _ _ (by omega) W hc.symm) ?_, LL := ysLL_ok hn _ _ _ }
      split
      · rename_i h
        have := hs h
        exact fa (f_gtr (k := .i64) (m := (mlK l n a b : Nat) - ((shL l n a b i).length : Nat)) (n := 0) rfl rfl (decide_eq_false (by omega))) fz
      · exact fz
    have hrun := all2_all (all2_all ys_out (!(shL l n a b i).isEmpty)) c
    rw [e]
    refine stepH_outQ _ [] ht V _ _ _ _ hrun (by unfold ysAns; split <;> rfl) (holds_all ?_)
    split
    · exact fa (h9.trans (by rw [e]; rfl)) fz
    · exact fz
  rcases Nat.lt_or_ge i n with hlt | hge
  · by_cases hz : mlK l n a b ≤ (shL l n a b i).length
    · exact hout true (decide_eq_true hlt).symm fun _ => hz
    · obtain ⟨L, hLd⟩ : ∃ L, L = shL l n a b i := ⟨_, rfl⟩
      have hnext : shL l n a b (i + 1) = if mlK (wiL l (shL l n a b i ++ [i])) n a b + ((shL l n a b i).length + 1) = mlK l n a b then shL l n a b i ++ [i] else shL l n a b i := rfl
      clear hout
      rw [← hLd] at hlen hlt0 hnext hinv hle hz ⊢
      have hL1 : ∀ x, x ∈ L → x < n := fun x hx => by
        have := hlt0 x hx
        omega
      have hL2 : ∀ x, x ∈ L ++ [i] → x < n := fun x hx => by
        rcases List.mem_append.1 hx with hx | hx
        · exact hL1 x hx
        · rw [List.mem_singleton.1 hx]
          exact hlt
      have hiL : L.contains i = false := by
        rw [List.contains_eq_mem]
        exact decide_eq_false fun h => absurd (hlt0 i h) (Nat.lt_irrefl _)
      have M0 := left_mf (L := L) hn hva ha hb hab hL1
      have M1 := left_mf (L := L ++ [i]) hn hva ha hb hab hL2
      have eq1 : (leftE l (L ++ [i])) = fun j => leftE l L j && decide (j ≠ i) := funext fun j => by
        show (usP l j && !(L ++ [i]).contains j) = (usP l j && !L.contains j && decide (j ≠ i))
        rw [contains_snoc, Bool.not_or, ← Bool.and_assoc, ← decide_not]
      have M1' := M1
      rw [eq1] at M1'
      obtain ⟨d1, d2, d3⟩ := mf_drop hgi.1 ha hb M0 M1'
      have hgr := (rusable_ans (gtA l i) (gtB l i) (gtF l i) (gtT l i))
      have hT0 : ∀ q, q ∈ hT true ++ [(⟨.bin .gtr, sI 17, lI 0, bR true⟩ : TE)] → @TETrue ((ysNm G l n a b i L).val W) q := by
        letI V2 : Val := (ysNm G l n a b i L).val W
        exact fapp (hT_ok _ _ _ (by omega) W (decide_eq_true hlt)) (fa (f_gtr (k := .i64) (m := (mlK l n a b : Nat) - (L.length : Nat)) (n := 0) rfl rfl (decide_eq_true (by omega))) fz)
      have hLL9 : ∀ q, q ∈ ysLL ++ [(⟨9, 1, sI 19⟩ : LNE)] → @LLTrue ((ysNm G l n a b i L).val W) q := fapp (ysLL_ok hn _ _ _) (fa ⟨rfl, L.length, Nat.succ_pos 0, by rw [Nat.mul_one]; exact intsL_len L, rfl⟩ fz)
      cases hus : usP l i with
      | false =>
        have hgr : Ans fRUsable [gateV (gtA l i) (gtB l i) (gtF l i) (gtT l i)] (.bool false) := by
          have e : (!(gtF l i == gtT l i)) = false := hus
          rwa [e] at hgr
        have d4 := d3 (by show (usP l i && _) = false; rw [hus]; rfl)
        rw [if_neg (by omega)] at hnext
        have ht : @TbOK ((ysNm G l n a b i L).val W) ysN := by
          letI V2 : Val := (ysNm G l n a b i L).val W
          exact { T := hT0, LL := hLL9, LX := hLX_ok _ _ _ hl hn hlt W, Y := fa hgr fz }
        refine stepH_to ysN [] ht _ _ rfl (!L.isEmpty) (ysNm G l n a b (i + 1) L) (all2_all ys_not (!L.isEmpty)) (fun W' => holds_all (fapp ?_ (ys_ids G n a b l (bls (hasL []) n) (bls (hasL L) n) (sI 7) (sI 17) ((i : Int) + 1) ((mlK l n a b : Nat) - (L.length : Nat)) 12 rfl rfl rfl rfl rfl rfl rfl rfl rfl rfl rfl rfl rfl rfl rfl rfl rfl rfl))) ⟨n - (i + 1), by omega, i + 1, hlt, rfl, by rw [hnext]; exact hle, by rw [hnext], by rw [hnext]⟩
        unfold ysO
        rw [if_neg (by decide)]
        split
        · exact fa (okLs (intsL L) rfl rfl) fz
        · exact fz
      | true =>
        have hgr : Ans fRUsable [gateV (gtA l i) (gtB l i) (gtF l i) (gtT l i)] (.bool true) := by
          have e : (!(gtF l i == gtT l i)) = true := hus
          rwa [e] at hgr
        have ht : ∀ q, decide (mlK (wiL l (L ++ [i])) n a b + (L.length + 1) = mlK l n a b) = q → @TbOK ((ysNm G l n a b i L).val W) (ysT q) := fun q hq => by
          letI V2 : Val := (ysNm G l n a b i L).val W
          have hlss : TETrue ⟨.bin .lss, sI 8, sI 17, bR q⟩ := f_lss (k := .i64) (m := (mlK (wiL l (L ++ [i])) n a b : Nat)) (n := (mlK l n a b : Nat) - (L.length : Nat)) rfl rfl (by rw [← hq]; exact decide_eq_decide.2 (by omega))
          have hW1 : LWTrue ⟨12, 2, bR true, 13⟩ := by
            refine ⟨show (0 : Int) ≤ (i : Int) by omega, ?_, ?_⟩
            · show ((i : Int)).toNat < (bls (hasL L) n).length
              rw [Int.toNat_natCast, bls_len]
              exact hlt
            · show bls (hasL (L ++ [i])) n = (bls (hasL L) n).set ((i : Int)).toNat (.bool true)
              rw [Int.toNat_natCast, bls_setv]
              refine bls_congr fun j _ => ?_
              unfold hasL
              rw [contains_snoc]
              by_cases h : j = i
              · rw [if_pos h, decide_eq_true h, Bool.or_true]
              · rw [if_neg h, decide_eq_false h, Bool.or_false]
          have hW2 : LWTrue ⟨13, 2, bR false, 14⟩ := by
            refine ⟨show (0 : Int) ≤ (i : Int) by omega, ?_, ?_⟩
            · show ((i : Int)).toNat < (bls (hasL (L ++ [i])) n).length
              rw [Int.toNat_natCast, bls_len]
              exact hlt
            · show bls (hasL L) n = (bls (hasL (L ++ [i])) n).set ((i : Int)).toNat (.bool false)
              rw [Int.toNat_natCast, bls_setv]
              refine bls_congr fun j _ => ?_
              unfold hasL
              rw [contains_snoc]
              by_cases h : j = i
              · rw [if_pos h, h, hiL]
              · rw [if_neg h, decide_eq_false h, Bool.or_false]
          have hru := ruse_q V2 (G := G) (l := l) (n := n) rfl rfl hl hn (by omega) (hasL (L ++ [i])) (i12 := 13) rfl (show bls (leftE l (L ++ [i])) n = bls (usB l (hasL (L ++ [i]))) n from rfl)
          rw [decide_eq_true (show 0 < n by omega)] at hru
          obtain ⟨g, hg⟩ : ∃ g : Nat, G = g := ⟨G.toNat, by omega⟩
          have hfl := flow_ans V2 (g := g) (l := l) (n := n) (e := leftE l (L ++ [i])) (a := a) (b := b) hg rfl hl hn (hg ▸ hva) (by omega) (by omega) hab (x := sI 20) (y := sI 21) rfl rfl rfl rfl (q := 11) rfl M1
          refine { T := fapp (fapp (hT_ok _ _ _ (by omega) W (decide_eq_true hlt)) (fa (hT0 _ (by simp [hT])) (fa hlss fz))) ?_, LL := hLL9, LX := hLX_ok _ _ _ hl hn hlt W, Y := fa hgr fz, LW := fa hW1 ?_, LA := ?_, C := fa hfl fz, U := lenU_ok ?_ (qnU_ok _ (fa hru fz)) }
          · split
            · exact fa (f_sub (m := (mlK l n a b : Nat) - (L.length : Nat)) (n := 1) (r := (mlK l n a b : Nat) - (L.length : Nat) - 1) rfl rfl rfl rfl rfl (by omega) (by omega)) fz
            · exact fz
          · cases q
            · exact fz
            · refine fa ⟨?_, ?_, ?_⟩ fz
              · show intsL (L ++ [i]) = intsL L ++ [.int .i64 (i : Int)]
                unfold intsL
                rw [List.map_append]
                rfl
              · show (intsL (L ++ [i])).length ≤ _
                rw [intsL_len, List.length_append]
                simp only [List.length_cons, List.length_nil]
                omega
              · intro v hv
                obtain ⟨q, _, rfl⟩ := List.mem_map.1 hv
                rfl
          · show (bls (hasL (L ++ [i])) n).length = (bls (hasL []) n).length
            rw [bls_len, bls_len]
          · split
            · exact fz
            · exact fa hW2 fz
        by_cases hq : mlK (wiL l (L ++ [i])) n a b + (L.length + 1) = mlK l n a b
        · rw [if_pos hq] at hnext
          have hlen2 : (L ++ [i]).length = L.length + 1 := by rw [List.length_append]; rfl
          have hne : (!(L ++ [i]).isEmpty) = (!L.isEmpty || true) := by
            rw [Bool.or_true]
            cases L <;> rfl
          refine stepH_to (ysT true) [] (ht true (decide_eq_true hq)) _ _ ?_ (!(L ++ [i]).isEmpty) (ysNm G l n a b (i + 1) (L ++ [i])) (by rw [hne]; exact all2_all (all2_all ys_round (!L.isEmpty)) true) (fun W' => holds_all (fapp ?_ (ys_ids G n a b l (bls (hasL []) n) (bls (hasL (L ++ [i])) n) (sI 7) (sI 18) ((i : Int) + 1) ((mlK l n a b : Nat) - (L.length : Nat) - 1) 13 rfl rfl rfl ?_ rfl rfl rfl rfl rfl rfl rfl rfl rfl rfl rfl rfl rfl rfl))) ⟨n - (i + 1), by omega, i + 1, hlt, rfl, by rw [hnext, hlen2]; omega, by rw [hnext], by rw [hnext]⟩
          · rfl
          · unfold ysO
            rw [if_pos rfl]
            cases L with
            | nil => exact fa rfl fz
            | cons _ _ => exact fa (okLs (intsL (_ ++ [i])) rfl rfl) fz
          · show (mlK l n a b : Nat) - (((L ++ [i]).length : Nat) : Int) = _
            rw [hlen2]
            omega
        · rw [if_neg hq] at hnext
          refine stepH_to (ysT false) [] (ht false (decide_eq_false hq)) _ _ ?_ (!L.isEmpty) (ysNm G l n a b (i + 1) L) (by have := all2_all (all2_all ys_round (!L.isEmpty)) false; rwa [Bool.or_false] at this) (fun W' => holds_all (fapp ?_ (ys_ids G n a b l (bls (hasL []) n) (bls (hasL L) n) (sI 7) (sI 17) ((i : Int) + 1) ((mlK l n a b : Nat) - (L.length : Nat)) 14 rfl rfl rfl rfl rfl rfl rfl rfl rfl rfl rfl rfl rfl rfl rfl rfl rfl rfl))) ⟨n - (i + 1), by omega, i + 1, hlt, rfl, by rw [hnext]; exact hle, by rw [hnext], by rw [hnext]⟩
          · rfl
          · unfold ysO
            rw [if_neg (by decide)]
            cases L with
            | nil => exact fz
            | cons _ _ => exact fa (okLs (intsL _) rfl rfl) fz
  · exact hout false (decide_eq_false (by omega)).symm (fun h => by cases h)
end
end Go.Proofs.Z

namespace Go.Proofs.Z
open Go Go.RowKit Go.Proofs Go.Ri Go.Proofs.Z.Fa
/-! The law FellShuts. -/
abbrev fFellShuts : Nat := 10
def fsT (b : Bool) : List TE := [⟨.bin .gtr, sI 1, lI 200, bR b⟩]
noncomputable def fsE (ne : Bool) : Tb := { X := saneX, T := fsT false ++ if ne then [] else [⟨.ieq, lI 0, sI 17, bR true⟩], LL := hLL ++ if ne then [⟨72, 1, sI 17⟩] else [], C := ⟨fCount, lcD, .tup [sI 17, lI 0]⟩ :: (if ne then [⟨fInts, [.slN 0 80 1, .slN 0 9 1], bR true⟩] else []), U := qnU [⟨fShut, lcD, (shAns ne).1, (shAns ne).2⟩, ⟨fRShut, lcD, (ysAns ne).1, (ysAns ne).2⟩, ⟨fLanes, lcD, (lnAns ne).1, (lnAns ne).2⟩] }
set_option maxRecDepth 100000 in
theorem fs_ok : (all2 fun ne => doneQ (fsE ne) [] fFellShuts lcD [] [] (bR true) []) = true := by kernel_rfl
def fsR (v : Bool) : RV := if v then lI 1 else lI 40
noncomputable def fsX (v : Bool) : Tb := { X := saneX, T := fsT false, LL := hLL, C := [⟨fCount, lcD, .tup [lI 0, fsR v]⟩, ⟨fShut, lcD, .tup [nilR, fsR v]⟩, ⟨fRShut, lcD, .tup [nilR, fsR v]⟩, ⟨fLanes, lcD, .tup [nilR, fsR v]⟩] }
set_option maxRecDepth 100000 in
theorem fs_err : (all2 fun v => doneQ (fsX v) [] fFellShuts lcD [] [] (bR true) []) = true := by kernel_rfl
set_option maxRecDepth 100000 in
theorem fs_big : doneQ { X := saneX, T := fsT true, LL := hLL } [] fFellShuts lcD [] [] (bR true) [] = true := by kernel_rfl
noncomputable def fsNm (G : Int) (l : List Value) (n : Nat) (a b K : Int) (S T : List Value) : Nm := ⟨fun i => if i = 0 then G else if i = 1 then (n : Int) else if i = 20 then a else if i = 21 then b else K, ny, fun _ => ⟨#[]⟩, fun i => if i = 0 then l else if i = 72 then T else S⟩
theorem ints_ans2 (V : Val) (l : List Value) (hl : ints l) (hb : l.length ≤ 1000000) {i j : Nat} (hi : V.L i = l) (hj : V.L j = l) : @AnsN V fInts [.slN 0 i 1, .slN 0 j 1] (.bool true) := fun w hr vs hv => by
  refine ints_ans V l hl l.length rfl hb hi w hr vs ?_
  cases hv with
  | cons h1 h2 => cases h2 with
    | cons h2 h3 =>
      cases h3
      exact .cons h1 (.cons (lst_nval (V := V) (V' := V) (i := j) (j := i) (hj.trans hi.symm) h2) .nil)
theorem shuts_all (G : Int) (l : List Value) (n : Nat) (a b : Int) (hl : ints l) (hn : l.length = n * 4) (w : World) (hr : RoIn ro w) (vs : List Value) (hv : ∀ K S T, All2 (@Go.Ri.NVal ((fsNm G l n a b K S T).val fun _ => undef) w) lcD vs) : Calls Tryz.prog fFellShuts vs.toArray w (fun e w' => e = .returned (.bool true) ∧ Below w.heap.size w w') := by
  have hLL : ∀ K S T, ∀ e, e ∈ hLL → @LLTrue ((fsNm G l n a b K S T).val fun _ => undef) e := fun K S T => fa ⟨rfl, n, Nat.succ_pos 3, hn, rfl⟩ fz
  have hgtr : ∀ K S T q, decide ((n : Int) > 200) = q → ∀ e, e ∈ fsT q → @TETrue ((fsNm G l n a b K S T).val fun _ => undef) e := fun K S T q h => by
    letI : Val := (fsNm G l n a b K S T).val fun _ => undef
    exact fa (f_gtr (k := .i64) (m := (n : Int)) (n := 200) rfl rfl h) fz
  by_cases hbig : (n : Int) > 200
  · have ht : @TbOK ((fsNm G l n a b 0 [] []).val fun _ => undef) { X := saneX, T := fsT true, LL := Z.hLL } := by
      letI : Val := (fsNm G l n a b 0 [] []).val fun _ => undef
      exact { X := saneX_true, T := hgtr _ _ _ _ (decide_eq_true hbig), LL := hLL _ _ _ }
    exact done_flat _ ht fs_big rfl rfl rfl w hr vs (hv _ _ _)
  · by_cases hce : ceM G l n a b = 0
    · obtain ⟨hva, h0⟩ : validM G l n = true ∧ (0 ≤ a ∧ a < G ∧ 0 ≤ b ∧ b < G ∧ a ≠ b) := by
        unfold ceM at hce
        cases hva : validM G l n with
        | false => rw [hva] at hce; exact absurd hce (by simp)
        | true =>
          rw [hva, if_pos rfl] at hce
          refine ⟨rfl, ?_⟩
          by_cases h : 0 ≤ a ∧ a < G ∧ 0 ≤ b ∧ b < G ∧ a ≠ b
          · exact h
          · rw [if_neg h] at hce
            exact absurd hce (by decide)
      obtain ⟨x, rfl⟩ : ∃ x : Nat, a = x := ⟨a.toNat, by omega⟩
      obtain ⟨y, rfl⟩ : ∃ y : Nat, b = y := ⟨b.toNat, by omega⟩
      have hvv := (validM_iff _ _ _).1 hva
      have hxy : x ≠ y := by omega
      obtain ⟨S, hS⟩ : ∃ S, S = shL l n x y n := ⟨_, rfl⟩
      obtain ⟨T, hT⟩ : ∃ T, T = lanesL l n x y := ⟨_, rfl⟩
      have hSl : S.length = mlK l n x y := by rw [hS]; exact sh_len hn hva (by omega) (by omega) hxy
      have hTl : T.length = mlK l n x y := by rw [hT]; exact lnL_len _
      have hK := mlK_le (n := n) hva (a := x) (b := y) (by omega) (by omega) hxy
      let V1 : Val := (fsNm G l n x y (mlK l n x y : Nat) (intsL S) (lanesV T)).val fun _ => undef
      have hST : (!T.isEmpty) = (!S.isEmpty) := by
        cases S with
        | nil => cases T with
          | nil => rfl
          | cons _ _ => rw [← hSl] at hTl; cases hTl
        | cons _ _ => cases T with
          | nil => rw [← hTl] at hSl; cases hSl
          | cons _ _ => rfl
      have h1 := shut_q V1 (G := G) (l := l) (n := n) (a := x) (b := y) rfl rfl hl hn hva h0.2.1 h0.2.2.2.1 hxy (x := sI 20) (y := sI 21) rfl rfl rfl rfl (by rw [← hS]; rfl)
      rw [← hS] at h1
      have e1 : (!(Nat.beq S.length 0)) = !S.isEmpty := by cases S <;> rfl
      rw [e1] at h1
      have h2 := rshut_q V1 (G := G) (l := l) (n := n) (a := x) (b := y) rfl rfl hl hn hva h0.2.1 h0.2.2.2.1 hxy (x := sI 20) (y := sI 21) rfl rfl rfl rfl (by rw [← hS]; rfl)
      rw [← hS] at h2
      have h3 := lanes_q V1 (G := G) (l := l) (n := n) (a := x) (b := y) rfl rfl hl hn hva h0.2.1 h0.2.2.2.1 hxy (x := sI 20) (y := sI 21) rfl rfl rfl rfl (by rw [← hT]; rfl)
      rw [← hT, hST] at h3
      have h4 := count_ok V1 (G := G) (l := l) (n := n) (a := x) (b := y) rfl rfl hl hn hva h0.2.1 h0.2.2.2.1 hxy (x := sI 20) (y := sI 21) rfl rfl rfl rfl
      have ht : @TbOK V1 (fsE (!S.isEmpty)) := by
        letI : Val := V1
        refine { X := saneX_true, T := fapp (hgtr _ _ _ _ (decide_eq_false hbig)) ?_, LL := fapp (hLL _ _ _) ?_, C := fa h4 ?_, U := qnU_ok _ (fa h1 (fa h2 (fa h3 fz))) }
        · split
          · exact fz
          · rename_i h
            have : S = [] := by
              cases S with
              | nil => rfl
              | cons _ _ => exact absurd rfl h
            rw [this] at hSl
            have h0 : mlK l n x y = 0 := hSl.symm
            exact fa (f_ieq (k := .i64) (m := 0) (n := (mlK l n x y : Nat)) rfl rfl (by rw [eqdec]; exact decide_eq_true (by omega))) fz
        · split
          · exact fa ⟨rfl, mlK l n x y, Nat.succ_pos 0, by rw [Nat.mul_one]; show (lanesV T).length = _; rw [← hTl]; exact List.length_map _, rfl⟩ fz
          · exact fz
        · split
          · exact fa (ints_ans2 V1 (intsL S) (intsL_ints S) (by rw [intsL_len]; omega) rfl rfl) fz
          · exact fz
      exact done_flat V1 ht (all2_all fs_ok (!S.isEmpty)) rfl rfl rfl w hr vs (hv _ _ _)
    · obtain ⟨v, hev⟩ : ∃ v : Bool, ceM G l n a b = if v then 1 else 40 := by
        unfold ceM at hce ⊢
        cases hva : validM G l n with
        | false => exact ⟨false, by simp⟩
        | true =>
          rw [hva, if_pos rfl] at hce
          refine ⟨true, ?_⟩
          rw [if_pos rfl]
          split
          · rename_i h
            rw [if_pos h] at hce
            exact absurd rfl hce
          · rfl
      let V1 : Val := (fsNm G l n a b 0 [] []).val fun _ => undef
      have h1 := shut_err V1 (G := G) (l := l) (n := n) (a := a) (b := b) rfl rfl hl hn rfl v hev (x := sI 20) (y := sI 21) rfl rfl rfl rfl
      have h3 := lanes_err V1 (G := G) (l := l) (n := n) (a := a) (b := b) rfl rfl hl hn rfl v hev (x := sI 20) (y := sI 21) rfl rfl rfl rfl
      have h4 := count_err V1 (G := G) (l := l) (n := n) (a := a) (b := b) rfl rfl hl hn hev (x := sI 20) (y := sI 21) rfl rfl rfl rfl
      have h2 : @AnsN V1 fRShut lcD (.tuple #[.slice none 0 0, .int .i64 (if v then 1 else 40)]) := fun w hr vs hv => by
        have ht : @TbOK V1 { LL := Z.hLL, C := [⟨fCount, lcD, .tup [lI 0, if v then lI 1 else lI 40]⟩] } := by
          letI : Val := V1
          refine { LL := hLL _ _ _, C := fa ?_ fz }
          cases v <;> exact h4
        refine done_flat V1 ht (all2_all ys_err v) ?_ ?_ ?_ w hr vs hv
        · cases v <;> rfl
        · cases v <;> rfl
        · cases v <;> rfl
      rw [hev] at h1 h3
      have ht : @TbOK V1 (fsX v) := by
        letI : Val := V1
        refine { X := saneX_true, T := hgtr _ _ _ _ (decide_eq_false hbig), LL := hLL _ _ _, C := ?_ }
        cases v <;> exact fa h4 (fa h1 (fa h2 (fa h3 fz)))
      exact done_flat V1 ht (all2_all fs_err v) rfl rfl rfl w hr vs (hv _ _ _)
end Go.Proofs.Z
