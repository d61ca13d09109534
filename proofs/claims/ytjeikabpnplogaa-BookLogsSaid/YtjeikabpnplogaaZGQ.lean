/- A part of the proofs that the laws of layer eight answer true for every input. -/
import Derived.Test.YtjeikabpnplogaaZGN
import Derived.Test.YtjeikabpnplogaaZGK22
namespace Go.Proofs.Z
open Go Go.RowKit Go.Proofs Go.Ri Go.Proofs.Z.Fa
/-! The law BookLogs: its loop fills up with zero sticks. -/
def zSt : Nat → Int := fun _ => 0
theorem stksL_app (a b : List (Nat → Int)) : stksL (a ++ b) = stksL a ++ stksL b := List.flatMap_append
theorem stksL_single (s : Nat → Int) : stksL [s] = stCs s := by
  show stCs s ++ [] = _
  rw [List.append_nil]
theorem rowM_stks (sd : Int) (p : Nat) : ∀ j, rowM sd p j = stksL ((List.range j).map fun i => stkM sd (p : Nat) (i : Nat))
  | 0 => rfl
  | j + 1 => by
    show rowM sd p j ++ stCs (stkM sd p j) = _
    rw [rowM_stks sd p j, List.range_succ, List.map_append, stksL_app]
    rw [List.map_singleton, stksL_single]
theorem stksL_one : ∀ (sts : List (Nat → Int)) v, v ∈ stksL sts → v.oneCell' = true := by
  intro sts v hv
  obtain ⟨s, _, h⟩ := List.mem_flatMap.1 hv
  exact stCs_one v h
theorem stksL_take : ∀ (sts : List (Nat → Int)) (k : Nat), (stksL sts).take (k * 32) = stksL (sts.take k)
  | [], k => by
    show ([] : List Value).take _ = stksL (([] : List (Nat → Int)).take k)
    rw [List.take_nil, List.take_nil]
    rfl
  | s :: sts, 0 => by
    rw [Nat.zero_mul, List.take_zero, List.take_zero]
    rfl
  | s :: sts, k + 1 => by
    show (stCs s ++ stksL sts).take ((k + 1) * 32) = stCs s ++ stksL (sts.take k)
    rw [← stksL_take sts k, show (k + 1) * 32 = (stCs s).length + k * 32 by rw [stCs_len]; omega, List.take_length_add_append]
theorem zs_cs (V : Val) : zsK.map (@cv V) = stCs zSt := rfl
section
variable [Val]
/-- An entry of the hook, from the lists. -/
theorem ck_true {sts : List (Nat → Int)} {par : Int} {es : List Ent} (hes : ∀ e, e ∈ es → EntOK e) (hn : es.length ≤ 100000) {i j : Nat} {a : RV} (hi : Val.L i = stksL sts) (hj : Val.L j = entsL es) (ha : ∀ w v, Go.Ri.NVal w a v → v = .int .i64 par) (h0 : Val.I 770 = (ckM sts par es).1) (h1 : Val.I 771 = (ckM sts par es).2) : CkTrue ⟨i, j, a, .tup [sI 770, sI 771]⟩ := by
  intro q
  have h := ckLog_ans q (sts := sts) (par := par) hes hn (V := ‹Val›) (e1 := 0) (e2 := 0) (a := a) hi hj ha
  have e : cvF (.tup [sI 770, sI 771]) = ckV (ckM sts par es) := by
    show tup2 (.int .i64 (Val.I 770)) (.int .i64 (Val.I 771)) = _
    rw [h0, h1]
    rfl
  show AnsN (klF q) [.slN 0 i 32, a, .slN 0 j 20] (cvF (.tup [sI 770, sI 771]))
  rw [e]
  exact h
end
/-- Which of the three the entries are. -/
structure LCs (l : Nat) (es : List Ent) : Prop where
  l3 : l < 3
  nil : l ≠ 2 → es = []
  ok : ∀ e, e ∈ es → EntOK e
  len : es.length ≤ 1000
def lpX (par many c a b : Int) (m : Nat) : Int := if m = 631 then par else if m = 632 then many else if m = 750 then c else if m = 760 then 0 else if m = 770 then a else b
def lpZ (l19 l50 l51 l52 : List Value) (k : Nat) : List Value := if k = 19 then l19 else if k = 50 then l50 else if k = 51 then l51 else if k = 52 then l52 else []
def lpNm (par many c a b : Int) (l19 l50 l51 l52 : List Value) : Nm := wdNm 0 0 0 0 0 0 [] (lpX par many c a b) (fun _ => ⟨#[]⟩) (lpZ l19 l50 l51 l52)
section
variable {par many c a b : Int} {l19 l50 l51 l52 : List Value} {W : Nat → Value}
theorem lpI (m : Nat) (h : 606 < m) : ((lpNm par many c a b l19 l50 l51 l52).val W).I m = lpX par many c a b m := (show wdI 0 0 0 0 0 0 (lpX par many c a b) m = lpX par many c a b m from wdI_x (.inr h))
theorem lp631 : @cv ((lpNm par many c a b l19 l50 l51 l52).val W) (sI 631) = .int .i64 par := congrArg (Value.int .i64) ((lpI 631 (by omega)).trans (by simp [lpX]))
theorem lp632 : @cv ((lpNm par many c a b l19 l50 l51 l52).val W) (sI 632) = .int .i64 many := congrArg (Value.int .i64) ((lpI 632 (by omega)).trans (by simp [lpX]))
theorem lp750 : @cv ((lpNm par many c a b l19 l50 l51 l52).val W) (sI 750) = .int .i64 c := congrArg (Value.int .i64) ((lpI 750 (by omega)).trans (by simp [lpX]))
theorem lp_I631 : ((lpNm par many c a b l19 l50 l51 l52).val W).I 631 = par := (lpI 631 (by omega)).trans (by simp [lpX])
theorem lp_I632 : ((lpNm par many c a b l19 l50 l51 l52).val W).I 632 = many := (lpI 632 (by omega)).trans (by simp [lpX])
theorem lp_I760 : ((lpNm par many c a b l19 l50 l51 l52).val W).I 760 = 0 := (lpI 760 (by omega)).trans (by simp [lpX])
theorem lp_I770 : ((lpNm par many c a b l19 l50 l51 l52).val W).I 770 = a := (lpI 770 (by omega)).trans (by simp [lpX])
theorem lp_I771 : ((lpNm par many c a b l19 l50 l51 l52).val W).I 771 = b := (lpI 771 (by omega)).trans (by simp [lpX])
end
/-- What is known at the loop. -/
structure LpG (par : Int) (many : Nat) (es : List Ent) (sts : List (Nat → Int)) (c a b : Int) (l19 l50 l51 l52 : List Value) : Prop where
  c : c = (sts.length : Nat)
  a : a = (ckM (sts.take many) par es).1
  b : b = (ckM (sts.take many) par es).2
  h19 : l19 = entsL es
  h50 : l50 = stksL sts
  h51 : l51 = stksL (sts ++ [zSt])
  h52 : l52 = stksL (sts.take many)
theorem lpG_ex (par : Int) (many : Nat) (es : List Ent) (sts : List (Nat → Int)) : ∃ c a b l19 l50 l51 l52, LpG par many es sts c a b l19 l50 l51 l52 := ⟨_, _, _, _, _, _, _, ⟨rfl, rfl, rfl, rfl, rfl, rfl, rfl⟩⟩
/-- A state of the loop. -/
def LpN (par : Int) (many : Nat) (es : List Ent) (sts : List (Nat → Int)) (nm : Nm) : Prop := ∃ c a b l19 l50 l51 l52, nm = lpNm par many c a b l19 l50 l51 l52 ∧ LpG par many es sts c a b l19 l50 l51 l52
theorem blS_ok {V V' : Val} {l : Nat} {par : RV} {p m : Int} {L : List SE} (hp : @cv V par = .int .i64 p) (hp' : V'.I 631 = p) (hm : @cv V (sI 632) = .int .i64 m) (hm' : V'.I 632 = m) (h19 : V'.L 19 = V.L 19) (hL : ∀ e, e ∈ L → okSE V V' e) : ∀ e, e ∈ blS l par L → okSE V V' e := by
  refine fapp (fa ⟨.i64, p, hp, hp'⟩ (fa ⟨.i64, m, hm, hm'⟩ fz)) (fapp ?_ hL)
  split
  · exact fa h19 fz
  · exact fz
theorem lp_step {l : Nat} {par : Int} {many : Nat} {es : List Ent} (hl : LCs l es) (hm : many ≤ 70) (w : World) (n : Nat) (nb : Bool) (nm : Nm) (h : ∃ sts, LpN par many es sts nm ∧ sts.length ≤ 100 ∧ n = many - sts.length ∧ (nb = false → sts = [] ∧ 0 < many)) (W : Nat → Value) :
    StepH fBookLogs (fun _ => 0) (fun nb => blP l nb) w.heap.size w [] (DF (.bool true) w) (fun k' c' => ∃ n', n' < n ∧ ∃ sts, LpN par many es sts c' ∧ sts.length ≤ 100 ∧ n' = many - sts.length ∧ (k' = false → sts = [] ∧ 0 < many)) nb nm W := by
  obtain ⟨sts, ⟨c, a, b, l19, l50, l51, l52, rfl, hG⟩, hlen, rfl, hnb⟩ := h
  obtain ⟨gc, ga, gb, g19, g50, g51, g52⟩ := hG
  have q632 := lp632 (par := par) (many := (many : Nat)) (c := c) (a := a) (b := b) (l19 := l19) (l50 := l50) (l51 := l51) (l52 := l52) (W := W)
  have q631 := lp631 (par := par) (many := (many : Nat)) (c := c) (a := a) (b := b) (l19 := l19) (l50 := l50) (l51 := l51) (l52 := l52) (W := W)
  have q750 : @cv ((lpNm par (many : Nat) c a b l19 l50 l51 l52).val W) (sI 750) = .int .i64 (sts.length : Nat) := lp750.trans (congrArg (Value.int .i64) gc)
  have hLL : @LLTrue ((lpNm par (many : Nat) c a b l19 l50 l51 l52).val W) ⟨50, 32, sI 750⟩ := ⟨rfl, sts.length, Nat.succ_pos 31, by show l50.length = _; rw [g50, stksL_len], q750⟩
  rcases Nat.lt_or_ge sts.length many with hlt | hge
  · obtain ⟨c', a', b', m19, m50, m51, m52, hG'⟩ := lpG_ex par many es (sts ++ [zSt])
    have hN' : LpN par many es (sts ++ [zSt]) (lpNm par (many : Nat) c' a' b' m19 m50 m51 m52) := ⟨_, _, _, _, _, _, _, rfl, hG'⟩
    obtain ⟨_, _, _, e19, e50, _, _⟩ := hG'
    have hl1 : (sts ++ [zSt]).length = sts.length + 1 := by rw [List.length_append]; rfl
    cases nb
    · have h0 : sts = [] := (hnb rfl).1
      subst h0
      have ht : @TbOK ((lpNm par (many : Nat) c a b l19 l50 l51 l52).val W) (lpA false) := by
        have t := @f_lss ((lpNm par (many : Nat) c a b l19 l50 l51 l52).val W) (lI 0) (sI 632) .i64 0 (many : Nat) true rfl q632 (decide_eq_true (by omega))
        letI : Val := (lpNm par (many : Nat) c a b l19 l50 l51 l52).val W
        exact { T := fa t fz }
      refine stepH_to (lpA false) [] ht (blS l (sI 631) [.new 50 zsK]) (lpR l false) rfl true _ (allU_lt lp_first l hl.l3) (fun W' => holds_all (blS_ok q631 lp_I631 q632 lp_I632 (e19.trans g19.symm) (fa ?_ fz))) ⟨many - ([] ++ [zSt]).length, by rw [hl1]; omega, _, hN', by rw [hl1]; omega, rfl, fun h => by cases h⟩
      show m50 = _
      rw [e50, zs_cs]
      exact stksL_single zSt
    · have ht : @TbOK ((lpNm par (many : Nat) c a b l19 l50 l51 l52).val W) (lpA true) := by
        have t := @f_lss ((lpNm par (many : Nat) c a b l19 l50 l51 l52).val W) (sI 750) (sI 632) .i64 (sts.length : Nat) (many : Nat) true q750 q632 (decide_eq_true (by omega))
        have hLA : @LATrue ((lpNm par (many : Nat) c a b l19 l50 l51 l52).val W) ⟨50, zsK, 51⟩ := by
          refine ⟨?_, ?_, fun v hv => ?_⟩
          · show l51 = l50 ++ zsK.map (@cv ((lpNm par (many : Nat) c a b l19 l50 l51 l52).val W))
            rw [g51, g50, stksL_app, zs_cs, stksL_single]
          · show l51.length ≤ _
            rw [g51, stksL_len, hl1]
            omega
          · have hv : v ∈ l50 := hv
            rw [g50] at hv
            exact stksL_one sts v hv
        letI : Val := (lpNm par (many : Nat) c a b l19 l50 l51 l52).val W
        exact { T := fa t fz, LL := fa hLL fz, LA := fa hLA fz }
      exact stepH_to (lpA true) [] ht (blS l (sI 631) [.lst 50 51]) (lpR l true) rfl true _ (allU_lt lp_again l hl.l3) (fun W' => holds_all (blS_ok q631 lp_I631 q632 lp_I632 (e19.trans g19.symm) (fa (e50.trans g51.symm) fz))) ⟨many - (sts ++ [zSt]).length, by rw [hl1]; omega, _, hN', by rw [hl1]; omega, rfl, fun h => by cases h⟩
  · have hn1 : nb = true := by
      cases nb
      · have h0 := hnb rfl
        rw [h0.1] at hge
        have hge : many ≤ 0 := hge
        omega
      · rfl
    subst hn1
    have ht : @TbOK ((lpNm par (many : Nat) c a b l19 l50 l51 l52).val W) (lpE l) := by
      have t := @f_lss ((lpNm par (many : Nat) c a b l19 l50 l51 l52).val W) (sI 750) (sI 632) .i64 (sts.length : Nat) (many : Nat) false q750 q632 (decide_eq_false (by omega))
      have hLP : @LPTrue ((lpNm par (many : Nat) c a b l19 l50 l51 l52).val W) ⟨50, 32, none, some (sI 632), 52, 760⟩ := by
        refine ⟨sts.length, 0, many, ?_, rfl, ⟨rfl, .i64, q632⟩, Nat.zero_le _, hge, ?_, ?_⟩
        · show l50.length = _
          rw [g50, stksL_len]
        · have := lp_I760 (par := par) (many := (many : Nat)) (c := c) (a := a) (b := b) (l19 := l19) (l50 := l50) (l51 := l51) (l52 := l52) (W := W)
          show (((lpNm par (many : Nat) c a b l19 l50 l51 l52).val W).I 760).toNat = 0
          rw [this]
          rfl
        · show l52 = (l50.drop (0 * 32)).take ((many - 0) * 32)
          rw [g52, g50, Nat.zero_mul, List.drop_zero, Nat.sub_zero, stksL_take]
      have hck : @CkTrue ((lpNm par (many : Nat) c a b l19 l50 l51 l52).val W) ⟨52, lL l, sI 631, .tup [sI 770, sI 771]⟩ := by
        refine @ck_true ((lpNm par (many : Nat) c a b l19 l50 l51 l52).val W) (sts.take many) par es hl.ok (Nat.le_trans hl.len (by omega)) 52 (lL l) (sI 631) g52 ?_ (fun w v h => (show _ = _ from h).trans q631) (lp_I770.trans ga) (lp_I771.trans gb)
        by_cases h2 : l = 2
        · subst h2
          exact g19
        · have h3 := hl.l3
          rw [hl.nil h2]
          have h01 : l = 0 ∨ l = 1 := by omega
          rcases h01 with rfl | rfl
          · rfl
          · rfl
      have hU : @UOK ((lpNm par (many : Nat) c a b l19 l50 l51 l52).val W) (ckU 98 (blC 52 l (sI 631))) := @ckU_ok ((lpNm par (many : Nat) c a b l19 l50 l51 l52).val W) 98 rfl _ (fa hck fz)
      letI : Val := (lpNm par (many : Nat) c a b l19 l50 l51 l52).val W
      exact { T := fa t fz, LL := fa hLL fz, LP := fa hLP fz, U := hU }
    exact stepH_outF (lpE l) [] ht (bR true) (allU_lt lp_end l hl.l3) rfl
end Go.Proofs.Z

namespace Go.Proofs.Z
open Go Go.RowKit Go.Proofs Go.Ri Go.Proofs.Z.Fa
/-! The law BookLogs: its names, and what is called. -/
theorem pkM_nil (ix : Nat → Int) : ∀ k, pkM [] ix k = []
  | 0 => rfl
  | k + 1 => by
    unfold pkM
    have h : Nat.beq (pkC [] (ix k)) 2 = false := by
      unfold pkC
      by_cases h0 : ix k < 0
      · rw [if_pos h0]
        rfl
      · rw [if_neg h0, if_pos (show (([] : List Ent).length : Int) ≤ ix k by show (0 : Int) ≤ _; omega)]
        rfl
    rw [if_neg (by rw [h]; exact Bool.false_ne_true)]
    exact pkM_nil ix k
/-- Which of the three: no items, nothing picked, something. -/
def Lc (l n : Nat) (es : List Ent) : Prop := (l = 0 ∧ n = 0) ∨ (l = 1 ∧ n ≠ 0 ∧ es = []) ∨ (l = 2 ∧ n ≠ 0 ∧ es ≠ [])
theorem lc_ex (n : Nat) (es : List Ent) : ∃ l, Lc l n es := by
  by_cases h0 : n = 0
  · exact ⟨0, .inl ⟨rfl, h0⟩⟩
  · by_cases h1 : es = []
    · exact ⟨1, .inr (.inl ⟨rfl, h0, h1⟩)⟩
    · exact ⟨2, .inr (.inr ⟨rfl, h0, h1⟩)⟩
theorem lc_cs {l n d : Nat} {sd : Int} {it : Nat → Itm} {ix : Nat → Int} {es : List Ent} (h : Lc l n es) (hes : es = pkM (poolE sd it n) ix d) (hd : d ≤ 40) : LCs l es := by
  have hok : ∀ e, e ∈ es → EntOK e := by
    rw [hes]
    exact pkM_ok (poolE_ok n) d
  have hlen : es.length ≤ 1000 := by
    rw [hes]
    have := pkM_len (poolE sd it n) ix d
    omega
  rcases h with ⟨rfl, h⟩ | ⟨rfl, _, h⟩ | ⟨rfl, _, h⟩
  · refine ⟨by omega, fun _ => ?_, hok, hlen⟩
    rw [hes, h]
    exact pkM_nil ix d
  · exact ⟨by omega, fun _ => h, hok, hlen⟩
  · exact ⟨by omega, fun h => absurd rfl h, hok, hlen⟩
theorem lc_L {V : Val} {l : Nat} {es : List Ent} (h : LCs l es) (h19 : V.L 19 = entsL es) (h98 : V.L 98 = []) : V.L (lL l) = entsL es := by
  by_cases h2 : l = 2
  · subst h2
    exact h19
  · have h3 := h.l3
    rw [h.nil h2]
    have h01 : l = 0 ∨ l = 1 := by omega
    rcases h01 with rfl | rfl
    · exact h98
    · exact h98
/-- The hooks of the law. -/
theorem bkU_ok {V : Val} {wr par : RV} {so : QE} {l i n d : Nat} {ix : Nat → Int} {sd : Int} {it : Nat → Itm} {es : List Ent} (hd : d ≤ 40) (hpool : @QNTrue V ⟨fPool, [wr], poR (!Nat.beq n 0), poHp (!Nat.beq n 0)⟩) (hso : @QNTrue V so) (h8 : V.L 8 = idL ix d) (h9 : V.L 9 = entsL (poolE sd it n)) (h19 : V.L 19 = entsL es) (h98 : V.L 98 = []) (hes : es = pkM (poolE sd it n) ix d) (hl : Lc l n es)
    (hck : @CkTrue V ⟨i, lL l, par, .tup [sI 770, sI 771]⟩) : @UOK V (@uOr (qnU (blQ wr l so)) (ckU 98 (blC i l par))) := by
  have hU2 : @UOK V (ckU 98 (blC i l par)) := @ckU_ok V 98 h98 _ (fa hck fz)
  suffices hQ : ∀ q, q ∈ blQ wr l so → @QNTrue V q from @uOr_ok V _ _ (@qnU_ok V _ hQ) hU2
  rcases hl with ⟨rfl, rfl⟩ | ⟨rfl, h0, h⟩ | ⟨rfl, h0, h⟩
  · have hp := @pickz_ans ix d (by omega) V 0 8 h8
    exact fa hpool (fa hp (fa hso fz))
  · have hp := @pick_ans (poolE sd it n) ix d (by omega) V 0 0 9 8 h9 h8 (h19.trans (by rw [hes]))
    rw [← hes, h] at hp
    rw [show Nat.beq n 0 = false from Bool.eq_false_iff.2 fun hb => h0 (Nat.eq_of_beq_eq_true hb)] at hpool
    exact fa hpool (fa hp (fa hso fz))
  · have hp := @pick_ans (poolE sd it n) ix d (by omega) V 0 0 9 8 h9 h8 (h19.trans (by rw [hes]))
    rw [← hes, show es.isEmpty = false by cases es with | nil => exact absurd rfl h | cons _ _ => rfl] at hp
    rw [show Nat.beq n 0 = false from Bool.eq_false_iff.2 fun hb => h0 (Nat.eq_of_beq_eq_true hb)] at hpool
    exact fa hpool (fa hp (fa hso fz))
def bkX (par many d a b : Int) (m : Nat) : Int := if m = 631 then par else if m = 632 then many else if m = 741 then d else if m = 770 then a else b
def bkZ (l8 l9 l19 l20 l41 l42 l43 : List Value) (k : Nat) : List Value := if k = 8 then l8 else if k = 9 then l9 else if k = 19 then l19 else if k = 20 then l20 else if k = 41 then l41 else if k = 42 then l42 else if k = 43 then l43 else []
def bkNm (sd P N S : Int) (n : Nat) (it : Nat → Itm) (par many d a b : Int) (l8 l9 l19 l20 l41 l42 l43 : List Value) : Nm := wdNm sd P N S n 0 (itL it n) (bkX par many d a b) (fun _ => ⟨#[]⟩) (bkZ l8 l9 l19 l20 l41 l42 l43)
/-- What is known when the law begins. -/
structure BkG (sd P N : Int) (n : Nat) (it : Nat → Itm) (ix : Nat → Int) (dn : Nat) (es : List Ent) (sts : List (Nat → Int)) (par d a b : Int) (l8 l9 l19 l20 l41 l42 l43 : List Value) : Prop where
  d : d = (dn : Nat)
  a : a = (ckM sts par es).1
  b : b = (ckM sts par es).2
  h8 : l8 = idL ix dn
  h9 : l9 = entsL (poolE sd it n)
  h19 : l19 = entsL es
  h20 : l20 = outM sd N.toNat P.toNat
  h41 : l41 = rowM sd 0 N.toNat
  h42 : l42 = rowM sd 1 N.toNat
  h43 : l43 = rowM sd 2 N.toNat
theorem bkG_ex (sd P N : Int) (n : Nat) (it : Nat → Itm) (ix : Nat → Int) (dn : Nat) (es : List Ent) (sts : List (Nat → Int)) (par : Int) : ∃ d a b l8 l9 l19 l20 l41 l42 l43, BkG sd P N n it ix dn es sts par d a b l8 l9 l19 l20 l41 l42 l43 := ⟨_, _, _, _, _, _, _, _, _, _, ⟨rfl, rfl, rfl, rfl, rfl, rfl, rfl, rfl, rfl, rfl⟩⟩
section
variable {sd P N S : Int} {n : Nat} {it : Nat → Itm} {par many d a b : Int} {l8 l9 l19 l20 l41 l42 l43 : List Value}
theorem bkI (m : Nat) (h : 606 < m) : ((bkNm sd P N S n it par many d a b l8 l9 l19 l20 l41 l42 l43).val fun _ => undef).I m = bkX par many d a b m := (show wdI sd P N S n 0 (bkX par many d a b) m = bkX par many d a b m from wdI_x (.inr h))
theorem bk631 : @cv ((bkNm sd P N S n it par many d a b l8 l9 l19 l20 l41 l42 l43).val fun _ => undef) (sI 631) = .int .i64 par := congrArg (Value.int .i64) ((bkI 631 (by omega)).trans (by simp [bkX]))
theorem bk632 : @cv ((bkNm sd P N S n it par many d a b l8 l9 l19 l20 l41 l42 l43).val fun _ => undef) (sI 632) = .int .i64 many := congrArg (Value.int .i64) ((bkI 632 (by omega)).trans (by simp [bkX]))
theorem bk741 : @cv ((bkNm sd P N S n it par many d a b l8 l9 l19 l20 l41 l42 l43).val fun _ => undef) (sI 741) = .int .i64 d := congrArg (Value.int .i64) ((bkI 741 (by omega)).trans (by simp [bkX]))
theorem bk601 : @cv ((bkNm sd P N S n it par many d a b l8 l9 l19 l20 l41 l42 l43).val fun _ => undef) (sI 601) = .int .i64 P := w601
theorem bk770 : ((bkNm sd P N S n it par many d a b l8 l9 l19 l20 l41 l42 l43).val fun _ => undef).I 770 = a := (bkI 770 (by omega)).trans (by simp [bkX])
theorem bk771 : ((bkNm sd P N S n it par many d a b l8 l9 l19 l20 l41 l42 l43).val fun _ => undef).I 771 = b := (bkI 771 (by omega)).trans (by simp [bkX])
end
/-- Which of the three: many below 0, beyond 70, within. -/
def mnC (many : Int) : Nat := if many < 0 then 0 else if 70 < many then 1 else 2
theorem mnC_in {many : Int} (h : ¬mnC many < 2) : 0 ≤ many ∧ many ≤ 70 := by
  unfold mnC at h
  by_cases h0 : many < 0
  · rw [if_pos h0] at h
    omega
  · rw [if_neg h0] at h
    by_cases h1 : 70 < many
    · rw [if_pos h1] at h
      omega
    · omega
theorem mnC_two {many : Int} (h : 0 ≤ many ∧ many ≤ 70) : mnC many = 2 := by
  unfold mnC
  rw [if_neg (by omega), if_neg (by omega)]
theorem mnT_true {V : Val} {many : Int} (h : @cv V (sI 632) = .int .i64 many) : ∀ t, t ∈ mnT (mnC many) → @TETrue V t := by
  unfold mnC
  by_cases h0 : many < 0
  · rw [if_pos h0]
    exact fa (@f_geq V _ _ _ _ _ _ h rfl (decide_eq_false (by omega))) fz
  · rw [if_neg h0]
    by_cases h1 : 70 < many
    · rw [if_pos h1]
      exact fa (@f_geq V _ _ _ _ _ _ h rfl (decide_eq_true (by omega))) (fa (@f_leq V _ _ _ _ _ _ h rfl (decide_eq_false (by omega))) fz)
    · rw [if_neg h1]
      exact fa (@f_geq V _ _ _ _ _ _ h rfl (decide_eq_true (by omega))) (fa (@f_leq V _ _ _ _ _ _ h rfl (decide_eq_true (by omega))) fz)
theorem blA_ok {V : Val} {wr par : RV} {so : QE} {l m i d : Nat} {many : Int} {T : List TE} (hU : @UOK V (@uOr (qnU (blQ wr l so)) (ckU 98 (blC i l par)))) (hC : @AnsN V fFew [wr] (.bool true)) (h741 : @cv V (sI 741) = .int .i64 (d : Nat)) (hd : d ≤ 40) (h8 : (V.L 8).length = d) (hm : @cv V (sI 632) = .int .i64 many) (hmn : mnC many = m) (hT : ∀ t, t ∈ T → @TETrue V t) : @TbOK V (blA wr so l m i par T) := by
  have t1 := @f_gtr V (sI 741) (lI 40) .i64 (d : Nat) 40 false h741 rfl (decide_eq_false (by omega))
  have t2 := mnT_true hm
  rw [hmn] at t2
  have hL : @LLTrue V ⟨8, 1, sI 741⟩ := ⟨rfl, d, Nat.succ_pos 0, by rw [Nat.mul_one]; exact h8, h741⟩
  letI : Val := V
  exact { X := saneX_true, T := fapp (fa t1 fz) (fapp t2 hT), C := fa hC fz, LL := fa hL fz, U := hU }
/-- The world's argument, where the number of its parishes is known. -/
theorem wlp_to {sd N S : Int} {n k p : Nat} {l : List Value} {x : Nat → Int} {y : Nat → ByteArray} {z : Nat → List Value} {W : Nat → Value} {w : World} {v : Value} (h : @Go.Ri.NVal ((wdNm sd (p : Nat) N S n k l x y z).val W) w (wlpR p) v) : @Go.Ri.NVal ((wdNm sd (p : Nat) N S n k l x y z).val W) w wldR v := by
  obtain ⟨cs, rfl, hc⟩ := h
  refine ⟨cs, rfl, ?_⟩
  have hc : All2 (@Go.Ri.NVal0 ((wdNm sd (p : Nat) N S n k l x y z).val W) w) [sU 600, lI (p : Nat), sI 602, sI 603, .slN 0 3 4] cs.toList := hc
  show All2 (@Go.Ri.NVal0 ((wdNm sd (p : Nat) N S n k l x y z).val W) w) [sU 600, sI 601, sI 602, sI 603, .slN 0 3 4] cs.toList
  revert hc
  generalize cs.toList = ls
  intro hc
  cases hc with
  | cons a b => cases b with
    | cons b c => exact .cons a (.cons b c)
theorem wlp_of {sd N S : Int} {n k p : Nat} {l : List Value} {x : Nat → Int} {y : Nat → ByteArray} {z : Nat → List Value} {W : Nat → Value} {w : World} {v : Value} (h : @Go.Ri.NVal ((wdNm sd (p : Nat) N S n k l x y z).val W) w wldR v) : @Go.Ri.NVal ((wdNm sd (p : Nat) N S n k l x y z).val W) w (wlpR p) v := by
  obtain ⟨cs, rfl, hc⟩ := h
  refine ⟨cs, rfl, ?_⟩
  have hc : All2 (@Go.Ri.NVal0 ((wdNm sd (p : Nat) N S n k l x y z).val W) w) [sU 600, sI 601, sI 602, sI 603, .slN 0 3 4] cs.toList := hc
  show All2 (@Go.Ri.NVal0 ((wdNm sd (p : Nat) N S n k l x y z).val W) w) [sU 600, lI (p : Nat), sI 602, sI 603, .slN 0 3 4] cs.toList
  revert hc
  generalize cs.toList = ls
  intro hc
  cases hc with
  | cons a b => cases b with
    | cons b c => exact .cons a (.cons b c)
/-- From the law's beginning through its loop. -/
theorem bl_go {l : Nat} {par : Int} {many : Nat} {es : List Ent} (hl : LCs l es) (hm : many ≤ 70) {c0 : Nm} {W0 : Nat → Value} {t0 : Tb} {ds : List RV} (ht0 : @TbOK (c0.val W0) t0) {pr : RV} {L : List SE} {R : List Nat} {nb : Bool} {sts : List (Nat → Int)} (hlen : sts.length ≤ 100) (hnb : nb = false → sts = [] ∧ 0 < many)
    (h0 : atH (entN t0 [] fBookLogs ds) fBookLogs 0 (blS l pr L) R (blP l nb) = true) (hp : @cv (c0.val W0) pr = .int .i64 par) (hmn : @cv (c0.val W0) (sI 632) = .int .i64 (many : Nat)) (h19 : (c0.val W0).L 19 = entsL es) (hL : ∀ V' : Val, V'.L 50 = stksL sts → ∀ e, e ∈ L → okSE (c0.val W0) V' e)
    (w : World) (hr : RoIn ro w) (vs : List Value) (hv : All2 (@Go.Ri.NVal (c0.val W0) w) ds vs) : Calls Try.prog fBookLogs vs.toArray w (DF (.bool true) w) := by
  obtain ⟨c, a, b, l19, l50, l51, l52, hG⟩ := lpG_ex par many es sts
  exact fn_headsN c0 W0 t0 [] fBookLogs ds (fun _ => 0) (fun nb => blP l nb) (fun n k c => ∃ sts, LpN par many es sts c ∧ sts.length ≤ 100 ∧ n = many - sts.length ∧ (k = false → sts = [] ∧ 0 < many)) ht0 (blS l pr L) R nb _ h0 (lpNm par (many : Nat) c a b l19 l50 l51 l52)
    (fun W' => holds_all (blS_ok hp lp_I631 hmn lp_I632 (hG.h19.trans h19.symm) (hL _ hG.h50))) ⟨sts, ⟨_, _, _, _, _, _, _, rfl, hG⟩, hlen, rfl, hnb⟩ (fun w => DF (.bool true) w) (fun w n k c h W => lp_step hl hm w n k c h W) w hr vs hv
end Go.Proofs.Z

namespace Go.Proofs.Z
open Go Go.RowKit Go.Proofs Go.Ri Go.Proofs.Z.Fa
/-! BookLogs answers true. -/
theorem bl_runs {p k : Nat} (hk : k < p) (hp : p ≤ 3) :
    (∀ l, l < 3 → ∀ m, m < 2 → doneQ (blA (wlpR p) (soP p) l m (41 + k) (lI (k : Nat)) []) [] fBookLogs (blD (wlpR p) (lI (k : Nat)) (sI 632)) [] [] (bR true) [] = true) ∧
    (∀ l, l < 3 → ∃ R, atH (entN (blA (wlpR p) (soP p) l 2 (41 + k) (lI (k : Nat)) []) [] fBookLogs (blD (wlpR p) (lI (k : Nat)) (sI 632))) fBookLogs 0 (blS l (lI (k : Nat)) [.lst 50 (41 + k)]) R (blP l true) = true) := by
  have h : (p = 1 ∧ k = 0) ∨ (p = 2 ∧ k = 0) ∨ (p = 2 ∧ k = 1) ∨ (p = 3 ∧ k = 0) ∨ (p = 3 ∧ k = 1) ∨ (p = 3 ∧ k = 2) := by omega
  rcases h with ⟨rfl, rfl⟩ | ⟨rfl, rfl⟩ | ⟨rfl, rfl⟩ | ⟨rfl, rfl⟩ | ⟨rfl, rfl⟩ | ⟨rfl, rfl⟩
  · exact ⟨fun l hl m hm => allU_lt (allU_lt bl_dir00 l hl) m hm, fun l hl => ⟨_, allU_lt bl_ent00 l hl⟩⟩
  · exact ⟨fun l hl m hm => allU_lt (allU_lt bl_dir10 l hl) m hm, fun l hl => ⟨_, allU_lt bl_ent10 l hl⟩⟩
  · exact ⟨fun l hl m hm => allU_lt (allU_lt bl_dir11 l hl) m hm, fun l hl => ⟨_, allU_lt bl_ent11 l hl⟩⟩
  · exact ⟨fun l hl m hm => allU_lt (allU_lt bl_dir20 l hl) m hm, fun l hl => ⟨_, allU_lt bl_ent20 l hl⟩⟩
  · exact ⟨fun l hl m hm => allU_lt (allU_lt bl_dir21 l hl) m hm, fun l hl => ⟨_, allU_lt bl_ent21 l hl⟩⟩
  · exact ⟨fun l hl m hm => allU_lt (allU_lt bl_dir22 l hl) m hm, fun l hl => ⟨_, allU_lt bl_ent22 l hl⟩⟩
section
variable {sd P N S : Int} {n : Nat} {it : Nat → Itm} {par many : Int} {ix : Nat → Int} {dn : Nat} {v0 v3 : Value} {w : World}
/-- Where the world is not few, or there are too many indices. -/
theorem bl_not (hr : RoIn ro w) (h : fewM P N S n it = false ∨ 40 < dn) (hw : ∀ x y z, @Go.Ri.NVal ((wdNm sd P N S n 0 (itL it n) x y z).val fun _ => undef) w wldR v0) (ha : ∀ V : Val, V.L 8 = idL ix dn → @Go.Ri.NVal V w (.slN 0 8 1) v3) :
    Calls Try.prog fBookLogs [v0, .int .i64 par, .int .i64 many, v3].toArray w (DF (.bool true) w) := by
  obtain ⟨d, a, b, l8, l9, l19, l20, l41, l42, l43, hG⟩ := bkG_ex sd P N n it ix dn [] [] par
  obtain ⟨gd, _, _, g8, _, _, _, _, _, _⟩ := hG
  have hv : All2 (@Go.Ri.NVal ((bkNm sd P N S n it par many d a b l8 l9 l19 l20 l41 l42 l43).val fun _ => undef) w) (blD wldR (sI 631) (sI 632)) [v0, .int .i64 par, .int .i64 many, v3] := .cons (hw _ _ _) (.cons bk631.symm (.cons bk632.symm (.cons (ha _ g8) .nil)))
  have q741 : @cv ((bkNm sd P N S n it par many d a b l8 l9 l19 l20 l41 l42 l43).val fun _ => undef) (sI 741) = .int .i64 (dn : Nat) := bk741.trans (congrArg (Value.int .i64) gd)
  have hL : @LLTrue ((bkNm sd P N S n it par many d a b l8 l9 l19 l20 l41 l42 l43).val fun _ => undef) ⟨8, 1, sI 741⟩ := ⟨rfl, dn, Nat.succ_pos 0, by show l8.length = _; rw [g8, idL_len, Nat.mul_one], q741⟩
  have hC : @AnsN ((bkNm sd P N S n it par many d a b l8 l9 l19 l20 l41 l42 l43).val fun _ => undef) fFew [wldR] (.bool (fewM P N S n it)) := few_ans
  by_cases hf : fewM P N S n it = false
  · rw [hf] at hC
    have ht : @TbOK ((bkNm sd P N S n it par many d a b l8 l9 l19 l20 l41 l42 l43).val fun _ => undef) blX0 := by
      letI : Val := (bkNm sd P N S n it par many d a b l8 l9 l19 l20 l41 l42 l43).val fun _ => undef
      exact { X := saneX_true, C := fa hC fz, LL := fa hL fz }
    exact done_flat _ ht bl_x0 rfl rfl rfl w hr _ hv
  · have hd : 40 < dn := h.resolve_left hf
    have hf : fewM P N S n it = true := by simpa using hf
    rw [hf] at hC
    have t := @f_gtr ((bkNm sd P N S n it par many d a b l8 l9 l19 l20 l41 l42 l43).val fun _ => undef) (sI 741) (lI 40) .i64 (dn : Nat) 40 true q741 rfl (decide_eq_true (by omega))
    have ht : @TbOK ((bkNm sd P N S n it par many d a b l8 l9 l19 l20 l41 l42 l43).val fun _ => undef) (blX true) := by
      letI : Val := (bkNm sd P N S n it par many d a b l8 l9 l19 l20 l41 l42 l43).val fun _ => undef
      exact { X := saneX_true, T := fa t fz, C := fa hC fz, LL := fa hL fz }
    exact done_flat _ ht (all2_all bl_x true) rfl rfl rfl w hr _ hv
/-- Outside of the parishes. -/
theorem bl_outs (hsd : 0 ≤ sd ∧ sd < 18446744073709551616) (hP : 1 ≤ P ∧ P ≤ 3) (hN : 1 ≤ N ∧ N ≤ 6) (hn : n ≤ 24) (hok : okB it n = true) (hf : fewM P N S n it = true) (hd : dn ≤ 40) (hq : par < 0 ∨ P ≤ par) (hr : RoIn ro w)
    (hw : ∀ x y z, @Go.Ri.NVal ((wdNm sd P N S n 0 (itL it n) x y z).val fun _ => undef) w wldR v0) (ha : ∀ V : Val, V.L 8 = idL ix dn → @Go.Ri.NVal V w (.slN 0 8 1) v3) : Calls Try.prog fBookLogs [v0, .int .i64 par, .int .i64 many, v3].toArray w (DF (.bool true) w) := by
  obtain ⟨es, hes⟩ : ∃ es, es = pkM (poolE sd it n) ix dn := ⟨_, rfl⟩
  obtain ⟨l, hl⟩ := lc_ex n es
  have hlc := lc_cs hl hes hd
  obtain ⟨d, a, b, l8, l9, l19, l20, l41, l42, l43, hG⟩ := bkG_ex sd P N n it ix dn es [] par
  obtain ⟨gd, gA, gB, g8, g9, g19, g20, _, _, _⟩ := hG
  have htb : ∀ mm : Int, @TbOK ((bkNm sd P N S n it par mm d a b l8 l9 l19 l20 l41 l42 l43).val fun _ => undef) (ouA l (mnC mm) (decide (par < 0))) := fun mm => by
    have q741 : @cv ((bkNm sd P N S n it par mm d a b l8 l9 l19 l20 l41 l42 l43).val fun _ => undef) (sI 741) = .int .i64 (dn : Nat) := bk741.trans (congrArg (Value.int .i64) gd)
    have q601 := bk601 (sd := sd) (P := P) (N := N) (S := S) (n := n) (it := it) (par := par) (many := mm) (d := d) (a := a) (b := b) (l8 := l8) (l9 := l9) (l19 := l19) (l20 := l20) (l41 := l41) (l42 := l42) (l43 := l43)
    have q631 := bk631 (sd := sd) (P := P) (N := N) (S := S) (n := n) (it := it) (par := par) (many := mm) (d := d) (a := a) (b := b) (l8 := l8) (l9 := l9) (l19 := l19) (l20 := l20) (l41 := l41) (l42 := l42) (l43 := l43)
    have hC : @AnsN ((bkNm sd P N S n it par mm d a b l8 l9 l19 l20 l41 l42 l43).val fun _ => undef) fFew [wldR] (.bool (fewM P N S n it)) := few_ans
    rw [hf] at hC
    have hpool : @QNTrue ((bkNm sd P N S n it par mm d a b l8 l9 l19 l20 l41 l42 l43).val fun _ => undef) ⟨fPool, [wldR], poR (!Nat.beq n 0), poHp (!Nat.beq n 0)⟩ := pool_ans (sd := sd) (P := P) (N := N) (S := S) hsd hn hok ((bkNm sd P N S n it par mm d a b l8 l9 l19 l20 l41 l42 l43).val fun _ => undef) g9
    have hso : @QNTrue ((bkNm sd P N S n it par mm d a b l8 l9 l19 l20 l41 l42 l43).val fun _ => undef) soG := sticks_ans (sd := sd) (P := P) (N := N) (S := S) (itL_len it n) hsd hP hN ((bkNm sd P N S n it par mm d a b l8 l9 l19 l20 l41 l42 l43).val fun _ => undef) g20
    have hck : @CkTrue ((bkNm sd P N S n it par mm d a b l8 l9 l19 l20 l41 l42 l43).val fun _ => undef) ⟨98, lL l, sI 631, .tup [sI 770, sI 771]⟩ := @ck_true ((bkNm sd P N S n it par mm d a b l8 l9 l19 l20 l41 l42 l43).val fun _ => undef) [] par es hlc.ok (Nat.le_trans hlc.len (by omega)) 98 (lL l) (sI 631) rfl (lc_L hlc g19 rfl) (fun w v h => (show _ = _ from h).trans q631) (bk770.trans gA) (bk771.trans gB)
    have hU := bkU_ok (wr := wldR) (par := sI 631) (so := soG) (i := 98) hd hpool hso g8 g9 g19 rfl hes hl hck
    have hT : ∀ t, t ∈ ouT (decide (par < 0)) → @TETrue ((bkNm sd P N S n it par mm d a b l8 l9 l19 l20 l41 l42 l43).val fun _ => undef) t := by
      refine fapp (fa (@f_geq ((bkNm sd P N S n it par mm d a b l8 l9 l19 l20 l41 l42 l43).val fun _ => undef) _ _ _ _ _ _ q631 rfl ?_) fz) ?_
      · rw [← decide_not]
        exact decide_eq_decide.2 (by omega)
      · split
        · exact fz
        · rename_i h0
          have h0 : ¬par < 0 := fun h => h0 (decide_eq_true h)
          exact fa (@f_lss ((bkNm sd P N S n it par mm d a b l8 l9 l19 l20 l41 l42 l43).val fun _ => undef) _ _ _ _ _ _ q631 q601 (decide_eq_false (by omega))) fz
    have h := blA_ok (l := l) (i := 98) (par := sI 631) (so := soG) hU hC q741 hd (by show l8.length = _; rw [g8, idL_len]) (bk632 (many := mm)) rfl hT
    have hL : @LLTrue ((bkNm sd P N S n it par mm d a b l8 l9 l19 l20 l41 l42 l43).val fun _ => undef) ⟨8, 1, sI 741⟩ := ⟨rfl, dn, Nat.succ_pos 0, by show l8.length = _; rw [g8, idL_len, Nat.mul_one], q741⟩
    have hL2 : @LLTrue ((bkNm sd P N S n it par mm d a b l8 l9 l19 l20 l41 l42 l43).val fun _ => undef) ⟨20, 1, sI 601⟩ := ⟨rfl, P.toNat, Nat.succ_pos 0, by show l20.length = _; rw [g20, outM_len, Nat.mul_one], by rw [Int.toNat_of_nonneg (by omega)]; exact q601⟩
    letI : Val := (bkNm sd P N S n it par mm d a b l8 l9 l19 l20 l41 l42 l43).val fun _ => undef
    exact { X := h.X, T := h.T, C := h.C, LL := fa hL (fa hL2 fz), U := h.U }
  have h3 := hlc.l3
  by_cases hm : mnC many < 2
  · exact done_flat _ (htb many) (all2_all (allU_lt (allU_lt ou_dir l h3) _ hm) _) rfl rfl rfl w hr _ (.cons (hw _ _ _) (.cons bk631.symm (.cons bk632.symm (.cons (ha _ g8) .nil))))
  · obtain ⟨m0, m1⟩ := mnC_in hm
    by_cases hz : many = 0
    · subst hz
      have ht := htb (-1)
      exact done_flat _ ht (all2_all (allU_lt ou_zero l h3) _) rfl rfl rfl w hr _ (.cons (hw _ _ _) (.cons bk631.symm (.cons (show Value.int .i64 0 = Value.int .i64 0 from rfl) (.cons (ha _ g8) .nil))))
    · obtain ⟨mk, rfl⟩ := Int.eq_ofNat_of_zero_le m0
      have ht := htb (mk : Nat)
      rw [mnC_two ⟨m0, m1⟩] at ht
      exact bl_go hlc (by omega) ht (sts := []) (Nat.zero_le _) (fun _ => ⟨rfl, by omega⟩) (all2_all (allU_lt ou_ent l h3) (decide (par < 0))) bk631 bk632 g19 (fun _ _ => fz) w hr _ (.cons (hw _ _ _) (.cons bk631.symm (.cons bk632.symm (.cons (ha _ g8) .nil))))
/-- Within the parishes. -/
theorem bl_ins {p k : Nat} (hk : k < p) (hp : p ≤ 3) (hsd : 0 ≤ sd ∧ sd < 18446744073709551616) (hN : 1 ≤ N ∧ N ≤ 6) (hn : n ≤ 24) (hok : okB it n = true) (hf : fewM (p : Nat) N S n it = true) (hd : dn ≤ 40) (hr : RoIn ro w)
    (hw : ∀ x y z, @Go.Ri.NVal ((wdNm sd (p : Nat) N S n 0 (itL it n) x y z).val fun _ => undef) w wldR v0) (ha : ∀ V : Val, V.L 8 = idL ix dn → @Go.Ri.NVal V w (.slN 0 8 1) v3) : Calls Try.prog fBookLogs [v0, .int .i64 (k : Nat), .int .i64 many, v3].toArray w (DF (.bool true) w) := by
  obtain ⟨es, hes⟩ : ∃ es, es = pkM (poolE sd it n) ix dn := ⟨_, rfl⟩
  obtain ⟨l, hl⟩ := lc_ex n es
  have hlc := lc_cs hl hes hd
  obtain ⟨sts, hsts⟩ : ∃ sts, sts = (List.range N.toNat).map fun i => stkM sd (k : Nat) (i : Nat) := ⟨_, rfl⟩
  have hlen : sts.length ≤ 100 := by
    rw [hsts, List.length_map, List.length_range]
    omega
  obtain ⟨d, a, b, l8, l9, l19, l20, l41, l42, l43, hG⟩ := bkG_ex sd (p : Nat) N n it ix dn es sts (k : Nat)
  obtain ⟨gd, gA, gB, g8, g9, g19, g20, g41, g42, g43⟩ := hG
  have hrow : ∀ r, r < p → ((bkNm sd (p : Nat) N S n it (k : Nat) many d a b l8 l9 l19 l20 l41 l42 l43).val fun _ => undef).L (41 + r) = rowM sd r N.toNat := fun r hr => by
    have h3 : r = 0 ∨ r = 1 ∨ r = 2 := by omega
    rcases h3 with rfl | rfl | rfl
    · exact g41
    · exact g42
    · exact g43
  have hrk := (hrow k hk).trans ((rowM_stks sd k N.toNat).trans (congrArg stksL hsts.symm))
  have q741 : @cv ((bkNm sd (p : Nat) N S n it (k : Nat) many d a b l8 l9 l19 l20 l41 l42 l43).val fun _ => undef) (sI 741) = .int .i64 (dn : Nat) := bk741.trans (congrArg (Value.int .i64) gd)
  have hC0 : @AnsN ((bkNm sd (p : Nat) N S n it (k : Nat) many d a b l8 l9 l19 l20 l41 l42 l43).val fun _ => undef) fFew [wldR] (.bool (fewM (p : Nat) N S n it)) := few_ans
  rw [hf] at hC0
  have hto : ∀ w vs, All2 (@Go.Ri.NVal ((bkNm sd (p : Nat) N S n it (k : Nat) many d a b l8 l9 l19 l20 l41 l42 l43).val fun _ => undef) w) [wlpR p] vs → All2 (@Go.Ri.NVal ((bkNm sd (p : Nat) N S n it (k : Nat) many d a b l8 l9 l19 l20 l41 l42 l43).val fun _ => undef) w) [wldR] vs := fun w vs h => by
    cases h with
    | cons h1 h2 =>
      cases h2
      exact .cons (wlp_to h1) .nil
  have hC : @AnsN ((bkNm sd (p : Nat) N S n it (k : Nat) many d a b l8 l9 l19 l20 l41 l42 l43).val fun _ => undef) fFew [wlpR p] (.bool true) := fun w hr vs hv => hC0 w hr vs (hto w vs hv)
  have hpool : @QNTrue ((bkNm sd (p : Nat) N S n it (k : Nat) many d a b l8 l9 l19 l20 l41 l42 l43).val fun _ => undef) ⟨fPool, [wlpR p], poR (!Nat.beq n 0), poHp (!Nat.beq n 0)⟩ := fun w hr vs hv => pool_ans (sd := sd) (P := (p : Nat)) (N := N) (S := S) hsd hn hok ((bkNm sd (p : Nat) N S n it (k : Nat) many d a b l8 l9 l19 l20 l41 l42 l43).val fun _ => undef) g9 w hr vs (hto w vs hv)
  have hso : @QNTrue ((bkNm sd (p : Nat) N S n it (k : Nat) many d a b l8 l9 l19 l20 l41 l42 l43).val fun _ => undef) (soP p) := by
    obtain ⟨p', rfl⟩ : ∃ p', p = p' + 1 := ⟨p - 1, by omega⟩
    exact sticksP_ans (by omega) (itL_len it n) hsd hN ((bkNm sd ((p' + 1 : Nat) : Int) N S n it (k : Nat) many d a b l8 l9 l19 l20 l41 l42 l43).val fun _ => undef) hrow
  have hck : @CkTrue ((bkNm sd (p : Nat) N S n it (k : Nat) many d a b l8 l9 l19 l20 l41 l42 l43).val fun _ => undef) ⟨41 + k, lL l, lI (k : Nat), .tup [sI 770, sI 771]⟩ := @ck_true ((bkNm sd (p : Nat) N S n it (k : Nat) many d a b l8 l9 l19 l20 l41 l42 l43).val fun _ => undef) sts (k : Nat) es hlc.ok (Nat.le_trans hlc.len (by omega)) (41 + k) (lL l) (lI (k : Nat)) hrk (lc_L hlc g19 rfl) (fun w v h => (show _ = _ from h)) (bk770.trans gA) (bk771.trans gB)
  have hU := bkU_ok (wr := wlpR p) (par := lI (k : Nat)) (so := soP p) (i := 41 + k) hd hpool hso g8 g9 g19 rfl hes hl hck
  have ht := blA_ok (l := l) (i := 41 + k) (par := lI (k : Nat)) (so := soP p) (T := []) hU hC q741 hd (by show l8.length = _; rw [g8, idL_len]) (bk632 (many := many)) rfl fz
  have h3 := hlc.l3
  obtain ⟨r1, r2⟩ := bl_runs hk hp
  have hv : All2 (@Go.Ri.NVal ((bkNm sd (p : Nat) N S n it (k : Nat) many d a b l8 l9 l19 l20 l41 l42 l43).val fun _ => undef) w) (blD (wlpR p) (lI (k : Nat)) (sI 632)) [v0, .int .i64 (k : Nat), .int .i64 many, v3] := .cons (wlp_of (hw _ _ _)) (.cons (show Value.int .i64 (k : Nat) = Value.int .i64 (k : Nat) from rfl) (.cons bk632.symm (.cons (ha _ g8) .nil)))
  by_cases hm : mnC many < 2
  · exact done_flat _ ht (r1 l h3 _ hm) rfl rfl rfl w hr _ hv
  · obtain ⟨m0, m1⟩ := mnC_in hm
    obtain ⟨mk, rfl⟩ := Int.eq_ofNat_of_zero_le m0
    obtain ⟨R, r3⟩ := r2 l h3
    rw [mnC_two ⟨m0, m1⟩] at ht
    exact bl_go hlc (by omega) ht hlen (fun h => by cases h) r3 (show Value.int .i64 (k : Nat) = Value.int .i64 (k : Nat) from rfl) bk632 g19 (fun V' h => fa (h.trans hrk.symm) fz) w hr _ hv
/-- BookLogs answers true. -/
theorem bookLogs_ans (hsd : 0 ≤ sd ∧ sd < 18446744073709551616) (hr : RoIn ro w) (hw : ∀ x y z, @Go.Ri.NVal ((wdNm sd P N S n 0 (itL it n) x y z).val fun _ => undef) w wldR v0) (ha : ∀ V : Val, V.L 8 = idL ix dn → @Go.Ri.NVal V w (.slN 0 8 1) v3) :
    Calls Try.prog fBookLogs [v0, .int .i64 par, .int .i64 many, v3].toArray w (DF (.bool true) w) := by
  by_cases hf : fewM P N S n it = true
  · by_cases hd : dn ≤ 40
    · have hf' := hf
      unfold fewM at hf'
      simp only [Bool.and_eq_true] at hf'
      obtain ⟨h1, h2, h3, h4, hn⟩ := wCls_in (Nat.eq_of_beq_eq_true hf'.1)
      by_cases hq : par < 0 ∨ P ≤ par
      · exact bl_outs hsd ⟨h1, h2⟩ ⟨h3, h4⟩ hn hf'.2 hf hd hq hr hw ha
      · obtain ⟨k, rfl⟩ := Int.eq_ofNat_of_zero_le (show 0 ≤ par by omega)
        obtain ⟨p, rfl⟩ := Int.eq_ofNat_of_zero_le (show 0 ≤ P by omega)
        exact bl_ins (by omega) (by omega) hsd ⟨h3, h4⟩ hn hf'.2 hf hd hr hw ha
    · exact bl_not hr (.inr (by omega)) hw ha
  · exact bl_not hr (.inl (by simpa using hf)) hw ha
end
end Go.Proofs.Z
