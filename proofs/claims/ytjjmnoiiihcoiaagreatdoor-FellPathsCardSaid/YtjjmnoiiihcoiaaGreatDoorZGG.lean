/- A part of the proofs that the laws of layer four answer true for every input. -/
import Derived.Test.YtjjmnoiiihcoiaaGreatDoorZGF
namespace Go.Proofs.Z
open Go Go.RowKit Go.Proofs Go.Ri Go.Proofs.Z.Fa
/-! list, ints, OpenGates of the specification. -/
def bC (b : Nat → Bool) (k : Nat) : List Value := [.bool (b k)]
def bls (b : Nat → Bool) (n : Nat) : List Value := gl (fun _ => true) (bC b) n
theorem bls_len (b : Nat → Bool) : ∀ n, (bls b n).length = n
  | 0 => rfl
  | n + 1 => by
    show (bls b n ++ bC b n).length = n + 1
    rw [List.length_append, bls_len b n]
    rfl
theorem bls_get (b : Nat → Bool) : ∀ n k, k < n → (bls b n)[k]? = some (.bool (b k))
  | n + 1, k, h => by
    show (bls b n ++ bC b n)[k]? = _
    rcases Nat.lt_or_eq_of_le (Nat.le_of_lt_succ h) with h1 | rfl
    · rw [List.getElem?_append_left (by rw [bls_len]; exact h1), bls_get b n k h1]
    · rw [List.getElem?_append_right (by rw [bls_len]; exact Nat.le_refl _), bls_len, Nat.sub_self]
      rfl
def lnm (N k : Nat) (b : Nat → Bool) : Nm := ⟨fun i => if i = 1 then (N : Int) else if i = 2 then (k : Int) else (k : Int) + 1, fun _ => b k, fun _ => ⟨#[]⟩, fun i => if i = 0 then bls b N else if i = 9 then gl b ogC k else if i = 10 then gl b ogC (k + 1) else []⟩
theorem hT_gen (V : Val) {n k : Nat} (h1 : V.I 1 = n) (h2 : V.I 2 = k) (h7 : V.I 7 = k + 1) (hk : k ≤ 1000000000) {b : Bool} (hb : decide (k < n) = b) : ∀ e, e ∈ hT b → @TETrue V e := by
  letI := V
  refine fa (f_lss (k := .i64) (m := V.I 2) (n := V.I 1) rfl rfl ?_) (fa ⟨rfl, .i64, .i64, V.I 2, V.I 1, rfl, rfl, ?_⟩ (fa ?_ fz))
  · rw [h1, h2, ← hb]; exact decide_eq_decide.2 (by omega)
  · rw [h1, h2, ← hb]
    exact congrArg Value.bool (decide_eq_decide.2 (by omega))
  · exact f_add1 (m := V.I 2) rfl (show Value.int .i64 (V.I 7) = Value.int .i64 (V.I 2 + 1) by rw [h7, h2]) rfl (by omega) (by omega)
theorem list_q (V : Val) (b : Nat → Bool) (n : Nat) (hb : n ≤ 100000) (hL : V.L 11 = bls b n) (h9 : V.L 9 = gl b ogC n) :
    ∀ w, RoIn ro w → ∀ vs, All2 (@Go.Ri.NVal V w) [.slN 0 11 1] vs → Calls Tryz.prog fList vs.toArray w (DQ V (if (gl b ogC n).isEmpty then nilR else .slN 0 9 1) (if (gl b ogC n).isEmpty then [] else [some (.lst 9 tInt true)]) w) := by
  intro w hr vs hv
  have hv : All2 (@Go.Ri.NVal ((lnm n 0 b).val fun _ => undef) w) [.slN 0 0 1] vs := by
    cases hv with
    | cons h1 h2 =>
      cases h2
      exact .cons (lst_nval (V := V) (V' := (lnm n 0 b).val fun _ => undef) hL h1) .nil
  have hLL : ∀ k W, ∀ e, e ∈ bLL → @LLTrue ((lnm n k b).val W) e := fun k W => fa ⟨rfl, n, Nat.succ_pos 0, by rw [Nat.mul_one]; exact bls_len b n, rfl⟩ fz
  have ht : @TbOK ((lnm n 0 b).val fun _ => undef) { LL := bLL } := by
    letI : Val := (lnm n 0 b).val fun _ => undef
    exact { LL := hLL 0 _ }
  have := gather liQ li_runs (fun ne => by cases ne <;> rfl) (lnm n 0 b) (fun _ => undef) (fun k => lnm n k b) n b ogC (fun k => rfl) (fun k => rfl) ht (fun W' => fa ⟨.i64, 0, rfl, rfl⟩ (fa ⟨.i64, (n : Int), rfl, rfl⟩ (fa rfl fz))) ?_ (fun k _ W W' => fa ⟨.i64, (k : Int) + 1, rfl, rfl⟩ (fa ⟨.i64, (n : Int), rfl, rfl⟩ (fa rfl fz))) (fun k _ _ W => rfl) (fun k => by simp [ogC]) (fun h => by cases h) (fun W => ?_) V h9 w hr vs hv
  · refine this.mono fun e w' h => ?_
    cases hE : (gl b ogC n).isEmpty <;> rw [hE] at h <;> exact h
  · intro k hk W
    letI : Val := (lnm n k b).val W
    refine { T := fa ⟨rfl, b k, rfl, rfl⟩ (hT_gen _ rfl rfl rfl (by omega) (by simp [hk])), LL := hLL k W, LX := fa ⟨rfl, ?_, ?_⟩ fz, LA := ?_ }
    · show ((k : Int)).toNat * 1 + 1 ≤ (bls b n).length
      rw [Int.toNat_natCast, bls_len]
      omega
    · show ((bls b n).drop (((k : Int)).toNat * 1)).take 1 = [.bool (b k)]
      rw [Int.toNat_natCast, row1 k (by rw [bls_len]; exact hk), List.getD_eq_getElem?_getD, bls_get b n k hk]
      rfl
    · show ∀ e, e ∈ (if b k = true then [(⟨9, [sI 2], 10⟩ : LAE)] else []) → _
      split
      · rename_i hp
        exact fa (gl_la (p := b) (cells := ogC) (s := 1) ogC_len ogC_one rfl rfl hp rfl (by omega)) fz
      · exact fz
  · letI : Val := (lnm n n b).val W
    exact { T := hT_gen _ rfl rfl rfl (by omega) (by simp), LL := hLL n W }
/-! ints -/
def inm (l : List Value) (n k : Nat) : Nm := ⟨fun i => if i = 1 then (n : Int) else if i = 2 then (k : Int) else if i = 3 then intOf (l.getD k undef) else (k : Int) + 1, fun _ => false, fun _ => ⟨#[]⟩, fun i => if i = 0 then l else []⟩
theorem ints_ans (V : Val) (l : List Value) (hl : ints l) (n : Nat) (hn : l.length = n) (hb : n ≤ 1000000) {i : Nat} (hL : V.L i = l) : @AnsN V fInts [.slN 0 i 1, .slN 0 i 1] (.bool true) := by
  intro w hr vs hv
  have hv : All2 (@Go.Ri.NVal ((inm l n 0).val fun _ => undef) w) inD vs := by
    cases hv with
    | cons h1 h2 => cases h2 with
      | cons h2 h3 =>
        cases h3
        exact .cons (lst_nval (V := V) (V' := (inm l n 0).val fun _ => undef) hL h1) (.cons (lst_nval (V := V) (V' := (inm l n 0).val fun _ => undef) hL h2) .nil)
  have hLL : ∀ k W, ∀ e, e ∈ bLL → @LLTrue ((inm l n k).val W) e := fun k W => fa ⟨rfl, n, Nat.succ_pos 0, by rw [Nat.mul_one]; exact hn, rfl⟩ fz
  refine scan fInts inD inE [] inP (inS (lI 0)) (inS (sI 7)) [0, 1] [0, 1] (inm l n 0) (fun _ => undef) (fun k => inm l n k) n _ (fun _ => True) in_enter ?_ (fun W' => fa ⟨.i64, 0, rfl, rfl⟩ (fa ⟨.i64, (n : Int), rfl, rfl⟩ (fa rfl fz))) trivial ?_ w hr vs hv
  · letI : Val := (inm l n 0).val fun _ => undef
    exact { LL := hLL 0 _ }
  · intro k hk _ W
    letI : Val := (inm l n k).val W
    rcases Nat.lt_or_ge k n with hlt | hge
    · refine .inr ⟨hlt, trivial, inT true, { T := hT_gen _ rfl rfl rfl (by omega) (by simp [hlt]), LL := hLL k W, LX := fa ⟨rfl, ?_, ?_⟩ fz }, in_again, fun W' => fa ⟨.i64, (k : Int) + 1, rfl, rfl⟩ (fa ⟨.i64, (n : Int), rfl, rfl⟩ (fa rfl fz))⟩
      · show ((k : Int)).toNat * 1 + 1 ≤ l.length
        rw [Int.toNat_natCast, hn]
        omega
      · show (l.drop (((k : Int)).toNat * 1)).take 1 = [.int .i64 (intOf (l.getD k undef))]
        rw [Int.toNat_natCast, row1 k (by rw [hn]; exact hlt)]
        obtain ⟨z, hz⟩ := hl (l.getD k undef) (by rw [List.getD_eq_getElem?_getD, List.getElem?_eq_getElem (by rw [hn]; exact hlt)]; exact List.getElem_mem _)
        rw [hz]
        rfl
    · obtain rfl : k = n := by omega
      exact .inl ⟨inT false, bR true, { T := hT_gen _ rfl rfl rfl (by omega) (by simp), LL := hLL k W }, in_out, rfl⟩
/-! OpenGates of the specification -/
theorem onL_bls (l : List Value) (n : Nat) (d : Int) : onL l n d = bls (odP l d) n := rfl
theorem gl_nil {p : Nat → Bool} {c : Nat → List Value} {n : Nat} (h : n = 0) : gl p c n = [] := by subst h; rfl
section
variable (V : Val) {G : Int} {l : List Value} {n : Nat} {d : Int}
theorem ropengates_q (hG : V.I 0 = G) (hL : V.L 0 = l) (hl : ints l) (hn : l.length = n * 4) (hd : V.I 8 = d) (h9 : V.L 9 = ogL l n d) :
    ∀ w, RoIn ro w → ∀ vs, All2 (@Go.Ri.NVal V w) [fellR, sI 8] vs → Calls Tryz.prog fROpenGates vs.toArray w (DQ V (ogAns (fdE G l n d) (!(ogL l n d).isEmpty)).1 (ogAns (fdE G l n d) (!(ogL l n d).isEmpty)).2 w) := by
  intro w hr vs hv
  let c : Nm := gnm G l n 0 (fun _ => d) ny (fun i => if i = 9 then ogL l n d else if i = 11 then onL l n d else [])
  let V1 : Val := c.val fun _ => undef
  have hv : All2 (@Go.Ri.NVal V1 w) [fellR, sI 8] vs := by
    cases hv with
    | cons h1 h2 => cases h2 with
      | cons h2 h3 =>
        cases h3
        exact .cons (fell_nval1 hG hL h1) (.cons (nval_conv rfl (show Value.int .i64 (V.I 8) = Value.int .i64 d by rw [hd]) h2) .nil)
  have hC : @AnsN V1 fValid [fellR] (.bool (validM G l n)) := valid_ans _ rfl rfl hl hn
  have ht : ∀ m, (∀ e, e ∈ roU m → @QNTrue V1 e) → @TbOK V1 (roTb (validM G l n) (dcls d) m) := fun m hU => by
    letI : Val := V1
    exact { T := dayT_ok _ rfl, LL := hLL_ok _ _ _ hn 0 _, C := fa hC fz, U := qnU_ok _ hU }
  unfold fdE
  cases hva : validM G l n with
  | false =>
    rw [hva] at ht
    have h0 : (allU 3 fun c => doneQ (roTbU false c) [] fROpenGates [fellR, sI 8] [] [] (tupN 40) []) = true := ro_badU
    have ht2 : @TbOK V1 (roTbU false (dcls d)) := by
      letI : Val := V1
      have := hC
      rw [hva] at this
      exact { T := dayT_ok _ rfl, LL := hLL_ok _ _ _ hn 0 _, C := fa this fz }
    exact done_calls V1 V ht2 (allU_lt h0 _ (dcls_lt3 d)) rfl (holds_all fz) w hr vs hv
  | true =>
    rw [hva] at ht
    by_cases hday : 0 ≤ d ∧ d ≤ 1048576
    · rw [dcls_two hday] at ht
      have e0 : (if true = true then dayE d else 40) = 0 := by simp [dayE, hday]
      rw [e0]
      have hb : n ≤ 32 := ((validM_iff _ _ _).1 hva).2.2.1
      have hon := on_q V1 (G := G) (l := l) (n := n) (d := d) rfl rfl hl hn hb rfl hday.1 rfl
      have hli := list_q V1 (odP l d) n (by omega) rfl rfl
      have hgl : gl (odP l d) ogC n = ogL l n d := rfl
      rw [hgl] at hli
      by_cases hn0 : n = 0
      · have e1 : onL l n d = [] := gl_nil hn0
        have e2 : ogL l n d = [] := gl_nil hn0
        rw [e1] at hon
        rw [e2]
        have := ht 0 (fa hon fz)
        exact done_calls V1 V this (all2_all ro_run0 true) rfl (holds_all fz) w hr vs hv
      · have e1 : (onL l n d).isEmpty = false := by
          have := bls_len (odP l d) n
          rw [← onL_bls] at this
          cases h : onL l n d with
          | nil => rw [h] at this; exact absurd this.symm hn0
          | cons _ _ => rfl
        rw [e1] at hon
        cases hE : (ogL l n d).isEmpty with
        | true =>
          rw [hE] at hli
          have := ht 1 (fa hon (fa hli fz))
          exact done_calls V1 V this (all2_all ro_run0 false) rfl (holds_all fz) w hr vs hv
        | false =>
          rw [hE] at hli
          have := ht 2 (fa hon (fa hli fz))
          exact done_calls V1 V this ro_run2 rfl (holds_all (fa (h9.trans rfl) fz)) w hr vs hv
    · have e0 : (if true = true then dayE d else 40) = 1 := by simp only [dayE, if_true]; rw [if_neg hday]
      rw [e0]
      have h1 : (all2 fun c => doneQ (roTbU true (if c then 0 else 1)) [] fROpenGates [fellR, sI 8] [] [] (tupN 1) []) = true := ro_badV
      have key : doneQ (roTbU true (dcls d)) [] fROpenGates [fellR, sI 8] [] [] (tupN 1) [] = true := by
        have := dcls_lt hday
        rcases (show dcls d = 0 ∨ dcls d = 1 by omega) with h | h
        · rw [h]; exact all2_all h1 true
        · rw [h]; exact all2_all h1 false
      have ht2 : @TbOK V1 (roTbU true (dcls d)) := by
        letI : Val := V1
        have := hC
        rw [hva] at this
        exact { T := dayT_ok _ rfl, LL := hLL_ok _ _ _ hn 0 _, C := fa this fz }
      exact done_calls V1 V ht2 key rfl (holds_all fz) w hr vs hv
end
end Go.Proofs.Z
