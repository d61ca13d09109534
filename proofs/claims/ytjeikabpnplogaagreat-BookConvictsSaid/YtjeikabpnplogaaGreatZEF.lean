/- A part of the proofs that the laws of layer eight answer true for every input. -/
import Derived.Test.YtjeikabpnplogaaGreatZEB
import Derived.Test.YtjeikabpnplogaaGreatZEC
import Derived.Test.YtjeikabpnplogaaGreatZSX
namespace Go.Proofs.Z
open Go Go.RowKit Go.Proofs Go.Ri Go.Proofs.Z.Fa
/-! Convict and CheckProof of both packages: contracts. -/
def prV (A B : Ent) : Value := .agg (A.cs ++ B.cs).toArray
section
variable {A B : Ent} {st : Nat → Int} {d1 d2 c : Int}
theorem entK_cv : entK.map (@cv ((prNm A B st d1 d2 c ⟨#[]⟩ ⟨#[]⟩).val fun _ => undef)) = A.cs := @ent_cells ((prNm A B st d1 d2 c ⟨#[]⟩ ⟨#[]⟩).val fun _ => undef) [sI 50, sI 51, sU 0, sT 1] ((List.range 16).map fun i => sU (300 + i)) A.p A.n A.x A.s A.se (@cv4 ((prNm A B st d1 d2 c ⟨#[]⟩ ⟨#[]⟩).val fun _ => undef) _ _ _ _ _ _ _ _ pr50 pr51 rfl rfl) (@ss_cv ((prNm A B st d1 d2 c ⟨#[]⟩ ⟨#[]⟩).val fun _ => undef) 300 A.se pr_a)
theorem enfK_cv : enfK.map (@cv ((prNm A B st d1 d2 c ⟨#[]⟩ ⟨#[]⟩).val fun _ => undef)) = B.cs := @ent_cells ((prNm A B st d1 d2 c ⟨#[]⟩ ⟨#[]⟩).val fun _ => undef) [sI 60, sI 61, sU 1, sT 2] ((List.range 16).map fun i => sU (320 + i)) B.p B.n B.x B.s B.se (@cv4 ((prNm A B st d1 d2 c ⟨#[]⟩ ⟨#[]⟩).val fun _ => undef) _ _ _ _ _ _ _ _ pr60 pr61 rfl rfl) (@ss_cv ((prNm A B st d1 d2 c ⟨#[]⟩ ⟨#[]⟩).val fun _ => undef) 320 B.se fun i _ => pr_b i)
theorem zenK_cv (V : Val) : zenK.map (@cv V) = entZ.cs := @ent_cells V [lI 0, lI 0, lU 0, lT []] ((List.range 16).map fun _ => lU 0) 0 0 0 ⟨#[]⟩ (fun _ => 0) rfl (@zs_cv V)
theorem prR_cv {V : Val} {a b : List RV} {X Y : Ent} (ha : a.map (@cv V) = X.cs) (hb : b.map (@cv V) = Y.cs) : @cv1 V (prR a b) = prV X Y := by
  show Value.agg ((a ++ b).map (@cv V)).toArray = _
  rw [List.map_append, ha, hb]
  rfl
theorem prS_ok : ∀ t, t ∈ pairS → @okSE ((prNm A B st d1 d2 c ⟨#[]⟩ ⟨#[]⟩).val fun _ => undef) ((prNm A B st d1 d2 c ⟨#[]⟩ ⟨#[]⟩).val fun _ => undef) t := by
  refine fapp (fapp (fa ⟨.i64, A.p, pr50, show prI A B st d1 d2 c 50 = A.p by simp [prI]⟩ (fa ⟨.i64, A.n, pr51, show prI A B st d1 d2 c 51 = A.n by simp [prI]⟩ (fa ⟨.u64, A.x, rfl, rfl⟩ (fa ⟨A.s, rfl, rfl⟩ fz)))) ?_) (fapp (fa ⟨.i64, B.p, pr60, show prI A B st d1 d2 c 60 = B.p by simp [prI]⟩ (fa ⟨.i64, B.n, pr61, show prI A B st d1 d2 c 61 = B.n by simp [prI]⟩ (fa ⟨.u64, B.x, rfl, rfl⟩ (fa ⟨B.s, rfl, rfl⟩ fz)))) ?_)
  · intro t ht
    obtain ⟨i, hi, rfl⟩ := List.mem_map.1 ht
    exact ⟨.u64, A.se i, congrArg (Value.int .u64) (pr_a i (List.mem_range.1 hi)), pr_a i (List.mem_range.1 hi)⟩
  · intro t ht
    obtain ⟨i, _, rfl⟩ := List.mem_map.1 ht
    exact ⟨.u64, B.se i, congrArg (Value.int .u64) (pr_b i), pr_b i⟩
end
def tupC (p : Value) (q : Bool) (e : Int) : Value := .tuple #[p, .bool q, .int .i64 e]
def cvV (q g : Bool) (A B : Ent) : Value := if q then tupC (prV entZ entZ) false 0 else if g then tupC (prV B A) true 0 else tupC (prV A B) true 0
theorem cvR_flat (q g : Bool) : flat (cvR q g) = true := by
  cases q <;> cases g <;> kernel_rfl
theorem cvR_w (q g : Bool) : isW (cvR q g) = false := by
  cases q <;> cases g <;> rfl
section
variable {A B : Ent} {st : Nat → Int} {d1 d2 c : Int}
theorem cvR_cv (q g : Bool) : @cvF ((prNm A B st d1 d2 c ⟨#[]⟩ ⟨#[]⟩).val fun _ => undef) (cvR q g) = cvV q g A B := by
  have hz := prR_cv (V := ((prNm A B st d1 d2 c ⟨#[]⟩ ⟨#[]⟩).val fun _ => undef)) (zenK_cv ((prNm A B st d1 d2 c ⟨#[]⟩ ⟨#[]⟩).val fun _ => undef)) (zenK_cv ((prNm A B st d1 d2 c ⟨#[]⟩ ⟨#[]⟩).val fun _ => undef))
  have h1 := prR_cv (V := ((prNm A B st d1 d2 c ⟨#[]⟩ ⟨#[]⟩).val fun _ => undef)) (entK_cv (A := A) (B := B) (st := st) (d1 := d1) (d2 := d2) (c := c)) enfK_cv
  have h2 := prR_cv (V := ((prNm A B st d1 d2 c ⟨#[]⟩ ⟨#[]⟩).val fun _ => undef)) (enfK_cv (A := A) (B := B) (st := st) (d1 := d1) (d2 := d2) (c := c)) entK_cv
  cases q
  · cases g
    · exact congrArg (fun z => tupC z true 0) h1
    · exact congrArg (fun z => tupC z true 0) h2
  · exact congrArg (fun z => tupC z false 0) hz
theorem zR_flat (e : Int) : flat (.tup [prR zenK zenK, bR false, lI e]) = true := rfl
theorem zR_cv (e : Int) : @cvF ((prNm A B st d1 d2 c ⟨#[]⟩ ⟨#[]⟩).val fun _ => undef) (.tup [prR zenK zenK, bR false, lI e]) = tupC (prV entZ entZ) false e := congrArg (fun z => tupC z false e) (prR_cv (V := ((prNm A B st d1 d2 c ⟨#[]⟩ ⟨#[]⟩).val fun _ => undef)) (zenK_cv ((prNm A B st d1 d2 c ⟨#[]⟩ ⟨#[]⟩).val fun _ => undef)) (zenK_cv ((prNm A B st d1 d2 c ⟨#[]⟩ ⟨#[]⟩).val fun _ => undef)))
theorem pr_dY {fA : Nat} (hA : Ans fA [A.val] (.int .i64 d1)) (hB : Ans fA [B.val] (.int .i64 d2)) : ∀ t, t ∈ dgY fA → Ans t.f (t.a.map (@cvF ((prNm A B st d1 d2 c ⟨#[]⟩ ⟨#[]⟩).val fun _ => undef))) (@cvF ((prNm A B st d1 d2 c ⟨#[]⟩ ⟨#[]⟩).val fun _ => undef) t.r) := by
  have e1 : @cvF ((prNm A B st d1 d2 c ⟨#[]⟩ ⟨#[]⟩).val fun _ => undef) (sI 70) = .int .i64 d1 := pr70
  have e2 : @cvF ((prNm A B st d1 d2 c ⟨#[]⟩ ⟨#[]⟩).val fun _ => undef) (sI 71) = .int .i64 d2 := pr71
  have y1 : Ans fA [@cv1 ((prNm A B st d1 d2 c ⟨#[]⟩ ⟨#[]⟩).val fun _ => undef) entR] (@cvF ((prNm A B st d1 d2 c ⟨#[]⟩ ⟨#[]⟩).val fun _ => undef) (sI 70)) := by rw [pr_A, e1]; exact hA
  have y2 : Ans fA [@cv1 ((prNm A B st d1 d2 c ⟨#[]⟩ ⟨#[]⟩).val fun _ => undef) en2R] (@cvF ((prNm A B st d1 d2 c ⟨#[]⟩ ⟨#[]⟩).val fun _ => undef) (sI 71)) := by rw [pr_B, e2]; exact hB
  exact fa y1 (fa y2 fz)
theorem pr_dT {q : Bool} (hq : (d1 == d2) = q) : ∀ t, t ∈ dgT2 q → @TETrue ((prNm A B st d1 d2 c ⟨#[]⟩ ⟨#[]⟩).val fun _ => undef) t := fa (@f_ieq ((prNm A B st d1 d2 c ⟨#[]⟩ ⟨#[]⟩).val fun _ => undef) _ _ _ _ _ _ pr70 pr71 hq) fz
theorem pr_chk {e : Int} (h : Ans fChk [stkV st, A.val, B.val] (.int .i64 e)) : ∀ t, t ∈ [(⟨fChk, pairD, lI e⟩ : YE)] → Ans t.f (t.a.map (@cvF ((prNm A B st d1 d2 c ⟨#[]⟩ ⟨#[]⟩).val fun _ => undef))) (@cvF ((prNm A B st d1 d2 c ⟨#[]⟩ ⟨#[]⟩).val fun _ => undef) t.r) := by
  have y : Ans fChk [@cv1 ((prNm A B st d1 d2 c ⟨#[]⟩ ⟨#[]⟩).val fun _ => undef) stkR, @cv1 ((prNm A B st d1 d2 c ⟨#[]⟩ ⟨#[]⟩).val fun _ => undef) entR, @cv1 ((prNm A B st d1 d2 c ⟨#[]⟩ ⟨#[]⟩).val fun _ => undef) en2R] (.int .i64 e) := by rw [pr_A, pr_B, pr_st]; exact h
  exact fa y fz
theorem pr_cmp (h : Ans fCmpE [A.val, B.val] (.int .i64 c)) : ∀ t, t ∈ [(⟨fCmpE, [entR, en2R], sI 72⟩ : YE)] → Ans t.f (t.a.map (@cvF ((prNm A B st d1 d2 c ⟨#[]⟩ ⟨#[]⟩).val fun _ => undef))) (@cvF ((prNm A B st d1 d2 c ⟨#[]⟩ ⟨#[]⟩).val fun _ => undef) t.r) := by
  have e1 : @cvF ((prNm A B st d1 d2 c ⟨#[]⟩ ⟨#[]⟩).val fun _ => undef) (sI 72) = .int .i64 c := pr72
  have y : Ans fCmpE [@cv1 ((prNm A B st d1 d2 c ⟨#[]⟩ ⟨#[]⟩).val fun _ => undef) entR, @cv1 ((prNm A B st d1 d2 c ⟨#[]⟩ ⟨#[]⟩).val fun _ => undef) en2R] (@cvF ((prNm A B st d1 d2 c ⟨#[]⟩ ⟨#[]⟩).val fun _ => undef) (sI 72)) := by rw [pr_A, pr_B, e1]; exact h
  exact fa y fz
theorem pr_fit {a b : Bool} (hA : Ans fFits [stkV st, A.val] (.bool a)) (hB : a = true → Ans fFits [stkV st, B.val] (.bool b)) : ∀ t, t ∈ fiY a b → Ans t.f (t.a.map (@cvF ((prNm A B st d1 d2 c ⟨#[]⟩ ⟨#[]⟩).val fun _ => undef))) (@cvF ((prNm A B st d1 d2 c ⟨#[]⟩ ⟨#[]⟩).val fun _ => undef) t.r) := by
  have y1 : Ans fFits [@cv1 ((prNm A B st d1 d2 c ⟨#[]⟩ ⟨#[]⟩).val fun _ => undef) stkR, @cv1 ((prNm A B st d1 d2 c ⟨#[]⟩ ⟨#[]⟩).val fun _ => undef) entR] (.bool a) := by rw [pr_A, pr_st]; exact hA
  cases a
  · exact fa y1 fz
  · have y2 : Ans fFits [@cv1 ((prNm A B st d1 d2 c ⟨#[]⟩ ⟨#[]⟩).val fun _ => undef) stkR, @cv1 ((prNm A B st d1 d2 c ⟨#[]⟩ ⟨#[]⟩).val fun _ => undef) en2R] (.bool b) := by rw [pr_B, pr_st]; exact hB rfl
    exact fa y1 (fa y2 fz)
end
/-- What Convict answers: c the class of the pair, a and b whether the entries fit, q whether the digests are equal, g whether the first one comes behind. -/
def convV (c : Nat) (a b q g : Bool) (A B : Ent) : Value := if c < 4 then tupC (prV entZ entZ) false 81 else if a then (if b then cvV q g A B else tupC (prV entZ entZ) false 82) else tupC (prV entZ entZ) false 82
theorem conv_a {A B : Ent} {st : Nat → Int} {a b : Bool} {d1 d2 c : Int} (hc : Ans fChk [stkV st, A.val, B.val] (.int .i64 (chkV (pCls A B) a b))) (hD : pCls A B = 4 → Ans fDigOf [A.val] (.int .i64 d1) ∧ Ans fDigOf [B.val] (.int .i64 d2) ∧ Ans fCmpE [A.val, B.val] (.int .i64 c)) : Ans fConv [stkV st, A.val, B.val] (convV (pCls A B) a b (d1 == d2) (decide (0 < c)) A B) := by
  have hk := cv_no
  simp only [Bool.and_eq_true] at hk
  unfold chkV at hc
  unfold convV
  by_cases h : pCls A B < 4
  · rw [if_pos h] at hc ⊢
    have hy := pr_chk (d1 := d1) (d2 := d2) (c := c) hc
    have ht : @TbOK ((prNm A B st d1 d2 c ⟨#[]⟩ ⟨#[]⟩).val fun _ => undef) (cvN 81) := by
      letI : Val := ((prNm A B st d1 d2 c ⟨#[]⟩ ⟨#[]⟩).val fun _ => undef)
      exact { Y := hy }
    exact done_val _ ht hk.1 rfl (holds_all fz) (zR_flat 81) (zR_cv 81) pr_args3
  · rw [if_neg h] at hc ⊢
    have h82 : ckR a b = 82 → Ans fConv [stkV st, A.val, B.val] (tupC (prV entZ entZ) false 82) := fun h8 => by
      rw [h8] at hc
      have hy := pr_chk (d1 := d1) (d2 := d2) (c := c) hc
      have ht : @TbOK ((prNm A B st d1 d2 c ⟨#[]⟩ ⟨#[]⟩).val fun _ => undef) (cvN 82) := by
        letI : Val := ((prNm A B st d1 d2 c ⟨#[]⟩ ⟨#[]⟩).val fun _ => undef)
        exact { Y := hy }
      exact done_val _ ht hk.2 rfl (holds_all fz) (zR_flat 82) (zR_cv 82) pr_args3
    cases a
    · exact h82 rfl
    · cases b
      · exact h82 rfl
      · have hc : Ans fChk [stkV st, A.val, B.val] (.int .i64 0) := hc
        obtain ⟨g1, g2, g3⟩ := hD (by have := pCls_le A B; omega)
        have y1 := pr_chk (d1 := d1) (d2 := d2) (c := c) hc
        have y2 := pr_dY (st := st) (c := c) g1 g2
        have y3 := pr_cmp (st := st) (d1 := d1) (d2 := d2) g3
        have t1 := pr_dT (A := A) (B := B) (st := st) (c := c) (d1 := d1) (d2 := d2) rfl
        have t2 : @TETrue ((prNm A B st d1 d2 c ⟨#[]⟩ ⟨#[]⟩).val fun _ => undef) ⟨.bin .gtr, sI 72, lI 0, bR (decide (0 < c))⟩ := @f_gtr ((prNm A B st d1 d2 c ⟨#[]⟩ ⟨#[]⟩).val fun _ => undef) _ _ _ _ _ _ pr72 rfl rfl
        have ht : @TbOK ((prNm A B st d1 d2 c ⟨#[]⟩ ⟨#[]⟩).val fun _ => undef) (cvA (d1 == d2) (decide (0 < c))) := by
          letI : Val := ((prNm A B st d1 d2 c ⟨#[]⟩ ⟨#[]⟩).val fun _ => undef)
          exact { T := fapp t1 (fa t2 fz), Y := fapp y1 (fapp y2 y3) }
        exact done_val _ ht (all2_all (all2_all cv_ok (d1 == d2)) (decide (0 < c))) (cvR_w _ _) (holds_all prS_ok) (cvR_flat _ _) (cvR_cv _ _) pr_args3
theorem conv_b {A B : Ent} {st : Nat → Int} {a b g : Bool} {d1 d2 : Int} (hD : pCls A B = 4 → Ans fRDigest0 [A.val] (.int .i64 d1) ∧ Ans fRDigest0 [B.val] (.int .i64 d2) ∧ Ans fRLess [B.val, A.val] (.bool g) ∧ Ans fFits [stkV st, A.val] (.bool a) ∧ Ans fFits [stkV st, B.val] (.bool b)) : Ans fRConv [stkV st, A.val, B.val] (convV (pCls A B) a b (d1 == d2) g A B) := by
  have hT := paT_true (A := A) (B := B) (st := st) (d1 := d1) (d2 := d2) (c := 0) (e := ⟨#[]⟩) (f := ⟨#[]⟩)
  have hY := paY_true (A := A) (B := B) (st := st) (d1 := d1) (d2 := d2) (c := 0) (e := ⟨#[]⟩) (f := ⟨#[]⟩)
  unfold convV
  by_cases h : pCls A B < 4
  · rw [if_pos h]
    have ht : @TbOK ((prNm A B st d1 d2 0 ⟨#[]⟩ ⟨#[]⟩).val fun _ => undef) (rvN (pCls A B)) := by
      letI : Val := ((prNm A B st d1 d2 0 ⟨#[]⟩ ⟨#[]⟩).val fun _ => undef)
      exact { T := hT, Y := hY }
    exact done_val _ ht (allU_lt rc_no _ h) rfl (holds_all fz) (zR_flat 81) (zR_cv 81) pr_args3
  · rw [if_neg h]
    have h4 : pCls A B = 4 := by have := pCls_le A B; omega
    rw [h4] at hT hY
    obtain ⟨g1, g2, g3, g4, g5⟩ := hD h4
    have y1 := pr_fit (d1 := d1) (d2 := d2) (c := 0) g4 (fun _ => g5)
    have hk := rc_f
    simp only [Bool.and_eq_true] at hk
    cases a
    · have y1 := pr_fit (d1 := d1) (d2 := d2) (c := 0) (B := B) (b := false) g4 (fun h => by cases h)
      have ht : @TbOK ((prNm A B st d1 d2 0 ⟨#[]⟩ ⟨#[]⟩).val fun _ => undef) (rvF false false) := by
        letI : Val := ((prNm A B st d1 d2 0 ⟨#[]⟩ ⟨#[]⟩).val fun _ => undef)
        exact { T := hT, Y := fapp hY y1 }
      exact done_val _ ht hk.1 rfl (holds_all fz) (zR_flat 82) (zR_cv 82) pr_args3
    · cases b
      · have ht : @TbOK ((prNm A B st d1 d2 0 ⟨#[]⟩ ⟨#[]⟩).val fun _ => undef) (rvF true false) := by
          letI : Val := ((prNm A B st d1 d2 0 ⟨#[]⟩ ⟨#[]⟩).val fun _ => undef)
          exact { T := hT, Y := fapp hY y1 }
        exact done_val _ ht hk.2 rfl (holds_all fz) (zR_flat 82) (zR_cv 82) pr_args3
      · have y2 := pr_dY (st := st) (c := 0) g1 g2
        have t1 := pr_dT (A := A) (B := B) (st := st) (c := 0) (d1 := d1) (d2 := d2) rfl
        have y3 : Ans fRLess [@cv1 ((prNm A B st d1 d2 0 ⟨#[]⟩ ⟨#[]⟩).val fun _ => undef) en2R, @cv1 ((prNm A B st d1 d2 0 ⟨#[]⟩ ⟨#[]⟩).val fun _ => undef) entR] (.bool g) := by rw [pr_A, pr_B]; exact g3
        have ht : @TbOK ((prNm A B st d1 d2 0 ⟨#[]⟩ ⟨#[]⟩).val fun _ => undef) (rvA (d1 == d2) g) := by
          letI : Val := ((prNm A B st d1 d2 0 ⟨#[]⟩ ⟨#[]⟩).val fun _ => undef)
          exact { T := fapp hT t1, Y := fapp hY (fapp y1 (fapp y2 (fa y3 fz))) }
        exact done_val _ ht (all2_all (all2_all rc_ok (d1 == d2)) g) (cvR_w _ _) (holds_all prS_ok) (cvR_flat _ _) (cvR_cv _ _) pr_args3
end Go.Proofs.Z

namespace Go.Proofs.Z
open Go Go.RowKit Go.Proofs Go.Ri Go.Proofs.Z.Fa
/-! Convict and CheckProof of both packages: contracts. -/
theorem fits_core {A : Ent} {st im : Nat → Int} {d : Int} (hd : 0 ≤ d ∧ d < 65536) (hi : ∀ q k, k < 16 → Ans (imF q) [.int .u64 (A.se k)] (.int .u64 (im k))) (hD : Ans fDigest [A.val] (tup2 (.int .i64 d) (.int .i64 0))) (hR : Ans fRDigest0 [A.val] (.int .i64 d)) : Ans fFits [stkV st, A.val] (.bool (fitB im st d)) := by
  have := vloop (va := .bool true) (vb := .bool false) f_enter (allU2 f_again) (allU2 f_bad) f_end (fun _ => rfl) (fun _ => rfl) (st := st) (im := im) hd hi hD hR
  cases h : fitB im st d <;> rw [h] at this <;> exact this
theorem digV_dig {A : Ent} (h : A.cls = 5) : digV A.p A.n A.x A.s = digM A.p A.n A.x A.s ∧ digE A.p A.n A.s.size = 0 := by
  unfold Ent.cls at h
  exact ⟨if_neg (by omega), if_neg (by omega)⟩
theorem fits_ans {A : Ent} {st : Nat → Int} (hA : EntOK A) (h : A.cls = 5) : Ans fFits [stkV st, A.val] (.bool (fitE st A)) := by
  have hD := @digest_ans true A.p A.n A.x A.s A.se hA.x
  rw [(digV_dig h).1, (digV_dig h).2] at hD
  have hR := @dig0_ans false A.p A.n A.x A.s A.se h hA.x
  have hi : ∀ q k, k < 16 → Ans (imF q) [.int .u64 (A.se k)] (.int .u64 (imageM (A.se k))) := fun q k hk => image_ans q _ (hA.se k hk).1 (hA.se k hk).2
  have hd := digM_in A.p A.n A.x A.s
  unfold fitE
  generalize digM A.p A.n A.x A.s = d at *
  exact fits_core (im := fun k => imageM (A.se k)) hd hi hD hR
def cvF2 (q : Bool) : Nat := if q then fConv else fRConv
def digEn (A : Ent) : Int := digM A.p A.n A.x A.s
/-- What Convict answers. -/
def convM (st : Nat → Int) (A B : Ent) : Value := convV (pCls A B) (fitE st A) (fitE st B) (digEn A == digEn B) (decide (0 < cmpEn A B)) A B
theorem cmpEn_swap (A B : Ent) : cmpEn B A = - cmpEn A B := cb_swap _ _
theorem conv_ans (q : Bool) {A B : Ent} {st : Nat → Int} (hA : EntOK A) (hB : EntOK B) : Ans (cvF2 q) [stkV st, A.val, B.val] (convM st A B) := by
  unfold convM
  cases q
  · refine conv_b fun h4 => ?_
    obtain ⟨h1, h2, _, _⟩ := pCls_in h4
    have hl := less_ans hB hA h2 h1
    rw [cmpEn_swap, show decide (- cmpEn A B < 0) = decide (0 < cmpEn A B) from decide_eq_decide.2 (by omega)] at hl
    exact ⟨@dig0_ans false A.p A.n A.x A.s A.se h1 hA.x, @dig0_ans false B.p B.n B.x B.s B.se h2 hB.x, hl, fits_ans hA h1, fits_ans hB h2⟩
  · refine conv_a (chk_ans hA hB) fun h4 => ?_
    obtain ⟨h1, h2, _, _⟩ := pCls_in h4
    exact ⟨@dig0_ans true A.p A.n A.x A.s A.se h1 hA.x, @dig0_ans true B.p B.n B.x B.s B.se h2 hB.x, cmp_ans hA hB h1 h2⟩
/-! CheckProof. -/
def cpV (c : Nat) (a b l q : Bool) : Int := if c < 4 then 81 else if l then (if q then 81 else ckR a b) else 81
section
variable {A B : Ent} {st : Nat → Int} {d1 d2 c : Int}
theorem pr_argsP (w : World) : All2 (@Go.Ri.NVal ((prNm A B st d1 d2 c ⟨#[]⟩ ⟨#[]⟩).val fun _ => undef) w) prD [stkV st, prV A B] := by
  have h := @nval_flat ((prNm A B st d1 d2 c ⟨#[]⟩ ⟨#[]⟩).val fun _ => undef) w prD rfl
  rw [show prD.map (@cvF ((prNm A B st d1 d2 c ⟨#[]⟩ ⟨#[]⟩).val fun _ => undef)) = [stkV st, prV A B] by
    show [@cv1 ((prNm A B st d1 d2 c ⟨#[]⟩ ⟨#[]⟩).val fun _ => undef) stkR, @cv1 ((prNm A B st d1 d2 c ⟨#[]⟩ ⟨#[]⟩).val fun _ => undef) (prR entK enfK)] = _
    rw [pr_st, prR_cv (V := ((prNm A B st d1 d2 c ⟨#[]⟩ ⟨#[]⟩).val fun _ => undef)) entK_cv enfK_cv]] at h
  exact h
end
theorem ckR_fit (a b : Bool) : ckR a b = fitL (a && b) := by
  cases a <;> rfl
theorem chp_a {A B : Ent} {st : Nat → Int} {a b : Bool} {d1 d2 c : Int} (hc : Ans fChk [stkV st, A.val, B.val] (.int .i64 (chkV (pCls A B) a b))) (hD : pCls A B = 4 → Ans fDigOf [A.val] (.int .i64 d1) ∧ Ans fDigOf [B.val] (.int .i64 d2) ∧ Ans fCmpE [A.val, B.val] (.int .i64 c)) : Ans fChP [stkV st, prV A B] (.int .i64 (cpV (pCls A B) a b (decide (c < 0)) (d1 == d2))) := by
  unfold chkV at hc
  unfold cpV
  by_cases h : pCls A B < 4
  · rw [if_pos h] at hc ⊢
    have hy := pr_chk (d1 := d1) (d2 := d2) (c := c) hc
    have ht : @TbOK ((prNm A B st d1 d2 c ⟨#[]⟩ ⟨#[]⟩).val fun _ => undef) (cvN 81) := by
      letI : Val := ((prNm A B st d1 d2 c ⟨#[]⟩ ⟨#[]⟩).val fun _ => undef)
      exact { Y := hy }
    exact done_val _ ht cp_no rfl (holds_all fz) rfl rfl pr_argsP
  · rw [if_neg h] at hc ⊢
    rw [ckR_fit] at hc ⊢
    obtain ⟨g1, g2, g3⟩ := hD (by have := pCls_le A B; omega)
    have y1 := pr_chk (d1 := d1) (d2 := d2) (c := c) hc
    have y2 := pr_dY (st := st) (c := c) g1 g2
    have y3 := pr_cmp (st := st) (d1 := d1) (d2 := d2) g3
    have t1 := pr_dT (A := A) (B := B) (st := st) (c := c) (d1 := d1) (d2 := d2) rfl
    have t2 : @TETrue ((prNm A B st d1 d2 c ⟨#[]⟩ ⟨#[]⟩).val fun _ => undef) ⟨.bin .geq, sI 72, lI 0, bR (decide (0 ≤ c))⟩ := @f_geq ((prNm A B st d1 d2 c ⟨#[]⟩ ⟨#[]⟩).val fun _ => undef) _ _ _ _ _ _ pr72 rfl rfl
    have ht : @TbOK ((prNm A B st d1 d2 c ⟨#[]⟩ ⟨#[]⟩).val fun _ => undef) (cpA (fitL (a && b)) (decide (0 ≤ c)) (d1 == d2)) := by
      letI : Val := ((prNm A B st d1 d2 c ⟨#[]⟩ ⟨#[]⟩).val fun _ => undef)
      exact { T := fapp t1 (fa t2 fz), Y := fapp y1 (fapp y2 y3) }
    have hr : (if decide (c < 0) = true then if (d1 == d2) = true then 81 else fitL (a && b) else 81) = (if decide (0 ≤ c) = true then (81 : Int) else if (d1 == d2) = true then 81 else fitL (a && b)) := by
      by_cases h0 : c < 0
      · rw [decide_eq_true h0, decide_eq_false (show ¬ 0 ≤ c by omega)]
        rfl
      · rw [decide_eq_false h0, decide_eq_true (show 0 ≤ c by omega)]
        rfl
    rw [hr]
    exact done_val _ ht (all2_all (all2_all (all2_all cp_ok (a && b)) (decide (0 ≤ c))) (d1 == d2)) rfl (holds_all fz) rfl rfl pr_argsP
theorem chp_b {A B : Ent} {st : Nat → Int} {a b l : Bool} {d1 d2 : Int} (hD : pCls A B = 4 → Ans fRDigest0 [A.val] (.int .i64 d1) ∧ Ans fRDigest0 [B.val] (.int .i64 d2) ∧ Ans fRLess [A.val, B.val] (.bool l) ∧ Ans fFits [stkV st, A.val] (.bool a) ∧ Ans fFits [stkV st, B.val] (.bool b)) : Ans fRChP [stkV st, prV A B] (.int .i64 (cpV (pCls A B) a b l (d1 == d2))) := by
  have hT := paT_true (A := A) (B := B) (st := st) (d1 := d1) (d2 := d2) (c := 0) (e := ⟨#[]⟩) (f := ⟨#[]⟩)
  have hY := paY_true (A := A) (B := B) (st := st) (d1 := d1) (d2 := d2) (c := 0) (e := ⟨#[]⟩) (f := ⟨#[]⟩)
  unfold cpV
  by_cases h : pCls A B < 4
  · rw [if_pos h]
    have ht : @TbOK ((prNm A B st d1 d2 0 ⟨#[]⟩ ⟨#[]⟩).val fun _ => undef) (rvN (pCls A B)) := by
      letI : Val := ((prNm A B st d1 d2 0 ⟨#[]⟩ ⟨#[]⟩).val fun _ => undef)
      exact { T := hT, Y := hY }
    exact done_val _ ht (allU_lt rp_no _ h) rfl (holds_all fz) rfl rfl pr_argsP
  · rw [if_neg h]
    have h4 : pCls A B = 4 := by have := pCls_le A B; omega
    rw [h4] at hT hY
    obtain ⟨g1, g2, g3, g4, g5⟩ := hD h4
    have y2 := pr_dY (st := st) (c := 0) g1 g2
    have y3 : Ans fRLess [@cv1 ((prNm A B st d1 d2 0 ⟨#[]⟩ ⟨#[]⟩).val fun _ => undef) entR, @cv1 ((prNm A B st d1 d2 0 ⟨#[]⟩ ⟨#[]⟩).val fun _ => undef) en2R] (.bool l) := by rw [pr_A, pr_B]; exact g3
    have hk := rp_81
    have hf := rp_f
    simp only [Bool.and_eq_true] at hk hf
    have t81 : ∀ q, (d1 == d2) = q → @TbOK ((prNm A B st d1 d2 0 ⟨#[]⟩ ⟨#[]⟩).val fun _ => undef) (rpA l q) := fun q hq => by
      have t1 := pr_dT (A := A) (B := B) (st := st) (c := 0) (d1 := d1) (d2 := d2) hq
      letI : Val := ((prNm A B st d1 d2 0 ⟨#[]⟩ ⟨#[]⟩).val fun _ => undef)
      exact { T := fapp hT t1, Y := fapp hY (fa y3 y2) }
    cases l
    · cases hq : (d1 == d2)
      · exact done_val _ (t81 _ hq) hk.1 rfl (holds_all fz) rfl rfl pr_argsP
      · exact done_val _ (t81 _ hq) hk.2.1 rfl (holds_all fz) rfl rfl pr_argsP
    · cases hq : (d1 == d2)
      · have t1 := pr_dT (A := A) (B := B) (st := st) (c := 0) (d1 := d1) (d2 := d2) hq
        have tF : ∀ b', (a = true → Ans fFits [stkV st, B.val] (.bool b')) → @TbOK ((prNm A B st d1 d2 0 ⟨#[]⟩ ⟨#[]⟩).val fun _ => undef) (rpF a b') := fun b' hb' => by
          have y1 := pr_fit (A := A) (d1 := d1) (d2 := d2) (c := 0) g4 hb'
          letI : Val := ((prNm A B st d1 d2 0 ⟨#[]⟩ ⟨#[]⟩).val fun _ => undef)
          exact { T := fapp hT t1, Y := fapp hY (fa y3 (fapp y2 y1)) }
        cases a
        · exact done_val _ (tF false (fun h => by cases h)) hf.1 rfl (holds_all fz) rfl rfl pr_argsP
        · cases b
          · exact done_val _ (tF false (fun _ => g5)) hf.2.1 rfl (holds_all fz) rfl rfl pr_argsP
          · exact done_val _ (tF true (fun _ => g5)) hf.2.2 rfl (holds_all fz) rfl rfl pr_argsP
      · exact done_val _ (t81 _ hq) hk.2.2 rfl (holds_all fz) rfl rfl pr_argsP
def cpF2 (q : Bool) : Nat := if q then fChP else fRChP
/-- What CheckProof answers. -/
def chpM (st : Nat → Int) (A B : Ent) : Int := cpV (pCls A B) (fitE st A) (fitE st B) (decide (cmpEn A B < 0)) (digEn A == digEn B)
theorem chp_ans (q : Bool) {A B : Ent} {st : Nat → Int} (hA : EntOK A) (hB : EntOK B) : Ans (cpF2 q) [stkV st, prV A B] (.int .i64 (chpM st A B)) := by
  unfold chpM
  cases q
  · refine chp_b fun h4 => ?_
    obtain ⟨h1, h2, _, _⟩ := pCls_in h4
    exact ⟨@dig0_ans false A.p A.n A.x A.s A.se h1 hA.x, @dig0_ans false B.p B.n B.x B.s B.se h2 hB.x, less_ans hA hB h1 h2, fits_ans hA h1, fits_ans hB h2⟩
  · refine chp_a (chk_ans hA hB) fun h4 => ?_
    obtain ⟨h1, h2, _, _⟩ := pCls_in h4
    exact ⟨@dig0_ans true A.p A.n A.x A.s A.se h1 hA.x, @dig0_ans true B.p B.n B.x B.s B.se h2 hB.x, cmp_ans hA hB h1 h2⟩
end Go.Proofs.Z

namespace Go.Proofs.Z
open Go Go.RowKit Go.Proofs Go.Ri Go.Proofs.Z.Fa
/-! Has, and the law BookConvicts: runs. 630 and 631 the indices, 80 the error, 81 and 82 what CheckProof answers; list 22 a parish's sticks. -/
abbrev fHas : Nat := 8
abbrev fBookConvicts : Nat := 3
/-- m: 0 not valid, 1 no such parish, 2 no such number, 3 it has one. -/
def haT (m : Nat) : List TE := (if Nat.blt m 1 then [] else [⟨.bin .lss, sI 50, sI 601, bR (!Nat.beq m 1)⟩]) ++ (if Nat.blt m 2 then [] else [⟨.inb, sI 50, sI 601, bR true⟩, ⟨.bin .lss, sI 51, sI 602, bR (!Nat.beq m 2)⟩])
noncomputable def haA (m : Nat) : Tb := { T := haT m, Y := [⟨fRValid, [entR], bR (!Nat.beq m 0)⟩], LL := [⟨20, 1, sI 601⟩, ⟨22, 32, sI 602⟩], LNE := if Nat.blt m 2 then [] else [⟨20, 50, 22⟩] }
def haD : List RV := [.slL 20 32, entR]
set_option maxRecDepth 100000 in
theorem ha_run : (allU 4 fun m => doneQ (haA m) [] fHas haD [] [] (bR (Nat.beq m 3)) []) = true := by kernel_rfl
def bcD : List RV := [wldR, sI 630, sI 631]
noncomputable def bcU (ne : Bool) : List QE := [⟨fPool, [wldR], poR ne, poHp ne⟩, ⟨fSticksOf, [wldR], .slN 0 20 1, [some (.lstL 20 tSticks 32)]⟩]
/-- few is false, or there are no items: the index's sign. -/
noncomputable def bcN (fw q : Bool) : Tb := { X := saneX, T := [⟨.bin .lss, sI 630, lI 0, bR q⟩, ⟨.bin .geq, sI 630, lI 0, bR (!q)⟩], C := [⟨fFew, [wldR], bR fw⟩], U := if fw then qnU (bcU false) else fun _ _ _ => none }
set_option maxRecDepth 100000 in
theorem bc_no : (all2 fun fw => all2 fun q => doneQ (bcN fw q) [] fBookConvicts bcD [] [] (bR true) []) = true := by kernel_rfl
/-- The number i of the tests of the indices. -/
def ixt (i : Nat) (q : Bool) : List TE := if i = 0 then [⟨.bin .lss, sI 630, lI 0, bR (!q)⟩] else if i = 1 then [⟨.bin .geq, sI 630, sI 604, bR (!q)⟩, ⟨.inb, sI 630, sI 604, bR q⟩] else if i = 2 then [⟨.bin .lss, sI 631, lI 0, bR (!q)⟩] else [⟨.bin .geq, sI 631, sI 604, bR (!q)⟩, ⟨.inb, sI 631, sI 604, bR q⟩]
def ixT (m : Nat) : List TE := (List.range (Nat.min (m + 1) 4)).flatMap fun i => ixt i (Nat.blt i m)
noncomputable def bcI (m : Nat) : Tb := { X := saneX, T := ixT m, C := [⟨fFew, [wldR], bR true⟩], U := qnU (bcU true), LL := [⟨9, 20, sI 604⟩] }
set_option maxRecDepth 100000 in
theorem bc_ix : (allU 4 fun m => doneQ (bcI m) [] fBookConvicts bcD [] [] (bR true) []) = true := by kernel_rfl
def bcS (has : Bool) : List RV := if has then skC else (List.range 32).map fun _ => lU 0
def bcP (v : Nat) : RV := if Nat.beq v 0 then prR zenK zenK else if Nat.beq v 1 then prR entK enfK else prR enfK entK
def bcY (has : Bool) (v : Nat) : List YE := [⟨fConv, [.agg (bcS has), entR, en2R], .tup [bcP v, bR (!Nat.beq v 0), sI 80]⟩, ⟨fRConv, [.agg (bcS has), entR, en2R], .tup [bcP v, bR (!Nat.beq v 0), sI 80]⟩] ++
  ([⟨fChP, [.agg (bcS has), prR entK enfK], if Nat.beq v 1 then lI 0 else sI 81⟩, ⟨fRChP, [.agg (bcS has), prR entK enfK], if Nat.beq v 1 then lI 0 else sI 81⟩] ++ [⟨fChP, [.agg (bcS has), bcP v], if Nat.beq v 0 then sI 82 else lI 0⟩, ⟨fRChP, [.agg (bcS has), bcP v], if Nat.beq v 0 then sI 82 else lI 0⟩])
noncomputable def bcA (has : Bool) (v : Nat) : Tb := { X := saneX, T := ixT 4 ++ (if has then [⟨.inb, sI 50, sI 601, bR true⟩, ⟨.inb, sI 51, sI 602, bR true⟩] else []), C := [⟨fFew, [wldR], bR true⟩, ⟨fHas, haD, bR has⟩], U := qnU (bcU true), LL := [⟨9, 20, sI 604⟩, ⟨20, 1, sI 601⟩, ⟨22, 32, sI 602⟩], LX := [⟨9, 630, entK⟩, ⟨9, 631, enfK⟩] ++ (if has then [⟨22, 51, skC⟩] else []), LNE := if has then [⟨20, 50, 22⟩] else [], Y := bcY has v }
end Go.Proofs.Z
