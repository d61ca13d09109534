/- A part of the proofs that the laws of layer eight answer true for every input. -/
import Derived.Test.YtjeikabpnplogaaZBE
namespace Go.Proofs.Z
open Go Go.RowKit Go.Proofs Go.Ri Go.Proofs.Z.Fa
/-! MakeStick of both packages: runs. 100 to 131 the secrets, 200 to 231 their images. -/
abbrev fMk : Nat := 12
abbrev fRMk : Nat := 13
def mkD : List RV := [sU 0, sI 50, sI 51]
def stkR : RV := .agg ((List.range 32).map fun i => sU (200 + i))
def stk0 : RV := .agg ((List.range 32).map fun _ => lU 0)
def mkY (fs fi : Nat) (own : Bool) : List YE := (List.range 32).flatMap fun i => [⟨fs, [sU 0, sI 50, sI 51, lI ((i / 2 : Nat) : Int), lI ((i % 2 : Nat) : Int)], if own then .tup [sU (100 + i), lI 0] else sU (100 + i)⟩, ⟨fi, [sU (100 + i)], sU (200 + i)⟩]
noncomputable def mkA : Tb := { Y := mkY fSec fImg true }
noncomputable def mkB : Tb := { T := scT 8, Y := mkY fSecL fRImage false }
def mkS : List SE := (List.range 32).map fun i => .int (200 + i) (sU (200 + i))
set_option maxRecDepth 100000 in
theorem mk_a : doneQ mkA [true] fMk mkD mkS [] (.tup [stkR, lI 0]) [] = true := by kernel_rfl
set_option maxRecDepth 100000 in
theorem mk_b : doneQ mkB [true] fRMk mkD mkS [] (.tup [stkR, lI 0]) [] = true := by kernel_rfl
set_option maxRecDepth 100000 in
theorem mk_no : (allU 4 fun m => doneQ { Y := [⟨fSec, [sU 0, sI 50, sI 51, lI 0, lI 0], .tup [lU 0, lI 1]⟩] } [true] fMk mkD [] [] (.tup [stk0, lI 1]) [] && doneQ { T := scT m } [true] fRMk mkD [] [] (.tup [stk0, lI 1]) []) = true := by kernel_rfl
end Go.Proofs.Z

namespace Go.Proofs.Z
open Go Go.RowKit Go.Proofs Go.Ri Go.Proofs.Z.Fa
/-! MakeStick of both packages: contracts. -/
def mkI (x p n : Int) (se im : Nat → Int) (k : Nat) : Int := if k < 50 then x else if k < 54 then pick4 p n 0 0 (k - 50) else if k < 132 then se (k - 100) else im (k - 200)
def mkNm (x p n : Int) (se im : Nat → Int) : Nm := ⟨mkI x p n se im, fun _ => false, fun _ => ba [], fun _ => []⟩
section
variable {x p n : Int} {se im : Nat → Int}
theorem mkI_p : ∀ i, i < 4 → mkI x p n se im (50 + i) = pick4 p n 0 0 i := fun i hi => by
  unfold mkI
  rw [if_neg (by omega), if_pos (by omega), Nat.add_sub_cancel_left]
theorem mkI_s : ∀ i, i < 32 → mkI x p n se im (100 + i) = se i := fun i hi => by
  unfold mkI
  rw [if_neg (by omega), if_neg (by omega), if_pos (by omega), Nat.add_sub_cancel_left]
theorem mkI_i : ∀ i, mkI x p n se im (200 + i) = im i := fun i => by
  unfold mkI
  rw [if_neg (by omega), if_neg (by omega), if_neg (by omega), Nat.add_sub_cancel_left]
def stkV (im : Nat → Int) : Value := .agg ((List.range 32).map fun i => Value.int .u64 (im i)).toArray
theorem stk_cv : @cv1 ((mkNm x p n se im).val fun _ => undef) stkR = stkV im := by
  show Value.agg (((List.range 32).map fun i => sU (200 + i)).map (@cv ((mkNm x p n se im).val fun _ => undef))).toArray = Value.agg ((List.range 32).map fun i => Value.int .u64 (im i)).toArray
  rw [List.map_map]
  exact congrArg (fun l : List Value => Value.agg l.toArray) (List.map_congr_left fun i _ => congrArg (Value.int .u64) (mkI_i (x := x) (p := p) (n := n) (se := se) (im := im) i))
theorem stk0_cv [Val] : cv1 stk0 = stkV fun _ => 0 := by
  show Value.agg (((List.range 32).map fun _ => lU 0).map cv).toArray = Value.agg ((List.range 32).map fun _ => Value.int .u64 0).toArray
  rw [List.map_map]
  exact congrArg (fun l : List Value => Value.agg l.toArray) (List.map_congr_left fun _ _ => rfl)
theorem mkS_ok : @Holds mkS ((mkNm x p n se im).val fun _ => undef) ((mkNm x p n se im).val fun _ => undef) := by
  refine holds_all fun e he => ?_
  obtain ⟨i, _, rfl⟩ := List.mem_map.1 he
  exact ⟨.u64, im i, congrArg (Value.int .u64) (mkI_i (x := x) (p := p) (n := n) (se := se) (im := im) i), mkI_i i⟩
theorem mk_args (w : World) : All2 (@Go.Ri.NVal ((mkNm x p n se im).val fun _ => undef) w) mkD [.int .u64 x, .int .i64 p, .int .i64 n] := .cons rfl (.cons rfl (.cons rfl .nil))
theorem mkY_true (own : Bool) {fs fi : Nat} (hs : ∀ i, i < 32 → Ans fs [.int .u64 x, .int .i64 p, .int .i64 n, .int .i64 ((i / 2 : Nat) : Int), .int .i64 ((i % 2 : Nat) : Int)] (if own then tup2 (.int .u64 (se i)) (.int .i64 0) else .int .u64 (se i)))
    (hi : ∀ i, i < 32 → Ans fi [.int .u64 (se i)] (.int .u64 (im i))) : ∀ e, e ∈ mkY fs fi own → Ans e.f (e.a.map (@cvF ((mkNm x p n se im).val fun _ => undef))) (@cvF ((mkNm x p n se im).val fun _ => undef) e.r) := by
  letI : Val := (mkNm x p n se im).val fun _ => undef
  intro e he
  obtain ⟨i, hlt, he⟩ := List.mem_flatMap.1 he
  have hlt := List.mem_range.1 hlt
  have es : cvF (sU (100 + i)) = .int .u64 (se i) := congrArg (Value.int .u64) (mkI_s i hlt)
  have ei : cvF (sU (200 + i)) = .int .u64 (im i) := congrArg (Value.int .u64) (mkI_i i)
  rcases List.mem_cons.1 he with rfl | he
  · have h := hs i hlt
    cases own
    · show Ans fs [.int .u64 x, .int .i64 p, .int .i64 n, .int .i64 ((i / 2 : Nat) : Int), .int .i64 ((i % 2 : Nat) : Int)] (cvF (sU (100 + i)))
      rw [es]
      exact h
    · show Ans fs [.int .u64 x, .int .i64 p, .int .i64 n, .int .i64 ((i / 2 : Nat) : Int), .int .i64 ((i % 2 : Nat) : Int)] (tup2 (cvF (sU (100 + i))) (.int .i64 0))
      rw [es]
      exact h
  · obtain rfl := List.mem_singleton.1 he
    show Ans fi [cvF (sU (100 + i))] (cvF (sU (200 + i)))
    rw [es, ei]
    exact hi i hlt
end
theorem stk0_flat : flat (.tup [stk0, lI 1]) = true := by kernel_rfl
theorem stkR_flat : flat (.tup [stkR, lI 0]) = true := by kernel_rfl
def mkF (q : Bool) : Nat := if q then fMk else fRMk
theorem cls_iff {p n b v : Int} : secCls p n b v = 8 ↔ 0 ≤ p ∧ p ≤ 7 ∧ 0 ≤ n ∧ n ≤ 63 ∧ 0 ≤ b ∧ b ≤ 15 ∧ 0 ≤ v ∧ v ≤ 1 := by
  constructor
  · intro h
    have g := fun j hj => firstBad_pass (secTest p n b v) 8 0 j (Nat.zero_le _) (show j < secCls p n b v by rw [h]; exact hj)
    have g0 := g 0 (by omega); have g1 := g 1 (by omega); have g2 := g 2 (by omega); have g3 := g 3 (by omega); have g4 := g 4 (by omega); have g5 := g 5 (by omega); have g6 := g 6 (by omega); have g7 := g 7 (by omega)
    simp [secTest] at g0 g1 g2 g3 g4 g5 g6 g7
    exact ⟨g0, g1, g2, g3, g4, g5, g6, g7⟩
  · rintro ⟨h0, h1, h2, h3, h4, h5, h6, h7⟩
    simp [secCls, firstBad, secTest, h0, h1, h2, h3, h4, h5, h6, h7]
theorem cls_four {p n : Int} (h : secCls p n 0 0 < 8) : secCls p n 0 0 < 4 := by
  rcases Nat.lt_or_ge (secCls p n 0 0) 4 with h1 | h1
  · exact h1
  · have hf : secTest p n 0 0 (secCls p n 0 0) = false := firstBad_fail (secTest p n 0 0) 8 0 (by show secCls p n 0 0 < 0 + 8; omega)
    generalize secCls p n 0 0 = c at *
    have : c = 4 ∨ c = 5 ∨ c = 6 ∨ c = 7 := by omega
    rcases this with rfl | rfl | rfl | rfl <;> simp [secTest] at hf
def stkM (x p n : Int) (i : Nat) : Int := if secCls p n 0 0 < 8 then 0 else imageM (secretM x p n ((i / 2 : Nat) : Int) ((i % 2 : Nat) : Int))
theorem cls_le (p n b v : Int) : secCls p n b v ≤ 8 := by
  have : secCls p n b v ≤ 0 + 8 := firstBad_le (secTest p n b v) 8 0
  omega
@[irreducible] def z0 (_ : Nat) : Int := 0
theorem mk_core (q : Bool) {x p n : Int} {se im : Nat → Int} (hc : secCls p n 0 0 = 8) (hs : ∀ i, i < 32 → Ans fSec [.int .u64 x, .int .i64 p, .int .i64 n, .int .i64 ((i / 2 : Nat) : Int), .int .i64 ((i % 2 : Nat) : Int)] (tup2 (.int .u64 (se i)) (.int .i64 0)))
    (hl : ∀ i, i < 32 → Ans fSecL [.int .u64 x, .int .i64 p, .int .i64 n, .int .i64 ((i / 2 : Nat) : Int), .int .i64 ((i % 2 : Nat) : Int)] (.int .u64 (se i))) (hi : ∀ q i, i < 32 → Ans (imF q) [.int .u64 (se i)] (.int .u64 (im i))) :
    Ans (mkF q) [.int .u64 x, .int .i64 p, .int .i64 n] (tup2 (stkV im) (.int .i64 0)) := by
  have hv : @cvF ((mkNm x p n se im).val fun _ => undef) (.tup [stkR, lI 0]) = tup2 (stkV im) (.int .i64 0) := congrArg (fun z => Value.tuple #[z, .int .i64 0]) (stk_cv (x := x) (p := p) (n := n) (se := se) (im := im))
  cases q
  · have ht : @TbOK ((mkNm x p n se im).val fun _ => undef) mkB := by
      have hT := @scT_true ((mkNm x p n se im).val fun _ => undef) p n 0 0 mkI_p
      rw [hc] at hT
      letI : Val := (mkNm x p n se im).val fun _ => undef
      exact { T := hT, Y := mkY_true false hl (hi false) }
    exact done_val _ ht mk_b rfl mkS_ok stkR_flat hv mk_args
  · have ht : @TbOK ((mkNm x p n se im).val fun _ => undef) mkA := by
      letI : Val := (mkNm x p n se im).val fun _ => undef
      exact { Y := mkY_true true hs (hi true) }
    exact done_val _ ht mk_a rfl mkS_ok stkR_flat hv mk_args
theorem w64_in (m : Int) : 0 ≤ w64 m ∧ w64 m < 18446744073709551616 := by
  show 0 ≤ m % 18446744073709551616 ∧ m % 18446744073709551616 < 18446744073709551616
  omega
theorem hashM_in (s : ByteArray) : 0 ≤ hashM s ∧ hashM s < 18446744073709551616 := by
  unfold hashM hend hxor
  exact w64_in _
theorem secretM_in (x p n b v : Int) : 0 ≤ secretM x p n b v ∧ secretM x p n b v < 18446744073709551616 := by
  rw [secretM_is]
  exact hashM_in _
theorem mk_ans (q : Bool) {x p n : Int} (h0 : 0 ≤ x) (h1 : x < 18446744073709551616) : Ans (mkF q) [.int .u64 x, .int .i64 p, .int .i64 n] (tup2 (stkV (stkM x p n)) (.int .i64 (secE p n 0 0))) := by
  by_cases hc : secCls p n 0 0 < 8
  · have e1 : stkM x p n = fun _ => 0 := funext fun i => if_pos hc
    have e2 : secE p n 0 0 = 1 := if_pos hc
    rw [e1, e2]
    have hd := allU_lt mk_no _ (cls_four hc)
    simp only [Bool.and_eq_true] at hd
    have hv : ∀ V : Val, @cvF V (.tup [stk0, lI 1]) = tup2 (stkV fun _ => 0) (.int .i64 1) := fun V => congrArg (fun z => Value.tuple #[z, .int .i64 1]) (@stk0_cv V)
    cases q
    · have ht : @TbOK ((mkNm x p n z0 z0).val fun _ => undef) { T := scT (secCls p n 0 0) } := by
        have hT := @scT_true ((mkNm x p n z0 z0).val fun _ => undef) p n 0 0 mkI_p
        letI : Val := (mkNm x p n z0 z0).val fun _ => undef
        exact { T := hT }
      exact done_val _ ht hd.2 rfl (holds_all fz) stk0_flat (hv _) mk_args
    · have hs := @secret_ans true x p n 0 0 h0 h1
      rw [show secV x p n 0 0 = 0 from if_pos hc, e2] at hs
      have ht : @TbOK ((mkNm x p n z0 z0).val fun _ => undef) { Y := [⟨fSec, [sU 0, sI 50, sI 51, lI 0, lI 0], .tup [lU 0, lI 1]⟩] } := by
        letI : Val := (mkNm x p n z0 z0).val fun _ => undef
        exact { Y := fa hs fz }
      exact done_val _ ht hd.1 rfl (holds_all fz) stk0_flat (hv _) mk_args
  · have h8 : secCls p n 0 0 = 8 := by
      have := cls_le p n 0 0
      omega
    have e1 : stkM x p n = fun i => imageM (secretM x p n ((i / 2 : Nat) : Int) ((i % 2 : Nat) : Int)) := funext fun i => if_neg hc
    have e2 : secE p n 0 0 = 0 := if_neg hc
    rw [e1, e2]
    have hi8 : ∀ i : Nat, i < 32 → secCls p n ((i / 2 : Nat) : Int) ((i % 2 : Nat) : Int) = 8 := fun i hi => by
      obtain ⟨a, b, c, d, _⟩ := cls_iff.1 h8
      refine cls_iff.2 ⟨a, b, c, d, ?_, ?_, ?_, ?_⟩ <;> omega
    refine mk_core q (se := fun i => secretM x p n ((i / 2 : Nat) : Int) ((i % 2 : Nat) : Int)) (im := fun i => imageM (secretM x p n ((i / 2 : Nat) : Int) ((i % 2 : Nat) : Int))) h8 (fun i hi => ?_) (fun i hi => secl_ans h0 h1 (hi8 i hi)) fun q i _ => image_ans q _ (secretM_in _ _ _ _ _).1 (secretM_in _ _ _ _ _).2
    have hs := @secret_ans true x p n ((i / 2 : Nat) : Int) ((i % 2 : Nat) : Int) h0 h1
    have hn : ¬ secCls p n ((i / 2 : Nat) : Int) ((i % 2 : Nat) : Int) < 8 := by rw [hi8 i hi]; omega
    rw [show secV x p n ((i / 2 : Nat) : Int) ((i % 2 : Nat) : Int) = secretM x p n ((i / 2 : Nat) : Int) ((i % 2 : Nat) : Int) from if_neg hn, show secE p n ((i / 2 : Nat) : Int) ((i % 2 : Nat) : Int) = 0 from if_neg hn] at hs
    exact hs
end Go.Proofs.Z
