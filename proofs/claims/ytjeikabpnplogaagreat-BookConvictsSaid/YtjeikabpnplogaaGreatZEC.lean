/- A part of the proofs that the laws of layer eight answer true for every input. -/
import Derived.Test.YtjeikabpnplogaaGreatZDJ
import Derived.Test.YtjeikabpnplogaaGreatZBU
import Derived.Lib.Bytealg
namespace Go.Proofs.Z
open Go Go.RowKit Go.Proofs Go.Ri Go.Proofs.Z.Fa
/-! Convict and CheckProof of both packages: runs. The second entry: 60, 61, 1, string 2, 320 to 335; strings 4 and 7 the encodings; 70 and 71 the digests, 72 the comparison. -/
abbrev fChk : Nat := 36
abbrev fCmpE : Nat := 38
abbrev fCmpS : Nat := 102
abbrev fIsV : Nat := 47
abbrev fConv : Nat := 9
abbrev fRConv : Nat := 10
abbrev fChP : Nat := 11
abbrev fRChP : Nat := 12
abbrev fRLess : Nat := 41
set_option maxRecDepth 100000 in
theorem iv_run : (allU 6 fun m => doneQ { T := ecT m } [] fIsV [entR] [] [] (bR (Nat.beq m 5)) []) = true := by kernel_rfl
def en2R : RV := .agg ([sI 60, sI 61, sU 1, sT 2] ++ (List.range 16).map fun i => sU (320 + i))
/-- The number i of the tests of two entries. -/
def prT (i : Nat) (q : Bool) : List TE := if i = 2 then [⟨.ieq, sI 50, sI 60, bR q⟩] else if i = 3 then [⟨.ieq, sI 51, sI 61, bR q⟩] else []
def prY (i : Nat) (q : Bool) : List YE := if i = 0 then [⟨fIsV, [entR], bR q⟩, ⟨fRValid, [entR], bR q⟩] else if i = 1 then [⟨fIsV, [en2R], bR q⟩, ⟨fRValid, [en2R], bR q⟩] else []
def paT (m : Nat) : List TE := (List.range (Nat.min (m + 1) 4)).flatMap fun i => prT i (Nat.blt i m)
def paY (m : Nat) : List YE := (List.range (Nat.min (m + 1) 4)).flatMap fun i => prY i (Nat.blt i m)
def fitL (q : Bool) : Int := if q then 0 else 82
def ckR (a b : Bool) : Int := if a then fitL b else 82
noncomputable def chN (m : Nat) : Tb := { T := paT m, Y := paY m }
noncomputable def chA (a b : Bool) : Tb := { T := paT 4, Y := paY 4 ++ [⟨fVerB, [stkR, entR], lI (fitL a)⟩, ⟨fVerB, [stkR, en2R], lI (fitL b)⟩] }
set_option maxRecDepth 100000 in
theorem ch_no : (allU 4 fun m => doneQ (chN m) [] fChk [stkR, entR, en2R] [] [] (lI 81) []) = true := by kernel_rfl
set_option maxRecDepth 100000 in
theorem ch_ok : (all2 fun a => all2 fun b => doneQ (chA a b) [] fChk [stkR, entR, en2R] [] [] (lI (ckR a b)) []) = true := by kernel_rfl
noncomputable def cmA : Tb := { Y := [⟨fEncOf, [entR], sT 4⟩, ⟨fEncOf, [en2R], sT 7⟩], EX := [⟨fCmpS, [sT 4, sT 7], sI 72⟩] }
set_option maxRecDepth 100000 in
theorem cm_run : doneQ cmA [] fCmpE [entR, en2R] [.int 72 (sI 72)] [] (sI 72) [] = true := by kernel_rfl
noncomputable def leA (q : Bool) : Tb := { T := [⟨.bin .lss, sT 4, sT 7, bR q⟩], Y := [⟨fREnc0, [entR], sT 4⟩, ⟨fREnc0, [en2R], sT 7⟩] }
set_option maxRecDepth 100000 in
theorem le_run : (all2 fun q => doneQ (leA q) [] fRLess [entR, en2R] [] [] (bR q) []) = true := by kernel_rfl
end Go.Proofs.Z

namespace Go.Proofs.Z
open Go Go.RowKit Go.Proofs Go.Ri Go.Proofs.Z.Fa
/-! Two entries: checkPair, compare, Less: contracts. -/
def Ent.val (e : Ent) : Value := entVal e.p e.n e.x e.s e.se
def Ent.cls (e : Ent) : Nat := eCls e.p e.n e.s.size
def Ent.enc (e : Ent) : List UInt8 := encL e.p e.n e.x e.s e.se
def prI (A B : Ent) (st : Nat → Int) (d1 d2 c : Int) (k : Nat) : Int := if k = 0 then A.x else if k = 1 then B.x else if k = 50 then A.p else if k = 51 then A.n else if k = 60 then B.p else if k = 61 then B.n else if k = 70 then d1 else if k = 71 then d2 else if k = 72 then c else if k < 232 then st (k - 200) else if k < 316 then A.se (k - 300) else B.se (k - 320)
def prS (A B : Ent) (e f : ByteArray) (k : Nat) : ByteArray := if k = 1 then A.s else if k = 2 then B.s else if k = 4 then e else f
def prNm (A B : Ent) (st : Nat → Int) (d1 d2 c : Int) (e f : ByteArray) : Nm := ⟨prI A B st d1 d2 c, fun _ => false, prS A B e f, fun _ => []⟩
section
variable {A B : Ent} {st : Nat → Int} {d1 d2 c : Int} {e f : ByteArray}
theorem pr50 : @cv ((prNm A B st d1 d2 c e f).val fun _ => undef) (sI 50) = .int .i64 A.p := congrArg (Value.int .i64) (show prI A B st d1 d2 c 50 = A.p by simp [prI])
theorem pr51 : @cv ((prNm A B st d1 d2 c e f).val fun _ => undef) (sI 51) = .int .i64 A.n := congrArg (Value.int .i64) (show prI A B st d1 d2 c 51 = A.n by simp [prI])
theorem pr60 : @cv ((prNm A B st d1 d2 c e f).val fun _ => undef) (sI 60) = .int .i64 B.p := congrArg (Value.int .i64) (show prI A B st d1 d2 c 60 = B.p by simp [prI])
theorem pr61 : @cv ((prNm A B st d1 d2 c e f).val fun _ => undef) (sI 61) = .int .i64 B.n := congrArg (Value.int .i64) (show prI A B st d1 d2 c 61 = B.n by simp [prI])
theorem pr70 : @cv ((prNm A B st d1 d2 c e f).val fun _ => undef) (sI 70) = .int .i64 d1 := congrArg (Value.int .i64) (show prI A B st d1 d2 c 70 = d1 by simp [prI])
theorem pr71 : @cv ((prNm A B st d1 d2 c e f).val fun _ => undef) (sI 71) = .int .i64 d2 := congrArg (Value.int .i64) (show prI A B st d1 d2 c 71 = d2 by simp [prI])
theorem pr72 : @cv ((prNm A B st d1 d2 c e f).val fun _ => undef) (sI 72) = .int .i64 c := congrArg (Value.int .i64) (show prI A B st d1 d2 c 72 = c by simp [prI])
theorem pr_a (i : Nat) (hi : i < 16) : prI A B st d1 d2 c (300 + i) = A.se i := by
  unfold prI
  rw [if_neg (by omega), if_neg (by omega), if_neg (by omega), if_neg (by omega), if_neg (by omega), if_neg (by omega), if_neg (by omega), if_neg (by omega), if_neg (by omega), if_neg (by omega), if_pos (by omega), Nat.add_sub_cancel_left]
theorem pr_b (i : Nat) : prI A B st d1 d2 c (320 + i) = B.se i := by
  unfold prI
  rw [if_neg (by omega), if_neg (by omega), if_neg (by omega), if_neg (by omega), if_neg (by omega), if_neg (by omega), if_neg (by omega), if_neg (by omega), if_neg (by omega), if_neg (by omega), if_neg (by omega), Nat.add_sub_cancel_left]
theorem pr_A : @cv1 ((prNm A B st d1 d2 c e f).val fun _ => undef) entR = A.val := @entG_of ((prNm A B st d1 d2 c e f).val fun _ => undef) _ _ _ _ 300 A.p A.n A.x A.s A.se pr50 pr51 rfl rfl pr_a
theorem pr_B : @cv1 ((prNm A B st d1 d2 c e f).val fun _ => undef) en2R = B.val := @entG_of ((prNm A B st d1 d2 c e f).val fun _ => undef) _ _ _ _ 320 B.p B.n B.x B.s B.se pr60 pr61 rfl rfl fun i _ => pr_b i
theorem pr_st : @cv1 ((prNm A B st d1 d2 c e f).val fun _ => undef) stkR = stkV st := by
  show Value.agg (((List.range 32).map fun i => sU (200 + i)).map (@cv ((prNm A B st d1 d2 c e f).val fun _ => undef))).toArray = Value.agg ((List.range 32).map fun i => Value.int .u64 (st i)).toArray
  rw [List.map_map]
  refine congrArg (fun l : List Value => Value.agg l.toArray) (List.map_congr_left fun i hi => ?_)
  have hi := List.mem_range.1 hi
  show Value.int .u64 (prI A B st d1 d2 c (200 + i)) = _
  unfold prI
  rw [if_neg (by omega), if_neg (by omega), if_neg (by omega), if_neg (by omega), if_neg (by omega), if_neg (by omega), if_neg (by omega), if_neg (by omega), if_neg (by omega), if_pos (by omega), Nat.add_sub_cancel_left]
theorem pr_args3 (w : World) : All2 (@Go.Ri.NVal ((prNm A B st d1 d2 c e f).val fun _ => undef) w) [stkR, entR, en2R] [stkV st, A.val, B.val] := by
  have h := @nval_flat ((prNm A B st d1 d2 c e f).val fun _ => undef) w [stkR, entR, en2R] rfl
  rw [show [stkR, entR, en2R].map (@cvF ((prNm A B st d1 d2 c e f).val fun _ => undef)) = [stkV st, A.val, B.val] by
    show [@cv1 ((prNm A B st d1 d2 c e f).val fun _ => undef) stkR, @cv1 ((prNm A B st d1 d2 c e f).val fun _ => undef) entR, @cv1 ((prNm A B st d1 d2 c e f).val fun _ => undef) en2R] = _
    rw [pr_st, pr_A, pr_B]] at h
  exact h
theorem pr_args2 (w : World) : All2 (@Go.Ri.NVal ((prNm A B st d1 d2 c e f).val fun _ => undef) w) [entR, en2R] [A.val, B.val] := by
  have h := @nval_flat ((prNm A B st d1 d2 c e f).val fun _ => undef) w [entR, en2R] rfl
  rw [show [entR, en2R].map (@cvF ((prNm A B st d1 d2 c e f).val fun _ => undef)) = [A.val, B.val] by
    show [@cv1 ((prNm A B st d1 d2 c e f).val fun _ => undef) entR, @cv1 ((prNm A B st d1 d2 c e f).val fun _ => undef) en2R] = _
    rw [pr_A, pr_B]] at h
  exact h
end
theorem isv_ans {p n x : Int} {s : ByteArray} {se : Nat → Int} : Ans fIsV [entVal p n x s se] (.bool (Nat.beq (eCls p n s.size) 5)) := by
  have hT := @ecX_true (ecV p n x s se) p n s (eCls p n s.size) rfl rfl rfl rfl rfl
  have ht : @TbOK (ecV p n x s se) { T := ecT (eCls p n s.size) } := by
    letI : Val := ecV p n x s se
    exact { T := hT }
  have hle := eCls_le p n s.size
  exact done_val _ ht (allU_lt iv_run _ (by omega)) rfl (holds_all fz) rfl rfl ec_args
def pTest (A B : Ent) (i : Nat) : Bool := if i = 0 then Nat.beq A.cls 5 else if i = 1 then Nat.beq B.cls 5 else if i = 2 then A.p == B.p else A.n == B.n
def pCls (A B : Ent) : Nat := firstBad (pTest A B) 4 0
theorem pCls_le (A B : Ent) : pCls A B ≤ 4 := by
  have : pCls A B ≤ 0 + 4 := firstBad_le (pTest A B) 4 0
  omega
theorem pCls_in {A B : Ent} (h : pCls A B = 4) : A.cls = 5 ∧ B.cls = 5 ∧ A.p = B.p ∧ A.n = B.n := by
  have g := fun j hj => firstBad_pass (pTest A B) 4 0 j (Nat.zero_le _) (show j < pCls A B by rw [h]; exact hj)
  have g0 := g 0 (by omega); have g1 := g 1 (by omega); have g2 := g 2 (by omega); have g3 := g 3 (by omega)
  simp only [pTest] at g0 g1 g2 g3
  exact ⟨Nat.eq_of_beq_eq_true g0, Nat.eq_of_beq_eq_true g1, beq_iff_eq.1 g2, beq_iff_eq.1 g3⟩
theorem pCls_blt {A B : Ent} {i : Nat} (hi : i < Nat.min (pCls A B + 1) 4) : i < 4 ∧ Nat.blt i (pCls A B) = pTest A B i := by
  have h1 : i < pCls A B + 1 := Nat.lt_of_lt_of_le hi (Nat.min_le_left _ _)
  refine ⟨Nat.lt_of_lt_of_le hi (Nat.min_le_right _ _), ?_⟩
  have h2 : i < 4 := Nat.lt_of_lt_of_le hi (Nat.min_le_right _ _)
  rcases Nat.lt_or_ge i (pCls A B) with hl | hl
  · rw [firstBad_pass (pTest A B) 4 0 i (Nat.zero_le _) hl]
    exact Nat.ble_eq_true_of_le hl
  · obtain rfl : i = pCls A B := by omega
    rw [show pTest A B (pCls A B) = false from firstBad_fail (pTest A B) 4 0 (by show pCls A B < 0 + 4; omega)]
    have := Nat.lt_irrefl (pCls A B)
    exact Bool.eq_false_iff.2 fun hc => this (Nat.le_of_ble_eq_true hc)
section
variable {A B : Ent} {st : Nat → Int} {d1 d2 c : Int} {e f : ByteArray}
theorem paT_true : ∀ t, t ∈ paT (pCls A B) → @TETrue ((prNm A B st d1 d2 c e f).val fun _ => undef) t := by
  intro t ht
  obtain ⟨i, hi, ht⟩ := List.mem_flatMap.1 ht
  obtain ⟨h4, hq⟩ := pCls_blt (List.mem_range.1 hi)
  rw [hq] at ht
  have key : ∀ t, t ∈ prT i (pTest A B i) → @TETrue ((prNm A B st d1 d2 c e f).val fun _ => undef) t := by
    match i, h4 with
    | 0, _ => exact fz
    | 1, _ => exact fz
    | 2, _ => exact fa (@f_ieq ((prNm A B st d1 d2 c e f).val fun _ => undef) _ _ _ _ _ _ pr50 pr60 rfl) fz
    | 3, _ => exact fa (@f_ieq ((prNm A B st d1 d2 c e f).val fun _ => undef) _ _ _ _ _ _ pr51 pr61 rfl) fz
  exact key t ht
theorem paY_true : ∀ t, t ∈ paY (pCls A B) → Ans t.f (t.a.map (@cvF ((prNm A B st d1 d2 c e f).val fun _ => undef))) (@cvF ((prNm A B st d1 d2 c e f).val fun _ => undef) t.r) := by
  intro t ht
  obtain ⟨i, hi, ht⟩ := List.mem_flatMap.1 ht
  obtain ⟨h4, hq⟩ := pCls_blt (List.mem_range.1 hi)
  rw [hq] at ht
  have key : ∀ t, t ∈ prY i (pTest A B i) → Ans t.f (t.a.map (@cvF ((prNm A B st d1 d2 c e f).val fun _ => undef))) (@cvF ((prNm A B st d1 d2 c e f).val fun _ => undef) t.r) := by
    match i, h4 with
    | 0, _ =>
      have a1 : Ans fIsV [@cv1 ((prNm A B st d1 d2 c e f).val fun _ => undef) entR] (.bool (Nat.beq A.cls 5)) := by rw [pr_A]; exact isv_ans
      have a2 : Ans fRValid [@cv1 ((prNm A B st d1 d2 c e f).val fun _ => undef) entR] (.bool (Nat.beq A.cls 5)) := by rw [pr_A]; exact valid_ans
      exact fa a1 (fa a2 fz)
    | 1, _ =>
      have a1 : Ans fIsV [@cv1 ((prNm A B st d1 d2 c e f).val fun _ => undef) en2R] (.bool (Nat.beq B.cls 5)) := by rw [pr_B]; exact isv_ans
      have a2 : Ans fRValid [@cv1 ((prNm A B st d1 d2 c e f).val fun _ => undef) en2R] (.bool (Nat.beq B.cls 5)) := by rw [pr_B]; exact valid_ans
      exact fa a1 (fa a2 fz)
    | 2, _ => exact fz
    | 3, _ => exact fz
  exact key t ht
end
def fitE (st : Nat → Int) (A : Ent) : Bool := fitB (fun k => imageM (A.se k)) st (digM A.p A.n A.x A.s)
theorem verV_fit {st : Nat → Int} {A : Ent} (h : A.cls = 5) : verV st A.p A.n A.x A.s A.se = fitL (fitE st A) := by
  unfold verV fitE
  rw [if_neg (by unfold Ent.cls at h; omega)]
  rfl
def chkV (c : Nat) (a b : Bool) : Int := if c < 4 then 81 else ckR a b
theorem chk_core {A B : Ent} {st : Nat → Int} {a b : Bool} (hA : Ans fVerB [stkV st, A.val] (.int .i64 (fitL a))) (hB : Ans fVerB [stkV st, B.val] (.int .i64 (fitL b))) (h : pCls A B = 4) : Ans fChk [stkV st, A.val, B.val] (.int .i64 (ckR a b)) := by
  have hT := paT_true (A := A) (B := B) (st := st) (d1 := 0) (d2 := 0) (c := 0) (e := ⟨#[]⟩) (f := ⟨#[]⟩)
  have hY := paY_true (A := A) (B := B) (st := st) (d1 := 0) (d2 := 0) (c := 0) (e := ⟨#[]⟩) (f := ⟨#[]⟩)
  rw [h] at hT hY
  have ht : @TbOK ((prNm A B st 0 0 0 ⟨#[]⟩ ⟨#[]⟩).val fun _ => undef) (chA a b) := by
    have y1 : Ans fVerB [@cv1 ((prNm A B st 0 0 0 ⟨#[]⟩ ⟨#[]⟩).val fun _ => undef) stkR, @cv1 ((prNm A B st 0 0 0 ⟨#[]⟩ ⟨#[]⟩).val fun _ => undef) entR] (.int .i64 (fitL a)) := by rw [pr_A, pr_st]; exact hA
    have y2 : Ans fVerB [@cv1 ((prNm A B st 0 0 0 ⟨#[]⟩ ⟨#[]⟩).val fun _ => undef) stkR, @cv1 ((prNm A B st 0 0 0 ⟨#[]⟩ ⟨#[]⟩).val fun _ => undef) en2R] (.int .i64 (fitL b)) := by rw [pr_B, pr_st]; exact hB
    letI : Val := (prNm A B st 0 0 0 ⟨#[]⟩ ⟨#[]⟩).val fun _ => undef
    exact { T := hT, Y := fapp hY (fa y1 (fa y2 fz)) }
  exact done_val _ ht (all2_all (all2_all ch_ok a) b) rfl (holds_all fz) rfl rfl pr_args3
theorem chk_no {A B : Ent} {st : Nat → Int} (h : pCls A B < 4) : Ans fChk [stkV st, A.val, B.val] (.int .i64 81) := by
  have hT := paT_true (A := A) (B := B) (st := st) (d1 := 0) (d2 := 0) (c := 0) (e := ⟨#[]⟩) (f := ⟨#[]⟩)
  have hY := paY_true (A := A) (B := B) (st := st) (d1 := 0) (d2 := 0) (c := 0) (e := ⟨#[]⟩) (f := ⟨#[]⟩)
  have ht : @TbOK ((prNm A B st 0 0 0 ⟨#[]⟩ ⟨#[]⟩).val fun _ => undef) (chN (pCls A B)) := by
    letI : Val := (prNm A B st 0 0 0 ⟨#[]⟩ ⟨#[]⟩).val fun _ => undef
    exact { T := hT, Y := hY }
  exact done_val _ ht (allU_lt ch_no _ h) rfl (holds_all fz) rfl rfl pr_args3
/-- checkPair of the program. -/
theorem chk_ans {A B : Ent} {st : Nat → Int} (hA : EntOK A) (hB : EntOK B) : Ans fChk [stkV st, A.val, B.val] (.int .i64 (chkV (pCls A B) (fitE st A) (fitE st B))) := by
  unfold chkV
  by_cases h : pCls A B < 4
  · rw [if_pos h]
    exact chk_no h
  · rw [if_neg h]
    have h4 : pCls A B = 4 := by
      have := pCls_le A B
      omega
    obtain ⟨h1, h2, _, _⟩ := pCls_in h4
    have v1 := verify_ans true (st := st) (p := A.p) (n := A.n) (s := A.s) hA.x hA.se
    have v2 := verify_ans true (st := st) (p := B.p) (n := B.n) (s := B.s) hB.x hB.se
    rw [verV_fit h1] at v1
    rw [verV_fit h2] at v2
    exact chk_core v1 v2 h4
/-! Comparing. -/
theorem cb_less : ∀ x y : List UInt8, Op.bytesLess x y = decide (Lib.compareBytes x y < 0)
  | [], [] => rfl
  | [], _ :: _ => rfl
  | _ :: _, [] => rfl
  | a :: x, b :: y => by
    show (decide (a < b) || (a == b && Op.bytesLess x y)) = decide ((if a < b then (-1 : Int) else if b < a then 1 else Lib.compareBytes x y) < 0)
    by_cases h : a < b
    · rw [if_pos h, decide_eq_true h]
      rfl
    · rw [if_neg h, decide_eq_false h]
      by_cases h2 : b < a
      · rw [if_pos h2]
        have : (a == b) = false := beq_eq_false_iff_ne.2 fun e => by subst e; exact h h2
        rw [this]
        rfl
      · rw [if_neg h2, cb_less x y]
        have : a = b := UInt8.le_antisymm (UInt8.not_lt.1 h2) (UInt8.not_lt.1 h)
        rw [this, beq_self_eq_true]
        rfl
theorem cb_swap : ∀ x y : List UInt8, Lib.compareBytes y x = - Lib.compareBytes x y
  | [], [] => rfl
  | [], _ :: _ => rfl
  | _ :: _, [] => rfl
  | a :: x, b :: y => by
    show (if b < a then (-1 : Int) else if a < b then 1 else Lib.compareBytes y x) = - (if a < b then (-1 : Int) else if b < a then 1 else Lib.compareBytes x y)
    by_cases h : a < b
    · have h2 : ¬ b < a := fun h2 => UInt8.lt_irrefl a (UInt8.lt_trans h h2)
      rw [if_pos h, if_neg h2, if_pos h]
      rfl
    · by_cases h2 : b < a
      · rw [if_pos h2, if_neg h, if_pos h2]
      · rw [if_neg h2, if_neg h, if_neg h, if_neg h2]
        exact cb_swap x y
theorem cb_zero : ∀ x y : List UInt8, Lib.compareBytes x y = 0 → x = y
  | [], [], _ => rfl
  | [], _ :: _, h => by cases h
  | _ :: _, [], h => by cases h
  | a :: x, b :: y, h => by
    have h : (if a < b then (-1 : Int) else if b < a then 1 else Lib.compareBytes x y) = 0 := h
    by_cases h1 : a < b
    · rw [if_pos h1] at h
      cases h
    · by_cases h2 : b < a
      · rw [if_neg h1, if_pos h2] at h
        cases h
      · rw [if_neg h1, if_neg h2] at h
        rw [UInt8.le_antisymm (UInt8.not_lt.1 h2) (UInt8.not_lt.1 h1), cb_zero x y h]
def cmpEn (A B : Ent) : Int := Lib.compareBytes A.enc B.enc
theorem cmpS_ex (x y : List UInt8) (w : World) : (callFunc fCmpS #[.string (ba x), .string (ba y)]).run Tryz.prog w = .ok (.value (.int .i64 (Lib.compareBytes x y))) w := by
  rw [run_callFunc_extern (P := Tryz.prog) (f := fCmpS) (fn := Tryz.f102) (e := Extern.BytealgCompare.compare) (by kernel_rfl) (by kernel_rfl) (by kernel_rfl) (by kernel_rfl) (by kernel_rfl), Lib.run_compareString]
  rfl
theorem cmp_core {A B : Ent} {x y : List UInt8} (hA : Ans fEncOf [A.val] (.string (ba x))) (hB : Ans fEncOf [B.val] (.string (ba y))) : Ans fCmpE [A.val, B.val] (.int .i64 (Lib.compareBytes x y)) := by
  generalize hc : Lib.compareBytes x y = c
  have hv : @cv ((prNm A B (fun _ => 0) 0 0 c (ba x) (ba y)).val fun _ => undef) (sI 72) = .int .i64 c := pr72
  have ht : @TbOK ((prNm A B (fun _ => 0) 0 0 c (ba x) (ba y)).val fun _ => undef) cmA := by
    have y1 : Ans fEncOf [@cv1 ((prNm A B (fun _ => 0) 0 0 c (ba x) (ba y)).val fun _ => undef) entR] (.string (ba x)) := by rw [pr_A]; exact hA
    have y2 : Ans fEncOf [@cv1 ((prNm A B (fun _ => 0) 0 0 c (ba x) (ba y)).val fun _ => undef) en2R] (.string (ba y)) := by rw [pr_B]; exact hB
    have ex : @Go.Proofs.Z.EXTrue ((prNm A B (fun _ => 0) 0 0 c (ba x) (ba y)).val fun _ => undef) ⟨fCmpS, [sT 4, sT 7], sI 72⟩ := fun w => by
      show (callFunc fCmpS #[.string (ba x), .string (ba y)]).run Tryz.prog w = .ok (.value (@cv ((prNm A B (fun _ => 0) 0 0 c (ba x) (ba y)).val fun _ => undef) (sI 72))) w
      rw [hv, ← hc]
      exact cmpS_ex x y w
    letI : Val := (prNm A B (fun _ => 0) 0 0 c (ba x) (ba y)).val fun _ => undef
    exact { Y := fa y1 (fa y2 fz), EX := fa ex fz }
  exact done_val _ ht cm_run rfl (holds_all (fa ⟨.i64, c, hv, show prI A B (fun _ => 0) 0 0 c 72 = c by simp [prI]⟩ fz)) rfl hv pr_args2
theorem cmp_ans {A B : Ent} (hA : EntOK A) (hB : EntOK B) (h1 : A.cls = 5) (h2 : B.cls = 5) : Ans fCmpE [A.val, B.val] (.int .i64 (cmpEn A B)) := cmp_core (enc0_ans true h1 hA.x hA.se) (enc0_ans true h2 hB.x hB.se)
theorem less_core {A B : Ent} {x y : List UInt8} {q : Bool} (hq : Op.bytesLess x y = q) (hA : Ans fREnc0 [A.val] (.string (ba x))) (hB : Ans fREnc0 [B.val] (.string (ba y))) : Ans fRLess [A.val, B.val] (.bool q) := by
  have ht : @TbOK ((prNm A B (fun _ => 0) 0 0 0 (ba x) (ba y)).val fun _ => undef) (leA q) := by
    have y1 : Ans fREnc0 [@cv1 ((prNm A B (fun _ => 0) 0 0 0 (ba x) (ba y)).val fun _ => undef) entR] (.string (ba x)) := by rw [pr_A]; exact hA
    have y2 : Ans fREnc0 [@cv1 ((prNm A B (fun _ => 0) 0 0 0 (ba x) (ba y)).val fun _ => undef) en2R] (.string (ba y)) := by rw [pr_B]; exact hB
    have t1 : @TETrue ((prNm A B (fun _ => 0) 0 0 0 (ba x) (ba y)).val fun _ => undef) ⟨.bin .lss, sT 4, sT 7, bR q⟩ := by
      refine ⟨rfl, ?_⟩
      show TCTrue (.bin .lss) (.string (ba x)) (.string (ba y)) (.bool q)
      intro P ty a b w
      have hg : (eqGuard .lss ty a b (.string (ba x)) (.string (ba y))).run P w = .ok () w := guard_other (by simp) (by simp) w
      have hb : binOp .lss ty (.string (ba x)) (.string (ba y)) = Op.stringOp .lss (ba x) (ba y) := rfl
      have ht : ∀ l : List UInt8, (ba l).toList = l := fun l => by simp [ba]
      simp only [hg, hb, Op.stringOp, Sem.run_bind, Result.andThen_ok, ht, hq]
      rfl
    letI : Val := (prNm A B (fun _ => 0) 0 0 0 (ba x) (ba y)).val fun _ => undef
    exact { T := fa t1 fz, Y := fa y1 (fa y2 fz) }
  exact done_val _ ht (all2_all le_run q) rfl (holds_all fz) rfl rfl pr_args2
theorem less_ans {A B : Ent} (hA : EntOK A) (hB : EntOK B) (h1 : A.cls = 5) (h2 : B.cls = 5) : Ans fRLess [A.val, B.val] (.bool (decide (cmpEn A B < 0))) := less_core (cb_less _ _) (enc0_ans false h1 hA.x hA.se) (enc0_ans false h2 hB.x hB.se)
end Go.Proofs.Z
