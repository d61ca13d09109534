/- A part of the proofs that the laws of layer eight answer true for every input. -/
import Derived.Test.YtjeikabpnplogaaZBT
import Derived.Test.YtjeikabpnplogaaZBH
namespace Go.Proofs.Z
open Go Go.RowKit Go.Proofs Go.Ri Go.Proofs.Z.Fa
/-! Verify of both packages: its contract. -/
def mt (im st : Nat → Int) (d : Int) (k : Nat) : Bool := im k == st (2 * k + (hd2 d k % 2).toNat)
def fitB (im st : Nat → Int) (d : Int) : Bool := (List.range 16).all (mt im st d)
theorem vloop {f : Nat} {P : Nat → St} {R : List Nat} {a b : RV} {va vb : Value} (hE : atH (entN vE [] f [stkR, entR]) f 0 vS R (P 0) = true)
    (hA : ∀ k, k < 16 → ∀ v, v < 2 → atH (fromH (vA k v true) [] f 0 (P k)) f 0 vS R (P (k + 1)) = true) (hB : ∀ k, k < 16 → ∀ v, v < 2 → endF (vA k v false) f (fromH (vA k v false) [] f 0 (P k)) b = true) (hZ : endF {} f (fromH {} [] f 0 (P 16)) a = true)
    (ha : ∀ V : Val, @cvF V a = va) (hb : ∀ V : Val, @cvF V b = vb) {st im : Nat → Int} {p n x : Int} {s : ByteArray} {se : Nat → Int} {d : Int} (hd : 0 ≤ d ∧ d < 65536) (hi : ∀ q k, k < 16 → Ans (imF q) [.int .u64 (se k)] (.int .u64 (im k)))
    (hD : Ans fDigest [entVal p n x s se] (tup2 (.int .i64 d) (.int .i64 0))) (hR : Ans fRDigest0 [entVal p n x s se] (.int .i64 d)) : Ans f [stkV st, entVal p n x s se] (if fitB im st d then va else vb) := by
  intro w hr
  have hE4 : @cvF (vV st (im 0) p n x s se d) (sI 400) = .int .i64 d := congrArg (Value.int .i64) (show vI st (im 0) p n x s.size se d 400 = d from vI_d 0 (by omega))
  have ht0 : @TbOK ((vNm st (im 0) p n x s se d).val fun _ => undef) vE := by
    have y1 : Ans fDigest ([entR].map (@cvF (vV st (im 0) p n x s se d))) (@cvF (vV st (im 0) p n x s se d) (.tup [sI 400, lI 0])) := by
      show Ans fDigest [@cvF (vV st (im 0) p n x s se d) entR] (tup2 (@cvF (vV st (im 0) p n x s se d) (sI 400)) (.int .i64 0))
      rw [v_ent, hE4]
      exact hD
    have y2 : Ans fRDigest0 ([entR].map (@cvF (vV st (im 0) p n x s se d))) (@cvF (vV st (im 0) p n x s se d) (sI 400)) := by
      show Ans fRDigest0 [@cvF (vV st (im 0) p n x s se d) entR] (@cvF (vV st (im 0) p n x s se d) (sI 400))
      rw [v_ent, hE4]
      exact hR
    letI : Val := vV st (im 0) p n x s se d
    exact { Y := fa y1 (fa y2 fz) }
  refine fn_headsN (κ := Nat) (vNm st (im 0) p n x s se d) (fun _ => undef) vE [] f [stkR, entR] (fun _ => 0) P (fun m k c => k ≤ 16 ∧ m = 16 - k ∧ (∀ j, j < k → mt im st d j = true) ∧ c = vNm st (im k) p n x s se d) ht0 vS R 0 16 hE (vNm st (im 0) p n x s se d) (fun W' => holds_all vS_ok) ⟨by omega, rfl, fun j hj => absurd hj (Nat.not_lt_zero j), rfl⟩ (DF (if fitB im st d then va else vb)) ?_ w hr _ (v_args w)
  rintro w m k c ⟨hk, rfl, hall, rfl⟩ W
  rcases Nat.lt_or_ge k 16 with hlt | hge
  · have hq := hd2_in hd k
    have hv : hd2 d k % 2 = (((hd2 d k % 2).toNat : Nat) : Int) := by omega
    have hv2 : (hd2 d k % 2).toNat < 2 := by omega
    cases hm : mt im st d k with
    | true =>
      have ht := vA_ok (p := p) (n := n) (x := x) (s := s) (se := se) hd hlt hv hm (fun q => hi q k hlt) W
      exact stepH_to _ [] ht vS R rfl (k + 1) (vNm st (im (k + 1)) p n x s se d) (hA k hlt _ hv2) (fun W' => holds_all vS_ok) ⟨16 - (k + 1), by omega, by omega, rfl, fun j hj => by
        rcases Nat.lt_or_eq_of_le (Nat.le_of_lt_succ hj) with h | rfl
        · exact hall j h
        · exact hm, rfl⟩
    | false =>
      have ht := vA_ok (p := p) (n := n) (x := x) (s := s) (se := se) hd hlt hv hm (fun q => hi q k hlt) W
      have hf : fitB im st d = false := by
        rw [Bool.eq_false_iff]
        intro h
        have := List.all_eq_true.1 h k (List.mem_range.2 hlt)
        rw [hm] at this
        cases this
      rw [hf]
      exact stepH_outF _ [] ht b (hB k hlt _ hv2) (hb _)
  · obtain rfl : k = 16 := by omega
    have hf : fitB im st d = true := List.all_eq_true.2 fun j hj => hall j (List.mem_range.1 hj)
    rw [hf]
    have ht : @TbOK ((vNm st (im 16) p n x s se d).val W) {} := by
      letI : Val := (vNm st (im 16) p n x s se d).val W
      exact {}
    exact stepH_outF _ [] ht a hZ (ha _)
def veF (q : Bool) : Nat := if q then fVerB else fRVerify
/-- What Verify answers. -/
def verV (st : Nat → Int) (p n x : Int) (s : ByteArray) (se : Nat → Int) : Int := if eCls p n s.size < 5 then 81 else if fitB (fun k => imageM (se k)) st (digM p n x s) then 0 else 82
theorem allU2 {g : Nat → Nat → Bool} (h : (allU 16 fun k => allU 2 fun v => g k v) = true) : ∀ k, k < 16 → ∀ v, v < 2 → g k v = true := fun k hk v hv => allU_lt (allU_lt h k hk) v hv
theorem verify_bad (q : Bool) {st : Nat → Int} {p n x : Int} {s : ByteArray} {se : Nat → Int} (hc : eCls p n s.size < 5) (hx : 0 ≤ x ∧ x < 18446744073709551616) : Ans (veF q) [stkV st, entVal p n x s se] (.int .i64 81) := by
  cases q
  · have ht : @TbOK (vV st 0 p n x s se 0) { T := ecT (eCls p n s.size) } := by
      letI : Val := vV st 0 p n x s se 0
      exact { T := ecAny (congrArg (Value.int .i64) (show vI st 0 p n x s.size se 0 50 = p from v50)) (congrArg (Value.int .i64) (show vI st 0 p n x s.size se 0 51 = n from v51)) (congrArg (Value.int .i64) (show vI st 0 p n x s.size se 0 54 = (s.size : Int) from v54)) rfl rfl }
    exact done_val _ ht (allU_lt rv_no _ hc) rfl (holds_all fz) rfl rfl v_args
  · have ht : @TbOK (vV st 0 p n x s se 0) { Y := [⟨fDigest, [entR], .tup [lI 0, lI 81]⟩] } := by
      have y : Ans fDigest ([entR].map (@cvF (vV st 0 p n x s se 0))) (@cvF (vV st 0 p n x s se 0) (.tup [lI 0, lI 81])) := by
        show Ans fDigest [@cvF (vV st 0 p n x s se 0) entR] (tup2 (.int .i64 0) (.int .i64 81))
        rw [v_ent]
        have hD := @digest_ans true p n x s se hx
        rw [show digV p n x s = 0 from if_pos hc, show digE p n s.size = 81 from if_pos hc] at hD
        exact hD
      letI : Val := vV st 0 p n x s se 0
      exact { Y := fa y fz }
    exact done_val _ ht v_no rfl (holds_all fz) rfl rfl v_args
theorem verify_core (q : Bool) {st im : Nat → Int} {p n x : Int} {s : ByteArray} {se : Nat → Int} {d : Int} (hc : eCls p n s.size = 5) (hd : 0 ≤ d ∧ d < 65536) (hi : ∀ q k, k < 16 → Ans (imF q) [.int .u64 (se k)] (.int .u64 (im k)))
    (hD : Ans fDigest [entVal p n x s se] (tup2 (.int .i64 d) (.int .i64 0))) (hR : Ans fRDigest0 [entVal p n x s se] (.int .i64 d)) : Ans (veF q) [stkV st, entVal p n x s se] (.int .i64 (if fitB im st d then 0 else 82)) := by
  cases q
  · have hF : Ans fFits [stkV st, entVal p n x s se] (.bool (fitB im st d)) := by
      have := vloop (va := .bool true) (vb := .bool false) f_enter (allU2 f_again) (allU2 f_bad) f_end (fun _ => rfl) (fun _ => rfl) (st := st) (im := im) hd hi hD hR
      cases h : fitB im st d <;> rw [h] at this <;> exact this
    generalize fitB im st d = b at *
    have ht : @TbOK (vV st 0 p n x s se 0) { T := ecT 5, Y := [⟨fFits, [stkR, entR], bR b⟩] } := by
      have y : Ans fFits ([stkR, entR].map (@cvF (vV st 0 p n x s se 0))) (@cvF (vV st 0 p n x s se 0) (bR b)) := by
        show Ans fFits [@cvF (vV st 0 p n x s se 0) stkR, @cvF (vV st 0 p n x s se 0) entR] (.bool b)
        rw [v_ent, v_stk]
        exact hF
      letI : Val := vV st 0 p n x s se 0
      exact { T := ecAny (congrArg (Value.int .i64) (show vI st 0 p n x s.size se 0 50 = p from v50)) (congrArg (Value.int .i64) (show vI st 0 p n x s.size se 0 51 = n from v51)) (congrArg (Value.int .i64) (show vI st 0 p n x s.size se 0 54 = (s.size : Int) from v54)) rfl hc, Y := fa y fz }
    cases b
    · exact done_val _ ht (all2_all rv_ok false) rfl (holds_all fz) rfl rfl v_args
    · exact done_val _ ht (all2_all rv_ok true) rfl (holds_all fz) rfl rfl v_args
  · have := vloop (va := .int .i64 0) (vb := .int .i64 82) v_enter (allU2 v_again) (allU2 v_bad) v_end (fun _ => rfl) (fun _ => rfl) (st := st) (im := im) hd hi hD hR
    cases h : fitB im st d <;> rw [h] at this <;> exact this
theorem verify_ans (q : Bool) {st : Nat → Int} {p n x : Int} {s : ByteArray} {se : Nat → Int} (hx : 0 ≤ x ∧ x < 18446744073709551616) (hse : ∀ k, k < 16 → 0 ≤ se k ∧ se k < 18446744073709551616) : Ans (veF q) [stkV st, entVal p n x s se] (.int .i64 (verV st p n x s se)) := by
  unfold verV
  by_cases hc : eCls p n s.size < 5
  · rw [if_pos hc]
    exact verify_bad q hc hx
  · rw [if_neg hc]
    have h5 : eCls p n s.size = 5 := by
      have := eCls_le p n s.size
      omega
    have hD := @digest_ans true p n x s se hx
    rw [show digV p n x s = digM p n x s from if_neg hc, show digE p n s.size = 0 from if_neg hc] at hD
    exact verify_core q h5 (digM_in p n x s) (fun q k hk => image_ans q _ (hse k hk).1 (hse k hk).2) hD (dig0_ans false h5 hx)
end Go.Proofs.Z

namespace Go.Proofs.Z
open Go Go.RowKit Go.Proofs Go.Ri Go.Proofs.Z.Fa
/-! BookSeals answers true. 50, 51, 0, string 1, 300..: e; 60, 61, 1, string 2, 320..: f; 200..: the stick; 500..: the seal; 600 the seed; 800..: the stick of the seed; 70 to 72 what Verify answers. -/
abbrev fBookSeals : Nat := 5
def enfR : RV := .agg ([sI 60, sI 61, sU 1, sT 2] ++ (List.range 16).map fun i => sU (320 + i))
def st2R : RV := .agg ((List.range 32).map fun i => sU (800 + i))
def bsD : List RV := [sU 600, entR, enfR, stkR]
def bsY (r : RV) (e : Int) : List YE := [⟨fSealB, [sU 600, entR], .tup [r, lI e]⟩, ⟨fRSeal, [sU 600, entR], .tup [r, lI e]⟩, ⟨fVerB, [stkR, enfR], sI 70⟩, ⟨fRVerify, [stkR, enfR], sI 70⟩, ⟨fVerB, [stkR, r], sI 71⟩, ⟨fRVerify, [stkR, r], sI 71⟩]
noncomputable def bsNo : Tb := { X := saneX, Y := bsY zenR 81 }
noncomputable def bsOk : Tb := { X := saneX, Y := bsY senR 0 ++ [⟨fMk, [sU 600, sI 50, sI 51], .tup [st2R, lI 0]⟩, ⟨fVerB, [st2R, senR], lI 0⟩, ⟨fVerB, [st2R, enfR], sI 72⟩, ⟨fRVerify, [st2R, enfR], sI 72⟩] }
set_option maxRecDepth 100000 in
theorem bs_no : doneQ bsNo [] fBookSeals bsD [] [] (bR true) [] = true := by kernel_rfl
set_option maxRecDepth 100000 in
theorem bs_ok : doneQ bsOk [] fBookSeals bsD [] [] (bR true) [] = true := by kernel_rfl
theorem stk_fits {sd p n x : Int} {s : ByteArray} (hc : eCls p n s.size = 5) : fitB (fun k => imageM (sealM sd p n x s k)) (stkM sd p n) (digM p n x s) = true := by
  refine List.all_eq_true.2 fun k hk => ?_
  have hk := List.mem_range.1 hk
  obtain ⟨a, b, c, e, _⟩ := eCls_in hc
  have h8 : secCls p n 0 0 = 8 := cls_iff.2 ⟨a, b, c, e, by omega, by omega, by omega, by omega⟩
  have hv : hd2 (digM p n x s) k % 2 = (((hd2 (digM p n x s) k % 2).toNat : Nat) : Int) := by omega
  have hv2 : (hd2 (digM p n x s) k % 2).toNat < 2 := by omega
  show (imageM (sealM sd p n x s k) == stkM sd p n (2 * k + (hd2 (digM p n x s) k % 2).toNat)) = true
  rw [show stkM sd p n (2 * k + (hd2 (digM p n x s) k % 2).toNat) = imageM (secretM sd p n (((2 * k + (hd2 (digM p n x s) k % 2).toNat) / 2 : Nat) : Int) (((2 * k + (hd2 (digM p n x s) k % 2).toNat) % 2 : Nat) : Int)) from if_neg (by omega)]
  unfold sealM
  rw [hv]
  generalize (hd2 (digM p n x s) k % 2).toNat = v at *
  rw [Int.toNat_natCast, show (2 * k + v) / 2 = k by omega, show (2 * k + v) % 2 = v by omega]
  exact beq_self_eq_true _
theorem seal_fits {sd p n x : Int} {s : ByteArray} (hc : eCls p n s.size = 5) : verV (stkM sd p n) p n x s (sealM sd p n x s) = 0 := by
  unfold verV
  rw [if_neg (by omega), stk_fits hc]
  rfl
def lwI (sd p n x : Int) (se : Nat → Int) (p' n' x' : Int) (sf st s2 t2 : Nat → Int) (a b c : Int) (k : Nat) : Int :=
  if k = 0 then x else if k = 1 then x' else if k = 50 then p else if k = 51 then n else if k = 60 then p' else if k = 61 then n' else if k = 70 then a else if k = 71 then b else if k = 72 then c else if k < 300 then st (k - 200) else if k < 320 then se (k - 300) else if k < 500 then sf (k - 320) else if k < 600 then s2 (k - 500) else if k = 600 then sd else t2 (k - 800)
def lwNm (sd p n x : Int) (s : ByteArray) (se : Nat → Int) (p' n' x' : Int) (s' : ByteArray) (sf st s2 t2 : Nat → Int) (a b c : Int) : Nm := ⟨lwI sd p n x se p' n' x' sf st s2 t2 a b c, fun _ => false, fun k => if k = 1 then s else s', fun _ => []⟩
abbrev lwV (sd p n x : Int) (s : ByteArray) (se : Nat → Int) (p' n' x' : Int) (s' : ByteArray) (sf st s2 t2 : Nat → Int) (a b c : Int) : Val := (lwNm sd p n x s se p' n' x' s' sf st s2 t2 a b c).val fun _ => undef
theorem ent_gen [Val] {i j k t b : Nat} {p n x : Int} {s : ByteArray} {f : Nat → Int} (h1 : cv (sI i) = .int .i64 p) (h2 : cv (sI j) = .int .i64 n) (h3 : cv (sU k) = .int .u64 x) (h4 : cv (sT t) = .string s) (hf : ∀ q, q < 16 → Val.I (b + q) = f q) : cv1 (.agg ([sI i, sI j, sU k, sT t] ++ (List.range 16).map fun q => sU (b + q))) = entVal p n x s f := by
  show Value.agg ((([sI i, sI j, sU k, sT t] : List RV) ++ (List.range 16).map fun q => sU (b + q)).map cv).toArray = _
  rw [List.map_append, List.map_map]
  unfold entVal
  have hm : (List.range 16).map (cv ∘ fun q => sU (b + q)) = (List.range 16).map fun q => Value.int .u64 (f q) := List.map_congr_left fun q hq => by
    show Value.int .u64 (Val.I (b + q)) = _
    rw [hf q (List.mem_range.1 hq)]
  have h5 : ([sI i, sI j, sU k, sT t] : List RV).map cv = [.int .i64 p, .int .i64 n, .int .u64 x, .string s] := by
    show [cv (sI i), cv (sI j), cv (sU k), cv (sT t)] = _
    rw [h1, h2, h3, h4]
  rw [hm, h5]
theorem stk_gen [Val] {b : Nat} {f : Nat → Int} (hf : ∀ q, q < 32 → Val.I (b + q) = f q) : cv1 (.agg ((List.range 32).map fun q => sU (b + q))) = stkV f := by
  show Value.agg (((List.range 32).map fun q => sU (b + q)).map cv).toArray = Value.agg ((List.range 32).map fun q => Value.int .u64 (f q)).toArray
  rw [List.map_map]
  exact congrArg (fun l : List Value => Value.agg l.toArray) (List.map_congr_left fun q hq => congrArg (Value.int .u64) (hf q (List.mem_range.1 hq)))
section
variable {sd p n x : Int} {s : ByteArray} {se : Nat → Int} {p' n' x' : Int} {s' : ByteArray} {sf st s2 t2 : Nat → Int} {a b c : Int}
theorem lw_e : @cv1 (lwV sd p n x s se p' n' x' s' sf st s2 t2 a b c) entR = entVal p n x s se := @ent_gen (lwV sd p n x s se p' n' x' s' sf st s2 t2 a b c) 50 51 0 1 300 p n x s se rfl rfl rfl rfl fun q hq => by
  show lwI sd p n x se p' n' x' sf st s2 t2 a b c (300 + q) = se q
  unfold lwI
  rw [if_neg (by omega), if_neg (by omega), if_neg (by omega), if_neg (by omega), if_neg (by omega), if_neg (by omega), if_neg (by omega), if_neg (by omega), if_neg (by omega), if_neg (by omega), if_pos (by omega), Nat.add_sub_cancel_left]
theorem lw_f : @cv1 (lwV sd p n x s se p' n' x' s' sf st s2 t2 a b c) enfR = entVal p' n' x' s' sf := @ent_gen (lwV sd p n x s se p' n' x' s' sf st s2 t2 a b c) 60 61 1 2 320 p' n' x' s' sf rfl rfl rfl rfl fun q hq => by
  show lwI sd p n x se p' n' x' sf st s2 t2 a b c (320 + q) = sf q
  unfold lwI
  rw [if_neg (by omega), if_neg (by omega), if_neg (by omega), if_neg (by omega), if_neg (by omega), if_neg (by omega), if_neg (by omega), if_neg (by omega), if_neg (by omega), if_neg (by omega), if_neg (by omega), if_pos (by omega), Nat.add_sub_cancel_left]
theorem lw_n : @cv1 (lwV sd p n x s se p' n' x' s' sf st s2 t2 a b c) senR = entVal p n x s s2 := @ent_gen (lwV sd p n x s se p' n' x' s' sf st s2 t2 a b c) 50 51 0 1 500 p n x s s2 rfl rfl rfl rfl fun q hq => by
  show lwI sd p n x se p' n' x' sf st s2 t2 a b c (500 + q) = s2 q
  unfold lwI
  rw [if_neg (by omega), if_neg (by omega), if_neg (by omega), if_neg (by omega), if_neg (by omega), if_neg (by omega), if_neg (by omega), if_neg (by omega), if_neg (by omega), if_neg (by omega), if_neg (by omega), if_neg (by omega), if_pos (by omega), Nat.add_sub_cancel_left]
theorem lw_s : @cv1 (lwV sd p n x s se p' n' x' s' sf st s2 t2 a b c) stkR = stkV st := @stk_gen (lwV sd p n x s se p' n' x' s' sf st s2 t2 a b c) 200 st fun q hq => by
  show lwI sd p n x se p' n' x' sf st s2 t2 a b c (200 + q) = st q
  unfold lwI
  rw [if_neg (by omega), if_neg (by omega), if_neg (by omega), if_neg (by omega), if_neg (by omega), if_neg (by omega), if_neg (by omega), if_neg (by omega), if_neg (by omega), if_pos (by omega), Nat.add_sub_cancel_left]
theorem lw_t : @cv1 (lwV sd p n x s se p' n' x' s' sf st s2 t2 a b c) st2R = stkV t2 := @stk_gen (lwV sd p n x s se p' n' x' s' sf st s2 t2 a b c) 800 t2 fun q hq => by
  show lwI sd p n x se p' n' x' sf st s2 t2 a b c (800 + q) = t2 q
  unfold lwI
  rw [if_neg (by omega), if_neg (by omega), if_neg (by omega), if_neg (by omega), if_neg (by omega), if_neg (by omega), if_neg (by omega), if_neg (by omega), if_neg (by omega), if_neg (by omega), if_neg (by omega), if_neg (by omega), if_neg (by omega), if_neg (by omega), Nat.add_sub_cancel_left]
end
end Go.Proofs.Z

namespace Go.Proofs.Z
open Go Go.RowKit Go.Proofs Go.Ri Go.Proofs.Z.Fa
/-! BookSeals answers true: the law. -/
section
variable {sd p n x : Int} {s : ByteArray} {se : Nat → Int} {p' n' x' : Int} {s' : ByteArray} {sf st s2 t2 : Nat → Int} {a b c : Int}
theorem bs_args (w : World) : All2 (@Go.Ri.NVal (lwV sd p n x s se p' n' x' s' sf st s2 t2 a b c) w) bsD [.int .u64 sd, entVal p n x s se, entVal p' n' x' s' sf, stkV st] := by
  have h := @nval_flat (lwV sd p n x s se p' n' x' s' sf st s2 t2 a b c) w bsD rfl
  have e : bsD.map (@cvF (lwV sd p n x s se p' n' x' s' sf st s2 t2 a b c)) = [.int .u64 sd, entVal p n x s se, entVal p' n' x' s' sf, stkV st] := by
    show [Value.int .u64 sd, @cv1 (lwV sd p n x s se p' n' x' s' sf st s2 t2 a b c) entR, @cv1 (lwV sd p n x s se p' n' x' s' sf st s2 t2 a b c) enfR, @cv1 (lwV sd p n x s se p' n' x' s' sf st s2 t2 a b c) stkR] = _
    rw [lw_e, lw_f, lw_s]
  rw [e] at h
  exact h
theorem bsY_true {r : RV} {e : Int} {v : Value} (hr : @cv1 (lwV sd p n x s se p' n' x' s' sf st s2 t2 a b c) r = v) (hr2 : @cvF (lwV sd p n x s se p' n' x' s' sf st s2 t2 a b c) r = v) (hS : ∀ q, Ans (slF q) [.int .u64 sd, entVal p n x s se] (tup2 v (.int .i64 e))) (hF : ∀ q, Ans (veF q) [stkV st, entVal p' n' x' s' sf] (.int .i64 a)) (hR : ∀ q, Ans (veF q) [stkV st, v] (.int .i64 b)) :
    ∀ y, y ∈ bsY r e → Ans y.f (y.a.map (@cvF (lwV sd p n x s se p' n' x' s' sf st s2 t2 a b c))) (@cvF (lwV sd p n x s se p' n' x' s' sf st s2 t2 a b c) y.r) := by
  have k1 : ∀ q, Ans (slF q) [Value.int .u64 sd, @cv1 (lwV sd p n x s se p' n' x' s' sf st s2 t2 a b c) entR] (tup2 (@cv1 (lwV sd p n x s se p' n' x' s' sf st s2 t2 a b c) r) (.int .i64 e)) := fun q => by
    rw [lw_e, hr]
    exact hS q
  have k2 : ∀ q, Ans (veF q) [@cv1 (lwV sd p n x s se p' n' x' s' sf st s2 t2 a b c) stkR, @cv1 (lwV sd p n x s se p' n' x' s' sf st s2 t2 a b c) enfR] (.int .i64 a) := fun q => by
    rw [lw_s, lw_f]
    exact hF q
  have k3 : ∀ q, Ans (veF q) [@cv1 (lwV sd p n x s se p' n' x' s' sf st s2 t2 a b c) stkR, @cvF (lwV sd p n x s se p' n' x' s' sf st s2 t2 a b c) r] (.int .i64 b) := fun q => by
    rw [lw_s, hr2]
    exact hR q
  exact fa (k1 true) (fa (k1 false) (fa (k2 true) (fa (k2 false) (fa (k3 true) (fa (k3 false) fz)))))
theorem law_no (hS : ∀ q, Ans (slF q) [.int .u64 sd, entVal p n x s se] (tup2 zenVal (.int .i64 81))) (hF : ∀ q, Ans (veF q) [stkV st, entVal p' n' x' s' sf] (.int .i64 a)) (hR : ∀ q, Ans (veF q) [stkV st, zenVal] (.int .i64 b)) : Ans fBookSeals [.int .u64 sd, entVal p n x s se, entVal p' n' x' s' sf, stkV st] (.bool true) := by
  have hY := bsY_true (s2 := fun _ => 0) (t2 := fun _ => 0) (c := 0) (@zen_cv (lwV sd p n x s se p' n' x' s' sf st (fun _ => 0) (fun _ => 0) a b 0)) (@zen_cv (lwV sd p n x s se p' n' x' s' sf st (fun _ => 0) (fun _ => 0) a b 0)) hS hF hR
  have ht : @TbOK (lwV sd p n x s se p' n' x' s' sf st (fun _ => 0) (fun _ => 0) a b 0) bsNo := by
    letI : Val := lwV sd p n x s se p' n' x' s' sf st (fun _ => 0) (fun _ => 0) a b 0
    exact { X := saneX_true, Y := hY }
  exact done_val _ ht bs_no rfl (holds_all fz) rfl rfl bs_args
theorem law_ok (hS : ∀ q, Ans (slF q) [.int .u64 sd, entVal p n x s se] (tup2 (entVal p n x s s2) (.int .i64 0))) (hF : ∀ q, Ans (veF q) [stkV st, entVal p' n' x' s' sf] (.int .i64 a)) (hR : ∀ q, Ans (veF q) [stkV st, entVal p n x s s2] (.int .i64 b))
    (hM : Ans fMk [.int .u64 sd, .int .i64 p, .int .i64 n] (tup2 (stkV t2) (.int .i64 0))) (hV : Ans fVerB [stkV t2, entVal p n x s s2] (.int .i64 0)) (hG : ∀ q, Ans (veF q) [stkV t2, entVal p' n' x' s' sf] (.int .i64 c)) : Ans fBookSeals [.int .u64 sd, entVal p n x s se, entVal p' n' x' s' sf, stkV st] (.bool true) := by
  have hY := bsY_true (t2 := t2) (c := c) (r := senR) lw_n lw_n hS hF hR
  have m1 : Ans fMk [Value.int .u64 sd, .int .i64 p, .int .i64 n] (tup2 (@cv1 (lwV sd p n x s se p' n' x' s' sf st s2 t2 a b c) st2R) (.int .i64 0)) := by
    rw [lw_t]
    exact hM
  have m2 : Ans fVerB [@cv1 (lwV sd p n x s se p' n' x' s' sf st s2 t2 a b c) st2R, @cv1 (lwV sd p n x s se p' n' x' s' sf st s2 t2 a b c) senR] (.int .i64 0) := by
    rw [lw_t, lw_n]
    exact hV
  have m3 : ∀ q, Ans (veF q) [@cv1 (lwV sd p n x s se p' n' x' s' sf st s2 t2 a b c) st2R, @cv1 (lwV sd p n x s se p' n' x' s' sf st s2 t2 a b c) enfR] (.int .i64 c) := fun q => by
    rw [lw_t, lw_f]
    exact hG q
  have ht : @TbOK (lwV sd p n x s se p' n' x' s' sf st s2 t2 a b c) bsOk := by
    letI : Val := lwV sd p n x s se p' n' x' s' sf st s2 t2 a b c
    exact { X := saneX_true, Y := fapp hY (fa m1 (fa m2 (fa (m3 true) (fa (m3 false) fz)))) }
  exact done_val _ ht bs_ok rfl (holds_all fz) rfl rfl bs_args
end
/-- BookSeals answers true. -/
theorem bookSeals_ans {sd p n x : Int} {s : ByteArray} {se : Nat → Int} {p' n' x' : Int} {s' : ByteArray} {sf st : Nat → Int} (hsd : 0 ≤ sd ∧ sd < 18446744073709551616) (hx : 0 ≤ x ∧ x < 18446744073709551616) (hx' : 0 ≤ x' ∧ x' < 18446744073709551616) (hsf : ∀ k, k < 16 → 0 ≤ sf k ∧ sf k < 18446744073709551616) :
    Ans fBookSeals [.int .u64 sd, entVal p n x s se, entVal p' n' x' s' sf, stkV st] (.bool true) := by
  by_cases hc : eCls p n s.size < 5
  · exact law_no (fun q => seal_bad q hc hx) (fun q => verify_ans q hx' hsf) fun q => @verify_ans q st 0 0 0 ⟨#[]⟩ (fun _ => 0) (by omega) (fun _ _ => by omega)
  · have h5 : eCls p n s.size = 5 := by
      have := eCls_le p n s.size
      omega
    obtain ⟨a, b, c, e, _⟩ := eCls_in h5
    have h8 : secCls p n 0 0 = 8 := cls_iff.2 ⟨a, b, c, e, by omega, by omega, by omega, by omega⟩
    have hse : ∀ k, k < 16 → 0 ≤ sealM sd p n x s k ∧ sealM sd p n x s k < 18446744073709551616 := fun k _ => secretM_in _ _ _ _ _
    have hM := @mk_ans true sd p n hsd.1 hsd.2
    rw [show secE p n 0 0 = 0 from if_neg (by omega)] at hM
    have hV := @verify_ans true (stkM sd p n) p n x s (sealM sd p n x s) hx hse
    rw [seal_fits h5] at hV
    exact law_ok (fun q => seal_ok q h5 hx hsd) (fun q => verify_ans q hx' hsf) (fun q => verify_ans q hx hse) hM hV fun q => verify_ans q hx' hsf
end Go.Proofs.Z
