/- A part of the proofs that the laws of layer eight answer true for every input. -/
import Derived.Test.YtjeikabpnplogaaZBT
namespace Go.Proofs.Z
open Go Go.RowKit Go.Proofs Go.Ri Go.Proofs.Z.Fa
/-! Verify of both packages: its contract. -/
def mt (im st : Nat → Int) (d : Int) (k : Nat) : Bool := im k == st (2 * k + (hd2 d k % 2).toNat)
def fitB (im st : Nat → Int) (d : Int) : Bool := (List.range 16).all (mt im st d)
theorem vloop {f : Nat} {P : Nat → St} {R : List Nat} {a b : RV} {va vb : Value} (hE : atH (entN vE [] f [stkR, entR]) f 0 vS R (P 0) = true)
    (hA : ∀ k, k < 16 → ∀ v, v < 2 → atH (fromH (vA k v true) [] f 0 (P k)) f 0 vS R (P (k + 1)) = true) (hB : ∀ k, k < 16 → ∀ v, v < 2 → endF (vA k v false) f (fromH (vA k v false) [] f 0 (P k)) b = true) (hZ : endF {} f (fromH {} [] f 0 (P 16)) a = true)
    (ha : ∀ V : Val, @cvF V a = va) (hb : ∀ V : Val, @cvF V b = vb) {st im : Nat → Int} {p n x : Int} {s : ByteArray} {se : Nat → Int} {d : Int} (hd : 0 ≤ d ∧ d < 65536) (hi : ∀ q k, k < 16 → Ans (imF q) [.int .u64 (se k)] (.int .u64 (im k)))
    (hD : Ans fDigest [entVal p n x s se] (tup2 (.int .i64 d) (.int .i64 0))) (hR : Ans fRDigest0 [entVal p n x s se] (.int .i64 d)) : Ans f [stkV st, entVal p n x s se] (if fitB im st d then va else vb) := by
  intro w hr
  have hE4 : @cvF (vV st (im 0) p n x s se d) (sI 400) = .int .i64 d := congrArg (Value.int .i64) (show vI st (im 0) p n x s.size se d 400 = d from vI_d 0 (by omega))
  have ht0 : @TbOK ((vNm st (im 0) p n x s se d).val fun _ => undef) vE := by
    have y1 : Ans fDigest ([entR].map (@cvF (vV st (im 0) p n x s se d))) (@cvF (vV st (im 0) p n x s se d) (.tup [sI 400, lI 0])) := by
      show Ans fDigest [@cvF (vV st (im 0) p n x s se d) entR] (tup2 (@cvF (vV st (im 0) p n x s se d) (sI 400)) (.int .i64 0))
      rw [v_ent, hE4]
      exact hD
    have y2 : Ans fRDigest0 ([entR].map (@cvF (vV st (im 0) p n x s se d))) (@cvF (vV st (im 0) p n x s se d) (sI 400)) := by
      show Ans fRDigest0 [@cvF (vV st (im 0) p n x s se d) entR] (@cvF (vV st (im 0) p n x s se d) (sI 400))
      rw [v_ent, hE4]
      exact hR
    letI : Val := vV st (im 0) p n x s se d
    exact { Y := fa y1 (fa y2 fz) }
  refine fn_headsN (κ := Nat) (vNm st (im 0) p n x s se d) (fun _ => undef) vE [] f [stkR, entR] (fun _ => 0) P (fun m k c => k ≤ 16 ∧ m = 16 - k ∧ (∀ j, j < k → mt im st d j = true) ∧ c = vNm st (im k) p n x s se d) ht0 vS R 0 16 hE (vNm st (im 0) p n x s se d) (fun W' => holds_all vS_ok) ⟨by omega, rfl, fun j hj => absurd hj (Nat.not_lt_zero j), rfl⟩ (DF (if fitB im st d then va else vb)) ?_ w hr _ (v_args w)
  rintro w m k c ⟨hk, rfl, hall, rfl⟩ W
  rcases Nat.lt_or_ge k 16 with hlt | hge
  · have hq := hd2_in hd k
    have hv : hd2 d k % 2 = (((hd2 d k % 2).toNat : Nat) : Int) := by omega
    have hv2 : (hd2 d k % 2).toNat < 2 := by omega
    cases hm : mt im st d k with
    | true =>
      have ht := vA_ok (p := p) (n := n) (x := x) (s := s) (se := se) hd hlt hv hm (fun q => hi q k hlt) W
      exact stepH_to _ [] ht vS R rfl (k + 1) (vNm st (im (k + 1)) p n x s se d) (hA k hlt _ hv2) (fun W' => holds_all vS_ok) ⟨16 - (k + 1), by omega, by omega, rfl, fun j hj => by
        rcases Nat.lt_or_eq_of_le (Nat.le_of_lt_succ hj) with h | rfl
        · exact hall j h
        · exact hm, rfl⟩
    | false =>
      have ht := vA_ok (p := p) (n := n) (x := x) (s := s) (se := se) hd hlt hv hm (fun q => hi q k hlt) W
      have hf : fitB im st d = false := by
        rw [Bool.eq_false_iff]
        intro h
        have := List.all_eq_true.1 h k (List.mem_range.2 hlt)
        rw [hm] at this
        cases this
      rw [hf]
      exact stepH_outF _ [] ht b (hB k hlt _ hv2) (hb _)
  · obtain rfl : k = 16 := by omega
    have hf : fitB im st d = true := List.all_eq_true.2 fun j hj => hall j (List.mem_range.1 hj)
    rw [hf]
    have ht : @TbOK ((vNm st (im 16) p n x s se d).val W) {} := by
      letI : Val := (vNm st (im 16) p n x s se d).val W
      exact {}
    exact stepH_outF _ [] ht a hZ (ha _)
def veF (q : Bool) : Nat := if q then fVerB else fRVerify
/-- What Verify answers. -/
def verV (st : Nat → Int) (p n x : Int) (s : ByteArray) (se : Nat → Int) : Int := if eCls p n s.size < 5 then 81 else if fitB (fun k => imageM (se k)) st (digM p n x s) then 0 else 82
theorem allU2 {g : Nat → Nat → Bool} (h : (allU 16 fun k => allU 2 fun v => g k v) = true) : ∀ k, k < 16 → ∀ v, v < 2 → g k v = true := fun k hk v hv => allU_lt (allU_lt h k hk) v hv
theorem verify_bad (q : Bool) {st : Nat → Int} {p n x : Int} {s : ByteArray} {se : Nat → Int} (hc : eCls p n s.size < 5) (hx : 0 ≤ x ∧ x < 18446744073709551616) : Ans (veF q) [stkV st, entVal p n x s se] (.int .i64 81) := by
  cases q
  · have ht : @TbOK (vV st 0 p n x s se 0) { T := ecT (eCls p n s.size) } := by
      letI : Val := vV st 0 p n x s se 0
      exact { T := ecAny (congrArg (Value.int .i64) (show vI st 0 p n x s.size se 0 50 = p from v50)) (congrArg (Value.int .i64) (show vI st 0 p n x s.size se 0 51 = n from v51)) (congrArg (Value.int .i64) (show vI st 0 p n x s.size se 0 54 = (s.size : Int) from v54)) rfl rfl }
    exact done_val _ ht (allU_lt rv_no _ hc) rfl (holds_all fz) rfl rfl v_args
  · have ht : @TbOK (vV st 0 p n x s se 0) { Y := [⟨fDigest, [entR], .tup [lI 0, lI 81]⟩] } := by
      have y : Ans fDigest ([entR].map (@cvF (vV st 0 p n x s se 0))) (@cvF (vV st 0 p n x s se 0) (.tup [lI 0, lI 81])) := by
        show Ans fDigest [@cvF (vV st 0 p n x s se 0) entR] (tup2 (.int .i64 0) (.int .i64 81))
        rw [v_ent]
        have hD := @digest_ans true p n x s se hx
        rw [show digV p n x s = 0 from if_pos hc, show digE p n s.size = 81 from if_pos hc] at hD
        exact hD
      letI : Val := vV st 0 p n x s se 0
      exact { Y := fa y fz }
    exact done_val _ ht v_no rfl (holds_all fz) rfl rfl v_args
theorem verify_core (q : Bool) {st im : Nat → Int} {p n x : Int} {s : ByteArray} {se : Nat → Int} {d : Int} (hc : eCls p n s.size = 5) (hd : 0 ≤ d ∧ d < 65536) (hi : ∀ q k, k < 16 → Ans (imF q) [.int .u64 (se k)] (.int .u64 (im k)))
    (hD : Ans fDigest [entVal p n x s se] (tup2 (.int .i64 d) (.int .i64 0))) (hR : Ans fRDigest0 [entVal p n x s se] (.int .i64 d)) : Ans (veF q) [stkV st, entVal p n x s se] (.int .i64 (if fitB im st d then 0 else 82)) := by
  cases q
  · have hF : Ans fFits [stkV st, entVal p n x s se] (.bool (fitB im st d)) := by
      have := vloop (va := .bool true) (vb := .bool false) f_enter (allU2 f_again) (allU2 f_bad) f_end (fun _ => rfl) (fun _ => rfl) (st := st) (im := im) hd hi hD hR
      cases h : fitB im st d <;> rw [h] at this <;> exact this
    generalize fitB im st d = b at *
    have ht : @TbOK (vV st 0 p n x s se 0) { T := ecT 5, Y := [⟨fFits, [stkR, entR], bR b⟩] } := by
      have y : Ans fFits ([stkR, entR].map (@cvF (vV st 0 p n x s se 0))) (@cvF (vV st 0 p n x s se 0) (bR b)) := by
        show Ans fFits [@cvF (vV st 0 p n x s se 0) stkR, @cvF (vV st 0 p n x s se 0) entR] (.bool b)
        rw [v_ent, v_stk]
        exact hF
      letI : Val := vV st 0 p n x s se 0
      exact { T := ecAny (congrArg (Value.int .i64) (show vI st 0 p n x s.size se 0 50 = p from v50)) (congrArg (Value.int .i64) (show vI st 0 p n x s.size se 0 51 = n from v51)) (congrArg (Value.int .i64) (show vI st 0 p n x s.size se 0 54 = (s.size : Int) from v54)) rfl hc, Y := fa y fz }
    cases b
    · exact done_val _ ht (all2_all rv_ok false) rfl (holds_all fz) rfl rfl v_args
    · exact done_val _ ht (all2_all rv_ok true) rfl (holds_all fz) rfl rfl v_args
  · have := vloop (va := .int .i64 0) (vb := .int .i64 82) v_enter (allU2 v_again) (allU2 v_bad) v_end (fun _ => rfl) (fun _ => rfl) (st := st) (im := im) hd hi hD hR
    cases h : fitB im st d <;> rw [h] at this <;> exact this
theorem verify_ans (q : Bool) {st : Nat → Int} {p n x : Int} {s : ByteArray} {se : Nat → Int} (hx : 0 ≤ x ∧ x < 18446744073709551616) (hse : ∀ k, k < 16 → 0 ≤ se k ∧ se k < 18446744073709551616) : Ans (veF q) [stkV st, entVal p n x s se] (.int .i64 (verV st p n x s se)) := by
  unfold verV
  by_cases hc : eCls p n s.size < 5
  · rw [if_pos hc]
    exact verify_bad q hc hx
  · rw [if_neg hc]
    have h5 : eCls p n s.size = 5 := by
      have := eCls_le p n s.size
      omega
    have hD := @digest_ans true p n x s se hx
    rw [show digV p n x s = digM p n x s from if_neg hc, show digE p n s.size = 0 from if_neg hc] at hD
    exact verify_core q h5 (digM_in p n x s) (fun q k hk => image_ans q _ (hse k hk).1 (hse k hk).2) hD (dig0_ans false h5 hx)
end Go.Proofs.Z
