/- A part of the proofs that the laws of layer eight answer true for every input. -/
import Derived.Test.YtjeikabpnplogaaZCM
import Derived.Test.YtjeikabpnplogaaZCN
namespace Go.Proofs.Z
open Go Go.RowKit Go.Proofs Go.Ri Go.Proofs.Z.Fa
/-! BookBack answers true. -/
def bkI (p n x : Int) (m : Nat) (se : Nat → Int) (dg tl el rn p' n' x' : Int) (se' : Nat → Int) (k : Nat) : Int := if k = 0 then x else if k = 50 then p else if k = 51 then n else if k = 54 then (m : Int) else if k = 60 then dg else if k = 63 then rn else if k = 70 then p' else if k = 71 then n' else if k = 72 then x' else if k = 80 then tl else if k = 81 then el else if k < 400 then se (k - 300) else se' (k - 400)
def bkS (s e s' t et u : ByteArray) (k : Nat) : ByteArray := if k = 1 then s else if k = 4 then e else if k = 5 then s' else if k = 6 then et else if k = 7 then u else t
abbrev bkV (p n x : Int) (s : ByteArray) (se : Nat → Int) (dg tl el rn p' n' x' : Int) (s' : ByteArray) (se' : Nat → Int) (e t et u : ByteArray) : Val := (⟨bkI p n x s.size se dg tl el rn p' n' x' se', fun _ => false, bkS s e s' t et u, fun _ => []⟩ : Nm).val fun _ => undef
section
variable {p n x : Int} {s : ByteArray} {se : Nat → Int} {dg tl el rn p' n' x' : Int} {s' : ByteArray} {se' : Nat → Int} {e t et u : ByteArray}
theorem bk50 : @cv (bkV p n x s se dg tl el rn p' n' x' s' se' e t et u) (sI 50) = .int .i64 p := congrArg (Value.int .i64) (show bkI p n x s.size se dg tl el rn p' n' x' se' 50 = p by simp [bkI])
theorem bk51 : @cv (bkV p n x s se dg tl el rn p' n' x' s' se' e t et u) (sI 51) = .int .i64 n := congrArg (Value.int .i64) (show bkI p n x s.size se dg tl el rn p' n' x' se' 51 = n by simp [bkI])
theorem bk54 : @cv (bkV p n x s se dg tl el rn p' n' x' s' se' e t et u) (sI 54) = .int .i64 (s.size : Nat) := congrArg (Value.int .i64) (show bkI p n x s.size se dg tl el rn p' n' x' se' 54 = (s.size : Nat) by simp [bkI])
theorem bk60 : @cv (bkV p n x s se dg tl el rn p' n' x' s' se' e t et u) (sI 60) = .int .i64 dg := congrArg (Value.int .i64) (show bkI p n x s.size se dg tl el rn p' n' x' se' 60 = dg by simp [bkI])
theorem bk63 : @cv (bkV p n x s se dg tl el rn p' n' x' s' se' e t et u) (sI 63) = .int .i64 rn := congrArg (Value.int .i64) (show bkI p n x s.size se dg tl el rn p' n' x' se' 63 = rn by simp [bkI])
theorem bk80 : @cv (bkV p n x s se dg tl el rn p' n' x' s' se' e t et u) (sI 80) = .int .i64 tl := congrArg (Value.int .i64) (show bkI p n x s.size se dg tl el rn p' n' x' se' 80 = tl by simp [bkI])
theorem bk81 : @cv (bkV p n x s se dg tl el rn p' n' x' s' se' e t et u) (sI 81) = .int .i64 el := congrArg (Value.int .i64) (show bkI p n x s.size se dg tl el rn p' n' x' se' 81 = el by simp [bkI])
theorem bk_e : @cv1 (bkV p n x s se dg tl el rn p' n' x' s' se' e t et u) entR = entVal p n x s se := by
  refine @entG_of (bkV p n x s se dg tl el rn p' n' x' s' se' e t et u) _ _ _ _ 300 p n x s se bk50 bk51 rfl rfl fun i hi => ?_
  show bkI p n x s.size se dg tl el rn p' n' x' se' (300 + i) = se i
  unfold bkI
  rw [if_neg (by omega), if_neg (by omega), if_neg (by omega), if_neg (by omega), if_neg (by omega), if_neg (by omega), if_neg (by omega), if_neg (by omega), if_neg (by omega), if_neg (by omega), if_neg (by omega), if_pos (by omega), Nat.add_sub_cancel_left]
theorem bk_d : @cv1 (bkV p n x s se dg tl el rn p' n' x' s' se' e t et u) dnR = entVal p' n' x' s' se' := by
  refine @entG_of (bkV p n x s se dg tl el rn p' n' x' s' se' e t et u) _ _ _ _ 400 p' n' x' s' se' ?_ ?_ ?_ rfl fun i hi => ?_
  · exact congrArg (Value.int .i64) (show bkI p n x s.size se dg tl el rn p' n' x' se' 70 = p' by simp [bkI])
  · exact congrArg (Value.int .i64) (show bkI p n x s.size se dg tl el rn p' n' x' se' 71 = n' by simp [bkI])
  · exact congrArg (Value.int .u64) (show bkI p n x s.size se dg tl el rn p' n' x' se' 72 = x' by simp [bkI])
  · show bkI p n x s.size se dg tl el rn p' n' x' se' (400 + i) = se' i
    unfold bkI
    rw [if_neg (by omega), if_neg (by omega), if_neg (by omega), if_neg (by omega), if_neg (by omega), if_neg (by omega), if_neg (by omega), if_neg (by omega), if_neg (by omega), if_neg (by omega), if_neg (by omega), if_neg (by omega), Nat.add_sub_cancel_left]
theorem bk_args (w : World) : All2 (@Go.Ri.NVal (bkV p n x s se dg tl el rn p' n' x' s' se' e t et u) w) bnD [entVal p n x s se, .string t] := by
  have h := @nval_flat (bkV p n x s se dg tl el rn p' n' x' s' se' e t et u) w bnD rfl
  rw [show bnD.map (@cvF (bkV p n x s se dg tl el rn p' n' x' s' se' e t et u)) = [entVal p n x s se, .string t] from congrArg (fun z => [z, Value.string t]) bk_e] at h
  exact h
theorem bkL_true {q : Bool} (ht : tl = (t.size : Nat)) (hq : decide (10000 < t.size) = q) : ∀ f, f ∈ bkL q → @TETrue (bkV p n x s se dg tl el rn p' n' x' s' se' e t et u) f := by
  have e80 := bk80 (p := p) (n := n) (x := x) (s := s) (se := se) (dg := dg) (tl := tl) (el := el) (rn := rn) (p' := p') (n' := n') (x' := x') (s' := s') (se' := se') (e := e) (t := t) (et := et) (u := u)
  letI : Val := bkV p n x s se dg tl el rn p' n' x' s' se' e t et u
  exact fa (f_len (s := t) rfl (by rw [← ht]; exact e80) rfl) (fa (f_gtr (k := .i64) (m := tl) (n := 10000) e80 rfl (by rw [← hq, ht]; exact decide_eq_decide.2 (by omega))) fz)
/-- What is known of the entry: a, is it valid? -/
structure BkA (a : Bool) (p n x : Int) (s : ByteArray) (se : Nat → Int) (dg el : Int) (e t et : ByteArray) : Prop where
  yes : a = true → 0 ≤ p ∧ p ≤ 7 ∧ 0 ≤ n ∧ n ≤ 63 ∧ s.size ≤ 4096 ∧ el = (e.size : Nat) ∧ (∃ x y, e = ba x ∧ t = ba y ∧ et = ba (x ++ y) ∧ x.length + y.length ≤ 1000000000)
  e : Ans fEnc [entVal p n x s se] (if a then tup2 (.string e) (.int .i64 0) else tup2 (.string ⟨#[]⟩) (.int .i64 81))
  d : Ans fDigest [entVal p n x s se] (if a then tup2 (.int .i64 dg) (.int .i64 0) else tup2 (.int .i64 0) (.int .i64 81))
  c : a = true → Ans fDec [.string et] (tup3 (entVal p n x s se) (.int .i64 el) (.int .i64 0))
/-- What is known of the text: b, can it be read? -/
structure BkB (b : Bool) (rn p' n' x' : Int) (s' : ByteArray) (se' : Nat → Int) (t u : ByteArray) : Prop where
  yes : b = true → ∃ (l : List UInt8) (k : Nat), t = ba l ∧ u = ba (l.take k) ∧ k ≤ l.length ∧ rn = (k : Nat)
  c : Ans fDec [.string t] (if b then tup3 (entVal p' n' x' s' se') (.int .i64 rn) (.int .i64 0) else decB)
  e : b = true → Ans fEnc [entVal p' n' x' s' se'] (tup2 (.string u) (.int .i64 0))
theorem back_core {a b : Bool} (hA : BkA a p n x s se dg el e t et) (hB : BkB b rn p' n' x' s' se' t u) (hs : t.size ≤ 10000) : Ans fBookBack [entVal p n x s se, .string t] (.bool true) := by
  have e50 := bk50 (p := p) (n := n) (x := x) (s := s) (se := se) (dg := dg) (tl := (t.size : Nat)) (el := el) (rn := rn) (p' := p') (n' := n') (x' := x') (s' := s') (se' := se') (e := e) (t := t) (et := et) (u := u)
  have e51 := bk51 (p := p) (n := n) (x := x) (s := s) (se := se) (dg := dg) (tl := (t.size : Nat)) (el := el) (rn := rn) (p' := p') (n' := n') (x' := x') (s' := s') (se' := se') (e := e) (t := t) (et := et) (u := u)
  have e54 := bk54 (p := p) (n := n) (x := x) (s := s) (se := se) (dg := dg) (tl := (t.size : Nat)) (el := el) (rn := rn) (p' := p') (n' := n') (x' := x') (s' := s') (se' := se') (e := e) (t := t) (et := et) (u := u)
  have e60 := bk60 (p := p) (n := n) (x := x) (s := s) (se := se) (dg := dg) (tl := (t.size : Nat)) (el := el) (rn := rn) (p' := p') (n' := n') (x' := x') (s' := s') (se' := se') (e := e) (t := t) (et := et) (u := u)
  have e63 := bk63 (p := p) (n := n) (x := x) (s := s) (se := se) (dg := dg) (tl := (t.size : Nat)) (el := el) (rn := rn) (p' := p') (n' := n') (x' := x') (s' := s') (se' := se') (e := e) (t := t) (et := et) (u := u)
  have e80 := bk80 (p := p) (n := n) (x := x) (s := s) (se := se) (dg := dg) (tl := (t.size : Nat)) (el := el) (rn := rn) (p' := p') (n' := n') (x' := x') (s' := s') (se' := se') (e := e) (t := t) (et := et) (u := u)
  have e81 := bk81 (p := p) (n := n) (x := x) (s := s) (se := se) (dg := dg) (tl := (t.size : Nat)) (el := el) (rn := rn) (p' := p') (n' := n') (x' := x') (s' := s') (se' := se') (e := e) (t := t) (et := et) (u := u)
  have ee := bk_e (p := p) (n := n) (x := x) (s := s) (se := se) (dg := dg) (tl := (t.size : Nat)) (el := el) (rn := rn) (p' := p') (n' := n') (x' := x') (s' := s') (se' := se') (e := e) (t := t) (et := et) (u := u)
  have ed := bk_d (p := p) (n := n) (x := x) (s := s) (se := se) (dg := dg) (tl := (t.size : Nat)) (el := el) (rn := rn) (p' := p') (n' := n') (x' := x') (s' := s') (se' := se') (e := e) (t := t) (et := et) (u := u)
  have hL := bkL_true (p := p) (n := n) (x := x) (s := s) (se := se) (dg := dg) (tl := (t.size : Nat)) (el := el) (rn := rn) (p' := p') (n' := n') (x' := x') (s' := s') (se' := se') (e := e) (t := t) (et := et) (u := u) (q := false) rfl (decide_eq_false (by omega))
  have hT : ∀ f, f ∈ bkT a → @TETrue (bkV p n x s se dg (t.size : Nat) el rn p' n' x' s' se' e t et u) f := by
    cases a
    · exact fz
    · obtain ⟨h1, h2, h3, h4, h5, h6, y, z, rfl, rfl, rfl, h7⟩ := hA.yes rfl
      letI : Val := bkV p n x s se dg ((ba z).size : Nat) el rn p' n' x' s' se' (ba y) (ba z) (ba (y ++ z)) u
      exact fa (f_lss (k := .i64) (m := p) (n := 0) e50 rfl (decide_eq_false (by omega))) (fa (f_gtr (k := .i64) (m := p) (n := 7) e50 rfl (decide_eq_false (by omega))) (fa (f_lss (k := .i64) (m := n) (n := 0) e51 rfl (decide_eq_false (by omega))) (fa (f_gtr (k := .i64) (m := n) (n := 63) e51 rfl (decide_eq_false (by omega))) (fa (f_len (s := s) rfl e54 rfl) (fa (f_gtr (k := .i64) (m := (s.size : Nat)) (n := 4096) e54 rfl (decide_eq_false (by omega))) (fa (f_app (x := y) (y := z) (z := y ++ z) rfl rfl rfl rfl rfl h7) (fa (f_len (s := ba y) rfl (by rw [e81, h6]) rfl) fz)))))))
  have hU : ∀ f, f ∈ bkU b → @TETrue (bkV p n x s se dg (t.size : Nat) el rn p' n' x' s' se' e t et u) f := by
    cases b
    · exact fz
    · obtain ⟨l, k, rfl, rfl, hk, rfl⟩ := hB.yes rfl
      letI : Val := bkV p n x s se dg ((ba l).size : Nat) el ((k : Nat) : Int) p' n' x' s' se' e (ba l) et (ba (l.take k))
      exact fa (f_len (s := ba (l.take k)) rfl (by rw [ba_size, List.length_take, Nat.min_eq_left hk]; exact e63) rfl) (fa (f_leq (k := .i64) (m := ((k : Nat) : Int)) (n := ((ba l).size : Nat)) e63 e80 (decide_eq_true (by rw [ba_size]; omega))) fz)
  have hSS : ∀ f, f ∈ (if b then [⟨sT 9, lI 0, sI 63, sT 7⟩] else ([] : List SSE)) → @Go.Ri.SSTrue (bkV p n x s se dg (t.size : Nat) el rn p' n' x' s' se' e t et u) f := by
    cases b
    · exact fz
    · obtain ⟨l, k, rfl, rfl, hk, rfl⟩ := hB.yes rfl
      refine fa ⟨rfl, ba l, .i64, .i64, 0, k, rfl, rfl, e63, Nat.zero_le _, by rw [ba_size]; exact hk, ?_⟩ fz
      have := ext_cut (ba l) 0 k
      rw [Nat.zero_add] at this
      rw [this]
      rfl
  have hY : ∀ f, f ∈ bkY a → Ans f.f (f.a.map (@cvF (bkV p n x s se dg (t.size : Nat) el rn p' n' x' s' se' e t et u))) (@cvF (bkV p n x s se dg (t.size : Nat) el rn p' n' x' s' se' e t et u) f.r) := by
    have k1 := hA.e
    have k2 := hA.d
    have k3 := hA.c
    rw [← ee] at k1 k2 k3
    cases a
    · exact fa k1 (fa k2 fz)
    · refine fa k1 (fa ?_ (fa ?_ fz))
      · show Ans fDigest [_] (tup2 (@cv (bkV p n x s se dg (t.size : Nat) el rn p' n' x' s' se' e t et u) (sI 60)) (.int .i64 0))
        rw [e60]
        exact k2
      · have := k3 rfl
        rw [← e81] at this
        exact this
  have hZ : ∀ f, f ∈ bkZ b → Ans f.f (f.a.map (@cvF (bkV p n x s se dg (t.size : Nat) el rn p' n' x' s' se' e t et u))) (@cvF (bkV p n x s se dg (t.size : Nat) el rn p' n' x' s' se' e t et u) f.r) := by
    have k1 := hB.c
    have k2 := hB.e
    rw [← ed] at k1 k2
    cases b
    · refine fa ?_ fz
      show Ans fDec [.string t] (@cvF (bkV p n x s se dg (t.size : Nat) el rn p' n' x' s' se' e t et u) bad3)
      rw [bad3_cv]
      exact k1
    · refine fa ?_ (fa (k2 rfl) fz)
      rw [← e63] at k1
      exact k1
  have ht : @TbOK (bkV p n x s se dg (t.size : Nat) el rn p' n' x' s' se' e t et u) (bkA a b) := by
    letI : Val := bkV p n x s se dg (t.size : Nat) el rn p' n' x' s' se' e t et u
    exact { X := saneX_true, T := fapp hL (fapp hT hU), Y := fapp hY hZ, SS := hSS }
  exact done_val _ ht (all2_all (all2_all bk_run a) b) rfl (holds_all fz) rfl rfl bk_args
theorem back_big (hs : 10000 < t.size) : Ans fBookBack [entVal p n x s se, .string t] (.bool true) := by
  have hL := bkL_true (p := p) (n := n) (x := x) (s := s) (se := se) (dg := 0) (tl := (t.size : Nat)) (el := 0) (rn := 0) (p' := 0) (n' := 0) (x' := 0) (s' := s) (se' := se) (e := s) (t := t) (et := s) (u := s) (q := true) rfl (decide_eq_true hs)
  have ht : @TbOK (bkV p n x s se 0 (t.size : Nat) 0 0 0 0 0 s se s t s s) bkBig := by
    letI : Val := bkV p n x s se 0 (t.size : Nat) 0 0 0 0 0 s se s t s s
    exact { X := saneX_true, T := hL }
  exact done_val _ ht bk_big rfl (holds_all fz) rfl rfl bk_args
end
theorem bkA_is {p n x : Int} {s : ByteArray} {se : Nat → Int} {l : List UInt8} (hx : 0 ≤ x ∧ x < 18446744073709551616) (hse : ∀ i, i < 16 → 0 ≤ se i ∧ se i < 18446744073709551616) (hl : l.length ≤ 10000) : ∃ a dg el e et, BkA a p n x s se dg el e (ba l) et := by
  have hE := enc_ans true (p := p) (n := n) (s := s) hx hse
  have hD := digest_ans true (p := p) (n := n) (x := x) (s := s) (se := se) hx
  unfold encV digE at hE
  unfold digV digE at hD
  by_cases hc : eCls p n s.size < 5
  · rw [if_pos hc, if_pos hc] at hE hD
    exact ⟨false, 0, 0, ⟨#[]⟩, ⟨#[]⟩, ⟨(fun h => by cases h), hE, hD, (fun h => by cases h)⟩⟩
  · rw [if_neg hc, if_neg hc] at hE hD
    have h5 : eCls p n s.size = 5 := by
      have := eCls_le p n s.size
      omega
    obtain ⟨a, b, c, d, e⟩ := eCls_in h5
    have hC := dec_ans true (encL p n x s se ++ l)
    rw [dec_enc h5 hx hse] at hC
    refine ⟨true, digM p n x s, (12 + s.size + 128 : Nat), ba (encL p n x s se), ba (encL p n x s se ++ l), ⟨fun _ => ⟨a, b, c, d, e, by rw [ba_size, encL_len], _, _, rfl, rfl, rfl, ?_⟩, hE, hD, fun _ => hC⟩⟩
    rw [encL_len]
    omega
theorem bkB_is (l : List UInt8) : ∃ b rn p' n' x' s' se' u, BkB b rn p' n' x' s' se' (ba l) u := by
  have hC := dec_ans true l
  unfold decV at hC
  by_cases hd : dOk l = true
  · rw [if_pos hd] at hC
    unfold dOk dEndL at hd
    simp only [Bool.and_eq_true, decide_eq_true_eq] at hd
    obtain ⟨_, h1, h2⟩ := hd
    have h5 : eCls (bAt l 0 : Nat) (bAt l 1 : Nat) (dLenL l) = 5 := Nat.eq_of_beq_eq_true h2
    have hsz := bodyL_size (l := l) (L := dLenL l) (by omega)
    have hE := enc_ans true (p := (bAt l 0 : Nat)) (n := (bAt l 1 : Nat)) (x := (dXL l : Nat)) (s := ba (cutL l 12 (dLenL l))) (se := fun i => ((numL (cutL l (12 + dLenL l + 8 * i) 8) : Nat) : Int)) (by have := numL_cut l 2; unfold dXL; omega) (fun i _ => by have := numL_cut l (12 + dLenL l + 8 * i); omega)
    unfold encV digE at hE
    rw [hsz, if_neg (by omega), if_neg (by omega), enc_dec rfl h1] at hE
    exact ⟨true, (12 + dLenL l + 128 : Nat), _, _, _, _, _, ba (l.take (12 + dLenL l + 128)), ⟨fun _ => ⟨l, _, rfl, rfl, h1, rfl⟩, hC, fun _ => hE⟩⟩
  · rw [if_neg hd] at hC
    exact ⟨false, 0, 0, 0, 0, ⟨#[]⟩, fun _ => 0, ⟨#[]⟩, ⟨(fun h => by cases h), hC, (fun h => by cases h)⟩⟩
/-- BookBack answers true. -/
theorem bookBack_ans {p n x : Int} {s : ByteArray} {se : Nat → Int} {t : ByteArray} (hx : 0 ≤ x ∧ x < 18446744073709551616) (hse : ∀ i, i < 16 → 0 ≤ se i ∧ se i < 18446744073709551616) : Ans fBookBack [entVal p n x s se, .string t] (.bool true) := by
  by_cases hs : 10000 < t.size
  · exact back_big hs
  · obtain ⟨a, dg, el, e, et, hA⟩ := bkA_is (p := p) (n := n) (s := s) (l := t.data.toList) hx hse (by have : t.data.toList.length = t.size := rfl; omega)
    obtain ⟨b, rn, p', n', x', s', se', u, hB⟩ := bkB_is t.data.toList
    rw [ba_self] at hA hB
    exact back_core hA hB (by omega)
end Go.Proofs.Z
