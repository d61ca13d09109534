/- A part of the proofs that the laws of layer one answer true for every input. -/
import Derived.Test.YtedbdpaioikhgaaGreatDoorZTkL
import Derived.Test.YtedbdpaioikhgaaGreatDoorZTkS
namespace Go.Proofs.Z.Ps
open Go Go.RowKit Go.Proofs Go.Ri Go.Proofs.Z
open Go.Proofs.Z.W (tfr tto skp tlen runL byteIn tlen_le)
/-! Texts that agree up to a token's end. -/
structure Agree (l l' : List UInt8) (e : Nat) : Prop where
  le : e ≤ l.length
  le' : e ≤ l'.length
  same : l'.take e = l.take e
  stop : ∀ c, (l'.drop e).head? = some c → c = 32
theorem drop_split {l : List UInt8} {i e : Nat} (h : i ≤ e) (he : e ≤ l.length) : l.drop i = (l.take e).drop i ++ l.drop e := by
  conv => lhs; rw [← List.take_append_drop e l]
  rw [List.drop_append_of_le_length (by rw [List.length_take]; omega)]
theorem tw_short {p : UInt8 → Bool} {m y : List UInt8} (h : ((m ++ y).takeWhile p).length < m.length) : (m ++ y).takeWhile p = m.takeWhile p := by
  rw [List.takeWhile_append] at h ⊢
  split
  · rename_i h1
    rw [if_pos h1, List.length_append] at h
    omega
  · rfl
theorem tw_len (p : UInt8 → Bool) (m y : List UInt8) : (m.takeWhile p).length ≤ ((m ++ y).takeWhile p).length := by
  rw [List.takeWhile_append]
  split
  · rename_i h1
    rw [List.length_append, h1]
    omega
  · exact Nat.le_refl _
section
variable {l l' : List UInt8} {e : Nat} (A : Agree l l' e)
include A
theorem tfr_same {i : Nat} (h : tfr l i < e) : tfr l' i = tfr l i := by
  have hi : i ≤ e := by have := le_tfr l i; omega
  have e1 := drop_split hi A.le
  have e2 := drop_split hi A.le'
  rw [A.same] at e2
  have hm : ((l.take e).drop i).length = e - i := by rw [List.length_drop, List.length_take, Nat.min_eq_left A.le]
  have h1 : ((l.drop i).takeWhile fun c => c == 32).length < e - i := by
    have : i + ((l.drop i).takeWhile fun c => c == 32).length < e := h
    omega
  show i + ((l'.drop i).takeWhile fun c => c == 32).length = i + ((l.drop i).takeWhile fun c => c == 32).length
  rw [e1] at h1 ⊢
  rw [e2]
  have g1 := tw_short (p := fun c => c == 32) (m := (l.take e).drop i) (y := l.drop e) (by rw [hm]; exact h1)
  have g2 : (((l.take e).drop i ++ l'.drop e).takeWhile fun c => c == 32) = ((l.take e).drop i).takeWhile fun c => c == 32 := by
    rw [List.takeWhile_append]
    split
    · rename_i h2
      rw [g1, h2, hm] at h1
      omega
    · rfl
  rw [g1, g2]
omit A in
theorem run_same {a b : Nat} (hb : byteIn a b 32 = false) {m y y' : List UInt8} (hy : ∀ c, y'.head? = some c → c = 32) (h : runL a b (m ++ y) ≤ m.length) : runL a b (m ++ y') = runL a b (m ++ y) := by
  have h0 : y'.takeWhile (byteIn a b) = [] := by
    cases y' with
    | nil => rfl
    | cons c r =>
      obtain rfl := hy c rfl
      exact List.takeWhile_cons_of_neg (by rw [hb]; decide)
  unfold runL at h ⊢
  rw [List.takeWhile_append] at h ⊢
  rw [List.takeWhile_append]
  split
  · rename_i h1
    rw [if_pos h1, List.length_append] at h
    rw [h0, List.append_nil, List.length_append]
    omega
  · rfl
theorem tto_same {i : Nat} (h : tfr l i < e) (h2 : tto l i ≤ e) : tto l' i = tto l i := by
  have ef := tfr_same A h
  have e1 := drop_split (Nat.le_of_lt h) A.le
  have e2 := drop_split (Nat.le_of_lt h) A.le'
  rw [A.same] at e2
  have hm : ((l.take e).drop (tfr l i)).length = e - tfr l i := by rw [List.length_drop, List.length_take, Nat.min_eq_left A.le]
  show tfr l' i + tlen (l'.drop (tfr l' i)) = tfr l i + tlen (l.drop (tfr l i))
  have h3 : tfr l i + tlen (l.drop (tfr l i)) ≤ e := h2
  rw [ef]
  rw [e1] at h3 ⊢
  rw [e2]
  have h4 : tlen ((l.take e).drop (tfr l i) ++ l.drop e) ≤ ((l.take e).drop (tfr l i)).length := by omega
  have g1 : runL 97 122 ((l.take e).drop (tfr l i) ++ l.drop e) ≤ ((l.take e).drop (tfr l i)).length := Nat.le_trans (by unfold tlen; omega) h4
  have g2 : runL 48 57 ((l.take e).drop (tfr l i) ++ l.drop e) ≤ ((l.take e).drop (tfr l i)).length := Nat.le_trans (by unfold tlen; omega) h4
  have k1 := run_same (a := 97) (b := 122) (by decide) A.stop g1
  have k2 := run_same (a := 48) (b := 57) (by decide) A.stop g2
  unfold tlen
  rw [k1, k2, List.length_append, List.length_append]
  omega
theorem tok_same {i : Nat} (h : tfr l i < e) (h2 : tto l i ≤ e) : tok l' i = tok l i := by
  have e0 := tfr_same A h
  have e3 := tto_same A h h2
  have e1 := drop_split (Nat.le_of_lt h) A.le
  have e2 := drop_split (Nat.le_of_lt h) A.le'
  rw [A.same] at e2
  have hm : ((l.take e).drop (tfr l i)).length = e - tfr l i := by rw [List.length_drop, List.length_take, Nat.min_eq_left A.le]
  unfold tok
  rw [e0, e3, e1, e2, List.take_append_of_le_length (by omega), List.take_append_of_le_length (by omega)]
end
/-- A phrase by what its tokens are. -/
def phF (A H C S : Nat) : Option (Nat × Nat) × Nat :=
  if A < 4 then (some (0, A + 1), 1)
  else if A = 4 then (if H < 3 then (some (9 + H, 1), 2) else (none, 1))
  else if A < 7 then (if C < 3 then (if S < 4 then (some (1 + 4 * (A - 5) + S, C + 1), 3) else (none, 2)) else (none, 1))
  else (none, 0)
theorem phrase_F (l : List UInt8) (i : Nat) : phrase l i = phF (cl wordsA (tok l i)) (cl wordsH (tok l (plc l i 1))) (cl wordsC (tok l (plc l i 1))) (cl wordsS (tok l (plc l i 2))) := rfl
theorem phF_same {A H C S H' C' S' k : Nat} {o : Option (Nat × Nat)} (h : phF A H C S = (o, k)) (h1 : 1 ≤ k → H' = H) (h2 : 1 ≤ k → C' = C) (h3 : 2 ≤ k → S' = S) : phF A H' C' S' = (o, k) := by
  unfold phF at h ⊢
  by_cases c1 : A < 4
  · rw [if_pos c1] at h ⊢
    exact h
  · rw [if_neg c1] at h ⊢
    by_cases c2 : A = 4
    · rw [if_pos c2] at h ⊢
      have hk : 1 ≤ k := by split at h <;> cases h <;> omega
      rw [h1 hk]
      exact h
    · rw [if_neg c2] at h ⊢
      by_cases c3 : A < 7
      · rw [if_pos c3] at h ⊢
        have hk : 1 ≤ k := by
          split at h
          · split at h <;> cases h <;> omega
          · cases h
            omega
        rw [h2 hk]
        by_cases c4 : C < 3
        · rw [if_pos c4] at h ⊢
          have hk2 : 2 ≤ k := by split at h <;> cases h <;> omega
          rw [h3 hk2]
          exact h
        · rw [if_neg c4] at h ⊢
          exact h
      · rw [if_neg c3] at h ⊢
        exact h
section
variable {l l' : List UInt8} {e : Nat} (A : Agree l l' e)
include A
theorem plc_same {i : Nat} : ∀ k, (∀ j, j < k → tfr l (plc l i j) < e ∧ tto l (plc l i j) ≤ e) → plc l' i k = plc l i k
  | 0, _ => rfl
  | k + 1, h => by
    show tto l' (plc l' i k) = tto l (plc l i k)
    rw [plc_same k fun j hj => h j (Nat.lt_succ_of_lt hj)]
    exact tto_same A (h k (Nat.lt_succ_self k)).1 (h k (Nat.lt_succ_self k)).2
theorem phrase_same {i k : Nat} {o : Option (Nat × Nat)} (hph : phrase l i = (o, k)) (h : ∀ j, j ≤ k → tfr l (plc l i j) < e ∧ tto l (plc l i j) ≤ e) : phrase l' i = (o, k) := by
  have tk : ∀ j, j ≤ k → tok l' (plc l' i j) = tok l (plc l i j) := fun j hj => by
    rw [plc_same A j fun q hq => h q (by omega)]
    exact tok_same A (h j hj).1 (h j hj).2
  rw [phrase_F] at hph ⊢
  have t0 : tok l' i = tok l i := tk 0 (Nat.zero_le _)
  rw [t0]
  exact phF_same hph (fun hk => by rw [tk 1 hk]) (fun hk => by rw [tk 1 hk]) fun hk => by rw [tk 2 hk]
omit A in
theorem le_earM (l : List UInt8) : ∀ (n i : Nat) (t : Nat → Int), i ≤ (earM l n i t).i
  | 0, _, _ => Nat.le_refl _
  | n + 1, i, t => by
    show i ≤ (match phrase l i with
      | (none, k) => (⟨fun _ => 0, (tfr l (plc l i k) : Nat), 3, plc l i k⟩ : ER)
      | (some (p, v), k) =>
        if t p = 0 then
          (if tok l (plc l i k) = wComma then earM l n (plc l i (k + 1)) (updP t p v) else ⟨updP t p v, 0, 0, plc l i k⟩)
        else ⟨fun _ => 0, (tfr l i : Nat), 11, plc l i k⟩).i
    obtain ⟨o, m, hph⟩ : ∃ o m, phrase l i = (o, m) := ⟨_, _, rfl⟩
    rw [hph]
    cases o with
    | none => exact le_plc l i m
    | some pv =>
      obtain ⟨p, v⟩ := pv
      show i ≤ (if t p = 0 then
          (if tok l (plc l i m) = wComma then earM l n (plc l i (m + 1)) (updP t p v) else (⟨updP t p v, 0, 0, plc l i m⟩ : ER))
        else ⟨fun _ => 0, (tfr l i : Nat), 11, plc l i m⟩).i
      split
      · split
        · exact Nat.le_trans (le_plc l i (m + 1)) (le_earM l n _ _)
        · exact le_plc l i m
      · exact le_plc l i m
omit A in
theorem plc_mono (l : List UInt8) (i : Nat) {j k : Nat} (h : j ≤ k) : plc l i j ≤ plc l i k := by
  induction h with
  | refl => exact Nat.le_refl _
  | step _ ih => exact Nat.le_trans ih (Nat.le_trans (le_tfr l _) (tfr_tto l _))
omit A in
/-- What is consulted up to place q. -/
theorem upto {i q : Nat} (hq1 : tfr l q < e) (hq2 : tto l q ≤ e) {k : Nat} (hk : plc l i k = q ∨ plc l i (k + 1) ≤ q) : ∀ j, j ≤ k → tfr l (plc l i j) < e ∧ tto l (plc l i j) ≤ e := by
  intro j hj
  have h1 := le_tfr l q
  have h2 := tfr_tto l (plc l i j)
  by_cases hlt : j < k
  · have h3 : plc l i (j + 1) ≤ plc l i k := plc_mono l i hlt
    have h4 : plc l i k ≤ q := by
      rcases hk with h | h
      · omega
      · exact Nat.le_trans (plc_mono l i (Nat.le_succ k)) h
    have h5 : tto l (plc l i j) ≤ q := Nat.le_trans h3 h4
    exact ⟨by omega, by omega⟩
  · obtain rfl : j = k := by omega
    rcases hk with h | h
    · rw [h]
      exact ⟨hq1, hq2⟩
    · have h5 : tto l (plc l i j) ≤ q := h
      exact ⟨by omega, by omega⟩
omit A in
theorem earM_none {l : List UInt8} {n i m : Nat} {t : Nat → Int} (h : phrase l i = (none, m)) : earM l (n + 1) i t = ⟨fun _ => 0, (tfr l (plc l i m) : Nat), 3, plc l i m⟩ := by
  show (match phrase l i with
      | (none, k) => (⟨fun _ => 0, (tfr l (plc l i k) : Nat), 3, plc l i k⟩ : ER)
      | (some (p, v), k) =>
        if t p = 0 then
          (if tok l (plc l i k) = wComma then earM l n (plc l i (k + 1)) (updP t p v) else ⟨updP t p v, 0, 0, plc l i k⟩)
        else ⟨fun _ => 0, (tfr l i : Nat), 11, plc l i k⟩) = _
  rw [h]
omit A in
theorem earM_some {l : List UInt8} {n i m p v : Nat} {t : Nat → Int} (h : phrase l i = (some (p, v), m)) : earM l (n + 1) i t = if t p = 0 then (if tok l (plc l i m) = wComma then earM l n (plc l i (m + 1)) (updP t p v) else ⟨updP t p v, 0, 0, plc l i m⟩) else ⟨fun _ => 0, (tfr l i : Nat), 11, plc l i m⟩ := by
  show (match phrase l i with
      | (none, k) => (⟨fun _ => 0, (tfr l (plc l i k) : Nat), 3, plc l i k⟩ : ER)
      | (some (p, v), k) =>
        if t p = 0 then
          (if tok l (plc l i k) = wComma then earM l n (plc l i (k + 1)) (updP t p v) else ⟨updP t p v, 0, 0, plc l i k⟩)
        else ⟨fun _ => 0, (tfr l i : Nat), 11, plc l i k⟩) = _
  rw [h]
theorem earM_same : ∀ (n n' i : Nat) (t : Nat → Int) (r : ER), earM l n i t = r → l.length - i < n → l'.length - i < n' → i ≤ l.length → tfr l r.i < e → tto l r.i ≤ e → earM l' n' i t = r
  | 0, _, _, _, _, _, h, _, _, _, _ => by omega
  | _, 0, _, _, _, _, _, h, _, _, _ => by omega
  | n + 1, n' + 1, i, t, r, hr, h1, h2, hi, hq1, hq2 => by
    obtain ⟨o, m, hph⟩ : ∃ o m, phrase l i = (o, m) := ⟨_, _, rfl⟩
    cases o with
    | none =>
      rw [earM_none hph] at hr
      subst hr
      have hu := upto (e := e) (i := i) (k := m) hq1 hq2 (.inl rfl)
      have hp := plc_same A (i := i) m fun j hj => hu j (Nat.le_of_lt hj)
      rw [earM_none (phrase_same A hph hu), hp, tfr_same A hq1]
    | some pv =>
      obtain ⟨p, v⟩ := pv
      rw [earM_some hph] at hr
      by_cases hz : t p = 0
      · rw [if_pos hz] at hr
        by_cases hc : tok l (plc l i m) = wComma
        · rw [if_pos hc] at hr
          have hle := le_earM l n (plc l i (m + 1)) (updP t p v)
          rw [hr] at hle
          have hu := upto (e := e) (i := i) (k := m) hq1 hq2 (.inr hle)
          have hp := plc_same A (i := i) m fun j hj => hu j (Nat.le_of_lt hj)
          have hp1 := plc_same A (i := i) (m + 1) fun j hj => hu j (Nat.le_of_lt_succ hj)
          have hm := hu m (Nat.le_refl m)
          have htk := tok_same A hm.1 hm.2
          have g1 := le_plc l i m
          have g2 : plc l i m < plc l i (m + 1) := tok_lt (l := l) (i := plc l i m) (by rw [hc]; exact List.cons_ne_nil _ _)
          have g3 := le_tfr l r.i
          have g4 := A.le'
          have g5 := A.le
          rw [earM_some (phrase_same A hph hu), if_pos hz, hp, htk, if_pos hc, hp1]
          exact earM_same n n' _ _ r hr (by omega) (by omega) (plc_le hi (m + 1)) hq1 hq2
        · rw [if_neg hc] at hr
          subst hr
          have hu := upto (e := e) (i := i) (k := m) hq1 hq2 (.inl rfl)
          have hp := plc_same A (i := i) m fun j hj => hu j (Nat.le_of_lt hj)
          have htk := tok_same A hq1 hq2
          rw [earM_some (phrase_same A hph hu), if_pos hz, hp, htk, if_neg hc]
      · rw [if_neg hz] at hr
        subst hr
        have hu := upto (e := e) (i := i) (k := m) hq1 hq2 (.inl rfl)
        have hp := plc_same A (i := i) m fun j hj => hu j (Nat.le_of_lt hj)
        have h0 := hu 0 (Nat.zero_le m)
        have ht0 : tfr l' i = tfr l i := tfr_same A h0.1
        rw [earM_some (phrase_same A hph hu), if_neg hz, hp, ht0]
theorem earP_same {i : Nat} {r : ER} (hr : earP l i = r) (hi : i ≤ l.length) (hq1 : tfr l r.i < e) (hq2 : tto l r.i ≤ e) : earP l' i = r := by
  unfold earP at hr ⊢
  have hle : i ≤ r.i := by
    rw [← hr]
    split
    · exact le_plc l i 1
    · exact le_earM l _ _ _
  have h0 : tfr l i < e ∧ tto l i ≤ e := by
    by_cases hw : tok l i = wWhole
    · rw [if_pos hw] at hr
      have : r.i = tto l i := by rw [← hr]; rfl
      have g1 := le_tfr l r.i
      have g2 := tfr_tto l i
      have g3 : i < tto l i := tok_lt (by rw [hw]; exact List.cons_ne_nil _ _)
      have g4 : tfr l i < tto l i ∨ tfr l i = tto l i := by omega
      omega
    · rw [if_neg hw] at hr
      obtain ⟨o, m, hph⟩ : ∃ o m, phrase l i = (o, m) := ⟨_, _, rfl⟩
      have hm : plc l i m = r.i ∨ plc l i (m + 1) ≤ r.i := by
        cases o with
        | none =>
          rw [earM_none hph] at hr
          exact .inl (by rw [← hr])
        | some pv =>
          obtain ⟨p, v⟩ := pv
          rw [earM_some hph] at hr
          split at hr
          · split at hr
            · exact .inr (by rw [← hr]; exact le_earM l _ _ _)
            · exact .inl (by rw [← hr])
          · exact .inl (by rw [← hr])
      exact upto (e := e) (i := i) (k := m) hq1 hq2 hm 0 (Nat.zero_le m)
  rw [tok_same A h0.1 h0.2]
  by_cases hw : tok l i = wWhole
  · rw [if_pos hw] at hr ⊢
    rw [← hr]
    have hp : plc l' i 1 = plc l i 1 := tto_same A h0.1 h0.2
    rw [hp]
  · rw [if_neg hw] at hr ⊢
    exact earM_same A _ _ i _ r hr (by omega) (by omega) hi hq1 hq2
end
end Go.Proofs.Z.Ps

namespace Go.Proofs.Z.Ps
open Go Go.RowKit Go.Proofs Go.Ri Go.Proofs.Z
open Go.Proofs.Z.W (tfr tto skp tlen)
/-! ParseWords and ParseMark of texts that agree up to where they go wrong. -/
theorem tto_gt {l : List UInt8} {i : Nat} (h : tfr l i < l.length) : tfr l i < tto l i := by
  show tfr l i < tfr l i + tlen (l.drop (tfr l i))
  have : 1 ≤ tlen (l.drop (tfr l i)) := by
    unfold tlen
    rw [List.length_drop]
    omega
  omega
theorem tok_some {l : List UInt8} {i : Nat} (h : tfr l i < l.length) : tok l i ≠ [] := by
  have h1 := tto_gt h
  intro e
  have := congrArg List.length e
  unfold tok at this
  rw [List.length_take, List.length_drop, List.length_nil] at this
  omega
theorem no_blank (l : List UInt8) (i : Nat) : l[tfr l i]? ≠ some 32 := by
  have h1 : tfr l i = i + ((l.drop i).takeWhile fun c => c == 32).length := rfl
  intro h2
  have h3 : (l.drop i)[((l.drop i).takeWhile fun c => c == 32).length]? = some 32 := by
    rw [List.getElem?_drop, ← h1]
    exact h2
  generalize l.drop i = m at h3
  induction m with
  | nil => cases h3
  | cons c m ih =>
    by_cases hc : c = 32
    · subst hc
      rw [List.takeWhile_cons_of_pos rfl, List.length_cons, List.getElem?_cons_succ] at h3
      exact ih h3
    · rw [List.takeWhile_cons_of_neg (by simpa using hc)] at h3
      exact hc (by simpa using h3)
/-- Where the ear goes wrong in its form. -/
theorem earM_pos {l : List UInt8} : ∀ (n i : Nat) (t : Nat → Int), (earM l n i t).err = 3 → (earM l n i t).pos = (tfr l (earM l n i t).i : Nat)
  | 0, _, _, h => by cases h
  | n + 1, i, t, h => by
    obtain ⟨o, m, hph⟩ : ∃ o m, phrase l i = (o, m) := ⟨_, _, rfl⟩
    cases o with
    | none => rw [earM_none hph]
    | some pv =>
      obtain ⟨p, v⟩ := pv
      rw [earM_some hph] at h ⊢
      by_cases hz : t p = 0
      · rw [if_pos hz] at h ⊢
        by_cases hc : tok l (plc l i m) = wComma
        · rw [if_pos hc] at h ⊢
          exact earM_pos n _ _ h
        · rw [if_neg hc] at h
          cases h
      · rw [if_neg hz] at h
        cases h
theorem earP_pos {l : List UInt8} {i : Nat} (h : (earP l i).err = 3) : (earP l i).pos = (tfr l (earP l i).i : Nat) := by
  unfold earP at h ⊢
  split
  · rename_i hw
    rw [if_pos hw] at h
    cases h
  · rename_i hw
    rw [if_neg hw] at h
    exact earM_pos _ _ _ h
/-- ParseWords reports the form at place q. -/
def pwBad (s : ByteArray) (r : ER) : Prop := ¬ 65536 < s.data.toList.length ∧ (r.err = 3 ∨ (r.err = 0 ∧ tok s.data.toList r.i ≠ []))
theorem pwR_bad {s : ByteArray} {r : ER} (hr : earP s.data.toList 0 = r) (h : pwBad s r) : pwR s r = .tuple #[zE, intV (tfr s.data.toList r.i : Nat), intV 3] := by
  unfold pwR
  rw [if_neg h.1]
  rcases h.2 with h | ⟨h1, h2⟩
  · rw [if_neg (by rw [h]; decide), h]
    have := earP_pos (l := s.data.toList) (i := 0) (by rw [hr]; exact h)
    rw [hr] at this
    rw [this]
  · rw [if_pos h1, if_neg h2]
theorem pw_same {s s' : ByteArray} {r : ER} (hr : earP s.data.toList 0 = r) (h : pwBad s r) (hlt : tfr s.data.toList r.i < s.data.toList.length) (hl : ¬ 65536 < s'.data.toList.length)
    (A : Agree s.data.toList s'.data.toList (tto s.data.toList r.i)) : pwR s' (earP s'.data.toList 0) = .tuple #[zE, intV (tfr s.data.toList r.i : Nat), intV 3] := by
  have h1 := tto_gt hlt
  have e1 := earP_same A hr (Nat.zero_le _) h1 (Nat.le_refl _)
  have e2 := tok_same A h1 (Nat.le_refl _)
  have e3 := tfr_same A h1
  rw [e1, ← e3]
  refine pwR_bad e1 ⟨hl, ?_⟩
  rcases h.2 with h | ⟨h2, h3⟩
  · exact .inl h
  · exact .inr ⟨h2, by rw [e2]; exact h3⟩
/-- Where ParseMark finds the form wrong, by what it finds. -/
def pmF (n1 n2 : Bool) (ea : Int) (s4 v f6 f7 : Bool) (eb : Int) (t9 : Bool) (p1 pa q1 q2 pb : Nat) : Option Nat :=
  if n1 then (if n2 then (if ea = 0 then (if s4 then (if v then (if f6 then (if f7 then (if eb = 0 then (if t9 then none else some pb) else if eb = 3 then some pb else none) else some q2) else some q1) else none) else some pa) else if ea = 3 then some pa else none) else some p1) else some 0
theorem pmF_zero {n1 n2 s4 v f6 f7 t9 : Bool} {ea eb : Int} {p1 pa q1 q2 pb q : Nat} (h : pmF n1 n2 ea s4 v f6 f7 eb t9 p1 pa q1 q2 pb = some q) (o1 : p1 ≤ pa) (o2 : pa ≤ q1) (o3 : q1 ≤ q2) (o4 : q2 ≤ pb) : 0 = q ∨ p1 ≤ q := by
  unfold pmF at h
  repeat' split at h
  all_goals cases h
  all_goals omega
theorem pmF_same {n1 n2 s4 v f6 f7 t9 n2' s4' v' f6' f7' t9' : Bool} {ea eb ea' eb' : Int} {p1 pa q1 q2 pb p1' pa' q1' q2' pb' q : Nat} (h : pmF n1 n2 ea s4 v f6 f7 eb t9 p1 pa q1 q2 pb = some q) (o2 : pa ≤ q1) (o3 : q1 ≤ q2) (o4 : q2 ≤ pb)
    (e1 : p1 = q ∨ pa ≤ q → n2' = n2 ∧ p1' = p1) (e2 : pa = q ∨ q1 ≤ q → ea' = ea ∧ pa' = pa ∧ s4' = s4 ∧ v' = v) (e3 : q1 = q ∨ q2 ≤ q → f6' = f6 ∧ q1' = q1) (e4 : q2 = q ∨ pb ≤ q → f7' = f7 ∧ q2' = q2) (e5 : pb = q → eb' = eb ∧ t9' = t9 ∧ pb' = pb) : pmF n1 n2' ea' s4' v' f6' f7' eb' t9' p1' pa' q1' q2' pb' = some q := by
  unfold pmF at h ⊢
  cases n1 with
  | false => exact h
  | true =>
    rw [if_pos rfl] at h ⊢
    have k1 : p1 = q ∨ pa ≤ q := by
      repeat' split at h
      all_goals cases h
      all_goals omega
    rw [(e1 k1).1, (e1 k1).2]
    cases n2 with
    | false => exact h
    | true =>
      rw [if_pos rfl] at h ⊢
      have k2 : pa = q ∨ q1 ≤ q := by
        repeat' split at h
        all_goals cases h
        all_goals omega
      obtain ⟨a1, a2, a3, a4⟩ := e2 k2
      rw [a1, a2, a3, a4]
      by_cases c3 : ea = 0
      · rw [if_pos c3] at h ⊢
        cases s4 with
        | false => exact h
        | true =>
          rw [if_pos rfl] at h ⊢
          cases v with
          | false => cases h
          | true =>
            rw [if_pos rfl] at h ⊢
            have k3 : q1 = q ∨ q2 ≤ q := by
              repeat' split at h
              all_goals cases h
              all_goals omega
            rw [(e3 k3).1, (e3 k3).2]
            cases f6 with
            | false => exact h
            | true =>
              rw [if_pos rfl] at h ⊢
              have k4 : q2 = q ∨ pb ≤ q := by
                repeat' split at h
                all_goals cases h
                all_goals omega
              rw [(e4 k4).1, (e4 k4).2]
              cases f7 with
              | false => exact h
              | true =>
                rw [if_pos rfl] at h ⊢
                have k5 : pb = q := by
                  repeat' split at h
                  all_goals cases h
                  all_goals omega
                obtain ⟨b1, b2, b3⟩ := e5 k5
                rw [b1, b2, b3]
                exact h
      · rw [if_neg c3] at h ⊢
        exact h
def pmQ (l : List UInt8) (a b : ER) : Option Nat :=
  pmF (tok l 0 == wNear) (tok l (plc l 0 1) == wColon) a.err (tok l a.i == wSemi) (valB a.e) (tok l (plc l a.i 1) == wFar) (tok l (plc l a.i 2) == wColon) b.err (tok l b.i == []) (plc l 0 1) a.i (plc l a.i 1) (plc l a.i 2) b.i
theorem le_earP (l : List UInt8) (i : Nat) : i ≤ (earP l i).i := by
  unfold earP
  split
  · exact le_plc l i 1
  · exact le_earM l _ _ _
theorem pmQ_same {l l' : List UInt8} {a b : ER} {q : Nat} (ha : earP l (plc l 0 2) = a) (hb : earP l (plc l a.i 3) = b) (h : pmQ l a b = some q) (hlt : tfr l q < l.length) (A : Agree l l' (tto l q)) :
    pmQ l' (earP l' (plc l' 0 2)) (earP l' (plc l' (earP l' (plc l' 0 2)).i 3)) = some q := by
  have hq := tto_gt hlt
  have ok : ∀ {x : Nat}, (x = q ∨ tto l x ≤ q) → tfr l x < tto l q ∧ tto l x ≤ tto l q := fun {x} hx => by
    rcases hx with rfl | hx
    · exact ⟨hq, Nat.le_refl _⟩
    · have h1 := tfr_tto l x
      have h2 := le_tfr l q
      exact ⟨by omega, by omega⟩
  have o1 : plc l 0 2 ≤ a.i := by rw [← ha]; exact le_earP l _
  have o2 : plc l a.i 3 ≤ b.i := by rw [← hb]; exact le_earP l _
  have m1 : plc l 0 1 ≤ plc l 0 2 := plc_mono l 0 (by omega)
  have m2 : a.i ≤ plc l a.i 1 := plc_mono l a.i (j := 0) (by omega)
  have m3 : plc l a.i 1 ≤ plc l a.i 2 := plc_mono l a.i (by omega)
  have m4 : plc l a.i 2 ≤ plc l a.i 3 := plc_mono l a.i (by omega)
  have A0 : 0 = q ∨ plc l 0 1 ≤ q → tok l' 0 = tok l 0 ∧ plc l' 0 1 = plc l 0 1 := fun c => by
    have g := ok (x := 0) c
    exact ⟨tok_same A g.1 g.2, tto_same A g.1 g.2⟩
  have A1 : plc l 0 1 = q ∨ a.i ≤ q → plc l' 0 1 = plc l 0 1 ∧ tok l' (plc l' 0 1) = tok l (plc l 0 1) ∧ plc l' 0 2 = plc l 0 2 := fun c => by
    have g1 := (A0 (.inr (by omega))).2
    have hx : plc l 0 1 = q ∨ tto l (plc l 0 1) ≤ q := c.elim .inl fun c => .inr (Nat.le_trans o1 c)
    have g := ok hx
    have g2 : plc l' 0 2 = plc l 0 2 := by
      show tto l' (plc l' 0 1) = tto l (plc l 0 1)
      rw [g1]
      exact tto_same A g.1 g.2
    exact ⟨g1, by rw [g1]; exact tok_same A g.1 g.2, g2⟩
  have A2 : a.i = q ∨ plc l a.i 1 ≤ q → earP l' (plc l' 0 2) = a ∧ tok l' a.i = tok l a.i ∧ plc l' a.i 1 = plc l a.i 1 := fun c => by
    have g1 := (A1 (.inr (by omega))).2.2
    have g := ok (x := a.i) c
    rw [g1]
    refine ⟨earP_same A ha ?_ g.1 g.2, tok_same A g.1 g.2, tto_same A g.1 g.2⟩
    have := A.le
    have := le_tfr l a.i
    omega
  have A3 : plc l a.i 1 = q ∨ plc l a.i 2 ≤ q → earP l' (plc l' 0 2) = a ∧ plc l' a.i 1 = plc l a.i 1 ∧ tok l' (plc l' a.i 1) = tok l (plc l a.i 1) ∧ plc l' a.i 2 = plc l a.i 2 := fun c => by
    have g1 := A2 (.inr (by omega))
    have g := ok (x := plc l a.i 1) c
    have g2 : plc l' a.i 2 = plc l a.i 2 := by
      show tto l' (plc l' a.i 1) = tto l (plc l a.i 1)
      rw [g1.2.2]
      exact tto_same A g.1 g.2
    exact ⟨g1.1, g1.2.2, by rw [g1.2.2]; exact tok_same A g.1 g.2, g2⟩
  have A4 : plc l a.i 2 = q ∨ b.i ≤ q → earP l' (plc l' 0 2) = a ∧ plc l' a.i 2 = plc l a.i 2 ∧ tok l' (plc l' a.i 2) = tok l (plc l a.i 2) ∧ plc l' a.i 3 = plc l a.i 3 := fun c => by
    have g1 := A3 (.inr (by omega))
    have hx : plc l a.i 2 = q ∨ tto l (plc l a.i 2) ≤ q := c.elim .inl fun c => .inr (Nat.le_trans o2 c)
    have g := ok hx
    have g2 : plc l' a.i 3 = plc l a.i 3 := by
      show tto l' (plc l' a.i 2) = tto l (plc l a.i 2)
      rw [g1.2.2.2]
      exact tto_same A g.1 g.2
    exact ⟨g1.1, g1.2.2.2, by rw [g1.2.2.2]; exact tok_same A g.1 g.2, g2⟩
  have A5 : b.i = q → earP l' (plc l' 0 2) = a ∧ earP l' (plc l' a.i 3) = b ∧ tok l' b.i = tok l b.i := fun c => by
    have g1 := A4 (.inr (by omega))
    have g := ok (x := b.i) (.inl c)
    refine ⟨g1.1, ?_, tok_same A g.1 g.2⟩
    rw [g1.2.2.2]
    refine earP_same A hb ?_ g.1 g.2
    have := A.le
    have := le_tfr l b.i
    omega
  unfold pmQ at h ⊢
  have z := pmF_zero h (Nat.le_trans m1 o1) m2 m3 (Nat.le_trans m4 o2)
  rw [(A0 z).1]
  refine pmF_same h m2 m3 (Nat.le_trans m4 o2) (fun c => ?_) (fun c => ?_) (fun c => ?_) (fun c => ?_) (fun c => ?_)
  · have g := A1 c
    rw [g.2.1, g.1]
    exact ⟨rfl, rfl⟩
  · have g := A2 c
    rw [g.1, g.2.1]
    exact ⟨rfl, rfl, rfl, rfl⟩
  · have g := A3 c
    rw [g.1, g.2.2.1, g.2.1]
    exact ⟨rfl, rfl⟩
  · have g := A4 c
    rw [g.1, g.2.2.1, g.2.1]
    exact ⟨rfl, rfl⟩
  · have g := A5 c
    rw [g.1, g.2.1, g.2.2]
    exact ⟨rfl, rfl, rfl⟩
theorem if_beq {α β : Type} [BEq α] [LawfulBEq α] [DecidableEq α] (x y : α) (u v : β) : (if (x == y) = true then u else v) = if x = y then u else v := by
  by_cases h : x = y
  · rw [if_pos h, if_pos (by rw [h]; exact beq_self_eq_true y)]
  · rw [if_neg h, if_neg (by simpa using h)]
theorem earP_pos' {l : List UInt8} {i : Nat} {r : ER} (hr : earP l i = r) (h : r.err = 3) : r.pos = (tfr l r.i : Nat) := by
  subst hr
  exact earP_pos h
/-- What ParseMark answers where the form is wrong. -/
theorem pmR_bad {s : ByteArray} {a b : ER} {q : Nat} (ha : earP s.data.toList (plc s.data.toList 0 2) = a) (hb : earP s.data.toList (plc s.data.toList a.i 3) = b) (hl : ¬ 65536 < s.data.toList.length) (h : pmQ s.data.toList a b = some q) : pmR s a b = mBad (tfr s.data.toList q : Nat) 3 := by
  unfold pmQ pmF at h
  simp only [if_beq] at h
  unfold pmR
  rw [if_neg hl]
  by_cases c1 : tok s.data.toList 0 = wNear
  · rw [if_pos c1] at h ⊢
    by_cases c2 : tok s.data.toList (plc s.data.toList 0 1) = wColon
    · rw [if_pos c2] at h ⊢
      by_cases c3 : a.err = 0
      · rw [if_pos c3] at h ⊢
        by_cases c4 : tok s.data.toList a.i = wSemi
        · rw [if_pos c4] at h ⊢
          by_cases c5 : valB a.e = true
          · rw [if_pos c5] at h ⊢
            by_cases c6 : tok s.data.toList (plc s.data.toList a.i 1) = wFar
            · rw [if_pos c6] at h ⊢
              by_cases c7 : tok s.data.toList (plc s.data.toList a.i 2) = wColon
              · rw [if_pos c7] at h ⊢
                by_cases c8 : b.err = 0
                · rw [if_pos c8] at h ⊢
                  by_cases c9 : tok s.data.toList b.i = []
                  · rw [if_pos c9] at h
                    cases h
                  · rw [if_neg c9] at h ⊢
                    rw [← Option.some.inj h]
                · rw [if_neg c8] at h ⊢
                  by_cases c9 : b.err = 3
                  · rw [if_pos c9] at h
                    rw [← Option.some.inj h, earP_pos' hb c9, c9]
                  · rw [if_neg c9] at h
                    cases h
              · rw [if_neg c7] at h ⊢
                rw [← Option.some.inj h]
            · rw [if_neg c6] at h ⊢
              rw [← Option.some.inj h]
          · rw [if_neg c5] at h
            cases h
        · rw [if_neg c4] at h ⊢
          rw [← Option.some.inj h]
      · rw [if_neg c3] at h ⊢
        by_cases c9 : a.err = 3
        · rw [if_pos c9] at h
          rw [← Option.some.inj h, earP_pos' ha c9, c9]
        · rw [if_neg c9] at h
          cases h
    · rw [if_neg c2] at h ⊢
      rw [← Option.some.inj h]
  · rw [if_neg c1] at h ⊢
    rw [← Option.some.inj h]
end Go.Proofs.Z.Ps
