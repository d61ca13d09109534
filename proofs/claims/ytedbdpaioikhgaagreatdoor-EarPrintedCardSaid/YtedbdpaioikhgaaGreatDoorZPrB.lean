/- A part of the proofs that the laws of layer one answer true for every input. -/
import Derived.Test.YtedbdpaioikhgaaGreatDoorZTkL
import Derived.Test.YtedbdpaioikhgaaGreatDoorZTkU
import Derived.Test.YtedbdpaioikhgaaGreatDoorZTkS
namespace Go.Proofs.Z.Pr
open Go Go.RowKit Go.Proofs Go.Ri Go.Proofs.Z
open Go.Proofs.Z.W (tfr tto skp tlen runL byteIn)
open Go.Proofs.Z.Ps (plc phrase cl updP earP earM ER wWhole wComma wordsA wordsC wordsH wordsS nt vc)
/-! Texts that tell features: how they are read. -/
def bl (n : Nat) : List UInt8 := List.replicate n 32
theorem tw_bl (n : Nat) (m : List UInt8) (h : ∀ c, m.head? = some c → c ≠ 32) : ((bl n ++ m).takeWhile fun c => c == 32).length = n := by
  induction n with
  | zero =>
    cases m with
    | nil => rfl
    | cons c m =>
      have := h c rfl
      show ((c :: m).takeWhile _).length = 0
      rw [List.takeWhile_cons_of_neg (by simpa using this)]
      rfl
  | succ n ih =>
    show ((32 :: (bl n ++ m)).takeWhile _).length = _
    rw [List.takeWhile_cons_of_pos rfl, List.length_cons, ih]
/-- The next token of a text, where blanks and a word stand. -/
theorem read_tok {l : List UInt8} {i b : Nat} {w post : List UInt8} (h : l.drop i = bl b ++ (w ++ post)) (hi : i ≤ l.length) (hw : tlen (w ++ post) = w.length) (h1 : ∀ c, (w ++ post).head? = some c → c ≠ 32) :
    Ps.tok l i = w ∧ l.drop (tto l i) = post ∧ tto l i ≤ l.length ∧ tto l i = i + b + w.length := by
  have e1 : tfr l i = i + b := by
    show i + ((l.drop i).takeWhile fun c => c == 32).length = _
    rw [h, tw_bl _ _ h1]
  have hb : (bl b).length = b := List.length_replicate
  have e2 : l.drop (i + b) = w ++ post := by
    rw [← List.drop_drop, h, List.drop_append_of_le_length (by omega), List.drop_of_length_le (by omega)]
    rfl
  have e3 : tto l i = i + b + w.length := by
    show tfr l i + tlen (l.drop (tfr l i)) = _
    rw [e1, e2, hw]
  refine ⟨?_, ?_, ?_, e3⟩
  · unfold Ps.tok
    rw [e3, e1, e2, Nat.add_sub_cancel_left, List.take_left']
    rfl
  · rw [e3, ← List.drop_drop, e2, List.drop_left']
    rfl
  · have := congrArg List.length h
    rw [List.length_drop, List.length_append, List.length_append, hb] at this
    omega
/-- Behind a word of letters, or of digits, another kind of byte stands. -/
def stop (m : List UInt8) : Prop := ∀ c, m.head? = some c → byteIn 97 122 c = false ∧ byteIn 48 57 c = false
theorem tw_all {p : UInt8 → Bool} : ∀ (w m : List UInt8), w.all p = true → (∀ c, m.head? = some c → p c = false) → (w ++ m).takeWhile p = w
  | [], m, _, h => by
    cases m with
    | nil => rfl
    | cons c m =>
      have := h c rfl
      show (c :: m).takeWhile p = []
      rw [List.takeWhile_cons_of_neg (by rw [this]; decide)]
  | c :: w, m, hw, h => by
    simp only [List.all_cons, Bool.and_eq_true] at hw
    show (c :: (w ++ m)).takeWhile p = c :: w
    rw [List.takeWhile_cons_of_pos hw.1, tw_all w m hw.2 h]
def isL (w : List UInt8) : Bool := !w.isEmpty && w.all (byteIn 97 122)
def isD (w : List UInt8) : Bool := !w.isEmpty && w.all (byteIn 48 57)
theorem not_dig (c : UInt8) (h : byteIn 97 122 c = true) : byteIn 48 57 c = false := by
  unfold byteIn at h ⊢
  simp only [Bool.and_eq_true, decide_eq_true_eq] at h
  have : ¬ c.toNat ≤ 57 := by omega
  simp [this]
theorem not_let (c : UInt8) (h : byteIn 48 57 c = true) : byteIn 97 122 c = false := by
  unfold byteIn at h ⊢
  simp only [Bool.and_eq_true, decide_eq_true_eq] at h
  have : ¬ 97 ≤ c.toNat := by omega
  simp [this]
theorem no_bl (c : UInt8) (h : byteIn 97 122 c = true ∨ byteIn 48 57 c = true) : c ≠ 32 := fun e => by
  subst e
  rcases h with h | h <;> cases h
theorem tlen_L {w m : List UInt8} (h : isL w = true) (hs : stop m) : tlen (w ++ m) = w.length := by
  unfold isL at h
  simp only [Bool.and_eq_true] at h
  obtain ⟨h0, h1⟩ := h
  cases w with
  | nil => cases h0
  | cons c w =>
    have hc : byteIn 97 122 c = true := by
      simp only [List.all_cons, Bool.and_eq_true] at h1
      exact h1.1
    have e1 : runL 97 122 (c :: w ++ m) = (c :: w).length := by
      unfold runL
      rw [tw_all _ _ h1 fun c hc => (hs c hc).1]
    have e2 : runL 48 57 (c :: w ++ m) = 0 := by
      unfold runL
      show ((c :: (w ++ m)).takeWhile _).length = 0
      rw [List.takeWhile_cons_of_neg (by rw [not_dig c hc]; decide)]
      rfl
    show max (max (runL 97 122 (c :: w ++ m)) (runL 48 57 (c :: w ++ m))) (min (c :: w ++ m).length 1) = _
    rw [e1, e2, List.length_cons]
    omega
theorem tlen_D {w m : List UInt8} (h : isD w = true) (hs : stop m) : tlen (w ++ m) = w.length := by
  unfold isD at h
  simp only [Bool.and_eq_true] at h
  obtain ⟨h0, h1⟩ := h
  cases w with
  | nil => cases h0
  | cons c w =>
    have hc : byteIn 48 57 c = true := by
      simp only [List.all_cons, Bool.and_eq_true] at h1
      exact h1.1
    have e1 : runL 48 57 (c :: w ++ m) = (c :: w).length := by
      unfold runL
      rw [tw_all _ _ h1 fun c hc => (hs c hc).2]
    have e2 : runL 97 122 (c :: w ++ m) = 0 := by
      unfold runL
      show ((c :: (w ++ m)).takeWhile _).length = 0
      rw [List.takeWhile_cons_of_neg (by rw [not_let c hc]; decide)]
      rfl
    show max (max (runL 97 122 (c :: w ++ m)) (runL 48 57 (c :: w ++ m))) (min (c :: w ++ m).length 1) = _
    rw [e1, e2, List.length_cons]
    omega
theorem tlen_O {c : UInt8} (h1 : byteIn 97 122 c = false) (h2 : byteIn 48 57 c = false) (m : List UInt8) : tlen (c :: m) = 1 := by
  have e1 : runL 97 122 (c :: m) = 0 := by
    unfold runL
    rw [List.takeWhile_cons_of_neg (by rw [h1]; decide)]
    rfl
  have e2 : runL 48 57 (c :: m) = 0 := by
    unfold runL
    rw [List.takeWhile_cons_of_neg (by rw [h2]; decide)]
    rfl
  show max (max (runL 97 122 (c :: m)) (runL 48 57 (c :: m))) (min (c :: m).length 1) = 1
  rw [e1, e2, List.length_cons]
  omega
theorem head_L {w m : List UInt8} (h : isL w = true) : ∀ c, (w ++ m).head? = some c → c ≠ 32 := fun c hc => by
  unfold isL at h
  simp only [Bool.and_eq_true] at h
  cases w with
  | nil => cases h.1
  | cons d w =>
    cases hc
    have h2 := h.2
    simp only [List.all_cons, Bool.and_eq_true] at h2
    exact no_bl _ (.inl h2.1)
theorem head_D {w m : List UInt8} (h : isD w = true) : ∀ c, (w ++ m).head? = some c → c ≠ 32 := fun c hc => by
  unfold isD at h
  simp only [Bool.and_eq_true] at h
  cases w with
  | nil => cases h.1
  | cons d w =>
    cases hc
    have h2 := h.2
    simp only [List.all_cons, Bool.and_eq_true] at h2
    exact no_bl _ (.inr h2.1)
theorem read_L {l : List UInt8} {i b : Nat} {w post : List UInt8} (h : l.drop i = bl b ++ (w ++ post)) (hi : i ≤ l.length) (hw : isL w = true) (hs : stop post) : Ps.tok l i = w ∧ l.drop (tto l i) = post ∧ tto l i ≤ l.length :=
  have := read_tok h hi (tlen_L hw hs) (head_L hw)
  ⟨this.1, this.2.1, this.2.2.1⟩
theorem read_D {l : List UInt8} {i b : Nat} {w post : List UInt8} (h : l.drop i = bl b ++ (w ++ post)) (hi : i ≤ l.length) (hw : isD w = true) (hs : stop post) : Ps.tok l i = w ∧ l.drop (tto l i) = post ∧ tto l i ≤ l.length :=
  have := read_tok h hi (tlen_D hw hs) (head_D hw)
  ⟨this.1, this.2.1, this.2.2.1⟩
theorem read_O {l : List UInt8} {i b : Nat} {c : UInt8} {post : List UInt8} (h : l.drop i = bl b ++ (c :: post)) (hi : i ≤ l.length) (h1 : byteIn 97 122 c = false) (h2 : byteIn 48 57 c = false) (h3 : c ≠ 32) : Ps.tok l i = [c] ∧ l.drop (tto l i) = post ∧ tto l i ≤ l.length :=
  have := read_tok (w := [c]) (post := post) h hi (tlen_O h1 h2 post) (fun d hd => by cases hd; exact h3)
  ⟨this.1, this.2.1, this.2.2.1⟩
theorem read_end {l : List UInt8} {i b : Nat} (h : l.drop i = bl b) (hi : i ≤ l.length) : Ps.tok l i = [] ∧ l.drop (tto l i) = [] ∧ tto l i ≤ l.length := by
  have := read_tok (w := []) (post := []) (b := b) (by rw [h]; simp) hi rfl (fun c hc => by cases hc)
  exact ⟨this.1, this.2.1, this.2.2.1⟩
theorem stop_bl (k : Nat) (m : List UInt8) (hk : 1 ≤ k) : stop (bl k ++ m) := by
  obtain ⟨k, rfl⟩ : ∃ j, k = j + 1 := ⟨k - 1, by omega⟩
  intro c hc
  have hc : some (32 : UInt8) = some c := hc
  cases hc
  exact ⟨rfl, rfl⟩
theorem stop_bl' (k : Nat) (m : List UInt8) (hm : stop m) : stop (bl k ++ m) := by
  cases k with
  | zero => exact hm
  | succ k => exact stop_bl (k + 1) m (by omega)
theorem stop_nil : stop [] := fun c hc => by cases hc
/-- The phrase of place p with value v, with k blanks between its words. -/
def wPh (p v k : Nat) : List UInt8 :=
  if p = 0 then wordsA.getD (v - 1) []
  else if p < 9 then wordsA.getD (if p < 5 then 5 else 6) [] ++ (bl k ++ (wordsC.getD (v - 1) [] ++ (bl k ++ wordsS.getD (if p < 5 then p - 1 else p - 5) [])))
  else wordsA.getD 4 [] ++ (bl k ++ wordsH.getD (p - 9) [])
theorem wA : ∀ j, j < 7 → isL (wordsA.getD j []) = true ∧ cl wordsA (wordsA.getD j []) = j ∧ wordsA.getD j [] ≠ wWhole := by decide
theorem wC : ∀ j, j < 3 → isL (wordsC.getD j []) = true ∧ cl wordsC (wordsC.getD j []) = j := by decide
theorem wS : ∀ j, j < 4 → isD (wordsS.getD j []) = true ∧ cl wordsS (wordsS.getD j []) = j := by decide
theorem wH : ∀ j, j < 3 → isD (wordsH.getD j []) = true ∧ cl wordsH (wordsH.getD j []) = j := by decide
theorem phrase_at {l : List UInt8} {i b p v k : Nat} {post : List UInt8} (h : l.drop i = bl b ++ (wPh p v k ++ post)) (hi : i ≤ l.length) (hp : p < 12) (h1 : 1 ≤ v) (h2 : v < vc p) (hk : 1 ≤ k) (hs : stop post) :
    phrase l i = (some (p, v), nt p) ∧ l.drop (plc l i (nt p)) = post ∧ plc l i (nt p) ≤ l.length ∧ Ps.tok l i ≠ wWhole := by
  unfold wPh at h
  by_cases c0 : p = 0
  · subst c0
    rw [if_pos rfl] at h
    have hv : v < 5 := h2
    obtain ⟨a1, a2, a3⟩ := wA (v - 1) (by omega)
    obtain ⟨r1, r2, r3⟩ := read_L h hi a1 hs
    refine ⟨?_, r2, r3, by rw [r1]; exact a3⟩
    unfold phrase
    rw [r1, a2, if_pos (by omega)]
    have : v - 1 + 1 = v := by omega
    rw [this]
    rfl
  · rw [if_neg c0] at h
    by_cases c9 : p < 9
    · rw [if_pos c9] at h
      have hv : v < 4 := by unfold vc at h2; rw [if_neg c0, if_pos c9] at h2; exact h2
      obtain ⟨ed, hed⟩ : ∃ e, (if p < 5 then 5 else 6) = e := ⟨_, rfl⟩
      obtain ⟨sl, hsl⟩ : ∃ e, (if p < 5 then p - 1 else p - 5) = e := ⟨_, rfl⟩
      rw [hed, hsl] at h
      have hed7 : ed = 5 ∨ ed = 6 := by rw [← hed]; split <;> simp
      have hsl4 : sl < 4 := by rw [← hsl]; split <;> omega
      obtain ⟨a1, a2, a3⟩ := wA ed (by omega)
      obtain ⟨b1, b2⟩ := wC (v - 1) (by omega)
      obtain ⟨d1, d2⟩ := wS sl hsl4
      rw [List.append_assoc, List.append_assoc, List.append_assoc, List.append_assoc] at h
      obtain ⟨r1, r2, r3⟩ := read_L h hi a1 (stop_bl k _ hk)
      obtain ⟨s1, s2, s3⟩ := read_L r2 r3 b1 (stop_bl k _ hk)
      obtain ⟨t1, t2, t3⟩ := read_D s2 s3 d1 hs
      have hnt : nt p = 3 := by unfold nt; rw [if_neg c0, if_pos c9]
      rw [hnt]
      have s1 : Ps.tok l (plc l i 1) = wordsC.getD (v - 1) [] := s1
      have t1 : Ps.tok l (plc l i 2) = wordsS.getD sl [] := t1
      refine ⟨?_, t2, t3, by rw [r1]; exact a3⟩
      unfold phrase
      rw [r1, a2, s1, b2, t1, d2, if_neg (by omega), if_neg (by omega), if_pos (by omega), if_pos (by omega), if_pos hsl4]
      have e1 : 1 + 4 * (ed - 5) + sl = p := by rw [← hed, ← hsl]; split <;> omega
      have e2 : v - 1 + 1 = v := by omega
      rw [e1, e2]
    · rw [if_neg c9] at h
      obtain ⟨a1, a2, a3⟩ := wA 4 (by omega)
      obtain ⟨b1, b2⟩ := wH (p - 9) (by omega)
      have hv : v = 1 := by unfold vc at h2; rw [if_neg c0, if_neg c9] at h2; omega
      subst hv
      rw [List.append_assoc, List.append_assoc] at h
      obtain ⟨r1, r2, r3⟩ := read_L h hi a1 (stop_bl k _ hk)
      obtain ⟨s1, s2, s3⟩ := read_D r2 r3 b1 hs
      have hnt : nt p = 2 := by unfold nt; rw [if_neg c0, if_neg c9]
      rw [hnt]
      have s1 : Ps.tok l (plc l i 1) = wordsH.getD (p - 9) [] := s1
      refine ⟨?_, s2, s3, by rw [r1]; exact a3⟩
      unfold phrase
      rw [r1, a2, s1, b2, if_neg (by omega), if_pos rfl, if_pos (by omega)]
      have e1 : 9 + (p - 9) = p := by omega
      rw [e1]
/-- A feature in a text: place, value, blanks between its words, before its comma, and behind it. -/
structure It where
  p : Nat
  v : Nat
  k : Nat
  c : Nat
  d : Nat
def It.ok (q : It) : Prop := q.p < 12 ∧ 1 ≤ q.v ∧ q.v < vc q.p ∧ 1 ≤ q.k
def tx : List It → List UInt8
  | [] => []
  | q :: r => bl q.c ++ (44 :: (bl q.d ++ (wPh q.p q.v q.k ++ tx r)))
def updA (t : Nat → Int) : List It → Nat → Int
  | [] => t
  | q :: r => updA (updP t q.p q.v) r
theorem stop_tx (r : List It) (post : List UInt8) (h : stop post) : stop (tx r ++ post) := by
  cases r with
  | nil => exact h
  | cons q r =>
    show stop ((bl q.c ++ (44 :: _)) ++ post)
    rw [List.append_assoc]
    refine stop_bl' _ _ ?_
    intro c hc
    have hc : some (44 : UInt8) = some c := hc
    cases hc
    exact ⟨rfl, rfl⟩
/-- An ear's features in a text. -/
theorem earM_at {l post : List UInt8} (hs : stop post) (hc : ∀ j, j ≤ l.length → l.drop j = post → Ps.tok l j ≠ wComma) : ∀ (r : List It) (f i b : Nat) (t : Nat → Int) (q : It), l.drop i = bl b ++ (wPh q.p q.v q.k ++ (tx r ++ post)) → i ≤ l.length → q.ok → (∀ z, z ∈ r → z.ok) → (q :: r).Pairwise (fun y z => y.p ≠ z.p) → (∀ z, z ∈ q :: r → t z.p = 0) → r.length < f →
    ∃ j, earM l f i t = ⟨updA t (q :: r), 0, 0, j⟩ ∧ l.drop j = post ∧ j ≤ l.length
  | r, 0, _, _, _, _, _, _, _, _, _, _, hf => absurd hf (Nat.not_lt_zero _)
  | r, f + 1, i, b, t, q, h, hi, hq, hr, hd, ht, hf => by
    obtain ⟨q1, q2, q3, q4⟩ := hq
    obtain ⟨e1, e2, e3, _⟩ := phrase_at h hi q1 q2 q3 q4 (stop_tx r post hs)
    rw [Ps.earM_some e1, if_pos (ht q List.mem_cons_self)]
    cases r with
    | nil =>
      have e2 : l.drop (plc l i (nt q.p)) = post := e2
      rw [if_neg (hc _ e3 e2)]
      exact ⟨_, rfl, e2, e3⟩
    | cons z r =>
      have e2 : l.drop (plc l i (nt q.p)) = (bl z.c ++ (44 :: (bl z.d ++ (wPh z.p z.v z.k ++ tx r)))) ++ post := e2
      rw [List.append_assoc] at e2
      obtain ⟨g1, g2, g3⟩ := read_O (c := 44) e2 e3 rfl rfl (by decide)
      have g2 : l.drop (plc l i (nt q.p + 1)) = bl z.d ++ (wPh z.p z.v z.k ++ tx r) ++ post := g2
      rw [List.append_assoc, List.append_assoc] at g2
      rw [if_pos (show Ps.tok l (plc l i (nt q.p)) = wComma from g1)]
      have hd1 := List.pairwise_cons.1 hd
      obtain ⟨j, k1, k2, k3⟩ := earM_at hs hc r f (plc l i (nt q.p + 1)) z.d (updP t q.p q.v) z g2 g3 (hr z List.mem_cons_self) (fun y hy => hr y (List.mem_cons_of_mem _ hy)) hd1.2 (fun y hy => by
        unfold updP
        rw [if_neg (fun e => hd1.1 y hy e.symm)]
        exact ht y (List.mem_cons_of_mem _ hy)) (by simp only [List.length_cons] at hf; omega)
      exact ⟨j, k1, k2, k3⟩
/-- Texts that tell an ear: blanks, then 'whole', or features. -/
inductive Tells (s : Nat → Int) (l : List UInt8) : Prop where
  | whole (b : Nat) (h : l = bl b ++ wWhole) (hz : ∀ p, p < 12 → s p = 0)
  | feats (b : Nat) (q : It) (r : List It) (h : l = bl b ++ (wPh q.p q.v q.k ++ tx r)) (hq : q.ok) (hr : ∀ z, z ∈ r → z.ok) (hd : (q :: r).Pairwise (fun y z => y.p ≠ z.p)) (hs : ∀ p, p < 12 → updA (fun _ => 0) (q :: r) p = s p)
/-- What an ear's text is read as. -/
theorem earP_at {s : Nat → Int} {l e post : List UInt8} {i : Nat} (he : Tells s e) (h : l.drop i = e ++ post) (hi : i ≤ l.length) (hs : stop post) (hc : ∀ j, j ≤ l.length → l.drop j = post → Ps.tok l j ≠ wComma) :
    ∃ t j, earP l i = ⟨t, 0, 0, j⟩ ∧ (∀ p, p < 12 → t p = s p) ∧ l.drop j = post ∧ j ≤ l.length := by
  cases he with
  | whole b he hz =>
    subst he
    rw [List.append_assoc] at h
    obtain ⟨r1, r2, r3⟩ := read_L h hi (by decide) hs
    refine ⟨fun _ => 0, tto l i, ?_, fun p hp => (hz p hp).symm, r2, r3⟩
    unfold earP
    rw [if_pos r1]
    rfl
  | feats b q r he hq hr hd hsp =>
    subst he
    rw [List.append_assoc, List.append_assoc] at h
    obtain ⟨_, _, _, hw⟩ := phrase_at h hi hq.1 hq.2.1 hq.2.2.1 hq.2.2.2 (stop_tx r post hs)
    have hlen : r.length < l.length + 1 := by
      have : ∀ r : List It, r.length ≤ (tx r).length := by
        intro r
        induction r with
        | nil => exact Nat.le_refl _
        | cons z r ih =>
          show r.length + 1 ≤ (bl z.c ++ (44 :: (bl z.d ++ (wPh z.p z.v z.k ++ tx r)))).length
          rw [List.length_append, List.length_cons, List.length_append, List.length_append]
          omega
      have h1 := this r
      have h2 := congrArg List.length h
      rw [List.length_drop, List.length_append, List.length_append, List.length_append] at h2
      omega
    obtain ⟨j, k1, k2, k3⟩ := earM_at hs hc r (l.length + 1) i b (fun _ => 0) q h hi hq hr hd (fun z _ => rfl) hlen
    refine ⟨_, j, ?_, hsp, k2, k3⟩
    unfold earP
    rw [if_neg hw]
    exact k1
end Go.Proofs.Z.Pr

namespace Go.Proofs.Z.Pr
open Go Go.RowKit Go.Proofs Go.Ri Go.Proofs.Z
open Go.Proofs.Z.W (tfr tto skp tlen runL byteIn)
open Go.Proofs.Z.Ps (plc phrase cl updP earP earM ER wWhole wComma wNear wColon wSemi wFar vc nt pwR pmR markV earL')
/-! Texts that tell an ear, or a mark: what the parsers answer. -/
theorem earF_same {x : Nat → Int} {y : Nat → Bool} {t : Nat → Int} (h : ∀ p, p < 12 → t p = shp x y p) : valB t = valB x ∧ earF t (bitY t) = earF x y ∧ (∀ p, p < 9 → t p = x p) ∧ ∀ j, j < 3 → bitY t j = y j := by
  have h9 : ∀ p, p < 9 → t p = x p := fun p hp => by
    rw [h p (by omega)]
    unfold shp
    rw [if_pos hp]
  have h3 : ∀ j, j < 3 → bitY t j = y j := fun j hj => by
    show (!(t (9 + j) == 0)) = y j
    rw [h (9 + j) (by omega)]
    unfold shp
    rw [if_neg (by omega), Nat.add_sub_cancel_left]
    cases y j <;> rfl
  refine ⟨?_, ?_, h9, h3⟩
  · have key : ∀ k, k + 3 < 9 → ∀ n, edgeB n (sh k t) = edgeB n (sh k x) := fun k hk n => by
      show okC n (cls (t (k + 0))) (cls (t (k + 1))) (cls (t (k + 2))) (cls (t (k + 3))) = okC n (cls (x (k + 0))) (cls (x (k + 1))) (cls (x (k + 2))) (cls (x (k + 3)))
      rw [h9 (k + 0) (by omega), h9 (k + 1) (by omega), h9 (k + 2) (by omega), h9 (k + 3) (by omega)]
    unfold valB
    rw [h9 0 (by omega), key 1 (by omega), key 5 (by omega)]
  · unfold earF
    rw [h9 0 (by omega), h9 1 (by omega), h9 2 (by omega), h9 3 (by omega), h9 4 (by omega), h9 5 (by omega), h9 6 (by omega), h9 7 (by omega), h9 8 (by omega), h3 0 (by omega), h3 1 (by omega), h3 2 (by omega)]
theorem end_tok {l : List UInt8} {c : Nat} : ∀ j, j ≤ l.length → l.drop j = bl c → Ps.tok l j ≠ wComma := fun j hj h => by
  rw [(read_end h hj).1]
  exact (List.cons_ne_nil _ _).symm
theorem stop_b (c : Nat) : stop (bl c) := by
  have := stop_bl' c [] stop_nil
  rwa [List.append_nil] at this
theorem pwR_tells {s : ByteArray} {x : Nat → Int} {y : Nat → Bool} (hv : valB x = true) {e : List UInt8} (he : Tells (shp x y) e) {c : Nat} (h : s.data.toList = e ++ bl c) (hl : ¬ 65536 < s.data.toList.length) : pwR s (earP s.data.toList 0) = .tuple #[earF x y, intV 0, intV 0] := by
  obtain ⟨t, j, h1, h2, h3, h4⟩ := earP_at (i := 0) he (by rw [List.drop_zero]; exact h) (Nat.zero_le _) (stop_b c) (end_tok (l := s.data.toList))
  obtain ⟨g1, g2, _, _⟩ := earF_same h2
  unfold pwR
  rw [h1, if_neg hl]
  show (if (0 : Int) = 0 then _ else _) = _
  rw [if_pos rfl]
  show (if Ps.tok s.data.toList j = [] then (if valB t = true then Value.tuple #[earF t (bitY t), intV 0, intV 0] else _) else _) = _
  rw [if_pos (read_end h3 h4).1, if_pos (by rw [g1]; exact hv), g2]
/-- A mark in a text. -/
theorem pmR_tells {s : ByteArray} {x : Nat → Int} {y : Nat → Bool} {x' : Nat → Int} {y' : Nat → Bool} (hv : valB x = true) (hv' : valB x' = true) {e e' : List UInt8} (he : Tells (shp x y) e) (he' : Tells (shp x' y') e') {b0 b1 b2 b3 b4 c : Nat}
    (h : s.data.toList = bl b0 ++ (wNear ++ (bl b1 ++ (58 :: (e ++ (bl b2 ++ (59 :: (bl b3 ++ (wFar ++ (bl b4 ++ (58 :: (e' ++ bl c)))))))))))) (hl : ¬ 65536 < s.data.toList.length) {a b : ER} (ha : earP s.data.toList (plc s.data.toList 0 2) = a) (hb : earP s.data.toList (plc s.data.toList a.i 3) = b) :
    pmR s a b = .tuple #[markF x y x' y', intV 0, intV 0] := by
  have colon : ∀ (k : Nat) (m : List UInt8), stop (bl k ++ (58 :: m)) := fun k m => stop_bl' _ _ (fun c hc => by cases hc; exact ⟨rfl, rfl⟩)
  have semi : ∀ (k : Nat) (m : List UInt8), stop (bl k ++ (59 :: m)) := fun k m => stop_bl' _ _ (fun c hc => by cases hc; exact ⟨rfl, rfl⟩)
  obtain ⟨t1, t2, t3⟩ := read_L (l := s.data.toList) (i := 0) (w := wNear) (by rw [List.drop_zero]; exact h) (Nat.zero_le _) (by decide) (colon b1 _)
  obtain ⟨u1, u2, u3⟩ := read_O t2 t3 (by decide) (by decide) (by decide)
  have u2 : s.data.toList.drop (plc s.data.toList 0 2) = e ++ (bl b2 ++ (59 :: (bl b3 ++ (wFar ++ (bl b4 ++ (58 :: (e' ++ bl c))))))) := u2
  have u3 : plc s.data.toList 0 2 ≤ s.data.toList.length := u3
  obtain ⟨t, j, h1, h2, h3, h4⟩ := earP_at he u2 u3 (semi b2 _) (fun j hj hd => by
    rw [(read_O hd hj (by decide) (by decide) (by decide)).1]
    decide)
  rw [ha] at h1
  obtain ⟨g1, _, g3, g4⟩ := earF_same h2
  obtain ⟨v1, v2, v3⟩ := read_O h3 h4 (by decide) (by decide) (by decide)
  obtain ⟨w1, w2, w3⟩ := read_L v2 v3 (by decide) (colon b4 _)
  obtain ⟨z1, z2, z3⟩ := read_O w2 w3 (by decide) (by decide) (by decide)
  have haj : a.i = j := by rw [h1]
  have z2 : s.data.toList.drop (plc s.data.toList j 3) = e' ++ bl c := z2
  have z3 : plc s.data.toList j 3 ≤ s.data.toList.length := z3
  obtain ⟨t', j', k1, k2, k3, k4⟩ := earP_at he' z2 z3 (stop_b c) (end_tok (l := s.data.toList))
  rw [← haj, hb] at k1
  obtain ⟨m1, _, m3, m4⟩ := earF_same k2
  have ea : a.err = 0 := by rw [h1]
  have eb : b.err = 0 := by rw [k1]
  have va : a.e = t := by rw [h1]
  have vb : b.e = t' := by rw [k1]
  have hbj : b.i = j' := by rw [k1]
  unfold pmR
  rw [if_neg hl, if_pos (show Ps.tok s.data.toList 0 = wNear from t1), if_pos (show Ps.tok s.data.toList (plc s.data.toList 0 1) = wColon from u1), if_pos ea, if_pos (show Ps.tok s.data.toList a.i = wSemi by rw [haj]; exact v1),
    if_pos (show valB a.e = true by rw [va, g1]; exact hv), if_pos (show Ps.tok s.data.toList (plc s.data.toList a.i 1) = wFar by rw [haj]; exact w1), if_pos (show Ps.tok s.data.toList (plc s.data.toList a.i 2) = wColon by rw [haj]; exact z1), if_pos eb,
    if_pos (show Ps.tok s.data.toList b.i = [] by rw [hbj]; exact (read_end k3 k4).1), if_pos (show valB b.e = true by rw [vb, m1]; exact hv')]
  have e1 : earL' a = [.int .i64 (x 0), .int .i64 (x 1), .int .i64 (x 2), .int .i64 (x 3), .int .i64 (x 4), .int .i64 (x 5), .int .i64 (x 6), .int .i64 (x 7), .int .i64 (x 8), .bool (y 0), .bool (y 1), .bool (y 2)] := by
    unfold earL'
    rw [va, g3 0 (by omega), g3 1 (by omega), g3 2 (by omega), g3 3 (by omega), g3 4 (by omega), g3 5 (by omega), g3 6 (by omega), g3 7 (by omega), g3 8 (by omega), g4 0 (by omega), g4 1 (by omega), g4 2 (by omega)]
  have e2 : earL' b = [.int .i64 (x' 0), .int .i64 (x' 1), .int .i64 (x' 2), .int .i64 (x' 3), .int .i64 (x' 4), .int .i64 (x' 5), .int .i64 (x' 6), .int .i64 (x' 7), .int .i64 (x' 8), .bool (y' 0), .bool (y' 1), .bool (y' 2)] := by
    unfold earL'
    rw [vb, m3 0 (by omega), m3 1 (by omega), m3 2 (by omega), m3 3 (by omega), m3 4 (by omega), m3 5 (by omega), m3 6 (by omega), m3 7 (by omega), m3 8 (by omega), m4 0 (by omega), m4 1 (by omega), m4 2 (by omega)]
  unfold markV
  rw [e1, e2]
  rfl
end Go.Proofs.Z.Pr
