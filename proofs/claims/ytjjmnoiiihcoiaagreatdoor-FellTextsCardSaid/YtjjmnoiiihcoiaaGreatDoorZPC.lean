/- A part of the proofs that the laws of layer four answer true for every input. -/
import Derived.Test.YtjjmnoiiihcoiaaGreatDoorZGB
import Derived.Lib.ItoaMem
import Derived.Lib.CountLaws
import Derived.Lib.Split
import Derived.Lib.AtoiAll
namespace Go.Proofs.Z
open Go Go.RowKit Go.Proofs Go.Ri
/-! Texts: lines and words; numbers. -/
/-- A text cut at each place of a byte. -/
def spl (c : UInt8) : List UInt8 → List (List UInt8)
  | [] => [[]]
  | x :: l => if x = c then [] :: spl c l else (x :: (spl c l).headD []) :: (spl c l).tail
theorem spl_miss {c : UInt8} : ∀ {l : List UInt8}, c ∉ l → spl c l = [l]
  | [], _ => rfl
  | x :: l, h => by
    simp only [List.mem_cons, not_or] at h
    unfold spl
    rw [if_neg (fun e => h.1 e.symm), spl_miss h.2]
    rfl
theorem spl_hit {c : UInt8} : ∀ {a b : List UInt8}, c ∉ a → spl c (a ++ c :: b) = a :: spl c b
  | [], b, _ => by
    show (if c = c then [] :: spl c b else _) = _
    rw [if_pos rfl]
  | x :: a, b, h => by
    simp only [List.mem_cons, not_or] at h
    show spl c (x :: (a ++ c :: b)) = _
    rw [spl, if_neg (fun e => h.1 e.symm), spl_hit h.2]
    rfl
theorem spl_case (c : UInt8) : ∀ l : List UInt8, c ∉ l ∨ ∃ a b, c ∉ a ∧ l = a ++ c :: b
  | [] => .inl (by simp)
  | x :: l => by
    by_cases hx : x = c
    · exact .inr ⟨[], l, by simp, by rw [hx]; rfl⟩
    · rcases spl_case c l with h | ⟨a, b, h, e⟩
      · exact .inl (by simp only [List.mem_cons, not_or]; exact ⟨fun e => hx e.symm, h⟩)
      · exact .inr ⟨x :: a, b, by simp only [List.mem_cons, not_or]; exact ⟨fun e => hx e.symm, h⟩, by rw [e]; rfl⟩
theorem spl_ne (c : UInt8) (l : List UInt8) : spl c l ≠ [] := by
  rcases spl_case c l with h | ⟨a, b, h, rfl⟩
  · rw [spl_miss h]
    simp
  · rw [spl_hit h]
    simp
theorem pre_one (c x : UInt8) (l : List UInt8) : [c].isPrefixOf (x :: l) = (c == x) := by
  show (c == x && true) = _
  rw [Bool.and_true]
theorem idx_miss {c : UInt8} : ∀ {l : List UInt8}, c ∉ l → Lib.index l [c] = -1
  | [], _ => rfl
  | x :: l, h => by
    simp only [List.mem_cons, not_or] at h
    unfold Lib.index
    rw [pre_one, show (c == x) = false by simp [h.1], idx_miss h.2]
    rfl
theorem idx_hit {c : UInt8} : ∀ {a b : List UInt8}, c ∉ a → Lib.index (a ++ c :: b) [c] = (a.length : Nat)
  | [], b, _ => by
    show Lib.index (c :: b) [c] = _
    unfold Lib.index
    rw [pre_one]
    simp
  | x :: a, b, h => by
    simp only [List.mem_cons, not_or] at h
    show Lib.index (x :: (a ++ c :: b)) [c] = _
    unfold Lib.index
    rw [pre_one, show (c == x) = false by simp [h.1], idx_hit h.2]
    have : ((a.length : Nat) : Int) ≠ -1 := by omega
    simp [this]
theorem cut_miss {c : UInt8} {l : List UInt8} (h : c ∉ l) : Lib.cut l [c] = (l, [], false) := by
  unfold Lib.cut
  rw [idx_miss h]
  rfl
theorem cut_hit {c : UInt8} {a b : List UInt8} (h : c ∉ a) : Lib.cut (a ++ c :: b) [c] = (a, b, true) := by
  unfold Lib.cut
  rw [idx_hit h, if_pos (by omega)]
  simp
theorem split_spl (c : UInt8) : ∀ (n : Nat) (l : List UInt8), l.length ≤ n → Lib.splitK [c] 0 (Lib.count l [c]) l = spl c l ∧ Lib.count l [c] + 1 = (spl c l).length
  | 0, l, h => by
    obtain rfl : l = [] := List.eq_nil_of_length_eq_zero (by omega)
    exact ⟨rfl, rfl⟩
  | n + 1, l, h => by
    rcases spl_case c l with hc | ⟨a, b, hc, rfl⟩
    · rw [spl_miss hc, Lib.count_miss (idx_miss hc)]
      exact ⟨rfl, rfl⟩
    · obtain ⟨h1, h2⟩ := split_spl c n b (by simp at h; omega)
      have hi := idx_hit (b := b) hc
      rw [spl_hit hc, Lib.count_hit (by simp) hi]
      have e : (a ++ c :: b).drop (a.length + [c].length) = b := by simp
      rw [e]
      constructor
      · rw [Nat.add_comm]
        show (if Lib.index (a ++ c :: b) [c] == -1 then _ else _) = _
        rw [hi]
        have hne : (((a.length : Nat) : Int) == -1) = false := by
          have : ((a.length : Nat) : Int) ≠ -1 := by omega
          simp [this]
        rw [hne]
        simp only [Bool.false_eq_true, if_false, Int.toNat_natCast]
        rw [e, h1]
        simp
      · rw [List.length_cons, ← h2]
        omega
/-! Numbers. -/
/-- Is a byte a digit? -/
def isDig (c : UInt8) : Bool := decide (48 ≤ c.toNat) && decide (c.toNat ≤ 57)
def dv : Nat → List UInt8 → Nat
  | n, [] => n
  | n, c :: r => dv (n * 10 + (c.toNat - 48)) r
theorem dv_snoc (c : UInt8) : ∀ (l : List UInt8) (n : Nat), dv n (l ++ [c]) = dv n l * 10 + (c.toNat - 48)
  | [], _ => rfl
  | _ :: l, _ => dv_snoc c l _
theorem dv_ge : ∀ (l : List UInt8) (n : Nat), n ≤ dv n l
  | [], n => Nat.le_refl _
  | c :: r, n => Nat.le_trans (by omega) (dv_ge r (n * 10 + (c.toNat - 48)))
/-- What a number is written like. -/
def canonW (w : List UInt8) : Prop := w ≠ [] ∧ w.all isDig = true ∧ (w.length = 1 ∨ w.head? ≠ some 48)
theorem dig_byte {c : UInt8} (h : isDig c = true) : UInt8.ofNat (48 + (c.toNat - 48)) = c := by
  unfold isDig at h
  simp only [Bool.and_eq_true, decide_eq_true_eq] at h
  rw [show 48 + (c.toNat - 48) = c.toNat by omega]
  exact UInt8.ofNat_toNat
theorem dig_lt {c : UInt8} (h : isDig c = true) : c.toNat - 48 < 10 := by
  unfold isDig at h
  simp only [Bool.and_eq_true, decide_eq_true_eq] at h
  omega
theorem dv_pos {x : UInt8} {l : List UInt8} (hd : isDig x = true) (hx : x ≠ 48) : 1 ≤ dv 0 (x :: l) := by
  refine Nat.le_trans ?_ (dv_ge l _)
  unfold isDig at hd
  simp only [Bool.and_eq_true, decide_eq_true_eq] at hd
  have : x.toNat ≠ 48 := fun e => hx (by rw [← UInt8.toNat_inj]; exact e)
  omega
theorem dec_dv (n : Nat) : ∀ w : List UInt8, w.length = n + 1 → canonW w → Lib.decDigits (dv 0 w) = w := by
  induction n with
  | zero =>
    intro w hl ⟨_, hd, _⟩
    match w, hl with
    | [c], _ =>
      simp only [List.all_cons, List.all_nil, Bool.and_true] at hd
      show Lib.decDigits (0 * 10 + (c.toNat - 48)) = _
      rw [Lib.decDigits_one (by have := dig_lt hd; omega)]
      rw [show 0 * 10 + (c.toNat - 48) = c.toNat - 48 by omega, dig_byte hd]
  | succ n ih =>
    intro w hl ⟨hne, hd, hc⟩
    obtain ⟨v, c, rfl⟩ : ∃ v c, w = v ++ [c] := ⟨w.dropLast, w.getLast hne, (List.dropLast_concat_getLast hne).symm⟩
    rw [List.length_append, List.length_singleton] at hl
    rw [List.all_append, Bool.and_eq_true] at hd
    simp only [List.all_cons, List.all_nil, Bool.and_true] at hd
    match v, hl with
    | x :: v, hl =>
      have hx : x ≠ 48 := by
        rcases hc with h | h
        · simp at h
        · exact fun e => h (by rw [e]; rfl)
      have hxd : isDig x = true := by
        have := hd.1
        simp only [List.all_cons, Bool.and_eq_true] at this
        exact this.1
      have hv : canonW (x :: v) := ⟨by simp, hd.1, .inr (fun e => hx (by simpa using e))⟩
      have := ih (x :: v) (by omega) hv
      have hp := dv_pos (l := v) hxd hx
      have hlt := dig_lt hd.2
      rw [dv_snoc, Lib.decDigits, dif_neg (by omega), show (dv 0 (x :: v) * 10 + (c.toNat - 48)) / 10 = dv 0 (x :: v) by omega, this,
        show (dv 0 (x :: v) * 10 + (c.toNat - 48)) % 10 = c.toNat - 48 by omega, dig_byte hd.2]
theorem dec_canon (n : Nat) : canonW (Lib.decDigits n) ∧ dv 0 (Lib.decDigits n) = n ∧ (1 ≤ n → (Lib.decDigits n).head? ≠ some 48) := by
  induction n using Nat.strongRecOn with
  | ind n ih =>
    have hb : ∀ k, k < 10 → (UInt8.ofNat (48 + k)).toNat = 48 + k := fun k hk => by
      rw [UInt8.toNat_ofNat']
      omega
    have hdg : ∀ k, k < 10 → isDig (UInt8.ofNat (48 + k)) = true := fun k hk => by
      unfold isDig
      rw [hb k hk]
      simp
      omega
    by_cases h : n < 10
    · rw [Lib.decDigits_one h]
      refine ⟨⟨by simp, by rw [List.all_cons, hdg n h]; rfl, .inl rfl⟩, ?_, fun h1 e => ?_⟩
      · show 0 * 10 + ((UInt8.ofNat (48 + n)).toNat - 48) = n
        rw [hb n h]
        omega
      · have e := congrArg UInt8.toNat (Option.some.inj e)
        rw [hb n h] at e
        have : (48 : UInt8).toNat = 48 := rfl
        omega
    · obtain ⟨⟨i1, i2, i3⟩, i4, i5⟩ := ih (n / 10) (by omega)
      rw [Lib.decDigits, dif_neg h]
      have hh : (Lib.decDigits (n / 10) ++ [UInt8.ofNat (48 + n % 10)]).head? = (Lib.decDigits (n / 10)).head? := by
        cases hq : Lib.decDigits (n / 10) with
        | nil => exact absurd hq i1
        | cons _ _ => rfl
      have i6 := i5 (by omega)
      refine ⟨⟨by simp, by rw [List.all_append, i2, List.all_cons, hdg (n % 10) (by omega)]; rfl, .inr (by rw [hh]; exact i6)⟩, ?_, fun _ => by rw [hh]; exact i6⟩
      rw [dv_snoc, i4, hb (n % 10) (by omega)]
      omega
/-- strconv.Atoi, and Itoa of what it answers is the text. -/
def numC (w : List UInt8) : Option Int := match Lib.atoiAll w with
  | .ok n => if Lib.itoa n = w then some n else none
  | _ => none
/-- The specification's numbers: up to 7 digits. -/
def numF : Nat → List UInt8 → Int
  | n, [] => n
  | n, c :: r => if isDig c then numF (n * 10 + (c.toNat - 48)) r else -1
def numS (w : List UInt8) : Int := if w.length = 0 ∨ 7 < w.length ∨ (1 < w.length ∧ w.head? = some 48) then -1 else numF 0 w
theorem numF_dig : ∀ {w : List UInt8} {n : Nat}, w.all isDig = true → numF n w = (dv n w : Nat)
  | [], n, _ => rfl
  | c :: r, n, h => by
    simp only [List.all_cons, Bool.and_eq_true] at h
    show (if isDig c then _ else _) = _
    rw [if_pos h.1, numF_dig h.2]
    rfl
theorem numF_not : ∀ {w : List UInt8} {n : Nat}, w.all isDig = false → numF n w = -1
  | [], n, h => by cases h
  | c :: r, n, h => by
    show (if isDig c then _ else _) = _
    cases hc : isDig c with
    | false => rfl
    | true =>
      rw [if_pos rfl]
      refine numF_not ?_
      rw [List.all_cons, hc] at h
      exact h
theorem numS_canon {w : List UInt8} (h : canonW w) (hl : w.length ≤ 7) : numS w = (dv 0 w : Nat) := by
  obtain ⟨h1, h2, h3⟩ := h
  unfold numS
  rw [if_neg, numF_dig h2]
  rintro (h | h | ⟨h, h'⟩)
  · exact h1 (List.eq_nil_of_length_eq_zero h)
  · omega
  · rcases h3 with h3 | h3
    · omega
    · exact h3 h'
theorem numS_not {w : List UInt8} (h : ¬ (canonW w ∧ w.length ≤ 7)) : numS w = -1 := by
  unfold numS
  split
  · rfl
  · rename_i hn
    cases hd : w.all isDig with
    | false => exact numF_not hd
    | true =>
      exfalso
      refine h ⟨⟨fun e => hn (.inl (by rw [e]; rfl)), hd, ?_⟩, by omega⟩
      by_cases h1 : w.length = 1
      · exact .inl h1
      · refine .inr fun e => hn ?_
        by_cases h0 : w.length = 0
        · exact .inl h0
        · exact .inr (.inr ⟨by omega, e⟩)
theorem pu_dig : ∀ (l : List UInt8) (n : Nat), l.all isDig = true → dv n l < 18446744073709551610 → Lib.parseUint10 n l = .ok (dv n l)
  | [], n, _, _ => rfl
  | c :: r, n, h, hlt => by
    simp only [List.all_cons, Bool.and_eq_true] at h
    have hd := h.1
    unfold isDig at hd
    simp only [Bool.and_eq_true, decide_eq_true_eq] at hd
    have hge : n * 10 + (c.toNat - 48) ≤ dv n (c :: r) := dv_ge r _
    unfold Lib.parseUint10
    rw [if_pos hd, if_neg (by omega), if_neg (by omega)]
    exact pu_dig r _ h.2 hlt
/-- A small number is written in one way. -/
theorem numC_canon {w : List UInt8} (h : canonW w) (hlt : dv 0 w < 1000000000000) : numC w = some ((dv 0 w : Nat) : Int) := by
  obtain ⟨h1, h2, h3⟩ := id h
  have hdec := dec_dv (w.length - 1) w (by have : w.length ≠ 0 := fun e => h1 (List.eq_nil_of_length_eq_zero e); omega) h
  have hat : Lib.atoiAll w = .ok (dv 0 w : Nat) := by
    match w, h1, h2, hlt with
    | c :: r, h1, h2, hlt =>
      have hd : isDig c = true := by
        simp only [List.all_cons, Bool.and_eq_true] at h2
        exact h2.1
      unfold isDig at hd
      simp only [Bool.and_eq_true, decide_eq_true_eq] at hd
      have e1 : ¬ c.toNat = 43 := by omega
      have e2 : ¬ c.toNat = 45 := by omega
      have hp : Lib.parseMag (c :: r) = .ok (dv 0 (c :: r)) := by
        unfold Lib.parseMag
        rw [if_neg (by simp), pu_dig _ _ h2 (by omega)]
      unfold Lib.atoiAll
      simp only [e1, e2, or_self, if_false, hp, not_false_eq_true, true_and, false_and]
      rw [if_neg (by omega)]
  unfold numC
  rw [hat]
  have : Lib.itoa ((dv 0 w : Nat) : Int) = w := by rw [Lib.itoa_nonneg, hdec]
  simp only [this, if_true]
theorem numC_dec {w : List UInt8} {n : Int} (h : numC w = some n) : Lib.itoa n = w := by
  unfold numC at h
  split at h
  · split at h
    · cases h
      assumption
    · cases h
  · cases h
theorem nd_ge : ∀ (m u : Nat), m + 2 ≤ Lib.nDigits u → 10 ^ (m + 1) ≤ u
  | 0, u, hu => by
    by_cases h : u < 10
    · rw [Lib.nDigits_small h] at hu
      omega
    · show 10 ≤ u
      omega
  | m + 1, u, hu => by
    by_cases h : u < 10
    · rw [Lib.nDigits_small h] at hu
      omega
    · rw [Lib.nDigits_big h] at hu
      have := nd_ge m (u / 10) (by omega)
      rw [Nat.pow_succ]
      omega
/-- Where the one finds a small number, so does the other. -/
theorem num_iff {w : List UInt8} {n : Int} (h0 : 0 ≤ n) (h1 : n < 10000000) : numS w = n ↔ numC w = some n := by
  constructor
  · intro h
    by_cases hc : canonW w ∧ w.length ≤ 7
    · rw [numS_canon hc.1 hc.2] at h
      rw [← h]
      exact numC_canon hc.1 (by omega)
    · rw [numS_not hc] at h
      omega
  · intro h
    have he := numC_dec h
    obtain ⟨k, rfl⟩ : ∃ k : Nat, n = k := ⟨n.toNat, by omega⟩
    rw [Lib.itoa_nonneg] at he
    obtain ⟨g1, g2, _⟩ := dec_canon k
    have hlen : (Lib.decDigits k).length ≤ 7 := by
      rw [Lib.decDigits_length]
      rcases Nat.lt_or_ge 7 (Lib.nDigits k) with h | h
      · exfalso
        have := nd_ge 6 k (by omega)
        omega
      · exact h
    rw [← he, numS_canon g1 hlen, g2]
end Go.Proofs.Z

namespace Go.Proofs.Z
open Go Go.RowKit Go.Proofs Go.Ri
/-! Fells in texts: what a line says; what a text says. -/
def wFell : List UInt8 := [102, 101, 108, 108]
def wGate : List UInt8 := [103, 97, 116, 101]
def iZ (n : Int) : Value := .int .i64 n
def chk (G : Int) (L : List Value) : Option (Int × List Value) := if validM G L (L.length / 4) then some (G, L) else none
def fw (line : List UInt8) : Option Int := match spl 32 line with
  | [a, b] => if a = wFell then numC b else none
  | _ => none
def gw (line : List UInt8) : Option (List Value) := match spl 32 line with
  | [a, b, c, d, e] => if a = wGate then (match numC b, numC c, numC d, numC e with
    | some p, some q, some r, some s => some [iZ p, iZ q, iZ r, iZ s]
    | _, _, _, _ => none) else none
  | _ => none
/-- The program's way with a line. -/
def rdP (G : Int) (L : List Value) (line : List UInt8) : Option (Int × List Value) := match fw line with
  | some v => if G = 0 then chk v L else none
  | none => match gw line with
    | some q => chk G (L ++ q)
    | none => none
/-- The specification's. -/
def rdS (i : Nat) (G : Int) (L : List Value) (line : List UInt8) : Option (Int × List Value) :=
  if i = 0 then (match spl 32 line with
    | [a, b] => if a = wFell then chk (numS b) L else none
    | _ => none)
  else match spl 32 line with
    | [a, b, c, d, e] => if a = wGate then chk G (L ++ [iZ (numS b), iZ (numS c), iZ (numS d), iZ (numS e)]) else none
    | _ => none
/-- Is this what was read so far right? -/
def Rgt (G : Int) (L : List Value) : Prop := ints L ∧ L.length = L.length / 4 * 4 ∧ validM G L (L.length / 4) = true
theorem chk_some {G G' : Int} {L L' : List Value} (h : chk G L = some (G', L')) : G' = G ∧ L' = L ∧ validM G L (L.length / 4) = true := by
  unfold chk at h
  split at h
  · cases h
    exact ⟨rfl, rfl, by assumption⟩
  · cases h
theorem chk_none {G : Int} {L : List Value} (h : validM G L (L.length / 4) = false) : chk G L = none := by
  unfold chk
  rw [h]
  rfl
theorem gt_app {L : List Value} {p q r s : Int} (hl : L.length = L.length / 4 * 4) : gtA (L ++ [iZ p, iZ q, iZ r, iZ s]) (L.length / 4) = p ∧ gtB (L ++ [iZ p, iZ q, iZ r, iZ s]) (L.length / 4) = q ∧ gtF (L ++ [iZ p, iZ q, iZ r, iZ s]) (L.length / 4) = r ∧ gtT (L ++ [iZ p, iZ q, iZ r, iZ s]) (L.length / 4) = s := by
  unfold gtA gtB gtF gtT
  rw [← hl]
  have e : ∀ k, (L ++ [iZ p, iZ q, iZ r, iZ s]).getD (L.length + k) undef = [iZ p, iZ q, iZ r, iZ s].getD k undef := fun k => by
    rw [List.getD_eq_getElem?_getD, List.getElem?_append_right (by omega), Nat.add_sub_cancel_left, List.getD_eq_getElem?_getD]
  refine ⟨?_, ?_, ?_, ?_⟩
  · have := e 0
    rw [Nat.add_zero] at this
    rw [this]
    rfl
  · rw [e 1]
    rfl
  · rw [e 2]
    rfl
  · rw [e 3]
    rfl
theorem app4_len (L : List Value) (p q r s : Value) : (L ++ [p, q, r, s]).length / 4 = L.length / 4 + 1 := by
  rw [List.length_append]
  simp only [List.length_cons, List.length_nil]
  omega
theorem app_valid {G : Int} {L : List Value} {p q r s : Int} (hl : L.length = L.length / 4 * 4) (h : validM G (L ++ [iZ p, iZ q, iZ r, iZ s]) ((L ++ [iZ p, iZ q, iZ r, iZ s]).length / 4) = true) : G ≤ 16 ∧ 0 ≤ p ∧ p < q ∧ q < G ∧ 0 ≤ r ∧ r < 360 ∧ 0 ≤ s ∧ s < 360 := by
  rw [app4_len] at h
  obtain ⟨h1, h2, h3, h4⟩ := (validM_iff _ _ _).1 h
  have := okL_at h4 (Nat.lt_succ_self _)
  unfold gokL at this
  obtain ⟨e1, e2, e3, e4⟩ := gt_app (p := p) (q := q) (r := r) (s := s) hl
  rw [e1, e2, e3, e4] at this
  exact ⟨h2, (gOk_iff _ _ _ _ _).1 this⟩
theorem gw_len {line : List UInt8} {q : List Value} (h : gw line = some q) : (spl 32 line).length = 5 := by
  unfold gw at h
  split at h
  · rename_i e
    rw [e]
    rfl
  · cases h
theorem len2 {α : Type} {l : List α} (h : l.length = 2) : ∃ a b, l = [a, b] := by
  match l, h with
  | [a, b], _ => exact ⟨a, b, rfl⟩
theorem len5 {α : Type} {l : List α} (h : l.length = 5) : ∃ a b c d e, l = [a, b, c, d, e] := by
  match l, h with
  | [a, b, c, d, e], _ => exact ⟨a, b, c, d, e, rfl⟩
theorem fw_two {line a b : List UInt8} (h : spl 32 line = [a, b]) : fw line = if a = wFell then numC b else none := by
  unfold fw
  rw [h]
theorem fw_none {line : List UInt8} (h : (spl 32 line).length ≠ 2) : fw line = none := by
  unfold fw
  split
  · rename_i e
    rw [e] at h
    exact absurd rfl h
  · rfl
theorem gw_five {line a b c d e : List UInt8} (h : spl 32 line = [a, b, c, d, e]) : gw line = if a = wGate then (match numC b, numC c, numC d, numC e with
    | some p, some q, some r, some s => some [iZ p, iZ q, iZ r, iZ s]
    | _, _, _, _ => none) else none := by
  unfold gw
  rw [h]
theorem gw_none {line : List UInt8} (h : (spl 32 line).length ≠ 5) : gw line = none := by
  unfold gw
  split
  · rename_i e
    rw [e] at h
    exact absurd rfl h
  · rfl
theorem rdS0_two {G : Int} {L : List Value} {line a b : List UInt8} (h : spl 32 line = [a, b]) : rdS 0 G L line = if a = wFell then chk (numS b) L else none := by
  unfold rdS
  rw [if_pos rfl, h]
theorem rdS0_none {G : Int} {L : List Value} {line : List UInt8} (h : (spl 32 line).length ≠ 2) : rdS 0 G L line = none := by
  unfold rdS
  rw [if_pos rfl]
  split
  · rename_i e
    rw [e] at h
    exact absurd rfl h
  · rfl
theorem rdS_five {i : Nat} {G : Int} {L : List Value} {line a b c d e : List UInt8} (hi : i ≠ 0) (h : spl 32 line = [a, b, c, d, e]) : rdS i G L line = if a = wGate then chk G (L ++ [iZ (numS b), iZ (numS c), iZ (numS d), iZ (numS e)]) else none := by
  unfold rdS
  rw [if_neg hi, h]
theorem rdS_none {i : Nat} {G : Int} {L : List Value} {line : List UInt8} (hi : i ≠ 0) (h : (spl 32 line).length ≠ 5) : rdS i G L line = none := by
  unfold rdS
  rw [if_neg hi]
  split
  · rename_i e
    rw [e] at h
    exact absurd rfl h
  · rfl
theorem chk_fell {v : Int} (h : chk v [] ≠ none) : 1 ≤ v ∧ v ≤ 16 := by
  cases hv : validM v [] 0 with
  | false => exact absurd (chk_none hv) h
  | true => exact ⟨((validM_iff _ _ _).1 hv).1, ((validM_iff _ _ _).1 hv).2.1⟩
theorem chk_gate {G p q r s : Int} {L : List Value} (hn : L.length = L.length / 4 * 4) (h : chk G (L ++ [iZ p, iZ q, iZ r, iZ s]) ≠ none) : 0 ≤ p ∧ p < 10000000 ∧ 0 ≤ q ∧ q < 10000000 ∧ 0 ≤ r ∧ r < 10000000 ∧ 0 ≤ s ∧ s < 10000000 := by
  cases hv : validM G (L ++ [iZ p, iZ q, iZ r, iZ s]) ((L ++ [iZ p, iZ q, iZ r, iZ s]).length / 4) with
  | false => exact absurd (chk_none hv) h
  | true =>
    have := app_valid hn hv
    omega
theorem chk_zero (L : List Value) : chk 0 L = none := chk_none (by
  cases hv : validM 0 L (L.length / 4) with
  | false => rfl
  | true =>
    have := (validM_iff _ _ _).1 hv
    omega)
theorem rdP_zero {line : List UInt8} (h : fw line = none) : rdP 0 [] line = none := by
  unfold rdP
  rw [h]
  simp only
  split
  · exact chk_zero _
  · rfl
theorem rd_same {i : Nat} {G : Int} {L : List Value} (line : List UInt8) (h : (i = 0 ∧ G = 0 ∧ L = []) ∨ (i ≠ 0 ∧ Rgt G L)) : rdS i G L line = rdP G L line := by
  rcases h with ⟨rfl, rfl, rfl⟩ | ⟨hi, hl, hn, hv⟩
  · by_cases h2 : (spl 32 line).length = 2
    · obtain ⟨a, b, e⟩ := len2 h2
      rw [rdS0_two e]
      by_cases ha : a = wFell
      · rw [if_pos ha]
        cases hc : numC b with
        | some v =>
          have hf : fw line = some v := by rw [fw_two e, if_pos ha, hc]
          have hP : rdP 0 [] line = chk v [] := by
            unfold rdP
            rw [hf]
            rfl
          rw [hP]
          by_cases h1 : chk v [] = none
          · by_cases h3 : chk (numS b) [] = none
            · rw [h1, h3]
            · have := chk_fell h3
              have := (num_iff (w := b) (n := numS b) (by omega) (by omega)).1 rfl
              rw [hc] at this
              rw [Option.some.inj this]
          · have := chk_fell h1
            rw [(num_iff (by omega) (by omega)).2 hc]
        | none =>
          rw [rdP_zero (by rw [fw_two e, if_pos ha, hc])]
          by_cases h3 : chk (numS b) [] = none
          · exact h3
          · have := chk_fell h3
            have := (num_iff (w := b) (n := numS b) (by omega) (by omega)).1 rfl
            rw [hc] at this
            cases this
      · rw [if_neg ha, rdP_zero (by rw [fw_two e, if_neg ha])]
    · rw [rdS0_none h2, rdP_zero (fw_none h2)]
  · have hG : G ≠ 0 := by
      have := (validM_iff _ _ _).1 hv
      omega
    by_cases h5 : (spl 32 line).length = 5
    · obtain ⟨a, b, c, d, e, he⟩ := len5 h5
      have hP : rdP G L line = match gw line with | some q => chk G (L ++ q) | none => none := by
        unfold rdP
        rw [fw_none (by omega)]
      rw [hP, rdS_five hi he, gw_five he]
      by_cases ha : a = wGate
      · rw [if_pos ha, if_pos ha]
        by_cases hS : chk G (L ++ [iZ (numS b), iZ (numS c), iZ (numS d), iZ (numS e)]) = none
        · rw [hS]
          cases h1 : numC b with
          | none => rfl
          | some p =>
          cases h2 : numC c with
          | none => rfl
          | some q =>
          cases h3 : numC d with
          | none => rfl
          | some r =>
          cases h4 : numC e with
          | none => rfl
          | some s =>
            simp only
            by_cases hP : chk G (L ++ [iZ p, iZ q, iZ r, iZ s]) = none
            · exact hP.symm
            · obtain ⟨k1, k2, k3, k4, k5, k6, k7, k8⟩ := chk_gate hn hP
              rw [(num_iff k1 k2).2 h1, (num_iff k3 k4).2 h2, (num_iff k5 k6).2 h3, (num_iff k7 k8).2 h4] at hS
              exact absurd hS hP
        · obtain ⟨k1, k2, k3, k4, k5, k6, k7, k8⟩ := chk_gate hn hS
          rw [(num_iff k1 k2).1 rfl, (num_iff k3 k4).1 rfl, (num_iff k5 k6).1 rfl, (num_iff k7 k8).1 rfl]
      · rw [if_neg ha, if_neg ha]
    · rw [rdS_none hi h5]
      unfold rdP
      rw [gw_none h5]
      cases hf : fw line with
      | some v => simp only [if_neg hG]
      | none => rfl
theorem rd_rgt {G G' : Int} {L L' : List Value} {line : List UInt8} (h : (G = 0 ∧ L = []) ∨ Rgt G L) (hr : rdP G L line = some (G', L')) : Rgt G' L' := by
  have hL : ints L ∧ L.length = L.length / 4 * 4 := by
    rcases h with ⟨_, rfl⟩ | h
    · exact ⟨fun v hv => (by cases hv), rfl⟩
    · exact ⟨h.1, h.2.1⟩
  unfold rdP at hr
  split at hr
  · split at hr
    · obtain ⟨rfl, rfl, hv⟩ := chk_some hr
      exact ⟨hL.1, hL.2, hv⟩
    · cases hr
  · split at hr
    · rename_i q hq
      obtain ⟨rfl, rfl, hv⟩ := chk_some hr
      unfold gw at hq
      split at hq
      · split at hq
        · split at hq
          · cases hq
            refine ⟨fun v hv => ?_, ?_, hv⟩
            · rcases List.mem_append.1 hv with hv | hv
              · exact hL.1 v hv
              · simp only [List.mem_cons, List.not_mem_nil, or_false] at hv
                rcases hv with rfl | rfl | rfl | rfl <;> exact ⟨_, rfl⟩
            · have := hL.2
              rw [app4_len, List.length_append]
              simp only [List.length_cons, List.length_nil]
              omega
          · cases hq
        · cases hq
      · cases hq
    · cases hr
/-- What a text says, by its lines. -/
def prs (n : Nat) (G : Int) (L : List Value) : List (List UInt8) → Except Nat (Int × List Value)
  | [] => .error n
  | [_] => .error n
  | a :: b :: r => match rdP G L a with
    | none => .error n
    | some (G', L') => if b = [] ∧ r = [] then .ok (G', L') else prs (n + 1) G' L' (b :: r)
/-- The specification's order: each line, and then the last one. -/
def prsS (i : Nat) (G : Int) (L : List Value) : List (List UInt8) → Except Nat (Int × List Value)
  | [] => .error i
  | [x] => if i = 0 ∨ x ≠ [] then .error (i + 1) else .ok (G, L)
  | a :: b :: r => match rdS i G L a with
    | none => .error (i + 1)
    | some (G', L') => prsS (i + 1) G' L' (b :: r)
theorem prs_same : ∀ (ls : List (List UInt8)) (i : Nat) (G : Int) (L : List Value), ls ≠ [] → (i ≠ 0 → ls ≠ [[]]) → ((i = 0 ∧ G = 0 ∧ L = []) ∨ (i ≠ 0 ∧ Rgt G L)) → prsS i G L ls = prs (i + 1) G L ls
  | [], _, _, _, h, _, _ => absurd rfl h
  | [x], i, G, L, _, h2, _ => by
    show (if i = 0 ∨ x ≠ [] then _ else _) = _
    rw [if_pos]
    · rfl
    · by_cases hi : i = 0
      · exact .inl hi
      · exact .inr fun e => h2 hi (by rw [e])
  | a :: b :: r, i, G, L, _, _, h3 => by
    show (match rdS i G L a with | none => _ | some (G', L') => _) = (match rdP G L a with | none => _ | some (G', L') => _)
    rw [rd_same a h3]
    cases hr : rdP G L a with
    | none => rfl
    | some x =>
      obtain ⟨G', L'⟩ := x
      simp only
      have hR := rd_rgt (by rcases h3 with ⟨_, h, h'⟩ | ⟨_, h⟩; · exact .inl ⟨h, h'⟩
                            · exact .inr h) hr
      by_cases hb : b = [] ∧ r = []
      · rw [if_pos hb, hb.1, hb.2]
        show (if i + 1 = 0 ∨ ([] : List UInt8) ≠ [] then _ else _) = _
        rw [if_neg (by simp)]
      · rw [if_neg hb]
        exact prs_same (b :: r) (i + 1) G' L' (by simp) (fun _ e => hb (by injection e with e1 e2; exact ⟨e1, e2⟩)) (.inr ⟨by omega, hR⟩)
end Go.Proofs.Z

namespace Go.Proofs.Z
open Go Go.RowKit Go.Proofs Go.Ri
/-! Texts of fells, and back. -/
def joinW (c : UInt8) : List (List UInt8) → List UInt8
  | [] => []
  | [w] => w
  | w :: v :: ws => w ++ c :: joinW c (v :: ws)
theorem joinW_cons (c : UInt8) (w : List UInt8) {ws : List (List UInt8)} (h : ws ≠ []) : joinW c (w :: ws) = w ++ c :: joinW c ws := by
  match ws, h with
  | _ :: _, _ => rfl
theorem join_spl (c : UInt8) : ∀ (n : Nat) (l : List UInt8), l.length ≤ n → joinW c (spl c l) = l
  | 0, l, h => by
    obtain rfl : l = [] := List.eq_nil_of_length_eq_zero (by omega)
    rfl
  | n + 1, l, h => by
    rcases spl_case c l with hc | ⟨a, b, hc, rfl⟩
    · rw [spl_miss hc]
      rfl
    · rw [spl_hit hc, joinW_cons c a (spl_ne c b), join_spl c n b (by simp at h; omega)]
def fellT (G : Int) : List UInt8 := joinW 32 [wFell, Lib.itoa G]
def gateT (p q r s : Int) : List UInt8 := joinW 32 [wGate, Lib.itoa p, Lib.itoa q, Lib.itoa r, Lib.itoa s]
theorem fw_back {line : List UInt8} {v : Int} (h : fw line = some v) : line = fellT v := by
  by_cases h2 : (spl 32 line).length = 2
  · obtain ⟨a, b, e⟩ := len2 h2
    rw [fw_two e] at h
    split at h
    · rename_i ha
      have := numC_dec h
      unfold fellT
      rw [this, ← ha, ← e]
      exact (join_spl 32 _ line (Nat.le_refl _)).symm
    · cases h
  · rw [fw_none h2] at h
    cases h
theorem gw_back {line : List UInt8} {l : List Value} (h : gw line = some l) : ∃ p q r s, line = gateT p q r s ∧ l = [iZ p, iZ q, iZ r, iZ s] := by
  by_cases h5 : (spl 32 line).length = 5
  · obtain ⟨a, b, c, d, e, he⟩ := len5 h5
    rw [gw_five he] at h
    split at h
    · rename_i ha
      split at h
      · rename_i p q r s h1 h2 h3 h4
        cases h
        refine ⟨p, q, r, s, ?_, rfl⟩
        unfold gateT
        rw [numC_dec h1, numC_dec h2, numC_dec h3, numC_dec h4, ← ha, ← he]
        exact (join_spl 32 _ line (Nat.le_refl _)).symm
      · cases h
    · cases h
  · rw [gw_none h5] at h
    cases h
/-- The lines of the gates. -/
def glines : List Value → List (List UInt8)
  | a :: b :: c :: d :: r => gateT (intOf a) (intOf b) (intOf c) (intOf d) :: glines r
  | _ => []
theorem rd_back0 {G' : Int} {L' : List Value} {line : List UInt8} (h : rdP 0 [] line = some (G', L')) : line = fellT G' ∧ L' = [] := by
  cases hf : fw line with
  | none =>
    rw [rdP_zero hf] at h
    cases h
  | some v =>
    unfold rdP at h
    rw [hf] at h
    obtain ⟨rfl, rfl, _⟩ := chk_some (show chk v [] = some (G', L') from h)
    exact ⟨fw_back hf, rfl⟩
theorem rd_back {G G' : Int} {L L' : List Value} {line : List UInt8} (hG : G ≠ 0) (h : rdP G L line = some (G', L')) : G' = G ∧ ∃ p q r s, line = gateT p q r s ∧ L' = L ++ [iZ p, iZ q, iZ r, iZ s] := by
  unfold rdP at h
  split at h
  · rw [if_neg hG] at h
    cases h
  · split at h
    · rename_i q hq
      obtain ⟨rfl, rfl, _⟩ := chk_some h
      obtain ⟨p, q, r, s, h1, rfl⟩ := gw_back hq
      exact ⟨rfl, p, q, r, s, h1, rfl⟩
    · cases h
theorem prs_back : ∀ (ls : List (List UInt8)) (n : Nat) (G : Int) (L : List Value) (G' : Int) (L' : List Value), Rgt G L → prs n G L ls = .ok (G', L') → G' = G ∧ Rgt G' L' ∧ ∃ M, L' = L ++ M ∧ ls = glines M ++ [[]]
  | [], _, _, _, _, _, _, h => by cases h
  | [_], _, _, _, _, _, _, h => by cases h
  | a :: b :: r, n, G, L, G', L', hR, h => by
    have h : (match rdP G L a with | none => _ | some (G', L') => _) = _ := h
    have hG : G ≠ 0 := by
      have := (validM_iff _ _ _).1 hR.2.2
      omega
    cases hr : rdP G L a with
    | none => rw [hr] at h; cases h
    | some x =>
      obtain ⟨G1, L1⟩ := x
      rw [hr] at h
      simp only at h
      have hR1 := rd_rgt (.inr hR) hr
      obtain ⟨rfl, p, q, r', s, rfl, rfl⟩ := rd_back hG hr
      by_cases hb : b = [] ∧ r = []
      · rw [if_pos hb] at h
        cases h
        exact ⟨rfl, hR1, _, rfl, by rw [hb.1, hb.2]; rfl⟩
      · rw [if_neg hb] at h
        obtain ⟨e1, e2, M, e3, e4⟩ := prs_back (b :: r) (n + 1) _ _ G' L' hR1 h
        refine ⟨e1, e2, [iZ p, iZ q, iZ r', iZ s] ++ M, by rw [e3, List.append_assoc], ?_⟩
        rw [e4]
        rfl
/-- The text of a fell, line by line. -/
def tlines (G : Int) (L : List Value) : List (List UInt8) := fellT G :: (glines L ++ [[]])
def textF (G : Int) (L : List Value) : List UInt8 := joinW 10 (tlines G L)
theorem parse_back {s : List UInt8} {G : Int} {L : List Value} (h : prs 1 0 [] (spl 10 s) = .ok (G, L)) : s = textF G L ∧ Rgt G L := by
  have hj := join_spl 10 _ s (Nat.le_refl _)
  match hs : spl 10 s, h with
  | a :: b :: r, h =>
    have h : (match rdP 0 [] a with | none => _ | some (G', L') => _) = _ := h
    cases hr : rdP 0 [] a with
    | none => rw [hr] at h; cases h
    | some x =>
      obtain ⟨G1, L1⟩ := x
      rw [hr] at h
      simp only at h
      have hR1 := rd_rgt (.inl ⟨rfl, rfl⟩) hr
      obtain ⟨rfl, rfl⟩ := rd_back0 hr
      rw [hs] at hj
      by_cases hb : b = [] ∧ r = []
      · rw [if_pos hb] at h
        cases h
        rw [hb.1, hb.2] at hj
        exact ⟨hj.symm, hR1⟩
      · rw [if_neg hb] at h
        obtain ⟨rfl, e2, M, e3, e4⟩ := prs_back (b :: r) 2 _ _ G L hR1 h
        rw [List.nil_append] at e3
        subst e3
        rw [e4] at hj
        exact ⟨hj.symm, e2⟩
end Go.Proofs.Z
