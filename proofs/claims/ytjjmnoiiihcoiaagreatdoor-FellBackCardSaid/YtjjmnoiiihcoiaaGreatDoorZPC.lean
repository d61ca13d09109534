/- A part of the proofs that the laws of layer four answer true for every input. -/
import Derived.Test.YtjjmnoiiihcoiaaGreatDoorZGB
import Derived.Lib.ItoaMem
import Derived.Lib.CountLaws
import Derived.Lib.Split
import Derived.Lib.AtoiAll
namespace Go.Proofs.Z
open Go Go.RowKit Go.Proofs Go.Ri
/-! Texts: lines and words; numbers. -/
/-- A text cut at each place of a byte. -/
def spl (c : UInt8) : List UInt8 → List (List UInt8)
  | [] => [[]]
  | x :: l => if x = c then [] :: spl c l else (x :: (spl c l).headD []) :: (spl c l).tail
theorem spl_miss {c : UInt8} : ∀ {l : List UInt8}, c ∉ l → spl c l = [l]
  | [], _ => rfl
  | x :: l, h => by
    simp only [List.mem_cons, not_or] at h
    unfold spl
    rw [if_neg (fun e => h.1 e.symm), spl_miss h.2]
    rfl
theorem spl_hit {c : UInt8} : ∀ {a b : List UInt8}, c ∉ a → spl c (a ++ c :: b) = a :: spl c b
  | [], b, _ => by
    show (if c = c then [] :: spl c b else _) = _
    rw [if_pos rfl]
  | x :: a, b, h => by
    simp only [List.mem_cons, not_or] at h
    show spl c (x :: (a ++ c :: b)) = _
    rw [spl, if_neg (fun e => h.1 e.symm), spl_hit h.2]
    rfl
theorem spl_case (c : UInt8) : ∀ l : List UInt8, c ∉ l ∨ ∃ a b, c ∉ a ∧ l = a ++ c :: b
  | [] => .inl (by simp)
  | x :: l => by
    by_cases hx : x = c
    · exact .inr ⟨[], l, by simp, by rw [hx]; rfl⟩
    · rcases spl_case c l with h | ⟨a, b, h, e⟩
      · exact .inl (by simp only [List.mem_cons, not_or]; exact ⟨fun e => hx e.symm, h⟩)
      · exact .inr ⟨x :: a, b, by simp only [List.mem_cons, not_or]; exact ⟨fun e => hx e.symm, h⟩, by rw [e]; rfl⟩
theorem spl_ne (c : UInt8) (l : List UInt8) : spl c l ≠ [] := by
  rcases spl_case c l with h | ⟨a, b, h, rfl⟩
  · rw [spl_miss h]
    simp
  · rw [spl_hit h]
    simp
theorem pre_one (c x : UInt8) (l : List UInt8) : [c].isPrefixOf (x :: l) = (c == x) := by
  show (c == x && true) = _
  rw [Bool.and_true]
theorem idx_miss {c : UInt8} : ∀ {l : List UInt8}, c ∉ l → Lib.index l [c] = -1
  | [], _ => rfl
  | x :: l, h => by
    simp only [List.mem_cons, not_or] at h
    unfold Lib.index
    rw [pre_one, show (c == x) = false by simp [h.1], idx_miss h.2]
    rfl
theorem idx_hit {c : UInt8} : ∀ {a b : List UInt8}, c ∉ a → Lib.index (a ++ c :: b) [c] = (a.length : Nat)
  | [], b, _ => by
    show Lib.index (c :: b) [c] = _
    unfold Lib.index
    rw [pre_one]
    simp
  | x :: a, b, h => by
    simp only [List.mem_cons, not_or] at h
    show Lib.index (x :: (a ++ c :: b)) [c] = _
    unfold Lib.index
    rw [pre_one, show (c == x) = false by simp [h.1], idx_hit h.2]
    have : ((a.length : Nat) : Int) ≠ -1 := by omega
    simp [this]
theorem cut_miss {c : UInt8} {l : List UInt8} (h : c ∉ l) : Lib.cut l [c] = (l, [], false) := by
  unfold Lib.cut
  rw [idx_miss h]
  rfl
theorem cut_hit {c : UInt8} {a b : List UInt8} (h : c ∉ a) : Lib.cut (a ++ c :: b) [c] = (a, b, true) := by
  unfold Lib.cut
  rw [idx_hit h, if_pos (by omega)]
  simp
theorem split_spl (c : UInt8) : ∀ (n : Nat) (l : List UInt8), l.length ≤ n → Lib.splitK [c] 0 (Lib.count l [c]) l = spl c l ∧ Lib.count l [c] + 1 = (spl c l).length
  | 0, l, h => by
    obtain rfl : l = [] := List.eq_nil_of_length_eq_zero (by omega)
    exact ⟨rfl, rfl⟩
  | n + 1, l, h => by
    rcases spl_case c l with hc | ⟨a, b, hc, rfl⟩
    · rw [spl_miss hc, Lib.count_miss (idx_miss hc)]
      exact ⟨rfl, rfl⟩
    · obtain ⟨h1, h2⟩ := split_spl c n b (by simp at h; omega)
      have hi := idx_hit (b := b) hc
      rw [spl_hit hc, Lib.count_hit (by simp) hi]
      have e : (a ++ c :: b).drop (a.length + [c].length) = b := by simp
      rw [e]
      constructor
      · rw [Nat.add_comm]
        show (if Lib.index (a ++ c :: b) [c] == -1 then _ else _) = _
        rw [hi]
        have hne : (((a.length : Nat) : Int) == -1) = false := by
          have : ((a.length : Nat) : Int) ≠ -1 := by omega
          simp [this]
        rw [hne]
        simp only [Bool.false_eq_true, if_false, Int.toNat_natCast]
        rw [e, h1]
        simp
      · rw [List.length_cons, ← h2]
        omega
/-! Numbers. -/
/-- Is a byte a digit? -/
def isDig (c : UInt8) : Bool := decide (48 ≤ c.toNat) && decide (c.toNat ≤ 57)
def dv : Nat → List UInt8 → Nat
  | n, [] => n
  | n, c :: r => dv (n * 10 + (c.toNat - 48)) r
theorem dv_snoc (c : UInt8) : ∀ (l : List UInt8) (n : Nat), dv n (l ++ [c]) = dv n l * 10 + (c.toNat - 48)
  | [], _ => rfl
  | _ :: l, _ => dv_snoc c l _
theorem dv_ge : ∀ (l : List UInt8) (n : Nat), n ≤ dv n l
  | [], n => Nat.le_refl _
  | c :: r, n => Nat.le_trans (by omega) (dv_ge r (n * 10 + (c.toNat - 48)))
/-- What a number is written like. -/
def canonW (w : List UInt8) : Prop := w ≠ [] ∧ w.all isDig = true ∧ (w.length = 1 ∨ w.head? ≠ some 48)
theorem dig_byte {c : UInt8} (h : isDig c = true) : UInt8.ofNat (48 + (c.toNat - 48)) = c := by
  unfold isDig at h
  simp only [Bool.and_eq_true, decide_eq_true_eq] at h
  rw [show 48 + (c.toNat - 48) = c.toNat by omega]
  exact UInt8.ofNat_toNat
theorem dig_lt {c : UInt8} (h : isDig c = true) : c.toNat - 48 < 10 := by
  unfold isDig at h
  simp only [Bool.and_eq_true, decide_eq_true_eq] at h
  omega
theorem dv_pos {x : UInt8} {l : List UInt8} (hd : isDig x = true) (hx : x ≠ 48) : 1 ≤ dv 0 (x :: l) := by
  refine Nat.le_trans ?_ (dv_ge l _)
  unfold isDig at hd
  simp only [Bool.and_eq_true, decide_eq_true_eq] at hd
  have : x.toNat ≠ 48 := fun e => hx (by rw [← UInt8.toNat_inj]; exact e)
  omega
theorem dec_dv (n : Nat) : ∀ w : List UInt8, w.length = n + 1 → canonW w → Lib.decDigits (dv 0 w) = w := by
  induction n with
  | zero =>
    intro w hl ⟨_, hd, _⟩
    match w, hl with
    | [c], _ =>
      simp only [List.all_cons, List.all_nil, Bool.and_true] at hd
      show Lib.decDigits (0 * 10 + (c.toNat - 48)) = _
      rw [Lib.decDigits_one (by have := dig_lt hd; omega)]
      rw [show 0 * 10 + (c.toNat - 48) = c.toNat - 48 by omega, dig_byte hd]
  | succ n ih =>
    intro w hl ⟨hne, hd, hc⟩
    obtain ⟨v, c, rfl⟩ : ∃ v c, w = v ++ [c] := ⟨w.dropLast, w.getLast hne, (List.dropLast_concat_getLast hne).symm⟩
    rw [List.length_append, List.length_singleton] at hl
    rw [List.all_append, Bool.and_eq_true] at hd
    simp only [List.all_cons, List.all_nil, Bool.and_true] at hd
    match v, hl with
    | x :: v, hl =>
      have hx : x ≠ 48 := by
        rcases hc with h | h
        · simp at h
        · exact fun e => h (by rw [e]; rfl)
      have hxd : isDig x = true := by
        have := hd.1
        simp only [List.all_cons, Bool.and_eq_true] at this
        exact this.1
      have hv : canonW (x :: v) := ⟨by simp, hd.1, .inr (fun e => hx (by simpa using e))⟩
      have := ih (x :: v) (by omega) hv
      have hp := dv_pos (l := v) hxd hx
      have hlt := dig_lt hd.2
      rw [dv_snoc, Lib.decDigits, dif_neg (by omega), show (dv 0 (x :: v) * 10 + (c.toNat - 48)) / 10 = dv 0 (x :: v) by omega, this,
        show (dv 0 (x :: v) * 10 + (c.toNat - 48)) % 10 = c.toNat - 48 by omega, dig_byte hd.2]
theorem dec_canon (n : Nat) : canonW (Lib.decDigits n) ∧ dv 0 (Lib.decDigits n) = n ∧ (1 ≤ n → (Lib.decDigits n).head? ≠ some 48) := by
  induction n using Nat.strongRecOn with
  | ind n ih =>
    have hb : ∀ k, k < 10 → (UInt8.ofNat (48 + k)).toNat = 48 + k := fun k hk => by
      rw [UInt8.toNat_ofNat']
      omega
    have hdg : ∀ k, k < 10 → isDig (UInt8.ofNat (48 + k)) = true := fun k hk => by
      unfold isDig
      rw [hb k hk]
      simp
      omega
    by_cases h : n < 10
    · rw [Lib.decDigits_one h]
      refine ⟨⟨by simp, by rw [List.all_cons, hdg n h]; rfl, .inl rfl⟩, ?_, fun h1 e => ?_⟩
      · show 0 * 10 + ((UInt8.ofNat (48 + n)).toNat - 48) = n
        rw [hb n h]
        omega
      · have e := congrArg UInt8.toNat (Option.some.inj e)
        rw [hb n h] at e
        have : (48 : UInt8).toNat = 48 := rfl
        omega
    · obtain ⟨⟨i1, i2, i3⟩, i4, i5⟩ := ih (n / 10) (by omega)
      rw [Lib.decDigits, dif_neg h]
      have hh : (Lib.decDigits (n / 10) ++ [UInt8.ofNat (48 + n % 10)]).head? = (Lib.decDigits (n / 10)).head? := by
        cases hq : Lib.decDigits (n / 10) with
        | nil => exact absurd hq i1
        | cons _ _ => rfl
      have i6 := i5 (by omega)
      refine ⟨⟨by simp, by rw [List.all_append, i2, List.all_cons, hdg (n % 10) (by omega)]; rfl, .inr (by rw [hh]; exact i6)⟩, ?_, fun _ => by rw [hh]; exact i6⟩
      rw [dv_snoc, i4, hb (n % 10) (by omega)]
      omega
/-- strconv.Atoi, and Itoa of what it answers is the text. -/
def numC (w : List UInt8) : Option Int := match Lib.atoiAll w with
  | .ok n => if Lib.itoa n = w then some n else none
  | _ => none
theorem pu_dig : ∀ (l : List UInt8) (n : Nat), l.all isDig = true → dv n l < 18446744073709551610 → Lib.parseUint10 n l = .ok (dv n l)
  | [], n, _, _ => rfl
  | c :: r, n, h, hlt => by
    simp only [List.all_cons, Bool.and_eq_true] at h
    have hd := h.1
    unfold isDig at hd
    simp only [Bool.and_eq_true, decide_eq_true_eq] at hd
    have hge : n * 10 + (c.toNat - 48) ≤ dv n (c :: r) := dv_ge r _
    unfold Lib.parseUint10
    rw [if_pos hd, if_neg (by omega), if_neg (by omega)]
    exact pu_dig r _ h.2 hlt
/-- A small number is written in one way. -/
theorem numC_canon {w : List UInt8} (h : canonW w) (hlt : dv 0 w < 1000000000000) : numC w = some ((dv 0 w : Nat) : Int) := by
  obtain ⟨h1, h2, h3⟩ := id h
  have hdec := dec_dv (w.length - 1) w (by have : w.length ≠ 0 := fun e => h1 (List.eq_nil_of_length_eq_zero e); omega) h
  have hat : Lib.atoiAll w = .ok (dv 0 w : Nat) := by
    match w, h1, h2, hlt with
    | c :: r, h1, h2, hlt =>
      have hd : isDig c = true := by
        simp only [List.all_cons, Bool.and_eq_true] at h2
        exact h2.1
      unfold isDig at hd
      simp only [Bool.and_eq_true, decide_eq_true_eq] at hd
      have e1 : ¬ c.toNat = 43 := by omega
      have e2 : ¬ c.toNat = 45 := by omega
      have hp : Lib.parseMag (c :: r) = .ok (dv 0 (c :: r)) := by
        unfold Lib.parseMag
        rw [if_neg (by simp), pu_dig _ _ h2 (by omega)]
      unfold Lib.atoiAll
      simp only [e1, e2, or_self, if_false, hp, not_false_eq_true, true_and, false_and]
      rw [if_neg (by omega)]
  unfold numC
  rw [hat]
  have : Lib.itoa ((dv 0 w : Nat) : Int) = w := by rw [Lib.itoa_nonneg, hdec]
  simp only [this, if_true]
theorem numC_dec {w : List UInt8} {n : Int} (h : numC w = some n) : Lib.itoa n = w := by
  unfold numC at h
  split at h
  · split at h
    · cases h
      assumption
    · cases h
  · cases h
end Go.Proofs.Z

namespace Go.Proofs.Z
open Go Go.RowKit Go.Proofs Go.Ri
/-! Fells in texts: what a line says; what a text says. -/
def wFell : List UInt8 := [102, 101, 108, 108]
def wGate : List UInt8 := [103, 97, 116, 101]
def iZ (n : Int) : Value := .int .i64 n
def chk (G : Int) (L : List Value) : Option (Int × List Value) := if validM G L (L.length / 4) then some (G, L) else none
def fw (line : List UInt8) : Option Int := match spl 32 line with
  | [a, b] => if a = wFell then numC b else none
  | _ => none
def gw (line : List UInt8) : Option (List Value) := match spl 32 line with
  | [a, b, c, d, e] => if a = wGate then (match numC b, numC c, numC d, numC e with
    | some p, some q, some r, some s => some [iZ p, iZ q, iZ r, iZ s]
    | _, _, _, _ => none) else none
  | _ => none
/-- The program's way with a line. -/
def rdP (G : Int) (L : List Value) (line : List UInt8) : Option (Int × List Value) := match fw line with
  | some v => if G = 0 then chk v L else none
  | none => match gw line with
    | some q => chk G (L ++ q)
    | none => none
/-- Is this what was read so far right? -/
def Rgt (G : Int) (L : List Value) : Prop := ints L ∧ L.length = L.length / 4 * 4 ∧ validM G L (L.length / 4) = true
theorem chk_some {G G' : Int} {L L' : List Value} (h : chk G L = some (G', L')) : G' = G ∧ L' = L ∧ validM G L (L.length / 4) = true := by
  unfold chk at h
  split at h
  · cases h
    exact ⟨rfl, rfl, by assumption⟩
  · cases h
theorem chk_none {G : Int} {L : List Value} (h : validM G L (L.length / 4) = false) : chk G L = none := by
  unfold chk
  rw [h]
  rfl
theorem gt_app {L : List Value} {p q r s : Int} (hl : L.length = L.length / 4 * 4) : gtA (L ++ [iZ p, iZ q, iZ r, iZ s]) (L.length / 4) = p ∧ gtB (L ++ [iZ p, iZ q, iZ r, iZ s]) (L.length / 4) = q ∧ gtF (L ++ [iZ p, iZ q, iZ r, iZ s]) (L.length / 4) = r ∧ gtT (L ++ [iZ p, iZ q, iZ r, iZ s]) (L.length / 4) = s := by
  unfold gtA gtB gtF gtT
  rw [← hl]
  have e : ∀ k, (L ++ [iZ p, iZ q, iZ r, iZ s]).getD (L.length + k) undef = [iZ p, iZ q, iZ r, iZ s].getD k undef := fun k => by
    rw [List.getD_eq_getElem?_getD, List.getElem?_append_right (by omega), Nat.add_sub_cancel_left, List.getD_eq_getElem?_getD]
  refine ⟨?_, ?_, ?_, ?_⟩
  · have := e 0
    rw [Nat.add_zero] at this
    rw [this]
    rfl
  · rw [e 1]
    rfl
  · rw [e 2]
    rfl
  · rw [e 3]
    rfl
theorem app4_len (L : List Value) (p q r s : Value) : (L ++ [p, q, r, s]).length / 4 = L.length / 4 + 1 := by
  rw [List.length_append]
  simp only [List.length_cons, List.length_nil]
  omega
theorem app_valid {G : Int} {L : List Value} {p q r s : Int} (hl : L.length = L.length / 4 * 4) (h : validM G (L ++ [iZ p, iZ q, iZ r, iZ s]) ((L ++ [iZ p, iZ q, iZ r, iZ s]).length / 4) = true) : G ≤ 16 ∧ 0 ≤ p ∧ p < q ∧ q < G ∧ 0 ≤ r ∧ r < 360 ∧ 0 ≤ s ∧ s < 360 := by
  rw [app4_len] at h
  obtain ⟨h1, h2, h3, h4⟩ := (validM_iff _ _ _).1 h
  have := okL_at h4 (Nat.lt_succ_self _)
  unfold gokL at this
  obtain ⟨e1, e2, e3, e4⟩ := gt_app (p := p) (q := q) (r := r) (s := s) hl
  rw [e1, e2, e3, e4] at this
  exact ⟨h2, (gOk_iff _ _ _ _ _).1 this⟩
theorem gw_len {line : List UInt8} {q : List Value} (h : gw line = some q) : (spl 32 line).length = 5 := by
  unfold gw at h
  split at h
  · rename_i e
    rw [e]
    rfl
  · cases h
theorem len2 {α : Type} {l : List α} (h : l.length = 2) : ∃ a b, l = [a, b] := by
  match l, h with
  | [a, b], _ => exact ⟨a, b, rfl⟩
theorem len5 {α : Type} {l : List α} (h : l.length = 5) : ∃ a b c d e, l = [a, b, c, d, e] := by
  match l, h with
  | [a, b, c, d, e], _ => exact ⟨a, b, c, d, e, rfl⟩
theorem fw_two {line a b : List UInt8} (h : spl 32 line = [a, b]) : fw line = if a = wFell then numC b else none := by
  unfold fw
  rw [h]
theorem fw_none {line : List UInt8} (h : (spl 32 line).length ≠ 2) : fw line = none := by
  unfold fw
  split
  · rename_i e
    rw [e] at h
    exact absurd rfl h
  · rfl
theorem gw_five {line a b c d e : List UInt8} (h : spl 32 line = [a, b, c, d, e]) : gw line = if a = wGate then (match numC b, numC c, numC d, numC e with
    | some p, some q, some r, some s => some [iZ p, iZ q, iZ r, iZ s]
    | _, _, _, _ => none) else none := by
  unfold gw
  rw [h]
theorem gw_none {line : List UInt8} (h : (spl 32 line).length ≠ 5) : gw line = none := by
  unfold gw
  split
  · rename_i e
    rw [e] at h
    exact absurd rfl h
  · rfl
theorem chk_zero (L : List Value) : chk 0 L = none := chk_none (by
  cases hv : validM 0 L (L.length / 4) with
  | false => rfl
  | true =>
    have := (validM_iff _ _ _).1 hv
    omega)
theorem rdP_zero {line : List UInt8} (h : fw line = none) : rdP 0 [] line = none := by
  unfold rdP
  rw [h]
  simp only
  split
  · exact chk_zero _
  · rfl
theorem rd_rgt {G G' : Int} {L L' : List Value} {line : List UInt8} (h : (G = 0 ∧ L = []) ∨ Rgt G L) (hr : rdP G L line = some (G', L')) : Rgt G' L' := by
  have hL : ints L ∧ L.length = L.length / 4 * 4 := by
    rcases h with ⟨_, rfl⟩ | h
    · exact ⟨fun v hv => (by cases hv), rfl⟩
    · exact ⟨h.1, h.2.1⟩
  unfold rdP at hr
  split at hr
  · split at hr
    · obtain ⟨rfl, rfl, hv⟩ := chk_some hr
      exact ⟨hL.1, hL.2, hv⟩
    · cases hr
  · split at hr
    · rename_i q hq
      obtain ⟨rfl, rfl, hv⟩ := chk_some hr
      unfold gw at hq
      split at hq
      · split at hq
        · split at hq
          · cases hq
            refine ⟨fun v hv => ?_, ?_, hv⟩
            · rcases List.mem_append.1 hv with hv | hv
              · exact hL.1 v hv
              · simp only [List.mem_cons, List.not_mem_nil, or_false] at hv
                rcases hv with rfl | rfl | rfl | rfl <;> exact ⟨_, rfl⟩
            · have := hL.2
              rw [app4_len, List.length_append]
              simp only [List.length_cons, List.length_nil]
              omega
          · cases hq
        · cases hq
      · cases hq
    · cases hr
/-- What a text says, by its lines. -/
def prs (n : Nat) (G : Int) (L : List Value) : List (List UInt8) → Except Nat (Int × List Value)
  | [] => .error n
  | [_] => .error n
  | a :: b :: r => match rdP G L a with
    | none => .error n
    | some (G', L') => if b = [] ∧ r = [] then .ok (G', L') else prs (n + 1) G' L' (b :: r)
end Go.Proofs.Z

namespace Go.Proofs.Z
open Go Go.RowKit Go.Proofs Go.Ri
/-! Texts of fells, and back. -/
def joinW (c : UInt8) : List (List UInt8) → List UInt8
  | [] => []
  | [w] => w
  | w :: v :: ws => w ++ c :: joinW c (v :: ws)
theorem joinW_cons (c : UInt8) (w : List UInt8) {ws : List (List UInt8)} (h : ws ≠ []) : joinW c (w :: ws) = w ++ c :: joinW c ws := by
  match ws, h with
  | _ :: _, _ => rfl
theorem join_spl (c : UInt8) : ∀ (n : Nat) (l : List UInt8), l.length ≤ n → joinW c (spl c l) = l
  | 0, l, h => by
    obtain rfl : l = [] := List.eq_nil_of_length_eq_zero (by omega)
    rfl
  | n + 1, l, h => by
    rcases spl_case c l with hc | ⟨a, b, hc, rfl⟩
    · rw [spl_miss hc]
      rfl
    · rw [spl_hit hc, joinW_cons c a (spl_ne c b), join_spl c n b (by simp at h; omega)]
theorem spl_join (c : UInt8) : ∀ ws : List (List UInt8), ws ≠ [] → (∀ w, w ∈ ws → c ∉ w) → spl c (joinW c ws) = ws
  | [], h, _ => absurd rfl h
  | [w], _, h => spl_miss (h w (by simp))
  | w :: v :: ws, _, h => by
    rw [joinW_cons c w (by simp), spl_hit (h w (by simp)), spl_join c (v :: ws) (by simp) (fun x hx => h x (List.mem_cons_of_mem _ hx))]
/-- What Itoa writes of a number that is not negative holds digits alone. -/
theorem itoa_dig {n : Int} (h : 0 ≤ n) : (Lib.itoa n).all isDig = true := by
  obtain ⟨k, rfl⟩ : ∃ k : Nat, n = k := ⟨n.toNat, by omega⟩
  rw [Lib.itoa_nonneg]
  exact (dec_canon k).1.2.1
theorem dig_free {c : UInt8} (hc : isDig c = false) {w : List UInt8} (h : w.all isDig = true) : c ∉ w := fun hm => by
  rw [List.all_eq_true] at h
  rw [h c hm] at hc
  cases hc
theorem numC_itoa {n : Int} (h : 0 ≤ n) (h1 : n < 1000000000000) : numC (Lib.itoa n) = some n := by
  obtain ⟨k, rfl⟩ : ∃ k : Nat, n = k := ⟨n.toNat, by omega⟩
  rw [Lib.itoa_nonneg]
  obtain ⟨g1, g2, _⟩ := dec_canon k
  have := numC_canon g1 (by rw [g2]; omega)
  rw [g2] at this
  exact this
def fellT (G : Int) : List UInt8 := joinW 32 [wFell, Lib.itoa G]
def gateT (p q r s : Int) : List UInt8 := joinW 32 [wGate, Lib.itoa p, Lib.itoa q, Lib.itoa r, Lib.itoa s]
theorem spl_fell {G : Int} (h : 0 ≤ G) : spl 32 (fellT G) = [wFell, Lib.itoa G] :=
  spl_join 32 _ (by simp) (fun w hw => by
    simp only [List.mem_cons, List.not_mem_nil, or_false] at hw
    rcases hw with rfl | rfl
    · decide
    · exact dig_free rfl (itoa_dig h))
theorem spl_gate {p q r s : Int} (h1 : 0 ≤ p) (h2 : 0 ≤ q) (h3 : 0 ≤ r) (h4 : 0 ≤ s) : spl 32 (gateT p q r s) = [wGate, Lib.itoa p, Lib.itoa q, Lib.itoa r, Lib.itoa s] :=
  spl_join 32 _ (by simp) (fun w hw => by
    simp only [List.mem_cons, List.not_mem_nil, or_false] at hw
    rcases hw with rfl | rfl | rfl | rfl | rfl
    · decide
    · exact dig_free rfl (itoa_dig h1)
    · exact dig_free rfl (itoa_dig h2)
    · exact dig_free rfl (itoa_dig h3)
    · exact dig_free rfl (itoa_dig h4))
theorem rd_fell {G : Int} (h : 0 ≤ G) (h1 : G < 1000000000000) : rdP 0 [] (fellT G) = chk G [] := by
  unfold rdP
  rw [fw_two (spl_fell h), if_pos rfl, numC_itoa h h1]
  rfl
theorem rd_gate {G p q r s : Int} {L : List Value} (h1 : 0 ≤ p) (h2 : 0 ≤ q) (h3 : 0 ≤ r) (h4 : 0 ≤ s) (g1 : p < 1000) (g2 : q < 1000) (g3 : r < 1000) (g4 : s < 1000) : rdP G L (gateT p q r s) = chk G (L ++ [iZ p, iZ q, iZ r, iZ s]) := by
  have e := spl_gate h1 h2 h3 h4
  unfold rdP
  rw [fw_none (by rw [e]; simp), gw_five e, if_pos rfl, numC_itoa h1 (by omega), numC_itoa h2 (by omega), numC_itoa h3 (by omega), numC_itoa h4 (by omega)]
theorem fw_back {line : List UInt8} {v : Int} (h : fw line = some v) : line = fellT v := by
  by_cases h2 : (spl 32 line).length = 2
  · obtain ⟨a, b, e⟩ := len2 h2
    rw [fw_two e] at h
    split at h
    · rename_i ha
      have := numC_dec h
      unfold fellT
      rw [this, ← ha, ← e]
      exact (join_spl 32 _ line (Nat.le_refl _)).symm
    · cases h
  · rw [fw_none h2] at h
    cases h
theorem gw_back {line : List UInt8} {l : List Value} (h : gw line = some l) : ∃ p q r s, line = gateT p q r s ∧ l = [iZ p, iZ q, iZ r, iZ s] := by
  by_cases h5 : (spl 32 line).length = 5
  · obtain ⟨a, b, c, d, e, he⟩ := len5 h5
    rw [gw_five he] at h
    split at h
    · rename_i ha
      split at h
      · rename_i p q r s h1 h2 h3 h4
        cases h
        refine ⟨p, q, r, s, ?_, rfl⟩
        unfold gateT
        rw [numC_dec h1, numC_dec h2, numC_dec h3, numC_dec h4, ← ha, ← he]
        exact (join_spl 32 _ line (Nat.le_refl _)).symm
      · cases h
    · cases h
  · rw [gw_none h5] at h
    cases h
/-- The lines of the gates. -/
def glines : List Value → List (List UInt8)
  | a :: b :: c :: d :: r => gateT (intOf a) (intOf b) (intOf c) (intOf d) :: glines r
  | _ => []
theorem rd_back0 {G' : Int} {L' : List Value} {line : List UInt8} (h : rdP 0 [] line = some (G', L')) : line = fellT G' ∧ L' = [] := by
  cases hf : fw line with
  | none =>
    rw [rdP_zero hf] at h
    cases h
  | some v =>
    unfold rdP at h
    rw [hf] at h
    obtain ⟨rfl, rfl, _⟩ := chk_some (show chk v [] = some (G', L') from h)
    exact ⟨fw_back hf, rfl⟩
theorem rd_back {G G' : Int} {L L' : List Value} {line : List UInt8} (hG : G ≠ 0) (h : rdP G L line = some (G', L')) : G' = G ∧ ∃ p q r s, line = gateT p q r s ∧ L' = L ++ [iZ p, iZ q, iZ r, iZ s] := by
  unfold rdP at h
  split at h
  · rw [if_neg hG] at h
    cases h
  · split at h
    · rename_i q hq
      obtain ⟨rfl, rfl, _⟩ := chk_some h
      obtain ⟨p, q, r, s, h1, rfl⟩ := gw_back hq
      exact ⟨rfl, p, q, r, s, h1, rfl⟩
    · cases h
theorem prs_back : ∀ (ls : List (List UInt8)) (n : Nat) (G : Int) (L : List Value) (G' : Int) (L' : List Value), Rgt G L → prs n G L ls = .ok (G', L') → G' = G ∧ Rgt G' L' ∧ ∃ M, L' = L ++ M ∧ ls = glines M ++ [[]]
  | [], _, _, _, _, _, _, h => by cases h
  | [_], _, _, _, _, _, _, h => by cases h
  | a :: b :: r, n, G, L, G', L', hR, h => by
    have h : (match rdP G L a with | none => _ | some (G', L') => _) = _ := h
    have hG : G ≠ 0 := by
      have := (validM_iff _ _ _).1 hR.2.2
      omega
    cases hr : rdP G L a with
    | none => rw [hr] at h; cases h
    | some x =>
      obtain ⟨G1, L1⟩ := x
      rw [hr] at h
      simp only at h
      have hR1 := rd_rgt (.inr hR) hr
      obtain ⟨rfl, p, q, r', s, rfl, rfl⟩ := rd_back hG hr
      by_cases hb : b = [] ∧ r = []
      · rw [if_pos hb] at h
        cases h
        exact ⟨rfl, hR1, _, rfl, by rw [hb.1, hb.2]; rfl⟩
      · rw [if_neg hb] at h
        obtain ⟨e1, e2, M, e3, e4⟩ := prs_back (b :: r) (n + 1) _ _ G' L' hR1 h
        refine ⟨e1, e2, [iZ p, iZ q, iZ r', iZ s] ++ M, by rw [e3, List.append_assoc], ?_⟩
        rw [e4]
        rfl
/-- The text of a fell, line by line. -/
def tlines (G : Int) (L : List Value) : List (List UInt8) := fellT G :: (glines L ++ [[]])
def textF (G : Int) (L : List Value) : List UInt8 := joinW 10 (tlines G L)
theorem parse_back {s : List UInt8} {G : Int} {L : List Value} (h : prs 1 0 [] (spl 10 s) = .ok (G, L)) : s = textF G L ∧ Rgt G L := by
  have hj := join_spl 10 _ s (Nat.le_refl _)
  match hs : spl 10 s, h with
  | a :: b :: r, h =>
    have h : (match rdP 0 [] a with | none => _ | some (G', L') => _) = _ := h
    cases hr : rdP 0 [] a with
    | none => rw [hr] at h; cases h
    | some x =>
      obtain ⟨G1, L1⟩ := x
      rw [hr] at h
      simp only at h
      have hR1 := rd_rgt (.inl ⟨rfl, rfl⟩) hr
      obtain ⟨rfl, rfl⟩ := rd_back0 hr
      rw [hs] at hj
      by_cases hb : b = [] ∧ r = []
      · rw [if_pos hb] at h
        cases h
        rw [hb.1, hb.2] at hj
        exact ⟨hj.symm, hR1⟩
      · rw [if_neg hb] at h
        obtain ⟨rfl, e2, M, e3, e4⟩ := prs_back (b :: r) 2 _ _ G L hR1 h
        rw [List.nil_append] at e3
        subst e3
        rw [e4] at hj
        exact ⟨hj.symm, e2⟩
theorem okL_app {G : Int} {L M : List Value} : ∀ k, k * 4 ≤ L.length → okL G (L ++ M) k = okL G L k
  | 0, _ => rfl
  | k + 1, h => by
    have e : ∀ j, j < L.length → (L ++ M).getD j undef = L.getD j undef := fun j hj => by
      rw [List.getD_eq_getElem?_getD, List.getElem?_append_left hj, List.getD_eq_getElem?_getD]
    show (okL G (L ++ M) k && gokL G (L ++ M) k) = (okL G L k && gokL G L k)
    rw [okL_app k (by omega)]
    unfold gokL gtA gtB gtF gtT
    rw [e _ (by omega), e _ (by omega), e _ (by omega), e _ (by omega)]
theorem rgt_pre {G : Int} {L : List Value} {p q r s : Int} {M : List Value} (hL : L.length = L.length / 4 * 4) (h : Rgt G (L ++ iZ p :: iZ q :: iZ r :: iZ s :: M)) : Rgt G (L ++ [iZ p, iZ q, iZ r, iZ s]) := by
  obtain ⟨h1, h2, h3⟩ := h
  obtain ⟨v1, v2, v3, v4⟩ := (validM_iff _ _ _).1 h3
  have e : L ++ iZ p :: iZ q :: iZ r :: iZ s :: M = (L ++ [iZ p, iZ q, iZ r, iZ s]) ++ M := by simp
  have hk : (L ++ [iZ p, iZ q, iZ r, iZ s]).length / 4 = L.length / 4 + 1 := app4_len _ _ _ _ _
  have hk2 : (L ++ [iZ p, iZ q, iZ r, iZ s]).length = L.length + 4 := by simp
  have hlen : (L ++ iZ p :: iZ q :: iZ r :: iZ s :: M).length = L.length + 4 + M.length := by
    rw [e, List.length_append, hk2]
  refine ⟨fun v hv => h1 v (by rw [e]; exact List.mem_append_left _ hv), by omega, ?_⟩
  refine (validM_iff _ _ _).2 ⟨v1, v2, by omega, ?_⟩
  rw [hk]
  have := okL_mono v4 (show L.length / 4 + 1 ≤ _ by omega)
  rw [e, okL_app _ (by omega)] at this
  exact this
theorem ints4 {M : List Value} (hM : ints M) (h4 : M.length = M.length / 4 * 4) (hne : M ≠ []) : ∃ p q r s M', M = iZ p :: iZ q :: iZ r :: iZ s :: M' ∧ ints M' ∧ M'.length = M'.length / 4 * 4 := by
  match M, hM, h4, hne with
  | [_], _, h4, _ => simp at h4
  | [_, _], _, h4, _ => simp at h4
  | [_, _, _], _, h4, _ => simp at h4
  | a :: b :: c :: d :: M', hM, h4, _ =>
    obtain ⟨p, rfl⟩ := hM a (by simp)
    obtain ⟨q, rfl⟩ := hM b (by simp)
    obtain ⟨r, rfl⟩ := hM c (by simp)
    obtain ⟨s, rfl⟩ := hM d (by simp)
    refine ⟨p, q, r, s, M', rfl, fun v hv => hM v (by simp [hv]), ?_⟩
    simp only [List.length_cons] at h4
    omega
theorem gate_small {G p q r s : Int} {L : List Value} (hL : L.length = L.length / 4 * 4) (h : Rgt G (L ++ [iZ p, iZ q, iZ r, iZ s])) : 0 ≤ p ∧ 0 ≤ q ∧ 0 ≤ r ∧ 0 ≤ s ∧ p < 1000 ∧ q < 1000 ∧ r < 1000 ∧ s < 1000 := by
  have := app_valid hL h.2.2
  omega
theorem prs_text : ∀ (m : Nat) (M : List Value) (n : Nat) (G : Int) (L : List Value), M.length ≤ m → M ≠ [] → ints M → M.length = M.length / 4 * 4 → Rgt G L → Rgt G (L ++ M) → prs n G L (glines M ++ [[]]) = .ok (G, L ++ M)
  | 0, M, _, _, _, h, hne, _, _, _, _ => absurd (List.eq_nil_of_length_eq_zero (by omega)) hne
  | m + 1, M, n, G, L, hm, hne, hM, h4, hR, hRM => by
    obtain ⟨p, q, r, s, M', rfl, hM', h4'⟩ := ints4 hM h4 hne
    have hR1 := rgt_pre hR.2.1 hRM
    obtain ⟨k1, k2, k3, k4, k5, k6, k7, k8⟩ := gate_small hR.2.1 hR1
    have hrd : rdP G L (gateT p q r s) = some (G, L ++ [iZ p, iZ q, iZ r, iZ s]) := by
      rw [rd_gate k1 k2 k3 k4 k5 k6 k7 k8]
      unfold chk
      rw [if_pos hR1.2.2]
    have e : L ++ iZ p :: iZ q :: iZ r :: iZ s :: M' = (L ++ [iZ p, iZ q, iZ r, iZ s]) ++ M' := by simp
    have hg : glines (iZ p :: iZ q :: iZ r :: iZ s :: M') ++ [[]] = gateT p q r s :: (glines M' ++ [[]]) := rfl
    rw [hg]
    by_cases hM0 : M' = []
    · subst hM0
      show (match rdP G L (gateT p q r s) with | none => _ | some (G', L') => _) = _
      rw [hrd]
      rfl
    · obtain ⟨p', q', r', s', M2, e2, _, _⟩ := ints4 hM' h4' hM0
      have e3 : glines M' ++ [[]] = gateT p' q' r' s' :: (glines M2 ++ [[]]) := by rw [e2]; rfl
      rw [e3]
      show (match rdP G L (gateT p q r s) with | none => _ | some (G', L') => _) = _
      rw [hrd]
      simp only
      rw [if_neg (by simp), ← e3, e]
      exact prs_text m M' (n + 1) G _ (by simp at hm; omega) hM0 hM' h4' hR1 (by rw [← e]; exact hRM)
theorem itoa_no10 {n : Int} (h : 0 ≤ n) : (10 : UInt8) ∉ Lib.itoa n := dig_free rfl (itoa_dig h)
theorem join_no {c d : UInt8} (hcd : c ≠ d) : ∀ ws : List (List UInt8), (∀ w, w ∈ ws → c ∉ w) → c ∉ joinW d ws
  | [], _ => by simp [joinW]
  | [w], h => h w (by simp)
  | w :: v :: ws, h => by
    rw [joinW_cons d w (by simp)]
    simp only [List.mem_append, List.mem_cons, not_or]
    exact ⟨h w (by simp), hcd, join_no hcd (v :: ws) (fun x hx => h x (List.mem_cons_of_mem _ hx))⟩
theorem fellT_no10 {G : Int} (h : 0 ≤ G) : (10 : UInt8) ∉ fellT G := join_no (by decide) _ (fun w hw => by
  simp only [List.mem_cons, List.not_mem_nil, or_false] at hw
  rcases hw with rfl | rfl
  · decide
  · exact itoa_no10 h)
theorem glines_no10 : ∀ (m : Nat) (M : List Value) (G : Int) (L : List Value), M.length ≤ m → ints M → M.length = M.length / 4 * 4 → ints L → L.length = L.length / 4 * 4 → Rgt G (L ++ M) → ∀ w, w ∈ glines M → (10 : UInt8) ∉ w
  | 0, M, _, _, h, _, _, _, _, _, w, hw => by
    rw [List.eq_nil_of_length_eq_zero (show M.length = 0 by omega)] at hw
    cases hw
  | m + 1, M, G, L, hm, hM, h4, hL, hL4, hR, w, hw => by
    by_cases hne : M = []
    · subst hne
      cases hw
    obtain ⟨p, q, r, s, M', rfl, hM', h4'⟩ := ints4 hM h4 hne
    have hR1 := rgt_pre hL4 hR
    obtain ⟨k1, k2, k3, k4, _⟩ := gate_small hL4 hR1
    have e : L ++ iZ p :: iZ q :: iZ r :: iZ s :: M' = (L ++ [iZ p, iZ q, iZ r, iZ s]) ++ M' := by simp
    have hw : w ∈ gateT p q r s :: glines M' := hw
    rcases List.mem_cons.1 hw with rfl | hw
    · refine join_no (by decide) _ (fun w hw => ?_)
      simp only [List.mem_cons, List.not_mem_nil, or_false] at hw
      rcases hw with rfl | rfl | rfl | rfl | rfl
      · decide
      · exact itoa_no10 k1
      · exact itoa_no10 k2
      · exact itoa_no10 k3
      · exact itoa_no10 k4
    · exact glines_no10 m M' G _ (by simp at hm; omega) hM' h4' hR1.1 hR1.2.1 (by rw [← e]; exact hR) w hw
/-- A fell's text says the fell. -/
theorem parse_text {G : Int} {L : List Value} (hR : Rgt G L) : prs 1 0 [] (spl 10 (textF G L)) = .ok (G, L) := by
  have hG := (validM_iff _ _ _).1 hR.2.2
  have hs : spl 10 (textF G L) = tlines G L := by
    refine spl_join 10 _ (by simp [tlines]) fun w hw => ?_
    unfold tlines at hw
    rcases List.mem_cons.1 hw with rfl | hw
    · exact fellT_no10 (by omega)
    · rcases List.mem_append.1 hw with hw | hw
      · exact glines_no10 L.length L G [] (Nat.le_refl _) hR.1 hR.2.1 (fun v hv => by cases hv) rfl (by rwa [List.nil_append]) w hw
      · rw [List.mem_singleton.1 hw]
        simp
  rw [hs]
  have h0 : Rgt G [] := ⟨(fun v hv => by cases hv), rfl, (validM_iff _ _ _).2 ⟨hG.1, hG.2.1, by show 0 ≤ 32; omega, rfl⟩⟩
  have hrd : rdP 0 [] (fellT G) = some (G, []) := by
    rw [rd_fell (by omega) (by omega)]
    unfold chk
    rw [if_pos h0.2.2]
  unfold tlines
  by_cases hne : L = []
  · subst hne
    show (match rdP 0 [] (fellT G) with | none => _ | some (G', L') => _) = _
    rw [hrd]
    rfl
  · obtain ⟨p, q, r, s, M, e, _, _⟩ := ints4 hR.1 hR.2.1 hne
    have e3 : glines L ++ [[]] = gateT p q r s :: (glines M ++ [[]]) := by rw [e]; rfl
    have := prs_text L.length L 2 G [] (Nat.le_refl _) hne hR.1 hR.2.1 h0 (by rwa [List.nil_append])
    rw [e3] at this ⊢
    show (match rdP 0 [] (fellT G) with | none => _ | some (G', L') => _) = _
    rw [hrd]
    simp only
    rw [if_neg (by simp)]
    exact this
end Go.Proofs.Z
