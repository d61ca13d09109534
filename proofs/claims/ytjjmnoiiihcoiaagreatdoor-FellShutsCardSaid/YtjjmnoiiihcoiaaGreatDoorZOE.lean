/- A part of the proofs that the laws of layer four answer true for every input. -/
import Derived.Test.YtjjmnoiiihcoiaaGreatDoorZOC
import Derived.Test.YtjjmnoiiihcoiaaGreatDoorZNR
namespace Go.Proofs.Z
open Go Go.RowKit Go.Proofs Go.Ri Go.Proofs.Z.Fa
/-! The specification's search: its contract. -/
abbrev tStep : TypeId := 140
/-- The cells of a list of pairs. -/
def stL (s : Nat → Int × Int) : Nat → List Value
  | 0 => []
  | k + 1 => stL s k ++ [.int .i64 (s k).1, .int .i64 (s k).2]
theorem stL_len (s : Nat → Int × Int) : ∀ k, (stL s k).length = k * 2
  | 0 => rfl
  | k + 1 => by
    show (stL s k ++ [_, _]).length = _
    rw [List.length_append, stL_len s k]
    simp only [List.length_cons, List.length_nil]
    omega
theorem stL_congr {s t : Nat → Int × Int} : ∀ k, (∀ j, j < k → s j = t j) → stL s k = stL t k
  | 0, _ => rfl
  | k + 1, h => by
    show stL s k ++ [_, _] = stL t k ++ [_, _]
    rw [stL_congr k fun j hj => h j (by omega), h k (by omega)]
theorem stL_row (s : Nat → Int × Int) : ∀ k j, j < k → ((stL s k).drop (j * 2)).take 2 = [.int .i64 (s j).1, .int .i64 (s j).2]
  | k + 1, j, hj => by
    show ((stL s k ++ [_, _]).drop (j * 2)).take 2 = _
    rcases Nat.lt_or_eq_of_le (Nat.le_of_lt_succ hj) with h | rfl
    · rw [List.drop_append_of_le_length (by rw [stL_len]; omega), List.take_append_of_le_length (by rw [List.length_drop, stL_len]; omega)]
      exact stL_row s k j h
    · rw [List.drop_append_of_le_length (by rw [stL_len]; omega), List.drop_of_length_le (by rw [stL_len]; omega)]
      rfl
theorem stL_set (s : Nat → Int × Int) (p q : Int) (y : Nat) : ∀ k, y < k → ((stL s k).set (y * 2) (.int .i64 p)).set (y * 2 + 1) (.int .i64 q) = stL (updS s y (p, q)) k
  | k + 1, hy => by
    show ((stL s k ++ [_, _]).set (y * 2) _).set (y * 2 + 1) _ = stL (updS s y (p, q)) k ++ [_, _]
    rcases Nat.lt_or_eq_of_le (Nat.le_of_lt_succ hy) with h | rfl
    · rw [List.set_append_left _ _ (by rw [stL_len]; omega), List.set_append_left _ _ (by rw [List.length_set, stL_len]; omega), stL_set s p q y k h]
      have : updS s y (p, q) k = s k := if_neg (by omega)
      rw [this]
    · rw [List.set_append_right _ _ (by rw [stL_len]; omega), stL_len, Nat.sub_self, List.set_append_right _ _ (by rw [stL_len]; omega), stL_len, show y * 2 + 1 - y * 2 = 1 by omega]
      have : updS s y (p, q) y = (p, q) := if_pos rfl
      rw [this, stL_congr (t := updS s y (p, q)) y fun j hj => (if_neg (by omega) : updS s y (p, q) j = s j).symm]
      rfl
theorem set_self {l : List Value} {i : Nat} {v : Value} (h : l[i]? = some v) : l.set i v = l := by
  apply List.ext_getElem?
  intro j
  rw [List.getElem?_set]
  by_cases e : i = j
  · subst e
    rw [if_pos rfl, h]
    split
    · rfl
    · rename_i h1
      rw [List.getElem?_eq_none (by omega)] at h
      cases h
  · rw [if_neg e]
theorem stL_set1 (s : Nat → Int × Int) (q : Int) (y : Nat) {k : Nat} (hy : y < k) : (stL s k).set (y * 2 + 1) (.int .i64 q) = stL (updS s y ((s y).1, q)) k := by
  rw [← stL_set s (s y).1 q y k hy]
  congr 1
  have hr := stL_row s k y hy
  have hl := stL_len s k
  have hg : (stL s k)[y * 2]? = some (.int .i64 (s y).1) := by
    have := congrArg (fun x => x[0]?) hr
    simp only [List.getElem?_take, List.getElem?_drop] at this
    exact this
  exact (set_self hg).symm
theorem stL_zero : ∀ k, stL (fun _ => (0, 0)) k = List.replicate (k * 2) (.int .i64 0)
  | 0 => rfl
  | k + 1 => by
    show stL _ k ++ [_, _] = _
    rw [stL_zero k, show (k + 1) * 2 = k * 2 + 2 by omega, ← List.replicate_append_replicate]
    rfl
/-- Names: the gate's number i, the grazing x, the states s (32 to 35: the lists z). -/
def seI (a x : Int) (g : Nat) (c15 : Int) (p q : Int × Int) (j : Nat) : Int := if j = 20 then a else if j = 22 then x else if j = 23 then x + 1 else if j = 15 then c15 else if j = 70 then p.1 else if j = 71 then p.2 else if j = 72 then q.1 else if j = 73 then q.2 else if j = 50 then (g : Int) * 2 else 0
def c38 (g : Nat) : List Value := stL (fun _ => (0, 0)) g
def seLs (g : Nat) (Eb Ul S : List Value) (z : Nat → List Value) (j : Nat) : List Value := if j = 90 then Eb else if j = 30 then Ul else if j = 31 then S else if j = 38 then c38 g else z j
def seNm (g : Nat) (l : List Value) (n : Nat) (Eb : List Value) (u : Nat → Int) (Ul : List Value) (a i x : Nat) (s : Nat → Int × Int) (z : Nat → List Value) : Nm := gnm (g : Int) l n i (seI a x g (u i) (s (gA' l i)) (s (gB' l i))) ny (seLs g Eb Ul (stL s g) z)
def seZ0 (g x : Nat) (s : Nat → Int × Int) (j : Nat) : List Value := if j = 32 then (stL s g).set (x * 2) (.int .i64 (-1)) else stL (updS s x (-1, -1)) g
def seZ1 (g a : Nat) (s : Nat → Int × Int) (_ : Nat) : List Value := (stL s g).set (a * 2 + 1) (.int .i64 a)
def seZ2 (g i A B : Nat) (s : Nat → Int × Int) (j : Nat) : List Value := if j = 32 then (stL s g).set (B * 2) (.int .i64 i) else if j = 33 then stL (updS s B ((i : Int), (A : Int))) g else if j = 34 then (stL s g).set (A * 2) (.int .i64 i) else stL (updS s A ((i : Int), (B : Int))) g
noncomputable def seQ (κ : Nat × Bool) : St := if κ.1 = 0 then seP0 else if κ.1 = 1 then seP1' κ.2 else seP2 κ.2
section
variable {g : Nat} {l : List Value} {n : Nat} {e : Nat → Bool} {u : Nat → Int} {a : Nat}
theorem seLL_ok (hn : l.length = n * 4) (i x : Nat) (s : Nat → Int × Int) (z : Nat → List Value) (W : Nat → Value) : ∀ q, q ∈ seLL → @LLTrue ((seNm g l n (bls e n) u (ivl u n) a i x s z).val W) q :=
  fa ⟨rfl, n, Nat.succ_pos 3, hn, rfl⟩ (fa ⟨rfl, n, Nat.succ_pos 0, by rw [Nat.mul_one]; exact bls_len e n, rfl⟩ (fa ⟨rfl, n, Nat.succ_pos 0, by rw [Nat.mul_one]; exact ivl_len u n, rfl⟩ (fa ⟨rfl, g, Nat.succ_pos 1, stL_len s g, rfl⟩ (fa ⟨rfl, g, Nat.succ_pos 1, stL_len _ g, rfl⟩ fz))))
theorem se_idsx {V V' : Val} (k : Nat) (x : RV) (mx : Int) (hx : @cv V x = .int .i64 mx) (hk : V'.I k = mx) (G n a : Int) (l Eb Ul : List Value) (g0 : V.I 0 = G) (g1 : V.I 1 = n) (g2 : V.I 20 = a) (k0 : V.L 0 = l) (k1 : V.L 90 = Eb) (k2 : V.L 30 = Ul) (h0 : V'.I 0 = G) (h1 : V'.I 1 = n) (h2 : V'.I 20 = a) (j0 : V'.L 0 = l) (j1 : V'.L 90 = Eb) (j2 : V'.L 30 = Ul) : ∀ q, q ∈ [SE.int 0 (sI 0), .int 1 (sI 1), .int 20 (sI 20), .int k x, .lst 0 0, .lst 90 90, .lst 30 30] → okSE V V' q :=
  fa ⟨.i64, G, congrArg _ g0, h0⟩ (fa ⟨.i64, n, congrArg _ g1, h1⟩ (fa ⟨.i64, a, congrArg _ g2, h2⟩ (fa ⟨.i64, mx, hx, hk⟩ (fa (okLs l j0 k0) (fa (okLs Eb j1 k1) (fa (okLs Ul j2 k2) fz))))))
theorem se_ids {i x i' x' : Nat} {s s' : Nat → Int × Int} {z z' : Nat → List Value} {W W' : Nat → Value} (k : Nat) (r : RV) (mx : Int) (hx : @cv ((seNm g l n (bls e n) u (ivl u n) a i x s z).val W) r = .int .i64 mx) (hk : ((seNm g l n (bls e n) u (ivl u n) a i' x' s' z').val W').I k = mx) : ∀ q, q ∈ [SE.int 0 (sI 0), .int 1 (sI 1), .int 20 (sI 20), .int k r, .lst 0 0, .lst 90 90, .lst 30 30] → okSE ((seNm g l n (bls e n) u (ivl u n) a i x s z).val W) ((seNm g l n (bls e n) u (ivl u n) a i' x' s' z').val W') q :=
  se_idsx k r mx hx hk g n a l (bls e n) (ivl u n) rfl rfl rfl rfl rfl rfl rfl rfl rfl rfl rfl rfl
theorem l38_ok {i x i' x' : Nat} {s s' : Nat → Int × Int} {z z' : Nat → List Value} {W W' : Nat → Value} : okSE ((seNm g l n (bls e n) u (ivl u n) a i x s z).val W) ((seNm g l n (bls e n) u (ivl u n) a i' x' s' z').val W') (.lst 38 38) := okLs (c38 g) rfl rfl
/-- What holds at the heads. -/
def SeP (g : Nat) (l : List Value) (n : Nat) (e : Nat → Bool) (u : Nat → Int) (a : Nat) (m : Nat) (κ : Nat × Bool) (c : Nm) : Prop :=
  (∃ x, x ≤ g ∧ m = (g - x) + 17 * (n + 4) + 1 ∧ κ = (0, false) ∧ c = seNm g l n (bls e n) u (ivl u n) a 0 x (fun y => if y < x then (-1, -1) else (0, 0)) (if x < g then seZ0 g x (fun y => if y < x then (-1, -1) else (0, 0)) else seZ1 g a (fun y => if y < x then (-1, -1) else (0, 0)))) ∨
  (∃ k, k ≤ 16 ∧ m = (17 - k) * (n + 4) ∧ (∀ j, j < k → chg (gA' l) (gB' l) e u (rws (gA' l) (gB' l) n e u a j) n = true) ∧ κ = (1, true) ∧ c = seNm g l n (bls e n) u (ivl u n) a 0 0 (rws (gA' l) (gB' l) n e u a k) (fun _ => [])) ∨
  (∃ k i, k ≤ 16 ∧ i ≤ n ∧ m = (16 - k) * (n + 4) + (n - i) + 3 ∧ (∀ j, j < k → chg (gA' l) (gB' l) e u (rws (gA' l) (gB' l) n e u a j) n = true) ∧ κ = (2, chg (gA' l) (gB' l) e u (rws (gA' l) (gB' l) n e u a k) i) ∧ c = seNm g l n (bls e n) u (ivl u n) a i 0 (row (gA' l) (gB' l) e u (rws (gA' l) (gB' l) n e u a k) i) (seZ2 g i (gA' l i) (gB' l i) (row (gA' l) (gB' l) e u (rws (gA' l) (gB' l) n e u a k) i))) ∨
  (m = 0 ∧ κ = (1, false) ∧ c = seNm g l n (bls e n) u (ivl u n) a 0 0 (srS (gA' l) (gB' l) n e u a) (fun _ => []))
theorem se_step0 (hn : l.length = n * 4) (hva : validM g l n = true) {D : Ending → World → Prop} {base : Nat} {w0 : World} {x : Nat} (hx : x < g) (W : Nat → Value) : StepH fSearch Prod.fst seQ base w0 [] D (fun κ' c' => ∃ m', m' < (g - x) + 17 * (n + 4) + 1 ∧ SeP g l n e u a m' κ' c') (0, false) (seNm g l n (bls e n) u (ivl u n) a 0 x (fun y => if y < x then (-1, -1) else (0, 0)) (seZ0 g x (fun y => if y < x then (-1, -1) else (0, 0)))) W := by
  obtain ⟨s, hs⟩ : ∃ s : Nat → Int × Int, s = fun y => if y < x then (-1, -1) else (0, 0) := ⟨_, rfl⟩
  have hs2 : (fun y => if y < x + 1 then ((-1, -1) : Int × Int) else (0, 0)) = updS s x (-1, -1) := funext fun y => by
    rw [hs]
    unfold updS
    by_cases h1 : y = x
    · rw [if_pos h1, if_pos (by omega)]
    · rw [if_neg h1]
      show _ = if y < x then ((-1, -1) : Int × Int) else (0, 0)
      by_cases h2 : y < x
      · rw [if_pos h2, if_pos (by omega)]
      · rw [if_neg h2, if_neg (by omega)]
  have hg16 : g ≤ 16 := by
    have := (validM_iff _ _ _).1 hva
    omega
  rw [← hs]
  have ht : @TbOK ((seNm g l n (bls e n) u (ivl u n) a 0 x s (seZ0 g x s)).val W) seT0 := by
    letI V2 : Val := (seNm g l n (bls e n) u (ivl u n) a 0 x s (seZ0 g x s)).val W
    refine { T := fa (f_lss (k := .i64) (m := (x : Int)) (n := (g : Int)) rfl rfl (decide_eq_true (by omega))) (fa (f_inb (m := (x : Int)) (n := (g : Int)) rfl rfl (by omega)) (fa (f_add1 (m := (x : Int)) rfl rfl rfl (by omega) (by omega)) fz)), LL := seLL_ok hn _ _ _ _ W, LF := fa ⟨?_, ?_⟩ (fa ⟨?_, ?_⟩ fz) }
    · show ((x : Int)).toNat * 2 + 0 < (stL s g).length
      rw [Int.toNat_natCast, stL_len]
      omega
    · show (stL s g).set (x * 2) (.int .i64 (-1)) = (stL s g).set (((x : Int)).toNat * 2 + 0) (.int .i64 (-1))
      rw [Int.toNat_natCast, Nat.add_zero]
    · show ((x : Int)).toNat * 2 + 1 < ((stL s g).set (x * 2) (.int .i64 (-1))).length
      rw [Int.toNat_natCast, List.length_set, stL_len]
      omega
    · show stL (updS s x (-1, -1)) g = ((stL s g).set (x * 2) (.int .i64 (-1))).set (((x : Int)).toNat * 2 + 1) (.int .i64 (-1))
      rw [Int.toNat_natCast, stL_set s (-1) (-1) x g hx]
  refine stepH_to seT0 [] ht (.lst 38 38 :: .lst 31 33 :: seS (sI 23)) [0, 1, 2, 3, 4] rfl (0, false) (seNm g l n (bls e n) u (ivl u n) a 0 (x + 1) (updS s x (-1, -1)) (if x + 1 < g then seZ0 g (x + 1) (updS s x (-1, -1)) else seZ1 g a (updS s x (-1, -1)))) se_00 (fun W' => holds_all (fa l38_ok (fa (okLs (stL (updS s x (-1, -1)) g) rfl rfl) (se_ids 22 (sI 23) ((x : Int) + 1) rfl rfl)))) ⟨_, ?_, .inl ⟨x + 1, hx, rfl, rfl, ?_⟩⟩
  · omega
  · rw [hs2]
theorem se_step0e (hn : l.length = n * 4) (ha : a < g) {D : Ending → World → Prop} {base : Nat} {w0 : World} (W : Nat → Value) : StepH fSearch Prod.fst seQ base w0 [] D (fun κ' c' => ∃ m', m' < (g - g) + 17 * (n + 4) + 1 ∧ SeP g l n e u a m' κ' c') (0, false) (seNm g l n (bls e n) u (ivl u n) a 0 g (fun y => if y < g then (-1, -1) else (0, 0)) (seZ1 g a (fun y => if y < g then (-1, -1) else (0, 0)))) W := by
  obtain ⟨s, hs⟩ : ∃ s : Nat → Int × Int, s = fun y => if y < g then (-1, -1) else (0, 0) := ⟨_, rfl⟩
  have hL : (stL s g).set (a * 2 + 1) (.int .i64 a) = stL (st0 a) g := by
    rw [stL_set1 s a a ha]
    refine stL_congr g fun j hj => ?_
    unfold updS st0
    rw [hs]
    by_cases h1 : j = a
    · rw [if_pos h1, if_pos h1]
      simp only
      rw [if_pos ha]
    · rw [if_neg h1, if_neg h1]
      simp only
      rw [if_pos hj]
  rw [← hs]
  have ht : @TbOK ((seNm g l n (bls e n) u (ivl u n) a 0 g s (seZ1 g a s)).val W) seT0e := by
    letI V2 : Val := (seNm g l n (bls e n) u (ivl u n) a 0 g s (seZ1 g a s)).val W
    refine { T := fa (f_lss (k := .i64) (m := (g : Int)) (n := (g : Int)) rfl rfl (decide_eq_false (by omega))) (fa (f_inb (m := (a : Int)) (n := (g : Int)) rfl rfl (by omega)) fz), LL := seLL_ok hn _ _ _ _ W, LF := fa ⟨?_, ?_⟩ fz }
    · show ((a : Int)).toNat * 2 + 1 < (stL s g).length
      rw [Int.toNat_natCast, stL_len]
      omega
    · show (stL s g).set (a * 2 + 1) (.int .i64 a) = (stL s g).set (((a : Int)).toNat * 2 + 1) (.int .i64 a)
      rw [Int.toNat_natCast]
  exact stepH_to seT0e [] ht (.lst 38 38 :: .lst 31 32 :: seS (lI 0)) [0, 1, 2, 3, 4] rfl (1, true) (seNm g l n (bls e n) u (ivl u n) a 0 0 (rws (gA' l) (gB' l) n e u a 0) (fun _ => [])) se_01 (fun W' => holds_all (fa l38_ok (fa (okLs (stL (st0 a) g) rfl hL) (se_ids 22 (lI 0) 0 rfl rfl)))) ⟨_, by omega, .inr (.inl ⟨0, by omega, rfl, fun j hj => absurd hj (Nat.not_lt_zero _), rfl, rfl⟩)⟩
theorem se_step1 (hn : l.length = n * 4) {D : Ending → World → Prop} {base : Nat} {w0 : World} {k : Nat} (hk : k ≤ 16) (hc : ∀ j, j < k → chg (gA' l) (gB' l) e u (rws (gA' l) (gB' l) n e u a j) n = true) (W : Nat → Value) : StepH fSearch Prod.fst seQ base w0 [] D (fun κ' c' => ∃ m', m' < (17 - k) * (n + 4) ∧ SeP g l n e u a m' κ' c') (1, true) (seNm g l n (bls e n) u (ivl u n) a 0 0 (rws (gA' l) (gB' l) n e u a k) (fun _ => [])) W := by
  have ht : @TbOK ((seNm g l n (bls e n) u (ivl u n) a 0 0 (rws (gA' l) (gB' l) n e u a k) (fun _ => [])).val W) { LL := seLL } := by
    letI V2 : Val := (seNm g l n (bls e n) u (ivl u n) a 0 0 (rws (gA' l) (gB' l) n e u a k) (fun _ => [])).val W
    exact { LL := seLL_ok hn _ _ _ _ W }
  refine stepH_to { LL := seLL } [] ht (.lst 31 31 :: seS2 (lI 0)) [0, 1, 2, 3, 4] rfl (2, false) (seNm g l n (bls e n) u (ivl u n) a 0 0 (rws (gA' l) (gB' l) n e u a k) (seZ2 g 0 (gA' l 0) (gB' l 0) (rws (gA' l) (gB' l) n e u a k))) se_12 (fun W' => holds_all (fa (okLs (stL (rws (gA' l) (gB' l) n e u a k) g) rfl rfl) (fapp (se_ids 2 (lI 0) 0 rfl rfl) (fa l38_ok fz)))) ⟨_, ?_, .inr (.inr (.inl ⟨k, 0, hk, Nat.zero_le _, rfl, hc, rfl, rfl⟩))⟩
  rw [show 17 - k = (16 - k) + 1 by omega, Nat.succ_mul]
  omega
theorem se_step21 (hn : l.length = n * 4) (hva : validM g l n = true) (ha : a < g) {D : Ending → World → Prop} {base : Nat} {w0 : World} {k : Nat} (hk : k ≤ 16) (hc : ∀ j, j < k → chg (gA' l) (gB' l) e u (rws (gA' l) (gB' l) n e u a j) n = true) (W : Nat → Value) : StepH fSearch Prod.fst seQ base w0 [] D (fun κ' c' => ∃ m', m' < (16 - k) * (n + 4) + (n - n) + 3 ∧ SeP g l n e u a m' κ' c') (2, chg (gA' l) (gB' l) e u (rws (gA' l) (gB' l) n e u a k) n) (seNm g l n (bls e n) u (ivl u n) a n 0 (row (gA' l) (gB' l) e u (rws (gA' l) (gB' l) n e u a k) n) (seZ2 g n (gA' l n) (gB' l n) (row (gA' l) (gB' l) e u (rws (gA' l) (gB' l) n e u a k) n))) W := by
  have hg16 := (validM_iff _ _ _).1 hva
  have hgi := gate_in hva
  have ha16 : a < 16 := by omega
  obtain ⟨s, hs⟩ : ∃ s, s = row (gA' l) (gB' l) e u (rws (gA' l) (gB' l) n e u a k) n := ⟨_, rfl⟩
  have hs1 : rws (gA' l) (gB' l) n e u a (k + 1) = s := hs.symm
  rw [← hs]
  have ht : @TbOK ((seNm g l n (bls e n) u (ivl u n) a n 0 s (seZ2 g n (gA' l n) (gB' l n) s)).val W) seT2e := by
    letI V2 : Val := (seNm g l n (bls e n) u (ivl u n) a n 0 s (seZ2 g n (gA' l n) (gB' l n) s)).val W
    exact { T := fa (f_lss (k := .i64) (m := (n : Int)) (n := (n : Int)) rfl rfl (decide_eq_false (by omega))) fz, LL := seLL_ok hn _ _ _ _ W }
  have hids : ∀ (s' : Nat → Int × Int) (W' : Nat → Value), stL s' g = stL s g → ∀ q, q ∈ [SE.int 0 (sI 0), .int 1 (sI 1), .int 20 (sI 20), .lst 0 0, .lst 90 90, .lst 30 30, .lst 38 38, .lst 31 31] → okSE ((seNm g l n (bls e n) u (ivl u n) a n 0 s (seZ2 g n (gA' l n) (gB' l n) s)).val W) ((seNm g l n (bls e n) u (ivl u n) a 0 0 s' (fun _ => [])).val W') q := fun s' W' h =>
    fa ⟨.i64, (g : Int), rfl, rfl⟩ (fa ⟨.i64, (n : Int), rfl, rfl⟩ (fa ⟨.i64, (a : Int), rfl, rfl⟩ (fa (okLs l rfl rfl) (fa (okLs (bls e n) rfl rfl) (fa (okLs (ivl u n) rfl rfl) (fa l38_ok (fa (okLs (stL s g) h rfl) fz)))))))
  cases hch : chg (gA' l) (gB' l) e u (rws (gA' l) (gB' l) n e u a k) n with
  | true =>
    have hk16 : k ≠ 16 := fun h => by
      obtain ⟨k0, h0, h1⟩ := rws_stop (e := e) (u := u) hgi.1 hgi.2 ha16
      have : chg (gA' l) (gB' l) e u (rws (gA' l) (gB' l) n e u a k0) n = true := by
        rcases Nat.lt_or_eq_of_le (show k0 ≤ k by omega) with h2 | rfl
        · exact hc k0 h2
        · exact hch
      rw [h1] at this
      cases this
    refine stepH_to seT2e [] ht _ [0, 1, 2, 3, 4] rfl (1, true) (seNm g l n (bls e n) u (ivl u n) a 0 0 (rws (gA' l) (gB' l) n e u a (k + 1)) (fun _ => [])) (all2_all se_21 true) (fun W' => holds_all (hids _ W' (by rw [hs1]))) ⟨_, ?_, .inr (.inl ⟨k + 1, by omega, rfl, fun j hj => ?_, rfl, rfl⟩)⟩
    · rw [show 17 - (k + 1) = 16 - k by omega]
      omega
    · rcases Nat.lt_or_eq_of_le (Nat.le_of_lt_succ hj) with h2 | rfl
      · exact hc j h2
      · exact hch
  | false =>
    have e1 := srS_eq (e := e) (u := u) hgi.1 hgi.2 ha16 (show k ≤ 17 by omega) hch
    have e2 : rws (gA' l) (gB' l) n e u a (k + 1) = rws (gA' l) (gB' l) n e u a k := rws_same (e := e) (u := u) hgi.1 hgi.2 ha16 hch 1
    exact stepH_to seT2e [] ht _ [0, 1, 2, 3, 4] rfl (1, false) (seNm g l n (bls e n) u (ivl u n) a 0 0 (srS (gA' l) (gB' l) n e u a) (fun _ => [])) (all2_all se_21 false) (fun W' => holds_all (hids _ W' (by rw [e1, ← e2, hs1]))) ⟨_, by omega, .inr (.inr (.inr ⟨rfl, rfl, rfl⟩))⟩
end
end Go.Proofs.Z

namespace Go.Proofs.Z
open Go Go.RowKit Go.Proofs Go.Ri Go.Proofs.Z.Fa
/-! The specification's search: a gate, and all of it. -/
section
variable {g : Nat} {l : List Value} {n : Nat} {e : Nat → Bool} {u : Nat → Int} {a : Nat}
theorem seNx_stp {s : Nat → Int × Int} {i : Nat} : seZ2 g i (gA' l i) (gB' l i) s (seNx (e i) (u i == 1) (u i == -1) (rch s (gA' l i)) (rch s (gB' l i))) = (if psA (gA' l) (gB' l) e u s i || psB (gA' l) (gB' l) e u s i then stL (stp (gA' l) (gB' l) e u s i) g else seZ2 g i (gA' l i) (gB' l i) s 31) ∧ (Nat.beq (seNx (e i) (u i == 1) (u i == -1) (rch s (gA' l i)) (rch s (gB' l i))) 31) = !(psA (gA' l) (gB' l) e u s i || psB (gA' l) (gB' l) e u s i) := by
  have eA : psA (gA' l) (gB' l) e u s i = (e i && !(u i == 1) && rch s (gA' l i) && !rch s (gB' l i)) := rfl
  have eB : psB (gA' l) (gB' l) e u s i = (e i && !(u i == -1) && rch s (gB' l i) && !rch s (gA' l i)) := rfl
  unfold seNx stp
  rw [← eA, ← eB]
  cases psA (gA' l) (gB' l) e u s i with
  | true => exact ⟨rfl, rfl⟩
  | false =>
    cases psB (gA' l) (gB' l) e u s i with
    | true => exact ⟨rfl, rfl⟩
    | false => exact ⟨rfl, rfl⟩
set_option maxRecDepth 10000 in
theorem se_step2 (hl : ints l) (hn : l.length = n * 4) (hva : validM g l n = true) {D : Ending → World → Prop} {base : Nat} {w0 : World} {k i : Nat} (hk : k ≤ 16) (hi : i < n) (hc : ∀ j, j < k → chg (gA' l) (gB' l) e u (rws (gA' l) (gB' l) n e u a j) n = true) (W : Nat → Value) : StepH fSearch Prod.fst seQ base w0 [] D (fun κ' c' => ∃ m', m' < (16 - k) * (n + 4) + (n - i) + 3 ∧ SeP g l n e u a m' κ' c') (2, chg (gA' l) (gB' l) e u (rws (gA' l) (gB' l) n e u a k) i) (seNm g l n (bls e n) u (ivl u n) a i 0 (row (gA' l) (gB' l) e u (rws (gA' l) (gB' l) n e u a k) i) (seZ2 g i (gA' l i) (gB' l i) (row (gA' l) (gB' l) e u (rws (gA' l) (gB' l) n e u a k) i))) W := by
  have hv := (validM_iff _ _ _).1 hva
  obtain ⟨a0, a1, b0, b1, c0, c1⟩ := gate_range hva hi
  have hAB := (gate_in hva).2 i hi
  have hA : gA' l i < g := by unfold gA'; omega
  have hB : gB' l i < g := by unfold gB'; omega
  have eA : ((gA' l i : Nat) : Int) = gtA l i := by unfold gA'; omega
  have eB : ((gB' l i : Nat) : Int) = gtB l i := by unfold gB'; omega
  obtain ⟨c, hcc⟩ : ∃ c, c = chg (gA' l) (gB' l) e u (rws (gA' l) (gB' l) n e u a k) i := ⟨_, rfl⟩
  obtain ⟨s, hs⟩ : ∃ s, s = row (gA' l) (gB' l) e u (rws (gA' l) (gB' l) n e u a k) i := ⟨_, rfl⟩
  have hrow : row (gA' l) (gB' l) e u (rws (gA' l) (gB' l) n e u a k) (i + 1) = stp (gA' l) (gB' l) e u s i := by rw [hs]; rfl
  have hchg : chg (gA' l) (gB' l) e u (rws (gA' l) (gB' l) n e u a k) (i + 1) = (c || (psA (gA' l) (gB' l) e u s i || psB (gA' l) (gB' l) e u s i)) := by rw [hs, hcc]; rfl
  rw [← hcc, ← hs]
  obtain ⟨p, hp⟩ : ∃ p, p = rch s (gA' l i) := ⟨_, rfl⟩
  obtain ⟨q, hq⟩ : ∃ q, q = rch s (gB' l i) := ⟨_, rfl⟩
  obtain ⟨ui, hu⟩ : ∃ ui, ui = (u i == 1) := ⟨_, rfl⟩
  obtain ⟨vi, hvv⟩ : ∃ vi, vi = (u i == -1) := ⟨_, rfl⟩
  obtain ⟨n1, n2⟩ := seNx_stp (g := g) (l := l) (e := e) (u := u) (s := s) (i := i)
  rw [← hp, ← hq, ← hu, ← hvv] at n1 n2
  have huv : (ui && vi) = false := by
    rw [hu, hvv, eqdec, eqdec]
    by_cases h : u i = 1
    · rw [h]
      rfl
    · rw [decide_eq_false h]
      rfl
  have hlss : ∀ (x : Int) (r : Bool), r = decide (0 ≤ x) → decide (x < 0) = !r := fun x r h => by
    rw [h]
    by_cases h0 : 0 ≤ x
    · rw [decide_eq_true h0, decide_eq_false (by omega)]
      rfl
    · rw [decide_eq_false h0, decide_eq_true (by omega)]
      rfl
  have ht : @TbOK ((seNm g l n (bls e n) u (ivl u n) a i 0 s (seZ2 g i (gA' l i) (gB' l i) s)).val W) (seT2 (e i) ui vi p q) := by
    letI V2 : Val := (seNm g l n (bls e n) u (ivl u n) a i 0 s (seZ2 g i (gA' l i) (gB' l i) s)).val W
    have hrA : ∀ (t : Nat → Int × Int) (i' : Nat) (x : Int) (y : Nat), V2.L i' = stL t g → V2.I 3 = x → x = (y : Int) → y < g → ∀ r1 r2, @cv V2 r1 = .int .i64 (t y).1 → @cv V2 r2 = .int .i64 (t y).2 → flat0 r1 = true → flat0 r2 = true → LXTrue ⟨i', 3, [r1, r2]⟩ := fun t i' x y hL hI hx hy r1 r2 h1 h2 f1 f2 => by
      have e3 : (Val.I 3).toNat = y := by
        show (V2.I 3).toNat = y
        omega
      refine ⟨by show (flat0 r1 && (flat0 r2 && true)) = true; rw [f1, f2]; rfl, ?_, ?_⟩
      · show (V2.I 3).toNat * 2 + 2 ≤ (V2.L i').length
        rw [hL, stL_len, show (V2.I 3).toNat = y from e3]
        omega
      · show ((V2.L i').drop ((V2.I 3).toNat * 2)).take 2 = [cv r1, cv r2]
        rw [hL, show (V2.I 3).toNat = y from e3, stL_row t g y hy, h1, h2]
    have hrB : ∀ (t : Nat → Int × Int) (i' : Nat) (x : Int) (y : Nat), V2.L i' = stL t g → V2.I 4 = x → x = (y : Int) → y < g → ∀ r1 r2, @cv V2 r1 = .int .i64 (t y).1 → @cv V2 r2 = .int .i64 (t y).2 → flat0 r1 = true → flat0 r2 = true → LXTrue ⟨i', 4, [r1, r2]⟩ := fun t i' x y hL hI hx hy r1 r2 h1 h2 f1 f2 => by
      have e3 : (V2.I 4).toNat = y := by omega
      refine ⟨by show (flat0 r1 && (flat0 r2 && true)) = true; rw [f1, f2]; rfl, ?_, ?_⟩
      · show (V2.I 4).toNat * 2 + 2 ≤ (V2.L i').length
        rw [hL, stL_len, e3]
        omega
      · show ((V2.L i').drop ((V2.I 4).toNat * 2)).take 2 = [cv r1, cv r2]
        rw [hL, e3, stL_row t g y hy, h1, h2]
    have t3 : (V2.I 3).toNat = gA' l i := rfl
    have t4 : (V2.I 4).toNat = gB' l i := rfl
    refine { T := fa (f_lss (k := .i64) (m := (i : Int)) (n := (n : Int)) rfl rfl (decide_eq_true (by omega))) (fa (f_inb (m := (i : Int)) (n := (n : Int)) rfl rfl (by omega)) (fa (f_add1 (m := (i : Int)) rfl rfl rfl (by omega) (by omega)) (fa (f_ieq (k := .i64) (m := u i) (n := 1) rfl rfl hu.symm) (fa (f_ieq (k := .i64) (m := u i) (n := -1) rfl rfl hvv.symm) (fa (f_inb (m := gtA l i) (n := (g : Int)) rfl rfl (by omega)) (fa (f_inb (m := gtB l i) (n := (g : Int)) rfl rfl (by omega)) (fa (f_geq (k := .i64) (m := (s (gA' l i)).2) (n := 0) rfl rfl hp.symm) (fa (f_lss (k := .i64) (m := (s (gA' l i)).2) (n := 0) rfl rfl (hlss _ _ hp)) (fa (f_geq (k := .i64) (m := (s (gB' l i)).2) (n := 0) rfl rfl hq.symm) (fa (f_lss (k := .i64) (m := (s (gB' l i)).2) (n := 0) rfl rfl (hlss _ _ hq)) (fa (f_geq (k := .i64) (m := gtA l i) (n := 0) rfl rfl (decide_eq_true a0)) fz))))))))))), LL := fapp (seLL_ok hn _ _ _ _ W) (fa ⟨rfl, g, Nat.succ_pos 1, stL_len _ g, rfl⟩ fz), LX := fapp (fa ?_ (fa ?_ (fa ?_ (fa (hrA s 31 _ (gA' l i) rfl rfl eA.symm hA _ _ rfl rfl rfl rfl) (fa (hrB s 31 _ (gB' l i) rfl rfl eB.symm hB _ _ rfl rfl rfl rfl) fz))))) ?_, LF := fa ⟨?_, ?_⟩ (fa ⟨?_, ?_⟩ (fa ⟨?_, ?_⟩ (fa ⟨?_, ?_⟩ fz))) }
    · exact hLX_ok _ _ _ hl hn hi W _ (List.mem_singleton.2 rfl)
    · exact bls_lx (V := V2) (b := e) (n := n) (i := 90) (j := 2) rfl (show (0 : Int) ≤ (i : Int) by omega) (show ((i : Int)).toNat < n by omega)
    · refine ⟨rfl, ?_, ?_⟩
      · show ((i : Int)).toNat * 1 + 1 ≤ (ivl u n).length
        rw [Int.toNat_natCast, ivl_len]
        omega
      · show ((ivl u n).drop (((i : Int)).toNat * 1)).take 1 = _
        rw [Int.toNat_natCast, ivl_row hi]
        rfl
    · split
      · refine fa (hrB (updS s (gB' l i) ((i : Int), (gA' l i : Int))) 33 _ (gB' l i) rfl rfl eB.symm hB (sI 2) (sI 3) ?_ ?_ rfl rfl) (fa (hrA (updS s (gB' l i) ((i : Int), (gA' l i : Int))) 33 _ (gA' l i) rfl rfl eA.symm hA (sI 70) (sI 71) ?_ ?_ rfl rfl) fz)
        · rw [show updS s (gB' l i) ((i : Int), (gA' l i : Int)) (gB' l i) = ((i : Int), (gA' l i : Int)) from if_pos rfl]
          rfl
        · rw [show updS s (gB' l i) ((i : Int), (gA' l i : Int)) (gB' l i) = ((i : Int), (gA' l i : Int)) from if_pos rfl]
          exact congrArg (Value.int .i64) eA.symm
        · rw [show updS s (gB' l i) ((i : Int), (gA' l i : Int)) (gA' l i) = s (gA' l i) from if_neg hAB]
          rfl
        · rw [show updS s (gB' l i) ((i : Int), (gA' l i : Int)) (gA' l i) = s (gA' l i) from if_neg hAB]
          rfl
      · exact fz
    · show (V2.I 4).toNat * 2 + 0 < (stL s g).length
      rw [stL_len, t4]
      omega
    · show (stL s g).set (gB' l i * 2) (.int .i64 i) = (stL s g).set ((V2.I 4).toNat * 2 + 0) (.int .i64 i)
      rw [t4, Nat.add_zero]
    · show (V2.I 4).toNat * 2 + 1 < ((stL s g).set (gB' l i * 2) (.int .i64 i)).length
      rw [List.length_set, stL_len, t4]
      omega
    · show stL (updS s (gB' l i) ((i : Int), (gA' l i : Int))) g = ((stL s g).set (gB' l i * 2) (.int .i64 i)).set ((V2.I 4).toNat * 2 + 1) (.int .i64 (gtA l i))
      rw [t4, ← eA, stL_set s _ _ _ g hB]
    · show (V2.I 3).toNat * 2 + 0 < (stL s g).length
      rw [stL_len, t3]
      omega
    · show (stL s g).set (gA' l i * 2) (.int .i64 i) = (stL s g).set ((V2.I 3).toNat * 2 + 0) (.int .i64 i)
      rw [t3, Nat.add_zero]
    · show (V2.I 3).toNat * 2 + 1 < ((stL s g).set (gA' l i * 2) (.int .i64 i)).length
      rw [List.length_set, stL_len, t3]
      omega
    · show stL (updS s (gA' l i) ((i : Int), (gB' l i : Int))) g = ((stL s g).set (gA' l i * 2) (.int .i64 i)).set ((V2.I 3).toNat * 2 + 1) (.int .i64 (gtB l i))
      rw [t3, ← eB, stL_set s _ _ _ g hA]
  have hrun := all2_all (all2_all (all2_all (all2_all (all2_all (all2_all se_22 c) (e i)) ui) vi) p) q
  rw [huv, Bool.false_or] at hrun
  have hmm : (c || !(Nat.beq (seNx (e i) ui vi p q) 31)) = chg (gA' l) (gB' l) e u (rws (gA' l) (gB' l) n e u a k) (i + 1) := by
    rw [n2, Bool.not_not, hchg]
  rw [hmm] at hrun
  refine stepH_to (seT2 (e i) ui vi p q) [] ht (.lst 31 (seNx (e i) ui vi p q) :: seS2 (sI 7)) [0, 1, 2, 3, 4] rfl (2, chg (gA' l) (gB' l) e u (rws (gA' l) (gB' l) n e u a k) (i + 1)) (seNm g l n (bls e n) u (ivl u n) a (i + 1) 0 (row (gA' l) (gB' l) e u (rws (gA' l) (gB' l) n e u a k) (i + 1)) (seZ2 g (i + 1) (gA' l (i + 1)) (gB' l (i + 1)) (row (gA' l) (gB' l) e u (rws (gA' l) (gB' l) n e u a k) (i + 1)))) hrun (fun W' => holds_all (fa (okLs (stL (stp (gA' l) (gB' l) e u s i) g) (by rw [hrow]; rfl) ?_) (fapp (se_ids 2 (sI 7) ((i : Int) + 1) rfl rfl) (fa l38_ok fz)))) ⟨_, ?_, .inr (.inr (.inl ⟨k, i + 1, hk, hi, rfl, hc, rfl, rfl⟩))⟩
  · cases hps : (psA (gA' l) (gB' l) e u s i || psB (gA' l) (gB' l) e u s i) with
    | true =>
      rw [hps, if_pos rfl] at n1
      rw [hps] at n2
      have hne : seNx (e i) ui vi p q = 33 ∨ seNx (e i) ui vi p q = 35 := by
        unfold seNx at n2 ⊢
        split
        · exact .inl rfl
        · split
          · exact .inr rfl
          · rename_i h1 h2
            rw [if_neg h1, if_neg h2] at n2
            cases n2
      rcases hne with h | h
      · rw [h] at n1 ⊢
        exact n1
      · rw [h] at n1 ⊢
        exact n1
    | false =>
      rw [hps] at n2
      have h31 : seNx (e i) ui vi p q = 31 := Nat.eq_of_beq_eq_true n2
      rw [h31]
      have : stp (gA' l) (gB' l) e u s i = s := by
        rw [Bool.or_eq_false_iff] at hps
        unfold stp
        rw [if_neg (by rw [hps.1]; decide), if_neg (by rw [hps.2]; decide)]
      rw [this]
      rfl
  · omega
theorem se_fin (hn : l.length = n * 4) {w0 : World} {nx : Nat × Bool → Nm → Prop} (V : Val) (h31 : V.L 31 = stL (srS (gA' l) (gB' l) n e u a) g) (h38 : V.L 38 = c38 g) (W : Nat → Value) : StepH fSearch Prod.fst seQ w0.heap.size w0 [] (DQ V (.slN 0 38 2) [some (.lst 31 tStep true)] w0) nx (1, false) (seNm g l n (bls e n) u (ivl u n) a 0 0 (srS (gA' l) (gB' l) n e u a) (fun _ => [])) W := by
  have ht : @TbOK ((seNm g l n (bls e n) u (ivl u n) a 0 0 (srS (gA' l) (gB' l) n e u a) (fun _ => [])).val W) { LL := seLL } := by
    letI V2 : Val := (seNm g l n (bls e n) u (ivl u n) a 0 0 (srS (gA' l) (gB' l) n e u a) (fun _ => [])).val W
    exact { LL := seLL_ok hn _ _ _ _ W }
  exact stepH_outQ { LL := seLL } [] ht V [.lst 38 38, .lst 31 31] [4] (.slN 0 38 2) [some (.lst 31 tStep true)] se_out rfl (holds_all (fa (h38.trans rfl) (fa (h31.trans rfl) fz)))
theorem search_q (V : Val) (hG : V.I 0 = g) (hL : V.L 0 = l) (hl : ints l) (hn : l.length = n * 4) (hva : validM g l n = true) (ha : a < g) (h20 : V.I 20 = a) (h90 : V.L 90 = bls e n) (h30 : V.L 30 = ivl u n) (h31 : V.L 31 = stL (srS (gA' l) (gB' l) n e u a) g) (h38 : V.L 38 = c38 g) : @QNTrue V ⟨fSearch, seD, .slN 0 31 2, [some (.lst 31 tStep true)]⟩ := by
  refine qn_len (i := 38) (by rw [h31, h38]; unfold c38; rw [stL_len, stL_len]) ?_
  intro w hr vs hv
  have hv1 := (validM_iff _ _ _).1 hva
  let V1 : Val := (seNm g l n (bls e n) u (ivl u n) a 0 0 (fun _ => (0, 0)) (if 0 < g then seZ0 g 0 (fun _ => (0, 0)) else seZ1 g a (fun _ => (0, 0)))).val fun _ => undef
  have hv : All2 (@Go.Ri.NVal V1 w) seD vs := by
    cases hv with
    | cons h1 h2 => cases h2 with
      | cons h2 h3 => cases h3 with
        | cons h3 h4 => cases h4 with
          | cons h4 h5 =>
            cases h5
            exact .cons (fell_nval1 hG hL h1) (.cons (nval_re (V := V) (V' := V1) (x := sI 20) rfl rfl (congrArg (Value.int .i64) h20) rfl h2) (.cons (lst_nval (V := V) (V' := V1) (i := 90) (j := 90) h90 h3) (.cons (lst_nval (V := V) (V' := V1) (i := 30) (j := 30) h30 h4) .nil)))
  have ht : @TbOK V1 seE := by
    letI : Val := V1
    exact { LL := seLL_ok hn _ _ _ _ _, LM := fa ⟨g * 2, by omega, rfl, stL_zero g⟩ fz }
  have e0 : (fun y => if y < 0 then ((-1, -1) : Int × Int) else (0, 0)) = fun _ => (0, 0) := funext fun y => if_neg (Nat.not_lt_zero _)
  refine fn_headsN (κ := Nat × Bool) (seNm g l n (bls e n) u (ivl u n) a 0 0 (fun _ => (0, 0)) (if 0 < g then seZ0 g 0 (fun _ => (0, 0)) else seZ1 g a (fun _ => (0, 0)))) (fun _ => undef) seE [] fSearch seD Prod.fst seQ (SeP g l n e u a) ht (.lst 38 31 :: .lst 31 31 :: seS (lI 0)) [0, 1, 2, 3, 4] (0, false) _ se_enter (seNm g l n (bls e n) u (ivl u n) a 0 0 (fun y => if y < 0 then (-1, -1) else (0, 0)) (if 0 < g then seZ0 g 0 (fun y => if y < 0 then (-1, -1) else (0, 0)) else seZ1 g a (fun y => if y < 0 then (-1, -1) else (0, 0)))) (fun W' => holds_all (fa (okLs (c38 g) rfl rfl) (fa (okLs (c38 g) (by rw [e0]; rfl) rfl) (se_ids 22 (lI 0) 0 rfl rfl)))) (.inl ⟨0, Nat.zero_le _, rfl, rfl, rfl⟩) (DQ V (.slN 0 38 2) [some (.lst 31 tStep true)]) ?_ w hr vs hv
  rintro w m κ c (⟨x, hx, rfl, rfl, rfl⟩ | ⟨k, hk, rfl, hc, rfl, rfl⟩ | ⟨k, i, hk, hi, rfl, hc, rfl, rfl⟩ | ⟨rfl, rfl, rfl⟩) W
  · rcases Nat.lt_or_eq_of_le hx with h | rfl
    · rw [if_pos h]
      exact se_step0 hn hva h W
    · rw [if_neg (Nat.lt_irrefl _)]
      exact se_step0e hn ha W
  · exact se_step1 hn hk hc W
  · rcases Nat.lt_or_eq_of_le hi with h | rfl
    · exact se_step2 hl hn hva hk h hc W
    · exact se_step21 hn hva ha hk hc W
  · exact se_fin hn V h31 h38 W
end
end Go.Proofs.Z
