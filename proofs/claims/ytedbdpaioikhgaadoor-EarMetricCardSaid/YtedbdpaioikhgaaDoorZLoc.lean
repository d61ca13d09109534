/- A part of the proofs that the laws of layer one answer true for every input. -/
import Derived.Test.YtedbdpaioikhgaaDoorZEarOf
namespace Go.Proofs.Z
open Go Go.RowKit Go.Proofs Go.Ri
/-! What place and value a feature tells. -/
def vc (p : Nat) : Nat := if p = 0 then 5 else if p < 9 then 4 else 2
/-- Rows of four that are no feature: what the first ones are, and what the next one is not: from lo to hi. -/
structure BC where
  pre : List Int
  lo : Int
  hi : Int
def bcs : List BC := [⟨[], 1, 3⟩, ⟨[1], 0, 0⟩, ⟨[1, 0], 0, 0⟩, ⟨[1, 0, 0], 1, 4⟩, ⟨[2], 0, 1⟩, ⟨[2, 0], 0, 3⟩, ⟨[2, 1], 0, 3⟩, ⟨[2, 0, 0], 1, 3⟩, ⟨[2, 0, 1], 1, 3⟩, ⟨[2, 0, 2], 1, 3⟩, ⟨[2, 0, 3], 1, 3⟩, ⟨[2, 1, 0], 1, 3⟩, ⟨[2, 1, 1], 1, 3⟩, ⟨[2, 1, 2], 1, 3⟩, ⟨[2, 1, 3], 1, 3⟩,
  ⟨[3], 0, 0⟩, ⟨[3, 0], 0, 2⟩, ⟨[3, 0, 0], 0, 0⟩, ⟨[3, 0, 1], 0, 0⟩, ⟨[3, 0, 2], 0, 0⟩]
def bc (j : Nat) : BC := bcs.getD j ⟨[], 1, 3⟩
/-- A row of this kind, from the name k on. -/
def bcR (k : Nat) (q : BC) : List RV := match q.pre with
  | [] => [sI k, sI (k + 1), sI (k + 2), sI (k + 3)]
  | [a] => [lI a, sI (k + 1), sI (k + 2), sI (k + 3)]
  | [a, b] => [lI a, lI b, sI (k + 2), sI (k + 3)]
  | a :: b :: c :: _ => [lI a, lI b, lI c, sI (k + 3)]
def row4F (a b c d : Int) : Nat → Int := fun i => if i = 0 then a else if i = 1 then b else if i = 2 then c else d
/-- Is the row of this kind. -/
def isBC (q : BC) (a b c d : Int) : Prop := (∀ i (h : i < q.pre.length), row4F a b c d i = q.pre[i]) ∧ q.pre.length < 4 ∧ ¬ (q.lo ≤ row4F a b c d q.pre.length ∧ row4F a b c d q.pre.length ≤ q.hi)
def rng (lo hi : Int) : List Int := (List.range (hi - lo + 1).toNat).map fun (j : Nat) => lo + j
/-- What is known of the value that is not from lo to hi: below it or above it. -/
def bcT (k : Nat) (q : BC) (up : Bool) : List TE :=
  let x := sI (k + q.pre.length)
  ⟨.bin .geq, x, lI q.lo, bR up⟩ :: ⟨.bin .leq, x, lI q.hi, bR (!up)⟩ :: ⟨.bin .lss, x, lI (q.hi + 1), bR (!up)⟩ :: ((rng q.lo q.hi).map (fun n => ⟨.ieq, x, lI n, bR false⟩) ++ (rng q.lo q.hi).map (fun n => ⟨.ieq, lI n, x, bR false⟩))
theorem bcT_true [Val] (k : Nat) (q : BC) (hlh : q.lo ≤ q.hi) (h : ¬ (q.lo ≤ Val.I (k + q.pre.length) ∧ Val.I (k + q.pre.length) ≤ q.hi)) : ∀ e ∈ bcT k q (decide (q.lo ≤ Val.I (k + q.pre.length))), TETrue e := by
  have hr : ∀ n, n ∈ rng q.lo q.hi → Val.I (k + q.pre.length) ≠ n := by
    intro n hn e
    obtain ⟨j, hj, rfl⟩ := List.mem_map.1 hn
    have := List.mem_range.1 hj
    omega
  intro e he
  simp only [bcT, List.mem_cons, List.mem_append] at he
  rcases he with rfl | rfl | rfl | he | he
  · refine ⟨rfl, ?_⟩
    have := t_geq .i64 (Val.I (k + q.pre.length)) q.lo
    rw [show decide (Val.I (k + q.pre.length) ≥ q.lo) = decide (q.lo ≤ Val.I (k + q.pre.length)) from rfl] at this
    exact this
  · refine ⟨rfl, ?_⟩
    have := t_leq .i64 (Val.I (k + q.pre.length)) q.hi
    rw [show decide (Val.I (k + q.pre.length) ≤ q.hi) = !decide (q.lo ≤ Val.I (k + q.pre.length)) by
      by_cases h1 : q.lo ≤ Val.I (k + q.pre.length)
      · have : ¬ Val.I (k + q.pre.length) ≤ q.hi := fun h2 => h ⟨h1, h2⟩
        simp [h1, this]
      · have : Val.I (k + q.pre.length) ≤ q.hi := by omega
        simp [h1, this]] at this
    exact this
  · refine ⟨rfl, ?_⟩
    have := t_lss .i64 (Val.I (k + q.pre.length)) (q.hi + 1)
    rw [show decide (Val.I (k + q.pre.length) < q.hi + 1) = !decide (q.lo ≤ Val.I (k + q.pre.length)) by
      by_cases h1 : q.lo ≤ Val.I (k + q.pre.length)
      · have : ¬ Val.I (k + q.pre.length) < q.hi + 1 := fun h2 => h ⟨h1, by omega⟩
        simp [h1, this]
      · have : Val.I (k + q.pre.length) < q.hi + 1 := by omega
        simp [h1, this]] at this
    exact this
  · obtain ⟨n, hn, rfl⟩ := List.mem_map.1 he
    refine ⟨rfl, ?_⟩
    have := t_ieq .i64 (Val.I (k + q.pre.length)) n
    rw [show (Val.I (k + q.pre.length) == n) = false by simpa using hr n hn] at this
    exact this
  · obtain ⟨n, hn, rfl⟩ := List.mem_map.1 he
    refine ⟨rfl, ?_⟩
    have := t_ieq .i64 n (Val.I (k + q.pre.length))
    rw [show (n == Val.I (k + q.pre.length)) = false by simpa using fun e => hr n hn e.symm] at this
    exact this
/-- Each row of four is a feature, or of one of the kinds that are none. -/
theorem feat_or (a b c d : Int) : (∃ p v, p < 12 ∧ 1 ≤ v ∧ v < vc p ∧ [Value.int .i64 a, .int .i64 b, .int .i64 c, .int .i64 d] = featC p (v : Nat)) ∨ ∃ j, j < 20 ∧ isBC (bc j) a b c d := by
  have bad : ∀ j, j < 20 → isBC (bc j) a b c d → (∃ p v, p < 12 ∧ 1 ≤ v ∧ v < vc p ∧ [Value.int .i64 a, .int .i64 b, .int .i64 c, .int .i64 d] = featC p (v : Nat)) ∨ ∃ j, j < 20 ∧ isBC (bc j) a b c d := fun j h1 h2 => .inr ⟨j, h1, h2⟩
  have b0 : ∀ j, (bc j).pre = [] → ¬ ((bc j).lo ≤ a ∧ a ≤ (bc j).hi) → isBC (bc j) a b c d := fun j h1 h2 => ⟨by rw [h1]; intro i hi; exact absurd hi (Nat.not_lt_zero _), by rw [h1]; simp, by rw [h1]; exact h2⟩
  have b1 : ∀ j x, (bc j).pre = [x] → a = x → ¬ ((bc j).lo ≤ b ∧ b ≤ (bc j).hi) → isBC (bc j) a b c d := fun j x h1 e1 h2 => ⟨by rw [h1]; intro i hi; match i, hi with | 0, _ => exact e1, by rw [h1]; simp, by rw [h1]; exact h2⟩
  have b2 : ∀ j x y, (bc j).pre = [x, y] → a = x → b = y → ¬ ((bc j).lo ≤ c ∧ c ≤ (bc j).hi) → isBC (bc j) a b c d := fun j x y h1 e1 e2 h2 => ⟨by rw [h1]; intro i hi; match i, hi with | 0, _ => exact e1 | 1, _ => exact e2, by rw [h1]; simp, by rw [h1]; exact h2⟩
  have b3 : ∀ j x y z, (bc j).pre = [x, y, z] → a = x → b = y → c = z → ¬ ((bc j).lo ≤ d ∧ d ≤ (bc j).hi) → isBC (bc j) a b c d := fun j x y z h1 e1 e2 e3 h2 => ⟨by rw [h1]; intro i hi; match i, hi with | 0, _ => exact e1 | 1, _ => exact e2 | 2, _ => exact e3, by rw [h1]; simp, by rw [h1]; exact h2⟩
  have nat : ∀ z : Int, 0 ≤ z → ∃ n : Nat, z = n := fun z hz => ⟨z.toNat, by omega⟩
  by_cases ha : 1 ≤ a ∧ a ≤ 3
  · have ha : a = 1 ∨ a = 2 ∨ a = 3 := by omega
    rcases ha with ha | ha | ha
    · by_cases hb : b = 0
      · by_cases hc : c = 0
        · by_cases hd : 1 ≤ d ∧ d ≤ 4
          · obtain ⟨n, rfl⟩ := nat d (by omega)
            exact .inl ⟨0, n, by omega, by omega, by show n < 5; omega, by rw [ha, hb, hc]; rfl⟩
          · exact bad 3 (by decide) (b3 3 1 0 0 rfl ha hb hc hd)
        · exact bad 2 (by decide) (b2 2 1 0 rfl ha hb (by show ¬ ((0 : Int) ≤ c ∧ c ≤ 0); omega))
      · exact bad 1 (by decide) (b1 1 1 rfl ha (by show ¬ ((0 : Int) ≤ b ∧ b ≤ 0); omega))
    · by_cases hb : 0 ≤ b ∧ b ≤ 1
      · have hb : b = 0 ∨ b = 1 := by omega
        by_cases hc : 0 ≤ c ∧ c ≤ 3
        · have hc : c = 0 ∨ c = 1 ∨ c = 2 ∨ c = 3 := by omega
          by_cases hd : 1 ≤ d ∧ d ≤ 3
          · obtain ⟨n, rfl⟩ := nat d (by omega)
            have hn : 1 ≤ n ∧ n < 4 := by omega
            rcases hb with hb | hb <;> rcases hc with hc | hc | hc | hc <;> rw [ha, hb, hc]
            · exact .inl ⟨1, n, by omega, hn.1, hn.2, rfl⟩
            · exact .inl ⟨2, n, by omega, hn.1, hn.2, rfl⟩
            · exact .inl ⟨3, n, by omega, hn.1, hn.2, rfl⟩
            · exact .inl ⟨4, n, by omega, hn.1, hn.2, rfl⟩
            · exact .inl ⟨5, n, by omega, hn.1, hn.2, rfl⟩
            · exact .inl ⟨6, n, by omega, hn.1, hn.2, rfl⟩
            · exact .inl ⟨7, n, by omega, hn.1, hn.2, rfl⟩
            · exact .inl ⟨8, n, by omega, hn.1, hn.2, rfl⟩
          · rcases hb with hb | hb <;> rcases hc with hc | hc | hc | hc
            · exact bad 7 (by decide) (b3 7 2 0 0 rfl ha hb hc hd)
            · exact bad 8 (by decide) (b3 8 2 0 1 rfl ha hb hc hd)
            · exact bad 9 (by decide) (b3 9 2 0 2 rfl ha hb hc hd)
            · exact bad 10 (by decide) (b3 10 2 0 3 rfl ha hb hc hd)
            · exact bad 11 (by decide) (b3 11 2 1 0 rfl ha hb hc hd)
            · exact bad 12 (by decide) (b3 12 2 1 1 rfl ha hb hc hd)
            · exact bad 13 (by decide) (b3 13 2 1 2 rfl ha hb hc hd)
            · exact bad 14 (by decide) (b3 14 2 1 3 rfl ha hb hc hd)
        · rcases hb with hb | hb
          · exact bad 5 (by decide) (b2 5 2 0 rfl ha hb hc)
          · exact bad 6 (by decide) (b2 6 2 1 rfl ha hb hc)
      · exact bad 4 (by decide) (b1 4 2 rfl ha hb)
    · by_cases hb : b = 0
      · by_cases hc : 0 ≤ c ∧ c ≤ 2
        · have hc : c = 0 ∨ c = 1 ∨ c = 2 := by omega
          by_cases hd : d = 0
          · rcases hc with hc | hc | hc <;> rw [ha, hb, hc, hd]
            · exact .inl ⟨9, 1, by omega, by omega, by decide, rfl⟩
            · exact .inl ⟨10, 1, by omega, by omega, by decide, rfl⟩
            · exact .inl ⟨11, 1, by omega, by omega, by decide, rfl⟩
          · rcases hc with hc | hc | hc
            · exact bad 17 (by decide) (b3 17 3 0 0 rfl ha hb hc (by show ¬ ((0 : Int) ≤ d ∧ d ≤ 0); omega))
            · exact bad 18 (by decide) (b3 18 3 0 1 rfl ha hb hc (by show ¬ ((0 : Int) ≤ d ∧ d ≤ 0); omega))
            · exact bad 19 (by decide) (b3 19 3 0 2 rfl ha hb hc (by show ¬ ((0 : Int) ≤ d ∧ d ≤ 0); omega))
        · exact bad 16 (by decide) (b2 16 3 0 rfl ha hb hc)
      · exact bad 15 (by decide) (b1 15 3 rfl ha (by show ¬ ((0 : Int) ≤ b ∧ b ≤ 0); omega))
  · exact bad 0 (by decide) (b0 0 rfl ha)
/-- A feature's cells. -/
def litR (p : Nat) (v : Int) : List RV := if p = 0 then [lI 1, lI 0, lI 0, lI v]
  else if p < 5 then [lI 2, lI 0, lI ((p - 1 : Nat) : Int), lI v]
  else if p < 9 then [lI 2, lI 1, lI ((p - 5 : Nat) : Int), lI v]
  else [lI 3, lI 0, lI ((p - 9 : Nat) : Int), lI 0]
theorem litR_cv (V : Val) (p : Nat) (v : Int) : (litR p v).map (@cv V) = featC p v := by
  unfold litR featC
  split
  · rfl
  · split
    · rfl
    · split <;> rfl
theorem litR_flat (p : Nat) (v : Int) : (litR p v).all flat0 = true ∧ (litR p v).length = 4 := by
  unfold litR
  split
  · exact ⟨rfl, rfl⟩
  · split
    · exact ⟨rfl, rfl⟩
    · split <;> exact ⟨rfl, rfl⟩
def trip (p : Nat) (v : Nat) : RV := .tup [lI p, lI v, bR true]
noncomputable def locRun (p v : Nat) : Bool := match Nat.ble 1 v && Nat.blt v (vc p) with
  | true => runOK noX [] [] 4000 10 fLocate [.agg (litR p v)] (trip p v)
  | false => true
set_option maxRecDepth 100000 in
theorem loc_run : (allU 12 fun p => allU 5 fun v => locRun p v) = true := by kernel_rfl
noncomputable def locBad (j : Nat) (up : Bool) : Bool := runOK noX (bcT 0 (bc j) up) [] 4000 10 fLocate [.agg (bcR 0 (bc j))] (.tup [lI 0, lI 0, bR false])
set_option maxRecDepth 100000 in
theorem loc_bad : (allU 20 fun j => all2 fun up => locBad j up) = true := by kernel_rfl
end Go.Proofs.Z
