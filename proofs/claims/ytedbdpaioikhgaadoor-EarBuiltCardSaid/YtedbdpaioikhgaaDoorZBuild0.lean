/- A part of the proofs that the laws of layer one answer true for every input. -/
import Derived.Test.YtedbdpaioikhgaaDoorZLoc
namespace Go.Proofs.Z
open Go Go.RowKit Go.Proofs Go.Ri
def f4 (a b c d : Int) : Value := .agg #[.int .i64 a, .int .i64 b, .int .i64 c, .int .i64 d]
theorem loc_good (p v : Nat) (hp : p < 12) (h1 : 1 ≤ v) (h2 : v < vc p) : Ans fLocate [.agg (featC p v).toArray] (.tuple #[intV p, intV v, .bool true]) := by
  have hv5 : v < 5 := by
    unfold vc at h2
    split at h2
    · exact h2
    · split at h2 <;> omega
  have h := allU_lt (allU_lt loc_run p hp) v hv5
  unfold locRun at h
  rw [show (Nat.ble 1 v && Nat.blt v (vc p)) = true by simp [Nat.ble_eq_true_of_le h1, Nat.blt, Nat.ble_eq_true_of_le h2]] at h
  have := @ans V0 noX _ [] noX_true (by intro e he; cases he) (by intro e he; cases he) _ _ _ _ _ h
  rw [show [RV.agg (litR p v)].map (@cvF V0) = [.agg (featC p v).toArray] by
    show [Value.agg ((litR p v).map (@cv V0)).toArray] = _
    rw [litR_cv]] at this
  exact this
theorem bc_args (V : Val) (k : Nat) (q : BC) (a b c d : Int) (hq : isBC q a b c d) (h0 : V.I k = a) (h1 : V.I (k + 1) = b) (h2 : V.I (k + 2) = c) (h3 : V.I (k + 3) = d) : [RV.agg (bcR k q)].map (@cvF V) = [f4 a b c d] ∧ V.I (k + q.pre.length) = row4F a b c d q.pre.length := by
  obtain ⟨g1, g2, g3⟩ := hq
  have e : ∀ i (h : i < q.pre.length), row4F a b c d i = q.pre[i] := g1
  unfold bcR
  match hp : q.pre, g2 with
  | [], _ => exact ⟨by show [Value.agg #[.int .i64 (V.I k), .int .i64 (V.I (k + 1)), .int .i64 (V.I (k + 2)), .int .i64 (V.I (k + 3))]] = _; rw [h0, h1, h2, h3]; rfl, h0⟩
  | [x], _ =>
    have e0 : a = x := (by have := e 0 (by rw [hp]; simp); simpa [hp] using this : row4F a b c d 0 = x)
    exact ⟨by show [Value.agg #[.int .i64 x, .int .i64 (V.I (k + 1)), .int .i64 (V.I (k + 2)), .int .i64 (V.I (k + 3))]] = _; rw [h1, h2, h3, ← e0]; rfl, h1⟩
  | [x, y], _ =>
    have e0 : a = x := (by have := e 0 (by rw [hp]; simp); simpa [hp] using this : row4F a b c d 0 = x)
    have e1 : b = y := (by have := e 1 (by rw [hp]; simp); simpa [hp] using this : row4F a b c d 1 = y)
    exact ⟨by show [Value.agg #[.int .i64 x, .int .i64 y, .int .i64 (V.I (k + 2)), .int .i64 (V.I (k + 3))]] = _; rw [h2, h3, ← e0, ← e1]; rfl, h2⟩
  | [x, y, z], _ =>
    have e0 : a = x := (by have := e 0 (by rw [hp]; simp); simpa [hp] using this : row4F a b c d 0 = x)
    have e1 : b = y := (by have := e 1 (by rw [hp]; simp); simpa [hp] using this : row4F a b c d 1 = y)
    have e2 : c = z := (by have := e 2 (by rw [hp]; simp); simpa [hp] using this : row4F a b c d 2 = z)
    exact ⟨by show [Value.agg #[.int .i64 x, .int .i64 y, .int .i64 z, .int .i64 (V.I (k + 3))]] = _; rw [h3, ← e0, ← e1, ← e2]; rfl, h3⟩
  | _ :: _ :: _ :: _ :: l, h => simp at h; omega
theorem bc_lh (j : Nat) (hj : j < 20) : (bc j).lo ≤ (bc j).hi := by
  have : ∀ j, j < 20 → decide ((bc j).lo ≤ (bc j).hi) = true := by decide
  exact of_decide_eq_true (this j hj)
theorem loc_none (a b c d : Int) (j : Nat) (hj : j < 20) (hq : isBC (bc j) a b c d) : Ans fLocate [f4 a b c d] (.tuple #[intV 0, intV 0, .bool false]) := by
  let V := VE (row4F a b c d) fun _ => false
  obtain ⟨h1, h2⟩ := bc_args V 0 (bc j) a b c d hq rfl rfl rfl rfl
  have hT := @bcT_true V 0 (bc j) (bc_lh j hj) (by rw [Nat.zero_add] at h2 ⊢; rw [h2]; exact hq.2.2)
  have := @ans V noX _ [] noX_true hT (by intro e he; cases he) _ _ _ _ _ (all2_all (allU_lt loc_bad j hj) _)
  rw [h1] at this
  exact this
/-! What a list of features builds. -/
def upd (s : Nat → Int) (p : Nat) (v : Int) : Nat → Int := fun i => if i = p then v else s i
def goodF (f : List Value) : Prop := ∃ p v, p < 12 ∧ 1 ≤ v ∧ v < vc p ∧ f = featC p (v : Nat)
def badF (f : List Value) : Prop := ∃ a b c d j, f = [.int .i64 a, .int .i64 b, .int .i64 c, .int .i64 d] ∧ j < 20 ∧ isBC (bc j) a b c d
open Classical in
/-- The place and the value that a row of four tells. -/
noncomputable def dec (f : List Value) : Option (Nat × Nat) :=
  if badF f then none else if h : goodF f then some (Classical.choose h, Classical.choose (Classical.choose_spec h)) else none
def fiL (p v : Nat) : List Int := if p = 0 then [1, 0, 0, v] else if p < 5 then [2, 0, ((p - 1 : Nat) : Int), v] else if p < 9 then [2, 1, ((p - 5 : Nat) : Int), v] else [3, 0, ((p - 9 : Nat) : Int), 0]
theorem fiL_map (p v : Nat) : (featC p v).map intOf = fiL p v := by
  unfold featC fiL
  split
  · rfl
  · split
    · rfl
    · split <;> rfl
theorem fiL_inj : (allU 12 fun p => allU 12 fun p' => allU 5 fun v => allU 5 fun v' => !(Nat.ble 1 v && Nat.blt v (vc p) && Nat.ble 1 v' && Nat.blt v' (vc p') && fiL p v == fiL p' v') || (Nat.beq p p' && Nat.beq v v')) = true := by kernel_rfl
theorem vc5 {p v : Nat} (h : v < vc p) : v < 5 := by
  unfold vc at h
  split at h
  · exact h
  · split at h <;> omega
theorem blt_of {a b : Nat} (h : a < b) : Nat.blt a b = true := Nat.ble_eq_true_of_le h
theorem featC_inj {p p' v v' : Nat} (hp : p < 12) (hp' : p' < 12) (h1 : 1 ≤ v) (h2 : v < vc p) (h1' : 1 ≤ v') (h2' : v' < vc p') (h : featC p v = featC p' v') : p = p' ∧ v = v' := by
  have := allU_lt (allU_lt (allU_lt (allU_lt fiL_inj p hp) p' hp') v (vc5 h2)) v' (vc5 h2')
  have e : fiL p v = fiL p' v' := by rw [← fiL_map, ← fiL_map, h]
  rw [Nat.ble_eq_true_of_le h1, blt_of h2, Nat.ble_eq_true_of_le h1', blt_of h2', e] at this
  simp at this
  exact this
theorem dec_some {p v : Nat} (hp : p < 12) (h1 : 1 ≤ v) (h2 : v < vc p) (hb : ¬ badF (featC p v)) : dec (featC p v) = some (p, v) := by
  unfold dec
  rw [if_neg hb]
  have h : goodF (featC p v) := ⟨p, v, hp, h1, h2, rfl⟩
  rw [dif_pos h]
  have hs := Classical.choose_spec (Classical.choose_spec h)
  obtain ⟨e1, e2⟩ := featC_inj hs.1 hp hs.2.1 hs.2.2.1 h1 h2 hs.2.2.2.symm
  rw [e2, e1]
theorem dec_none {f : List Value} (h : badF f) : dec f = none := by
  unfold dec
  rw [if_pos h]
def row (l : List Value) (i : Nat) : List Value := (l.drop (i * 4)).take 4
noncomputable def bldS (s : Nat → Int) (f : List Value) : Option (Nat → Int) := match dec f with
  | some (p, v) => if s p = 0 then some (upd s p v) else none
  | none => none
noncomputable def bld (l : List Value) : Nat → Option (Nat → Int)
  | 0 => some fun _ => 0
  | i + 1 => match bld l i with
    | some s => bldS s (row l i)
    | none => none
theorem bld_none (l : List Value) (i : Nat) (h : bld l i = none) : ∀ n, i ≤ n → bld l n = none
  | 0, hn => by
    obtain rfl : i = 0 := by omega
    exact h
  | n + 1, hn => by
    rcases Nat.eq_or_lt_of_le hn with rfl | hlt
    · exact h
    · show (match bld l n with | some s => bldS s (row l n) | none => none) = none
      rw [bld_none l i h n (by omega)]
def zE : Value := earF (fun _ => 0) fun _ => false
def earX (s : Nat → Int) : Nat → Int := s
def earY (s : Nat → Int) : Nat → Bool := fun i => !(s (9 + i) == 0)
/-- What Build answers. -/
noncomputable def bV (o : Option (Nat → Int)) : Value := match o with
  | none => .tuple #[zE, intV 11]
  | some s => if valB s then .tuple #[earF s (earY s), intV 0] else .tuple #[zE, intV 10]
end Go.Proofs.Z
