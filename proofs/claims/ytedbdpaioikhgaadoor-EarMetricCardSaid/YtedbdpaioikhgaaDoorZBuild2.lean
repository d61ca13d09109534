/- A part of the proofs that the laws of layer one answer true for every input. -/
import Derived.Test.YtedbdpaioikhgaaDoorZLoc
namespace Go.Proofs.Z
open Go Go.RowKit Go.Proofs Go.Ri
def f4 (a b c d : Int) : Value := .agg #[.int .i64 a, .int .i64 b, .int .i64 c, .int .i64 d]
theorem loc_good (p v : Nat) (hp : p < 12) (h1 : 1 ≤ v) (h2 : v < vc p) : Ans fLocate [.agg (featC p v).toArray] (.tuple #[intV p, intV v, .bool true]) := by
  have hv5 : v < 5 := by
    unfold vc at h2
    split at h2
    · exact h2
    · split at h2 <;> omega
  have h := allU_lt (allU_lt loc_run p hp) v hv5
  unfold locRun at h
  rw [show (Nat.ble 1 v && Nat.blt v (vc p)) = true by simp [Nat.ble_eq_true_of_le h1, Nat.blt, Nat.ble_eq_true_of_le h2]] at h
  have := @ans V0 noX _ [] noX_true (by intro e he; cases he) (by intro e he; cases he) _ _ _ _ _ h
  rw [show [RV.agg (litR p v)].map (@cvF V0) = [.agg (featC p v).toArray] by
    show [Value.agg ((litR p v).map (@cv V0)).toArray] = _
    rw [litR_cv]] at this
  exact this
theorem bc_args (V : Val) (k : Nat) (q : BC) (a b c d : Int) (hq : isBC q a b c d) (h0 : V.I k = a) (h1 : V.I (k + 1) = b) (h2 : V.I (k + 2) = c) (h3 : V.I (k + 3) = d) : [RV.agg (bcR k q)].map (@cvF V) = [f4 a b c d] ∧ V.I (k + q.pre.length) = row4F a b c d q.pre.length := by
  obtain ⟨g1, g2, g3⟩ := hq
  have e : ∀ i (h : i < q.pre.length), row4F a b c d i = q.pre[i] := g1
  unfold bcR
  match hp : q.pre, g2 with
  | [], _ => exact ⟨by show [Value.agg #[.int .i64 (V.I k), .int .i64 (V.I (k + 1)), .int .i64 (V.I (k + 2)), .int .i64 (V.I (k + 3))]] = _; rw [h0, h1, h2, h3]; rfl, h0⟩
  | [x], _ =>
    have e0 : a = x := (by have := e 0 (by rw [hp]; simp); simpa [hp] using this : row4F a b c d 0 = x)
    exact ⟨by show [Value.agg #[.int .i64 x, .int .i64 (V.I (k + 1)), .int .i64 (V.I (k + 2)), .int .i64 (V.I (k + 3))]] = _; rw [h1, h2, h3, ← e0]; rfl, h1⟩
  | [x, y], _ =>
    have e0 : a = x := (by have := e 0 (by rw [hp]; simp); simpa [hp] using this : row4F a b c d 0 = x)
    have e1 : b = y := (by have := e 1 (by rw [hp]; simp); simpa [hp] using this : row4F a b c d 1 = y)
    exact ⟨by show [Value.agg #[.int .i64 x, .int .i64 y, .int .i64 (V.I (k + 2)), .int .i64 (V.I (k + 3))]] = _; rw [h2, h3, ← e0, ← e1]; rfl, h2⟩
  | [x, y, z], _ =>
    have e0 : a = x := (by have := e 0 (by rw [hp]; simp); simpa [hp] using this : row4F a b c d 0 = x)
    have e1 : b = y := (by have := e 1 (by rw [hp]; simp); simpa [hp] using this : row4F a b c d 1 = y)
    have e2 : c = z := (by have := e 2 (by rw [hp]; simp); simpa [hp] using this : row4F a b c d 2 = z)
    exact ⟨by show [Value.agg #[.int .i64 x, .int .i64 y, .int .i64 z, .int .i64 (V.I (k + 3))]] = _; rw [h3, ← e0, ← e1, ← e2]; rfl, h3⟩
  | _ :: _ :: _ :: _ :: l, h => simp at h; omega
theorem bc_lh (j : Nat) (hj : j < 20) : (bc j).lo ≤ (bc j).hi := by
  have : ∀ j, j < 20 → decide ((bc j).lo ≤ (bc j).hi) = true := by decide
  exact of_decide_eq_true (this j hj)
theorem loc_none (a b c d : Int) (j : Nat) (hj : j < 20) (hq : isBC (bc j) a b c d) : Ans fLocate [f4 a b c d] (.tuple #[intV 0, intV 0, .bool false]) := by
  let V := VE (row4F a b c d) fun _ => false
  obtain ⟨h1, h2⟩ := bc_args V 0 (bc j) a b c d hq rfl rfl rfl rfl
  have hT := @bcT_true V 0 (bc j) (bc_lh j hj) (by rw [Nat.zero_add] at h2 ⊢; rw [h2]; exact hq.2.2)
  have := @ans V noX _ [] noX_true hT (by intro e he; cases he) _ _ _ _ _ (all2_all (allU_lt loc_bad j hj) _)
  rw [h1] at this
  exact this
/-! What a list of features builds. -/
def upd (s : Nat → Int) (p : Nat) (v : Int) : Nat → Int := fun i => if i = p then v else s i
def goodF (f : List Value) : Prop := ∃ p v, p < 12 ∧ 1 ≤ v ∧ v < vc p ∧ f = featC p (v : Nat)
def badF (f : List Value) : Prop := ∃ a b c d j, f = [.int .i64 a, .int .i64 b, .int .i64 c, .int .i64 d] ∧ j < 20 ∧ isBC (bc j) a b c d
open Classical in
/-- The place and the value that a row of four tells. -/
noncomputable def dec (f : List Value) : Option (Nat × Nat) :=
  if badF f then none else if h : goodF f then some (Classical.choose h, Classical.choose (Classical.choose_spec h)) else none
def fiL (p v : Nat) : List Int := if p = 0 then [1, 0, 0, v] else if p < 5 then [2, 0, ((p - 1 : Nat) : Int), v] else if p < 9 then [2, 1, ((p - 5 : Nat) : Int), v] else [3, 0, ((p - 9 : Nat) : Int), 0]
theorem fiL_map (p v : Nat) : (featC p v).map intOf = fiL p v := by
  unfold featC fiL
  split
  · rfl
  · split
    · rfl
    · split <;> rfl
theorem fiL_inj : (allU 12 fun p => allU 12 fun p' => allU 5 fun v => allU 5 fun v' => !(Nat.ble 1 v && Nat.blt v (vc p) && Nat.ble 1 v' && Nat.blt v' (vc p') && fiL p v == fiL p' v') || (Nat.beq p p' && Nat.beq v v')) = true := by kernel_rfl
theorem vc5 {p v : Nat} (h : v < vc p) : v < 5 := by
  unfold vc at h
  split at h
  · exact h
  · split at h <;> omega
theorem blt_of {a b : Nat} (h : a < b) : Nat.blt a b = true := Nat.ble_eq_true_of_le h
theorem featC_inj {p p' v v' : Nat} (hp : p < 12) (hp' : p' < 12) (h1 : 1 ≤ v) (h2 : v < vc p) (h1' : 1 ≤ v') (h2' : v' < vc p') (h : featC p v = featC p' v') : p = p' ∧ v = v' := by
  have := allU_lt (allU_lt (allU_lt (allU_lt fiL_inj p hp) p' hp') v (vc5 h2)) v' (vc5 h2')
  have e : fiL p v = fiL p' v' := by rw [← fiL_map, ← fiL_map, h]
  rw [Nat.ble_eq_true_of_le h1, blt_of h2, Nat.ble_eq_true_of_le h1', blt_of h2', e] at this
  simp at this
  exact this
theorem dec_some {p v : Nat} (hp : p < 12) (h1 : 1 ≤ v) (h2 : v < vc p) (hb : ¬ badF (featC p v)) : dec (featC p v) = some (p, v) := by
  unfold dec
  rw [if_neg hb]
  have h : goodF (featC p v) := ⟨p, v, hp, h1, h2, rfl⟩
  rw [dif_pos h]
  have hs := Classical.choose_spec (Classical.choose_spec h)
  obtain ⟨e1, e2⟩ := featC_inj hs.1 hp hs.2.1 hs.2.2.1 h1 h2 hs.2.2.2.symm
  rw [e2, e1]
theorem dec_none {f : List Value} (h : badF f) : dec f = none := by
  unfold dec
  rw [if_pos h]
def row (l : List Value) (i : Nat) : List Value := (l.drop (i * 4)).take 4
noncomputable def bldS (s : Nat → Int) (f : List Value) : Option (Nat → Int) := match dec f with
  | some (p, v) => if s p = 0 then some (upd s p v) else none
  | none => none
noncomputable def bld (l : List Value) : Nat → Option (Nat → Int)
  | 0 => some fun _ => 0
  | i + 1 => match bld l i with
    | some s => bldS s (row l i)
    | none => none
theorem bld_none (l : List Value) (i : Nat) (h : bld l i = none) : ∀ n, i ≤ n → bld l n = none
  | 0, hn => by
    obtain rfl : i = 0 := by omega
    exact h
  | n + 1, hn => by
    rcases Nat.eq_or_lt_of_le hn with rfl | hlt
    · exact h
    · show (match bld l n with | some s => bldS s (row l n) | none => none) = none
      rw [bld_none l i h n (by omega)]
def zE : Value := earF (fun _ => 0) fun _ => false
def earX (s : Nat → Int) : Nat → Int := s
def earY (s : Nat → Int) : Nat → Bool := fun i => !(s (9 + i) == 0)
/-- What Build answers. -/
noncomputable def bV (o : Option (Nat → Int)) : Value := match o with
  | none => .tuple #[zE, intV 11]
  | some s => if valB s then .tuple #[earF s (earY s), intV 0] else .tuple #[zE, intV 10]
end Go.Proofs.Z

namespace Go.Proofs.Z
open Go Go.RowKit Go.Proofs Go.Ri
/-! Build of package ear: its runs. -/
def wl : List Int := [0, 0, 0, 0, 0, 0, 0, 0, 0]
def zEL : List Value := [.int .i64 0, .int .i64 0, .int .i64 0, .int .i64 0, .int .i64 0, .int .i64 0, .int .i64 0, .int .i64 0, .int .i64 0, .bool false, .bool false, .bool false]
def shapeL : List RV := [sI 20, sI 21, sI 22, sI 23, sI 24, sI 25, sI 26, sI 27, sI 28, sI 29, sI 30, sI 31]
def cell4 : List RV := [sI 2, sI 3, sI 4, sI 5]
def bds : List RV := [.slN 0 0 4]
noncomputable def bpat (_ : Unit) : St := ⟨patW [(12, .slA 0 0 4), (13, sI 1), (14, sI 0), (2, .ptr 1 0), (3, lI 0), (4, .ptr 2 0)] 46 0,
  [some (.lstA 0), some (.cells (zEL.map .pl) 25 false false), some (.cells shapeL 86 false false)]⟩
def bBase (b : Bool) : List TE := [⟨.bin .lss, sI 0, sI 1, bR b⟩, ⟨.inb, sI 0, sI 1, bR b⟩, ⟨.bin .add, sI 0, lI 1, sI 6⟩]
noncomputable def bGood (p v : Nat) (z : Bool) : Tb := { LL := [⟨0, 4, sI 1⟩], T := ⟨.ieq, sI (20 + p), lI 0, bR z⟩ :: bBase true, LX := [⟨0, 0, litR p v⟩], Y := [⟨fLocate, [.agg (litR p v)], trip p v⟩] }
noncomputable def bBad : Tb := { LL := [⟨0, 4, sI 1⟩], T := bBase true, LX := [⟨0, 0, cell4⟩], Y := [⟨fLocate, [.agg cell4], .tup [lI 0, lI 0, bR false]⟩] }
def bitT (b0 b1 b2 : Bool) : List TE := [⟨.ieq, sI 29, lI 0, bR (!b0)⟩, ⟨.ieq, sI 30, lI 0, bR (!b1)⟩, ⟨.ieq, sI 31, lI 0, bR (!b2)⟩]
def bEarR (b0 b1 b2 : Bool) : RV := .agg [sI 20, sI 21, sI 22, sI 23, sI 24, sI 25, sI 26, sI 27, sI 28, bR b0, bR b1, bR b2]
noncomputable def bEnd (b0 b1 b2 ok : Bool) : Tb := { LL := [⟨0, 4, sI 1⟩], T := bitT b0 b1 b2 ++ bBase false, Y := [⟨fCheck, [bEarR b0 b1 b2], lI (if ok then 0 else 10)⟩] }
noncomputable def bStart : Tb := { LL := [⟨0, 4, sI 1⟩] }
def bIds (p v : Nat) : List SE := .int 0 (sI 6) :: .int 1 (sI 1) :: .lst 0 0 :: .int (20 + p) (lI v) :: idI (fids.filter fun j => !(Nat.beq j (20 + p)))
def errR (n : Int) : RV := .pl (.tuple #[.agg zEL.toArray, .int .i64 n])
def bSIds : List SE := .int 0 (lI 0) :: .int 1 (sI 1) :: .lst 0 0 :: fids.map fun j => .int j (lI 0)
set_option maxRecDepth 100000 in
theorem b_enter : enterT bStart [] fBuild bds bSIds [0, 1, 2] (bpat ()) = true := by kernel_rfl
noncomputable def bAgain (p v : Nat) : Bool := match Nat.ble 1 v && Nat.blt v (vc p) with
  | true => againT (bGood p v true) [] (hB bStart [] fBuild bds) (hK bStart [] fBuild bds) (bpat ()) (bIds p v) [0, 1, 2] (bpat ())
  | false => true
noncomputable def bTwice (p v : Nat) : Bool := match Nat.ble 1 v && Nat.blt v (vc p) with
  | true => outF (bGood p v false) [] fBuild (hB bStart [] fBuild bds) (hK bStart [] fBuild bds) (bpat ()) (errR 11)
  | false => true
set_option maxRecDepth 100000 in
theorem b_again : (allU 12 fun p => allU 5 fun v => bAgain p v) = true := by kernel_rfl
set_option maxRecDepth 100000 in
theorem b_twice : (allU 12 fun p => allU 5 fun v => bTwice p v) = true := by kernel_rfl
set_option maxRecDepth 100000 in
theorem b_bad : outF bBad [] fBuild (hB bStart [] fBuild bds) (hK bStart [] fBuild bds) (bpat ()) (errR 11) = true := by kernel_rfl
noncomputable def bOut (ok b0 b1 b2 : Bool) : Bool := outF (bEnd b0 b1 b2 ok) [] fBuild (hB bStart [] fBuild bds) (hK bStart [] fBuild bds) (bpat ()) (if ok then .tup [bEarR b0 b1 b2, lI 0] else errR 10)
set_option maxRecDepth 100000 in
theorem b_out : (all2 fun ok => all2 fun b0 => all2 fun b1 => all2 fun b2 => bOut ok b0 b1 b2) = true := by kernel_rfl
end Go.Proofs.Z

namespace Go.Proofs.Z
open Go Go.RowKit Go.Proofs Go.Ri
/-- The names in Build: the number, the length, an element's cells, the next number, the row so far. -/
noncomputable def bnm (l : List Value) (n i : Nat) (s : Nat → Int) : Nm := ⟨fun j => if j = 0 then i else if j = 1 then n else if j < 6 then intOf (l.getD (i * 4 + (j - 2)) undef) else if j = 6 then (i : Int) + 1 else s (j - 20), fun _ => false, fun _ => ⟨#[]⟩, fun _ => l⟩
theorem row_eq {l : List Value} (hl : ints l) (i : Nat) (h : i * 4 + 4 ≤ l.length) : row l i = [.int .i64 (intOf (l.getD (i * 4) undef)), .int .i64 (intOf (l.getD (i * 4 + 1) undef)), .int .i64 (intOf (l.getD (i * 4 + 2) undef)), .int .i64 (intOf (l.getD (i * 4 + 3) undef))] := row4 hl i h
section
variable {l : List Value} {n : Nat} (hl : ints l) (hn : l.length = n * 4) (hb : n ≤ 1000000)
include hn in
theorem bLL (i : Nat) (s : Nat → Int) (W : Nat → Value) : ∀ e, e ∈ ([⟨0, 4, sI 1⟩] : List LNE) → @LLTrue ((bnm l n i s).val W) e := by
  intro e he
  simp only [List.mem_cons, List.not_mem_nil, or_false] at he
  subst he
  exact ⟨rfl, n, Nat.succ_pos 3, hn, rfl⟩
include hb in
theorem bBase_true (i : Nat) (hi : i ≤ n) (s : Nat → Int) (W : Nat → Value) (b : Bool) (hbb : b = decide (i < n)) : ∀ e, e ∈ bBase b → @TETrue ((bnm l n i s).val W) e := by
  letI : Val := (bnm l n i s).val W
  intro e he
  simp only [bBase, List.mem_cons, List.not_mem_nil, or_false] at he
  rcases he with rfl | rfl | rfl
  · refine te_lss 0 1 b ?_
    show decide ((i : Int) < (n : Int)) = b
    rw [hbb]
    simp
  · refine te_inb 0 1 b ?_
    show decide (0 ≤ (i : Int) ∧ (i : Int) < (n : Int)) = b
    rw [hbb]
    simp
  · exact te_add1 0 6 i rfl rfl (by omega) (by omega)
include hn hb in
theorem bGood_ok (i : Nat) (hi : i < n) (s : Nat → Int) (W : Nat → Value) (p v : Nat) (hp : p < 12) (h1 : 1 ≤ v) (h2 : v < vc p) (hrow : row l i = featC p v) : @TbOK ((bnm l n i s).val W) (bGood p v (s p == 0)) := by
  letI : Val := (bnm l n i s).val W
  refine { LL := bLL hn i s W, T := ?_, LX := ?_, Y := ?_ }
  · intro e he
    simp only [bGood, List.mem_cons] at he
    rcases he with rfl | he
    · refine ⟨rfl, ?_⟩
      have e1 : Val.I (20 + p) = s p := by
        show (if 20 + p = 0 then _ else if 20 + p = 1 then _ else if 20 + p < 6 then _ else if 20 + p = 6 then _ else s (20 + p - 20)) = _
        rw [if_neg (by omega), if_neg (by omega), if_neg (by omega), if_neg (by omega), Nat.add_sub_cancel_left]
      show TCTrue .ieq (.int .i64 (Val.I (20 + p))) _ _
      rw [e1]
      exact t_ieq .i64 (s p) 0
    · exact bBase_true hb i (Nat.le_of_lt hi) s W true (by simp [hi]) e he
  · intro e he
    simp only [bGood, List.mem_cons, List.not_mem_nil, or_false] at he
    subst he
    have := loc_good p v hp h1 h2
    show Ans fLocate [Value.agg ((litR p v).map cv).toArray] _
    rw [litR_cv]
    exact this
  · intro e he
    simp only [bGood, List.mem_cons, List.not_mem_nil, or_false] at he
    subst he
    obtain ⟨g1, g2⟩ := litR_flat p v
    refine ⟨g1, ?_, ?_⟩
    · show ((i : Int)).toNat * (litR p v).length + (litR p v).length ≤ l.length
      rw [g2, Int.toNat_natCast]
      omega
    · show (l.drop (((i : Int)).toNat * (litR p v).length)).take (litR p v).length = _
      rw [g2, Int.toNat_natCast, litR_cv]
      exact hrow
include hl hn hb in
theorem bBad_ok (i : Nat) (hi : i < n) (s : Nat → Int) (W : Nat → Value) (hrow : badF (row l i)) : @TbOK ((bnm l n i s).val W) bBad := by
  letI : Val := (bnm l n i s).val W
  have h4 : i * 4 + 4 ≤ l.length := by omega
  have hr := row_eq hl i h4
  refine { LL := bLL hn i s W, T := ?_, LX := ?_, Y := ?_ }
  · exact bBase_true hb i (Nat.le_of_lt hi) s W true (by simp [hi])
  · intro e he
    simp only [bBad, List.mem_cons, List.not_mem_nil, or_false] at he
    subst he
    obtain ⟨a, b, c, d, j, e1, hj, hq⟩ := hrow
    have := loc_none a b c d j hj hq
    rw [e1] at hr
    have e2 : ([Value.int .i64 a, .int .i64 b, .int .i64 c, .int .i64 d] : List Value) = cell4.map (@cv ((bnm l n i s).val W)) := hr
    show Ans fLocate [Value.agg (cell4.map cv).toArray] _
    rw [← e2]
    exact this
  · intro e he
    simp only [bBad, List.mem_cons, List.not_mem_nil, or_false] at he
    subst he
    refine ⟨rfl, ?_, ?_⟩
    · show ((i : Int)).toNat * 4 + 4 ≤ l.length
      rw [Int.toNat_natCast]
      exact h4
    · show (l.drop (((i : Int)).toNat * 4)).take 4 = _
      rw [Int.toNat_natCast]
      exact hr
end
theorem zE_eq : (Value.agg zEL.toArray) = zE := rfl
theorem good_or {l : List Value} (hl : ints l) (i : Nat) (h : i * 4 + 4 ≤ l.length) : badF (row l i) ∨ ∃ p v, p < 12 ∧ 1 ≤ v ∧ v < vc p ∧ row l i = featC p (v : Nat) := by
  rw [row_eq hl i h]
  rcases feat_or (intOf (l.getD (i * 4) undef)) (intOf (l.getD (i * 4 + 1) undef)) (intOf (l.getD (i * 4 + 2) undef)) (intOf (l.getD (i * 4 + 3) undef)) with h | ⟨j, hj, hq⟩
  · exact .inr h
  · exact .inl ⟨_, _, _, _, j, rfl, hj, hq⟩
theorem build_ans (V : Val) (l : List Value) (hL : V.L 0 = l) (hl : ints l) (n : Nat) (hn : l.length = n * 4) (hb : n ≤ 1000000) : @AnsN V fBuild bds (bV (bld l n)) := by
  intro w hr vs hv
  refine fn_loop (κ := Unit) (bnm l n 0 fun _ => 0) (fun _ => undef) bStart [] fBuild bds bpat (fun m _ c => ∃ i s, i ≤ n ∧ m = n - i ∧ bld l i = some s ∧ c = bnm l n i s) ?_ bSIds [0, 1, 2] () n b_enter (bnm l n 0 fun _ => 0) ?_ ⟨0, fun _ => 0, Nat.zero_le _, rfl, rfl, rfl⟩ (DF (bV (bld l n))) ?_ w hr vs ?_
  · letI : Val := (bnm l n 0 fun _ => 0).val fun _ => undef
    exact { LL := bLL hn 0 (fun _ => 0) _ }
  · intro W'
    refine holds_all fun e he => ?_
    simp only [bSIds, fids, List.map_cons, List.map_nil, List.mem_cons, List.not_mem_nil, or_false] at he
    rcases he with rfl | rfl | rfl | rfl | rfl | rfl | rfl | rfl | rfl | rfl | rfl | rfl | rfl | rfl | rfl
    · exact ⟨.i64, 0, rfl, rfl⟩
    · exact ⟨.i64, n, rfl, rfl⟩
    · rfl
    all_goals exact ⟨.i64, 0, rfl, rfl⟩
  · rintro w m k c ⟨i, s, hi, rfl, hs, rfl⟩ W
    by_cases hlt : i < n
    · have h4 : i * 4 + 4 ≤ l.length := by omega
      have hnext : bld l (i + 1) = bldS s (row l i) := by
        show (match bld l i with | some s => bldS s (row l i) | none => none) = _
        rw [hs]
      have stop : bldS s (row l i) = none → @cvF ((bnm l n i s).val W) (errR 11) = bV (bld l n) := fun h => by
        rw [bld_none l (i + 1) (hnext.trans h) n hlt]
        rfl
      rcases Classical.em (badF (row l i)) with hbad | hbad
      · refine step_outF bBad [] (bBad_ok hl hn hb i hlt s W hbad) (errR 11) b_bad (stop ?_)
        unfold bldS
        rw [dec_none hbad]
      · rcases good_or hl i h4 with h | ⟨p, v, hp, h1, h2, hrow⟩
        · exact absurd h hbad
        · have hd : dec (row l i) = some (p, v) := by
            rw [hrow] at hbad ⊢
            exact dec_some hp h1 h2 hbad
          have hc : (Nat.ble 1 v && Nat.blt v (vc p)) = true := by rw [Nat.ble_eq_true_of_le h1, blt_of h2]; rfl
          by_cases hz : s p = 0
          · have hstep : bldS s (row l i) = some (upd s p v) := by
              unfold bldS
              rw [hd]
              show (if s p = 0 then some (upd s p v) else none) = _
              rw [if_pos hz]
            have hrun := allU_lt (allU_lt b_again p hp) v (vc5 h2)
            unfold bAgain at hrun
            rw [hc] at hrun
            have htb := bGood_ok hn hb i hlt s W p v hp h1 h2 hrow
            rw [show (s p == 0) = true by simp [hz]] at htb
            refine step_to (bGood p v true) [] htb (bIds p v) [0, 1, 2] () (bnm l n (i + 1) (upd s p v)) hrun ?_ ⟨n - (i + 1), by omega, i + 1, upd s p v, hlt, rfl, hnext.trans hstep, rfl⟩
            intro W'
            have hcell : ∀ j, j < 12 → j ≠ p → (bnm l n (i + 1) (upd s p v)).I (20 + j) = (bnm l n i s).I (20 + j) := by
              intro j hj hne
              show (if 20 + j = 0 then _ else if 20 + j = 1 then _ else if 20 + j < 6 then _ else if 20 + j = 6 then _ else upd s p v (20 + j - 20)) = (if 20 + j = 0 then _ else if 20 + j = 1 then _ else if 20 + j < 6 then _ else if 20 + j = 6 then _ else s (20 + j - 20))
              rw [if_neg (by omega), if_neg (by omega), if_neg (by omega), if_neg (by omega), if_neg (by omega), if_neg (by omega), if_neg (by omega), if_neg (by omega), Nat.add_sub_cancel_left]
              unfold upd
              rw [if_neg hne]
            have hpv : (bnm l n (i + 1) (upd s p v)).I (20 + p) = v := by
              show (if 20 + p = 0 then _ else if 20 + p = 1 then _ else if 20 + p < 6 then _ else if 20 + p = 6 then _ else upd s p v (20 + p - 20)) = _
              rw [if_neg (by omega), if_neg (by omega), if_neg (by omega), if_neg (by omega), Nat.add_sub_cancel_left]
              unfold upd
              rw [if_pos rfl]
            refine holds_all fun e he => ?_
            simp only [bIds, idI, List.mem_cons, List.mem_map, List.mem_filter] at he
            rcases he with rfl | rfl | rfl | rfl | ⟨j, ⟨hj, hjp⟩, rfl⟩
            · exact ⟨.i64, (i : Int) + 1, rfl, rfl⟩
            · exact ⟨.i64, n, rfl, rfl⟩
            · rfl
            · exact ⟨.i64, v, rfl, hpv⟩
            · obtain ⟨q, hq, rfl⟩ : ∃ q, q < 12 ∧ j = 20 + q := by
                simp only [fids, List.mem_cons, List.not_mem_nil, or_false] at hj
                exact ⟨j - 20, by omega, by omega⟩
              have hqp : q ≠ p := by
                rintro rfl
                simp at hjp
              exact ⟨.i64, _, rfl, hcell q hq hqp⟩
          · have hstep : bldS s (row l i) = none := by
              unfold bldS
              rw [hd]
              show (if s p = 0 then some (upd s p v) else none) = _
              rw [if_neg hz]
            have hrun := allU_lt (allU_lt b_twice p hp) v (vc5 h2)
            unfold bTwice at hrun
            rw [hc] at hrun
            have htb := bGood_ok hn hb i hlt s W p v hp h1 h2 hrow
            rw [show (s p == 0) = false by simpa using hz] at htb
            exact step_outF (bGood p v false) [] htb (errR 11) hrun (stop hstep)
    · obtain rfl : i = n := by omega
      rw [hs]
      have ht : @TbOK ((bnm l i i s).val W) (bEnd (earY s 0) (earY s 1) (earY s 2) (valB s)) := by
        letI : Val := (bnm l i i s).val W
        refine { LL := bLL hn i s W, T := ?_, Y := ?_ }
        · intro e he
          simp only [bEnd, List.mem_append] at he
          rcases he with he | he
          · simp only [bitT, List.mem_cons, List.not_mem_nil, or_false] at he
            rcases he with rfl | rfl | rfl
            · exact ⟨rfl, by show TCTrue .ieq (.int .i64 (s 9)) (.int .i64 0) (.bool !!(s 9 == 0)); rw [Bool.not_not]; exact t_ieq .i64 (s 9) 0⟩
            · exact ⟨rfl, by show TCTrue .ieq (.int .i64 (s 10)) (.int .i64 0) (.bool !!(s 10 == 0)); rw [Bool.not_not]; exact t_ieq .i64 (s 10) 0⟩
            · exact ⟨rfl, by show TCTrue .ieq (.int .i64 (s 11)) (.int .i64 0) (.bool !!(s 11 == 0)); rw [Bool.not_not]; exact t_ieq .i64 (s 11) 0⟩
          · exact bBase_true hb i (Nat.le_refl _) s W false (by simp) e he
        · intro e he
          simp only [bEnd, List.mem_cons, List.not_mem_nil, or_false] at he
          subst he
          have := chk_ans s (earY s)
          cases hvb : valB s <;> rw [hvb] at this <;> exact this
      have ho := all2_all (all2_all (all2_all (all2_all b_out (valB s)) (earY s 0)) (earY s 1)) (earY s 2)
      refine step_outF _ [] ht _ ho ?_
      cases hvb : valB s
      · show _ = (if valB s then _ else _)
        rw [hvb]
        rfl
      · show _ = (if valB s then _ else _)
        rw [hvb]
        rfl
  · cases hv with
    | cons h1 h2 =>
      cases h2
      obtain ⟨a, m, cap, g1, g2, g3, g4, g5, g6⟩ := h1
      rw [hL] at g2 g4 g6
      exact .cons ⟨a, m, cap, g1, g2, g3, g4, g5, g6⟩ .nil
end Go.Proofs.Z
