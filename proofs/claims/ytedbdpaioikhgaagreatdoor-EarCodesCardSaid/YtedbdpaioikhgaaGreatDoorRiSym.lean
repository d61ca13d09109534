/- An interpreter for calls whose arguments are closed or names, and its soundness: a part of the proofs. -/
import Derived.Test.YtedbdpaioikhgaaGreatDoorRiS15
/-! Tables of what is known, for calls with names. -/
namespace Go.Ri
open Go Go.RowKit

/-- No names. -/
abbrev V0 : Val := ⟨fun _ => 0, fun _ => false, fun _ => ⟨#[]⟩, fun _ => ⟨.int .i64 0, rfl⟩⟩

noncomputable def eqSL (e : RV → RV → Bool) (l : List RV) : List RV → Bool :=
  List.rec (motive := fun _ => List RV → Bool) (fun m => match m with | [] => true | _ => false) (fun x _ ih m => match m with | [] => false | y :: m => match e x y with | true => ih m | false => false) l
noncomputable def eqF1 (x y : RV) : Bool :=
  match x, y with
  | .agg l, .agg m => eqSL eqS l m
  | .agg l, .pl (.agg vs) => eqSL eqS l (vs.toList.map .pl)
  | .pl (.agg us), .agg m => eqSL eqS (us.toList.map .pl) m
  | .pl (.agg us), .pl (.agg vs) => eqSL eqS (us.toList.map .pl) (vs.toList.map .pl)
  | x, y => eqS x y
structure YE where
  f : FuncId
  a : List RV
  r : RV
noncomputable def ylook (T : List YE) (f : FuncId) (args : List RV) : Option RV :=
  List.rec (motive := fun _ => Option RV) none (fun e _ ih => match Nat.beq e.f f with
    | true => match eqSL eqF1 e.a args with | true => some e.r | false => ih
    | false => ih) T

theorem eqSL_spec {e : RV → RV → Bool} {R : RV → RV → Prop} (he : ∀ x y, e x y = true → R x y) : ∀ l m, eqSL e l m = true → All2 R l m
  | [], [], _ => .nil
  | [], _ :: _, h => by cases h
  | _ :: _, [], h => by cases h
  | x :: l, y :: m, h => by
    have h : (match e x y with | true => eqSL e l m | false => false) = true := h
    split at h
    · rename_i hx; exact .cons (he _ _ hx) (eqSL_spec he l m h)
    · cases h
theorem all2_eq : ∀ {l m : List RV}, All2 (fun x y => x = y) l m → l = m
  | _, _, .nil => rfl
  | _, _, .cons h r => by rw [h, all2_eq r]

section
variable [Val]
omit [Val] in
theorem eqSL_cv {l m : List RV} (h : eqSL eqS l m = true) : l = m := all2_eq (eqSL_spec (fun _ _ => eqS_eq) l m h)
theorem eqF1_cv {x y : RV} (h : eqF1 x y = true) : cvF x = cvF y := by
  unfold eqF1 at h
  split at h
  · rw [eqSL_cv h]
  · have := eqSL_cv h
    subst this
    show Value.agg _ = Value.agg _
    congr 1
    apply Array.ext'
    simp [cv, List.map_map, Function.comp_def]
  · have := eqSL_cv h
    subst this
    show Value.agg _ = Value.agg _
    congr 1
    apply Array.ext'
    simp [cv, List.map_map, Function.comp_def]
  · have := eqSL_cv h
    have hinj : ∀ a b : List Value, a.map RV.pl = b.map RV.pl → a = b := fun a => by
      induction a with
      | nil => intro b hb; cases b with
        | nil => rfl
        | cons => cases hb
      | cons x a ih => intro b hb; cases b with
        | nil => cases hb
        | cons y b =>
          simp only [List.map_cons, List.cons.injEq, RV.pl.injEq] at hb
          rw [hb.1, ih b hb.2]
    rename_i us vs
    have := hinj _ _ this
    show Value.agg _ = Value.agg _
    rw [Array.ext' this]
  · rw [eqS_eq h]
theorem eqSL_cvF : ∀ {l m : List RV}, eqSL eqF1 l m = true → l.map cvF = m.map cvF := by
  intro l m h
  have := eqSL_spec (R := fun x y => cvF x = cvF y) (fun _ _ => eqF1_cv) l m h
  induction this with
  | nil => rfl
  | cons h1 _ ih =>
    rename_i hh
    have h' : (match eqF1 _ _ with | true => _ | false => false) = true := h
    split at h'
    · rw [List.map_cons, List.map_cons, h1, ih h']
    · cases h'

/-- What an entry says. -/
def YETrue (P : Program) (ro : Ro) (e : YE) : Prop := ∀ w, RoIn ro w → Calls P e.f (e.a.map cvF).toArray w (fun x w' => x = .returned (cvF e.r) ∧ Below w.heap.size w w')
theorem ylook_mem : ∀ (T : List YE) (f : FuncId) (args : List RV) (r : RV), ylook T f args = some r → ∃ e, e ∈ T ∧ e.f = f ∧ e.a.map cvF = args.map cvF ∧ e.r = r
  | [], _, _, _, h => by cases h
  | e :: T, f, args, r, h => by
    have h : (match Nat.beq e.f f with
      | true => match eqSL eqF1 e.a args with | true => some e.r | false => ylook T f args
      | false => ylook T f args) = some r := h
    have go : ylook T f args = some r → ∃ e', e' ∈ e :: T ∧ e'.f = f ∧ e'.a.map cvF = args.map cvF ∧ e'.r = r := fun h => by
      obtain ⟨e', he, q⟩ := ylook_mem T f args r h
      exact ⟨e', List.mem_cons_of_mem _ he, q⟩
    split at h
    · rename_i h1
      split at h
      · rename_i h2
        cases h
        exact ⟨e, List.mem_cons_self, Nat.eq_of_beq_eq_true h1, eqSL_cvF h2, rfl⟩
      · exact go h
    · exact go h
theorem all2_cvF {args : List RV} (hf : args.all flat = true) {vs : List Value} (h : All2 (VRel []) args vs) : vs = args.map cvF := by
  have h2 := flats_cvF args hf
  exact VRels.fn _ _ _ (VRels_iff.2 h) (VRels_iff.2 h2)
theorem y_ok {P : Program} {g : Cfg} {T : List YE} (hg : g.Y = fun f args => if args.all flat then ylook T f args else none) (h : ∀ e, e ∈ T → YETrue P g.ro e) :
    ∀ f args r, g.Y f args = some r → flat r = true → ∀ vs, All2 (VRel []) args vs → ∀ w, RoIn g.ro w → Calls P f vs.toArray w (fun e w' => (∃ u, e = .returned u ∧ VRel [] r u) ∧ Below w.heap.size w w') := by
  intro f args r hy hfr vs hvs w hr
  rw [hg] at hy
  simp only at hy
  split at hy
  · rename_i hfl
    obtain ⟨e, he, rfl, e2, rfl⟩ := ylook_mem T f args r hy
    rw [all2_cvF hfl hvs, ← e2]
    exact (h e he w hr).mono fun x w' ⟨h1, h2⟩ => ⟨⟨_, h1, rel_cvF hfr⟩, h2⟩
  · cases hy
end

/-! Operations on whole numbers. -/
theorem int_guard {P : Program} {w : World} {ty : TypeId} {a b : Operand} (k k' : IntKind) (m n : Int) (op : BinOp) : (eqGuard op ty a b (.int k m) (.int k' n)).run P w = .ok () w := guard_other (by simp) (by simp) w
section
variable [Val] (k : IntKind) (m n : Int)
omit [Val] in
theorem t_lss : TCTrue (.bin .lss) (.int k m) (.int k n) (.bool (decide (m < n))) := fun P ty a b w => by simp [int_guard, binOp, Op.intCmp]
omit [Val] in
theorem t_leq : TCTrue (.bin .leq) (.int k m) (.int k n) (.bool (decide (m ≤ n))) := fun P ty a b w => by simp [int_guard, binOp, Op.intCmp]
omit [Val] in
theorem t_gtr : TCTrue (.bin .gtr) (.int k m) (.int k n) (.bool (decide (m > n))) := fun P ty a b w => by simp [int_guard, binOp, Op.intCmp]
omit [Val] in
theorem t_geq : TCTrue (.bin .geq) (.int k m) (.int k n) (.bool (decide (m ≥ n))) := fun P ty a b w => by simp [int_guard, binOp, Op.intCmp]
omit [Val] in
theorem t_add : TCTrue (.bin .add) (.int k m) (.int k n) (.int k (k.wrap (m + n))) := fun P ty a b w => by simp [int_guard, binOp, Op.intArith]
omit [Val] in
theorem t_sub : TCTrue (.bin .sub) (.int k m) (.int k n) (.int k (k.wrap (m - n))) := fun P ty a b w => by simp [int_guard, binOp, Op.intArith]
omit [Val] in
theorem t_mul : TCTrue (.bin .mul) (.int k m) (.int k n) (.int k (k.wrap (m * n))) := fun P ty a b w => by simp [int_guard, binOp, Op.intArith]
omit [Val] in
theorem t_quo (h : n ≠ 0) : TCTrue (.bin .quo) (.int k m) (.int k n) (.int k (k.wrap (m.tdiv n))) := fun P ty a b w => by simp [int_guard, binOp, Op.intDiv, h]
omit [Val] in
theorem t_rem (h : n ≠ 0) : TCTrue (.bin .rem) (.int k m) (.int k n) (.int k (m.tmod n)) := fun P ty a b w => by simp [int_guard, binOp, Op.intDiv, h]
omit [Val] in
theorem t_ieq : TCTrue .ieq (.int k m) (.int k n) (.bool (m == n)) := ⟨k, m, n, rfl, rfl, rfl⟩
omit [Val] in
theorem t_conv (k' : IntKind) (v : Value) : TCTrue (.conv k') (.int k m) v (.int k' (k'.wrap m)) := ⟨k, m, rfl, rfl⟩
omit [Val] in
theorem t_truth (b : Bool) (v : Value) : TCTrue .truth (.bool b) v (.bool b) := ⟨b, rfl, rfl⟩
omit [Val] in
theorem t_not (b : Bool) (v : Value) : TCTrue .not (.bool b) v (.bool !b) := ⟨b, rfl, rfl⟩
omit [Val] in
theorem t_beq (a b : Bool) : TCTrue .beq (.bool a) (.bool b) (.bool (a == b)) := ⟨a, b, rfl, rfl, rfl⟩
end
end Go.Ri
