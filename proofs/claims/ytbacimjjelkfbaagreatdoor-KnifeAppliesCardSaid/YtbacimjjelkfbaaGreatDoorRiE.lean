/- An interpreter for calls whose arguments are closed or names, and its soundness: a part of the proofs. -/
import Derived.Test.YtbacimjjelkfbaaGreatDoorRiD
import Derived.Deep.LoopGhost
import Derived.LoopN
/-! Tables of what is known, for calls with names. -/
namespace Go.Ri
open Go Go.RowKit

/-- No names. -/
abbrev V0 : Val := ⟨fun _ => 0, fun _ => false, fun _ => ⟨#[]⟩, fun _ => ⟨.int .i64 0, rfl⟩, fun _ => [], fun _ => undef⟩

noncomputable def eqSL (e : RV → RV → Bool) (l : List RV) : List RV → Bool :=
  List.rec (motive := fun _ => List RV → Bool) (fun m => match m with | [] => true | _ => false) (fun x _ ih m => match m with | [] => false | y :: m => match e x y with | true => ih m | false => false) l
noncomputable def eqF1 (x y : RV) : Bool :=
  match x, y with
  | .agg l, .agg m => eqSL eqS l m
  | .agg l, .pl (.agg vs) => eqSL eqS l (vs.toList.map .pl)
  | .pl (.agg us), .agg m => eqSL eqS (us.toList.map .pl) m
  | .pl (.agg us), .pl (.agg vs) => eqSL eqS (us.toList.map .pl) (vs.toList.map .pl)
  | x, y => eqS x y
structure YE where
  f : FuncId
  a : List RV
  r : RV
noncomputable def ylook (T : List YE) (f : FuncId) (args : List RV) : Option RV :=
  List.rec (motive := fun _ => Option RV) none (fun e _ ih => match Nat.beq e.f f with
    | true => match eqSL eqF1 e.a args with | true => some e.r | false => ih
    | false => ih) T

theorem eqSL_spec {e : RV → RV → Bool} {R : RV → RV → Prop} (he : ∀ x y, e x y = true → R x y) : ∀ l m, eqSL e l m = true → All2 R l m
  | [], [], _ => .nil
  | [], _ :: _, h => by cases h
  | _ :: _, [], h => by cases h
  | x :: l, y :: m, h => by
    have h : (match e x y with | true => eqSL e l m | false => false) = true := h
    split at h
    · rename_i hx; exact .cons (he _ _ hx) (eqSL_spec he l m h)
    · cases h
theorem all2_eq : ∀ {l m : List RV}, All2 (fun x y => x = y) l m → l = m
  | _, _, .nil => rfl
  | _, _, .cons h r => by rw [h, all2_eq r]

section
variable [Val]
omit [Val] in
theorem eqSL_cv {l m : List RV} (h : eqSL eqS l m = true) : l = m := all2_eq (eqSL_spec (fun _ _ => eqS_eq) l m h)
theorem eqF1_cv {x y : RV} (h : eqF1 x y = true) : cvF x = cvF y := by
  unfold eqF1 at h
  split at h
  · rw [eqSL_cv h]
  · have := eqSL_cv h
    subst this
    show Value.agg _ = Value.agg _
    congr 1
    apply Array.ext'
    simp [cv, List.map_map, Function.comp_def]
  · have := eqSL_cv h
    subst this
    show Value.agg _ = Value.agg _
    congr 1
    apply Array.ext'
    simp [cv, List.map_map, Function.comp_def]
  · have := eqSL_cv h
    have hinj : ∀ a b : List Value, a.map RV.pl = b.map RV.pl → a = b := fun a => by
      induction a with
      | nil => intro b hb; cases b with
        | nil => rfl
        | cons => cases hb
      | cons x a ih => intro b hb; cases b with
        | nil => cases hb
        | cons y b =>
          simp only [List.map_cons, List.cons.injEq, RV.pl.injEq] at hb
          rw [hb.1, ih b hb.2]
    rename_i us vs
    have := hinj _ _ this
    show Value.agg _ = Value.agg _
    rw [Array.ext' this]
  · rw [eqS_eq h]
theorem eqSL_cvF : ∀ {l m : List RV}, eqSL eqF1 l m = true → l.map cvF = m.map cvF := by
  intro l m h
  have := eqSL_spec (R := fun x y => cvF x = cvF y) (fun _ _ => eqF1_cv) l m h
  induction this with
  | nil => rfl
  | cons h1 _ ih =>
    rename_i hh
    have h' : (match eqF1 _ _ with | true => _ | false => false) = true := h
    split at h'
    · rw [List.map_cons, List.map_cons, h1, ih h']
    · cases h'

/-- What an entry says. -/
def YETrue (P : Program) (ro : Ro) (e : YE) : Prop := ∀ w, RoIn ro w → Calls P e.f (e.a.map cvF).toArray w (fun x w' => x = .returned (cvF e.r) ∧ Below w.heap.size w w')
theorem ylook_mem : ∀ (T : List YE) (f : FuncId) (args : List RV) (r : RV), ylook T f args = some r → ∃ e, e ∈ T ∧ e.f = f ∧ e.a.map cvF = args.map cvF ∧ e.r = r
  | [], _, _, _, h => by cases h
  | e :: T, f, args, r, h => by
    have h : (match Nat.beq e.f f with
      | true => match eqSL eqF1 e.a args with | true => some e.r | false => ylook T f args
      | false => ylook T f args) = some r := h
    have go : ylook T f args = some r → ∃ e', e' ∈ e :: T ∧ e'.f = f ∧ e'.a.map cvF = args.map cvF ∧ e'.r = r := fun h => by
      obtain ⟨e', he, q⟩ := ylook_mem T f args r h
      exact ⟨e', List.mem_cons_of_mem _ he, q⟩
    split at h
    · rename_i h1
      split at h
      · rename_i h2
        cases h
        exact ⟨e, List.mem_cons_self, Nat.eq_of_beq_eq_true h1, eqSL_cvF h2, rfl⟩
      · exact go h
    · exact go h
theorem all2_cvF {args : List RV} (hf : args.all flat = true) {vs : List Value} (h : All2 (VRel []) args vs) : vs = args.map cvF := by
  have h2 := flats_cvF args hf
  exact VRels.fn _ _ _ (VRels_iff.2 h) (VRels_iff.2 h2)
theorem y_ok {P : Program} {g : Cfg} {T : List YE} (hg : g.Y = fun f args => if args.all flat then ylook T f args else none) (h : ∀ e, e ∈ T → YETrue P g.ro e) :
    ∀ f args r, g.Y f args = some r → flat r = true → ∀ vs, All2 (VRel []) args vs → ∀ w, RoIn g.ro w → Calls P f vs.toArray w (fun e w' => (∃ u, e = .returned u ∧ VRel [] r u) ∧ Below w.heap.size w w') := by
  intro f args r hy hfr vs hvs w hr
  rw [hg] at hy
  simp only at hy
  split at hy
  · rename_i hfl
    obtain ⟨e, he, rfl, e2, rfl⟩ := ylook_mem T f args r hy
    rw [all2_cvF hfl hvs, ← e2]
    exact (h e he w hr).mono fun x w' ⟨h1, h2⟩ => ⟨⟨_, h1, rel_cvF hfr⟩, h2⟩
  · cases hy
end

/-! Operations on whole numbers. -/
theorem int_guard {P : Program} {w : World} {ty : TypeId} {a b : Operand} (k k' : IntKind) (m n : Int) (op : BinOp) : (eqGuard op ty a b (.int k m) (.int k' n)).run P w = .ok () w := guard_other (by simp) (by simp) w
section
variable [Val] (k : IntKind) (m n : Int)
omit [Val] in
theorem t_lss : TCTrue (.bin .lss) (.int k m) (.int k n) (.bool (decide (m < n))) := fun P ty a b w => by simp [int_guard, binOp, Op.intCmp]
omit [Val] in
theorem t_leq : TCTrue (.bin .leq) (.int k m) (.int k n) (.bool (decide (m ≤ n))) := fun P ty a b w => by simp [int_guard, binOp, Op.intCmp]
omit [Val] in
theorem t_gtr : TCTrue (.bin .gtr) (.int k m) (.int k n) (.bool (decide (m > n))) := fun P ty a b w => by simp [int_guard, binOp, Op.intCmp]
omit [Val] in
theorem t_geq : TCTrue (.bin .geq) (.int k m) (.int k n) (.bool (decide (m ≥ n))) := fun P ty a b w => by simp [int_guard, binOp, Op.intCmp]
omit [Val] in
theorem t_add : TCTrue (.bin .add) (.int k m) (.int k n) (.int k (k.wrap (m + n))) := fun P ty a b w => by simp [int_guard, binOp, Op.intArith]
omit [Val] in
theorem t_sub : TCTrue (.bin .sub) (.int k m) (.int k n) (.int k (k.wrap (m - n))) := fun P ty a b w => by simp [int_guard, binOp, Op.intArith]
omit [Val] in
theorem t_mul : TCTrue (.bin .mul) (.int k m) (.int k n) (.int k (k.wrap (m * n))) := fun P ty a b w => by simp [int_guard, binOp, Op.intArith]
omit [Val] in
theorem t_quo (h : n ≠ 0) : TCTrue (.bin .quo) (.int k m) (.int k n) (.int k (k.wrap (m.tdiv n))) := fun P ty a b w => by simp [int_guard, binOp, Op.intDiv, h]
omit [Val] in
theorem t_rem (h : n ≠ 0) : TCTrue (.bin .rem) (.int k m) (.int k n) (.int k (m.tmod n)) := fun P ty a b w => by simp [int_guard, binOp, Op.intDiv, h]
omit [Val] in
theorem t_ieq : TCTrue .ieq (.int k m) (.int k n) (.bool (m == n)) := ⟨k, m, n, rfl, rfl, rfl⟩
omit [Val] in
theorem t_conv (k' : IntKind) (v : Value) : TCTrue (.conv k') (.int k m) v (.int k' (k'.wrap m)) := ⟨k, m, rfl, rfl⟩
omit [Val] in
theorem t_truth (b : Bool) (v : Value) : TCTrue .truth (.bool b) v (.bool b) := ⟨b, rfl, rfl⟩
omit [Val] in
theorem t_not (b : Bool) (v : Value) : TCTrue .not (.bool b) v (.bool !b) := ⟨b, rfl, rfl⟩
omit [Val] in
theorem t_beq (a b : Bool) : TCTrue .beq (.bool a) (.bool b) (.bool (a == b)) := ⟨a, b, rfl, rfl, rfl⟩
end
end Go.Ri

/-! Calls over slices that are only read. -/
namespace Go.Ri
open Go Go.RowKit

/-- What a value is in a world: itself, or a slice with what it holds (its length, an element's cells, the element's type, the cells). -/
def DVal (w : World) (d : List Value) (v : Value) : Prop :=
  match d with
  | [x] => v = x
  | .int .i64 n :: .int .i64 s :: .int .i64 e :: cs => ∃ p cur fr, v = .slice (some ⟨p, 0, none⟩) n.toNat (cur.size / s.toNat) ∧ w.heap[p]? = some (.cells cur e.toNat fr) ∧ cs.length = n.toNat * s.toNat ∧ n.toNat ≤ cur.size / s.toNat ∧ cur.toList.take cs.length = cs
  | _ => False

section
variable [Val] {P : Program} {g : Cfg} {ro : Ro} {base : Nat} {w0 : World} {E : Env} {h : RH} {w : World}
theorem cvF_flat0 {r : RV} (hf : flat0 r = true) : cvF r = cv r := by
  cases r with
  | pl v => rfl
  | sym k i => rfl
  | _ => cases hf
theorem all2_cv {l : List RV} {vs : List Value} (hf : l.all flat0 = true) (h : All2 (VRel E) l vs) : vs = l.map cvF := by
  induction h with
  | nil => rfl
  | cons r _ ih =>
    simp only [List.all_cons, Bool.and_eq_true] at hf
    rw [List.map_cons, ← ih hf.2, cvF_flat0 hf.1, cv_rel hf.1 r]
omit [Val] in
theorem deepSeg_spec {n s e : Nat} {c : Option (List RV)} {d : List RV} (h : deepSeg n s e c = some d) : ∃ cs, c = some cs ∧ cs.all flat0 = true ∧ d = .pl (.int .i64 n) :: .pl (.int .i64 s) :: .pl (.int .i64 e) :: cs := by
  unfold deepSeg at h
  split at h
  · rename_i cs
    split at h
    · rename_i hf
      cases h
      exact ⟨cs, rfl, hf, rfl⟩
    · cases h
  · cases h
theorem deep_dv (H : HInv ro base w0 E h w) {r : RV} {d : List RV} {v : Value} (hd : deepArg h r = some d) (hv : VRel E r v) : DVal w (d.map cvF) v := by
  unfold deepArg at hd
  split at hd
  · rename_i b n s
    have key : ∀ l e, (∃ p cur fr, E[b]? = some p ∧ w.heap[p.1]? = some (.cells cur e fr) ∧ cur.size = p.2 ∧ All2 (VRel E) l (cur.toList.take l.length)) → deepSeg n s e (seg l 0 (n * s)) = some d → DVal w (d.map cvF) v := by
      intro l e ⟨p, cur, fr, h1, h2, h3, h4⟩ hd
      obtain ⟨cs, hcs, hf, rfl⟩ := deepSeg_spec hd
      obtain ⟨hlen, rfl⟩ := seg_eq _ _ _ _ hcs
      obtain ⟨q, k, hq, hk, hn, rfl⟩ := hv
      rw [h1] at hq
      cases hq
      have hk : k = (p.2 - 0) / s := hk
      have hlc := h4.length
      simp only [Nat.zero_add, List.drop_zero] at *
      have hcl : (l.take (n * s)).length = n * s := by simp; omega
      have hc := h4.take (n * s)
      have hrel := all2_cv hf hc
      refine ⟨p.1, cur, fr, ?_, h2, ?_, ?_, ?_⟩
      · show Value.slice (some ⟨p.1, 0, none⟩) n k = Value.slice (some ⟨p.1, 0, none⟩) (Int.toNat (n : Int)) (cur.size / Int.toNat (s : Int))
        rw [hk, h3]
        simp
      · show ((l.take (n * s)).map cvF).length = Int.toNat (n : Int) * Int.toNat (s : Int)
        rw [List.length_map, hcl]
        simp
      · show Int.toNat (n : Int) ≤ cur.size / Int.toNat (s : Int)
        rw [h3]
        simp only [Int.toNat_natCast]
        rw [hk] at hn
        simpa using hn
      · show cur.toList.take ((l.take (n * s)).map cvF).length = (l.take (n * s)).map cvF
        rw [List.length_map, hcl, ← hrel, List.take_take]
        have : l.length ≤ cur.size := by simp at hlc; omega
        rw [Nat.min_eq_left (by omega)]
    split at hd
    · rename_i l e room fz hl
      rw [lkp_eq] at hl
      obtain ⟨p, h1, _, cur, fr, h3, h4, h5, _⟩ := H.blk b _ hl
      exact key l e ⟨p, cur, fr, h1, h3, h4, h5⟩ hd
    · rename_i l e hl
      rw [lkp_eq] at hl
      obtain ⟨p, h1, _, cur, fr, h3, h4, h5⟩ := H.blk b _ hl
      exact key l e ⟨p, cur, fr, h1, h3, h4, h5⟩ hd
    · cases hd
  · split at hd
    · rename_i hf
      cases hd
      show v = cvF r
      exact VRel.fn r v _ hv (rel_cvF hf)
    · cases hd
theorem deeps_dv (H : HInv ro base w0 E h w) : ∀ {args : List RV} {ds : List (List RV)} {vs : List Value}, deepArgs h args = some ds → All2 (VRel E) args vs → All2 (DVal w) (ds.map fun d => d.map cvF) vs
  | [], ds, vs, hd, hv => by
    cases hd
    cases hv
    exact .nil
  | r :: args, ds, vs, hd, hv => by
    have hd : (match deepArg h r with
      | some d => match deepArgs h args with | some ds => some (d :: ds) | none => none
      | none => none) = some ds := hd
    split at hd
    · rename_i d hd1
      split at hd
      · rename_i ds' hd2
        cases hd
        cases hv with
        | cons h1 h2 => exact .cons (deep_dv H hd1 h1) (deeps_dv H hd2 h2)
      · cases hd
    · cases hd

/-! The other way: blocks lent for slices. -/
def openArgs : List (List RV) → Nat → List RV × RH
  | [], _ => ([], [])
  | (.pl (.int .i64 n) :: .pl (.int .i64 s) :: .pl (.int .i64 e) :: cs) :: ds, b => (.sl b 0 n.toNat s.toNat none :: (openArgs ds (b + 1)).1, some (.lent cs e.toNat) :: (openArgs ds (b + 1)).2)
  | [r] :: ds, b => (r :: (openArgs ds b).1, (openArgs ds b).2)
  | _ :: ds, b => (.pl undef :: (openArgs ds b).1, (openArgs ds b).2)
def okD : List RV → Bool
  | (.pl (.int .i64 _) :: .pl (.int .i64 _) :: .pl (.int .i64 _) :: cs) => cs.all flat0
  | [r] => flat r
  | _ => false
theorem map_cvF_rel {l : List RV} (hf : l.all flat0 = true) : All2 (VRel E) l (l.map cvF) := by
  have := rel_cvs (E := E) l hf
  rw [List.map_congr_left (g := cvF) fun r hr => (cvF_flat0 (List.all_eq_true.1 hf r hr)).symm] at this
  exact this
theorem open_rel : ∀ (ds : List (List RV)) (vs : List Value) (E0 : Env), ds.all okD = true → All2 (DVal w) (ds.map fun d => d.map cvF) vs →
    ∃ E1, (∀ E2, All2 (LentAt E2 w) (openArgs ds E0.length).2 E1) ∧ All2 (VRel (E0 ++ E1)) (openArgs ds E0.length).1 vs
  | [], vs, E0, _, hv => by
    cases hv
    exact ⟨[], fun _ => .nil, .nil⟩
  | d :: ds, vs, E0, hok, hv => by
    simp only [List.all_cons, Bool.and_eq_true] at hok
    cases hv with
    | cons h1 h2 =>
      rename_i v vs
      obtain ⟨hd, hds⟩ := hok
      unfold okD at hd
      split at hd
      · rename_i n s e cs
        obtain ⟨p, cur, fr, hv, hp, hl, hn, hc⟩ := h1
        have hl : (cs.map cvF).length = n.toNat * s.toNat := hl
        obtain ⟨E1, g1, g2⟩ := open_rel ds vs (E0 ++ [(⟨p, cur.size, undef, .no⟩ : EP)]) hds h2
        rw [List.length_append] at g1 g2
        refine ⟨(⟨p, cur.size, undef, .no⟩ : EP) :: E1, fun E2 => .cons ⟨cs, e.toNat, rfl, ⟨cur, fr, hp, rfl, ?_⟩, rfl⟩ (g1 E2), .cons ?_ ?_⟩
        · rw [List.length_map] at hc
          rw [hc]
          exact map_cvF_rel hd
        · refine ⟨⟨p, cur.size, undef, .no⟩, cur.size / s.toNat, ?_, ?_, hn, hv⟩
          · rw [List.getElem?_append_right (Nat.le_refl _)]
            simp
          · show _ = (cur.size - 0) / s.toNat
            rw [Nat.sub_zero]
        · have : E0 ++ (⟨p, cur.size, undef, .no⟩ : EP) :: E1 = (E0 ++ [(⟨p, cur.size, undef, .no⟩ : EP)]) ++ E1 := by simp
          rw [this]
          exact g2
      · rename_i r
        obtain ⟨E1, g1, g2⟩ := open_rel ds vs E0 hds h2
        have e : openArgs ([r] :: ds) E0.length = (r :: (openArgs ds E0.length).1, (openArgs ds E0.length).2) := by simp [openArgs]
        rw [e]
        have h1 : v = cvF r := h1
        exact ⟨E1, g1, .cons (h1 ▸ rel_cvF hd) g2⟩
      · cases hd
/-- A call over slices that are only read. -/
theorem deep_call (hm : P.follows .mixedOrders = true) (G : CfgOK P g) (hX : XOK P g) (m n : Nat) (f : FuncId) (ds : List (List RV)) (hok : ds.all okD = true) (r : RV) (h' : RH)
    (hc : call P g m n f (openArgs ds 0).1 (openArgs ds 0).2 = some (r, h')) (hfr : flat r = true) (w : World) (hr : RoIn g.ro w) (vs : List Value) (hv : All2 (DVal w) (ds.map fun d => d.map cvF) vs) :
    Calls P f vs.toArray w (fun e w' => e = .returned (cvF r) ∧ Below w.heap.size w w') := by
  obtain ⟨E1, g1, g2⟩ := open_rel ds vs [] hok hv
  exact lent_call hm G hX m n f _ _ r h' hc hfr w hr E1 (g1 E1) vs g2
end
end Go.Ri

/-! Runs that stop at a loop's head; rounds of a loop between patterns of states. -/
namespace Go.Ri
open Go Go.RowKit

inductive Fr where
  | seq (y : Code)
  | block (id : Nat)
  | scope
  | again (b : Code) (n : Nat)
inductive Stop where
  | done (ex : Ex) (s : St)
  | loop (b : Code) (K : List Fr) (s : St)
inductive Ctl where
  | run (c : Code)
  | ex (e : Ex)

def postK (P : Program) : List Fr → (Exit → Act → World → Prop) → Exit → Act → World → Prop
  | [], Q => Q
  | .seq y :: K, Q => Exit.then (y.wp P (postK P K Q)) (postK P K Q)
  | .block id :: K, Q => Exit.inBlock id (postK P K Q)
  | .scope :: K, Q => Exit.noGoto (postK P K Q)
  | .again b n :: K, Q => Exit.then (Code.rounds P b (postK P K Q) n) (postK P K Q)

abbrev GoF := List Bool → Ctl → List Fr → St → Option Stop
noncomputable def gLeaf (P : Program) (g : Cfg) (C : CallF) (m : Nat) (ih : GoF) (plan : List Bool) (c : Code) (K : List Fr) (s : St) : Option Stop :=
  match exec P g (liftC C) false m c s with
  | some (e, s') => ih plan (.ex e) K s'
  | none => none
noncomputable def gCond (g : Cfg) (ih : GoF) (plan : List Bool) (a b : Code) (K : List Fr) (s : St) (r : RV) : Option Stop :=
  match r with
  | .pl (.bool q) => ih plan (.run (if q then a else b)) K s
  | .sym .bool i => match tlook g.T .truth (.sym .bool i) (.sym .bool i) with
    | some (.pl (.bool q)) => ih plan (.run (if q then a else b)) K s
    | _ => none
  | _ => none
noncomputable def gRun (P : Program) (g : Cfg) (C : CallF) (m : Nat) (ih : GoF) (plan : List Bool) (c : Code) (K : List Fr) (s : St) : Option Stop :=
  match c with
  | .seq a b => ih plan (.run a) (.seq b :: K) s
  | .block id b => ih plan (.run b) (.block id :: K) s
  | .scope b => ih plan (.run b) (.scope :: K) s
  | .loop b => match plan with
    | true :: plan => gLeaf P g C m ih plan (.loop b) K s
    | false :: plan => ih plan (.run b) (.again b 8 :: K) s
    | _ => some (.loop b K s)
  | .cond x a b => gCond g ih plan a b K s (ev s.t x)
  | c => gLeaf P g C m ih plan c K s
noncomputable def gEx (ih : GoF) (plan : List Bool) (e : Ex) (K : List Fr) (s : St) : Option Stop :=
  match K with
  | [] => some (.done e s)
  | .seq y :: K => match e with
    | .normal => ih plan (.run y) K s
    | e => ih plan (.ex e) K s
  | .block id :: K => match e with
    | .exit i => if i = id then ih plan (.ex .normal) K s else ih plan (.ex (.exit i)) K s
    | e => ih plan (.ex e) K s
  | .scope :: K => ih plan (.ex e) K s
  | .again b n :: K => match e with
    | .normal => match n with
      | n + 1 => ih plan (.run b) (.again b n :: K) s
      | 0 => none
    | e => ih plan (.ex e) K s
/-- A run up to the first loop that is not run through, or to the end. -/
noncomputable def go (P : Program) (g : Cfg) (C : CallF) (m n : Nat) : GoF :=
  Nat.rec (motive := fun _ => GoF) (fun _ _ _ _ => none) (fun _ ih plan ctl K s => match ctl with
    | .run c => gRun P g C m ih plan c K s
    | .ex e => gEx ih plan e K s) n

section
variable [Val] {P : Program} {g : Cfg} {C : CallF} {base : Nat} {w0 : World}

/-- What is owed where a run stops. -/
def Owed (P : Program) (g : Cfg) (base : Nat) (w0 : World) (Q : Exit → Act → World → Prop) (O : Stop) (E : Env) (a : Act) (w : World) : Prop :=
  match O with
  | .done e s => Sim g base w0 s E a w → Q e.toExit a w
  | .loop b K s => Sim g base w0 s E a w → (Code.loop b).wp P (postK P K Q) a w

def CtlPost (P : Program) (Q : Exit → Act → World → Prop) (ctl : Ctl) (K : List Fr) (a : Act) (w : World) : Prop :=
  match ctl with
  | .run c => c.wp P (postK P K Q) a w
  | .ex e => postK P K Q e.toExit a w

theorem go_ok (hm : P.follows .mixedOrders = true) (G : CfgOK P g) (hC : CallOK P g C) (hX : XOK P g) {m : Nat} {Q : Exit → Act → World → Prop} {O : Stop} : ∀ (n : Nat) (plan : List Bool) (ctl : Ctl) (K : List Fr) (s : St) (E : Env) (a : Act) (w : World),
    go P g C m n plan ctl K s = some O → Sim g base w0 s E a w → (∀ E' a' w', E <+: E' → Owed P g base w0 Q O E' a' w') → CtlPost P Q ctl K a w
  | 0, _, _, _, _, _, _, _, h, _, _ => by cases h
  | n + 1, plan, ctl, K, s, E, a, w, h, S, hO => by
    have ih := go_ok hm G hC hX (m := m) (Q := Q) (O := O) n
    have leaf : ∀ (plan : List Bool) (c : Code) (K : List Fr), gLeaf P g C m (go P g C m n) plan c K s = some O → c.wp P (postK P K Q) a w := by
      intro plan c K h
      unfold gLeaf at h
      split at h
      · rename_i e s1 he
        exact exec_okS hm G hC hX m c s e s1 E a w _ he S fun E' a' w' hE S' => ih plan (.ex e) K s1 E' a' w' h S' fun E2 a2 w2 hE2 => hO E2 a2 w2 (hE.trans hE2)
      · cases h
    cases ctl with
    | run c =>
      change gRun P g C m (go P g C m n) plan c K s = some O at h
      show c.wp P (postK P K Q) a w
      unfold gRun at h
      split at h
      · exact wp_seq (ih plan (.run _) (.seq _ :: K) s E a w h S hO)
      · exact wp_block (ih plan (.run _) (.block _ :: K) s E a w h S hO)
      · exact wp_scope_straight (ih plan (.run _) (.scope :: K) s E a w h S hO)
      · split at h
        · exact leaf _ _ _ h
        · rename_i b _ plan'
          exact wp_loop_rounds 9 (ih plan' (.run b) (.again b 8 :: K) s E a w h S hO)
        · cases h
          exact hO E a w (List.prefix_refl E) S
      · rename_i x p q
        have hx := ev_rel S.t x
        unfold gCond at h
        split at h
        · rename_i b hb
          rw [hb] at hx
          exact wp_cond hx (ih plan (.run _) K s E a w h S hO)
        · rename_i i hb
          rw [hb] at hx
          split at h
          · rename_i b hq
            obtain ⟨_, f1, _, c, e1, e2⟩ := tlook_true hX.t hq
            have hx2 : a.eval x = .bool c := (cv_rel f1 hx).trans e1
            have e3 : b = c := by simpa [cv] using e2
            subst e3
            exact wp_cond hx2 (ih plan (.run _) K s E a w h S hO)
          · cases h
        · cases h
      · exact leaf _ _ _ h
    | ex e =>
      change gEx (go P g C m n) plan e K s = some O at h
      show postK P K Q e.toExit a w
      unfold gEx at h
      split at h
      · cases h
        exact hO E a w (List.prefix_refl E) S
      · rename_i y K'
        split at h
        · exact ih plan (.run y) K' s E a w h S hO
        · rename_i hne
          have := ih plan (.ex e) K' s E a w h S hO
          cases e with
          | normal => exact absurd rfl hne
          | exit id => exact this
          | ret => exact this
      · rename_i id K'
        split at h
        · rename_i i
          show if i = id then postK P K' Q .normal a w else postK P K' Q (.exit i) a w
          split at h
          · rename_i hi
            rw [if_pos hi]
            exact ih plan (.ex .normal) K' s E a w h S hO
          · rename_i hi
            rw [if_neg hi]
            exact ih plan (.ex (.exit i)) K' s E a w h S hO
        · rename_i hne
          have := ih plan (.ex e) K' s E a w h S hO
          cases e with
          | normal => exact this
          | exit i => exact absurd rfl (hne i)
          | ret => exact this
      · rename_i K'
        have := ih plan (.ex e) K' s E a w h S hO
        cases e <;> exact this
      · rename_i b n K'
        split at h
        · split at h
          · rename_i n
            exact ih plan (.run b) (.again b n :: K') s E a w h S hO
          · cases h
        · rename_i hne
          have := ih plan (.ex e) K' s E a w h S hO
          cases e with
          | normal => exact absurd rfl hne
          | exit id => exact this
          | ret => exact this

/-- One round of a loop's body: again at the head, or out of the loop and on. -/
inductive Rnd where
  | again (s : St)
  | out (O : Stop)
noncomputable def rnd (P : Program) (g : Cfg) (C : CallF) (m n : Nat) (plan : List Bool) (b : Code) (K : List Fr) (s : St) : Option Rnd :=
  match exec P g (liftC C) false m b s with
  | some (.normal, s1) => some (.again s1)
  | some (e, s1) => match go P g C m n plan (.ex e) K s1 with
    | some O => some (.out O)
    | none => none
  | none => none
theorem rnd_ok (hm : P.follows .mixedOrders = true) (G : CfgOK P g) (hC : CallOK P g C) (hX : XOK P g) {m n : Nat} {plan : List Bool} {b : Code} {K : List Fr} {s : St} {r : Rnd} {Q : Exit → Act → World → Prop} {N : Act → World → Prop} {E : Env} {a : Act} {w : World}
    (h : rnd P g C m n plan b K s = some r) (S : Sim g base w0 s E a w)
    (hN : ∀ s1, r = .again s1 → ∀ E' a' w', E <+: E' → Sim g base w0 s1 E' a' w' → N a' w') (hO : ∀ O, r = .out O → ∀ E' a' w', E <+: E' → Owed P g base w0 Q O E' a' w') : b.wp P (Exit.then N (postK P K Q)) a w := by
  unfold rnd at h
  split at h
  · rename_i s1 he
    cases h
    exact exec_okS hm G hC hX m b s .normal s1 E a w _ he S fun E' a' w' hE S' => hN s1 rfl E' a' w' hE S'
  · rename_i e s1 hne he
    split at h
    · rename_i O hg
      cases h
      refine exec_okS hm G hC hX m b s e s1 E a w _ he S fun E' a' w' hE S' => ?_
      have := go_ok hm G hC hX n plan (.ex e) K s1 E' a' w' hg S' fun E2 a2 w2 hE2 => hO O rfl E2 a2 w2 (hE.trans hE2)
      cases e with
      | normal => exact absurd rfl hne
      | exit id => exact this
      | ret => exact this
    · cases h
  · cases h
end

/-- A loop between patterns: each round leads from a pattern to another one, lower in a number. -/
theorem head_rule {P : Program} {κ : Type} {b : Code} {R : Exit → Act → World → Prop} (I : Nat → κ → Act → World → Prop)
    (step : ∀ n k a w, I n k a w → b.wp P (Exit.then (fun a' w' => ∃ n' k', n' < n ∧ I n' k' a' w') R) a w) (n : Nat) (k : κ) (a : Act) (w : World) (h : I n k a w) : (Code.loop b).wp P R a w :=
  wp_loop_ghost (fun n a w => ∃ k, I n k a w) n ⟨k, h⟩ fun n a w ⟨k, h⟩ => wp_mono (step n k a w h) fun e a' w' hq => by
    cases e with
    | normal =>
      obtain ⟨n', k', hlt, hI⟩ := hq
      exact ⟨n', hlt, k', hI⟩
    | exit id => exact hq
    | goto l => exact hq
    | ret => exact hq
    | panic ch => exact hq
    | outgrown => exact hq
end Go.Ri

/-! States told with other names: what a pattern asks of a state. -/
namespace Go.Ri
open Go Go.RowKit

/-- What a name of the pattern stands for in the state. -/
inductive SE where
  | int (i : Nat) (r : RV)
  | bool (i : Nat) (r : RV)
  | str (i : Nat) (r : RV)
  | lst (i j : Nat)
  | new (i : Nat) (l : List RV)

noncomputable def lookI (S : List SE) (i : Nat) : Option RV :=
  List.rec (motive := fun _ => Option RV) none (fun e _ ih => match e with
    | .int j r => match Nat.beq j i with | true => some r | false => ih
    | _ => ih) S
noncomputable def lookB (S : List SE) (i : Nat) : Option RV :=
  List.rec (motive := fun _ => Option RV) none (fun e _ ih => match e with
    | .bool j r => match Nat.beq j i with | true => some r | false => ih
    | _ => ih) S
noncomputable def lookS (S : List SE) (i : Nat) : Option RV :=
  List.rec (motive := fun _ => Option RV) none (fun e _ ih => match e with
    | .str j r => match Nat.beq j i with | true => some r | false => ih
    | _ => ih) S
noncomputable def lookL (S : List SE) (i : Nat) : Option (Sum Nat (List RV)) :=
  List.rec (motive := fun _ => Option (Sum Nat (List RV))) none (fun e _ ih => match e with
    | .lst k j => match Nat.beq k i with | true => some (.inl j) | false => ih
    | .new k l => match Nat.beq k i with | true => some (.inr l) | false => ih
    | _ => ih) S

/-- Block b of the pattern is block c of the state. -/
noncomputable def rlk (R : List Nat) (b c : Nat) : Bool :=
  match R[b]? with
  | some x => Nat.beq x c
  | none => false
noncomputable def nodupR (R : List Nat) : Bool :=
  List.rec (motive := fun _ => Bool) true (fun x l ih => match l.all fun y => !(Nat.beq x y) with | true => ih | false => false) R
/-- May the cell r (of the state) stand where the pattern has the cell q: both of one cell. -/
noncomputable def mt0 (S : List SE) (h : RH) (nb : List Nat) (r q : RV) : Bool :=
  match q with
  | .sym (.int k) i => match lookI S i with
    | some u => match eqS r u, r with
      | true, .sym (.int k') _ => Nat.beq (kindCode k) (kindCode k')
      | true, .pl (.int k' _) => Nat.beq (kindCode k) (kindCode k')
      | _, _ => false
    | none => false
  | .sym .bool i => match lookB S i with
    | some u => match eqS r u, r with
      | true, .sym .bool _ => true
      | true, .pl (.bool _) => true
      | _, _ => false
    | none => false
  | .sym .str i => match lookS S i with
    | some u => match eqS r u, r with
      | true, .sym .str _ => true
      | true, .pl (.string _) => true
      | _, _ => false
    | none => false
  | .pl v => match r with
    | .pl u => sameV u v
    | _ => false
  | .ptr b o => match r with
    | .ptr b' o' => rlk nb b b' && Nat.beq o o'
    | _ => false
  | .sl b o n s c => match r with
    | .sl b' o' n' s' c' => rlk nb b b' && Nat.beq o o' && Nat.beq n n' && Nat.beq s s' && c == c'
    | _ => false
  | .slN b i s => match r with
    | .slN b' j s' => match lookL S i with
      | some (.inl j') => rlk nb b b' && Nat.beq s s' && Nat.beq j j'
      | _ => false
    | .sl b' 0 n s' none => match lookL S i, lkp h b' with
      | some (.inr l), some (.cells l' _ _ _) => rlk nb b b' && Nat.beq s s' && Nat.blt 0 s && Nat.beq l.length (n * s) && eqSs l l'
      | _, _ => false
    | _ => false
  | .slA b i s => match r with
    | .slA b' j s' => match lookL S i with
      | some (.inl j') => rlk nb b b' && Nat.beq s s' && Nat.beq j j'
      | _ => false
    | _ => false
  | .slX b i k j s => match r with
    | .slX b' i' k' j' s' => match lookL S i, lookI S k, lookL S j with
      | some (.inl a), some u, some (.inl c) => rlk nb b b' && Nat.beq s s' && Nat.beq a i' && Nat.beq c j' && eqS (.sym (.int .i64) k') u
      | _, _, _ => false
    | _ => false
  | _ => false
noncomputable def mtL (f : RV → RV → Bool) (l : List RV) : List RV → Bool :=
  List.rec (motive := fun _ => List RV → Bool) (fun m => match m with | [] => true | _ => false) (fun x _ ih m => match m with | [] => false | y :: m => match f x y with | true => ih m | false => false) l
noncomputable def mt1 (S : List SE) (h : RH) (nb : List Nat) (r q : RV) : Bool :=
  match q with
  | .agg m => match aggL r with
    | some l => mtL (mt0 S h nb) l m
    | none => false
  | .fn (.func f) a c => match r with
    | .fn (.func f') a' c' => Nat.beq f f' && mtL (mt0 S h nb) a' a && mtL (mt0 S h nb) c' c
    | _ => false
  | q => mt0 S h nb r q
noncomputable def mt2 (S : List SE) (h : RH) (nb : List Nat) (r q : RV) : Bool :=
  match q with
  | .tup m => match r with
    | .tup l => mtL (mt1 S h nb) l m
    | .pl (.tuple vs) => mtL (mt1 S h nb) (vs.toList.map .pl) m
    | _ => false
  | q => mt1 S h nb r q
/-- The same of blocks. -/
noncomputable def mtO (S : List SE) (h : RH) (nb : List Nat) (o q : Option RO) : Bool :=
  match q with
  | none => true
  | some (.cells m e r f) => match o with
    | some (.cells l e' r' f') => mtL (mt1 S h nb) l m && Nat.beq e e' && r == r' && f == f'
    | _ => false
  | some (.lent m e) => match o with
    | some (.lent l e') => mtL (mt1 S h nb) l m && Nat.beq e e'
    | _ => false
  | some (.iter s p) => match o with
    | some (.iter s' p') => sameBs s.data.toList s'.data.toList && Nat.beq p p'
    | _ => false
  | some (.lst i e w) => match o with
    | some (.lst j e' w') => match lookL S i with
      | some (.inl j') => Nat.beq j j' && Nat.beq e e' && w == w'
      | _ => false
    | some (.cells l e' _ false) => match lookL S i with
      | some (.inr l') => eqSs l' l && l'.all flat0 && Nat.beq e e' && w
      | _ => false
    | _ => false
  | some (.lstA i) => match o with
    | some (.lstA j) => match lookL S i with
      | some (.inl j') => Nat.beq j j'
      | _ => false
    | _ => false
  | some (.lstQ i e s) => match o with
    | some (.lstQ j e' s') => match lookL S i with
      | some (.inl j') => Nat.beq j j' && Nat.beq e e' && Nat.beq s s'
      | _ => false
    | _ => false
  | some (.lstL i e s) => match o with
    | some (.lstL j e' s') => match lookL S i with
      | some (.inl j') => Nat.beq j j' && Nat.beq e e' && Nat.beq s s'
      | _ => false
    | _ => false
  | some (.lstB i s) => match o with
    | some (.lstB j s') => match lookL S i with
      | some (.inl j') => Nat.beq j j' && Nat.beq s s'
      | _ => false
    | _ => false
  | some (.lp _ _) => false
noncomputable def mtH (f : Option RO → Option RO → Bool) (h : RH) (R : List Nat) : RH → Bool :=
  List.rec (motive := fun _ => RH → Bool) (fun m => match m with | [] => true | _ => false) (fun x _ ih m => match m with | [] => false | y :: m => match f (lkp h x) y with | true => ih m | false => false) R
/-- The temporaries: a wild cell of the pattern bears its place's number. -/
noncomputable def mtT (f : RV → RV → Bool) (l : List RV) : Nat → List RV → Bool :=
  List.rec (motive := fun _ => Nat → List RV → Bool) (fun _ m => match m with | [] => true | _ => false) (fun x _ ih j m => match m with
    | [] => false
    | y :: m => match y with
      | .wild k => match Nat.beq k j with | true => ih (j + 1) m | false => false
      | y => match f x y with | true => ih (j + 1) m | false => false) l
noncomputable def mtS (S : List SE) (R : List Nat) (s p : St) : Bool :=
  match nodupR R && R.all fun x => Nat.blt x s.h.length with
  | true => match mtH (mtO S s.h R) s.h R p.h with
    | true => mtT (mt2 S s.h R) s.t 0 p.t
    | false => false
  | false => false

/-- The pattern's names stand for what the list says. -/
structure Holds (S : List SE) (V V' : Val) : Prop where
  i : ∀ j r, lookI S j = some r → ∀ k, (∀ a, @cv V r = .int k a → V'.I j = a)
  b : ∀ j r, lookB S j = some r → (∀ a, @cv V r = .bool a → V'.B j = a)
  s : ∀ j r, lookS S j = some r → (∀ a, @cv V r = .string a → V'.S j = a)
  l : ∀ j k, lookL S j = some (.inl k) → V'.L j = V.L k
  n : ∀ j m, lookL S j = some (.inr m) → V'.L j = m.map (@cv V)

def pickE (R : List Nat) (E : Env) : Env := R.map fun x => E.getD x ⟨0, 0, undef, .no⟩
theorem rlk_spec {R : List Nat} {b c : Nat} (h : rlk R b c = true) : R[b]? = some c := by
  unfold rlk at h
  split at h
  · rename_i x hx
    rw [hx, Nat.eq_of_beq_eq_true h]
  · cases h
theorem pick_get {R : List Nat} {E : Env} {b c : Nat} {p : EP} (hb : R[b]? = some c) (hp : E[c]? = some p) : (pickE R E)[b]? = some p := by
  unfold pickE
  rw [List.getElem?_map, hb]
  simp [List.getD_eq_getElem?_getD, hp]
theorem nodupR_spec : ∀ (R : List Nat), nodupR R = true → ∀ b b' c : Nat, R[b]? = some c → R[b']? = some c → b = b'
  | [], _, b, b', c, h, _ => by simp at h
  | x :: R, h, b, b', c, h1, h2 => by
    have h : (match R.all fun y => !(Nat.beq x y) with | true => nodupR R | false => false) = true := h
    split at h
    · rename_i hx
      have hno : ∀ y, y ∈ R → x ≠ y := fun y hy e => by
        have := List.all_eq_true.1 hx y hy
        subst e
        simp at this
      cases b with
      | zero => cases b' with
        | zero => rfl
        | succ b' =>
          simp at h1 h2
          exact absurd h1 (hno c (List.mem_of_getElem? h2))
      | succ b => cases b' with
        | zero =>
          simp at h1 h2
          exact absurd h2 (hno c (List.mem_of_getElem? h1))
        | succ b' =>
          simp at h1 h2
          rw [nodupR_spec R h b b' c h1 h2]
    · cases h
theorem blt_lt {a b : Nat} (h : Nat.blt a b = true) : a < b := by
  unfold Nat.blt at h
  exact Nat.le_of_ble_eq_true h
theorem mtL_spec {f : RV → RV → Bool} : ∀ (l m : List RV), mtL f l m = true → All2 (fun x y => f x y = true) l m
  | [], [], _ => .nil
  | [], _ :: _, h => by cases h
  | _ :: _, [], h => by cases h
  | x :: l, y :: m, h => by
    have h : (match f x y with | true => mtL f l m | false => false) = true := h
    split at h
    · rename_i hx; exact .cons hx (mtL_spec l m h)
    · cases h
theorem all2_trans {E E' : Env} {V V' : Val} {f : RV → RV → Bool} (hf : ∀ r q v, f r q = true → @VRel V E r v → @VRel V' E' q v) : ∀ {l m : List RV} {vs : List Value}, All2 (fun x y => f x y = true) l m → All2 (@VRel V E) l vs → All2 (@VRel V' E') m vs
  | _, _, _, .nil, h => by cases h; exact .nil
  | _, _, _, .cons h1 h2, h => by
    cases h with
    | cons k1 k2 => exact .cons (hf _ _ _ h1 k1) (all2_trans hf h2 k2)

section
variable {V V' : Val} {S : List SE} {E : Env} {h : RH} {nb : List Nat}
theorem mt0_ok (hS : Holds S V V') {r q : RV} {v : Value} (hm : mt0 S h nb r q = true) (hr : @VRel V E r v) : @VRel V' (pickE nb E) q v := by
  unfold mt0 at hm
  split at hm
  · rename_i k i
    split at hm
    · rename_i u hu
      split at hm
      · rename_i k' j he
        have e := eqS_eq he
        subst e
        have hk := kindCode_inj (Nat.eq_of_beq_eq_true hm)
        subst hk
        have hr : v = .int k (V.I j) := hr
        show v = .int k (V'.I i)
        rw [hS.i i _ hu k (V.I j) rfl]
        exact hr
      · rename_i k' a he
        have e := eqS_eq he
        subst e
        have hk := kindCode_inj (Nat.eq_of_beq_eq_true hm)
        subst hk
        have hr : v = .int k a := hr
        show v = .int k (V'.I i)
        rw [hS.i i _ hu k a rfl]
        exact hr
      · cases hm
    · cases hm
  · rename_i i
    split at hm
    · rename_i u hu
      split at hm
      · rename_i j he
        have e := eqS_eq he
        subst e
        have hr : v = .bool (V.B j) := hr
        show v = .bool (V'.B i)
        rw [hS.b i _ hu (V.B j) rfl]
        exact hr
      · rename_i a he
        have e := eqS_eq he
        subst e
        have hr : v = .bool a := hr
        show v = .bool (V'.B i)
        rw [hS.b i _ hu a rfl]
        exact hr
      · cases hm
    · cases hm
  · rename_i i
    split at hm
    · rename_i u hu
      split at hm
      · rename_i j he
        have e := eqS_eq he
        subst e
        have hr : v = .string (V.S j) := hr
        show v = .string (V'.S i)
        rw [hS.s i _ hu (V.S j) rfl]
        exact hr
      · rename_i a he
        have e := eqS_eq he
        subst e
        have hr : v = .string a := hr
        show v = .string (V'.S i)
        rw [hS.s i _ hu a rfl]
        exact hr
      · cases hm
    · cases hm
  · split at hm
    · have hr : v = _ := hr
      show v = _
      rw [hr]
      exact sameV_eq _ _ hm
    · cases hm
  · split at hm
    · simp only [Bool.and_eq_true] at hm
      obtain ⟨h1, h2⟩ := hm
      obtain rfl := Nat.eq_of_beq_eq_true h2
      obtain ⟨p, hp, hv⟩ := hr
      exact ⟨p, pick_get (rlk_spec h1) hp, hv⟩
    · cases hm
  · split at hm
    · simp only [Bool.and_eq_true] at hm
      obtain ⟨⟨⟨⟨h1, h2⟩, h3⟩, h4⟩, h5⟩ := hm
      obtain rfl := Nat.eq_of_beq_eq_true h2
      obtain rfl := Nat.eq_of_beq_eq_true h3
      obtain rfl := Nat.eq_of_beq_eq_true h4
      have h5 := eq_of_beq h5
      subst h5
      obtain ⟨p, k, hp, hv⟩ := hr
      exact ⟨p, k, pick_get (rlk_spec h1) hp, hv⟩
    · cases hm
  · split at hm
    · split at hm
      · rename_i j' hl
        simp only [Bool.and_eq_true] at hm
        obtain ⟨⟨h1, h2⟩, h3⟩ := hm
        obtain rfl := Nat.eq_of_beq_eq_true h2
        obtain rfl := Nat.eq_of_beq_eq_true h3
        obtain ⟨p, n, hp, hs, hn, hv⟩ := hr
        refine ⟨p, n, pick_get (rlk_spec h1) hp, hs, ?_, hv⟩
        rw [hS.l _ _ hl]
        exact hn
      · cases hm
    · split at hm
      · rename_i n s' _ _ l l' _ _ _ hl _
        simp only [Bool.and_eq_true] at hm
        obtain ⟨⟨⟨⟨h1, h2⟩, h4⟩, h5⟩, _⟩ := hm
        obtain rfl := Nat.eq_of_beq_eq_true h2
        obtain ⟨p, k, hp, hk, hn, hv⟩ := hr
        have hk : k = (p.2 - 0) / _ := hk
        rw [Nat.sub_zero] at hk
        subst hk
        refine ⟨p, n, pick_get (rlk_spec h1) hp, blt_lt h4, ?_, hn, hv⟩
        rw [hS.n _ _ hl, List.length_map]
        exact Nat.eq_of_beq_eq_true h5
      · cases hm
    · cases hm
  · split at hm
    · split at hm
      · rename_i j' hl
        simp only [Bool.and_eq_true] at hm
        obtain ⟨⟨h1, h2⟩, h3⟩ := hm
        obtain rfl := Nat.eq_of_beq_eq_true h2
        obtain rfl := Nat.eq_of_beq_eq_true h3
        obtain ⟨p, a, n, cap, hp, g1, g2, hs, hn, hv⟩ := hr
        rw [← hS.l _ _ hl] at g2 hn
        exact ⟨p, a, n, cap, pick_get (rlk_spec h1) hp, g1, g2, hs, hn, hv⟩
      · cases hm
    · cases hm
  · split at hm
    · split at hm
      · rename_i k' _ _ _ _ _ a u c hl hu hc
        simp only [Bool.and_eq_true] at hm
        obtain ⟨⟨⟨⟨h1, h2⟩, h3⟩, h4⟩, h5⟩ := hm
        obtain rfl := Nat.eq_of_beq_eq_true h2
        obtain rfl := Nat.eq_of_beq_eq_true h3
        obtain rfl := Nat.eq_of_beq_eq_true h4
        have e := eqS_eq h5
        subst e
        obtain ⟨p, oa, n, cap, hp, g1, g2, hs, hn, ha, hv⟩ := hr
        rw [← hS.l _ _ hl, ← hS.l _ _ hc] at g2
        rw [← hS.l _ _ hc] at hn ha
        rw [← hS.i _ _ hu .i64 (V.I k') rfl] at g1 g2
        exact ⟨p, oa, n, cap, pick_get (rlk_spec h1) hp, g1, g2, hs, hn, ha, hv⟩
      · cases hm
    · cases hm
  · cases hm
theorem mt1_ok (hS : Holds S V V') {r q : RV} {v : Value} (hm : mt1 S h nb r q = true) (hr : @VRel V E r v) : @VRel V' (pickE nb E) q v := by
  unfold mt1 at hm
  split at hm
  · split at hm
    · rename_i l hl
      obtain ⟨l', rfl, h1⟩ := @aggL_rel V E r l v hl hr
      exact ⟨l', rfl, (@VRels_iff V' _ _ _).2 (all2_trans (fun r q v => mt0_ok hS) (mtL_spec _ _ hm) h1)⟩
    · cases hm
  · split at hm
    · simp only [Bool.and_eq_true] at hm
      obtain ⟨⟨h1, h2⟩, h3⟩ := hm
      obtain rfl := Nat.eq_of_beq_eq_true h1
      obtain ⟨a', c', rfl, k1, k2⟩ := hr
      exact ⟨a', c', rfl, (@VRels_iff V' _ _ _).2 (all2_trans (fun r q v => mt0_ok hS) (mtL_spec _ _ h2) ((@VRels_iff V _ _ _).1 k1)), (@VRels_iff V' _ _ _).2 (all2_trans (fun r q v => mt0_ok hS) (mtL_spec _ _ h3) ((@VRels_iff V _ _ _).1 k2))⟩
    · cases hm
  · exact mt0_ok hS hm hr
theorem mt2_ok (hS : Holds S V V') {r q : RV} {v : Value} (hm : mt2 S h nb r q = true) (hr : @VRel V E r v) : @VRel V' (pickE nb E) q v := by
  unfold mt2 at hm
  split at hm
  · split at hm
    · obtain ⟨l', rfl, h1⟩ := hr
      exact ⟨l', rfl, (@VRels_iff V' _ _ _).2 (all2_trans (fun r q v => mt1_ok hS) (mtL_spec _ _ hm) ((@VRels_iff V _ _ _).1 h1))⟩
    · rename_i vs
      have hr : v = .tuple vs := hr
      subst hr
      exact ⟨vs, rfl, (@VRels_iff V' _ _ _).2 (all2_trans (fun r q v => mt1_ok hS) (mtL_spec _ _ hm) (@All2.pls V E vs.toList))⟩
    · cases hm
  · exact mt1_ok hS hm hr
theorem mtO_ok (hS : Holds S V V') {o q : RO} {p : EP} {w : World} (hm : mtO S h nb (some o) (some q) = true) (hr : @BRel V E p w o) : @BRel V' (pickE nb E) p w q ∧ q.own = o.own := by
  have cellsOK : ∀ {l m : List RV} {cur : Array Value}, mtL (mt1 S h nb) l m = true → All2 (@VRel V E) l (cur.toList.take l.length) → All2 (@VRel V' (pickE nb E)) m (cur.toList.take m.length) := by
    intro l m cur h1 h2
    have h3 := mtL_spec _ _ h1
    rw [← h3.length]
    exact all2_trans (fun r q v => mt1_ok hS) h3 h2
  unfold mtO at hm
  split at hm
  · rename_i hq; cases hq
  · rename_i m e r f hq
    cases hq
    split at hm
    · rename_i l e' r' f' ho
      cases ho
      simp only [Bool.and_eq_true] at hm
      obtain ⟨⟨⟨h1, h2⟩, h3⟩, h4⟩ := hm
      obtain rfl := Nat.eq_of_beq_eq_true h2
      have h3 := eq_of_beq h3
      have h4 := eq_of_beq h4
      subst h3
      subst h4
      obtain ⟨cur, fr, k1, k2, k3, k4, k5⟩ := hr
      have hl := (mtL_spec _ _ h1).length
      exact ⟨⟨cur, fr, k1, k2, cellsOK h1 k3, fun hh => by rw [← hl]; exact k4 hh, k5⟩, rfl⟩
    · cases hm
  · rename_i m e hq
    cases hq
    split at hm
    · rename_i l e' ho
      cases ho
      simp only [Bool.and_eq_true] at hm
      obtain ⟨h1, h2⟩ := hm
      obtain rfl := Nat.eq_of_beq_eq_true h2
      obtain ⟨cur, fr, k1, k2, k3⟩ := hr
      exact ⟨⟨cur, fr, k1, k2, cellsOK h1 k3⟩, rfl⟩
    · cases hm
  · rename_i s pos hq
    cases hq
    split at hm
    · rename_i s' p' ho
      cases ho
      simp only [Bool.and_eq_true] at hm
      obtain ⟨h1, h2⟩ := hm
      obtain rfl := Nat.eq_of_beq_eq_true h2
      rw [sameBs_eq, eqB_eq] at h1
      have e : s = s' := ByteArray.ext (Array.ext' (beq_iff_eq.mp h1))
      subst e
      exact ⟨hr, rfl⟩
    · cases hm
  · rename_i i e ow hq
    cases hq
    split at hm
    · rename_i j e' w' ho
      cases ho
      split at hm
      · rename_i j' hl
        simp only [Bool.and_eq_true] at hm
        obtain ⟨⟨h1, h2⟩, h3⟩ := hm
        obtain rfl := Nat.eq_of_beq_eq_true h1
        obtain rfl := Nat.eq_of_beq_eq_true h2
        have h3 := eq_of_beq h3
        subst h3
        obtain ⟨cur, fr, k1, k2, k3, k4⟩ := hr
        refine ⟨⟨cur, fr, k1, k2, ?_, k4⟩, rfl⟩
        rw [hS.l _ _ hl]
        exact k3
      · cases hm
    · rename_i l e' room ho
      cases ho
      split at hm
      · rename_i l' hl
        simp only [Bool.and_eq_true] at hm
        obtain ⟨⟨⟨h1, h2⟩, h3⟩, h4⟩ := hm
        obtain rfl := Nat.eq_of_beq_eq_true h3
        have h1 := eqSs_eq _ _ h1
        subst h1
        subst h4
        obtain ⟨cur, fr, k1, k2, k3, _, k5⟩ := hr
        refine ⟨⟨cur, fr, k1, k2, ?_, fun _ => k5 rfl⟩, rfl⟩
        rw [hS.n _ _ hl, List.length_map]
        have h2' := @rel_cvs V E _ h2
        exact @VRels.fn V E _ _ _ ((@VRels_iff V _ _ _).2 k3) ((@VRels_iff V _ _ _).2 h2')
      · cases hm
    · cases hm
  · rename_i i hq
    cases hq
    split at hm
    · rename_i j ho
      cases ho
      split at hm
      · rename_i j' hl
        obtain rfl := Nat.eq_of_beq_eq_true hm
        obtain ⟨k1, a, n, cap, k2, k3, k4⟩ := hr
        rw [← hS.l _ _ hl] at k3 k4
        exact ⟨⟨k1, a, n, cap, k2, k3, k4⟩, rfl⟩
      · cases hm
    · cases hm
  · rename_i i e0 s0 hq
    cases hq
    split at hm
    · rename_i j e1 s1 ho
      cases ho
      split at hm
      · rename_i j' hl
        simp only [Bool.and_eq_true] at hm
        obtain ⟨⟨h1, h2⟩, h3⟩ := hm
        obtain rfl := Nat.eq_of_beq_eq_true h1
        obtain rfl := Nat.eq_of_beq_eq_true h2
        obtain rfl := Nat.eq_of_beq_eq_true h3
        obtain ⟨off, n, cap, cur, k1, k2, k3, k4, k5, k6, k7, k8⟩ := hr
        rw [← hS.l _ _ hl] at k6 k8
        exact ⟨⟨off, n, cap, cur, k1, k2, k3, k4, k5, k6, k7, k8⟩, rfl⟩
      · cases hm
    · cases hm
  · rename_i i e0 s0 hq
    cases hq
    split at hm
    · rename_i j e1 s1 ho
      cases ho
      split at hm
      · rename_i j' hl
        simp only [Bool.and_eq_true] at hm
        obtain ⟨⟨h1, h2⟩, h3⟩ := hm
        obtain rfl := Nat.eq_of_beq_eq_true h1
        obtain rfl := Nat.eq_of_beq_eq_true h2
        obtain rfl := Nat.eq_of_beq_eq_true h3
        obtain ⟨cur, k1, k2, k3, k4⟩ := hr
        rw [← hS.l _ _ hl] at k3 k4
        exact ⟨⟨cur, k1, k2, k3, k4⟩, rfl⟩
      · cases hm
    · cases hm
  · rename_i i s0 hq
    cases hq
    split at hm
    · rename_i j s1 ho
      cases ho
      split at hm
      · rename_i j' hl
        simp only [Bool.and_eq_true] at hm
        obtain ⟨h1, h3⟩ := hm
        obtain rfl := Nat.eq_of_beq_eq_true h1
        obtain rfl := Nat.eq_of_beq_eq_true h3
        obtain ⟨k0, oa, n, cap, k1, k2, k3, k4⟩ := hr
        rw [← hS.l _ _ hl] at k2 k4
        exact ⟨⟨k0, oa, n, cap, k1, k2, k3, k4⟩, rfl⟩
      · cases hm
    · cases hm
  · cases hm
omit [Val] in
theorem mtO_nest {S : List SE} {h : RH} {nb : List Nat} {o q : RO} (hm : mtO S h nb (some o) (some q) = true) : q.nest = o.nest := by
  cases q <;> cases o <;> first | rfl | (unfold mtO at hm; cases hm)

theorem mtH_get {f : Option RO → Option RO → Bool} {h : RH} : ∀ (R : List Nat) (m : RH), mtH f h R m = true → R.length = m.length ∧ ∀ (b : Nat) q, at? m b = some q → ∃ c, R[b]? = some c ∧ f (at? h c) (some q) = true
  | [], [], _ => ⟨rfl, fun b q hq => by simp [at?] at hq⟩
  | [], _ :: _, h => by cases h
  | _ :: _, [], h => by cases h
  | x :: l, y :: m, h => by
    have h : (match f (lkp _ x) y with | true => mtH f _ l m | false => false) = true := h
    split at h
    · rename_i hx
      obtain ⟨h1, h2⟩ := mtH_get l m h
      refine ⟨by simp [h1], fun b q hq => ?_⟩
      cases b with
      | zero =>
        have hq : y = some q := by simpa [at?] using hq
        subst hq
        rw [lkp_eq] at hx
        exact ⟨x, by simp, hx⟩
      | succ b =>
        obtain ⟨c, h3, h4⟩ := h2 b q (by simpa [at?] using hq)
        exact ⟨c, by simpa using h3, h4⟩
    · cases h
theorem mtT_ok {f : RV → RV → Bool} {E' : Env} (hf : ∀ r q v, f r q = true → @VRel V E r v → @VRel V' E' q v) {ws : List Value} (hW : ∀ j v, ws[j]? = some v → V'.W j = v) : ∀ (l m : List RV) (j : Nat) (vs : List Value), mtT f l j m = true → All2 (@VRel V E) l vs → ws.drop j = vs → All2 (@VRel V' E') m vs
  | [], [], _, _, _, h, _ => by cases h; exact .nil
  | [], _ :: _, _, _, hm, _, _ => by cases hm
  | _ :: _, [], _, _, hm, _, _ => by cases hm
  | x :: l, y :: m, j, _, hm, h, hd => by
    cases h with
    | cons h1 h2 =>
      rename_i v vs
      have hd2 : ws.drop (j + 1) = vs := by
        rw [← List.drop_drop, hd]
        rfl
      have hj : ws[j]? = some v := by
        have := congrArg List.head? hd
        simpa [List.head?_drop] using this
      have hm : (match (generalizing := false) y with
        | .wild k => match Nat.beq k j with | true => mtT f l (j + 1) m | false => false
        | y => match f x y with | true => mtT f l (j + 1) m | false => false) = true := hm
      split at hm
      · split at hm
        · rename_i k hk
          obtain rfl := Nat.eq_of_beq_eq_true hk
          exact .cons (show v = V'.W _ from (hW _ _ hj).symm) (mtT_ok hf hW l m _ vs hm h2 hd2)
        · cases hm
      · split at hm
        · rename_i hx
          exact .cons (hf _ _ _ hx h1) (mtT_ok hf hW l m _ vs hm h2 hd2)
        · cases hm
omit [Val] in
theorem pick_pin {R : List Nat} {E : Env} {w : World} (hp : ∀ (i : Nat) p, E[i]? = some p → PinOK w p) : ∀ (i : Nat) q, (pickE R E)[i]? = some q → PinOK w q := by
  intro i q hq
  unfold pickE at hq
  rw [List.getElem?_map] at hq
  cases hx : R[i]? with
  | none => rw [hx] at hq; cases hq
  | some x =>
    rw [hx] at hq
    have hq : E.getD x ⟨0, 0, undef, .no⟩ = q := Option.some.inj hq
    rw [List.getD_eq_getElem?_getD] at hq
    cases he : E[x]? with
    | none => rw [he] at hq; subst hq; exact trivial
    | some p => rw [he] at hq; subst hq; exact hp x p he
theorem mtH_inv {ro : Ro} {base : Nat} {w0 w : World} {p : RH} (hS : Holds S V V') (hn : nodupR nb = true) (hm : mtH (mtO S h nb) h nb p = true) (H : @HInv V ro base w0 E h w) : @HInv V' ro base w0 (pickE nb E) p w := by
  obtain ⟨hlen, hget⟩ := mtH_get _ _ hm
  have back : ∀ b q, at? p b = some q → ∃ c o, nb[b]? = some c ∧ at? h c = some o ∧ mtO S h nb (some o) (some q) = true := by
    intro b q hb
    obtain ⟨c, hc, this⟩ := hget b q hb
    cases ho : at? h c with
    | none =>
      rw [ho] at this
      cases q <;> cases this
    | some o =>
      rw [ho] at this
      exact ⟨c, o, hc, ho, this⟩
  refine ⟨@HInv.below V _ _ _ _ _ _ H, @HInv.lb V _ _ _ _ _ _ H, by simp [pickE, hlen], @HInv.ro V _ _ _ _ _ _ H, fun b q hb => ?_, fun b b' q q' k k' hb hb' v1 v2 e1 e2 e3 => ?_, fun b q k hb hn hk x hx => ?_, fun i q hq => pick_pin (fun i p hp => @HInv.pin V _ _ _ _ _ _ H i p hp) i q hq⟩
  rotate_right
  · obtain ⟨c, o, hc, ho, hmo⟩ := back b q hb
    obtain ⟨k1, g1, _, g3⟩ := @HInv.blk V _ _ _ _ _ _ H c o ho
    have w1 := (mtO_ok hS hmo g3).2
    rw [pick_get hc g1] at hk
    cases hk
    obtain ⟨f1, f2⟩ := @HInv.frm V _ _ _ _ _ _ H c o _ ho ((mtO_nest hmo) ▸ hn) g1 x hx
    refine ⟨f1, ?_⟩
    rw [w1]
    split
    · rename_i how
      rw [if_pos how] at f2
      refine ⟨f2.1, fun b' q' k' hb' v2 e2 => ?_⟩
      obtain ⟨c', o', hc', ho', hmo'⟩ := back b' q' hb'
      obtain ⟨k2, g1', _, g3'⟩ := @HInv.blk V _ _ _ _ _ _ H c' o' ho'
      have w2 := (mtO_ok hS hmo' g3').2
      rw [pick_get hc' g1'] at e2
      cases e2
      exact f2.2 c' o' _ ho' (w2 ▸ v2) g1'
    · rename_i how
      rwa [if_neg how] at f2
  · obtain ⟨c, o, hc, ho, hmo⟩ := back b q hb
    obtain ⟨k, h1, h2, h3⟩ := @HInv.blk V _ _ _ _ _ _ H c o ho
    obtain ⟨h4, h5⟩ := mtO_ok hS hmo h3
    exact ⟨k, pick_get hc h1, by rw [h5]; exact h2, h4⟩
  · obtain ⟨c, o, hc, ho, hmo⟩ := back b q hb
    obtain ⟨c', o', hc', ho', hmo'⟩ := back b' q' hb'
    obtain ⟨k1, g1, _, g3⟩ := @HInv.blk V _ _ _ _ _ _ H c o ho
    obtain ⟨k2, g1', _, g3'⟩ := @HInv.blk V _ _ _ _ _ _ H c' o' ho'
    have w1 := (mtO_ok hS hmo g3).2
    have w2 := (mtO_ok hS hmo' g3').2
    rw [pick_get hc g1] at e1
    rw [pick_get hc' g1'] at e2
    cases e1
    cases e2
    have hcc := @HInv.inj V _ _ _ _ _ _ H c c' o o' _ _ ho ho' (w1 ▸ v1) (w2 ▸ v2) g1 g1' e3
    subst hcc
    exact nodupR_spec nb hn b b' c hc hc'
/-- A state that fits a pattern, told by the pattern's names. -/
theorem mtS_ok {g g' : Cfg} (hg : g'.ro = g.ro) {base : Nat} {w0 w : World} {a : Act} {s p : St} (hS : Holds S V V') (hm : mtS S nb s p = true) (hW : ∀ j v, a.tmps.toList[j]? = some v → V'.W j = v) (Sm : @Sim V g base w0 s E a w) : @Sim V' g' base w0 p (pickE nb E) a w := by
  unfold mtS at hm
  split at hm
  · rename_i hle
    simp only [Bool.and_eq_true] at hle
    split at hm
    · rename_i hh
      refine ⟨mtT_ok (fun r q v => mt2_ok hS) hW _ _ 0 _ hm (@Sim.t V _ _ _ _ _ _ _ Sm) rfl, @Sim.d V _ _ _ _ _ _ _ Sm, ?_⟩
      rw [hg]
      exact mtH_inv hS hle.1 hh (@Sim.h V _ _ _ _ _ _ _ Sm)
    · cases hm
  · cases hm
end
end Go.Ri

/-! Functions with loops: how they begin, how they end; slices that came in, by a list's name. -/
namespace Go.Ri
open Go Go.RowKit

section
variable [Val] {P : Program} {g : Cfg} {C : CallF} {base : Nat} {w0 : World}

theorem done_post {fn : Func} {ex : Ex} {s : St} {r : RV} {h' : RH} (hd : cDone P g fn (some (ex, s)) = some (r, h')) {D : Ending → World → Prop} {E : Env} {a : Act} {w : World} (S : Sim g base w0 s E a w)
    (hD : ∀ u, VRel E r u → HInv g.ro base w0 E h' w → D (.returned u) w) : bodyPost P fn D ex.toExit a w := by
  have done : (ex = .normal ∨ ex = .ret) → (match resultsR P g s fn.results.toList with | some [v] => fRV v fun v => some (v, s.h) | some vs => fRV (mkTup vs) fun v => some (v, s.h) | none => none) = some (r, h') → bodyPost P fn D ex.toExit a w := by
    intro hor hres
    have key : a.defers = [] ∧ ∃ v, (results fn a.tmps).run P w = .ok v w ∧ D (.returned v) w := by
      refine ⟨S.d, ?_⟩
      cases hrr : resultsR P g s fn.results.toList with
      | none => rw [hrr] at hres; cases hres
      | some rvs =>
        rw [hrr] at hres
        obtain ⟨us, hus, hrun⟩ := resultsR_ok S.t S.h _ _ hrr
        have hrun := results_run hrun
        cases hus with
        | nil =>
          simp only [fRV_eq] at hres
          cases hres
          exact ⟨_, hrun, hD _ (mkTup_rel .nil) S.h⟩
        | cons h1 hrest =>
          cases hrest with
          | nil =>
            simp only [fRV_eq] at hres
            cases hres
            exact ⟨_, hrun, hD _ h1 S.h⟩
          | cons h2 hrest =>
            simp only [fRV_eq] at hres
            cases hres
            exact ⟨_, hrun, hD _ (mkTup_rel (.cons h1 (.cons h2 hrest))) S.h⟩
    rcases hor with rfl | rfl
    · exact key
    · exact key
  unfold cDone at hd
  cases ex with
  | normal => exact done (.inl rfl) hd
  | exit id => cases hd
  | ret => exact done (.inr rfl) hd

def startSt (fn : Func) (args : List RV) (h : RH) : St := ⟨args ++ List.replicate (fn.ntmps - args.length) (.pl undef), h⟩

theorem calls_stop (hm : P.follows .mixedOrders = true) (G : CfgOK P g) (hC : CallOK P g C) (hX : XOK P g) {f : FuncId} {fn : Func} {c : Code} (hf : P.funcs[f]? = some fn) (hb : fn.body = some c) {m n : Nat} {plan : List Bool} {args : List RV} {h : RH} {O : Stop}
    (hgo : go P g C m n plan (.run c) [] (startSt fn args h) = some O) {E : Env} {w : World} {vs : List Value} {D : Ending → World → Prop} (H : HInv g.ro base w0 E h w) (ha : All2 (VRel E) args vs)
    (hO : ∀ E' a' w', E <+: E' → Owed P g base w0 (bodyPost P fn D) O E' a' w') : Calls P f vs.toArray w D := by
  have hal := ha.length
  have ht : All2 (VRel E) (args ++ List.replicate (fn.ntmps - args.length) (.pl undef)) (vs.toArray ++ Array.replicate (fn.ntmps - vs.toArray.size) undef).toList := by
    simp only [Array.toList_append, Array.toList_replicate, List.size_toArray]
    rw [hal]
    exact ha.append (All2.replicate _ (show VRel E (.pl undef) undef from rfl))
  refine calls_of_wp hf hb ?_
  exact go_ok hm G hC hX n plan (.run c) [] _ E { tmps := vs.toArray ++ Array.replicate (fn.ntmps - vs.toArray.size) undef, defers := [] } w hgo ⟨ht, rfl, H⟩ hO

/-- What a part of a value is in a world: what it stands for, or a slice that holds a named list, wherever it lies. -/
def NVal0 (w : World) (d : RV) (v : Value) : Prop :=
  match d with
  | .slN _ i s => ∃ oa n cap, v = .slice oa n cap ∧ (Val.L i ≠ [] → ∃ a : Addr, oa = some a ∧ a.block < w.heap.size) ∧ 0 < s ∧ (Val.L i).length = n * s ∧ n ≤ cap ∧ ∀ a, oa = some a → ∀ j u, (Val.L i)[j]? = some u → w.cell? (a.add j) = some u
  | d => v = cv d
/-- A function value that holds one cell: the cell's type, and what it holds. -/
def FnVal (w : World) (f : Fn) (a c : List RV) (v : Value) : Prop :=
  match f, a, c with
  | .func k, [.pl (.int .i64 e)], [x] => ∃ p cur fr, v = .func (.func k) #[] #[.pointer (some ⟨p, 0, none⟩)] ∧ w.heap[p]? = some (.cells cur e.toNat fr) ∧ cur.toList.take 1 = [cv x]
  | f, a, c => v = cvF (.fn f a c)
/-- What a value is in a world: what it stands for, or a slice that holds a named list, wherever it lies, or a structure with such slices. -/
def NVal (w : World) (d : RV) (v : Value) : Prop :=
  match d with
  | .slN _ i s => ∃ oa n cap, v = .slice oa n cap ∧ (Val.L i ≠ [] → ∃ a : Addr, oa = some a ∧ a.block < w.heap.size) ∧ 0 < s ∧ (Val.L i).length = n * s ∧ n ≤ cap ∧ ∀ a, oa = some a → ∀ j u, (Val.L i)[j]? = some u → w.cell? (a.add j) = some u
  | .slL i s => ∃ oa n cap ss, v = .slice oa n cap ∧ (Val.L i ≠ [] → ∃ a : Addr, oa = some a ∧ a.block < w.heap.size) ∧ (Val.L i).length = n ∧ n ≤ cap ∧ (∀ a, oa = some a → ∀ (j : Nat) (u : Value), ss[j]? = some u → w.cell? (a.add j) = some u) ∧ All2 (Inn w s) (Val.L i) ss
  | .agg l => match l.all flat0 with
    | true => v = cvF (.agg l)
    | false => ∃ vs : Array Value, v = .agg vs ∧ All2 (NVal0 w) l vs.toList
  | .fn f a c => FnVal w f a c v
  | d => v = cvF d
def okN0 : RV → Bool
  | .slN _ _ _ => true
  | r => flat0 r
def okFn (f : Fn) (a c : List RV) : Bool :=
  match f, a, c with
  | .func _, [.pl (.int .i64 _)], [x] => flat0 x
  | _, _, _ => false
def okN : RV → Bool
  | .slN _ _ _ => true
  | .slL _ _ => true
  | .agg l => l.all okN0
  | .fn f a c => okFn f a c
  | r => flat r
def openL : List RV → Nat → List RV × RH
  | [], _ => ([], [])
  | .slN _ i s :: ds, b => (.slA b i s :: (openL ds (b + 1)).1, some (.lstA i) :: (openL ds (b + 1)).2)
  | r :: ds, b => (r :: (openL ds b).1, (openL ds b).2)
def openA (l : List RV) (b : Nat) : List RV × RH := match l.all flat0 with | true => (l, []) | false => openL l b
def openF (f : Fn) (a c : List RV) (b : Nat) : RV × RH :=
  match a, c with
  | [.pl (.int .i64 e)], [x] => (.fn f [] [.ptr b 0], [some (.lent [x] e.toNat)])
  | _, _ => (.fn f a c, [])
def openN : List RV → Nat → List RV × RH
  | [], _ => ([], [])
  | .slN _ i s :: ds, b => (.slA b i s :: (openN ds (b + 1)).1, some (.lstA i) :: (openN ds (b + 1)).2)
  | .slL i s :: ds, b => (.slA b i 1 :: (openN ds (b + 1)).1, some (.lstB i s) :: (openN ds (b + 1)).2)
  | .agg l :: ds, b => (.agg (openA l b).1 :: (openN ds (b + (openA l b).2.length)).1, (openA l b).2 ++ (openN ds (b + (openA l b).2.length)).2)
  | .fn f a c :: ds, b => ((openF f a c b).1 :: (openN ds (b + (openF f a c b).2.length)).1, (openF f a c b).2 ++ (openN ds (b + (openF f a c b).2.length)).2)
  | r :: ds, b => (r :: (openN ds b).1, (openN ds b).2)
def LentN (w : World) (o : Option RO) (p : EP) : Prop := ∃ i, o = some i ∧ i.own = false ∧ p.k = .no ∧ ∀ E, BRel E p w i
theorem HInv.lentN {ro : Ro} {w : World} (hr : RoIn ro w) {h : RH} {E : Env} (hl : All2 (LentN w) h E) : HInv ro w.heap.size w E h w := by
  refine ⟨Below.refl _ _, Nat.le_refl _, hl.length, fun k cs hk => hr k cs hk, fun b o hb => ?_, fun b b' o o' p p' hb hb' ho ho' => ?_, fun b o p hb hn hp q hq => ?_, fun i p hp => ?_⟩
  rotate_right
  · have hlen := hl.length
    have hi := (List.getElem?_eq_some_iff.1 hp).1
    obtain ⟨q, hq, _, _, _, hk, _⟩ := hl.get i _ (List.getElem?_eq_getElem (by omega))
    rw [hp] at hq
    cases hq
    exact PinOK.of_no hk
  rotate_right
  · unfold at? at hb
    cases hx : h[b]? with
    | none => rw [hx] at hb; cases hb
    | some x =>
      rw [hx] at hb
      obtain ⟨p', hp', l, hxe, hno, _, hB⟩ := hl.get b x hx
      subst hxe
      cases hb
      rw [hp] at hp'
      cases hp'
      have := (hB E).inn_lt hn q hq
      rw [if_neg (by rw [hno]; decide)]
      exact ⟨this, this⟩
  · unfold at? at hb
    cases hx : h[b]? with
    | none => rw [hx] at hb; cases hb
    | some x =>
      rw [hx] at hb
      obtain ⟨p, hp, l, hxe, hno, _, hB⟩ := hl.get b x hx
      subst hxe
      cases hb
      exact ⟨p, hp, by rw [if_neg (by rw [hno]; decide)]; exact (hB E).heap_lt, hB E⟩
  · unfold at? at hb
    cases hx : h[b]? with
    | none => rw [hx] at hb; cases hb
    | some x =>
      rw [hx] at hb
      obtain ⟨p, hp, l, hxe, hno, _, hB⟩ := hl.get b x hx
      subst hxe
      cases hb
      rw [hno] at ho
      cases ho
theorem openL_rel {w : World} (h0 : 0 < w.heap.size) : ∀ (ds : List RV) (vs : List Value) (E0 : Env), ds.all okN0 = true → All2 (NVal0 w) ds vs → ∃ E1, All2 (LentN w) (openL ds E0.length).2 E1 ∧ All2 (VRel (E0 ++ E1)) (openL ds E0.length).1 vs
  | [], vs, E0, _, hv => by
    cases hv
    exact ⟨[], .nil, .nil⟩
  | d :: ds, vs, E0, hok, hv => by
    simp only [List.all_cons, Bool.and_eq_true] at hok
    cases hv with
    | cons h1 h2 =>
      rename_i v vs
      obtain ⟨hd, hds⟩ := hok
      have other : (∀ e i s, d ≠ .slN e i s) → ∃ E1, All2 (LentN w) (openL (d :: ds) E0.length).2 E1 ∧ All2 (VRel (E0 ++ E1)) (openL (d :: ds) E0.length).1 (v :: vs) := by
        intro hne
        obtain ⟨E1, g1, g2⟩ := openL_rel h0 ds vs E0 hds h2
        have e : openL (d :: ds) E0.length = (d :: (openL ds E0.length).1, (openL ds E0.length).2) := by
          cases d <;> first | rfl | exact absurd rfl (hne _ _ _)
        rw [e]
        have hf : flat0 d = true := by
          cases d <;> first | exact hd | exact absurd rfl (hne _ _ _)
        have hv : v = cv d := by
          cases d <;> first | exact h1 | exact absurd rfl (hne _ _ _)
        exact ⟨E1, g1, .cons (hv ▸ rel_cv hf) g2⟩
      cases d with
      | slN e i s =>
        obtain ⟨a, n, cap, rfl, hp, hs, hn, hnk, hc⟩ := h1
        obtain ⟨q, hq, hqa⟩ : ∃ q, q < w.heap.size ∧ (Val.L i ≠ [] → ∃ a1 : Addr, a = some a1 ∧ a1.block = q) := by
          by_cases he : Val.L i = []
          · exact ⟨0, h0, fun h => absurd he h⟩
          · obtain ⟨a1, ha1, hb1⟩ := hp he
            exact ⟨a1.block, hb1, fun _ => ⟨a1, ha1, rfl⟩⟩
        obtain ⟨E1, g1, g2⟩ := openL_rel h0 ds vs (E0 ++ [(⟨q, 0, .slice a n cap, .no⟩ : EP)]) hds h2
        rw [List.length_append] at g1 g2
        refine ⟨(⟨q, 0, .slice a n cap, .no⟩ : EP) :: E1, .cons ⟨.lstA i, rfl, rfl, rfl, fun E => ⟨hq, a, n, cap, rfl, hqa, hc⟩⟩ g1, .cons ⟨⟨q, 0, .slice a n cap, .no⟩, a, n, cap, ?_, rfl, hqa, hs, hn, hnk, rfl⟩ ?_⟩
        · rw [List.getElem?_append_right (Nat.le_refl _)]
          simp
        · have : E0 ++ (⟨q, 0, .slice a n cap, .no⟩ : EP) :: E1 = (E0 ++ [(⟨q, 0, .slice a n cap, .no⟩ : EP)]) ++ E1 := by simp
          rw [this]
          exact g2
      | _ => exact other (fun _ _ _ h => by cases h)
theorem openA_rel {w : World} {l : List RV} {v : Value} (h0 : l.all flat0 = true ∨ 0 < w.heap.size) (E0 : Env) (hok : l.all okN0 = true) (hv : NVal w (.agg l) v) : ∃ E1, All2 (LentN w) (openA l E0.length).2 E1 ∧ VRel (E0 ++ E1) (.agg (openA l E0.length).1) v := by
  unfold openA
  unfold NVal at hv
  simp only at hv
  cases hf : l.all flat0 with
  | true =>
    rw [hf] at hv
    have hv : v = cvF (.agg l) := hv
    exact ⟨[], .nil, hv ▸ rel_cvF (show flat (.agg l) = true from hf)⟩
  | false =>
    rw [hf] at hv
    obtain ⟨vs, rfl, h2⟩ := hv
    obtain ⟨E1, g1, g2⟩ := openL_rel (h0.resolve_left (by rw [hf]; decide)) l vs.toList E0 hok h2
    exact ⟨E1, g1, vs, rfl, VRels_iff.2 g2⟩
theorem openF_rel {w : World} {f : Fn} {a c : List RV} {v : Value} (E0 : Env) (hok : okFn f a c = true) (hv : FnVal w f a c v) : ∃ E1, All2 (LentN w) (openF f a c E0.length).2 E1 ∧ VRel (E0 ++ E1) (openF f a c E0.length).1 v := by
  unfold okFn at hok
  split at hok
  · rename_i k e x
    obtain ⟨p, cur, fr, rfl, hp, hc⟩ := hv
    refine ⟨[(⟨p, cur.size, undef, .no⟩ : EP)], .cons ⟨.lent [x] e.toNat, rfl, rfl, rfl, fun E => ⟨cur, fr, hp, rfl, ?_⟩⟩ .nil, ?_⟩
    · show All2 (VRel E) [x] (cur.toList.take 1)
      rw [hc]
      exact .cons (rel_cv hok) .nil
    · refine ⟨#[], #[.pointer (some ⟨p, 0, none⟩)], rfl, rfl, ?_⟩
      refine ⟨.pointer (some ⟨p, 0, none⟩), [], rfl, ⟨⟨p, cur.size, undef, .no⟩, ?_, rfl⟩, rfl⟩
      rw [List.getElem?_append_right (Nat.le_refl _)]
      simp
  · cases hok
theorem openN_rel {w : World} : ∀ (ds : List RV) (_ : ds.all flat = true ∨ 0 < w.heap.size) (vs : List Value) (E0 : Env), ds.all okN = true → All2 (NVal w) ds vs → ∃ E1, All2 (LentN w) (openN ds E0.length).2 E1 ∧ All2 (VRel (E0 ++ E1)) (openN ds E0.length).1 vs
  | [], _, vs, E0, _, hv => by
    cases hv
    exact ⟨[], .nil, .nil⟩
  | d :: ds, h0, vs, E0, hok, hv => by
    have ht : ds.all flat = true ∨ 0 < w.heap.size := h0.imp (fun h => by simp only [List.all_cons, Bool.and_eq_true] at h; exact h.2) id
    have hh : flat d = true ∨ 0 < w.heap.size := h0.imp (fun h => by simp only [List.all_cons, Bool.and_eq_true] at h; exact h.1) id
    simp only [List.all_cons, Bool.and_eq_true] at hok
    cases hv with
    | cons h1 h2 =>
      rename_i v vs
      obtain ⟨hd, hds⟩ := hok
      have other : (∀ e i s, d ≠ .slN e i s) → (∀ l, d ≠ .agg l) → (∀ f a c, d ≠ .fn f a c) → (∀ i s, d ≠ .slL i s) → ∃ E1, All2 (LentN w) (openN (d :: ds) E0.length).2 E1 ∧ All2 (VRel (E0 ++ E1)) (openN (d :: ds) E0.length).1 (v :: vs) := by
        intro hne hna hnf hnl
        obtain ⟨E1, g1, g2⟩ := openN_rel ds ht vs E0 hds h2
        have e : openN (d :: ds) E0.length = (d :: (openN ds E0.length).1, (openN ds E0.length).2) := by
          cases d <;> first | rfl | exact absurd rfl (hne _ _ _) | exact absurd rfl (hna _) | exact absurd rfl (hnf _ _ _) | exact absurd rfl (hnl _ _)
        rw [e]
        have hf : flat d = true := by
          cases d <;> first | exact hd | exact absurd rfl (hne _ _ _) | exact absurd rfl (hna _) | exact absurd rfl (hnf _ _ _) | exact absurd rfl (hnl _ _)
        have hv : v = cvF d := by
          cases d <;> first | exact h1 | exact absurd rfl (hne _ _ _) | exact absurd rfl (hna _) | exact absurd rfl (hnf _ _ _) | exact absurd rfl (hnl _ _)
        exact ⟨E1, g1, .cons (hv ▸ rel_cvF hf) g2⟩
      cases d with
      | slN e i s =>
        obtain ⟨a, n, cap, rfl, hp, hs, hn, hnk, hc⟩ := h1
        obtain ⟨q, hq, hqa⟩ : ∃ q, q < w.heap.size ∧ (Val.L i ≠ [] → ∃ a1 : Addr, a = some a1 ∧ a1.block = q) := by
          by_cases he : Val.L i = []
          · exact ⟨0, hh.resolve_left (fun h => by cases h), fun h => absurd he h⟩
          · obtain ⟨a1, ha1, hb1⟩ := hp he
            exact ⟨a1.block, hb1, fun _ => ⟨a1, ha1, rfl⟩⟩
        obtain ⟨E1, g1, g2⟩ := openN_rel ds ht vs (E0 ++ [(⟨q, 0, .slice a n cap, .no⟩ : EP)]) hds h2
        rw [List.length_append] at g1 g2
        refine ⟨(⟨q, 0, .slice a n cap, .no⟩ : EP) :: E1, .cons ⟨.lstA i, rfl, rfl, rfl, fun E => ⟨hq, a, n, cap, rfl, hqa, hc⟩⟩ g1, .cons ⟨⟨q, 0, .slice a n cap, .no⟩, a, n, cap, ?_, rfl, hqa, hs, hn, hnk, rfl⟩ ?_⟩
        · rw [List.getElem?_append_right (Nat.le_refl _)]
          simp
        · have : E0 ++ (⟨q, 0, .slice a n cap, .no⟩ : EP) :: E1 = (E0 ++ [(⟨q, 0, .slice a n cap, .no⟩ : EP)]) ++ E1 := by simp
          rw [this]
          exact g2
      | agg l =>
        obtain ⟨E1, g1, g2⟩ := openA_rel hh E0 hd h1
        obtain ⟨E2, g3, g4⟩ := openN_rel ds ht vs (E0 ++ E1) hds h2
        have hl : E0.length + (openA l E0.length).2.length = (E0 ++ E1).length := by rw [List.length_append, g1.length]
        show ∃ E1, All2 (LentN w) ((openA l E0.length).2 ++ (openN ds (E0.length + (openA l E0.length).2.length)).2) E1 ∧ All2 (VRel (E0 ++ E1)) (.agg (openA l E0.length).1 :: (openN ds (E0.length + (openA l E0.length).2.length)).1) (v :: vs)
        rw [hl]
        refine ⟨E1 ++ E2, g1.append g3, .cons ?_ ?_⟩
        · rw [← List.append_assoc]
          exact VRel.ext (List.prefix_append _ _) _ _ g2
        · rw [← List.append_assoc]
          exact g4
      | fn f a c =>
        obtain ⟨E1, g1, g2⟩ := openF_rel E0 hd h1
        obtain ⟨E2, g3, g4⟩ := openN_rel ds ht vs (E0 ++ E1) hds h2
        have hl : E0.length + (openF f a c E0.length).2.length = (E0 ++ E1).length := by rw [List.length_append, g1.length]
        show ∃ E1, All2 (LentN w) ((openF f a c E0.length).2 ++ (openN ds (E0.length + (openF f a c E0.length).2.length)).2) E1 ∧ All2 (VRel (E0 ++ E1)) ((openF f a c E0.length).1 :: (openN ds (E0.length + (openF f a c E0.length).2.length)).1) (v :: vs)
        rw [hl]
        refine ⟨E1 ++ E2, g1.append g3, .cons ?_ ?_⟩
        · rw [← List.append_assoc]
          exact VRel.ext (List.prefix_append _ _) _ _ g2
        · rw [← List.append_assoc]
          exact g4
      | slL i s =>
        obtain ⟨a, n, cap, ss, rfl, hp, hn, hnk, hc, hin⟩ := h1
        obtain ⟨q, hq, hqa⟩ : ∃ q, q < w.heap.size ∧ (Val.L i ≠ [] → ∃ a1 : Addr, a = some a1 ∧ a1.block = q) := by
          by_cases he : Val.L i = []
          · exact ⟨0, hh.resolve_left (fun h => by cases h), fun h => absurd he h⟩
          · obtain ⟨a1, ha1, hb1⟩ := hp he
            exact ⟨a1.block, hb1, fun _ => ⟨a1, ha1, rfl⟩⟩
        obtain ⟨E1, g1, g2⟩ := openN_rel ds ht vs (E0 ++ [(⟨q, 0, .tuple #[.slice a n cap, .agg ss.toArray], .no⟩ : EP)]) hds h2
        rw [List.length_append] at g1 g2
        refine ⟨(⟨q, 0, .tuple #[.slice a n cap, .agg ss.toArray], .no⟩ : EP) :: E1, .cons ⟨.lstB i s, rfl, rfl, rfl, fun E => ⟨hq, a, n, cap, rfl, hqa, hc, hin⟩⟩ g1, .cons ⟨⟨q, 0, .tuple #[.slice a n cap, .agg ss.toArray], .no⟩, a, n, cap, ?_, rfl, hqa, by decide, by rw [Nat.mul_one]; exact hn, hnk, rfl⟩ ?_⟩
        · rw [List.getElem?_append_right (Nat.le_refl _)]
          simp
        · have : E0 ++ (⟨q, 0, .tuple #[.slice a n cap, .agg ss.toArray], .no⟩ : EP) :: E1 = (E0 ++ [(⟨q, 0, .tuple #[.slice a n cap, .agg ss.toArray], .no⟩ : EP)]) ++ E1 := by simp
          rw [this]
          exact g2
      | _ => exact other (fun _ _ _ h => by cases h) (fun _ h => by cases h) (fun _ _ _ h => by cases h) (fun _ _ h => by cases h)
/-- A call over slices that came in, up to where its run stops. -/
theorem callsN_stop (hm : P.follows .mixedOrders = true) (G : CfgOK P g) (hC : CallOK P g C) (hX : XOK P g) {f : FuncId} {fn : Func} {c : Code} (hf : P.funcs[f]? = some fn) (hb : fn.body = some c) {m n : Nat} {plan : List Bool} {ds : List RV} {O : Stop} (hok : ds.all okN = true)
    (hgo : go P g C m n plan (.run c) [] (startSt fn (openN ds 0).1 (openN ds 0).2) = some O) {w : World} (hr : RoIn g.ro w) (h0 : ds.all flat = true ∨ 0 < w.heap.size) {vs : List Value} (hv : All2 (NVal w) ds vs) {D : Ending → World → Prop}
    (hO : ∀ E' a' w', Owed P g w.heap.size w (bodyPost P fn D) O E' a' w') : Calls P f vs.toArray w D := by
  obtain ⟨E1, g1, g2⟩ := openN_rel ds h0 vs [] hok hv
  exact calls_stop hm G hC hX hf hb hgo (HInv.lentN hr g1) g2 fun E' a' w' _ => hO E' a' w'
/-- An argument in a heap is what its description says. -/
theorem absArg0_nval {ro : Ro} {E : Env} {h : RH} {w : World} (H : HInv ro base w0 E h w) {r d : RV} {v : Value} (hd : absArg0 h r = some d) (hv : VRel E r v) : NVal0 w d v := by
  unfold absArg0 at hd
  split at hd
  · rename_i b i s
    split at hd
    · rename_i i' e ow hl
      split at hd
      · rename_i hi
        obtain rfl := Nat.eq_of_beq_eq_true hi
        cases hd
        rw [lkp_eq] at hl
        obtain ⟨p, h1, _, cur, fr, h3, h4, h5, _⟩ := H.blk b _ hl
        obtain ⟨q, n, hq, hs, hn, hnk, rfl⟩ := hv
        rw [h1] at hq
        cases hq
        refine ⟨some ⟨p.1, 0, none⟩, n, p.2 / s, rfl, fun _ => ⟨_, rfl, (Array.getElem?_eq_some_iff.1 h3).1⟩, hs, hn, hnk, fun a ha j u hj => ?_⟩
        cases ha
        rw [add_lit, Nat.zero_add, cell_of_row w p.1 j cur e fr h3]
        rw [← h5, List.getElem?_take] at hj
        split at hj
        · simpa using hj
        · cases hj
      · cases hd
    · cases hd
  · rename_i b i s
    split at hd
    · rename_i i' hl
      split at hd
      · rename_i hi
        obtain rfl := Nat.eq_of_beq_eq_true hi
        cases hd
        rw [lkp_eq] at hl
        obtain ⟨p, h1, _, hlt, a', n', cap', h3, h4, h5⟩ := H.blk b _ hl
        obtain ⟨q, a, n, cap, hq, g1, g2, hs, hn, hnk, rfl⟩ := hv
        rw [h1] at hq
        cases hq
        rw [g1] at h3
        cases h3
        exact ⟨a', n', cap', rfl, fun he => by obtain ⟨a1, ha1, hb1⟩ := g2 he; exact ⟨a1, ha1, by rw [hb1]; exact hlt⟩, hs, hn, hnk, h5⟩
      · cases hd
    · cases hd
  · split at hd
    · rename_i hf
      cases hd
      have e : v = cv r := VRel.fn r v _ hv (rel_cv hf)
      cases r <;> first | exact e | (cases hf)
    · cases hd
theorem absL_nval {ro : Ro} {E : Env} {h : RH} {w : World} (H : HInv ro base w0 E h w) : ∀ {args ds : List RV} {vs : List Value}, absL h args = some ds → All2 (VRel E) args vs → All2 (NVal0 w) ds vs
  | [], ds, vs, hd, hv => by
    cases hd
    cases hv
    exact .nil
  | r :: args, ds, vs, hd, hv => by
    have hd : (match absArg0 h r with
      | some d => match absL h args with | some ds => some (d :: ds) | none => none
      | none => none) = some ds := hd
    split at hd
    · rename_i d hd1
      split at hd
      · rename_i ds' hd2
        cases hd
        cases hv with
        | cons h1 h2 => exact .cons (absArg0_nval H hd1 h1) (absL_nval H hd2 h2)
      · cases hd
    · cases hd
omit [Val] in
theorem absL_flat {h : RH} : ∀ {args ds : List RV}, absL h args = some ds → ds.all flat0 = true → args.all flat0 = true ∧ args = ds
  | [], ds, hd, _ => by
    cases hd
    exact ⟨rfl, rfl⟩
  | r :: args, ds, hd, hf => by
    have hd : (match absArg0 h r with
      | some d => match absL h args with | some ds => some (d :: ds) | none => none
      | none => none) = some ds := hd
    split at hd
    · rename_i d hd1
      split at hd
      · rename_i ds' hd2
        cases hd
        simp only [List.all_cons, Bool.and_eq_true] at hf
        obtain ⟨h1, h2⟩ := absL_flat hd2 hf.2
        have hr : flat0 r = true ∧ r = d := by
          unfold absArg0 at hd1
          split at hd1
          · split at hd1
            · split at hd1
              · cases hd1
                cases hf.1
              · cases hd1
            · cases hd1
          · split at hd1
            · split at hd1
              · cases hd1
                cases hf.1
              · cases hd1
            · cases hd1
          · split at hd1
            · rename_i hq
              cases hd1
              exact ⟨hq, rfl⟩
            · cases hd1
        refine ⟨?_, by rw [hr.2, h2]⟩
        rw [List.all_cons, hr.1, h1]
        rfl
      · cases hd
    · cases hd
theorem absFn_nval {ro : Ro} {E : Env} {h : RH} {w : World} (H : HInv ro base w0 E h w) {f : Fn} {a c : List RV} {d : RV} {v : Value} (hd : absFn h f a c = some d) (hv : VRel E (.fn f a c) v) : NVal w d v := by
  unfold absFn at hd
  split at hd
  · rename_i k b
    obtain ⟨a', c', rfl, ha, hc⟩ := hv
    have ha : a' = #[] := Array.ext' ha
    obtain ⟨u, us, hcs, hu, hus⟩ := hc
    have hus : us = [] := hus
    obtain ⟨p, hp, rfl⟩ := hu
    have hc' : c' = #[.pointer (some ⟨p.1, 0, none⟩)] := Array.ext' (by rw [hcs, hus])
    subst ha
    subst hc'
    split at hd
    · rename_i x e room fz hl
      split at hd
      · rename_i hf
        cases hd
        rw [lkp_eq] at hl
        obtain ⟨q, h1, _, cur, fr, h3, h4, h5, _⟩ := H.blk b _ hl
        rw [hp] at h1
        cases h1
        exact ⟨p.1, cur, fr, rfl, by simpa using h3, VRels.fn _ _ _ (VRels_iff.2 h5) (VRels_iff.2 (rel_cvs (E := E) [x] (by simp [hf])))⟩
      · cases hd
    · rename_i x e hl
      split at hd
      · rename_i hf
        cases hd
        rw [lkp_eq] at hl
        obtain ⟨q, h1, _, cur, fr, h3, h4, h5⟩ := H.blk b _ hl
        rw [hp] at h1
        cases h1
        exact ⟨p.1, cur, fr, rfl, by simpa using h3, VRels.fn _ _ _ (VRels_iff.2 h5) (VRels_iff.2 (rel_cvs (E := E) [x] (by simp [hf])))⟩
      · cases hd
    · cases hd
  · cases hd
theorem absArg_nval {ro : Ro} {E : Env} {h : RH} {w : World} (H : HInv ro base w0 E h w) {r d : RV} {v : Value} (hd : absArg h r = some d) (hv : VRel E r v) : NVal w d v := by
  unfold absArg at hd
  split at hd
  · rename_i b i s
    split at hd
    · rename_i i' e ow hl
      split at hd
      · rename_i hi
        obtain rfl := Nat.eq_of_beq_eq_true hi
        cases hd
        rw [lkp_eq] at hl
        obtain ⟨p, h1, _, cur, fr, h3, h4, h5, _⟩ := H.blk b _ hl
        obtain ⟨q, n, hq, hs, hn, hnk, rfl⟩ := hv
        rw [h1] at hq
        cases hq
        refine ⟨some ⟨p.1, 0, none⟩, n, p.2 / s, rfl, fun _ => ⟨_, rfl, (Array.getElem?_eq_some_iff.1 h3).1⟩, hs, hn, hnk, fun a ha j u hj => ?_⟩
        cases ha
        rw [add_lit, Nat.zero_add, cell_of_row w p.1 j cur e fr h3]
        rw [← h5, List.getElem?_take] at hj
        split at hj
        · simpa using hj
        · cases hj
      · cases hd
    · rename_i i' e s' hl
      split at hd
      · rename_i hi
        simp only [Bool.and_eq_true] at hi
        obtain rfl := Nat.eq_of_beq_eq_true hi.1
        obtain rfl := Nat.eq_of_beq_eq_true hi.2
        cases hd
        rw [lkp_eq] at hl
        obtain ⟨p, h1, _, cur, ⟨_, g1, _⟩, g2, g3, g4⟩ := H.blk b _ hl
        obtain ⟨q, n, hq, hs, hn, hnk, rfl⟩ := hv
        rw [h1] at hq
        cases hq
        refine ⟨some ⟨p.1, 0, none⟩, n, p.2 / 1, p.inn, rfl, fun _ => ⟨_, rfl, (Array.getElem?_eq_some_iff.1 g1).1⟩, by rw [hn, Nat.mul_one], hnk, fun a ha j u hj => ?_, g4⟩
        cases ha
        rw [add_lit, Nat.zero_add, cell_of_row w p.1 j cur e _ g1]
        rw [← g3, List.getElem?_take] at hj
        split at hj
        · simpa using hj
        · cases hj
      · cases hd
    · cases hd
  · rename_i b i s
    split at hd
    · rename_i i' hl
      split at hd
      · rename_i hi
        obtain rfl := Nat.eq_of_beq_eq_true hi
        cases hd
        rw [lkp_eq] at hl
        obtain ⟨p, h1, _, hlt, a', n', cap', h3, h4, h5⟩ := H.blk b _ hl
        obtain ⟨q, a, n, cap, hq, g1, g2, hs, hn, hnk, rfl⟩ := hv
        rw [h1] at hq
        cases hq
        rw [g1] at h3
        cases h3
        exact ⟨a', n', cap', rfl, fun he => by obtain ⟨a1, ha1, hb1⟩ := g2 he; exact ⟨a1, ha1, by rw [hb1]; exact hlt⟩, hs, hn, hnk, h5⟩
      · cases hd
    · rename_i i' s' hl
      split at hd
      · rename_i hi
        simp only [Bool.and_eq_true] at hi
        obtain rfl := Nat.eq_of_beq_eq_true hi.1
        obtain rfl := Nat.eq_of_beq_eq_true hi.2
        cases hd
        rw [lkp_eq] at hl
        obtain ⟨p, h1, _, hlt, a', n', cap', h3, h4, h5, h6⟩ := H.blk b _ hl
        obtain ⟨q, a, n, cap, hq, g1, g2, hs, hn, hnk, rfl⟩ := hv
        rw [h1] at hq
        cases hq
        rw [g1] at h3
        cases h3
        exact ⟨a', n', cap', p.inn, rfl, fun he => by obtain ⟨a1, ha1, hb1⟩ := g2 he; exact ⟨a1, ha1, by rw [hb1]; exact hlt⟩, by rw [hn, Nat.mul_one], hnk, h5, h6⟩
      · cases hd
    · cases hd
  · rename_i b i k j s
    split at hd
    · rename_i hi
      cases hd
      obtain ⟨q, oa, n, cap, hq, g1, g2, _, _, _, rfl⟩ := hv
      have h6 : All2 (Inn w s) (Val.L i) q.inn := by
        unfold innOK at hi
        split at hi
        · rename_i i' e0 s' hk
          simp only [Bool.and_eq_true] at hi
          obtain rfl := Nat.eq_of_beq_eq_true hi.1
          obtain rfl := Nat.eq_of_beq_eq_true hi.2
          rw [lkp_eq] at hk
          obtain ⟨p', q1, _, cur, c1, c2, c3, c4⟩ := H.blk b _ hk
          rw [hq] at q1
          cases q1
          exact c4
        · rename_i i' s' hk
          simp only [Bool.and_eq_true] at hi
          obtain rfl := Nat.eq_of_beq_eq_true hi.1
          obtain rfl := Nat.eq_of_beq_eq_true hi.2
          rw [lkp_eq] at hk
          obtain ⟨p', q1, _, hlt, oa1, n2, cap2, c1, c2, c3, c4⟩ := H.blk b _ hk
          rw [hq] at q1
          cases q1
          exact c4
        · cases hi
      obtain ⟨u, hu, oa2, n2, cap2, e2, f1, f2, f3, f4, f5⟩ := all2_at _ h6 g2
      rw [g1] at hu
      cases hu
      cases e2
      exact ⟨oa, n, cap, rfl, fun he => by obtain ⟨a, ha⟩ := f4 he; exact ⟨a, ha, (f5 a ha).1⟩, f1, f2, f3, fun a ha => (f5 a ha).2⟩
    · cases hd
  · rename_i l
    split at hd
    · rename_i hf
      cases hd
      have e : v = cvF (.agg l) := VRel.fn (.agg l) v _ hv (rel_cvF (show flat (.agg l) = true from hf))
      unfold NVal
      simp only
      rw [hf]
      exact e
    · rename_i hf
      split at hd
      · rename_i ds hds
        cases hd
        obtain ⟨vs, rfl, h2⟩ := hv
        have h3 := absL_nval H hds (VRels_iff.1 h2)
        unfold NVal
        simp only
        cases hq : ds.all flat0 with
        | true =>
          have := (absL_flat hds hq).1
          rw [hf] at this
          cases this
        | false => exact ⟨vs, rfl, h3⟩
      · cases hd
  · exact absFn_nval H hd hv
  · split at hd
    · rename_i hf
      cases hd
      have e : v = cvF r := VRel.fn r v _ hv (rel_cvF hf)
      cases r <;> first | exact e | (cases hf) | (rename_i hna _; exact (hna _ rfl).elim)
    · cases hd
theorem absArgs_nval {ro : Ro} {E : Env} {h : RH} {w : World} (H : HInv ro base w0 E h w) : ∀ {args ds : List RV} {vs : List Value}, absArgs h args = some ds → All2 (VRel E) args vs → All2 (NVal w) ds vs
  | [], ds, vs, hd, hv => by
    cases hd
    cases hv
    exact .nil
  | r :: args, ds, vs, hd, hv => by
    have hd : (match absArg h r with
      | some d => match absArgs h args with | some ds => some (d :: ds) | none => none
      | none => none) = some ds := hd
    split at hd
    · rename_i d hd1
      split at hd
      · rename_i ds' hd2
        cases hd
        cases hv with
        | cons h1 h2 => exact .cons (absArg_nval H hd1 h1) (absArgs_nval H hd2 h2)
      · cases hd
    · cases hd
end
end Go.Ri

/-! Runs that stop at any loop's head: places in a function's body, told as ways through it (last step first). -/
namespace Go.Ri
open Go Go.RowKit

/-- Within a loop, at the head of its body. -/
def LoopAt (P : Program) (c : Code) (Q : Exit → Act → World → Prop) (a : Act) (w : World) : Prop :=
  ∀ b k cs, ∃ e a' w', Q e a' w' ∧ Arrives P (lone (b.at a (.code c :: .inLoop c :: k)) cs w) b k cs e a' w'
theorem loopAt_wp {P : Program} {c : Code} {Q : Exit → Act → World → Prop} {a : Act} {w : World} (h : LoopAt P c Q a w) : (Code.loop c).wp P Q a w := by
  intro b k cs
  obtain ⟨e, a', w', hq, harr⟩ := h b k cs
  exact ⟨e, a', w', hq, .of_steps (.one step_loop) harr⟩
theorem loopAt_body {P : Program} {c : Code} {Q : Exit → Act → World → Prop} {a : Act} {w : World} (h : c.wp P (Exit.then (LoopAt P c Q) Q) a w) : LoopAt P c Q a w := by
  intro b k cs
  obtain ⟨e, a₁, w₁, hq, harr⟩ := h b (.inLoop c :: k) cs
  cases e with
  | normal =>
    obtain ⟨e₂, a₂, w₂, hq₂, harr₂⟩ := hq b k cs
    exact ⟨e₂, a₂, w₂, hq₂, .of_steps (Steps.trans harr (.one step_inLoop)) harr₂⟩
  | exit id => exact ⟨_, a₁, w₁, hq, .pass (x := .inLoop c) rfl (fun _ _ => .inl (by simp)) harr⟩
  | goto l => exact ⟨_, a₁, w₁, hq, .pass (x := .inLoop c) rfl (fun _ _ => .inl (by simp)) harr⟩
  | ret => exact ⟨_, a₁, w₁, hq, .pass (x := .inLoop c) rfl (fun _ _ => .inl (by simp)) harr⟩
  | panic ch => exact ⟨_, a₁, w₁, hq, .pass (x := .inLoop c) rfl (fun _ _ => .inl (by simp)) harr⟩
  | outgrown => exact ⟨_, a₁, w₁, hq, .pass (x := .inLoop c) rfl (fun _ _ => .inl (by simp)) harr⟩

abbrev Way := List Nat
def subC (c : Code) (i : Nat) : Code :=
  match c with
  | .seq a b => match i with | 0 => a | _ => b
  | .cond _ a b => match i with | 0 => a | _ => b
  | .block _ b => b
  | .loop b => b
  | .scope b => b
  | c => c
noncomputable def codeAt (c : Code) (p : Way) : Code := List.rec (motive := fun _ => Code) c (fun i _ ih => subC ih i) p
inductive FrP where
  | seq (p : Way)
  | block (id : Nat)
  | scope
  | lp (p : Way)
inductive StopP where
  | done (ex : Ex) (s : St)
  | loop (p : Way) (K : List FrP) (s : St)
inductive CtlP where
  | run (p : Way)
  | ex (e : Ex)
/-- The frames that a place stands in. -/
noncomputable def framesAt (c : Code) (p : Way) : List FrP :=
  List.rec (motive := fun _ => List FrP) [] (fun i p ih => match codeAt c p with
    | .seq _ _ => match i with | 0 => .seq (1 :: p) :: ih | _ => ih
    | .block id _ => .block id :: ih
    | .scope _ => .scope :: ih
    | .loop _ => .lp p :: ih
    | _ => ih) p
/-- The loops of a body, in order. -/
noncomputable def loopsAt (n : Nat) : Code → Way → List Way :=
  Nat.rec (motive := fun _ => Code → Way → List Way) (fun _ _ => []) (fun _ ih c p => match c with
    | .seq a b => ih a (0 :: p) ++ ih b (1 :: p)
    | .cond _ a b => ih a (0 :: p) ++ ih b (1 :: p)
    | .block _ b => ih b (0 :: p)
    | .scope b => ih b (0 :: p)
    | .loop b => p :: ih b (0 :: p)
    | _ => []) n
noncomputable def sameW (p : Way) : Way → Bool :=
  List.rec (motive := fun _ => Way → Bool) (fun q => match q with | [] => true | _ :: _ => false) (fun i _ ih q => match q with | [] => false | j :: q => match Nat.beq i j with | true => ih q | false => false) p
noncomputable def sameFr (x y : FrP) : Bool :=
  match x, y with
  | .seq p, .seq q => sameW p q
  | .block i, .block j => Nat.beq i j
  | .scope, .scope => true
  | .lp p, .lp q => sameW p q
  | _, _ => false
noncomputable def sameK (l : List FrP) : List FrP → Bool :=
  List.rec (motive := fun _ => List FrP → Bool) (fun q => match q with | [] => true | _ :: _ => false) (fun x _ ih q => match q with | [] => false | y :: q => match sameFr x y with | true => ih q | false => false) l
theorem sameW_eq : ∀ p q : Way, sameW p q = true → p = q
  | [], [], _ => rfl
  | [], _ :: _, h => by cases h
  | _ :: _, [], h => by cases h
  | i :: p, j :: q, h => by
    have h : (match Nat.beq i j with | true => sameW p q | false => false) = true := h
    split at h
    · rename_i e
      rw [Nat.eq_of_beq_eq_true e, sameW_eq p q h]
    · cases h
theorem sameFr_eq {x y : FrP} (h : sameFr x y = true) : x = y := by
  unfold sameFr at h
  split at h
  · rw [sameW_eq _ _ h]
  · rw [Nat.eq_of_beq_eq_true h]
  · rfl
  · rw [sameW_eq _ _ h]
  · cases h
theorem sameK_eq : ∀ p q : List FrP, sameK p q = true → p = q
  | [], [], _ => rfl
  | [], _ :: _, h => by cases h
  | _ :: _, [], h => by cases h
  | i :: p, j :: q, h => by
    have h : (match sameFr i j with | true => sameK p q | false => false) = true := h
    split at h
    · rename_i e
      rw [sameFr_eq e, sameK_eq p q h]
    · cases h

def postP (P : Program) (c0 : Code) : List FrP → (Exit → Act → World → Prop) → Exit → Act → World → Prop
  | [], Q => Q
  | .seq p :: K, Q => Exit.then ((codeAt c0 p).wp P (postP P c0 K Q)) (postP P c0 K Q)
  | .block id :: K, Q => Exit.inBlock id (postP P c0 K Q)
  | .scope :: K, Q => Exit.noGoto (postP P c0 K Q)
  | .lp p :: K, Q => Exit.then (LoopAt P (codeAt c0 (0 :: p)) (postP P c0 K Q)) (postP P c0 K Q)

abbrev GoP := List Bool → CtlP → List FrP → St → Option StopP
noncomputable def pLeaf (P : Program) (g : Cfg) (C : CallF) (m : Nat) (ih : GoP) (plan : List Bool) (c : Code) (K : List FrP) (s : St) : Option StopP :=
  match exec P g (liftC C) false m c s with
  | some (e, s') => ih plan (.ex e) K s'
  | none => none
noncomputable def pCond (g : Cfg) (ih : GoP) (plan : List Bool) (p : Way) (K : List FrP) (s : St) (r : RV) : Option StopP :=
  match r with
  | .pl (.bool q) => ih plan (.run ((match q with | true => 0 | false => 1) :: p)) K s
  | .sym .bool i => match tlook g.T .truth (.sym .bool i) (.sym .bool i) with
    | some (.pl (.bool q)) => ih plan (.run ((match q with | true => 0 | false => 1) :: p)) K s
    | _ => none
  | _ => none
noncomputable def pRun (P : Program) (g : Cfg) (C : CallF) (m : Nat) (c0 : Code) (ih : GoP) (plan : List Bool) (p : Way) (K : List FrP) (s : St) : Option StopP :=
  match codeAt c0 p with
  | .seq _ _ => ih plan (.run (0 :: p)) (.seq (1 :: p) :: K) s
  | .block id _ => ih plan (.run (0 :: p)) (.block id :: K) s
  | .scope _ => ih plan (.run (0 :: p)) (.scope :: K) s
  | .loop b => match plan with
    | true :: plan => pLeaf P g C m ih plan (.loop b) K s
    | false :: plan => ih plan (.run (0 :: p)) (.lp p :: K) s
    | _ => some (.loop p K s)
  | .cond x _ _ => pCond g ih plan p K s (ev s.t x)
  | c => pLeaf P g C m ih plan c K s
noncomputable def pEx (ih : GoP) (plan : List Bool) (e : Ex) (K : List FrP) (s : St) : Option StopP :=
  match K with
  | [] => some (.done e s)
  | .seq p :: K => match e with
    | .normal => ih plan (.run p) K s
    | e => ih plan (.ex e) K s
  | .block id :: K => match e with
    | .exit i => if i = id then ih plan (.ex .normal) K s else ih plan (.ex (.exit i)) K s
    | e => ih plan (.ex e) K s
  | .scope :: K => ih plan (.ex e) K s
  | .lp p :: K => match e with
    | .normal => match plan with
      | false :: plan => ih plan (.run (0 :: p)) (.lp p :: K) s
      | _ => some (.loop p K s)
    | e => ih plan (.ex e) K s
/-- A run up to a loop's head, or to the end. -/
noncomputable def goP (P : Program) (g : Cfg) (C : CallF) (m : Nat) (c0 : Code) (n : Nat) : GoP :=
  Nat.rec (motive := fun _ => GoP) (fun _ _ _ _ => none) (fun _ ih plan ctl K s => match ctl with
    | .run p => pRun P g C m c0 ih plan p K s
    | .ex e => pEx ih plan e K s) n

section
variable [Val] {P : Program} {g : Cfg} {C : CallF} {base : Nat} {w0 : World}

/-- What is owed where a run stops. -/
def OwedP (P : Program) (g : Cfg) (base : Nat) (w0 : World) (c0 : Code) (Q : Exit → Act → World → Prop) (O : StopP) (E : Env) (a : Act) (w : World) : Prop :=
  match O with
  | .done e s => Sim g base w0 s E a w → Q e.toExit a w
  | .loop p K s => Sim g base w0 s E a w → LoopAt P (codeAt c0 (0 :: p)) (postP P c0 K Q) a w
def CtlPostP (P : Program) (c0 : Code) (Q : Exit → Act → World → Prop) (ctl : CtlP) (K : List FrP) (a : Act) (w : World) : Prop :=
  match ctl with
  | .run p => (codeAt c0 p).wp P (postP P c0 K Q) a w
  | .ex e => postP P c0 K Q e.toExit a w

theorem goP_ok (hm : P.follows .mixedOrders = true) (G : CfgOK P g) (hC : CallOK P g C) (hX : XOK P g) {m : Nat} {c0 : Code} {Q : Exit → Act → World → Prop} {O : StopP} : ∀ (n : Nat) (plan : List Bool) (ctl : CtlP) (K : List FrP) (s : St) (E : Env) (a : Act) (w : World),
    goP P g C m c0 n plan ctl K s = some O → Sim g base w0 s E a w → (∀ E' a' w', E <+: E' → OwedP P g base w0 c0 Q O E' a' w') → CtlPostP P c0 Q ctl K a w
  | 0, _, _, _, _, _, _, _, h, _, _ => by cases h
  | n + 1, plan, ctl, K, s, E, a, w, h, S, hO => by
    have ih := goP_ok hm G hC hX (m := m) (c0 := c0) (Q := Q) (O := O) n
    have leaf : ∀ (plan : List Bool) (c : Code) (K : List FrP), pLeaf P g C m (goP P g C m c0 n) plan c K s = some O → c.wp P (postP P c0 K Q) a w := by
      intro plan c K h
      unfold pLeaf at h
      split at h
      · rename_i e s1 he
        exact exec_okS hm G hC hX m c s e s1 E a w _ he S fun E' a' w' hE S' => ih plan (.ex e) K s1 E' a' w' h S' fun E2 a2 w2 hE2 => hO E2 a2 w2 (hE.trans hE2)
      · cases h
    cases ctl with
    | run p =>
      change pRun P g C m c0 (goP P g C m c0 n) plan p K s = some O at h
      show (codeAt c0 p).wp P (postP P c0 K Q) a w
      have sub : ∀ i, codeAt c0 (i :: p) = subC (codeAt c0 p) i := fun i => rfl
      unfold pRun at h
      split at h
      · rename_i x y hc
        rw [hc]
        have h1 := ih plan (.run (0 :: p)) (.seq (1 :: p) :: K) s E a w h S hO
        have e0 : codeAt c0 (0 :: p) = x := by rw [sub, hc]; rfl
        have e1 : codeAt c0 (1 :: p) = y := by rw [sub, hc]; rfl
        have h1 : (codeAt c0 (0 :: p)).wp P (Exit.then ((codeAt c0 (1 :: p)).wp P (postP P c0 K Q)) (postP P c0 K Q)) a w := h1
        rw [e0, e1] at h1
        exact wp_seq h1
      · rename_i id b hc
        rw [hc]
        have h1 := ih plan (.run (0 :: p)) (.block id :: K) s E a w h S hO
        have e0 : codeAt c0 (0 :: p) = b := by rw [sub, hc]; rfl
        have h1 : (codeAt c0 (0 :: p)).wp P (Exit.inBlock id (postP P c0 K Q)) a w := h1
        rw [e0] at h1
        exact wp_block h1
      · rename_i b hc
        rw [hc]
        have h1 := ih plan (.run (0 :: p)) (.scope :: K) s E a w h S hO
        have e0 : codeAt c0 (0 :: p) = b := by rw [sub, hc]; rfl
        have h1 : (codeAt c0 (0 :: p)).wp P (Exit.noGoto (postP P c0 K Q)) a w := h1
        rw [e0] at h1
        exact wp_scope_straight h1
      · rename_i b hc
        have e0 : codeAt c0 (0 :: p) = b := by rw [sub, hc]; rfl
        rw [hc]
        split at h
        · exact leaf _ _ _ h
        · rename_i plan'
          have h1 := ih plan' (.run (0 :: p)) (.lp p :: K) s E a w h S hO
          have h1 : (codeAt c0 (0 :: p)).wp P (Exit.then (LoopAt P (codeAt c0 (0 :: p)) (postP P c0 K Q)) (postP P c0 K Q)) a w := h1
          rw [e0] at h1
          exact loopAt_wp (loopAt_body h1)
        · cases h
          have h1 := hO E a w (List.prefix_refl E) S
          rw [e0] at h1
          exact loopAt_wp h1
      · rename_i x u v hc
        rw [hc]
        have e0 : codeAt c0 (0 :: p) = u := by rw [sub, hc]; rfl
        have e1 : codeAt c0 (1 :: p) = v := by rw [sub, hc]; rfl
        have hx := ev_rel S.t x
        have done : ∀ q, goP P g C m c0 n plan (.run ((match q with | true => 0 | false => 1) :: p)) K s = some O → (if q = true then u else v).wp P (postP P c0 K Q) a w := fun q h => by
          have h1 := ih plan (.run _) K s E a w h S hO
          cases q with
          | true =>
            have h1 : (codeAt c0 (0 :: p)).wp P (postP P c0 K Q) a w := h1
            rw [e0] at h1
            exact h1
          | false =>
            have h1 : (codeAt c0 (1 :: p)).wp P (postP P c0 K Q) a w := h1
            rw [e1] at h1
            exact h1
        unfold pCond at h
        split at h
        · rename_i b hb
          rw [hb] at hx
          exact wp_cond hx (done b h)
        · rename_i i hb
          rw [hb] at hx
          split at h
          · rename_i b hq
            obtain ⟨_, f1, _, c, e1, e2⟩ := tlook_true hX.t hq
            have hx2 : a.eval x = .bool c := (cv_rel f1 hx).trans e1
            have e3 : b = c := by simpa [cv] using e2
            subst e3
            exact wp_cond hx2 (done b h)
          · cases h
        · cases h
      · exact leaf _ _ _ h
    | ex e =>
      change pEx (goP P g C m c0 n) plan e K s = some O at h
      show postP P c0 K Q e.toExit a w
      unfold pEx at h
      split at h
      · cases h
        exact hO E a w (List.prefix_refl E) S
      · rename_i y K'
        split at h
        · exact ih plan (.run y) K' s E a w h S hO
        · rename_i hne
          have := ih plan (.ex e) K' s E a w h S hO
          cases e with
          | normal => exact absurd rfl hne
          | exit id => exact this
          | ret => exact this
      · rename_i id K'
        split at h
        · rename_i i
          show if i = id then postP P c0 K' Q .normal a w else postP P c0 K' Q (.exit i) a w
          split at h
          · rename_i hi
            rw [if_pos hi]
            exact ih plan (.ex .normal) K' s E a w h S hO
          · rename_i hi
            rw [if_neg hi]
            exact ih plan (.ex (.exit i)) K' s E a w h S hO
        · rename_i hne
          have := ih plan (.ex e) K' s E a w h S hO
          cases e with
          | normal => exact this
          | exit i => exact absurd rfl (hne i)
          | ret => exact this
      · rename_i K'
        have := ih plan (.ex e) K' s E a w h S hO
        cases e <;> exact this
      · rename_i p K'
        split at h
        · split at h
          · rename_i plan'
            have h1 := ih plan' (.run (0 :: p)) (.lp p :: K') s E a w h S hO
            exact loopAt_body h1
          · cases h
            exact hO E a w (List.prefix_refl E) S
        · rename_i hne
          have := ih plan (.ex e) K' s E a w h S hO
          cases e with
          | normal => exact absurd rfl hne
          | exit id => exact this
          | ret => exact this

theorem calls_stopP (hm : P.follows .mixedOrders = true) (G : CfgOK P g) (hC : CallOK P g C) (hX : XOK P g) {f : FuncId} {fn : Func} {c : Code} (hf : P.funcs[f]? = some fn) (hb : fn.body = some c) {m n : Nat} {plan : List Bool} {args : List RV} {h : RH} {O : StopP}
    (hgo : goP P g C m c n plan (.run []) [] (startSt fn args h) = some O) {E : Env} {w : World} {vs : List Value} {D : Ending → World → Prop} (H : HInv g.ro base w0 E h w) (ha : All2 (VRel E) args vs)
    (hO : ∀ E' a' w', E <+: E' → OwedP P g base w0 c (bodyPost P fn D) O E' a' w') : Calls P f vs.toArray w D := by
  have hal := ha.length
  have ht : All2 (VRel E) (args ++ List.replicate (fn.ntmps - args.length) (.pl undef)) (vs.toArray ++ Array.replicate (fn.ntmps - vs.toArray.size) undef).toList := by
    simp only [Array.toList_append, Array.toList_replicate, List.size_toArray]
    rw [hal]
    exact ha.append (All2.replicate _ (show VRel E (.pl undef) undef from rfl))
  refine calls_of_wp hf hb ?_
  exact goP_ok hm G hC hX n plan (.run []) [] _ E { tmps := vs.toArray ++ Array.replicate (fn.ntmps - vs.toArray.size) undef, defers := [] } w hgo ⟨ht, rfl, H⟩ hO
end
end Go.Ri
