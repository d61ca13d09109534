/- An interpreter for calls whose arguments are closed or names, and its soundness: a part of the proofs. -/
import Derived.Test.YtbacimjjelkfbaaGreatDoorRiC
import Derived.Scope
import Derived.LoopN
namespace Go.Ri
open Go Go.RowKit
variable [Val]

def RoIn (ro : Ro) (w : World) : Prop := ∀ k cs, ro.lookup k = some cs → k < w.heap.size ∧ ∃ cur e fr, w.heap[k]? = some (.cells cur e fr) ∧ RoEq cur.toList cs

/-- What is said of a fresh slice. -/
def FTrue (P : Program) (ro : Ro) (f : FuncId) (vs : List Value) (q : FE) : Prop := ∀ w, RoIn ro w → Calls P f vs.toArray w (fun x w' => ∃ p cur, x = .returned (.slice (some ⟨p, 0, none⟩) q.n (cur.size / q.s)) ∧ w.heap.size ≤ p ∧ RowF w' p cur q.e cur.size ∧
  q.n ≤ cur.size / q.s ∧ cur.toList.take q.l.length = q.l ∧ Below w.heap.size w w')
def Done (g : Cfg) (base : Nat) (w0 : World) (E : Env) (r : RV) (h' : RH) (e : Ending) (w' : World) : Prop :=
  ∃ v E', e = .returned v ∧ E <+: E' ∧ VRel E' r v ∧ HInv g.ro base w0 E' h' w'

def CallOK (P : Program) (g : Cfg) (C : CallF) : Prop := ∀ f args h r h', C f args h = some (r, h') → ∀ base w0 E w vs, HInv g.ro base w0 E h w → All2 (VRel E) args vs →
  Calls P f vs.toArray w (Done g base w0 E r h')

/-- The closed answers are the answers. -/
structure XOK (P : Program) (g : Cfg) : Prop where
  f : ∀ f vs q, g.F f vs = some q → FTrue P g.ro f vs q
  x : ∀ f vs v, g.X f vs = some v → ∀ w, RoIn g.ro w → Calls P f vs.toArray w (fun e w' => e = .returned v ∧ Below w.heap.size w w')
  l : ∀ f ds r, g.L f ds = some r → flat r = true → ∀ base w0 E h w args vs, HInv g.ro base w0 E h w → deepArgs h args = some ds → All2 (VRel E) args vs → Calls P f vs.toArray w (fun e w' => (∃ u, e = .returned u ∧ VRel [] r u) ∧ Below w.heap.size w w')
  y : ∀ f args r, g.Y f args = some r → flat r = true → ∀ vs, All2 (VRel []) args vs → ∀ w, RoIn g.ro w → Calls P f vs.toArray w (fun e w' => (∃ u, e = .returned u ∧ VRel [] r u) ∧ Below w.heap.size w w')
  t : TOK P g
  q : ∀ f args r h2, g.Q f args = some (r, h2) → args.all flat = true → ∀ vs, All2 (VRel []) args vs → ∀ w, RoIn g.ro w → Calls P f vs.toArray w (fun e w' => ∃ v E', e = .returned v ∧ VRel E' r v ∧ HInv g.ro w.heap.size w E' h2 w')
  lc : ∀ f ds r, g.LC f ds = some r → flat r = true → ∀ base w0 E h w args vs, HInv g.ro base w0 E h w → absArgs h args = some ds → All2 (VRel E) args vs → Calls P f vs.toArray w (fun e w' => (∃ u, e = .returned u ∧ VRel [] r u) ∧ Below w.heap.size w w')
  u : CallOK P g g.U

structure Sim (g : Cfg) (base : Nat) (w0 : World) (s : St) (E : Env) (a : Act) (w : World) : Prop where
  t : All2 (VRel E) s.t a.tmps.toList
  d : a.defers = []
  h : HInv g.ro base w0 E s.h w
/-- The marks that loops over functions leave among an activation's deferred calls. -/
inductive Marks (base : Nat) (E0 E : Env) : List Deferred → Prop
  | nil : Marks base E0 E []
  | cons {i : Nat} {p : EP} {ds : List Deferred} : (∀ q ∈ E0, q.k = .dfr → q.1 ≠ p.1) → E[i]? = some p → p.k = .dfr → base ≤ p.1 → (∀ d ∈ ds, d.target ≠ .collected p.1) → Marks base E0 E ds → Marks base E0 E ({ target := .collected p.1, args := #[] } :: ds)
omit [Val] in
theorem Marks.ext {base : Nat} {E0 E E' : Env} (hE : E <+: E') {ds : List Deferred} (h : Marks base E0 E ds) : Marks base E0 E' ds := by
  induction h with
  | nil => exact .nil
  | cons h1 h2 h3 hb h4 _ ih => exact .cons h1 (getElem?_prefix hE h2) h3 hb h4 ih
/-- A state, whatever the deferred calls are. -/
structure SimT (g : Cfg) (base : Nat) (w0 : World) (s : St) (E : Env) (a : Act) (w : World) : Prop where
  t : All2 (VRel E) s.t a.tmps.toList
  h : HInv g.ro base w0 E s.h w
/-- A state of an activation that began at E0. -/
structure SimM (g : Cfg) (base : Nat) (w0 : World) (E0 : Env) (s : St) (E : Env) (a : Act) (w : World) : Prop where
  t : All2 (VRel E) s.t a.tmps.toList
  d : Marks base E0 E a.defers
  h : HInv g.ro base w0 E s.h w
  e : E0 <+: E
theorem SimM.T {g : Cfg} {base : Nat} {w0 : World} {E0 : Env} {s : St} {E : Env} {a : Act} {w : World} (S : SimM g base w0 E0 s E a w) : SimT g base w0 s E a w := ⟨S.t, S.h⟩
theorem Sim.M {g : Cfg} {base : Nat} {w0 : World} {s : St} {E : Env} {a : Act} {w : World} (S : Sim g base w0 s E a w) : SimM g base w0 [] s E a w := ⟨S.t, by rw [S.d]; exact .nil, S.h, List.nil_prefix⟩
theorem SimM.S {g : Cfg} {base : Nat} {w0 : World} {E0 : Env} {s : St} {E : Env} {a : Act} {w : World} (S : SimM g base w0 E0 s E a w) (hd : a.defers = []) : Sim g base w0 s E a w := ⟨S.t, hd, S.h⟩

/-- The frames of a function, and of a round of a loop. -/
def FrR (ρ : Option Nat) : Fence := { Fence.wide with round := ρ }
/-- Calls from environments that E0 begins. -/
def CallOKE (P : Program) (g : Cfg) (E0 : Env) (C : CallF) : Prop := ∀ f args h r h', C f args h = some (r, h') → ∀ base w0 E w vs, E0 <+: E → HInv g.ro base w0 E h w → All2 (VRel E) args vs →
  Calls P f vs.toArray w (Done g base w0 E r h')
/-- What a call of yield comes to, it does. -/
def YOK (P : Program) (g : Cfg) (E0 : Env) (Y : YldF) : Prop := ∀ b args h r h', Y b args h = some (r, h') → ∀ base w0 E w vs, E0 <+: E → HInv g.ro base w0 E h w → All2 (VRel E) args vs →
  ∃ p L, E[b]? = some p ∧ w.heap[p.1]? = some (.loop L) ∧ vs.toArray.size = L.params.size ∧
    RoundIn Fence.wide 0 P p.1 L.fn ((L.params.zip vs.toArray).foldl (fun tmps (t, a) => tmps.setIfInBounds t a) L.tmps) L.assign L.body w (Done g base w0 E r h')
theorem noY_ok (P : Program) (g : Cfg) (E0 : Env) : YOK P g E0 noY := fun _ _ _ _ _ h => by cases h
structure GoodC (P : Program) (g : Cfg) (E0 : Env) (C : CallG) : Prop where
  all : ∀ E1 Y, YOK P g E1 Y → CallOKE P g E1 (C.F Y)
  y : YOK P g E0 C.Y
theorem GoodC.iso {P : Program} {g : Cfg} {E0 : Env} {C : CallG} (h : GoodC P g E0 C) : CallOK P g (C.F noY) := fun f args hh r h' hc base w0 E w vs H ha => h.all [] noY (noY_ok P g []) f args hh r h' hc base w0 E w vs List.nil_prefix H ha
theorem GoodC.lift {P : Program} {g : Cfg} {E0 : Env} {C : CallF} (h : CallOK P g C) : GoodC P g E0 (liftC C) := ⟨fun _ _ _ f args hh r h' hc base w0 E w vs _ H ha => h f args hh r h' hc base w0 E w vs H ha, noY_ok P g E0⟩

section
variable {P : Program} {g : Cfg} {C : CallG} {E0 : Env} {base : Nat} {w0 : World} {E : Env} {h : RH} {w : World} {t : List RV} {a : Act}

theorem HInv.roIn {ro : Ro} (H : HInv ro base w0 E h w) : RoIn ro w := fun k cs hk => by
  obtain ⟨h1, cur, e, fr, h2, h3⟩ := H.ro k cs hk
  exact ⟨Nat.lt_of_lt_of_le h1 H.size, cur, e, fr, (H.below.block k h1).trans h2, h3⟩

theorem HInv.start {ro : Ro} (hr : RoIn ro w) : HInv ro w.heap.size w [] [] w :=
  ⟨Below.refl _ _, Nat.le_refl _, rfl, fun k cs hk => hr k cs hk, fun b o hb => by simp [at?] at hb, fun b b' o o' p p' hb => by simp [at?] at hb, fun b o p hb => by simp [at?] at hb, fun i p hp => by simp at hp⟩

omit [Val] in
theorem get_join {E E2 : Env} {b : Nat} {p : EP} (h : E2[b]? = some p) : (E ++ E2)[b + E.length]? = some p := by
  rw [List.getElem?_append_right (by omega), Nat.add_sub_cancel]
  exact h
theorem shiftA_rel {E E2 : Env} {r : RV} {v : Value} (hs : shiftable r = true) (h : VRel E2 r v) : VRel (E ++ E2) (shiftA E.length r) v := by
  cases r with
  | pl u => exact h
  | sym k i => exact h
  | el b i s => cases hs
  | ptr b o => obtain ⟨p, hp, hv⟩ := h; exact ⟨p, get_join hp, hv⟩
  | sl b o n s c => obtain ⟨p, k, hp, hv⟩ := h; exact ⟨p, k, get_join hp, hv⟩
  | slN b i s => obtain ⟨p, n, hp, hv⟩ := h; exact ⟨p, n, get_join hp, hv⟩
  | slA b i s => cases hs
  | elA b i s => cases hs
  | elF b i s o => cases hs
  | elB b i s o => cases hs
  | slL i s => exact h.elim
  | slX b i k j s => cases hs
  | yld b => obtain ⟨p, hp, hv⟩ := h; exact ⟨p, get_join hp, hv⟩
  | gst b j => cases hs
  | elX b i k j m s => cases hs
  | ifc b t => obtain ⟨p, hp, hv⟩ := h; exact ⟨p, get_join hp, hv⟩
  | slP b i j s a => cases hs
  | fn f a c => cases hs
  | agg l => cases hs
  | tup l => cases hs
  | wild i => cases hs
theorem shiftAs_rel {E E2 : Env} {l : List RV} {vs : List Value} (hs : l.all shiftable = true) (h : All2 (VRel E2) l vs) : All2 (VRel (E ++ E2)) (l.map (shiftA E.length)) vs := by
  induction h with
  | nil => exact .nil
  | cons r _ ih =>
    simp only [List.all_cons, Bool.and_eq_true] at hs
    exact .cons (shiftA_rel hs.1 r) (ih hs.2)
theorem shiftM_rel {E E2 : Env} {r : RV} {v : Value} (hs : shiftableM r = true) (h : VRel E2 r v) : VRel (E ++ E2) (shiftM E.length r) v := by
  unfold shiftableM at hs
  split at hs
  · obtain ⟨l', rfl, hl⟩ := h
    exact ⟨l', rfl, VRels_iff.2 (shiftAs_rel hs (VRels_iff.1 hl))⟩
  · rename_i hne
    have : shiftM E.length r = shiftA E.length r := by
      cases r <;> first | rfl | exact absurd rfl (hne _)
    rw [this]
    exact shiftA_rel hs h
theorem shiftMs_rel {E E2 : Env} {l : List RV} {vs : List Value} (hs : l.all shiftableM = true) (h : All2 (VRel E2) l vs) : All2 (VRel (E ++ E2)) (l.map (shiftM E.length)) vs := by
  induction h with
  | nil => exact .nil
  | cons r _ ih =>
    simp only [List.all_cons, Bool.and_eq_true] at hs
    exact .cons (shiftM_rel hs.1 r) (ih hs.2)
theorem shiftB_rel {E E2 : Env} {r : RV} {v : Value} (hs : shiftableB r = true) (h : VRel E2 r v) : VRel (E ++ E2) (shiftB E.length r) v := by
  cases r with
  | pl u => exact shiftA_rel (r := .pl u) rfl h
  | sym k i => exact shiftA_rel (r := .sym k i) rfl h
  | el b i s => cases hs
  | ptr b o => exact shiftA_rel (r := .ptr b o) rfl h
  | sl b o n s c => exact shiftA_rel (r := .sl b o n s c) rfl h
  | slN b i s => exact shiftA_rel (r := .slN b i s) rfl h
  | ifc b t => exact shiftA_rel (r := .ifc b t) rfl h
  | wild i => cases hs
  | slA b i s => cases hs
  | elA b i s => cases hs
  | elF b i s o => cases hs
  | elB b i s o => cases hs
  | slL i s => exact h.elim
  | slX b i k j s => cases hs
  | yld b => exact shiftA_rel (r := .yld b) rfl h
  | gst b j => cases hs
  | elX b i k j m s => cases hs
  | slP b i j s a => cases hs
  | fn f a c =>
    simp only [shiftableB, Bool.and_eq_true] at hs
    obtain ⟨a', c', rfl, ha, hc⟩ := h
    exact ⟨a', c', rfl, VRels_iff.2 (shiftAs_rel hs.1 (VRels_iff.1 ha)), VRels_iff.2 (shiftAs_rel hs.2 (VRels_iff.1 hc))⟩
  | agg l => obtain ⟨l', rfl, hl⟩ := h; exact ⟨l', rfl, VRels_iff.2 (shiftAs_rel hs (VRels_iff.1 hl))⟩
  | tup l => obtain ⟨l', rfl, hl⟩ := h; exact ⟨l', rfl, VRels_iff.2 (shiftMs_rel hs (VRels_iff.1 hl))⟩
theorem shiftBs_rel {E E2 : Env} {l : List RV} {vs : List Value} (hs : l.all shiftableB = true) (h : All2 (VRel E2) l vs) : All2 (VRel (E ++ E2)) (l.map (shiftB E.length)) vs := by
  induction h with
  | nil => exact .nil
  | cons r _ ih =>
    simp only [List.all_cons, Bool.and_eq_true] at hs
    exact .cons (shiftB_rel hs.1 r) (ih hs.2)

omit [Val] in
theorem at?_append_left {h m : RH} {b : Nat} (hb : b < h.length) : at? (h ++ m) b = at? h b := by
  unfold at?
  rw [List.getElem?_append_left hb]
omit [Val] in
theorem at?_append_right {h m : RH} {b : Nat} (hb : h.length ≤ b) : at? (h ++ m) b = at? m (b - h.length) := by
  unfold at?
  rw [List.getElem?_append_right hb]
omit [Val] in
theorem at?_shift {h2 : RH} {k b : Nat} {o : RO} (hb : at? (h2.map (shiftO k)) b = some o) (hs : h2.all shiftableO = true) : ∃ o2, at? h2 b = some o2 ∧ shiftO k (some o2) = some o ∧ shiftableO (some o2) = true := by
  unfold at? at hb ⊢
  rw [List.getElem?_map] at hb
  cases hx : h2[b]? with
  | none => rw [hx] at hb; cases hb
  | some x =>
    rw [hx] at hb
    have hmem : x ∈ h2 := List.mem_of_getElem? hx
    have hsx := List.all_eq_true.1 hs x hmem
    cases x with
    | none => cases hb
    | some o2 => exact ⟨o2, rfl, hb, hsx⟩

omit [Val] in
theorem own_of {o : RO} (h : shiftableO (some o) = true) : o.own = true := by
  cases o with
  | lent l e => cases h
  | lst i e o => exact h
  | lstA i => cases h
  | lstQ i e s => cases h
  | lstB i s => cases h
  | lp st pe => cases h
  | _ => rfl
theorem HInv.join {ro : Ro} {E2 : Env} {h2 : RH} {w' : World} (H : HInv ro base w0 E h w) (H2 : HInv ro w.heap.size w E2 h2 w') (hs : h2.all shiftableO = true) :
    HInv ro base w0 (E ++ E2) (h ++ h2.map (shiftO h.length)) w' := by
  have hlen := H.len
  have H1 := H.world H2.below
  have old : ∀ b, b < h.length → (E ++ E2)[b]? = E[b]? := fun b hb => List.getElem?_append_left (by omega)
  have new : ∀ b, h.length ≤ b → (E ++ E2)[b]? = E2[b - h.length]? := fun b hb => by rw [hlen]; exact List.getElem?_append_right (by omega)
  refine ⟨H1.below, H.lb, by simp [H.len, H2.len], H.ro, fun b o hb => ?_, fun b b' o o' p p' hb hb' wo wo' hp hp' e => ?_, ?_, fun i p hp => ?_⟩
  rotate_right 2
  · have lt : ∀ {b o p}, b < h.length → at? (h ++ h2.map (shiftO h.length)) b = some o → (E ++ E2)[b]? = some p → p.1 < w.heap.size := fun hlt hb hp => by
      rw [at?_append_left hlt] at hb
      rw [old _ hlt] at hp
      exact H.heap_ne hb hp
    have ge : ∀ {b o p}, h.length ≤ b → at? (h ++ h2.map (shiftO h.length)) b = some o → (E ++ E2)[b]? = some p → w.heap.size ≤ p.1 := fun hge hb hp => by
      rw [at?_append_right hge] at hb
      rw [new _ hge] at hp
      obtain ⟨o2, h1, _, h3⟩ := at?_shift hb hs
      obtain ⟨q, k1, k2, _⟩ := H2.blk1 _ o2 h1 (own_of h3)
      rw [hp] at k1
      cases k1
      exact k2
    intro b o p hb hn hp q hq
    by_cases hlt : b < h.length
    · rw [at?_append_left hlt] at hb
      rw [old b hlt] at hp
      obtain ⟨g1, g2⟩ := H.frm b o p hb hn hp q hq
      refine ⟨Nat.lt_of_lt_of_le g1 H2.below.size, ?_⟩
      split
      · rename_i ho
        rw [if_pos ho] at g2
        refine ⟨g2.1, fun b' o' p' hb' wo' hp' => ?_⟩
        by_cases hlt' : b' < h.length
        · rw [at?_append_left hlt'] at hb'
          rw [old b' hlt'] at hp'
          exact g2.2 b' o' p' hb' wo' hp'
        · have := ge (by omega) hb' hp'
          omega
      · rename_i ho
        rwa [if_neg ho] at g2
    · rw [at?_append_right (by omega)] at hb
      rw [new b (by omega)] at hp
      obtain ⟨o2, h1, h2e, h3⟩ := at?_shift hb hs
      have ho2 := own_of h3
      have hn2 : o2.nest = true := by
        cases o2 with
        | cells l e r f => cases h2e; cases hn
        | iter s k => cases h2e; cases hn
        | lent l e => cases h3
        | lst i e ow => cases h2e; cases hn
        | lstA i => cases h3
        | lstQ i e s => cases h3
        | lstL i e s => rfl
        | lstB i s => cases h3
        | lp st pe => cases h3
      have ho : o.own = true := by
        cases o2 with
        | cells l e r f => cases hn2
        | iter s k => cases hn2
        | lent l e => cases h3
        | lst i e ow => cases hn2
        | lstA i => cases h3
        | lstQ i e s => cases h3
        | lstL i e s => cases h2e; rfl
        | lstB i s => cases h3
        | lp st pe => cases h3
      obtain ⟨g1, g2⟩ := H2.frm _ o2 p h1 hn2 hp q hq
      rw [if_pos ho2] at g2
      rw [if_pos ho]
      refine ⟨g1, Nat.le_trans H.size g2.1, fun b' o' p' hb' wo' hp' => ?_⟩
      by_cases hlt' : b' < h.length
      · have := lt hlt' hb' hp'
        omega
      · rw [at?_append_right (by omega)] at hb'
        rw [new b' (by omega)] at hp'
        obtain ⟨o3, k1, _, k3⟩ := at?_shift hb' hs
        exact g2.2 _ o3 p' k1 (own_of k3) hp'
  · by_cases hlt : i < h.length
    · rw [old i hlt] at hp
      exact H1.pin i p hp
    · rw [new i (by omega)] at hp
      exact H2.pin _ p hp
  · by_cases hlt : b < h.length
    · rw [at?_append_left hlt] at hb
      obtain ⟨p, h1, h2, h3⟩ := H1.blk b o hb
      exact ⟨p, by rw [old b hlt]; exact h1, h2, h3.keep (List.prefix_append _ _) rfl fun _ _ _ => rfl⟩
    · rw [at?_append_right (by omega)] at hb
      obtain ⟨o2, h1, h2, h3⟩ := at?_shift hb hs
      obtain ⟨p, k1, k2, k3⟩ := H2.blk1 _ o2 h1 (own_of h3)
      have ho : o.own = true := by
        cases o2 with
        | lent l e => cases h3
        | cells l e r f => cases h2; rfl
        | iter s q => cases h2; rfl
        | lst i e ow => cases h2; exact h3
        | lstA i => cases h3
        | lstQ i e s => cases h3
        | lstL i e s => cases h2; rfl
        | lstB i s => cases h3
        | lp st pe => cases h3
      refine ⟨p, by rw [new b (by omega)]; exact k1, by rw [if_pos ho]; exact Nat.le_trans H.size k2, ?_⟩
      cases o2 with
      | lent l e => cases h3
      | cells l e room froz =>
        cases h2
        obtain ⟨cur, fr, q1, q2, q3, q4⟩ := k3
        refine ⟨cur, fr, q1, q2, ?_, by simpa using q4⟩
        rw [hlen]
        simpa using shiftBs_rel (E := E) h3 q3
      | iter s pos =>
        cases h2
        exact k3
      | lst i e ow =>
        cases h2
        exact k3
      | lstA i => cases h3
      | lstQ i e s => cases h3
      | lstB i s => cases h3
      | lp st pe => cases h3
      | lstL i e s =>
        cases h2
        exact k3
  · have lt : ∀ {b o p}, b < h.length → at? (h ++ h2.map (shiftO h.length)) b = some o → (E ++ E2)[b]? = some p → p.1 < w.heap.size := fun hlt hb hp => by
      rw [at?_append_left hlt] at hb
      rw [old _ hlt] at hp
      exact H.heap_ne hb hp
    have ge : ∀ {b o p}, h.length ≤ b → at? (h ++ h2.map (shiftO h.length)) b = some o → (E ++ E2)[b]? = some p → w.heap.size ≤ p.1 := fun hge hb hp => by
      rw [at?_append_right hge] at hb
      rw [new _ hge] at hp
      obtain ⟨o2, h1, _, h3⟩ := at?_shift hb hs
      obtain ⟨q, k1, k2, _⟩ := H2.blk1 _ o2 h1 (own_of h3)
      rw [hp] at k1
      cases k1
      exact k2
    by_cases hlt : b < h.length <;> by_cases hlt' : b' < h.length
    · rw [at?_append_left hlt] at hb
      rw [at?_append_left hlt'] at hb'
      rw [old _ hlt] at hp
      rw [old _ hlt'] at hp'
      exact H.inj b b' o o' p p' hb hb' wo wo' hp hp' e
    · have k1 := lt hlt hb hp
      have k2 := ge (by omega) hb' hp'
      omega
    · have k1 := ge (by omega) hb hp
      have k2 := lt hlt' hb' hp'
      omega
    · rw [at?_append_right (by omega)] at hb hb'
      rw [new _ (by omega)] at hp hp'
      obtain ⟨o2, h1, _, h3⟩ := at?_shift hb hs
      obtain ⟨o2', h1', _, h3'⟩ := at?_shift hb' hs
      have := H2.inj _ _ _ _ p p' h1 h1' (own_of h3) (own_of h3') hp hp' e
      omega

theorem gcI_ok {E' : Env} {r : RV} {h2 : RH} {v : Value} {base' : Nat} {w0' w' : World} {ro' : Ro} (hv : VRel E' r v) (H' : HInv ro' base' w0' E' h2 w') : ∃ E2, VRel E2 (gcI r h2).1 v ∧ HInv ro' base' w0' E2 (gcI r h2).2 w' := by
  unfold gcI
  simp only
  split
  · rename_i hc
    simp only [Bool.and_eq_true] at hc
    exact ⟨_, pm2_ok hc.2 hv, pmH_inv hc.1.1 hc.1.2 H'⟩
  · exact ⟨E', hv, H'⟩
theorem isoRes_ok {r0 r : RV} {h2 h' : RH} {E' : Env} {e : Ending} {w' : World} {u : Value} (hd : isoRes h (gcI r0 h2) = some (r, h')) (H : HInv g.ro base w0 E h w) (hv : VRel E' r0 u) (H' : HInv g.ro w.heap.size w E' h2 w') (he : e = .returned u) : Done g base w0 E r h' e w' := by
  obtain ⟨E2, hv2, H2⟩ := gcI_ok hv H'
  unfold isoRes at hd
  split at hd
  rename_i r3 h3 hg
  rw [hg] at hv2 H2
  split at hd
  · rename_i hsh
    simp only [Bool.and_eq_true] at hsh
    cases hd
    refine ⟨u, E ++ E2, he, List.prefix_append _ _, ?_, H.join H2 hsh.2⟩
    rw [H.len]
    exact shiftB_rel hsh.1 hv2
  · cases hd
omit [Val] in
theorem isoRes_app {x : RV × RH} {r : RV} {h' : RH} (hd : isoRes h x = some (r, h')) : ∃ X, h' = h ++ X := by
  unfold isoRes at hd
  split at hd
  split at hd
  · cases hd; exact ⟨_, rfl⟩
  · cases hd
theorem isoCall0_ok (hC : CallOK P g (C.F noY)) (hX : XOK P g) {f : FuncId} {args : List RV} {r : RV} {h' : RH} (hd : isoCall0 g C f args h = some (r, h')) (H : HInv g.ro base w0 E h w) {vs : List Value} (ha : All2 (VRel E) args vs) :
    Calls P f vs.toArray w (Done g base w0 E r h') := by
  unfold isoCall0 at hd
  split at hd
  · rename_i us hus
    have hvs : vs = us := plains_rel hus ha
    subst hvs
    have ha' : All2 (VRel []) args vs := by
      rw [plains_spec hus]
      exact All2.pls _
    split at hd
    · rename_i v hv
      cases hd
      refine (hX.x f vs v hv w H.roIn).mono fun e w' ⟨he, hb⟩ => ?_
      exact ⟨v, E, he, List.prefix_refl E, rfl, H.world hb⟩
    · split at hd
      · rename_i q hq
        cases hd
        refine (hX.f f vs q hq w H.roIn).mono fun e w' ⟨p, cur, he, hp, ⟨fr, hh, hF⟩, hn, hc, hb⟩ => ?_
        refine ⟨_, E ++ [(⟨p, cur.size, undef, .no⟩ : EP)], he, List.prefix_append _ _, ⟨⟨p, cur.size, undef, .no⟩, cur.size / q.s, H.new_get _, ?_, hn, rfl⟩, ?_⟩
        · show _ = (cur.size - 0) / q.s
          rw [Nat.sub_zero]
        · refine (H.world hb).push ⟨p, cur.size, undef, .no⟩ _ rfl rfl (Nat.le_trans H.size hp) (fun b o' p' hb' hp' e => ?_) (fun b o' p' hb' hn hp' hq => absurd (H.frm b o' p' hb' hn hp' _ hq).1 (Nat.not_lt.2 hp)) ⟨cur, fr, hh, rfl, ?_, (fun h => by cases h), fun _ => hF⟩
          · have := H.heap_ne hb' hp'
            have e : p'.1 = p := e
            omega
          · rw [List.length_map, hc]
            exact All2.pls _
      split at hd
      · rename_i v h2 hc
        cases hd
        refine (hC f args [] _ _ hc w.heap.size w [] w vs (HInv.start H.roIn) ha').mono fun e w' ⟨u, E', he, _, hv, H'⟩ => ?_
        have hv : u = v := hv
        subst hv
        exact ⟨u, E, he, List.prefix_refl E, rfl, H.world H'.below⟩
      · rename_i r0 h2 _ hc
        refine (hC f args [] _ _ hc w.heap.size w [] w vs (HInv.start H.roIn) ha').mono fun e w' ⟨u, E', he, _, hv, H'⟩ => ?_
        exact isoRes_ok hd H hv H' he
      · cases hd
  · split at hd
    · rename_i hfl
      have ha' : All2 (VRel []) args vs := flats_rel hfl ha
      split at hd
      · rename_i r0 hy
        split at hd
        · rename_i hfr
          cases hd
          refine (hX.y f args _ hy hfr vs ha' w H.roIn).mono fun e w' ⟨⟨u, he, hv⟩, hb⟩ => ?_
          exact ⟨u, E, he, List.prefix_refl E, flat_rel hfr hv, H.world hb⟩
        · cases hd
      · split at hd
        · rename_i r0 h2 hc
          split at hd
          · rename_i hfr
            cases hd
            refine (hC f args [] _ _ hc w.heap.size w [] w vs (HInv.start H.roIn) ha').mono fun e w' ⟨u, E', he, _, hv, H'⟩ => ?_
            exact ⟨u, E, he, List.prefix_refl E, flat_rel hfr hv, H.world H'.below⟩
          · refine (hC f args [] _ _ hc w.heap.size w [] w vs (HInv.start H.roIn) ha').mono fun e w' ⟨u, E', he, _, hv, H'⟩ => ?_
            exact isoRes_ok hd H hv H' he
        · cases hd
    · cases hd
omit [Val] in
theorem isoCall0_app {f : FuncId} {args : List RV} {r : RV} {h' : RH} (hd : isoCall0 g C f args h = some (r, h')) : ∃ X, h' = h ++ X := by
  unfold isoCall0 at hd
  split at hd
  · split at hd
    · cases hd; exact ⟨[], by simp⟩
    · split at hd
      · cases hd; exact ⟨_, rfl⟩
      split at hd
      · cases hd; exact ⟨[], by simp⟩
      · exact isoRes_app hd
      · cases hd
  · split at hd
    · split at hd
      · split at hd
        · cases hd; exact ⟨[], by simp⟩
        · cases hd
      · split at hd
        · split at hd
          · cases hd; exact ⟨[], by simp⟩
          · exact isoRes_app hd
        · cases hd
    · cases hd
omit [Val] in
theorem qCall_spec {f : FuncId} {args : List RV} {r : RV} {h' : RH} (hd : qCall g f args h = some (r, h')) : ∃ r0 h2, args.all flat = true ∧ g.Q f args = some (r0, h2) ∧ shiftableB r0 = true ∧ h2.all shiftableO = true ∧ r = shiftB h.length r0 ∧ h' = h ++ h2.map (shiftO h.length) := by
  unfold qCall at hd
  split at hd
  · rename_i hfl
    split at hd
    · rename_i r0 h2 hq
      split at hd
      · rename_i hsh
        simp only [Bool.and_eq_true] at hsh
        cases hd
        exact ⟨r0, h2, hfl, hq, hsh.1, hsh.2, rfl, rfl⟩
      · cases hd
    · cases hd
  · cases hd
theorem isoCall_ok (hC : CallOK P g (C.F noY)) (hX : XOK P g) {f : FuncId} {args : List RV} {r : RV} {h' : RH} (hd : isoCall g C f args h = some (r, h')) (H : HInv g.ro base w0 E h w) {vs : List Value} (ha : All2 (VRel E) args vs) :
    Calls P f vs.toArray w (Done g base w0 E r h') := by
  unfold isoCall at hd
  split at hd
  · rename_i p hp
    cases hd
    obtain ⟨r0, h2, hfl, hq, hs1, hs2, rfl, rfl⟩ := qCall_spec hp
    refine (hX.q f args _ _ hq hfl vs (flats_rel hfl ha) w H.roIn).mono fun e w' ⟨u, E', he, hv, H'⟩ => ?_
    refine ⟨u, E ++ E', he, List.prefix_append _ _, ?_, H.join H' hs2⟩
    rw [H.len]
    exact shiftB_rel hs1 hv
  · exact isoCall0_ok hC hX hd H ha
omit [Val] in
theorem isoCall_app {f : FuncId} {args : List RV} {r : RV} {h' : RH} (hd : isoCall g C f args h = some (r, h')) : ∃ X, h' = h ++ X := by
  unfold isoCall at hd
  split at hd
  · rename_i p hp
    cases hd
    obtain ⟨r0, h2, _, _, _, _, _, rfl⟩ := qCall_spec hp
    exact ⟨_, rfl⟩
  · exact isoCall0_app hd
omit [Val] in
theorem takeH_eq : ∀ (n : Nat) (l : RH), takeH n l = l.take n
  | 0, _ => rfl
  | _ + 1, [] => rfl
  | n + 1, x :: l => by
    show x :: takeH n l = x :: l.take n
    rw [takeH_eq n l]
theorem refA_rel {E E2 : Env} (hE : E <+: E2) {r : RV} {v : Value} (hr : refA E.length r = true) (h : VRel E2 r v) : VRel E r v := by
  have key : ∀ b p, Nat.blt b E.length = true → E2[b]? = some p → E[b]? = some p := fun b p hb hp => by
    have hb : b < E.length := by
      unfold Nat.blt at hb
      exact Nat.le_of_ble_eq_true hb
    obtain ⟨t, rfl⟩ := hE
    rwa [List.getElem?_append_left hb] at hp
  cases r with
  | pl _ => exact h
  | sym _ _ => exact h
  | el b i s => obtain ⟨p, hp, q⟩ := h; exact ⟨p, key _ _ hr hp, q⟩
  | ptr b o => obtain ⟨p, hp, q⟩ := h; exact ⟨p, key _ _ hr hp, q⟩
  | sl b o n s c => obtain ⟨p, k, hp, q⟩ := h; exact ⟨p, k, key _ _ hr hp, q⟩
  | slN b i s => obtain ⟨p, n, hp, q⟩ := h; exact ⟨p, n, key _ _ hr hp, q⟩
  | slA b i s => obtain ⟨p, a, n, cap, hp, q⟩ := h; exact ⟨p, a, n, cap, key _ _ hr hp, q⟩
  | elA b i s => obtain ⟨p, a, n, cap, hp, q⟩ := h; exact ⟨p, a, n, cap, key _ _ hr hp, q⟩
  | elF b i s o => obtain ⟨p, hp, q⟩ := h; exact ⟨p, key _ _ hr hp, q⟩
  | elB b i s o => obtain ⟨p, a, n, cap, hp, q⟩ := h; exact ⟨p, a, n, cap, key _ _ hr hp, q⟩
  | slL i s => exact h.elim
  | slX b i k j s => obtain ⟨p, oa, n, cap, hp, q⟩ := h; exact ⟨p, oa, n, cap, key _ _ hr hp, q⟩
  | elX b i k j m s => obtain ⟨p, a, n, cap, hp, q⟩ := h; exact ⟨p, a, n, cap, key _ _ hr hp, q⟩
  | slP b i j s a => obtain ⟨p, n, hp, q⟩ := h; exact ⟨p, n, key _ _ hr hp, q⟩
  | ifc b t => obtain ⟨p, hp, q⟩ := h; exact ⟨p, key _ _ hr hp, q⟩
  | wild _ => exact h
  | yld b => obtain ⟨p, hp, q⟩ := h; exact ⟨p, key _ _ hr hp, q⟩
  | gst b j => obtain ⟨p, hp, q⟩ := h; exact ⟨p, key _ _ hr hp, q⟩
  | fn _ _ _ => cases hr
  | agg _ => cases hr
  | tup _ => cases hr
theorem refAs_rel {E E2 : Env} (hE : E <+: E2) : ∀ {l : List RV} {vs : List Value}, l.all (refA E.length) = true → All2 (VRel E2) l vs → All2 (VRel E) l vs
  | _, _, _, .nil => .nil
  | _, _, hl, .cons r h => by
    simp only [List.all_cons, Bool.and_eq_true] at hl
    exact .cons (refA_rel hE hl.1 r) (refAs_rel hE hl.2 h)
theorem refB_rel {E E2 : Env} (hE : E <+: E2) {r : RV} {v : Value} (hr : refB E.length r = true) (h : VRel E2 r v) : VRel E r v := by
  cases r with
  | agg l =>
    obtain ⟨l', rfl, hl⟩ := h
    exact ⟨l', rfl, VRels_iff.2 (refAs_rel hE hr (VRels_iff.1 hl))⟩
  | tup l =>
    obtain ⟨l', rfl, hl⟩ := h
    exact ⟨l', rfl, VRels_iff.2 (refAs_rel hE hr (VRels_iff.1 hl))⟩
  | fn f a c =>
    obtain ⟨a', c', rfl, ha, hc⟩ := h
    have hr : (a.all (refA E.length) && c.all (refA E.length)) = true := hr
    simp only [Bool.and_eq_true] at hr
    exact ⟨a', c', rfl, VRels_iff.2 (refAs_rel hE hr.1 (VRels_iff.1 ha)), VRels_iff.2 (refAs_rel hE hr.2 (VRels_iff.1 hc))⟩
  | _ => exact refA_rel hE hr h
theorem refBs_rel {E E2 : Env} (hE : E <+: E2) : ∀ {l : List RV} {vs : List Value}, l.all (refB E.length) = true → All2 (VRel E2) l vs → All2 (VRel E) l vs
  | _, _, _, .nil => .nil
  | _, _, hl, .cons r h => by
    simp only [List.all_cons, Bool.and_eq_true] at hl
    exact .cons (refB_rel hE hl.1 r) (refBs_rel hE hl.2 h)
theorem HInv.trim {ro : Ro} {E2 : Env} {h2 : RH} (H : HInv ro base w0 E2 h2 w) (hE : E <+: E2) (hr : (h2.take E.length).all (refO E.length) = true) : HInv ro base w0 E (h2.take E.length) w := by
  have hle : E.length ≤ h2.length := by
    rw [H.len]
    exact hE.length_le
  have back : ∀ b o, at? (h2.take E.length) b = some o → b < E.length ∧ at? h2 b = some o ∧ refO E.length (some o) = true := fun b o hb => by
    have hlt := at?_lt hb
    rw [List.length_take, Nat.min_eq_left hle] at hlt
    unfold at? at hb ⊢
    rw [List.getElem?_take_of_lt hlt] at hb
    refine ⟨hlt, hb, ?_⟩
    cases hx : h2[b]? with
    | none => rw [hx] at hb; cases hb
    | some x =>
      rw [hx] at hb
      have : x = some o := hb
      subst this
      exact List.all_eq_true.1 hr _ (List.mem_of_getElem? (by rw [List.getElem?_take_of_lt hlt]; exact hx))
  have get : ∀ b, b < E.length → E2[b]? = E[b]? := fun b hb => by
    obtain ⟨t, rfl⟩ := hE
    exact List.getElem?_append_left hb
  refine ⟨H.below, H.lb, by rw [List.length_take, Nat.min_eq_left hle], H.ro, fun b o hb => ?_, fun b b' o o' p p' hb hb' v1 v2 e1 e2 e3 => ?_, fun b o p hb hn hp q hq => ?_, fun i p hp => H.pin i p (getElem?_prefix hE hp)⟩
  rotate_right
  · obtain ⟨hlt, k1, _⟩ := back b o hb
    rw [← get b hlt] at hp
    obtain ⟨g1, g2⟩ := H.frm b o p k1 hn hp q hq
    refine ⟨g1, ?_⟩
    split
    · rename_i ho
      rw [if_pos ho] at g2
      refine ⟨g2.1, fun b' o' p' hb' wo' hp' => ?_⟩
      obtain ⟨hlt', k1', _⟩ := back b' o' hb'
      rw [← get b' hlt'] at hp'
      exact g2.2 b' o' p' k1' wo' hp'
    · rename_i ho
      rwa [if_neg ho] at g2
  · obtain ⟨hlt, k1, k2⟩ := back b o hb
    obtain ⟨p, h1, h2', h3⟩ := H.blk b o k1
    refine ⟨p, by rw [← get b hlt]; exact h1, h2', ?_⟩
    cases o with
    | cells l e r f =>
      obtain ⟨cur, fr, q1, q2, q3, q4⟩ := h3
      exact ⟨cur, fr, q1, q2, refBs_rel hE k2 q3, q4⟩
    | lent l e =>
      obtain ⟨cur, fr, q1, q2, q3⟩ := h3
      exact ⟨cur, fr, q1, q2, refBs_rel hE k2 q3⟩
    | iter s q => exact h3
    | lst i e ow => exact h3
    | lstA i => exact h3
    | lstQ i e s => exact h3
    | lstL i e s => exact h3
    | lstB i s => exact h3
    | lp st pe => exact h3
  · obtain ⟨hlt, k1, _⟩ := back b o hb
    obtain ⟨hlt', k1', _⟩ := back b' o' hb'
    rw [← get b hlt] at e1
    rw [← get b' hlt'] at e2
    exact H.inj b b' o o' p p' k1 k1' v1 v2 e1 e2 e3
theorem gcN_ok {r0 : RV} {h2 : RH} (H : HInv g.ro base w0 E h w) {e : Ending} {w' : World} (hD : Done g base w0 E r0 h2 e w') : Done g base w0 E (gcN h.length r0 h2).1 (gcN h.length r0 h2).2 e w' := by
  obtain ⟨u, E', he, hE, hv, H'⟩ := hD
  unfold gcN
  simp only
  split
  · exact ⟨u, E', he, hE, hv, H'⟩
  · split
    · rename_i hc
      simp only [Bool.and_eq_true] at hc
      obtain ⟨⟨⟨h0, h1⟩, h3⟩, h4⟩ := hc
      have hle : E.length ≤ E'.length := hE.length_le
      have htake : (List.range h.length ++ reachN h.length h2 300 (blks2 r0 ++ (takeH h.length h2).flatMap blksO) []).take h.length = List.range h.length := by
        rw [List.take_append_of_le_length (by simp), List.take_of_length_le (by simp)]
      have hp := pk_take (E := E') htake (by rw [H.len]; exact hle)
      refine ⟨u, _, he, ?_, pm2_ok h4 hv, pmH_inv h1 h3 H'⟩
      have e1 : E'.take h.length = E := by
        rw [H.len]
        obtain ⟨t, rfl⟩ := hE
        exact List.take_left' rfl
      rw [← e1, ← hp]
      exact List.take_prefix _ _
    · exact ⟨u, E', he, hE, hv, H'⟩
theorem trim1_ok {r0 r : RV} {h2 h' : RH} (hd : trim1 h r0 h2 = (r, h')) (H : HInv g.ro base w0 E h w) {e : Ending} {w' : World} (hcall : Done g base w0 E r0 h2 e w') : Done g base w0 E r h' e w' := by
  have gc : gcN h.length r0 h2 = (r, h') → Done g base w0 E r h' e w' := fun hg => by
    have := gcN_ok H hcall
    rw [hg] at this
    exact this
  obtain ⟨u, E', he', hE, hv, H'⟩ := hcall
  unfold trim1 at hd
  split at hd
  · rename_i hcond
    cases hd
    simp only [Bool.and_eq_true] at hcond
    rw [takeH_eq] at hcond ⊢
    have hlen := H.len
    rw [hlen] at hcond ⊢
    exact ⟨u, E, he', List.prefix_refl E, flat_rel hcond.1 hv, H'.trim hE hcond.2⟩
  · split at hd
    · rename_i k o m s c _
      split at hd
      · rename_i l el room f hlk
        split at hd
        · rename_i hcond
          cases hd
          simp only [Bool.and_eq_true] at hcond
          obtain ⟨⟨hk, hl⟩, hcond⟩ := hcond
          have hlen := H.len
          rw [takeH_eq] at hcond ⊢
          rw [hlen] at hk hl hcond ⊢
          have hk : E.length < k := by
            unfold Nat.blt at hk
            exact Nat.le_of_ble_eq_true hk
          rw [lkp_eq] at hlk
          obtain ⟨p, h1, h2', h3⟩ := H'.blk1 k _ hlk rfl
          have T := H'.trim hE hcond
          have hle : E.length ≤ h2.length := by
            rw [H'.len]
            exact hE.length_le
          have back : ∀ b o', at? (h2.take E.length) b = some o' → b < E.length ∧ at? h2 b = some o' := fun b o' hb => by
            have hlt := at?_lt hb
            rw [List.length_take, Nat.min_eq_left hle] at hlt
            unfold at? at hb ⊢
            rw [List.getElem?_take_of_lt hlt] at hb
            exact ⟨hlt, hb⟩
          have get : ∀ b p', b < E.length → E[b]? = some p' → E'[b]? = some p' := fun b p' hb hp => by
            obtain ⟨t, rfl⟩ := hE
            rw [List.getElem?_append_left hb]
            exact hp
          obtain ⟨q, kk, hq, hr⟩ := hv
          rw [h1] at hq
          cases hq
          have hnk := H'.no_pin hlk h1 rfl
          refine ⟨u, E ++ [p], he', List.prefix_append _ _, ⟨p, kk, by rw [List.getElem?_append_right (Nat.le_refl _)]; simp, hr⟩, T.push p (.cells l el room f) rfl rfl h2' (fun b o' p' hb hp' => ?_) (fun b o' p' hb hn hp' => ?_) ?_⟩
          · obtain ⟨hlt, hb'⟩ := back b o' hb
            exact H'.killed hlk h1 rfl b o' p' (by rw [at?_set_other none (by omega)]; exact hb') (get b p' hlt hp')
          · obtain ⟨hlt, hb'⟩ := back b o' hb
            exact H'.killed_in hlk h1 rfl b o' p' (by rw [at?_set_other none (by omega)]; exact hb') hn (get b p' hlt hp')
          · obtain ⟨cur, fr, q1, q2, q3, q4⟩ := h3
            exact ⟨cur, fr, q1, q2, (refBs_rel hE hl q3).ext (List.prefix_append _ _), q4⟩
        · exact gc hd
      · exact gc hd
    · exact gc hd
theorem trimC_ok {K : CallF} (hC : CallOKE P g E0 K) (hE0 : E0 <+: E) {f : FuncId} {args : List RV} {r : RV} {h' : RH} (hd : trimC h (K f args h) = some (r, h')) (H : HInv g.ro base w0 E h w) {vs : List Value} (ha : All2 (VRel E) args vs) :
    Calls P f vs.toArray w (Done g base w0 E r h') := by
  cases hc : K f args h with
  | none => rw [hc] at hd; cases hd
  | some x =>
    obtain ⟨r0, h2⟩ := x
    rw [hc] at hd
    have hd : trim1 h r0 h2 = (r, h') := Option.some.inj hd
    exact (hC _ _ _ _ _ hc _ _ _ _ _ hE0 H ha).mono fun e w' hD => trim1_ok hd H hD
theorem doCall_ok (hC : GoodC P g E0 C) (hE0 : E0 <+: E) (hX : XOK P g) {f : FuncId} {args : List RV} {r : RV} {h' : RH} (hd : doCall g C f args h = some (r, h')) (H : HInv g.ro base w0 E h w) {vs : List Value} (ha : All2 (VRel E) args vs) :
    Calls P f vs.toArray w (Done g base w0 E r h') := by
  unfold doCall at hd
  split at hd
  · rename_i p hp
    cases hd
    exact isoCall_ok hC.iso hX hp H ha
  · split at hd
    · rename_i p hp
      cases hd
      exact hX.u _ _ _ _ _ hp _ _ _ _ _ H ha
    split at hd
    · rename_i r0 hl
      cases hd
      unfold lentCall at hl
      split at hl
      · rename_i ds hds
        split at hl
        · rename_i r1 hr1
          split at hl
          · rename_i hfr
            cases hl
            refine (hX.l f ds _ hr1 hfr base w0 E h w args vs H hds ha).mono fun e w' ⟨⟨u, he, hv⟩, hb⟩ => ?_
            exact ⟨u, E, he, List.prefix_refl E, flat_rel hfr hv, H.world hb⟩
          · cases hl
        · cases hl
      · cases hl
    · split at hd
      · rename_i r0 hl
        cases hd
        unfold lentN at hl
        split at hl
        · rename_i ds hds
          split at hl
          · rename_i r1 hr1
            split at hl
            · rename_i hfr
              cases hl
              refine (hX.lc f ds _ hr1 hfr base w0 E h w args vs H hds ha).mono fun e w' ⟨⟨u, he, hv⟩, hb⟩ => ?_
              exact ⟨u, E, he, List.prefix_refl E, flat_rel hfr hv, H.world hb⟩
            · cases hl
          · cases hl
        · cases hl
      · exact trimC_ok (hC.all E0 C.Y hC.y) hE0 hd H ha

def putT (t : List RV) (d : Option Tmp) (v : RV) : List RV :=
  match d with
  | some d => t.set d v
  | none => t
omit [Val] in
theorem putS_eq (t : List RV) (h : RH) (d : Option Tmp) (v : RV) : putS t h d v = some ⟨putT t d v, h⟩ := by
  cases d with
  | none => rfl
  | some d => simp only [putS, fRV_eq, setL_eq, putT]
omit [Val] in
theorem putF_eq (t : List RV) (h : RH) (d : Option Tmp) (v : RV) : putF t h d v = some ⟨putT t d v, h⟩ := by
  cases d with
  | none => rfl
  | some d => simp only [putF, setL_eq, putT]
theorem put_rel (ht : All2 (VRel E) t a.tmps.toList) (d : Option Tmp) {v : RV} {u : Value} (hv : VRel E v u) : All2 (VRel E) (putT t d v) (a.put d u).tmps.toList := by
  cases d with
  | none => exact ht
  | some d =>
    simp only [putT, Act.put, Array.toList_setIfInBounds]
    exact ht.set d hv
omit [Val] in
theorem put_defers (d : Option Tmp) (u : Value) : (a.put d u).defers = a.defers := by cases d <;> rfl

/-- What an effect leaves of the state. -/
noncomputable def appE (g : Cfg) (C : CallG) (t : List RV) (h : RH) (d : Option Tmp) : Eff → Option St
  | .val v => some ⟨putT t d v, h⟩
  | .same v => some ⟨putT t d v, h⟩
  | .setB v b ob => some ⟨putT t d v, h.set b (some ob)⟩
  | .newB v ob => some ⟨putT t d v, h ++ [some ob]⟩
  | .moveB v b ob => some ⟨putT t d v, h.set b none ++ [some ob]⟩
  | .move2 v b b2 ob => some ⟨putT t d v, (h.set b none).set b2 none ++ [some ob]⟩
  | .call f args => (doCall g C f args h).map fun p => ⟨putT t d p.1, p.2⟩
  | .yield b args => (C.Y b args h).map fun p => ⟨putT t d p.1, p.2⟩
omit [Val] in
theorem app_eq (t : List RV) (h : RH) (d : Option Tmp) (e : Option Eff) : app g C t h d e = e.bind (appE g C t h d) := by
  cases e with
  | none => rfl
  | some e =>
    cases e with
    | val v => exact putS_eq t h d v
    | same v => exact putF_eq t h d v
    | setB v b ob => simp only [app, sSet, fRO_eq, fNat_eq, setL_eq, putS_eq, Option.bind_some, appE]
    | newB v ob => simp only [app, sNew, fRO_eq, fSpine_eq, putS_eq, Option.bind_some, appE]
    | moveB v b ob => simp only [app, sMove, fRO_eq, fNat_eq, fSpine_eq, setL_eq, putS_eq, Option.bind_some, appE]
    | move2 v b b2 ob => simp only [app, sMove2, fRO_eq, fNat_eq, fSpine_eq, setL_eq, putS_eq, Option.bind_some, appE]
    | call f args =>
      simp only [app, sCall, Option.bind_some, appE]
      cases doCall g C f args h with
      | none => rfl
      | some p =>
        simp only [fRV_eq, fList_eq _ (fun x k => fRO_eq x k), putF_eq]
        rfl
    | yield b args =>
      simp only [app, sYield, Option.bind_some, appE]
      cases C.Y b args h with
      | none => rfl
      | some p =>
        simp only [fRV_eq, fList_eq _ (fun x k => fRO_eq x k), putF_eq]
        rfl

/-- The effect of an operation. -/
noncomputable def effC (P : Program) (g : Cfg) (o : Oper) (t : List RV) (h : RH) : Option Eff := orElse P o t ((memC P g o.op).f t h)

omit [Val] in
theorem stepW_eq (ops : Array Oper) (o : Oper) (s : St) : stepW P g C ops o s =
    match o.guard with
    | none => (effC P g o s.t s.h).bind (appE g C s.t s.h o.dst)
    | some (j, want) => if symAt ops s.t j then none else if yieldedR ops s.t j == some want then (effC P g o s.t s.h).bind (appE g C s.t s.h o.dst) else some ⟨putT s.t o.dst (.pl undef), s.h⟩ := by
  obtain ⟨t, h⟩ := s
  obtain ⟨dst, op, type, pos, after, guard⟩ := o
  cases guard with
  | none => cases dst <;> simp only [stepW, stepC, app_eq, effC]
  | some p =>
    simp only [stepW, stepC, guarded, app_eq, effC, putS_eq]
    cases symAt ops t p.1 <;> rfl

theorem yielded_eq (ops : Array Oper) (ht : All2 (VRel E) t a.tmps.toList) (j : Nat) (hsym : symAt ops t j = false) : yieldedR ops t j = yielded ops a.tmps j := by
  unfold symAt at hsym
  unfold yieldedR yielded
  cases hd : (ops[j]?).bind (·.dst) with
  | none => rfl
  | some d =>
    simp only [Option.bind_some]
    simp only [hd, Option.bind_some] at hsym
    have e : a.tmps[d]? = a.tmps.toList[d]? := by simp
    rw [e]
    cases hr : t[d]? with
    | none => rw [ht.get_none d hr]
    | some r =>
      obtain ⟨v, hv, hrel⟩ := ht.get d r hr
      rw [hv]
      cases r with
      | pl u =>
        have hrel : v = u := hrel
        subst hrel
        cases v <;> rfl
      | sym k i => rw [hr] at hsym; cases hsym
      | el b i s => obtain ⟨p, hp, rfl⟩ := hrel; rfl
      | ptr b o => obtain ⟨p, hp, rfl⟩ := hrel; rfl
      | sl b o n s c => obtain ⟨p, k, hp, hk, hn, rfl⟩ := hrel; rfl
      | fn f x c => obtain ⟨x', c', rfl, _⟩ := hrel; rfl
      | agg l => obtain ⟨l', rfl, _⟩ := hrel; rfl
      | tup l => obtain ⟨l', rfl, _⟩ := hrel; rfl
      | slN b i s => obtain ⟨p, n, hp, _, _, _, rfl⟩ := hrel; rfl
      | ifc b t => obtain ⟨p, hp, rfl⟩ := hrel; rfl
      | wild i => rw [hr] at hsym; cases hsym
      | slA b i s => obtain ⟨p, a', n, cap, hp, _, _, _, _, _, rfl⟩ := hrel; rfl
      | elA b i s => obtain ⟨p, a', n, cap, hp, _, rfl⟩ := hrel; rfl
      | elF b i s o => obtain ⟨p, hp, rfl⟩ := hrel; rfl
      | elB b i s o => obtain ⟨p, a', n, cap, hp, _, rfl⟩ := hrel; rfl
      | slL i s => exact hrel.elim
      | slX b i k j s => obtain ⟨p, oa, n, cap, hp, _, _, _, _, _, rfl⟩ := hrel; rfl
      | elX b i k j m s => obtain ⟨p, a', n, cap, hp, _, _, rfl⟩ := hrel; rfl
      | slP b i j s a2 => obtain ⟨p, n, hp, _, _, _, _, _, rfl⟩ := hrel; rfl
      | yld b => obtain ⟨p, hp, rfl⟩ := hrel; rfl
      | gst b j => rw [hr] at hsym; cases hsym

omit [Val] in
/-- No deferred call has an effect here. -/
theorem not_defer {o : Oper} {e : Eff} (he : effC P g o t h = some e) : ∀ c, o.op ≠ .defer c := by
  intro c hop
  unfold effC orElse at he
  rw [hop] at he
  simp only [memC] at he
  have hq : noCall o.op (pureOp P o t) = some e := by rw [hop]; exact he
  have hp : ∃ e2, pureOp P o t = some e2 := by
    cases hpo : pureOp P o t with
    | none => rw [hpo] at hq; cases hq
    | some e2 => exact ⟨e2, rfl⟩
  obtain ⟨e2, hp⟩ := hp
  unfold pureOp at hp
  have hex : ∀ ρ : Operand → Value, execOp ρ o = (do pure (.defer (← resolve ρ c o.type)) : Sem Next) := fun ρ => by
    unfold execOp
    rw [hop]
  have hrun : ∀ (ρ : Operand → Value) (x : Next), quiet P (execOp ρ o) = some x → ∃ d, x = .defer d := fun ρ x hx => by
    have := quiet_run P _ _ hx default
    rw [hex, Sem.run_bind] at this
    cases hr : (resolve ρ c o.type).run P default with
    | ok d w' => rw [hr] at this; simp only [Result.andThen, Sem.run_pure] at this; cases this; exact ⟨d, rfl⟩
    | halt x w' => rw [hr] at this; cases this
  split at hp
  · cases hp
  · split at hp
    · split at hp
      · rename_i hq2; obtain ⟨d, hd⟩ := hrun _ _ hq2; cases hd
      · rename_i hq2; obtain ⟨d, hd⟩ := hrun _ _ hq2; cases hd
      · rename_i hq2; obtain ⟨d, hd⟩ := hrun _ _ hq2; cases hd
      · cases hp
    · cases hp
omit [Val] in
theorem semAt_of {o : Oper} {e : Eff} (he : effC P g o t h = some e) (ρ : Option Nat) (ev : Operand → Value) : o.semAt ρ ev = execOp ev o := by
  cases ρ with
  | none => exact Oper.semAt_none _ _
  | some l => exact Oper.semAt_some l ev o (not_defer he)
omit [Val] in
theorem fr_depth (ρ : Option Nat) (n : Nat) : (FrR ρ).depth.isSome = true → 1 ≤ n := fun h => by simp [FrR, Fence.wide] at h
omit [Val] in
theorem callsIn_fr {ρ : Option Nat} {n : Nat} {f : FuncId} {args : Array Value} {R : Ending → World → Prop} (h : Calls P f args w R) : CallsIn (FrR ρ) n P f args w R := (callsIn_wide (n := n)).2 h

/-- One operation that is carried out. -/
theorem oper_ok (G : CfgOK P g) (hC : GoodC P g E0 C) (hX : XOK P g) (ρ : Option Nat) (o : Oper) {e : Eff} {s s' : St} (S : SimM g base w0 E0 s E a w) (he : effC P g o s.t s.h = some e) (hs : appE g C s.t s.h o.dst e = some s')
    {K : Act → World → Prop} {Q : Exit → Act → World → Prop} (hK : ∀ E' a' w', E <+: E' → SimM g base w0 E0 s' E' a' w' → a'.defers = a.defers → K a' w') : o.wpIn (FrR ρ) 0 P a w K Q := by
  have hf := opC_fits hX.t G S.h S.t o he
  refine ⟨fun _ _ => trivial, ?_⟩
  show o.uponIn (FrR ρ) 0 P a K Q ((o.semAt ρ a.eval).run P w)
  rw [semAt_of he ρ]
  have next : ∀ (v : RV) (h' : RH) (E' : Env) (u : Value) (w' : World), E <+: E' → VRel E' v u → HInv g.ro base w0 E' h' w' → s' = ⟨putT s.t o.dst v, h'⟩ → K (a.put o.dst u) w' := fun v h' E' u w' hE hv H' hs' =>
    hK E' _ _ hE (hs' ▸ ⟨put_rel (S.t.ext hE) o.dst hv, by rw [put_defers]; exact S.d.ext hE, H', S.e.trans hE⟩) (put_defers _ _)
  have plain : ∀ (v : RV) (h' : RH) (E' : Env) (u : Value) (w' : World), E <+: E' → VRel E' v u → HInv g.ro base w0 E' h' w' → s' = ⟨putT s.t o.dst v, h'⟩ →
      ((execOp a.eval o).run P w = .ok (.value u) w' ∨ ((execOp a.eval o).run P w = .ok .skip w' ∧ u = undef)) → o.uponIn (FrR ρ) 0 P a K Q ((execOp a.eval o).run P w) := by
    intro v h' E' u w' hE hv H' hs' hres
    have hk := next v h' E' u w' hE hv H' hs'
    rcases hres with hr | ⟨hr, hu⟩
    · rw [hr]; exact hk
    · rw [hr]; subst hu; exact hk
  cases e with
  | val v =>
    obtain ⟨u, hv, hres⟩ := hf
    cases hs
    exact plain v s.h E u w (List.prefix_refl E) hv S.h rfl hres
  | same v =>
    obtain ⟨u, hv, hres⟩ := hf
    cases hs
    exact plain v s.h E u w (List.prefix_refl E) hv S.h rfl hres
  | setB v b ob =>
    obtain ⟨E', u, w', hE, hv, hres, H'⟩ := hf
    cases hs
    exact plain v _ E' u w' hE hv H' rfl hres
  | newB v ob =>
    obtain ⟨E', u, w', hE, hv, hres, H'⟩ := hf
    cases hs
    exact plain v _ E' u w' hE hv H' rfl hres
  | moveB v b ob =>
    obtain ⟨E', u, w', hE, hv, hres, H'⟩ := hf
    cases hs
    exact plain v _ E' u w' hE hv H' rfl hres
  | move2 v b b2 ob =>
    obtain ⟨E', u, w', hE, hv, hres, H'⟩ := hf
    cases hs
    exact plain v _ E' u w' hE hv H' rfl hres
  | call f args =>
    obtain ⟨vs, ha, hres⟩ := hf
    rw [hres]
    simp only [appE] at hs
    cases hd : doCall g C f args s.h with
    | none => rw [hd] at hs; cases hs
    | some p =>
      obtain ⟨r, h'⟩ := p
      rw [hd] at hs
      cases hs
      refine ⟨fr_depth ρ 0, callsIn_fr ((doCall_ok hC S.e hX hd S.h ha).mono fun e w' ⟨u, E', he', hE, hv, H'⟩ => ?_)⟩
      subst he'
      exact next r h' E' u w' hE hv H' rfl
  | yield b args =>
    obtain ⟨p, vs, hp, ha, hres⟩ := hf
    simp only [appE] at hs
    cases hd : C.Y b args s.h with
    | none => rw [hd] at hs; cases hs
    | some q =>
      obtain ⟨r, h'⟩ := q
      rw [hd] at hs
      cases hs
      obtain ⟨p', L, hp', hL, hsz, hR⟩ := hC.y _ _ _ _ _ hd _ _ _ _ _ S.e S.h ha
      rw [hp] at hp'
      cases hp'
      rw [hres L hL hsz]
      refine ⟨fr_depth ρ 0, hR.mono fun e w' ⟨u, E', he', hE, hv, H'⟩ => ?_⟩
      subst he'
      exact next r h' E' u w' hE hv H' rfl

/-- One operation, wanted or not. -/
theorem stepW_ok (G : CfgOK P g) (hC : GoodC P g E0 C) (hX : XOK P g) (ρ : Option Nat) {ops : Array Oper} {o : Oper} {s s' : St} (S : SimM g base w0 E0 s E a w) (hs : stepW P g C ops o s = some s')
    {K : Act → World → Prop} {Q : Exit → Act → World → Prop} (hK : ∀ E' a' w', E <+: E' → SimM g base w0 E0 s' E' a' w' → a'.defers = a.defers → K a' w') :
    if Region.wanted o (yielded ops a.tmps) then o.wpIn (FrR ρ) 0 P a w K Q else (∀ f, o.about P w a.eval = some f → (FrR ρ).fn f) ∧ K (a.put o.dst undef) w := by
  rw [stepW_eq] at hs
  have go : (effC P g o s.t s.h).bind (appE g C s.t s.h o.dst) = some s' → o.wpIn (FrR ρ) 0 P a w K Q := fun hb => by
    cases he : effC P g o s.t s.h with
    | none => rw [he] at hb; cases hb
    | some e =>
      rw [he] at hb
      exact oper_ok G hC hX ρ o S he hb hK
  unfold Region.wanted
  split at hs
  · rename_i hg
    rw [hg]
    exact go hs
  · rename_i j want hg
    rw [hg]
    simp only
    split at hs
    · cases hs
    rename_i hsym
    rw [yielded_eq ops S.t j (by simpa using hsym)] at hs
    split at hs
    · rename_i hy
      rw [if_pos hy]
      exact go hs
    · rename_i hy
      rw [if_neg hy]
      cases hs
      exact ⟨fun _ _ => trivial, hK E _ _ (List.prefix_refl E) ⟨put_rel S.t o.dst rfl, by rw [put_defers]; exact S.d, S.h, S.e⟩ (put_defers _ _)⟩

theorem nestOp_ok (hT : TOK P g) (ρ : Option Nat) {o : Oper} {s s' : St} (S : SimM g base w0 E0 s E a w) (hs : nestOp P g o s = some s')
    {K : Act → World → Prop} {Q : Exit → Act → World → Prop} (hK : ∀ E' a' w', E <+: E' → SimM g base w0 E0 s' E' a' w' → a'.defers = a.defers → K a' w') : o.guard = none ∧ o.wpIn (FrR ρ) 0 P a w K Q := by
  unfold nestOp at hs
  split at hs
  · rename_i ty x y hop hg hd
    split at hs
    · cases hs
    · obtain ⟨E', w', hE, hr, ht, H'⟩ := nestPut_ok hT S.h S.t (ev_rel S.t x) (ev_rel S.t y) hs
      refine ⟨hg, fun _ _ => trivial, ?_⟩
      show o.uponIn (FrR ρ) 0 P a K Q ((o.semAt ρ a.eval).run P w)
      have hsem : o.semAt ρ a.eval = execOp a.eval o := by
        cases ρ with
        | none => exact Oper.semAt_none _ _
        | some l => exact Oper.semAt_some l _ o (fun c h => by rw [hop] at h; cases h)
      have hrun : (execOp a.eval o).run P w = .ok .skip w' := by
        unfold execOp
        rw [hop]
        exact hr
      rw [hsem, hrun]
      have hk : K (a.put o.dst undef) w' := by
        rw [hd]
        exact hK E' a w' hE ⟨ht, S.d.ext hE, H', S.e.trans hE⟩ rfl
      exact hk
  · cases hs
theorem stepL_ok (G : CfgOK P g) (hC : GoodC P g E0 C) (hX : XOK P g) (ρ : Option Nat) {ops : Array Oper} {o : Oper} {s s' : St} (S : SimM g base w0 E0 s E a w) (hs : stepL P g C ops o s = some s')
    {K : Act → World → Prop} {Q : Exit → Act → World → Prop} (hK : ∀ E' a' w', E <+: E' → SimM g base w0 E0 s' E' a' w' → a'.defers = a.defers → K a' w') :
    if Region.wanted o (yielded ops a.tmps) then o.wpIn (FrR ρ) 0 P a w K Q else (∀ f, o.about P w a.eval = some f → (FrR ρ).fn f) ∧ K (a.put o.dst undef) w := by
  unfold stepL at hs
  split at hs
  · rename_i s1 h1
    cases hs
    obtain ⟨hg, hwp⟩ := nestOp_ok (Q := Q) hX.t ρ S h1 hK
    unfold Region.wanted
    rw [hg]
    exact hwp
  · exact stepW_ok G hC hX ρ S hs hK

theorem runOps_ok (G : CfgOK P g) (hC : GoodC P g E0 C) (hX : XOK P g) (ρ : Option Nat) {ops : Array Oper} {Q : Exit → Act → World → Prop} : ∀ (l : List Oper) (s s' : St) (E : Env) (a : Act) (w : World), SimM g base w0 E0 s E a w → runOps P g C ops l s = some s' →
    (∀ E' a' w', E <+: E' → SimM g base w0 E0 s' E' a' w' → a'.defers = a.defers → Q .normal a' w') → wpListIn (FrR ρ) 0 P ops Q l a w
  | [], s, s', E, a, w, S, hr, hQ => by
    cases hr
    exact hQ E a w (List.prefix_refl E) S rfl
  | o :: l, s, s', E, a, w, S, hr, hQ => by
    have e : runOps P g C ops (o :: l) s = (match stepL P g C ops o s with | some s' => runOps P g C ops l s' | none => none) := rfl
    rw [e] at hr
    split at hr
    · rename_i s1 h1
      exact stepL_ok G hC hX ρ S h1 fun E' a' w' hE S' hd => runOps_ok G hC hX ρ l s1 s' E' a' w' S' hr fun E2 a2 w2 hE2 S2 hd2 => hQ E2 a2 w2 (hE.trans hE2) S2 (hd2.trans hd)
    · cases hr
end
end Go.Ri

/-! Two states that differ in how their blocks are numbered. -/
namespace Go.Ri
open Go Go.RowKit
variable [Val]
/-- What holds of the one holds of the other, the first n0 blocks the same. -/
def Mor (n0 : Nat) (s s' : St) : Prop := ∀ (V : Val) (g : Cfg) (base : Nat) (w0 : World) (E : Env) (a : Act) (w : World), n0 ≤ E.length → @SimT V g base w0 s E a w → ∃ E', E'.take n0 = E.take n0 ∧ n0 ≤ E'.length ∧ @SimT V g base w0 s' E' a w
omit [Val] in
theorem Mor.rfl' {n0 : Nat} {s : St} : Mor n0 s s := fun _ _ _ _ E _ _ hE S => ⟨E, rfl, hE, S⟩
omit [Val] in
theorem Mor.trans {n0 : Nat} {s s' s'' : St} (h : Mor n0 s s') (h' : Mor n0 s' s'') : Mor n0 s s'' := fun V g base w0 E a w hE S => by
  obtain ⟨E1, e1, l1, S1⟩ := h V g base w0 E a w hE S
  obtain ⟨E2, e2, l2, S2⟩ := h' V g base w0 E1 a w l1 S1
  exact ⟨E2, e2.trans e1, l2, S2⟩
omit [Val] in
theorem samePm_mor {n0 : Nat} {s' s : St} (h : samePm n0 s' s = true) : Mor n0 s' s := by
  intro V g base w0 E a w hE S
  unfold samePm at h
  simp only [Bool.and_eq_true, beq_iff_eq] at h
  obtain ⟨⟨⟨⟨h0, h1⟩, h2⟩, h3⟩, h4⟩ := h
  generalize permOf n0 s' s = R at h1 h2 h3 h4
  have h0 : n0 ≤ s.h.length := Nat.le_of_ble_eq_true h0
  refine ⟨pkE R E, pk_take h2 hE, ?_, ⟨@pms_ok V R E _ (fun x y v => @pm2_ok V R E x y v) _ _ _ h4 (@SimT.t V _ _ _ _ _ _ _ S), @pmH_inv V R E _ _ _ _ _ _ h1 h3 (@SimT.h V _ _ _ _ _ _ _ S)⟩⟩
  have := (@pmH_get R s'.h R s.h h3).1
  unfold pkE
  rw [List.length_map, this]
  exact h0
end Go.Ri

namespace Go.Ri
open Go Go.RowKit
variable [Val]

section
variable {P : Program} {g : Cfg} {C : CallG} {E0 : Env} {base : Nat} {w0 : World} {E : Env} {h : RH} {w : World} {t : List RV} {a : Act}

omit [Val] in
theorem effR_eq (o : Oper) (t : List RV) (h : RH) : effR P g o t h = effC P g o t h := rfl

/-! Regions that leave the heap alone: one order serves all. -/
theorem doCallQ_ok (hC : CallOK P g (C.F noY)) (hX : XOK P g) {f : FuncId} {args : List RV} {v : RV} (hd : doCallQ g C f args h = some v) (H : HInv g.ro base w0 E h w) {vs : List Value} (ha : All2 (VRel E) args vs) :
    Calls P f vs.toArray w (fun e w' => (∃ u, e = .returned u ∧ VRel E v u) ∧ HInv g.ro base w0 E h w') := by
  unfold doCallQ at hd
  split at hd
  · rename_i us hus
    have hvs : vs = us := plains_rel hus ha
    subst hvs
    split at hd
    · rename_i v' hv
      cases hd
      exact (hX.x f vs _ hv w H.roIn).mono fun e w' ⟨he, hb⟩ => ⟨⟨_, he, rfl⟩, H.world hb⟩
    · split at hd
      · rename_i v' h2 hc
        cases hd
        have ha' : All2 (VRel []) args vs := by
          rw [plains_spec hus]
          exact All2.pls _
        refine (hC f args [] _ _ hc w.heap.size w [] w vs (HInv.start H.roIn) ha').mono fun e w' ⟨u, E', he, _, hv, H'⟩ => ?_
        exact ⟨⟨_, he, hv⟩, H.world H'.below⟩
      · cases hd
  · split at hd
    · rename_i hfl
      have ha' : All2 (VRel []) args vs := flats_rel hfl ha
      split at hd
      · rename_i r0 hy
        split at hd
        · rename_i hfr
          cases hd
          exact (hX.y f args _ hy hfr vs ha' w H.roIn).mono fun e w' ⟨⟨u, he, hv⟩, hb⟩ => ⟨⟨u, he, flat_rel hfr hv⟩, H.world hb⟩
        · cases hd
      · split at hd
        · rename_i r0 h2 hc
          split at hd
          · rename_i hfr
            cases hd
            exact (hC f args [] _ _ hc w.heap.size w [] w vs (HInv.start H.roIn) ha').mono fun e w' ⟨u, E', he, _, hv, H'⟩ => ⟨⟨u, he, flat_rel hfr hv⟩, H.world H'.below⟩
          · cases hd
        · cases hd
    · unfold lentN at hd
      split at hd
      · rename_i ds hds
        split at hd
        · rename_i r1 hr1
          split at hd
          · rename_i hfr
            cases hd
            exact (hX.lc f ds _ hr1 hfr base w0 E h w args vs H hds ha).mono fun e w' ⟨⟨u, he, hv⟩, hb⟩ => ⟨⟨u, he, flat_rel hfr hv⟩, H.world hb⟩
          · cases hd
        · cases hd
      · cases hd

omit [Val] in
theorem doCallQ_flat {f : FuncId} {args : List RV} {v : RV} (hd : doCallQ g C f args h = some v) : flat v = true := by
  unfold doCallQ at hd
  split at hd
  · split at hd
    · cases hd; rfl
    · split at hd
      · cases hd; rfl
      · cases hd
  · split at hd
    · split at hd
      · split at hd
        · cases hd; assumption
        · cases hd
      · split at hd
        · split at hd
          · cases hd; assumption
          · cases hd
        · cases hd
    · unfold lentN at hd
      split at hd
      · split at hd
        · split at hd
          · cases hd; assumption
          · cases hd
        · cases hd
      · cases hd

theorem appQ_quiet (G : CfgOK P g) (hC : CallOK P g (C.F noY)) (hX : XOK P g) {o : Oper} {s s' : St} (ht : All2 (VRel E) s.t a.tmps.toList) (hw : HInv g.ro base w0 E s.h w) (hs : appQ g C s.t s.h o.dst (effR P g o s.t s.h) = some s') :
    s'.h = s.h ∧ ∃ v u, VRel E v u ∧ s'.t = putT s.t o.dst v ∧ ∀ w, HInv g.ro base w0 E s.h w → o.quietAt P a (fun w' => HInv g.ro base w0 E s.h w') w u := by
  rw [effR_eq] at hs
  cases he : effC P g o s.t s.h with
  | none => rw [he] at hs; cases hs
  | some e =>
    rw [he] at hs
    have fits : ∀ w, HInv g.ro base w0 E s.h w → Fits g.ro base w0 E s.h w ((execOp a.eval o).run P w) e := fun w H => opC_fits hX.t G H ht o he
    have plain : ∀ v, (∀ w, HInv g.ro base w0 E s.h w → ∃ u, VRel E v u ∧ ((execOp a.eval o).run P w = .ok (.value u) w ∨ ((execOp a.eval o).run P w = .ok .skip w ∧ u = undef))) → s' = ⟨putT s.t o.dst v, s.h⟩ →
        s'.h = s.h ∧ ∃ v u, VRel E v u ∧ s'.t = putT s.t o.dst v ∧ ∀ w, HInv g.ro base w0 E s.h w → o.quietAt P a (fun w' => HInv g.ro base w0 E s.h w') w u := by
      intro v hf hs'
      obtain ⟨u, hv, _⟩ := hf w hw
      subst hs'
      refine ⟨rfl, v, u, hv, rfl, fun w2 H2 => ?_⟩
      obtain ⟨u2, hv2, hr⟩ := hf w2 H2
      have hu := VRel.fn v u u2 hv hv2
      subst hu
      unfold Oper.quietAt
      rcases hr with hr | ⟨hr, hu⟩
      · rw [hr]; exact ⟨rfl, rfl⟩
      · rw [hr]; exact ⟨rfl, hu⟩
    cases e with
    | val v =>
      simp only [appQ, putS_eq] at hs
      cases hs
      exact plain v fits rfl
    | same v =>
      simp only [appQ, putF_eq] at hs
      cases hs
      exact plain v fits rfl
    | call f args =>
      simp only [appQ, putF_eq] at hs
      cases hd : doCallQ g C f args s.h with
      | none => rw [hd] at hs; cases hs
      | some v =>
        rw [hd] at hs
        cases hs
        have hfl := doCallQ_flat hd
        refine ⟨rfl, v, cvF v, rel_cvF hfl, rfl, fun w2 H2 => ?_⟩
        obtain ⟨vs, ha, hr⟩ := fits w2 H2
        unfold Oper.quietAt
        rw [hr]
        exact ⟨rfl, (doCallQ_ok hC hX hd H2 ha).mono fun e w' ⟨⟨u, he, hu⟩, H3⟩ => ⟨by rw [he, VRel.fn v u _ hu (rel_cvF hfl)], H3⟩⟩
    | setB v b ob => cases hs
    | newB v ob => cases hs
    | moveB v b ob => cases hs
    | move2 v b b2 ob => cases hs
    | yield b args => cases hs

theorem runQ_ok (G : CfgOK P g) (hC : CallOK P g (C.F noY)) (hX : XOK P g) {ops : Array Oper} {h : RH} (hw : HInv g.ro base w0 E h w) {dd : List Deferred} {Q : Act → Prop} : ∀ (l : List Oper) (s s' : St) (a : Act), s.h = h → All2 (VRel E) s.t a.tmps.toList → a.defers = dd → runQ P g C ops l s = some s' →
    (s'.h = h → ∀ a', All2 (VRel E) s'.t a'.tmps.toList → a'.defers = dd → Q a') → wpQuiet P ops (fun w' => HInv g.ro base w0 E h w') Q l a
  | [], s, s', a, hh, ht, hd, hr, hQ => by
    cases hr
    exact wpQuiet_nil (hQ hh a ht hd)
  | o :: l, s, s', a, hh, ht, hd, hr, hQ => by
    have e : runQ P g C ops (o :: l) s = (match stepQ P g C ops o s with | some s' => runQ P g C ops l s' | none => none) := rfl
    rw [e] at hr
    split at hr
    · rename_i s1 h1
      subst hh
      have go : appQ g C s.t s.h o.dst (effR P g o s.t s.h) = some s1 → o.quiet P a (fun w' => HInv g.ro base w0 E s.h w') (wpQuiet P ops (fun w' => HInv g.ro base w0 E s.h w') Q l) := fun hb => by
        obtain ⟨e1, v, u, hv, e2, hq⟩ := appQ_quiet (a := a) G hC hX ht hw hb
        exact ⟨u, hq, runQ_ok G hC hX hw l s1 s' _ e1 (by rw [e2]; exact put_rel ht o.dst hv) ((put_defers _ _).trans hd) hr hQ⟩
      show if Region.wanted o (yielded ops a.tmps) then _ else _
      unfold Region.wanted
      obtain ⟨st, sh⟩ := s
      cases hg : o.guard with
      | none =>
        simp only [stepQ, hg] at h1
        simp only [if_true]
        exact go h1
      | some p =>
        obtain ⟨j, want⟩ := p
        simp only [stepQ, hg, guardQ, putS_eq] at h1
        simp only
        split at h1
        · cases h1
        rename_i hsym
        rw [yielded_eq ops ht j hsym] at h1
        split at h1
        · rename_i hy
          rw [if_pos hy]
          exact go h1
        · rename_i hy
          rw [if_neg hy]
          cases h1
          exact runQ_ok G hC hX hw l ⟨putT st o.dst (.pl undef), sh⟩ s' _ rfl (put_rel ht o.dst (show VRel E (.pl undef) undef from rfl)) ((put_defers _ _).trans hd) hr hQ
    · cases hr

omit [Val] in
theorem ev_put {x : Operand} {d : Option Tmp} {v : RV} (hx : ∀ k, d = some k → x ≠ .tmp k) : ev (putT t d v) x = ev t x := by
  cases d with
  | none => rfl
  | some k =>
    cases x with
    | tmp i =>
      have hne : k ≠ i := fun e => hx k rfl (by rw [e])
      show nth _ _ = nth _ _
      rw [nth_eq, nth_eq, List.getD_eq_getElem?_getD, List.getD_eq_getElem?_getD]
      simp only [putT]
      rw [List.getElem?_set_ne hne]
    | const u => rfl
    | global k => rfl
    | func f => rfl
omit [Val] in
theorem evL_put {l : Array Operand} {d : Option Tmp} {v : RV} (hx : ∀ x ∈ l, ∀ k, d = some k → x ≠ .tmp k) : evL (putT t d v) l = evL t l := by
  unfold evL
  exact List.map_congr_left fun x hm => ev_put (hx x (by simpa using hm))
omit [Val] in
theorem evP_put {l : Array (Nat × Operand)} {d : Option Tmp} {v : RV} (hx : ∀ p ∈ l, ∀ k, d = some k → p.2 ≠ .tmp k) : evP (putT t d v) l = evP t l := by
  unfold evP
  exact List.map_congr_left fun p hm => by rw [ev_put (hx p (by simpa using hm))]
omit [Val] in
theorem evO_put {x : Option Operand} {d : Option Tmp} {v : RV} (hx : ∀ y, x = some y → ∀ k, d = some k → y ≠ .tmp k) : x.map (ev (putT t d v)) = x.map (ev t) := by
  cases x with
  | none => rfl
  | some y => simp [ev_put (hx y rfl)]

omit [Val] in
theorem memC_put {op : Op} {d : Option Tmp} {v : RV} (hx : ∀ x ∈ op.operands, ∀ k, d = some k → x ≠ .tmp k) (h : RH) : (memC P g op).f (putT t d v) h = (memC P g op).f t h := by
  cases op <;> simp only [Op.operands] at hx <;> simp only [memC] <;> (try rfl)
  case move x => rw [ev_put (hx x (by simp))]
  case assign x => rw [ev_put (hx x (by simp))]
  case pick c x y => rw [ev_put (hx c (by simp)), ev_put (hx x (by simp)), ev_put (hx y (by simp))]
  case box e x => rw [ev_put (hx x (by simp))]
  case build ty ps => rw [evP_put fun p hp => hx p.2 (by simp; exact ⟨p.1, by simpa using hp⟩)]
  case buildSlice ty n ps => rw [evP_put fun p hp => hx p.2 (by simp; exact ⟨p.1, by simpa using hp⟩)]
  case load ty x => rw [ev_put (hx x (by simp))]
  case store ty x y => rw [ev_put (hx x (by simp)), ev_put (hx y (by simp))]
  case nilCheck x => rw [ev_put (hx x (by simp))]
  case binOp op ty x y yt => rw [ev_put (hx x (by simp)), ev_put (hx y (by simp))]
  case unOp op ty x => rw [ev_put (hx x (by simp))]
  case convert s d x => rw [ev_put (hx x (by simp))]
  case makeFunc f x y => rw [evL_put fun z hz => hx z (by simp [hz]), evL_put fun z hz => hx z (by simp [hz])]
  case makeSlice ty x y => rw [ev_put (hx x (by simp)), ev_put (hx y (by simp))]
  case slice ty x lo hi mx =>
    rw [ev_put (hx x (by simp)), evO_put fun y hy => hx y (by simp [hy]), evO_put fun y hy => hx y (by simp [hy]), evO_put fun y hy => hx y (by simp [hy])]
  case index ty x i => rw [ev_put (hx x (by simp)), ev_put (hx i (by simp))]
  case fieldAddr s x f => rw [ev_put (hx x (by simp))]
  case field s x f => rw [ev_put (hx x (by simp))]
  case indexAddr ty x i => rw [ev_put (hx x (by simp)), ev_put (hx i (by simp))]
  case range ty x => rw [ev_put (hx x (by simp))]
  case next x s => rw [ev_put (hx x (by simp))]
  case extract x i => rw [ev_put (hx x (by simp))]
  case call c =>
    unfold mCall
    have ha := evL_put (t := t) (d := d) (v := v) (l := c.args) fun z hz => hx z (by simp [Call.operands, hz])
    cases hc : c.callee with
    | builtin b => simp only [ha]
    | value f =>
      simp only [ha]
      rw [ev_put (hx f (by simp [Call.operands, hc]))]
    | invoke r m => rfl

omit [Val] in
theorem pureOp_put {o : Oper} {d : Option Tmp} {v : RV} (hx : ∀ x ∈ o.op.operands, ∀ k, d = some k → x ≠ .tmp k) : pureOp P o (putT t d v) = pureOp P o t := by
  unfold pureOp
  split
  · rfl
  · rename_i hsel
    have e1 : o.op.operands.toList.all (fun x => (ev (putT t d v) x).isPl) = o.op.operands.toList.all (fun x => (ev t x).isPl) := by
      rw [Bool.eq_iff_iff]
      simp only [List.all_eq_true]
      exact ⟨fun hh x hm => by rw [← ev_put (t := t) (v := v) (hx x (by simpa using hm))]; exact hh x hm, fun hh x hm => by rw [ev_put (hx x (by simpa using hm))]; exact hh x hm⟩
    have e2 : execOp (fun x => (ev (putT t d v) x).v) o = execOp (fun x => (ev t x).v) o :=
      execOp_congr o (fun cs b e => hsel cs b e) fun x hm => by rw [ev_put (hx x hm)]
    rw [e1, e2]

omit [Val] in
theorem effC_put {o : Oper} {d : Option Tmp} {v : RV} (hx : ∀ x ∈ o.op.operands, ∀ k, d = some k → x ≠ .tmp k) (h : RH) : effC P g o (putT t d v) h = effC P g o t h := by
  unfold effC orElse
  rw [memC_put hx, pureOp_put hx]

omit [Val] in
theorem looks_spec {ops : Array Oper} {o : Oper} {d : Option Tmp} (hd : ∀ k, d = some k → k ∉ o.looksAt ops) : ∀ x ∈ o.op.operands, ∀ k, d = some k → x ≠ .tmp k := by
  intro x hx k hk e
  subst e
  exact hd k hk (List.mem_append_left _ (List.mem_filterMap.2 ⟨.tmp k, by simpa using hx, rfl⟩))

omit [Val] in
theorem yieldedR_put {ops : Array Oper} {o : Oper} {d : Option Tmp} {v : RV} (hd : ∀ k, d = some k → k ∉ o.looksAt ops) {j : Nat} {want : Bool} (hg : o.guard = some (j, want)) : yieldedR ops (putT t d v) j = yieldedR ops t j := by
  cases d with
  | none => rfl
  | some k =>
    unfold yieldedR
    cases ht : (ops[j]?).bind (·.dst) with
    | none => rfl
    | some q =>
      have hne : k ≠ q := fun e => hd k rfl (by subst e; simp [Oper.looksAt, hg, ht])
      simp only [Option.bind_some, putT]
      rw [List.getElem?_set_ne hne]

omit [Val] in
theorem symAt_put {ops : Array Oper} {o : Oper} {d : Option Tmp} {v : RV} (hd : ∀ k, d = some k → k ∉ o.looksAt ops) {j : Nat} {want : Bool} (hg : o.guard = some (j, want)) : symAt ops (putT t d v) j = symAt ops t j := by
  cases d with
  | none => rfl
  | some k =>
    unfold symAt
    cases ht : (ops[j]?).bind (·.dst) with
    | none => rfl
    | some q =>
      have hne : k ≠ q := fun e => hd k rfl (by subst e; simp [Oper.looksAt, hg, ht])
      simp only [Option.bind_some, putT]
      rw [List.getElem?_set_ne hne]

omit [Val] in
theorem putT_comm {x y : Option Tmp} {v u : RV} (hxy : ∀ k, x = some k → y ≠ some k) : putT (putT t x v) y u = putT (putT t y u) x v := by
  cases x with
  | none => rfl
  | some k =>
    cases y with
    | none => rfl
    | some q =>
      have hne : k ≠ q := fun e => hxy k rfl (by rw [e])
      exact List.set_comm _ _ hne

omit [Val] in
/-- An operation that is apart from 'x' does the same behind it. -/
theorem stepW_put {ops : Array Oper} {x y : Oper} {v : RV} (hap : x.apart ops y = true) (h : RH) :
    stepW P g C ops y ⟨putT t x.dst v, h⟩ = (stepW P g C ops y ⟨t, h⟩).map fun s => ⟨putT s.t x.dst v, s.h⟩ := by
  obtain ⟨h1, h2, h3⟩ := Oper.apart_spec hap
  rw [stepW_eq, stepW_eq]
  have heff : effC P g y (putT t x.dst v) h = effC P g y t h := effC_put (looks_spec h1) h
  have happ : ∀ e, appE g C (putT t x.dst v) h y.dst e = (appE g C t h y.dst e).map fun s => ⟨putT s.t x.dst v, s.h⟩ := by
    intro e
    cases e with
    | call f args =>
      simp only [appE]
      cases doCall g C f args h with
      | none => rfl
      | some p => simp [putT_comm h2]
    | yield b args =>
      simp only [appE]
      cases C.Y b args h with
      | none => rfl
      | some p => simp [putT_comm h2]
    | _ => simp [appE, putT_comm h2]
  have hb : (effC P g y t h).bind (appE g C (putT t x.dst v) h y.dst) = ((effC P g y t h).bind (appE g C t h y.dst)).map fun s => ⟨putT s.t x.dst v, s.h⟩ := by
    cases effC P g y t h with
    | none => rfl
    | some e => exact happ e
  cases hg : y.guard with
  | none =>
    simp only [heff]
    exact hb
  | some p =>
    obtain ⟨j, want⟩ := p
    simp only [heff, yieldedR_put h1 hg, symAt_put h1 hg]
    split
    · rfl
    · split
      · exact hb
      · simp [putT_comm h2]

/-! Regions that write: every order comes to one state, but for the numbers of new blocks. -/
def AnyR (n0 : Nat) (F : St → Nat → Option St) (ops : Array Oper) : Nat → Array Bool → St → St → Prop
  | 0, listed, s, s' => Region.ready .any ops listed = [] ∧ Mor n0 s s'
  | n + 1, listed, s, s' => (Region.ready .any ops listed = [] → Mor n0 s s') ∧ ∀ i ∈ Region.ready .any ops listed, ∃ s1, F s i = some s1 ∧ AnyR n0 F ops n (listed.setIfInBounds i true) s1 s'
omit [Val] in
theorem anyR_mor {n0 : Nat} {F : St → Nat → Option St} {ops : Array Oper} : ∀ (n : Nat) (listed : Array Bool) (s s' s'' : St), AnyR n0 F ops n listed s s' → Mor n0 s' s'' → AnyR n0 F ops n listed s s''
  | 0, _, _, _, _, h, m => ⟨h.1, h.2.trans m⟩
  | n + 1, _, _, _, _, h, m => ⟨fun h0 => (h.1 h0).trans m, fun i hi => by
    obtain ⟨s1, e, H⟩ := h.2 i hi
    exact ⟨s1, e, anyR_mor n _ _ _ _ H m⟩⟩
omit [Val] in
theorem take_pre {n0 : Nat} {E E' : Env} (h : E <+: E') (hn : n0 ≤ E.length) : E'.take n0 = E.take n0 := by
  obtain ⟨t, rfl⟩ := h
  rw [List.take_append_of_le_length hn]
theorem anyR_ok (G : CfgOK P g) (hC : GoodC P g E0 C) (hX : XOK P g) (ρ : Option Nat) {ops : Array Oper} {F : St → Nat → Option St} (hF : ∀ s i s1, F s i = some s1 → stepAt P g C ops s i = some s1) {Q : Exit → Act → World → Prop} {n0 : Nat} {Es : Env} {dd : List Deferred} (hM : Marks base E0 Es dd) (he0 : E0 <+: Es) :
    ∀ (n : Nat) (listed : Array Bool) (s s' : St) (E : Env) (a : Act) (w : World), n0 ≤ E.length → E.take n0 = Es → SimT g base w0 s E a w → a.defers = dd → AnyR n0 F ops n listed s s' →
    (∀ E' a' w', Es <+: E' → SimM g base w0 E0 s' E' a' w' → a'.defers = dd → Q .normal a' w') → wpAnyIn (FrR ρ) 0 P .any ops Q n listed a w := by
  have fin : ∀ {s s' : St} {E : Env} {a : Act} {w : World}, n0 ≤ E.length → E.take n0 = Es → SimT g base w0 s E a w → a.defers = dd → Mor n0 s s' → (∀ E' a' w', Es <+: E' → SimM g base w0 E0 s' E' a' w' → a'.defers = dd → Q .normal a' w') → Q .normal a w := by
    intro s s' E a w hn hE0 S hd hm hQ
    obtain ⟨E', e1, _, S'⟩ := hm _ g base w0 E a w hn S
    have hpre : Es <+: E' := by
      rw [← hE0, ← e1]
      exact List.take_prefix n0 E'
    exact hQ E' a w hpre ⟨S'.t, by rw [hd]; exact hM.ext hpre, S'.h, he0.trans hpre⟩ hd
  intro n
  induction n with
  | zero =>
    intro listed s s' E a w hn hE0 S hd hr hQ
    exact ⟨hr.1, fin hn hE0 S hd hr.2 hQ⟩
  | succ n ih =>
    intro listed s s' E a w hn hE0 S hd hr hQ
    obtain ⟨h1, h2⟩ := hr
    refine ⟨fun h0 => fin hn hE0 S hd (h1 h0) hQ, fun i hi => ?_⟩
    obtain ⟨s1, hs1, hrest⟩ := h2 i hi
    have hs1 := hF s i s1 hs1
    have hpre : Es <+: E := by
      rw [← hE0]
      exact List.take_prefix n0 E
    unfold stepAt at hs1
    unfold wpOpIn
    cases ho : ops[i]? with
    | none => rw [ho] at hs1; cases hs1
    | some o =>
      rw [ho] at hs1
      exact stepW_ok G hC hX ρ ⟨S.t, by rw [hd]; exact hM.ext hpre, S.h, he0.trans hpre⟩ hs1 fun E' a' w' hE S' hd' => ih _ s1 s' E' a' w' (Nat.le_trans hn hE.length_le) ((take_pre hE hn).trans hE0) S'.T (hd'.trans hd) hrest hQ

/-- What is listed, with all that it waits for. -/
def Cl (ops : Array Oper) (listed : Array Bool) : Prop := ∀ k ok, ops[k]? = some ok → listed.getD k true = true → ∀ e ∈ ok.after, Region.binds .any e = true → listed.getD e.on false = true
omit [Val] in
theorem getD_set_t {listed : Array Bool} {i k : Nat} (h : listed.getD k false = true) : (listed.setIfInBounds i true).getD k false = true := by
  by_cases hik : i = k
  · subst hik
    by_cases hlt : i < listed.size
    · simp [hlt]
    · simp [hlt] at h
  · rw [getD_set_ne false hik]
    exact h
omit [Val] in
theorem Cl.set {ops : Array Oper} {listed : Array Bool} {i : Nat} (h : Cl ops listed) (hi : i ∈ Region.ready .any ops listed) : Cl ops (listed.setIfInBounds i true) := by
  intro k ok hk hl e he hb
  by_cases hik : i = k
  · subst hik
    obtain ⟨_, o, ho, hall⟩ := mem_ready.1 hi
    rw [hk] at ho
    cases ho
    exact getD_set_t (hall e he hb)
  · rw [getD_set_ne true hik] at hl
    exact getD_set_t (h k ok hk hl e he hb)
omit [Val] in
theorem Cl.init (ops : Array Oper) : Cl ops (Array.replicate ops.size false) := by
  intro k ok hk hl
  have hlt := (Array.getElem?_eq_some_iff.1 hk).1
  simp [hlt] at hl
def Com (F : St → Nat → Option St) (first : Array Bool → Nat → Bool) (ops : Array Oper) : Prop := ∀ listed s s1 s2 i j, Cl ops listed → first listed i = true → i ∈ Region.ready .any ops listed → j ∈ Region.ready .any ops listed → j ≠ i →
  F s i = some s1 → F s1 j = some s2 → ∃ s2', F s j = some s2' ∧ F s2' i = some s2
def Mono (first : Array Bool → Nat → Bool) : Prop := ∀ listed i j, first listed i = true → first (listed.setIfInBounds j true) i = true

omit [Val] in
theorem anyR_first {n0 : Nat} {F : St → Nat → Option St} {first : Array Bool → Nat → Bool} {ops : Array Oper} (hcom : Com F first ops) (hmono : Mono first) : ∀ (n : Nat) (listed : Array Bool) (s s1 s' : St) (i : Nat), Cl ops listed → i ∈ Region.ready .any ops listed → first listed i = true →
    F s i = some s1 → AnyR n0 F ops n (listed.setIfInBounds i true) s1 s' → AnyR n0 F ops (n + 1) listed s s'
  | 0, listed, s, s1, s', i, hcl, hi, hf, h1, H => by
    refine ⟨fun h0 => (by rw [h0] at hi; cases hi), fun j hj => ?_⟩
    by_cases hji : j = i
    · subst hji; exact ⟨s1, h1, H⟩
    · have := ready_mono hj hji
      rw [H.1] at this
      cases this
  | n + 1, listed, s, s1, s', i, hcl, hi, hf, h1, H => by
    refine ⟨fun h0 => (by rw [h0] at hi; cases hi), fun j hj => ?_⟩
    by_cases hji : j = i
    · subst hji; exact ⟨s1, h1, H⟩
    · obtain ⟨s2, h2, H2⟩ := H.2 j (ready_mono hj hji)
      obtain ⟨s2', k1, k2⟩ := hcom listed s s1 s2 i j hcl hf hi hj hji h1 h2
      refine ⟨s2', k1, anyR_first hcom hmono n _ s2' s2 s' i (hcl.set hj) (ready_mono hi (Ne.symm hji)) (hmono _ _ _ hf) k2 ?_⟩
      rw [Array.setIfInBounds_comm _ _ hji]
      exact H2

omit [Val] in
theorem branches_spec {n0 : Nat} {f : Nat → Option St} : ∀ (l : List Nat) (s : St), branches n0 f l = some s → ∀ i ∈ l, ∃ s1, f i = some s1 ∧ Mor n0 s1 s
  | [], s, h => by cases h
  | [i], s, h => by
    intro j hj
    simp at hj
    subst hj
    exact ⟨s, h, Mor.rfl'⟩
  | i :: k :: l, s, h => by
    have e : branches n0 f (i :: k :: l) = (match f i with
      | some s => match branches n0 f (k :: l) with
        | some s' => if sameSt s s' || samePm n0 s' s then some s else none
        | none => none
      | none => none) := rfl
    rw [e] at h
    split at h
    · rename_i s1 h1
      split at h
      · rename_i s2 h2
        split at h
        · rename_i hsame
          cases h
          have hm : Mor n0 s2 s := by
            rw [Bool.or_eq_true] at hsame
            rcases hsame with hs | hs
            · rw [sameSt_eq _ _ hs]; exact Mor.rfl'
            · exact samePm_mor hs
          intro j hj
          rcases List.mem_cons.1 hj with rfl | hj
          · exact ⟨s, h1, Mor.rfl'⟩
          · obtain ⟨s3, e3, m3⟩ := branches_spec (k :: l) s2 h2 j hj
            exact ⟨s3, e3, m3.trans hm⟩
        · cases h
      · cases h
    · cases h

omit [Val] in
theorem anyB_spec {n0 : Nat} {F : St → Nat → Option St} {first : Array Bool → Nat → Bool} {ops : Array Oper} (hcom : Com F first ops) (hmono : Mono first) : ∀ (n : Nat) (listed : Array Bool) (s s' : St), Cl ops listed → anyB n0 F first ops n listed s = some s' → AnyR n0 F ops n listed s s'
  | 0, listed, s, s', hcl, h => by
    have e : anyB n0 F first ops 0 listed s = (match Region.ready .any ops listed with | [] => some s | _ :: _ => none) := rfl
    rw [e] at h
    split at h
    · rename_i h0
      cases h
      exact ⟨h0, Mor.rfl'⟩
    · cases h
  | n + 1, listed, s, s', hcl, h => by
    have e : anyB n0 F first ops (n + 1) listed s = (match Region.ready .any ops listed with
      | [] => some s
      | i :: r => anyStep n0 F first (anyB n0 F first ops n) listed s (i :: r)) := rfl
    rw [e] at h
    split at h
    · rename_i h0
      cases h
      exact ⟨fun _ => Mor.rfl', fun i hi => (by rw [h0] at hi; cases hi)⟩
    · rename_i i r hr
      have step : ∀ k s2, k ∈ Region.ready .any ops listed → thenS (anyB n0 F first ops n) (listed.setIfInBounds k true) (F s k) = some s2 → ∃ s1, F s k = some s1 ∧ AnyR n0 F ops n (listed.setIfInBounds k true) s1 s2 := fun k s2 hkr hk => by
        unfold thenS at hk
        split at hk
        · rename_i s1 h1
          exact ⟨s1, h1, anyB_spec hcom hmono n _ s1 s2 (hcl.set hkr) hk⟩
        · cases hk
      unfold anyStep at h
      split at h
      · rename_i k hk
        have hmem := List.mem_of_find?_eq_some hk
        obtain ⟨s1, h1, H⟩ := step k s' (by rw [hr]; exact hmem) h
        have hfirst := List.find?_some hk
        exact anyR_first hcom hmono n listed s s1 s' k hcl (by rw [hr]; exact hmem) hfirst h1 H
      · exact ⟨fun h0 => (by rw [h0] at hr; cases hr), fun k hk => by
        obtain ⟨s2, e2, m2⟩ := branches_spec _ _ h k (by rw [← hr]; exact hk)
        obtain ⟨s1, h1, H⟩ := step k s2 hk e2
        exact ⟨s1, h1, anyR_mor n _ _ _ _ H m2⟩⟩
end
end Go.Ri

namespace Go.Ri
open Go Go.RowKit
variable [Val]

section
variable {P : Program} {g : Cfg} {C : CallG} {t : List RV} {h : RH}

def valOrSame (e : Eff) : Prop := (∃ v, e = .val v) ∨ (∃ v, e = .same v)

omit [Val] in
theorem map_val {x : Option RV} {e : Eff} (h : x.map Eff.val = some e) : valOrSame e := by
  obtain ⟨v, _, rfl⟩ := optMap h
  exact .inl ⟨v, rfl⟩
omit [Val] in
theorem map_same {x : Option RV} {e : Eff} (h : x.map Eff.same = some e) : valOrSame e := by
  obtain ⟨v, _, rfl⟩ := optMap h
  exact .inr ⟨v, rfl⟩

omit [Val] in
theorem mBin_val {op : BinOp} {ty : TypeId} {x y : RV} {e : Eff} (hs : mBin P op ty x y = some e) : valOrSame e := by
  unfold mBin at hs
  split at hs
  · unfold binII at hs
    split at hs
    · exact map_val hs
    · cases hs
  · unfold fastBool at hs
    split at hs
    · cases hs; exact .inl ⟨_, rfl⟩
    · cases hs; exact .inl ⟨_, rfl⟩
    · cases hs
  · exact map_val hs
  · exact map_val hs
  · unfold binRef at hs
    split at hs
    · cases hq : eqlOp P ty x y with
      | none => rw [hq] at hs; cases hs
      | some q => rw [hq] at hs; cases hs; exact .inl ⟨_, rfl⟩
    · cases hq : eqlOp P ty x y with
      | none => rw [hq] at hs; cases hs
      | some q => rw [hq] at hs; cases hs; exact .inl ⟨_, rfl⟩
    · cases hs

omit [Val] in
theorem tlook_same {c : TC} {x y : RV} {e : Eff} (h : (tlook g.T c x y).map Eff.same = some e) : valOrSame e := map_same h
omit [Val] in
theorem mBinS_val {op : BinOp} {ty : TypeId} {x y : RV} {e : Eff} (hs : mBinS P g op ty x y = some e) : valOrSame e := by
  unfold mBinS at hs
  split at hs
  · rename_i e' he
    cases hs
    exact mBin_val he
  · split at hs
    · rename_i e' he
      cases hs
      unfold slaNil at he
      split at he
      · cases hq : lblook0 g.LB _ with
        | none => rw [hq] at he; cases he
        | some k => rw [hq] at he; cases he; exact .inl ⟨_, rfl⟩
      · cases hq : lblook0 g.LB _ with
        | none => rw [hq] at he; cases he
        | some k => rw [hq] at he; cases he; exact .inl ⟨_, rfl⟩
      · cases he
    unfold symBin at hs
    split at hs
    · cases hs
    · split at hs
      · obtain ⟨q, _, rfl⟩ : ∃ q, symEq P g ty x y = some q ∧ e = .val (.pl (.bool q)) := by
          cases hq : symEq P g ty x y with
          | none => rw [hq] at hs; cases hs
          | some q => rw [hq] at hs; cases hs; exact ⟨q, rfl, rfl⟩
        exact .inl ⟨_, rfl⟩
      · obtain ⟨q, _, rfl⟩ : ∃ q, symEq P g ty x y = some q ∧ e = .val (.pl (.bool !q)) := by
          cases hq : symEq P g ty x y with
          | none => rw [hq] at hs; cases hs
          | some q => rw [hq] at hs; cases hs; exact ⟨q, rfl, rfl⟩
        exact .inl ⟨_, rfl⟩
      · exact map_same hs
omit [Val] in
theorem elAddr_val {ty : TypeId} {x i : RV} {e : Eff} (hs : elAddr P g ty x i = some e) : valOrSame e := by
  unfold elAddr at hs
  split at hs
  · split at hs
    · split at hs
      · cases hs; exact .inl ⟨_, rfl⟩
      · cases hs
    · cases hs
  · split at hs
    · split at hs
      · split at hs
        · cases hs; exact .inl ⟨_, rfl⟩
        · cases hs
      · cases hs
    · cases hs
  · split at hs
    · split at hs
      · split at hs
        · cases hs; exact .inl ⟨_, rfl⟩
        · cases hs
      · cases hs
    · cases hs
  · split at hs
    · split at hs
      · split at hs
        · cases hs; exact .inl ⟨_, rfl⟩
        · cases hs
      · cases hs
    · cases hs
  · split at hs
    · split at hs
      · cases hs; exact .inl ⟨_, rfl⟩
      · cases hs
    · cases hs
  · cases hs
omit [Val] in
theorem memC_pl {op : Op} (hp : (isP op || isL op) = true) {e : Eff} (hs : (memC P g op).f t h = some e) : valOrSame e := by
  cases op <;> simp only [isP, isL, Bool.or_self, Bool.or_false, Bool.or_true, Bool.false_eq_true] at hp <;> simp only [memC] at hs
  case move x => cases hs; exact .inr ⟨_, rfl⟩
  case assign x => cases hs; exact .inr ⟨_, rfl⟩
  case pick c x y =>
    unfold mPick at hs
    split at hs
    · cases hs; exact .inr ⟨_, rfl⟩
    · cases hs
  case build ty ps => exact map_val hs
  case load ty x =>
    unfold mLoad at hs
    split at hs
    · cases hs; exact .inr ⟨_, rfl⟩
    · split at hs
      · cases hs; exact .inr ⟨_, rfl⟩
      · exact map_same hs
  case nilCheck x =>
    unfold mNil at hs
    split at hs
    · cases hs; exact .inr ⟨_, rfl⟩
    · cases hs
  case binOp op ty x y yt => exact mBinS_val hs
  case unOp op ty x =>
    unfold mUn at hs
    split at hs
    · split at hs
      · rename_i e' he
        cases hs
        unfold mNot at he
        split at he
        · cases he; exact .inl ⟨_, rfl⟩
        · cases he
      · unfold symNot at hs
        split at hs
        · exact map_same hs
        · cases hs
    · unfold symNeg at hs
      split at hs
      · exact map_same hs
      · cases hs
    · cases hs
  case makeFunc f x y => cases hs; exact .inl ⟨_, rfl⟩
  case index ty x i =>
    unfold mIndex at hs
    have hsym : ∀ x i, symIndex P g ty x i = some e → valOrSame e := fun x i hs => by
      unfold symIndex at hs
      split at hs
      · exact map_same hs
      · cases hs
    split at hs
    · exact map_val hs
    · unfold aggIndex at hs
      split at hs
      · split at hs
        · split at hs
          · exact map_same hs
          · cases hs
        · cases hs
      · cases hs
    · exact hsym _ _ hs
    · exact hsym _ _ hs
    · cases hs
  case fieldAddr s x f => exact map_val hs
  case field s x f => exact map_val hs
  case indexAddr ty x i =>
    unfold mIndexAddr at hs
    split at hs
    · cases hs; exact .inl ⟨_, rfl⟩
    · unfold elAddrZ at hs
      split at hs
      · split at hs
        · exact elAddr_val hs
        · cases hs
      · split at hs
        · exact elAddr_val hs
        · cases hs
      · split at hs
        · exact elAddr_val hs
        · cases hs
      · exact elAddr_val hs
  case extract x i =>
    unfold mExtract at hs
    split at hs
    · cases hq : nthV _ i with
      | none => rw [hq] at hs; cases hs
      | some v => rw [hq] at hs; cases hs; exact .inr ⟨_, rfl⟩
    · exact map_same hs
    · cases hs

omit [Val] in
theorem pureOp_kind {o : Oper} {e : Eff} (hs : pureOp P o t = some e) : (∃ v, e = .val v) ∨ ∃ f as, e = .call f as := by
  unfold pureOp at hs
  split at hs
  · cases hs
  · split at hs
    · split at hs
      · cases hs; exact .inl ⟨_, rfl⟩
      · cases hs; exact .inl ⟨_, rfl⟩
      · cases hs; exact .inr ⟨_, _, rfl⟩
      · cases hs
    · cases hs

omit [Val] in
theorem effC_pl {o : Oper} (hp : (isP o.op || isL o.op) = true) {e : Eff} (hs : effC P g o t h = some e) : valOrSame e := by
  unfold effC orElse at hs
  split at hs
  · rename_i e' he
    cases hs
    exact memC_pl hp he
  · unfold noCall at hs
    rw [hp] at hs
    split at hs
    · cases hs
    · rename_i hne
      rcases pureOp_kind hs with ⟨v, rfl⟩ | ⟨f, as, rfl⟩
      · exact .inl ⟨v, rfl⟩
      · exact absurd hs (hne f as)

omit [Val] in
theorem memC_h {op : Op} (hp : isP op = true) (h h' : RH) : (memC P g op).f t h = (memC P g op).f t h' := by
  cases op <;> simp only [isP, Bool.false_eq_true] at hp <;> rfl
omit [Val] in
theorem effC_h {o : Oper} (hp : isP o.op = true) (h h' : RH) : effC P g o t h = effC P g o t h' := by
  unfold effC
  rw [memC_h hp h h']

omit [Val] in
theorem appE_val {e : Eff} (he : valOrSame e) {d : Option Tmp} {s1 : St} (hs : appE g C t h d e = some s1) : ∃ v, (∀ t' h', appE g C t' h' d e = some ⟨putT t' d v, h'⟩) ∧ s1 = ⟨putT t d v, h⟩ := by
  rcases he with ⟨v, rfl⟩ | ⟨v, rfl⟩
  · cases hs; exact ⟨v, fun _ _ => rfl, rfl⟩
  · cases hs; exact ⟨v, fun _ _ => rfl, rfl⟩

omit [Val] in
/-- What a step does to the temporaries. -/
theorem stepW_t {ops : Array Oper} {o : Oper} {s s1 : St} (hs : stepW P g C ops o s = some s1) : ∃ u, s1.t = putT s.t o.dst u := by
  rw [stepW_eq] at hs
  have go : (effC P g o s.t s.h).bind (appE g C s.t s.h o.dst) = some s1 → ∃ u, s1.t = putT s.t o.dst u := fun hb => by
    cases he : effC P g o s.t s.h with
    | none => rw [he] at hb; cases hb
    | some e =>
      rw [he] at hb
      simp only [Option.bind_some] at hb
      cases e with
      | call f args =>
        simp only [appE] at hb
        cases hd : doCall g C f args s.h with
        | none => rw [hd] at hb; cases hb
        | some p => rw [hd] at hb; cases hb; exact ⟨_, rfl⟩
      | yield b args =>
        simp only [appE] at hb
        cases hd : C.Y b args s.h with
        | none => rw [hd] at hb; cases hb
        | some p => rw [hd] at hb; cases hb; exact ⟨_, rfl⟩
      | val v => cases hb; exact ⟨_, rfl⟩
      | same v => cases hb; exact ⟨_, rfl⟩
      | setB v b ob => cases hb; exact ⟨_, rfl⟩
      | newB v ob => cases hb; exact ⟨_, rfl⟩
      | moveB v b ob => cases hb; exact ⟨_, rfl⟩
      | move2 v b b2 ob => cases hb; exact ⟨_, rfl⟩
  split at hs
  · exact go hs
  · split at hs
    · cases hs
    split at hs
    · exact go hs
    · cases hs; exact ⟨_, rfl⟩

omit [Val] in
/-- A step of an operation that keeps the heap. -/
theorem stepW_pl {ops : Array Oper} {o : Oper} {s s1 : St} (hp : (isP o.op || isL o.op) = true) (hs : stepW P g C ops o s = some s1) :
    ∃ v, s1 = ⟨putT s.t o.dst v, s.h⟩ ∧ ∀ d u h', (∀ k, d = some k → k ∉ o.looksAt ops) → (isP o.op = true ∨ h' = s.h) → stepW P g C ops o ⟨putT s.t d u, h'⟩ = some ⟨putT (putT s.t d u) o.dst v, h'⟩ := by
  rw [stepW_eq] at hs
  have eff : ∀ d u h', (∀ k, d = some k → k ∉ o.looksAt ops) → (isP o.op = true ∨ h' = s.h) → effC P g o (putT s.t d u) h' = effC P g o s.t s.h := fun d u h' hd hh => by
    rw [effC_put (looks_spec hd)]
    rcases hh with hh | rfl
    · exact effC_h hh _ _
    · rfl
  have go : (effC P g o s.t s.h).bind (appE g C s.t s.h o.dst) = some s1 →
      ∃ v, s1 = ⟨putT s.t o.dst v, s.h⟩ ∧ ∀ d u h', (∀ k, d = some k → k ∉ o.looksAt ops) → (isP o.op = true ∨ h' = s.h) → (effC P g o (putT s.t d u) h').bind (appE g C (putT s.t d u) h' o.dst) = some ⟨putT (putT s.t d u) o.dst v, h'⟩ := fun hb => by
    cases he : effC P g o s.t s.h with
    | none => rw [he] at hb; cases hb
    | some e =>
      rw [he] at hb
      obtain ⟨v, h1, h2⟩ := appE_val (effC_pl hp he) hb
      refine ⟨v, h2, fun d u h' hd hh => ?_⟩
      rw [eff d u h' hd hh, he]
      exact h1 _ _
  cases hg : o.guard with
  | none =>
    rw [hg] at hs
    obtain ⟨v, h1, h2⟩ := go hs
    refine ⟨v, h1, fun d u h' hd hh => ?_⟩
    rw [stepW_eq, hg]
    exact h2 d u h' hd hh
  | some p =>
    obtain ⟨j, want⟩ := p
    rw [hg] at hs
    simp only at hs
    split at hs
    · cases hs
    rename_i hsym
    split at hs
    · rename_i hy
      obtain ⟨v, h1, h2⟩ := go hs
      refine ⟨v, h1, fun d u h' hd hh => ?_⟩
      rw [stepW_eq, hg]
      simp only [yieldedR_put hd hg, symAt_put hd hg]
      rw [if_neg hsym, if_pos hy]
      exact h2 d u h' hd hh
    · rename_i hy
      cases hs
      refine ⟨_, rfl, fun d u h' hd hh => ?_⟩
      rw [stepW_eq, hg]
      simp only [yieldedR_put hd hg, symAt_put hd hg]
      rw [if_neg hsym, if_neg hy]

omit [Val] in
theorem getD_set_mono {listed : Array Bool} {i j : Nat} (h : listed.getD j true = true) : (listed.setIfInBounds i true).getD j true = true := by
  by_cases hij : i = j
  · subst hij
    by_cases hlt : i < listed.size
    · simp [hlt]
    · simp
  · rw [getD_set_ne true hij]; exact h

omit [Val] in
theorem firstOK_mono (others : Op → Bool) (ops : Array Oper) : Mono (firstOK others ops) := by
  intro listed i j h
  unfold firstOK at h ⊢
  cases ho : ops[i]? with
  | none => rw [ho] at h; cases h
  | some oi =>
    rw [ho] at h
    simp only [Bool.and_eq_true, Bool.or_eq_true] at h ⊢
    obtain ⟨h1, h2⟩ := h
    refine ⟨?_, ?_⟩
    · unfold Region.free at h1 ⊢
      rw [ho] at h1 ⊢
      simp only [List.all_eq_true, Bool.or_eq_true] at h1 ⊢
      intro k hk
      rcases h1 k hk with (h1 | h1) | h1
      · exact .inl (.inl h1)
      · exact .inl (.inr (getD_set_mono h1))
      · exact .inr h1
    · rcases h2 with h2 | ⟨h2, h3⟩
      · exact .inl h2
      · refine .inr ⟨h2, ?_⟩
        simp only [List.all_eq_true, Bool.or_eq_true] at h3 ⊢
        intro k hk
        rcases h3 k hk with (h3 | h3) | h3
        · exact .inl (.inl h3)
        · exact .inl (.inr (getD_set_mono h3))
        · exact .inr h3

omit [Val] in
theorem waitAcc_spec {ops : Array Oper} {listed : Array Bool} {i : Nat} (hcl : Cl ops listed) (hi : listed.getD i true = false) : ∀ (l : List Oper) (acc : List Bool), ops.toList = ops.toList.take acc.length ++ l → acc.length ≤ ops.size →
    (∀ j, acc.getD j false = true → ∃ oj, ops[j]? = some oj ∧ ∃ e ∈ oj.after, Region.binds .any e = true ∧ listed.getD e.on false = false) →
    ∀ j, (waitAcc i l acc).getD j false = true → ∃ oj, ops[j]? = some oj ∧ ∃ e ∈ oj.after, Region.binds .any e = true ∧ listed.getD e.on false = false
  | [], _, _, _, h => h
  | o :: l, acc, hl, hle, h => by
    have hunl : ∀ k, listed.getD k true = false → listed.getD k false = false := fun k hk => by
      by_cases hlt : k < listed.size
      · simp only [Array.getD, hlt, dif_pos] at hk ⊢
        exact hk
      · simp [hlt]
    have ho : ops[acc.length]? = some o := by
      have h1 : ops.toList[acc.length]? = some o := by
        rw [hl, List.getElem?_append_right (by simp; omega)]
        have : acc.length - (ops.toList.take acc.length).length = 0 := by simp; omega
        rw [this]
        rfl
      simpa using h1
    have hlt := (Array.getElem?_eq_some_iff.1 ho).1
    refine waitAcc_spec hcl hi l (acc ++ [o.after.any fun e => Region.binds .any e && (e.on == i || acc.getD e.on false)]) ?_ (by simp; omega) fun j hj => ?_
    · rw [List.length_append, List.length_singleton]
      have h2 : ops.toList.take (acc.length + 1) = ops.toList.take acc.length ++ [o] := by
        have h1 : ops.toList[acc.length]? = some o := by simpa using ho
        rw [List.take_add_one, h1]
        rfl
      rw [h2, List.append_assoc]
      exact hl
    · rcases Nat.lt_trichotomy j acc.length with hj1 | rfl | hj1
      · refine h j ?_
        rw [List.getD_eq_getElem?_getD, List.getElem?_append_left hj1, ← List.getD_eq_getElem?_getD] at hj
        exact hj
      · rw [List.getD_eq_getElem?_getD, List.getElem?_append_right (Nat.le_refl _), Nat.sub_self] at hj
        have hj : (o.after.any fun e => Region.binds .any e && (e.on == i || acc.getD e.on false)) = true := hj
        obtain ⟨e, he, hb⟩ := Array.any_eq_true'.1 hj
        simp only [Bool.and_eq_true, Bool.or_eq_true, beq_iff_eq] at hb
        refine ⟨o, ho, e, he, hb.1, ?_⟩
        rcases hb.2 with h1 | h1
        · rw [h1]
          exact hunl i hi
        · obtain ⟨oj, k1, e2, k2, k3, k4⟩ := h _ h1
          cases hk : listed.getD e.on true with
          | false => exact hunl _ hk
          | true =>
            have := hcl _ _ k1 hk e2 k2 k3
            rw [k4] at this
            cases this
      · rw [List.getD_eq_getElem?_getD, List.getElem?_eq_none (by simp; omega)] at hj
        cases hj
omit [Val] in
/-- What firstOK says of an operation that may come before. -/
theorem firstOK_spec {others : Op → Bool} {ops : Array Oper} {listed : Array Bool} {i j : Nat} {oi oj : Oper} (hcl : Cl ops listed) (h : firstOK others ops listed i = true) (hi : ops[i]? = some oi) (hir : i ∈ Region.ready .any ops listed)
    (hj : ops[j]? = some oj) (hjr : j ∈ Region.ready .any ops listed) (hne : j ≠ i) : oi.apart ops oj = true ∧ (isP oi.op = true ∨ (isL oi.op = true ∧ others oj.op = true)) := by
  obtain ⟨hui, _⟩ := mem_ready.1 hir
  obtain ⟨huj, oj', hoj', hall⟩ := mem_ready.1 hjr
  rw [hj] at hoj'
  cases hoj'
  have hno : ∀ e ∈ oj.after, Region.binds .any e = true → e.on ≠ i := fun e he hb heq => by
    have h1 := hall e he hb
    rw [heq] at h1
    rcases Nat.lt_or_ge i listed.size with h' | h'
    · simp [h'] at hui h1; rw [hui] at h1; cases h1
    · simp [Array.getElem?_eq_none h'] at h1
  unfold firstOK at h
  rw [hi] at h
  simp only [Bool.and_eq_true, Bool.or_eq_true] at h
  obtain ⟨hfree, hk⟩ := h
  refine ⟨Region.free_spec hi hfree j oj hj hne huj hno, ?_⟩
  rcases hk with hk | ⟨hk, hl⟩
  · exact .inl hk
  · refine .inr ⟨hk, ?_⟩
    simp only [List.all_eq_true, List.mem_range] at hl
    have := hl j (Array.getElem?_eq_some_iff.1 hj).1
    simp only [hj, Bool.or_eq_true, beq_iff_eq, hne, false_or, huj, Bool.false_eq_true] at this
    rcases this with h1 | h1
    · obtain ⟨oj', k1, e, he, hb, k4⟩ := waitAcc_spec hcl hui ops.toList [] (by simp) (Nat.zero_le _) (fun j hj => by simp at hj) j h1
      rw [hj] at k1
      cases k1
      have := hall e he hb
      rw [k4] at this
      cases this
    · exact h1

omit [Val] in
theorem com_at (ops : Array Oper) : Com (stepAt P g C ops) (firstOK plain2 ops) ops := by
  intro listed s s1 s2 i j hcl hf hi hj hne h1 h2
  unfold stepAt at h1 h2 ⊢
  cases hoi : ops[i]? with
  | none => rw [hoi] at h1; cases h1
  | some oi =>
    cases hoj : ops[j]? with
    | none => rw [hoj] at h2; cases h2
    | some oj =>
      rw [hoi] at h1
      rw [hoj] at h2
      simp only at h1 h2 ⊢
      obtain ⟨hap, hk⟩ := firstOK_spec hcl hf hoi hi hoj hj hne
      obtain ⟨a1, a2, a3⟩ := Oper.apart_spec hap
      have hpl : (isP oi.op || isL oi.op) = true := by rcases hk with hk | ⟨hk, _⟩ <;> simp [hk]
      obtain ⟨v, rfl, hv⟩ := stepW_pl hpl h1
      rw [stepW_put hap] at h2
      cases hq : stepW P g C ops oj ⟨s.t, s.h⟩ with
      | none => rw [hq] at h2; cases h2
      | some s2' =>
        rw [hq] at h2
        cases h2
        refine ⟨s2', rfl, ?_⟩
        obtain ⟨u, hu⟩ := stepW_t hq
        simp only at hu
        have hh : isP oi.op = true ∨ s2'.h = s.h := by
          rcases hk with hk | ⟨_, hk⟩
          · exact .inl hk
          · obtain ⟨v', hv', _⟩ := stepW_pl (by simpa [plain2] using hk) hq
            exact .inr (by rw [hv'])
        have := hv oj.dst u s2'.h a3 hh
        rw [← hu] at this
        exact this

omit [Val] in
theorem isL_load {op : Op} (h : isL op = true) : ∃ ty x, op = .load ty x := by
  cases op <;> simp [isL] at h
  exact ⟨_, _, rfl⟩

omit [Val] in
theorem seg_mono {h X : RH} {b o n : Nat} {l : List RV} (hg : getCells h b o n = some l) : getCells (h ++ X) b o n = some l := by
  unfold getCells at hg ⊢
  have : ∀ r, lkp h b = some r → lkp (h ++ X) b = some r := fun r hr => by
    rw [lkp_eq] at hr ⊢
    have hlt : b < h.length := at?_lt hr
    rw [List.getElem?_append_left hlt]
    exact hr
  split at hg
  · rename_i l0 e room froz hl
    rw [this _ hl]
    exact hg
  · rename_i l0 e hl
    rw [this _ hl]
    exact hg
  · cases hg
omit [Val] in
theorem loadOp_mono {ro : Ro} {h X : RH} {ty : TypeId} {x v : RV} (hl : loadOp P ro h ty x = some v) : loadOp P ro (h ++ X) ty x = some v := by
  unfold loadOp at hl ⊢
  split at hl
  · split at hl
    · rename_i agg sz _ _ _ b o
      cases hg : getCells h b o (cellsN agg sz) with
      | none => rw [hg] at hl; cases hl
      | some l =>
        rw [hg] at hl
        rw [seg_mono hg]
        exact hl
    · exact hl
    · cases hl
  · cases hl

omit [Val] in
theorem loadOp_el {ro : Ro} {h : RH} {ty : TypeId} {b i s : Nat} : loadOp P ro h ty (.el b i s) = none := by
  unfold loadOp
  split
  · rfl
  · rfl
omit [Val] in
theorem loadOp_elA {ro : Ro} {h : RH} {ty : TypeId} {b i s : Nat} : loadOp P ro h ty (.elA b i s) = none := by
  unfold loadOp
  split
  · rfl
  · rfl
omit [Val] in
theorem loadOp_elF {ro : Ro} {h : RH} {ty : TypeId} {b i s o : Nat} : loadOp P ro h ty (.elF b i s o) = none := by
  unfold loadOp
  split
  · rfl
  · rfl
omit [Val] in
theorem loadOp_elB {ro : Ro} {h : RH} {ty : TypeId} {b i s o : Nat} : loadOp P ro h ty (.elB b i s o) = none := by
  unfold loadOp
  split
  · rfl
  · rfl
omit [Val] in
theorem elLoad_mono {h X : RH} {ty : TypeId} {x v : RV} (hl : elLoad P g h ty x = some v) : elLoad P g (h ++ X) ty x = some v := by
  unfold elLoad at hl ⊢
  split at hl
  · rename_i b i s agg sz ha hs
    have key : ∀ l, rowQ g h b i = some l → rowQ g (h ++ X) b i = some l := fun l hr => by
      unfold rowQ at hr ⊢
      have : ∀ r, lkp h b = some r → lkp (h ++ X) b = some r := fun r hr => by
        rw [lkp_eq] at hr ⊢
        have hlt : b < h.length := at?_lt hr
        rw [List.getElem?_append_left hlt]
        exact hr
      split at hr
      · rename_i l0 e room fz hk
        rw [this _ hk]
        exact hr
      · rename_i l0 e hk
        rw [this _ hk]
        exact hr
      · rename_i l0 e ow hk
        rw [this _ hk]
        exact hr
      · cases hr
    (try simp only [ha, hs])
    split at hl
    · rename_i l hb hr
      rw [key l hr, hb]
      exact hl
    · cases hl
  · rename_i b i s agg sz ha hs
    have key : ∀ l, rowA g h b i = some l → rowA g (h ++ X) b i = some l := fun l hr => by
      unfold rowA at hr ⊢
      split at hr
      · rename_i k hk
        rw [lkp_eq] at hk
        have hlt : b < h.length := at?_lt hk
        have : lkp (h ++ X) b = some (.lstA k) := by
          rw [lkp_eq, List.getElem?_append_left hlt]
          exact hk
        rw [this]
        exact hr
      · rename_i k e0 s0 hk
        rw [lkp_eq] at hk
        have hlt : b < h.length := at?_lt hk
        have : lkp (h ++ X) b = some (.lstQ k e0 s0) := by
          rw [lkp_eq, List.getElem?_append_left hlt]
          exact hk
        rw [this]
        exact hr
      · cases hr
    (try simp only [ha, hs])
    split at hl
    · rename_i l hb hr
      rw [key l hr, hb]
      exact hl
    · cases hl
  · rename_i b i s o agg sz ha hs
    have key : ∀ l, rowQ g h b i = some l → rowQ g (h ++ X) b i = some l := fun l hr => by
      unfold rowQ at hr ⊢
      have : ∀ r, lkp h b = some r → lkp (h ++ X) b = some r := fun r hr => by
        rw [lkp_eq] at hr ⊢
        have hlt : b < h.length := at?_lt hr
        rw [List.getElem?_append_left hlt]
        exact hr
      split at hr
      · rename_i l0 e room fz hk
        rw [this _ hk]
        exact hr
      · rename_i l0 e hk
        rw [this _ hk]
        exact hr
      · rename_i l0 e ow hk
        rw [this _ hk]
        exact hr
      · cases hr
    (try simp only [ha, hs])
    split at hl
    · rename_i l hb hr
      rw [key l hr, hb]
      exact hl
    · cases hl
  · rename_i b i s o agg sz ha hs
    have key : ∀ l, rowA g h b i = some l → rowA g (h ++ X) b i = some l := fun l hr => by
      unfold rowA at hr ⊢
      split at hr
      · rename_i k hk
        rw [lkp_eq] at hk
        have hlt : b < h.length := at?_lt hk
        have : lkp (h ++ X) b = some (.lstA k) := by
          rw [lkp_eq, List.getElem?_append_left hlt]
          exact hk
        rw [this]
        exact hr
      · rename_i k e0 s0 hk
        rw [lkp_eq] at hk
        have hlt : b < h.length := at?_lt hk
        have : lkp (h ++ X) b = some (.lstQ k e0 s0) := by
          rw [lkp_eq, List.getElem?_append_left hlt]
          exact hk
        rw [this]
        exact hr
      · cases hr
    (try simp only [ha, hs])
    split at hl
    · rename_i l hb hr
      rw [key l hr, hb]
      exact hl
    · cases hl
  · cases hl
omit [Val] in
theorem mLoad_same {h : RH} {ty : TypeId} {x : RV} {e : Eff} (hl : mLoad P g h ty x = some e) : ∃ r, e = .same r := by
  unfold mLoad at hl
  split at hl
  · cases hl; exact ⟨_, rfl⟩
  · split at hl
    · cases hl; exact ⟨_, rfl⟩
    · obtain ⟨r, _, rfl⟩ := optMap hl
      exact ⟨r, rfl⟩
omit [Val] in
theorem nest_mono {h X : RH} {ty : TypeId} {x v : RV} (hl : nestLoad P g h ty x = some v) : nestLoad P g (h ++ X) ty x = some v ∧ loadOp P g.ro (h ++ X) ty x = none ∧ elLoad P g (h ++ X) ty x = none := by
  unfold nestLoad at hl
  split at hl
  · rename_i b i ha hs
    split at hl
    · rename_i k sz hk
      have hk' : lkp (h ++ X) b = some (.lstB k sz) := by
        rw [lkp_eq] at hk ⊢
        have hlt : b < h.length := at?_lt hk
        rw [List.getElem?_append_left hlt]
        exact hk
      refine ⟨?_, loadOp_elA, ?_⟩
      · unfold nestLoad
        simp only [ha, hs, hk']
        exact hl
      · have hrow : rowA g (h ++ X) b i = none := by unfold rowA; rw [hk']
        unfold elLoad
        rw [ha, hs]
        show (match Nat.beq (cellsN false 1) 1, rowA g (h ++ X) b i with
          | true, some r => match Nat.beq r.length 1 with | true => loadAs false r | false => none
          | _, _ => none) = none
        rw [hrow]
        rfl
    · cases hl
  · rename_i b i ha hs
    split at hl
    · rename_i k e0 sz hk
      have hk' : lkp (h ++ X) b = some (.lstL k e0 sz) := by
        rw [lkp_eq] at hk ⊢
        have hlt : b < h.length := at?_lt hk
        rw [List.getElem?_append_left hlt]
        exact hk
      refine ⟨?_, loadOp_el, ?_⟩
      · unfold nestLoad
        simp only [ha, hs, hk']
        exact hl
      · have hrow : rowQ g (h ++ X) b i = none := by unfold rowQ; rw [hk']
        unfold elLoad
        rw [ha, hs]
        show (match Nat.beq (cellsN false 1) 1, rowQ g (h ++ X) b i with
          | true, some r => match Nat.beq r.length 1 with | true => loadAs false r | false => none
          | _, _ => none) = none
        rw [hrow]
        rfl
    · cases hl
  · rename_i b i k j n s agg sz ha hs
    split at hl
    · rename_i r hc hr
      simp only [Bool.and_eq_true] at hc
      have hin : innOK (h ++ X) b i s = true := by
        have hc2 := hc.2
        unfold innOK at hc2 ⊢
        have old : ∀ o, lkp h b = some o → lkp (h ++ X) b = some o := fun o hk => by
          rw [lkp_eq] at hk ⊢
          have hlt : b < h.length := at?_lt hk
          rw [List.getElem?_append_left hlt]
          exact hk
        split at hc2
        · rename_i i' e0 s' hk
          rw [old _ hk]
          exact hc2
        · rename_i i' s' hk
          rw [old _ hk]
          exact hc2
        · cases hc2
      refine ⟨?_, ?_, ?_⟩
      · unfold nestLoad
        simp only [ha, hs, hr, hin, hc.1, Bool.and_self]
        exact hl
      · unfold loadOp
        rw [ha, hs]
      · unfold elLoad
        rfl
    · cases hl
  · rename_i b sz ha hs
    split at hl
    · rename_i k e o i hk hi
      have hk' : lkp (h ++ X) b = some (.lst k e o) := by
        rw [lkp_eq] at hk ⊢
        have hlt : b < h.length := at?_lt hk
        rw [List.getElem?_append_left hlt]
        exact hk
      refine ⟨?_, ?_, ?_⟩
      · unfold nestLoad
        simp only [ha, hs, hk', hi]
        exact hl
      · unfold loadOp
        rw [ha, hs]
        show (Ri.getCells (h ++ X) b 0 (cellsN true sz)).bind (loadAs true) = none
        unfold Ri.getCells
        rw [hk']
        rfl
      · unfold elLoad
        rfl
    · cases hl
  · cases hl
omit [Val] in
theorem mLoad_mono {h X : RH} {ty : TypeId} {x : RV} {e : Eff} (hl : mLoad P g h ty x = some e) : mLoad P g (h ++ X) ty x = some e := by
  unfold mLoad at hl ⊢
  split at hl
  · rename_i v hv
    rw [loadOp_mono hv]
    exact hl
  · split at hl
    · rename_i r hr
      cases hl
      have hel : (∃ b i s, x = .el b i s) ∨ (∃ b i s, x = .elA b i s) ∨ (∃ b i s o, x = .elF b i s o) ∨ ∃ b i s o, x = .elB b i s o := by
        have hr := hr
        unfold elLoad at hr
        split at hr
        · exact .inl ⟨_, _, _, rfl⟩
        · exact .inr (.inl ⟨_, _, _, rfl⟩)
        · exact .inr (.inr (.inl ⟨_, _, _, _, rfl⟩))
        · exact .inr (.inr (.inr ⟨_, _, _, _, rfl⟩))
        · cases hr
      have hnone : loadOp P g.ro (h ++ X) ty x = none := by
        rcases hel with ⟨b, i, s, rfl⟩ | ⟨b, i, s, rfl⟩ | ⟨b, i, s, o, rfl⟩ | ⟨b, i, s, o, rfl⟩
        · exact loadOp_el
        · exact loadOp_elA
        · exact loadOp_elF
        · exact loadOp_elB
      rw [hnone]
      simp only [elLoad_mono hr]
    · obtain ⟨r, hr, rfl⟩ := optMap hl
      obtain ⟨h1, h2, h3⟩ := nest_mono (X := X) hr
      rw [h2]
      simp only [h3, h1, Option.map_some]
omit [Val] in
theorem strictOK_put {o : Oper} {d : Option Tmp} {v : RV} (hx : ∀ x ∈ o.op.operands, ∀ k, d = some k → x ≠ .tmp k) : strictOK P g C o (putT t d v) h = strictOK P g C o t h := by
  unfold strictOK
  have e1 : (memC P g o.op).f (putT t d v) h = (memC P g o.op).f t h := memC_put hx h
  have e2 : effR P g o (putT t d v) h = effR P g o t h := effC_put hx h
  rw [e2]
  split
  · exact congrArg Option.isSome e1
  · rfl

omit [Val] in
theorem stepAtS_at (ops : Array Oper) (s : St) (i : Nat) (s1 : St) (h : stepAtS P g C ops s i = some s1) : stepAt P g C ops s i = some s1 := by
  unfold stepAtS at h
  unfold stepAt
  split at h
  · rename_i o ho
    split at h
    · split at h
      · exact h
      · cases h
    · cases h
  · cases h

omit [Val] in
theorem syncC_not {ops : Array Oper} {listed : Array Bool} {i j : Nat} {oi oj : Oper} (hcl : Cl ops listed) (h : syncC ops j = true) (hi : ops[i]? = some oi) (hir : i ∈ Region.ready .any ops listed)
    (hj : ops[j]? = some oj) (hjr : j ∈ Region.ready .any ops listed) (hL : isL oi.op = true) : False := by
  obtain ⟨hui, oi', hoi', halli⟩ := mem_ready.1 hir
  obtain ⟨huj, oj', hoj', hallj⟩ := mem_ready.1 hjr
  rw [hi] at hoi'
  cases hoi'
  rw [hj] at hoj'
  cases hoj'
  unfold syncC at h
  rw [hj] at h
  simp only [Bool.and_eq_true, List.all_eq_true, List.mem_range] at h
  have h2 := h.2 i (Array.getElem?_eq_some_iff.1 hi).1
  simp only [hi, hL, Bool.not_true, Bool.false_or, Bool.or_eq_true] at h2
  rcases h2 with h1 | h1
  · obtain ⟨o, k1, e, he, hb, k4⟩ := waitAcc_spec hcl hui ops.toList [] (by simp) (Nat.zero_le _) (fun j hj => by simp at hj) j h1
    rw [hj] at k1
    cases k1
    have := hallj e he hb
    rw [k4] at this
    cases this
  · obtain ⟨o, k1, e, he, hb, k4⟩ := waitAcc_spec hcl huj ops.toList [] (by simp) (Nat.zero_le _) (fun j hj => by simp at hj) i h1
    rw [hi] at k1
    cases k1
    have := halli e he hb
    rw [k4] at this
    cases this
omit [Val] in
theorem syncC_pl {ops : Array Oper} {i : Nat} {oi : Oper} (hi : ops[i]? = some oi) (hpl : (isP oi.op || isL oi.op) = true) : syncC ops i = false := by
  unfold syncC
  rw [hi]
  have e2 : isC oi.op = false := by cases hop : oi.op <;> simp_all [isP, isL, isC]
  simp [e2]
omit [Val] in
theorem com_strict (ops : Array Oper) : Com (stepAtS P g C ops) (firstOK plain3 ops) ops := by
  intro listed s s1 s2 i j hcl hf hi hj hne h1 h2
  unfold stepAtS at h1 h2 ⊢
  cases hoi : ops[i]? with
  | none => rw [hoi] at h1; cases h1
  | some oi =>
    cases hoj : ops[j]? with
    | none => rw [hoj] at h2; cases h2
    | some oj =>
      rw [hoi] at h1
      rw [hoj] at h2
      simp only at h1 h2 ⊢
      obtain ⟨hap, hk⟩ := firstOK_spec hcl hf hoi hi hoj hj hne
      obtain ⟨a1, a2, a3⟩ := Oper.apart_spec hap
      have hpl : (isP oi.op || isL oi.op) = true := by rcases hk with hk | ⟨hk, _⟩ <;> simp [hk]
      cases hgi : oi.guard with
      | some p => rw [hgi] at h1; cases h1
      | none =>
        cases hgj : oj.guard with
        | some p => rw [hgj] at h2; cases h2
        | none =>
          rw [hgi] at h1
          rw [hgj] at h2
          simp only at h1 h2 ⊢
          rw [syncC_pl hoi hpl, Bool.or_false] at h1
          simp only [syncC_pl hoi hpl, Bool.or_false]
          split at h1
          · rename_i hsi
            split at h2
            · rename_i hsj
              obtain ⟨v, rfl, hv⟩ := stepW_pl hpl h1
              rw [stepW_put hap] at h2
              simp only at hsj
              rw [strictOK_put (looks_spec a1)] at hsj
              cases hq : stepW P g C ops oj ⟨s.t, s.h⟩ with
              | none => rw [hq] at h2; cases h2
              | some s2' =>
                rw [hq] at h2
                cases h2
                refine ⟨s2', by rw [hsj], ?_⟩
                obtain ⟨u, hu⟩ := stepW_t hq
                simp only at hu
                by_cases hh : isP oi.op = true ∨ s2'.h = s.h
                · have hstep := hv oj.dst u s2'.h a3 hh
                  rw [← hu] at hstep
                  have hst : strictOK P g C oi s2'.t s2'.h = true := by
                    rw [hu, strictOK_put (looks_spec a3)]
                    rcases hh with hh | hh
                    · unfold strictOK
                      have e1 : isL oi.op = false := by cases hop : oi.op <;> simp_all [isP, isL]
                      have e2 : isC oi.op = false := by cases hop : oi.op <;> simp_all [isP, isC]
                      rw [e1, e2]
                    · rw [hh]; exact hsi
                  rw [hst]
                  exact hstep
                · have hL : isL oi.op = true := by
                    rcases hk with hk | ⟨hk, _⟩
                    · exact absurd (.inl hk) hh
                    · exact hk
                  have hcj : isC oj.op = true := by
                    rcases hk with hk | ⟨_, hk⟩
                    · exact absurd (.inl hk) hh
                    · unfold plain3 at hk
                      simp only [Bool.or_eq_true] at hk
                      rcases hk with hk | hk
                      · exfalso
                        obtain ⟨v', hv', _⟩ := stepW_pl (by simpa using hk) hq
                        exact hh (.inr (by rw [hv']))
                      · exact hk
                  have hlj : isL oj.op = false := by
                    cases hop : oj.op <;> rw [hop] at hcj <;> first | rfl | (simp [isC] at hcj; done)
                  rw [(by cases hs : syncC ops j with | false => rfl | true => exact (syncC_not hcl hs hoi hi hoj hj hL).elim : syncC ops j = false), Bool.or_false] at hsj
                  -- the call leaves what was there
                  have happ : ∃ X, s2'.h = s.h ++ X := by
                    unfold strictOK at hsj
                    rw [hlj, hcj] at hsj
                    simp only at hsj
                    rw [stepW_eq, hgj] at hq
                    simp only at hq
                    split at hsj
                    · rename_i f args he
                      rw [effR_eq] at he
                      rw [he] at hq
                      simp only [Option.bind_some, appE] at hq
                      obtain ⟨p, hp⟩ := Option.isSome_iff_exists.1 hsj
                      obtain ⟨r, h'⟩ := p
                      have : doCall g C f args s.h = some (r, h') := by unfold doCall; rw [hp]
                      rw [this] at hq
                      cases hq
                      exact isoCall_app hp
                    · cases hsj
                  obtain ⟨X, hX⟩ := happ
                  obtain ⟨ty, x, hop⟩ := isL_load hL
                  -- the load finds the same
                  have hload : ∃ r, mLoad P g s.h ty (ev s.t x) = some (.same r) := by
                    unfold strictOK at hsi
                    rw [hL] at hsi
                    simp only [hop, memC] at hsi
                    obtain ⟨e, he⟩ := Option.isSome_iff_exists.1 hsi
                    obtain ⟨r, rfl⟩ := mLoad_same he
                    exact ⟨r, he⟩
                  obtain ⟨r, hr⟩ := hload
                  have hev : ev s2'.t x = ev s.t x := by
                    rw [hu]
                    exact ev_put (looks_spec a3 x (by rw [hop]; simp [Op.operands]))
                  have hm1 : (memC P g oi.op).f s.t s.h = some (.same r) := by
                    rw [hop]
                    simp only [memC, hr]
                  have hm2 : (memC P g oi.op).f s2'.t s2'.h = some (.same r) := by
                    rw [hop]
                    simp only [memC, hev, hX, mLoad_mono hr]
                  have he1 : effC P g oi s.t s.h = some (.same r) := by unfold effC orElse; rw [hm1]
                  have he2 : effC P g oi s2'.t s2'.h = some (.same r) := by unfold effC orElse; rw [hm2]
                  have hst : strictOK P g C oi s2'.t s2'.h = true := by
                    unfold strictOK
                    rw [hL]
                    show ((memC P g oi.op).f s2'.t s2'.h).isSome = true
                    rw [hm2]
                    rfl
                  rw [hst]
                  simp only
                  rw [stepW_eq, hgi] at h1 ⊢
                  simp only [he1, he2, Option.bind_some, appE] at h1 ⊢
                  have hvr : putT s.t oi.dst r = putT s.t oi.dst v := by
                    have := Option.some.inj h1
                    exact congrArg St.t this
                  have : putT s2'.t oi.dst r = putT s2'.t oi.dst v := by
                    rw [hu, ← putT_comm a2, ← putT_comm a2, hvr]
                  rw [this]
            · cases h2
          · cases h1
end
end Go.Ri

/-! Loops over functions: their records, and the marks that they leave. -/
namespace Go.Ri
open Go Go.RowKit
variable [Val]

section
variable {P : Program} {g : Cfg} {ro : Ro} {base : Nat} {w0 : World} {E : Env} {h : RH} {w : World}

/-- All but the records of loops, and blocks for deferred calls, is as it was. -/
structure KeepsD (w w' : World) : Prop where
  size : w.heap.size ≤ w'.heap.size
  same : ∀ (k : Nat) (o : Obj), w.heap[k]? = some o → (∀ d, o ≠ Obj.deferred d) → (∀ l, o ≠ Obj.loop l) → w'.heap[k]? = some o
omit [Val] in
theorem KeepsD.cell {w w' : World} (h : KeepsD w w') {a : Addr} {v : Value} (hc : w.cell? a = some v) : w'.cell? a = some v := by
  unfold World.cell? at hc ⊢
  cases ho : w.heap[a.block]? with
  | none => rw [ho] at hc; cases hc
  | some o =>
    have : w'.heap[a.block]? = some o := h.same _ _ ho (fun d e => by rw [ho, e] at hc; cases hc) (fun l e => by rw [ho, e] at hc; cases hc)
    rw [ho] at hc
    rw [this]
    exact hc
omit [Val] in
theorem KeepsD.row {w w' : World} (h : KeepsD w w') {b : Nat} {cur : Array Value} {e : TypeId} {fr : Nat × Nat} (hc : w.heap[b]? = some (.cells cur e fr)) : w'.heap[b]? = some (.cells cur e fr) :=
  h.same _ _ hc (by simp) (by simp)
omit [Val] in
theorem KeepsD.inn {w w' : World} (h : KeepsD w w') {s : Nat} {l v : Value} (hi : Inn w s l v) : Inn w' s l v := by
  obtain ⟨oa, n, cap, rfl, h1, h2, h3, h4, h5⟩ := hi
  refine ⟨oa, n, cap, rfl, h1, h2, h3, h4, fun a ha => ?_⟩
  obtain ⟨h6, h7⟩ := h5 a ha
  exact ⟨Nat.lt_of_lt_of_le h6 h.size, fun j u hj => h.cell (h7 j u hj)⟩
theorem BRel.keepD {p : EP} {w w' : World} {o : RO} (hk : KeepsD w w') (hnl : ∀ st pe, o ≠ .lp st pe) (h : BRel E p w o) : BRel E p w' o := by
  cases o with
  | cells l e room froz => obtain ⟨cur, fr, h1, h2⟩ := h; exact ⟨cur, fr, hk.row h1, h2⟩
  | iter s pos => exact hk.same _ _ h (by simp) (by simp)
  | lent l e => obtain ⟨cur, fr, h1, h2⟩ := h; exact ⟨cur, fr, hk.row h1, h2⟩
  | lst i e o => obtain ⟨cur, fr, h1, h2⟩ := h; exact ⟨cur, fr, hk.row h1, h2⟩
  | lstA i => obtain ⟨hlt, a, n, cap, h1, h2, h3⟩ := h; exact ⟨Nat.lt_of_lt_of_le hlt hk.size, a, n, cap, h1, h2, fun a1 ha1 j v hj => hk.cell (h3 a1 ha1 j v hj)⟩
  | lstQ i e s => obtain ⟨off, n, cap, cur, h1, ⟨fr, hh, hf⟩, h3⟩ := h; exact ⟨off, n, cap, cur, h1, ⟨fr, hk.row hh, hf⟩, h3⟩
  | lstL i e s => obtain ⟨cur, ⟨fr, hh, hf⟩, h2, h3, h4⟩ := h; exact ⟨cur, ⟨fr, hk.row hh, hf⟩, h2, h3, h4.mono fun _ _ => hk.inn⟩
  | lstB i s => obtain ⟨hlt, a, n, cap, h1, h2, h3, h4⟩ := h; exact ⟨Nat.lt_of_lt_of_le hlt hk.size, a, n, cap, h1, h2, fun a1 ha1 j v hj => hk.cell (h3 a1 ha1 j v hj), h4.mono fun _ _ => hk.inn⟩
  | lp st pe => exact absurd rfl (hnl st pe)
omit [Val] in
theorem keepsD_put {k : Nat} {o o' : Obj} (ho : w.heap[k]? = some o) (hk : (∃ d, o = .deferred d) ∨ ∃ l, o = .loop l) : KeepsD w (w.putObj k o') := by
  refine ⟨by simp, fun j x hj h1 h2 => ?_⟩
  by_cases e : j = k
  · subst e
    rw [ho] at hj
    cases hj
    rcases hk with ⟨d, hd⟩ | ⟨l, hl⟩
    · exact absurd hd (h1 d)
    · exact absurd hl (h2 l)
  · rw [World.putObj_heap_other e]
    exact hj
omit [Val] in
theorem below_put {k : Nat} {o : Obj} (hb : base ≤ k) : Below base w (w.putObj k o) := ⟨rfl, rfl, rfl, by simp, fun j hj => World.putObj_heap_other (by omega)⟩

/-- A dead block. -/
theorem HInv.pushDead (H : HInv ro base w0 E h w) (p : EP) (hp : PinOK w p) : HInv ro base w0 (E ++ [p]) (h ++ [none]) w := by
  have hE : E <+: E ++ [p] := List.prefix_append _ _
  have old : ∀ b o', at? (h ++ [none]) b = some o' → b < h.length ∧ at? h b = some o' := fun b o' hb => by
    by_cases h1 : b < h.length
    · exact ⟨h1, by rwa [at?_push_old h1] at hb⟩
    · by_cases h2 : b = h.length
      · subst h2
        rw [at?_push_new] at hb
        cases hb
      · rw [at?_push_far (by omega)] at hb
        cases hb
  have atold : ∀ b, b < h.length → (E ++ [p])[b]? = E[b]? := fun b hb => List.getElem?_append_left (by have := H.len; omega)
  refine ⟨H.below, H.lb, by simp [H.len], H.ro, fun b o' hb => ?_, fun b b' o1 o2 p1 p2 h1 h2 w1 w2 e1 e2 e3 => ?_, fun b o1 p1 h1 hn e1 q hq => ?_, fun i p1 hp1 => ?_⟩
  · obtain ⟨_, k1⟩ := old b o' hb
    obtain ⟨q, h1, h2, h3⟩ := H.blk b o' k1
    exact ⟨q, getElem?_prefix hE h1, h2, h3.keep hE rfl fun _ _ _ => rfl⟩
  · obtain ⟨l1, k1⟩ := old b o1 h1
    obtain ⟨l2, k2⟩ := old b' o2 h2
    rw [atold _ l1] at e1
    rw [atold _ l2] at e2
    exact H.inj b b' o1 o2 p1 p2 k1 k2 w1 w2 e1 e2 e3
  · obtain ⟨l1, k1⟩ := old b o1 h1
    rw [atold _ l1] at e1
    obtain ⟨g1, g2⟩ := H.frm b o1 p1 k1 hn e1 q hq
    refine ⟨g1, ?_⟩
    split
    · rename_i ho
      rw [if_pos ho] at g2
      refine ⟨g2.1, fun b' o' p' hb' wo hp' => ?_⟩
      obtain ⟨l2, k2⟩ := old b' o' hb'
      rw [atold _ l2] at hp'
      exact g2.2 b' o' p' k2 wo hp'
    · rename_i ho
      rwa [if_neg ho] at g2
  · by_cases hi : i < E.length
    · rw [List.getElem?_append_left hi] at hp1
      exact H.pin i p1 hp1
    · rw [List.getElem?_append_right (by omega)] at hp1
      cases hj : i - E.length with
      | zero => rw [hj] at hp1; cases hp1; exact hp
      | succ j => rw [hj] at hp1; cases hp1

/-- A loop's record written anew. -/
theorem HInv.setLp (H : HInv ro base w0 E h w) {b st : Nat} {pe : Option Ex} {p : EP} {L : Loop} (hb : at? h b = some (.lp st pe)) (hp : E[b]? = some p) (hk : p.k = .loop L) (x : Option RO) (S : LoopState) (P' : Option Code)
    (hx : x = none ∨ ∃ st' pe', x = some (.lp st' pe') ∧ S = lpSt st' ∧ P' = pe'.map exCode) : HInv ro base w0 E (h.set b x) (w.putObj p.1 (.loop { L with state := S, pending := P' })) := by
  obtain ⟨p0, k1, k2, L0, k3, k4⟩ := H.blk1 b _ hb rfl
  rw [hp] at k1
  cases k1
  rw [hk] at k3
  cases k3
  have hlt := at?_lt hb
  have hK : KeepsD w (w.putObj p.1 (.loop { L with state := S, pending := P' })) := keepsD_put k4 (.inr ⟨_, rfl⟩)
  have hplt : p.1 < w.heap.size := (Array.getElem?_eq_some_iff.1 k4).1
  have hnew : (w.putObj p.1 (.loop { L with state := S, pending := P' })).heap[p.1]? = some (.loop { L with state := S, pending := P' }) := World.putObj_heap_same hplt
  have key : ∀ b' y, at? (h.set b x) b' = some y → (b' = b ∧ x = some y) ∨ (b ≠ b' ∧ at? h b' = some y) := fun b' y hy => by
    by_cases e : b = b'
    · subst e
      rw [at?_set_same _ hlt] at hy
      exact .inl ⟨rfl, hy⟩
    · exact .inr ⟨e, by rwa [at?_set_other _ e] at hy⟩
  have xlp : ∀ y, x = some y → ∃ st' pe', y = .lp st' pe' ∧ S = lpSt st' ∧ P' = pe'.map exCode := fun y hy => by
    rcases hx with rfl | ⟨st', pe', rfl, h1, h2⟩
    · cases hy
    · cases hy; exact ⟨st', pe', rfl, h1, h2⟩
  have alive : ∀ b' y, at? (h.set b x) b' = some y → y.own = true → ∃ z, at? h b' = some z ∧ z.own = true := fun b' y hy hyo => by
    rcases key b' y hy with ⟨rfl, _⟩ | ⟨_, h1⟩
    · exact ⟨_, hb, rfl⟩
    · exact ⟨y, h1, hyo⟩
  refine ⟨H.below.trans (below_put k2), H.lb, by simpa using H.len, H.ro, fun b' y hy => ?_, fun b1 b2 o1 o2 p1 p2 h1 h2 v1 v2 => ?_, fun b1 o1 p1 h1 hn e1 q hq => ?_, fun i q hq => ?_⟩
  · rcases key b' y hy with ⟨rfl, hxy⟩ | ⟨hne, h1⟩
    · obtain ⟨st', pe', rfl, h2, h3⟩ := xlp y hxy
      refine ⟨p, hp, by rw [if_pos (by rfl)]; exact k2, L, hk, ?_⟩
      rw [hnew, h2, h3]
    · obtain ⟨q, e1, e2, e3⟩ := H.blk b' y h1
      refine ⟨q, e1, e2, ?_⟩
      by_cases hl : ∃ st pe, y = .lp st pe
      · obtain ⟨st2, pe2, rfl⟩ := hl
        have hq : q.1 ≠ p.1 := fun e => hne (H.inj b b' _ _ p q hb h1 rfl rfl hp e1 e.symm)
        exact e3.keep (List.prefix_refl E) (World.putObj_heap_other hq) (fun hn => by cases hn)
      · exact e3.keepD hK fun st pe e => hl ⟨st, pe, e⟩
  · obtain ⟨y1, hy1, z1⟩ := alive b1 o1 h1 v1
    obtain ⟨y2, hy2, z2⟩ := alive b2 o2 h2 v2
    exact H.inj b1 b2 y1 y2 p1 p2 hy1 hy2 z1 z2
  · rcases key b1 o1 h1 with ⟨rfl, hxy⟩ | ⟨hne, k1⟩
    · obtain ⟨st', pe', rfl, _⟩ := xlp o1 hxy
      cases hn
    · obtain ⟨g1, g2⟩ := H.frm b1 o1 p1 k1 hn e1 q hq
      refine ⟨Nat.lt_of_lt_of_le g1 hK.size, ?_⟩
      split
      · rename_i ho1
        rw [if_pos ho1] at g2
        refine ⟨g2.1, fun b2 o2 p2 h2 v2 e2 => ?_⟩
        obtain ⟨y2, hy2, z2⟩ := alive b2 o2 h2 v2
        exact g2.2 b2 y2 p2 hy2 z2 e2
      · rename_i ho1
        rwa [if_neg ho1] at g2
  · have h0 := H.pin i q hq
    by_cases e : q.1 = p.1
    · unfold PinOK at h0 ⊢
      rw [e] at h0 ⊢
      cases he : q.k with
      | no => trivial
      | dfr => rw [he] at h0; have := k4.symm.trans h0; cases this
      | loop L' =>
        rw [he] at h0
        obtain ⟨st2, pe2, hs⟩ := h0
        have := k4.symm.trans hs
        simp only [Option.some.injEq, Obj.loop.injEq, Loop.mk.injEq] at this
        refine ⟨S, P', hnew.trans ?_⟩
        simp only [Option.some.injEq, Obj.loop.injEq, Loop.mk.injEq]
        exact ⟨trivial, trivial, this.2.2⟩
    · exact h0.keep fun _ => World.putObj_heap_other e

/-- Environments that say the same of blocks. -/
def SameB (E E' : Env) : Prop := ∀ (b : Nat) q, E[b]? = some q → ∃ q', E'[b]? = some q' ∧ q'.1 = q.1 ∧ q'.2 = q.2 ∧ q'.val = q.val
omit [Val] in
theorem SameB.eq {E E' : Env} (h : SameB E E') {b : Nat} {q : EP} (hq : E[b]? = some q) : ∃ k, E'[b]? = some ⟨q.1, q.2, q.val, k⟩ := by
  obtain ⟨⟨a, c, d, k⟩, h1, h2, h3, h4⟩ := h b q hq
  refine ⟨k, ?_⟩
  rw [h1]
  simp only at h2 h3 h4
  rw [h2, h3, h4]
mutual
theorem VRel.sameB {E E' : Env} (h : SameB E E') : ∀ (r : RV) (v : Value), VRel E r v → VRel E' r v
  | .pl _, _, hv => hv
  | .sym _ _, _, hv => hv
  | .el _ _ _, _, ⟨_, hp, hv⟩ => let ⟨_, h1⟩ := h.eq hp; ⟨_, h1, hv⟩
  | .ptr _ _, _, ⟨_, hp, hv⟩ => let ⟨_, h1⟩ := h.eq hp; ⟨_, h1, hv⟩
  | .sl _ _ _ _ _, _, ⟨_, k, hp, hv⟩ => let ⟨_, h1⟩ := h.eq hp; ⟨_, k, h1, hv⟩
  | .fn _ a c, _, ⟨a', c', hv, ha, hc⟩ => ⟨a', c', hv, VRels.sameB h a _ ha, VRels.sameB h c _ hc⟩
  | .agg l, _, ⟨l', hv, hl⟩ => ⟨l', hv, VRels.sameB h l _ hl⟩
  | .tup l, _, ⟨l', hv, hl⟩ => ⟨l', hv, VRels.sameB h l _ hl⟩
  | .slN _ _ _, _, ⟨_, n, hp, hv⟩ => let ⟨_, h1⟩ := h.eq hp; ⟨_, n, h1, hv⟩
  | .slA _ _ _, _, ⟨_, a, n, cap, hp, hv⟩ => let ⟨_, h1⟩ := h.eq hp; ⟨_, a, n, cap, h1, hv⟩
  | .elA _ _ _, _, ⟨_, a, n, cap, hp, hv⟩ => let ⟨_, h1⟩ := h.eq hp; ⟨_, a, n, cap, h1, hv⟩
  | .elF _ _ _ _, _, ⟨_, hp, hv⟩ => let ⟨_, h1⟩ := h.eq hp; ⟨_, h1, hv⟩
  | .elB _ _ _ _, _, ⟨_, a, n, cap, hp, hv⟩ => let ⟨_, h1⟩ := h.eq hp; ⟨_, a, n, cap, h1, hv⟩
  | .slP _ _ _ _ _, _, ⟨_, n, hp, hv⟩ => let ⟨_, h1⟩ := h.eq hp; ⟨_, n, h1, hv⟩
  | .slL _ _, _, hv => hv.elim
  | .slX _ _ _ _ _, _, ⟨_, oa, n, cap, hp, hv⟩ => let ⟨_, h1⟩ := h.eq hp; ⟨_, oa, n, cap, h1, hv⟩
  | .elX _ _ _ _ _ _, _, ⟨_, a, n, cap, hp, hv⟩ => let ⟨_, h1⟩ := h.eq hp; ⟨_, a, n, cap, h1, hv⟩
  | .ifc _ _, _, ⟨_, hp, hv⟩ => let ⟨_, h1⟩ := h.eq hp; ⟨_, h1, hv⟩
  | .wild _, _, hv => hv
  | .yld _, _, ⟨_, hp, hv⟩ => let ⟨_, h1⟩ := h.eq hp; ⟨_, h1, hv⟩
  | .gst _ _, _, ⟨_, hp, hv⟩ => let ⟨_, h1⟩ := h.eq hp; ⟨_, h1, hv⟩
theorem VRels.sameB {E E' : Env} (h : SameB E E') : ∀ (l : List RV) (vs : List Value), VRels E l vs → VRels E' l vs
  | [], _, hv => hv
  | r :: l, _, ⟨v, vs', e, hv, hl⟩ => ⟨v, vs', e, VRel.sameB h r v hv, VRels.sameB h l vs' hl⟩
end
theorem BRel.sameB {E' : Env} (h : SameB E E') {p : EP} {k : EK} {o : RO} (hnl : ∀ st pe, o ≠ .lp st pe) (hb : BRel E p w o) : BRel E' ⟨p.1, p.2, p.val, k⟩ w o := by
  cases o with
  | cells l e room froz => obtain ⟨cur, fr, h1, h2, h3, h4⟩ := hb; exact ⟨cur, fr, h1, h2, h3.mono fun r v => VRel.sameB h r v, h4⟩
  | iter s pos => exact hb
  | lent l e => obtain ⟨cur, fr, h1, h2, h3⟩ := hb; exact ⟨cur, fr, h1, h2, h3.mono fun r v => VRel.sameB h r v⟩
  | lst i e o => exact hb
  | lstA i => exact hb
  | lstQ i e s => exact hb
  | lstL i e s => exact hb
  | lstB i s => exact hb
  | lp st pe => exact absurd rfl (hnl st pe)
/-- No block of deferred calls is D. -/
def unD (D : Nat) (q : EP) : EP := match q.k with
  | .dfr => if q.1 = D then { q with k := .no } else q
  | _ => q
omit [Val] in
theorem unD_spec (D : Nat) (q : EP) : (unD D q).1 = q.1 ∧ (unD D q).2 = q.2 ∧ (unD D q).val = q.val := by
  unfold unD
  split
  · split <;> exact ⟨rfl, rfl, rfl⟩
  · exact ⟨rfl, rfl, rfl⟩
omit [Val] in
theorem unD_of {D : Nat} {q : EP} (h : q.k = .dfr → q.1 ≠ D) : unD D q = q := by
  unfold unD
  split
  · rename_i hk
    rw [if_neg (h hk)]
  · rfl
omit [Val] in
theorem unD_map {D : Nat} : ∀ {E0 : Env}, (∀ q ∈ E0, q.k = .dfr → q.1 ≠ D) → E0.map (unD D) = E0
  | [], _ => rfl
  | q :: l, h => by rw [List.map_cons, unD_of (h q List.mem_cons_self), unD_map fun x hx => h x (List.mem_cons_of_mem _ hx)]
/-- The deferred calls of a function's loops are done with. -/
theorem HInv.unpin (H : HInv ro base w0 E h w) {i : Nat} {p : EP} (hp : E[i]? = some p) (hk : p.k = .dfr) (hb : base ≤ p.1) : HInv ro base w0 (E.map (unD p.1)) h (w.putObj p.1 (.deferred none)) ∧ SameB E (E.map (unD p.1)) := by
  have h0 : w.heap[p.1]? = some (.deferred (some [])) := by have := H.pin i p hp; unfold PinOK at this; rwa [hk] at this
  have hK : KeepsD w (w.putObj p.1 (.deferred none)) := keepsD_put h0 (.inl ⟨_, rfl⟩)
  have hS : SameB E (E.map (unD p.1)) := fun b q hq => ⟨unD p.1 q, by rw [List.getElem?_map, hq]; rfl, unD_spec p.1 q⟩
  have back : ∀ (b : Nat) q', (E.map (unD p.1))[b]? = some q' → ∃ q, E[b]? = some q ∧ q' = unD p.1 q := fun b q' hq' => by
    rw [List.getElem?_map] at hq'
    cases he : E[b]? with
    | none => rw [he] at hq'; cases hq'
    | some q => rw [he] at hq'; cases hq'; exact ⟨q, rfl, rfl⟩
  have inn : ∀ q : EP, (unD p.1 q).innP = q.innP := fun q => by unfold EP.innP EP.inn; rw [(unD_spec p.1 q).2.2]
  refine ⟨⟨H.below.trans (below_put hb), H.lb, by simpa using H.len, H.ro, fun b o ho => ?_, fun b1 b2 o1 o2 p1 p2 h1 h2 v1 v2 e1 e2 e3 => ?_, fun b1 o1 p1 h1 hn e1 q hq => ?_, fun j q' hq' => ?_⟩, hS⟩
  · obtain ⟨q, h1, h2, h3⟩ := H.blk b o ho
    have hm : (E.map (unD p.1))[b]? = some (unD p.1 q) := by rw [List.getElem?_map, h1]; rfl
    by_cases hl : ∃ st pe, o = .lp st pe
    · obtain ⟨st, pe, rfl⟩ := hl
      obtain ⟨L, k1, k2⟩ := h3
      have hq1 : q.1 ≠ p.1 := fun e => by rw [e, h0] at k2; cases k2
      have hu : unD p.1 q = q := unD_of fun e => by rw [k1] at e; cases e
      rw [hu] at hm
      exact ⟨q, hm, h2, L, k1, by rw [World.putObj_heap_other hq1]; exact k2⟩
    · refine ⟨_, hm, by rw [(unD_spec p.1 q).1]; exact h2, ?_⟩
      have := (h3.keepD hK fun st pe e => hl ⟨st, pe, e⟩).sameB (k := (unD p.1 q).k) hS fun st pe e => hl ⟨st, pe, e⟩
      obtain ⟨a1, a2, a3⟩ := unD_spec p.1 q
      have e : unD p.1 q = ⟨q.1, q.2, q.val, (unD p.1 q).k⟩ := by
        cases hu : unD p.1 q with
        | mk a c d k => rw [hu] at a1 a2 a3; simp only at a1 a2 a3; rw [a1, a2, a3]
      rw [e]
      exact this
  · obtain ⟨q1, a1, rfl⟩ := back b1 p1 e1
    obtain ⟨q2, c1, rfl⟩ := back b2 p2 e2
    rw [(unD_spec p.1 q1).1, (unD_spec p.1 q2).1] at e3
    exact H.inj b1 b2 o1 o2 q1 q2 h1 h2 v1 v2 a1 c1 e3
  · obtain ⟨q1, a1, rfl⟩ := back b1 p1 e1
    rw [inn q1] at hq
    obtain ⟨g1, g2⟩ := H.frm b1 o1 q1 h1 hn a1 q hq
    refine ⟨Nat.lt_of_lt_of_le g1 hK.size, ?_⟩
    split
    · rename_i ho1
      rw [if_pos ho1] at g2
      refine ⟨g2.1, fun b2 o2 p2 h2 v2 e2 => ?_⟩
      obtain ⟨q2, c1, rfl⟩ := back b2 p2 e2
      rw [(unD_spec p.1 q2).1]
      exact g2.2 b2 o2 q2 h2 v2 c1
    · rename_i ho1
      rwa [if_neg ho1] at g2
  · obtain ⟨q, a1, rfl⟩ := back j q' hq'
    have hq0 := H.pin j q a1
    by_cases e : q.1 = p.1
    · unfold PinOK at hq0
      rw [e, h0] at hq0
      cases he : q.k with
      | no => exact PinOK.of_no (by unfold unD; simp [he])
      | dfr => exact PinOK.of_no (by unfold unD; simp [he, e])
      | loop L => rw [he] at hq0; obtain ⟨st, pe, hs⟩ := hq0; cases hs
    · rw [unD_of fun _ => e]
      exact hq0.keep fun _ => World.putObj_heap_other e
end
end Go.Ri

/-! Two ways that meet again: what a state is by other names. -/
namespace Go.Ri
open Go Go.RowKit
variable [Val]

section
variable {qv : List (RV × RV)} {ql : List (Nat × Nat)} {R : List Nat} {E : Env} {base : Nat} {w0 w : World} {h : RH}

/-- What is said of values and lists is so. -/
structure QOK (qv : List (RV × RV)) (ql : List (Nat × Nat)) : Prop where
  v : ∀ q ∈ qv, flat0 q.1 = true → flat0 q.2 = true → cv q.1 = cv q.2
  l : ∀ q ∈ ql, Val.L q.1 = Val.L q.2

theorem jl_ok (hq : QOK qv ql) {i j : Nat} (h : jl ql i j = true) : Val.L i = Val.L j := by
  unfold jl at h
  simp only [Bool.or_eq_true, beq_iff_eq] at h
  rcases h with rfl | h
  · rfl
  · obtain ⟨q, hm, hc⟩ := List.any_eq_true.1 h
    simp only [Bool.and_eq_true, beq_iff_eq] at hc
    rw [← hc.1, ← hc.2]
    exact hq.l q hm
theorem jq_ok (hq : QOK qv ql) {x z : RV} {v : Value} {E' : Env} (h : jq qv x z = true) (hx : VRel E x v) : VRel E' z v := by
  unfold jq at h
  simp only [Bool.and_eq_true] at h
  obtain ⟨⟨h1, h2⟩, h3⟩ := h
  obtain ⟨q, hm, hc⟩ := List.any_eq_true.1 h3
  simp only [Bool.and_eq_true] at hc
  obtain ⟨a, b⟩ := q
  obtain rfl : a = x := eqS_eq hc.1
  obtain rfl : b = z := eqS_eq hc.2
  have e := hq.v _ hm h1 h2
  rw [cv_rel h1 hx, e]
  exact rel_cv h2
theorem jm0_ok (hq : QOK qv ql) {x z : RV} {v : Value} (h : jm0 qv ql R x z = true) (hx : VRel E x v) : VRel (pkE R E) z v := by
  unfold jm0 at h
  split at h
  · simp only [Bool.and_eq_true, beq_iff_eq] at h
    obtain ⟨⟨h1, h2⟩, rfl⟩ := h
    obtain ⟨p, n, hp, g1, g2, g3, g4⟩ := hx
    rw [jl_ok hq h2] at g2
    exact ⟨p, n, pk_get (rk_spec h1) hp, g1, g2, g3, g4⟩
  · simp only [Bool.or_eq_true] at h
    rcases h with h | h
    · exact pm0_ok h hx
    · exact jq_ok hq h hx
theorem jm1_ok (hq : QOK qv ql) {x z : RV} {v : Value} (h : jm1 qv ql R x z = true) (hx : VRel E x v) : VRel (pkE R E) z v := by
  unfold jm1 at h
  split at h
  · simp only [Bool.and_eq_true, beq_iff_eq] at h
    obtain ⟨⟨rfl, h1⟩, h2⟩ := h
    obtain ⟨a', c', hv, ha, hc⟩ := hx
    exact ⟨a', c', hv, VRels_iff.2 (pms_ok (fun _ _ _ => jm0_ok hq) h1 (VRels_iff.1 ha)), VRels_iff.2 (pms_ok (fun _ _ _ => jm0_ok hq) h2 (VRels_iff.1 hc))⟩
  · obtain ⟨l', hv, hl⟩ := hx
    exact ⟨l', hv, VRels_iff.2 (pms_ok (fun _ _ _ => jm0_ok hq) h (VRels_iff.1 hl))⟩
  · exact jm0_ok hq h hx
theorem jm2_ok (hq : QOK qv ql) {x z : RV} {v : Value} (h : jm2 qv ql R x z = true) (hx : VRel E x v) : VRel (pkE R E) z v := by
  unfold jm2 at h
  split at h
  · obtain ⟨l', hv, hl⟩ := hx
    exact ⟨l', hv, VRels_iff.2 (pms_ok (fun _ _ _ => jm1_ok hq) h (VRels_iff.1 hl))⟩
  · exact jm1_ok hq h hx
theorem jmO_ok (hq : QOK qv ql) {o q : RO} {p : EP} (hm : jmO qv ql R (some o) (some q) = true) (hr : BRel E p w o) : BRel (pkE R E) p w q ∧ q.own = o.own ∧ q.nest = o.nest := by
  unfold jmO at hm
  split at hm
  · rename_i h; cases h
  · rename_i l e r f l' e' r' f' h1 h2
    cases h1; cases h2
    simp only [Bool.and_eq_true, beq_iff_eq] at hm
    obtain ⟨⟨⟨h1, rfl⟩, rfl⟩, rfl⟩ := hm
    obtain ⟨cur, fr, g1, g2, g3, g4, g5⟩ := hr
    have hl := pmL_len h1
    refine ⟨⟨cur, fr, g1, g2, ?_, fun h => by rw [← hl]; exact g4 h, g5⟩, rfl, rfl⟩
    rw [← hl]
    exact pms_ok (fun _ _ _ => jm1_ok hq) h1 g3
  · rename_i h1 h2
    cases h1; cases h2
    simp only [Bool.and_eq_true, beq_iff_eq] at hm
    obtain ⟨⟨h1, rfl⟩, rfl⟩ := hm
    obtain ⟨cur, fr, g1, g2, g3, g4⟩ := hr
    rw [jl_ok hq h1] at g3
    exact ⟨⟨cur, fr, g1, g2, g3, g4⟩, rfl, rfl⟩
  · exact pmO_ok hm hr
omit [Val] in
theorem jmH_get {h : RH} : ∀ (L : List Nat) (m : RH), jmH qv ql R h L m = true → L.length = m.length ∧ ∀ (b : Nat) q, at? m b = some q → ∃ c, L[b]? = some c ∧ jmO qv ql R (at? h c) (some q) = true
  | [], [], _ => ⟨rfl, fun b q hq => by simp [at?] at hq⟩
  | [], _ :: _, h => by cases h
  | _ :: _, [], h => by cases h
  | x :: l, y :: m, hh => by
    have hh : (jmO qv ql R (match h[x]? with | some o => o | none => none) y && jmH qv ql R h l m) = true := hh
    simp only [Bool.and_eq_true] at hh
    obtain ⟨h1, h2⟩ := jmH_get l m hh.2
    refine ⟨by simp [h1], fun b q hq => ?_⟩
    cases b with
    | zero =>
      have hq : y = some q := by simpa [at?] using hq
      subst hq
      refine ⟨x, by simp, ?_⟩
      have e : at? h x = (match h[x]? with | some o => o | none => none) := by
        unfold at?
        cases h[x]? <;> rfl
      rw [e]
      exact hh.1
    | succ b =>
      obtain ⟨c, h3, h4⟩ := h2 b q (by simpa [at?] using hq)
      exact ⟨c, by simpa using h3, h4⟩
omit [Val] in
theorem aliveR_mem : ∀ (R : List Nat) (m : RH) (b c : Nat) q, at? m b = some q → R[b]? = some c → c ∈ aliveR R m
  | [], _, b, c, q, _, h => by simp at h
  | _ :: _, [], b, c, q, h, _ => by simp [at?] at h
  | x :: R, y :: m, b, c, q, hq, hc => by
    cases b with
    | zero =>
      have hq : y = some q := by simpa [at?] using hq
      have hc : x = c := by simpa using hc
      subst hq
      subst hc
      exact List.mem_cons_self
    | succ b =>
      have := aliveR_mem R m b c q (by simpa [at?] using hq) (by simpa using hc)
      cases y with
      | none => exact this
      | some y => exact List.mem_cons_of_mem _ this
omit [Val] in
theorem aliveR_inj : ∀ (R : List Nat) (m : RH), noDup (aliveR R m) = true → ∀ (b b' c : Nat) q q', at? m b = some q → at? m b' = some q' → R[b]? = some c → R[b']? = some c → b = b'
  | [], _, _, b, b', c, q, q', _, _, h, _ => by simp at h
  | _ :: _, [], _, b, b', c, q, q', h, _, _, _ => by simp [at?] at h
  | x :: R, y :: m, hn, b, b', c, q, q', hq, hq', hc, hc' => by
    have hno : ∀ y', y = some y' → x ∉ aliveR R m ∧ noDup (aliveR R m) = true := fun y' hy => by
      subst hy
      have hn : (!((aliveR R m).contains x) && noDup (aliveR R m)) = true := hn
      simp only [Bool.and_eq_true, Bool.not_eq_true'] at hn
      exact ⟨fun hm => by rw [List.contains_eq_mem, decide_eq_false_iff_not] at hn; exact hn.1 hm, hn.2⟩
    have hnd : noDup (aliveR R m) = true := by
      cases y with
      | none => exact hn
      | some y' => exact (hno y' rfl).2
    cases b with
    | zero => cases b' with
      | zero => rfl
      | succ b' =>
        have hy : y = some q := by simpa [at?] using hq
        have hx : x = c := by simpa using hc
        have := aliveR_mem R m b' c q' (by simpa [at?] using hq') (by simpa using hc')
        exact absurd (hx ▸ this) (hno q hy).1
    | succ b => cases b' with
      | zero =>
        have hy : y = some q' := by simpa [at?] using hq'
        have hx : x = c := by simpa using hc'
        have := aliveR_mem R m b c q (by simpa [at?] using hq) (by simpa using hc)
        exact absurd (hx ▸ this) (hno q' hy).1
      | succ b' =>
        have := aliveR_inj R m hnd b b' c q q' (by simpa [at?] using hq) (by simpa [at?] using hq') (by simpa using hc) (by simpa using hc')
        omega
theorem jmH_inv {ro : Ro} {p : RH} (hq : QOK qv ql) (hn : noDup (aliveR R p) = true) (hm : jmH qv ql R h R p = true) (H : HInv ro base w0 E h w) : HInv ro base w0 (pkE R E) p w := by
  obtain ⟨hlen, hget⟩ := jmH_get _ _ hm
  have back : ∀ b q, at? p b = some q → ∃ c o, R[b]? = some c ∧ at? h c = some o ∧ jmO qv ql R (some o) (some q) = true := by
    intro b q hb
    obtain ⟨c, hc, this⟩ := hget b q hb
    cases ho : at? h c with
    | none =>
      rw [ho] at this
      cases q <;> cases this
    | some o =>
      rw [ho] at this
      exact ⟨c, o, hc, ho, this⟩
  refine ⟨H.below, H.lb, by simp [pkE, hlen], H.ro, fun b q hb => ?_, fun b b' q q' k k' hb hb' v1 v2 e1 e2 e3 => ?_, fun b q k hb hn2 hk x hx => ?_, fun i q hq => pk_pin H.pin i q hq⟩
  rotate_right
  · obtain ⟨c, o, hc, ho, hmo⟩ := back b q hb
    obtain ⟨k1, g1, _, g3⟩ := H.blk c o ho
    obtain ⟨_, w1, wn⟩ := jmO_ok hq hmo g3
    rw [pk_get hc g1] at hk
    cases hk
    obtain ⟨f1, f2⟩ := H.frm c o _ ho (wn ▸ hn2) g1 x hx
    refine ⟨f1, ?_⟩
    rw [w1]
    split
    · rename_i how
      rw [if_pos how] at f2
      refine ⟨f2.1, fun b' q' k' hb' v2 e2 => ?_⟩
      obtain ⟨c', o', hc', ho', hmo'⟩ := back b' q' hb'
      obtain ⟨k2, g1', _, g3'⟩ := H.blk c' o' ho'
      have w2 := (jmO_ok hq hmo' g3').2.1
      rw [pk_get hc' g1'] at e2
      cases e2
      exact f2.2 c' o' _ ho' (w2 ▸ v2) g1'
    · rename_i how
      rwa [if_neg how] at f2
  · obtain ⟨c, o, hc, ho, hmo⟩ := back b q hb
    obtain ⟨k, h1, h2, h3⟩ := H.blk c o ho
    obtain ⟨h4, h5, _⟩ := jmO_ok hq hmo h3
    exact ⟨k, pk_get hc h1, by rw [h5]; exact h2, h4⟩
  · obtain ⟨c, o, hc, ho, hmo⟩ := back b q hb
    obtain ⟨c', o', hc', ho', hmo'⟩ := back b' q' hb'
    obtain ⟨k1, g1, _, g3⟩ := H.blk c o ho
    obtain ⟨k2, g1', _, g3'⟩ := H.blk c' o' ho'
    have w1 := (jmO_ok hq hmo g3).2.1
    have w2 := (jmO_ok hq hmo' g3').2.1
    rw [pk_get hc g1] at e1
    rw [pk_get hc' g1'] at e2
    cases e1
    cases e2
    have hcc := H.inj c c' o o' _ _ ho ho' (w1 ▸ v1) (w2 ▸ v2) g1 g1' e3
    subst hcc
    exact aliveR_inj R p hn b b' c q q' hb hb' hc hc'
theorem jmT_ok (hq : QOK qv ql) {L : Nat} {tm : Array Value} {E' : Env} (hE : pkE R E <+: E') (hL : ∃ p, E'[L]? = some p ∧ p.val = .tuple tm) : ∀ (j : Nat) (l m : List RV) (vs : List Value), jmT qv ql R L j l m = true → tm.toList.drop j = vs → All2 (VRel E) l vs → All2 (VRel E') m vs
  | _, [], [], _, _, _, h => by cases h; exact .nil
  | _, [], _ :: _, _, hm, _, _ => by cases hm
  | _, _ :: _, [], _, hm, _, _ => by cases hm
  | j, x :: l, z :: m, _, hm, hd, h => by
    have hm : ((match (generalizing := false) z with | .gst b j' => (b == L && j == j') || jm2 qv ql R x (.gst b j') | z => jm2 qv ql R x z) && jmT qv ql R L (j + 1) l m) = true := hm
    simp only [Bool.and_eq_true] at hm
    cases h with
    | cons h1 h2 =>
      rename_i v vs
      have hd2 : tm.toList.drop (j + 1) = vs := by
        rw [← List.drop_drop, hd]
        rfl
      refine .cons ?_ (jmT_ok hq hE hL (j + 1) l m vs hm.2 hd2 h2)
      obtain ⟨hm, _⟩ := hm
      split at hm
      · rename_i b j'
        simp only [Bool.or_eq_true, Bool.and_eq_true, beq_iff_eq] at hm
        rcases hm with ⟨rfl, rfl⟩ | hm
        · obtain ⟨p, hp, hv⟩ := hL
          refine ⟨p, hp, ?_⟩
          rw [hv]
          have : tm.toList[j]? = some v := by
            have := congrArg List.head? hd
            simpa [List.head?_drop] using this
          show v = tm.getD j undef
          have h3 : tm[j]? = some v := by simpa using this
          rw [Array.getD_eq_getD_getElem?, h3]
          rfl
        · exact VRel.ext hE _ _ (jm2_ok hq hm h1)
      · exact VRel.ext hE _ _ (jm2_ok hq hm h1)
/-- A state by other names. -/
theorem fitJ_ok (hq : QOK qv ql) {g : Cfg} {n0 : Nat} {s z : St} (hf : fitJ qv ql n0 R s z = true) {a : Act} (hn : n0 ≤ E.length) (S : SimT g base w0 s E a w) :
    ∃ E', E.take n0 <+: E' ∧ SimT g base w0 ⟨z.t, z.h ++ [none]⟩ E' a w := by
  unfold fitJ at hf
  simp only [Bool.and_eq_true, beq_iff_eq] at hf
  obtain ⟨⟨⟨⟨h1, h2⟩, h3⟩, h4⟩, h5⟩ := hf
  have H := jmH_inv hq h3 h4 S.h
  have hlen : (pkE R E).length = R.length := by simp [pkE]
  refine ⟨pkE R E ++ [⟨0, 0, .tuple a.tmps, .no⟩], ?_, ⟨?_, H.pushDead ⟨0, 0, .tuple a.tmps, .no⟩ trivial⟩⟩
  · rw [← pk_take (E := E) h2 hn]
    exact (List.take_prefix _ _).trans (List.prefix_append _ _)
  · refine jmT_ok hq (List.prefix_append _ _) ⟨⟨0, 0, .tuple a.tmps, .no⟩, ?_, rfl⟩ 0 _ _ _ h5 (by simp) S.t
    rw [List.getElem?_append_right (by omega), hlen]
    simp
end

theorem JETrue.a {e : JE} (h : JETrue e) (hb : Val.B e.i = true) : QOK (jQA e) (jLA e) := by
  obtain ⟨h1, h2⟩ := h.1 hb
  refine ⟨fun q hq f1 f2 => ?_, fun q hq => ?_⟩
  · rcases List.mem_cons.1 hq with rfl | hq
    · show Value.bool (Val.B e.i) = .bool true
      rw [hb]
    · obtain ⟨x, hx, rfl⟩ := List.mem_map.1 hq
      exact h1 x hx f1 f2
  · obtain ⟨x, hx, rfl⟩ := List.mem_map.1 hq
    exact h2 x hx
theorem JETrue.b {e : JE} (h : JETrue e) (hb : Val.B e.i = false) : QOK (jQB e) (jLB e) := by
  obtain ⟨h1, h2⟩ := h.2 hb
  refine ⟨fun q hq f1 f2 => ?_, fun q hq => ?_⟩
  · rcases List.mem_cons.1 hq with rfl | hq
    · show Value.bool (Val.B e.i) = .bool false
      rw [hb]
    · obtain ⟨x, hx, rfl⟩ := List.mem_map.1 hq
      exact h1 x hx f1 f2
  · obtain ⟨x, hx, rfl⟩ := List.mem_map.1 hq
    exact h2 x hx
omit [Val] in
theorem jlook_mem {J : List JE} {i : Nat} {e : JE} (h : jlook J i = some e) : e ∈ J ∧ e.i = i := by
  unfold jlook at h
  refine ⟨List.mem_of_find?_eq_some h, ?_⟩
  have := List.find?_some h
  exact Nat.eq_of_beq_eq_true this
omit [Val] in
theorem joinS_spec {e : JE} {n0 : Nat} {sA sB z : St} (h : joinS e n0 sA sB = some z) : ∃ RA RB z0, z = ⟨z0.t, z0.h ++ [none]⟩ ∧ fitJ (jQA e) (jLA e) n0 RA sA z0 = true ∧ fitJ (jQB e) (jLB e) n0 RB sB z0 = true := by
  unfold joinS at h
  simp only at h
  split at h
  · rename_i hf
    simp only [Bool.and_eq_true] at hf
    cases h
    exact ⟨_, _, _, rfl, hf.1, hf.2⟩
  · cases h
end Go.Ri

namespace Go.Ri
open Go Go.RowKit
variable [Val]

section
variable {P : Program} {g : Cfg} {C : CallG} {E0 : Env}

theorem SimM.drew {base : Nat} {w0 : World} {s : St} {E : Env} {a : Act} {w : World} (S : SimM g base w0 E0 s E a w) : SimM g base w0 E0 s E a { w with drawn := w.drawn + 1 } := ⟨S.t, S.d, S.h.drew, S.e⟩

omit [Val] in
theorem quiet_not_defer {o : Oper} {a : Act} {K : World → Prop} {w : World} {v : Value} (h : o.quietAt P a K w v) : ∀ c, o.op ≠ .defer c := by
  intro c hop
  unfold Oper.quietAt at h
  have hex : execOp a.eval o = (do pure (.defer (← resolve a.eval c o.type)) : Sem Next) := by
    unfold execOp
    rw [hop]
  rw [hex, Sem.run_bind] at h
  cases hr : (resolve a.eval c o.type).run P w with
  | ok d w' => rw [hr] at h; simp only [Result.andThen, Sem.run_pure] at h; exact h
  | halt x w' => rw [hr] at h; exact h
omit [Val] in
theorem wpIn_of_quietR {ρ : Option Nat} {o : Oper} {a : Act} {Kw : World → Prop} {K : Act → Prop} {K' : Act → World → Prop} {Q' : Exit → Act → World → Prop} {w : World} (hw : Kw w) (h : ∀ a w', Kw w' → K a → K' a w') (hh : o.quiet P a Kw K) : o.wpIn (FrR ρ) 0 P a w K' Q' := by
  obtain ⟨v, h1, h2⟩ := hh
  have h3 := h1 w hw
  have hsem : o.semAt ρ a.eval = execOp a.eval o := by
    cases ρ with
    | none => exact Oper.semAt_none _ _
    | some l => exact Oper.semAt_some l _ o (quiet_not_defer h3)
  unfold Oper.quietAt at h3
  refine ⟨fun _ _ => trivial, ?_⟩
  show o.uponIn (FrR ρ) 0 P a K' Q' ((o.semAt ρ a.eval).run P w)
  rw [hsem]
  generalize (execOp a.eval o).run P w = r at *
  cases r with
  | ok n w' =>
    cases n <;> simp only [Oper.quietUpon] at h3 <;> simp only [Oper.uponIn]
    case value u =>
      obtain ⟨e1, e2⟩ := h3
      rw [e1, e2]
      exact h _ _ hw h2
    case skip =>
      obtain ⟨e1, e2⟩ := h3
      rw [e1, ← e2]
      exact h _ _ hw h2
    case enter f args =>
      obtain ⟨e1, hc⟩ := h3
      rw [e1]
      exact ⟨fr_depth ρ 0, callsIn_fr (hc.mono fun e w'' ⟨he, hw''⟩ => by subst he; exact h _ _ hw'' h2)⟩
  | halt x w' => simp only [Oper.quietUpon] at h3
omit [Val] in
theorem wpOpIn_of_qOpR {ρ : Option Nat} {ops : Array Oper} {i : Nat} {a : Act} {Kw : World → Prop} {K : Act → Prop} {K' : Act → World → Prop} {Q' : Exit → Act → World → Prop} {w : World} (hC : Kw w) (h : ∀ a w', Kw w' → K a → K' a w') (hh : qOp P ops Kw i K a) : wpOpIn (FrR ρ) 0 P ops Q' i K' a w := by
  unfold qOp at hh
  unfold wpOpIn
  split
  · rename_i ho; simp only [ho] at hh; exact h _ _ hC hh
  · rename_i o ho
    simp only [ho] at hh
    split
    · rename_i hw; simp only [hw, if_true] at hh; exact wpIn_of_quietR hC h hh
    · rename_i hw; simp only [hw] at hh; exact ⟨fun _ _ => trivial, h _ _ hC hh⟩
omit [Val] in
theorem wpAnyIn_of_quietR {ρ : Option Nat} {md : Region.Mode} {ops : Array Oper} {Kw : World → Prop} {Q : Act → Prop} {Q' : Exit → Act → World → Prop} (hQ : ∀ a w, Kw w → Q a → Q' .normal a w) : ∀ (fuel : Nat) (listed : Array Bool) (a : Act) (w : World), Kw w →
    wpAnyQ P md ops Kw Q fuel listed a → wpAnyIn (FrR ρ) 0 P md ops Q' fuel listed a w
  | 0, _, _, _, hw, h => ⟨h.1, hQ _ _ hw h.2⟩
  | fuel + 1, _, _, _, hw, h => ⟨fun h0 => hQ _ _ hw (h.1 h0), fun i hi => wpOpIn_of_qOpR hw (fun a' w' hw' => wpAnyIn_of_quietR hQ fuel _ a' w' hw') (h.2 i hi)⟩
omit [Val] in
theorem wpIn_region_quietR {ρ : Option Nat} {id : Nat} {ops : Array Oper} {Kw : World → Prop} {Q : Exit → Act → World → Prop} {a : Act} {w : World} (hm : P.follows .mixedOrders = true) (hB : Region.lexB .any ops = true) (hC : Kw { w with drawn := w.drawn + 1 })
    (h : wpQuiet P ops Kw (fun a' => ∀ w', Kw w' → Q .normal a' w') ops.toList a) : (Code.region id ops true).wpIn (FrR ρ) 0 P Q a w := by
  simp only [Region.lexB, Bool.and_eq_true] at hB
  refine wpIn_region_any hm (wpAnyIn_of_quietR (Q := fun a' => ∀ w', Kw w' → Q .normal a' w') (fun _ w' hw' h => h w' hw') _ _ _ _ hC ?_)
  have := wpAnyQ_lex (C := Kw) (md := .any) hB.1 ops.toList 0 (Array.replicate ops.size false) a (by simp) (by simpa using hB.2) h
  simpa using this

theorem runB_ok (hm : P.follows .mixedOrders = true) (G : CfgOK P g) (hC : GoodC P g E0 C) (hX : XOK P g) (ρ : Option Nat) {id : Nat} {ops : Array Oper} {Q : Exit → Act → World → Prop} {base : Nat} {w0 : World} {s s' : St} {E : Env} {a : Act} {w : World} (S : SimM g base w0 E0 s E a w)
    (hr : runB P g C ops s = some s') (hQ : ∀ E' a' w', E <+: E' → SimM g base w0 E0 s' E' a' w' → a'.defers = a.defers → Q .normal a' w') : (Code.region id ops true).wpIn (FrR ρ) 0 P Q a w := by
  have hlen : s.h.length ≤ E.length := Nat.le_of_eq S.h.len
  have hlen' : E.length ≤ s.h.length := Nat.le_of_eq S.h.len.symm
  unfold runB at hr
  split at hr
  · split at hr
    · rename_i s1 h1
      cases hr
      exact wpIn_region_any hm (anyR_ok G hC hX ρ (stepAtS_at ops) S.d S.e _ _ s s' E a _ hlen (List.take_of_length_le hlen') S.drew.T rfl (anyB_spec (com_strict ops) (firstOK_mono _ _) _ _ s s' (Cl.init ops) h1) hQ)
    · exact wpIn_region_any hm (anyR_ok G hC hX ρ (fun _ _ _ h => h) S.d S.e _ _ s s' E a _ hlen (List.take_of_length_le hlen') S.drew.T rfl (anyB_spec (com_at ops) (firstOK_mono _ _) _ _ s s' (Cl.init ops) hr) hQ)
  · exact wpIn_region_any hm (anyR_ok G hC hX ρ (fun _ _ _ h => h) S.d S.e _ _ s s' E a _ hlen (List.take_of_length_le hlen') S.drew.T rfl (anyB_spec (com_at ops) (firstOK_mono _ _) _ _ s s' (Cl.init ops) hr) hQ)

theorem runD_ok (hm : P.follows .mixedOrders = true) (G : CfgOK P g) (hC : GoodC P g E0 C) (hX : XOK P g) (ρ : Option Nat) {id : Nat} {ops : Array Oper} {Q : Exit → Act → World → Prop} {base : Nat} {w0 : World} {s s' : St} {E : Env} {a : Act} {w : World} (S : SimM g base w0 E0 s E a w)
    (hr : runD P g C ops s = some s') (hQ : ∀ E' a' w', E <+: E' → SimM g base w0 E0 s' E' a' w' → a'.defers = a.defers → Q .normal a' w') : (Code.region id ops true).wpIn (FrR ρ) 0 P Q a w := by
  unfold runD at hr
  split at hr
  · rename_i hq
    simp only [Bool.and_eq_true] at hq
    split at hr
    · rename_i s1 h1
      cases hr
      refine wpIn_region_quietR (Kw := fun w' => HInv g.ro base w0 E s.h w') hm hq.2 S.h.drew (runQ_ok G hC.iso hX S.h ops.toList s s' a rfl S.t rfl h1 fun hh a' ht hd w' hw' => ?_)
      exact hQ E a' w' (List.prefix_refl E) ⟨ht, by rw [hd]; exact S.d, by rw [hh]; exact hw', S.e⟩ hd
    · exact runB_ok hm G hC hX ρ S hr hQ
  · exact runB_ok hm G hC hX ρ S hr hQ

def Ex.toExit : Ex → Exit
  | .normal => .normal
  | .exit id => .exit id
  | .ret => .ret

omit [Val] in
theorem exec_succ (rf : Bool) (n : Nat) (c : Code) (s : St) : exec P g C rf (n + 1) c s = xStep P g C rf (exec P g C rf n) (exec P g C false n) c s := rfl

omit [Val] in
theorem wpIn_scope_straight {F : Fence} {n : Nat} {Q : Exit → Act → World → Prop} {a : Act} {w : World} {c : Code} (h : c.wpIn F n P (Exit.noGoto Q) a w) : (Code.scope c).wpIn F n P Q a w := by
  intro b k cs hro hb hr
  have s1 : step P (lone (b.atR a (.code (.scope c) :: k)) cs w) = .next (lone (b.atR a (.code c :: .inScope c :: k)) cs w) := step_lone_go (by simp [stepG, stepG.exec, Frame.atR])
  have s2 : ∀ a w, step P (lone (b.atR a (.inScope c :: k)) cs w) = .next (lone (b.atR a k) cs w) := fun a w => step_lone_go (by simp [stepG, stepG.exec, Frame.atR])
  have h0 : (lone (b.atR a (.code (.scope c) :: k)) cs w).fenced P F := fenced_calm hb hr rfl
  obtain ⟨e, a₁, w₁, hq, harr⟩ := h b (.inScope c :: k) cs hro hb hr
  cases e with
  | normal => exact ⟨.normal, a₁, w₁, hq, .head h0 s1 (StepsIn.trans harr (.one (fenced_calm hb hr rfl) (s2 _ _)))⟩
  | exit id =>
    have hx : exitTo id (.inScope c :: k) = exitTo id k := by simp [exitTo]
    exact ⟨.exit id, a₁, w₁, hq, fun k' hk => .head h0 s1 (harr.1 k' (by rw [hx]; exact hk)),
      fun hr' hk => let ⟨k₁, h1, h2⟩ := harr.2 hr' (by rw [hx]; exact hk); ⟨k₁, h1, .head h0 s1 h2⟩⟩
  | goto l => exact hq.elim
  | ret => exact ⟨_, a₁, w₁, hq, .of_steps (.one h0 s1) harr⟩
  | panic ch => exact ⟨_, a₁, w₁, hq, .of_steps (.one h0 s1) harr⟩
  | outgrown => exact ⟨_, a₁, w₁, hq, .of_steps (.one h0 s1) harr⟩

/-- The loop of whose rounds a frame is one, is a loop. -/
def RhoOK (ρ : Option Nat) (E : Env) : Prop := ∀ l, ρ = some l → ∃ (i : Nat) (p : EP) (L : Loop), E[i]? = some p ∧ p.1 = l ∧ p.k = .loop L
omit [Val] in
theorem RhoOK.ext {ρ : Option Nat} {E E' : Env} (hE : E <+: E') (h : RhoOK ρ E) : RhoOK ρ E' := fun l hl => let ⟨i, p, L, h1, h2⟩ := h l hl; ⟨i, p, L, getElem?_prefix hE h1, h2⟩
omit [Val] in
theorem RhoOK.none (E : Env) : RhoOK none E := fun _ h => by cases h
omit [Val] in
theorem Marks.lt {base : Nat} {E : Env} {w : World} {ds : List Deferred} (h : Marks base E0 E ds) (hp : ∀ (i : Nat) p, E[i]? = some p → PinOK w p) : ∀ d ∈ ds, ∃ D, d.target = .collected D ∧ D < w.heap.size := by
  induction h with
  | nil => intro d hd; cases hd
  | cons h1 h2 h3 hb h4 _ ih =>
    intro d hd
    rcases List.mem_cons.1 hd with rfl | hd
    · exact ⟨_, rfl, (hp _ _ h2).lt (by rw [h3]; simp)⟩
    · exact ih d hd
/-- A loop's record is laid. -/
theorem enter_ok {base : Nat} {w0 : World} {E : Env} {h : RH} {w : World} (H : HInv g.ro base w0 E h w) (ρ : Option Nat) (hρ : RhoOK ρ E) (hE0 : E0 <+: E) (fn : FuncId) (tmps : Array Value) (ps : Array Tmp) (x y : Code) :
    ∃ l mark w1 pd rec, (Instr.enterLoop fn tmps ps x y ρ).run P w = .ok (l, mark) w1 ∧ rec.fn = fn ∧ rec.tmps = tmps ∧ rec.params = ps ∧ rec.assign = x ∧ rec.body = y ∧
      HInv g.ro base w0 (E ++ [pd] ++ [(⟨l, 0, undef, .loop rec⟩ : EP)]) (h ++ [none] ++ [some (.lp 0 none)]) w1 ∧ (∀ ds, Marks base E0 E ds → Marks base E0 (E ++ [pd] ++ [(⟨l, 0, undef, .loop rec⟩ : EP)]) (mark ++ ds)) := by
  have lay : ∀ (W : World) (E1 : Env) (h1 : RH) (rec : Loop), HInv g.ro base w0 E1 h1 W → rec.state = .ready → rec.pending = none →
      HInv g.ro base w0 (E1 ++ [(⟨W.heap.size, 0, undef, .loop rec⟩ : EP)]) (h1 ++ [some (.lp 0 none)]) (W.alloc (.loop rec)) := by
    intro W E1 h1 rec H1 hs hp
    have hh : (W.alloc (.loop rec)).heap[W.heap.size]? = some (.loop rec) := heap_alloc_new W _
    have hrec : rec = { rec with state := lpSt 0, pending := (none : Option Ex).map exCode } := by
      cases rec
      simp only at hs hp
      subst hs
      subst hp
      rfl
    have H' : HInv g.ro base w0 E1 h1 (W.alloc (.loop rec)) := H1.world ((Below.refl _ _).alloc (Nat.le_refl _) _)
    refine H'.push _ (.lp 0 none) rfl rfl H1.size (fun b o' p' hb hp => Nat.ne_of_lt (H1.heap_ne hb hp)) (fun b o' p' hb hn hp hq => Nat.lt_irrefl _ (H1.frm b o' p' hb hn hp _ hq).1) ⟨rec, rfl, ?_⟩ ?_
    · rw [← hrec]; exact hh
    · show ∃ st pe, (W.alloc (.loop rec)).heap[W.heap.size]? = some (.loop { rec with state := st, pending := pe })
      exact ⟨_, _, hh.trans (congrArg (fun r => some (Obj.loop r)) hrec)⟩
  cases ρ with
  | none =>
    refine ⟨_, _, _, ⟨w.heap.size, 0, undef, .dfr⟩, { state := .ready, pending := none, fn := fn, tmps := tmps, params := ps, assign := x, body := y, defers := w.heap.size }, run_enterLoop_outer fn tmps ps x y, rfl, rfl, rfl, rfl, rfl, ?_, fun ds hds => ?_⟩
    · have H1 : HInv g.ro base w0 E h (w.alloc (.deferred (some []))) := H.world ((Below.refl _ _).alloc (Nat.le_refl _) _)
      have H2 := H1.pushDead ⟨w.heap.size, 0, undef, .dfr⟩ (heap_alloc_new w _)
      have := lay _ _ _ { state := .ready, pending := none, fn := fn, tmps := tmps, params := ps, assign := x, body := y, defers := w.heap.size } H2 rfl rfl
      rwa [World.size_alloc] at this
    · refine Marks.cons (i := E.length) (p := ⟨w.heap.size, 0, undef, .dfr⟩) (fun q hq hk e => ?_) ?_ rfl H.size (fun d hd e => ?_) (hds.ext ?_)
      · obtain ⟨i, hi⟩ := List.getElem?_of_mem hq
        have := (H.pin i q (getElem?_prefix hE0 hi)).lt (by rw [hk]; simp)
        have e : q.1 = w.heap.size := e
        omega
      · rw [List.append_assoc, List.getElem?_append_right (Nat.le_refl _)]
        simp
      · obtain ⟨D, h1, h2⟩ := hds.lt H.pin d hd
        rw [h1] at e
        cases e
        exact Nat.lt_irrefl _ h2
      · rw [List.append_assoc]
        exact List.prefix_append _ _
  | some l =>
    obtain ⟨i, p, L, h1, rfl, h3⟩ := hρ _ rfl
    have hpin := H.pin i p h1
    unfold PinOK at hpin
    rw [h3] at hpin
    obtain ⟨st, pe, hL⟩ := hpin
    refine ⟨_, _, _, ⟨0, 0, undef, .no⟩, { state := .ready, pending := none, fn := fn, tmps := tmps, params := ps, assign := x, body := y, defers := L.defers }, run_enterLoop_inner hL fn tmps ps x y, rfl, rfl, rfl, rfl, rfl, ?_, fun ds hds => hds.ext (by rw [List.append_assoc]; exact List.prefix_append _ _)⟩
    exact lay _ _ _ _ (H.pushDead ⟨0, 0, undef, .no⟩ trivial) rfl rfl

theorem putPs_rel {E : Env} : ∀ (ps : List Tmp) (as t t' : List RV), putPs ps as t = some t' → ∀ (vs : List Value) (tm : Array Value), All2 (VRel E) as vs → All2 (VRel E) t tm.toList →
    vs.length = ps.length ∧ All2 (VRel E) t' ((ps.zip vs).foldl (fun tm pv => tm.setIfInBounds pv.1 pv.2) tm).toList
  | [], as, t, t', h, vs, tm, ha, ht => by
    cases as with
    | cons x as => cases h
    | nil =>
      cases h
      cases ha
      exact ⟨rfl, ht⟩
  | p :: ps, as, t, t', h, vs, tm, ha, ht => by
    cases as with
    | nil => cases h
    | cons x as =>
      have h : (setL t p x fun t => putPs ps as t) = some t' := h
      rw [setL_eq] at h
      cases ha with
      | cons r ha =>
        obtain ⟨h1, h2⟩ := putPs_rel ps as _ t' h _ (tm.setIfInBounds p _) ha (by simpa using ht.set p r)
        exact ⟨by simp [h1], h2⟩
theorem fnParts_rel {E : Env} {r : RV} {v : Value} {k : FuncId} {first cap : List RV} (h : fnParts r = some (k, first, cap)) (hr : VRel E r v) : ∃ fv cv, v = .func (.func k) fv cv ∧ All2 (VRel E) first fv.toList ∧ All2 (VRel E) cap cv.toList := by
  unfold fnParts at h
  split at h
  · cases h
    cases hr
    exact ⟨_, _, rfl, All2.pls _, All2.pls _⟩
  · cases h
    obtain ⟨a', c', rfl, h1, h2⟩ := hr
    exact ⟨a', c', rfl, VRels_iff.1 h1, VRels_iff.1 h2⟩
  · cases h

theorem YOK.mono {E1 : Env} {Y : YldF} (hE : E0 <+: E1) (h : YOK P g E0 Y) : YOK P g E1 Y := fun b args hh r h' hy base w0 E w vs hE1 => h b args hh r h' hy base w0 E w vs (hE.trans hE1)

/-- What exec does is done. -/
def ExecOK (P : Program) (g : Cfg) (E0 : Env) (rf : Bool) (ih : ExF) : Prop := ∀ (c : Code) (s : St) (ex : Ex) (s' : St) (base : Nat) (w0 : World) (E : Env) (a : Act) (w : World) (ρ : Option Nat) (Q : Exit → Act → World → Prop), ih c s = some (ex, s') → RhoOK ρ E → SimM g base w0 E0 s E a w →
  (∀ E' a' w', E <+: E' → SimM g base w0 E0 s' E' a' w' → (rf = false → a'.defers = a.defers) → Q ex.toExit a' w') → c.wpIn (FrR ρ) 0 P Q a w

/-- A round of a loop. -/
theorem round_ok0 {Q : Ending → World → Prop} {rf : Bool} {ih : ExF} (hI : ExecOK P g E0 rf ih) {E1 : Env} (hE1 : E0 <+: E1) {L : Nat} {l : Nat} {rec : Loop} (hp : E1[L]? = some (⟨l, 0, undef, .loop rec⟩ : EP)) {t : List RV} (ht : All2 (VRel E1) t rec.tmps.toList) {args : List RV} {h : RH} {r : RV} {h' : RH}
    (hy : yldRound ih rec.params.toList rec.assign rec.body L t args h = some (r, h')) (base : Nat) (w0 : World) (E : Env) (w : World) (vs : List Value) (hE : E1 <+: E) (H : HInv g.ro base w0 E h w) (ha : All2 (VRel E) args vs) (hQ : ∀ e w', Done g base w0 E r h' e w' → Q e w') :
    ∃ p Lr, E[L]? = some p ∧ w.heap[p.1]? = some (.loop Lr) ∧ vs.toArray.size = Lr.params.size ∧
      RoundIn Fence.wide 0 P p.1 Lr.fn ((Lr.params.zip vs.toArray).foldl (fun tmps (t, a) => tmps.setIfInBounds t a) Lr.tmps) Lr.assign Lr.body w Q := by
  have hpE := getElem?_prefix hE hp
  have hpin := H.pin L _ hpE
  obtain ⟨st, pe, hL⟩ : ∃ st pe, w.heap[l]? = some (.loop { rec with state := st, pending := pe }) := hpin
  unfold yldRound at hy
  split at hy
  · rename_i t1 ht1
    obtain ⟨hlen, hrel⟩ := putPs_rel _ _ _ _ ht1 vs rec.tmps ha (ht.ext hE)
    refine ⟨_, _, hpE, hL, by simpa using hlen, ?_⟩
    have hfold : ((rec.params.zip vs.toArray).foldl (fun tmps (t, a) => tmps.setIfInBounds t a) rec.tmps) = (rec.params.toList.zip vs).foldl (fun tm pv => tm.setIfInBounds pv.1 pv.2) rec.tmps := by
      rw [← Array.foldl_toList, Array.toList_zip]
    split at hy
    · rename_i s1 hs1
      refine roundIn_of_wpIn (F := Fence.wide) (l := l) trivial ?_
      refine hI rec.assign ⟨t1, h⟩ .normal s1 base w0 E _ w (some l) _ hs1 (fun l' hl' => by cases hl'; exact ⟨L, _, rec, hpE, rfl, rfl⟩) ⟨?_, .nil, H, hE1.trans hE⟩ fun E2 a2 w2 hE2 S2 _ => ?_
      · show All2 (VRel E) t1 ((rec.params.zip vs.toArray).foldl (fun tmps (t, a) => tmps.setIfInBounds t a) rec.tmps).toList
        rw [hfold]
        exact hrel
      · show ∃ w₂, (Instr.beginRound l).run P w2 = .ok () w₂ ∧ rec.body.wpIn (FrR (some l)) 0 P (roundPost P l Q) a2 w₂
        unfold yldBody at hy
        split at hy
        · rename_i pe2 hl2
          rw [lkp_eq] at hl2
          have hpE2 := getElem?_prefix hE2 hpE
          obtain ⟨p0, k1, _, L0, k3, k4⟩ := S2.h.blk1 L _ hl2 rfl
          rw [hpE2] at k1
          cases k1
          cases k3
          refine ⟨_, run_beginRound k4 rfl, ?_⟩
          rw [setL_eq] at hy
          have H3 := S2.h.setLp hl2 hpE2 rfl (some (.lp 1 pe2)) .busy (pe2.map exCode) (.inr ⟨1, pe2, rfl, rfl, rfl⟩)
          split at hy
          · rename_i ex s3 hs3
            refine hI rec.body ⟨s1.t, s1.h.set L (some (.lp 1 pe2))⟩ ex s3 base w0 E2 a2 _ (some l) _ hs3 (fun l' hl' => by cases hl'; exact ⟨L, _, rec, hpE2, rfl, rfl⟩) ⟨S2.t, S2.d, H3, S2.e⟩ fun E4 a4 w4 hE4 S4 _ => ?_
            split at hy
            · rename_i pe4 hl4
              rw [lkp_eq] at hl4
              have hpE4 := getElem?_prefix hE4 hpE2
              obtain ⟨p0, k1, _, L0, k3, k5⟩ := S4.h.blk1 L _ hl4 rfl
              rw [hpE4] at k1
              cases k1
              cases k3
              have fin : ∀ (jump : Option Code) (x : RO) (v : Bool), jump.isNone = v → (∃ st' pe', x = .lp st' pe' ∧ (if jump.isNone then LoopState.ready else .done) = lpSt st' ∧ jump = pe'.map exCode) → some (RV.pl (.bool v), s3.h.set L (some x)) = some (r, h') →
                  ∃ v w', (Instr.endRound l jump).run P w4 = .ok v w' ∧ Q (.returned v) w' := by
                intro jump x v hv ⟨st', pe', hx1, hx2, hx3⟩ hr
                cases hr
                have H5 := S4.h.setLp hl4 hpE4 rfl (some x) (if jump.isNone then LoopState.ready else .done) jump (.inr ⟨st', pe', by rw [hx1], hx2, hx3⟩)
                exact ⟨_, _, run_endRound jump k5, hQ _ _ ⟨.bool jump.isNone, E4, rfl, hE2.trans hE4, by rw [← hv]; rfl, H5⟩⟩
              split at hy
              · rw [setL_eq] at hy
                exact fin none (.lp 0 none) true rfl ⟨0, none, rfl, rfl, rfl⟩ hy
              · rename_i hne
                rw [setL_eq] at hy
                have := fin (some (exCode ex)) (.lp 2 (some ex)) false rfl ⟨2, some ex, rfl, rfl, rfl⟩ hy
                cases ex with
                | normal => exact absurd rfl hne
                | exit id => exact this
                | ret => exact this
            · cases hy
          · cases hy
        · cases hy
    · cases hy
  · cases hy
theorem round_ok {rf : Bool} {ih : ExF} (hI : ExecOK P g E0 rf ih) {E1 : Env} (hE1 : E0 <+: E1) {L : Nat} {l : Nat} {rec : Loop} (hp : E1[L]? = some (⟨l, 0, undef, .loop rec⟩ : EP)) {t : List RV} (ht : All2 (VRel E1) t rec.tmps.toList) {args : List RV} {h : RH} {r : RV} {h' : RH}
    (hd : trimC h (yldRound ih rec.params.toList rec.assign rec.body L t args h) = some (r, h')) (base : Nat) (w0 : World) (E : Env) (w : World) (vs : List Value) (hE : E1 <+: E) (H : HInv g.ro base w0 E h w) (ha : All2 (VRel E) args vs) :
    ∃ p Lr, E[L]? = some p ∧ w.heap[p.1]? = some (.loop Lr) ∧ vs.toArray.size = Lr.params.size ∧
      RoundIn Fence.wide 0 P p.1 Lr.fn ((Lr.params.zip vs.toArray).foldl (fun tmps (t, a) => tmps.setIfInBounds t a) Lr.tmps) Lr.assign Lr.body w (Done g base w0 E r h') := by
  cases hc : yldRound ih rec.params.toList rec.assign rec.body L t args h with
  | none => rw [hc] at hd; cases hd
  | some x =>
    obtain ⟨r0, h2⟩ := x
    rw [hc] at hd
    have hd : trim1 h r0 h2 = (r, h') := Option.some.inj hd
    exact round_ok0 hI hE1 hp ht hc base w0 E w vs hE H ha fun e w' hD => trim1_ok hd H hD


/-- A loop over a function. -/
theorem range_ok (hC : GoodC P g E0 C) {rf : Bool} {ih : ExF} (hI : ExecOK P g E0 rf ih) {f : Operand} {ps : Array Tmp} {x y : Code} {s : St} {ex : Ex} {s' : St} {base : Nat} {w0 : World} {E : Env} {a : Act} {w : World} {ρ : Option Nat} {Q : Exit → Act → World → Prop}
    (h : xRange P C ih f ps x y s = some (ex, s')) (hρ : RhoOK ρ E) (S : SimM g base w0 E0 s E a w) (hQ : ∀ E' a' w', E <+: E' → SimM g base w0 E0 s' E' a' w' → Q ex.toExit a' w') : (Code.rangeFunc f ps x y).wpIn (FrR ρ) 0 P Q a w := by
  unfold xRange at h
  split at h
  · rename_i k first cap hparts
    obtain ⟨fv, cv, hev, hfirst, hcap⟩ := fnParts_rel hparts (ev_rel S.t f)
    split at h
    · rename_i hbody
      simp only [fNat_eq, fSpine_eq] at h
      split at h
      · rename_i r h2 hcall
        rw [fList_eq _ (fun x k => fRO_eq x k)] at h
        refine wpIn_rangeFunc fun fn _ => ?_
        obtain ⟨l, mark, w1, pd, rec, henter, r1, r2, r3, r4, r5, H1, hM⟩ := enter_ok (P := P) S.h ρ hρ S.e fn a.tmps ps x y
        have hEE : E <+: E ++ [pd] ++ [(⟨l, 0, undef, .loop rec⟩ : EP)] := by rw [List.append_assoc]; exact List.prefix_append _ _
        generalize hE1 : E ++ [pd] ++ [(⟨l, 0, undef, .loop rec⟩ : EP)] = E1 at H1 hM hEE
        have hpL : E1[s.h.length + 1]? = some (⟨l, 0, undef, .loop rec⟩ : EP) := by
          rw [← hE1, List.getElem?_append_right (by simp [S.h.len])]
          simp [S.h.len]
        refine ⟨l, mark, w1, { target := .fn (.func k) cv, args := fv ++ #[.func (.yield l) #[] #[]] }, w1, k, fv ++ #[.func (.yield l) #[] #[]] ++ cv, w1, henter, ?_, fun _ _ => trivial, ?_, fr_depth ρ 0, ?_⟩
        · simp only [resolve, hev]
          simp [go_sem]
        · show (callFunc k (fv ++ #[.func (.yield l) #[] #[]] ++ cv)).run P w1 = _
          exact isBody_true hbody _ w1
        · have hY : YOK P g E1 (fun b args h => match Nat.beq b (s.h.length + 1) with | true => fList fRV args fun args => trimC h (yldRound ih ps.toList x y (s.h.length + 1) s.t args h) | false => C.Y b args h) := by
            intro b args hh r' h' hy base' w0' E' w' vs hE' H' ha'
            simp only at hy
            split at hy
            · rename_i hb
              obtain rfl := Nat.eq_of_beq_eq_true hb
              rw [fList_eq _ (fun x k => fRV_eq x k)] at hy
              rw [← r3, ← r4, ← r5] at hy
              exact round_ok hI (S.e.trans hEE) hpL (by rw [r2]; exact S.t.ext hEE) hy base' w0' E' w' vs hE' H' ha'
            · exact hC.y b args hh r' h' hy base' w0' E' w' vs ((S.e.trans hEE).trans hE') H' ha'
          have hargs : All2 (VRel E1) (first ++ [.yld (s.h.length + 1)] ++ cap) (fv ++ #[Value.func (.yield l) #[] #[]] ++ cv).toList := by
            simp only [Array.toList_append]
            have hy1 : VRel E1 (.yld (s.h.length + 1)) (Value.func (.yield l) #[] #[]) := ⟨_, hpL, rfl⟩
            exact ((hfirst.ext hEE).append (.cons hy1 .nil)).append (hcap.ext hEE)
          have hh1 : s.h ++ [none] ++ [some (.lp 0 none)] = s.h ++ [none, some (.lp 0 none)] := by simp
          rw [hh1] at H1
          have hcalls := hC.all E1 _ hY _ _ _ _ _ hcall base w0 E1 w1 _ (List.prefix_refl E1) H1 hargs
          rw [Array.toArray_toList] at hcalls
          refine callsIn_fr (hcalls.mono fun e w3 ⟨u, E3, he, hE3, hv, H3⟩ => ?_)
          subst he
          have hpL3 := getElem?_prefix hE3 hpL
          unfold xEnd at h
          have fin : ∀ (st : Nat) (pe : Option Ex), lkp h2 (s.h.length + 1) = some (.lp st pe) → lpSt st ≠ .busy → (∀ w4, HInv g.ro base w0 E3 (h2.set (s.h.length + 1) none) w4 → (match pe.map exCode with
              | none => Q .normal { a with defers := mark ++ a.defers } w4
              | some c => c.wpIn (FrR ρ) 0 P Q { a with defers := mark ++ a.defers } w4)) → rangePost (FrR ρ) 0 P l Q { a with defers := mark ++ a.defers } (.returned u) w3 := by
            intro st pe hl hst hw
            rw [lkp_eq] at hl
            obtain ⟨p0, k1, _, L0, k3, k4⟩ := H3.blk1 _ _ hl rfl
            rw [hpL3] at k1
            cases k1
            cases k3
            exact ⟨_, _, run_endLoop k4 hst, hw _ (H3.setLp hl hpL3 rfl none .exhausted (pe.map exCode) (.inl rfl))⟩
          have sim : ∀ w4, HInv g.ro base w0 E3 (h2.set (s.h.length + 1) none) w4 → SimM g base w0 E0 ⟨s.t, h2.set (s.h.length + 1) none⟩ E3 { a with defers := mark ++ a.defers } w4 := fun w4 H4 =>
            ⟨S.t.ext (hEE.trans hE3), (hM _ S.d).ext hE3, H4, (S.e.trans hEE).trans hE3⟩
          split at h
          · rename_i hl
            rw [setL_eq] at h
            cases h
            exact fin 0 none hl (by simp [lpSt]) fun w4 H4 => hQ E3 _ w4 (hEE.trans hE3) (sim w4 H4)
          · rename_i ex' hl
            rw [setL_eq] at h
            cases h
            refine fin 2 (some ex) hl (by simp [lpSt]) fun w4 H4 => ?_
            have hq := hQ E3 _ w4 (hEE.trans hE3) (sim w4 H4)
            cases ex with
            | normal => exact wpIn_skip hq
            | exit id => exact wpIn_exit hq
            | ret => exact wpIn_ret hq
          · cases h
      · cases h
    · cases h
  · cases h

theorem exec_ok (hm : P.follows .mixedOrders = true) (G : CfgOK P g) (hC : GoodC P g E0 C) (hX : XOK P g) : ∀ (n : Nat) (rf : Bool),
    ExecOK P g E0 rf (exec P g C rf n) ∧
    (∀ (b : Code) (s : St) (ex : Ex) (s' : St) (base : Nat) (w0 : World) (E : Env) (a : Act) (w : World) (ρ : Option Nat) (Q : Exit → Act → World → Prop), exec P g C rf n (.loop b) s = some (ex, s') → RhoOK ρ E → SimM g base w0 E0 s E a w →
      (∀ E' a' w', E <+: E' → SimM g base w0 E0 s' E' a' w' → (rf = false → a'.defers = a.defers) → Q ex.toExit a' w') → Code.roundsIn (FrR ρ) 0 P b Q n a w)
  | 0, _ => ⟨fun _ _ _ _ _ _ _ _ _ _ _ h => (by cases h), fun _ _ _ _ _ _ _ _ _ _ _ h => (by cases h)⟩
  | n + 1, rf => by
    obtain ⟨ih1, ih2⟩ := exec_ok hm G hC hX n rf
    obtain ⟨ih0, _⟩ := exec_ok hm G hC hX n false
    -- what a run that may go on leaves
    have go : ∀ (r : Option (Ex × St)) (y : Code) (s : St) (ex : Ex) (s' : St), xSeq (exec P g C rf n) y r = some (ex, s') →
        (∃ s1, r = some (.normal, s1) ∧ exec P g C rf n y s1 = some (ex, s')) ∨ (ex ≠ .normal ∧ r = some (ex, s')) := by
      intro r y s ex s' h
      unfold xSeq at h
      split at h
      · exact .inl ⟨_, rfl, h⟩
      · rename_i hne
        refine .inr ⟨fun e => ?_, h⟩
        subst e
        exact hne s' h
    have loop : ∀ (b : Code) (s : St) (ex : Ex) (s' : St) (base : Nat) (w0 : World) (E : Env) (a : Act) (w : World) (ρ : Option Nat) (Q : Exit → Act → World → Prop), exec P g C rf (n + 1) (.loop b) s = some (ex, s') → RhoOK ρ E → SimM g base w0 E0 s E a w →
        (∀ E' a' w', E <+: E' → SimM g base w0 E0 s' E' a' w' → (rf = false → a'.defers = a.defers) → Q ex.toExit a' w') → Code.roundsIn (FrR ρ) 0 P b Q (n + 1) a w := by
      intro b s ex s' base w0 E a w ρ Q h hρ S hQ
      rw [exec_succ] at h
      have h : xSeq (exec P g C rf n) (.loop b) (exec P g C rf n b s) = some (ex, s') := h
      rw [roundsIn_succ]
      rcases go _ _ s _ _ h with ⟨s1, h1, h2⟩ | ⟨hne, h1⟩
      · exact ih1 b s .normal s1 base w0 E a w ρ _ h1 hρ S fun E' a' w' hE S' hd => ih2 b s1 ex s' base w0 E' a' w' ρ Q h2 (hρ.ext hE) S' fun E2 a2 w2 hE2 S2 hd2 => hQ E2 a2 w2 (hE.trans hE2) S2 fun hr => (hd2 hr).trans (hd hr)
      · refine ih1 b s ex s' base w0 E a w ρ _ h1 hρ S fun E' a' w' hE S' hd => ?_
        have := hQ E' a' w' hE S' hd
        cases ex with
        | normal => exact absurd rfl hne
        | exit id => exact this
        | ret => exact this
    refine ⟨?_, loop⟩
    intro c s ex s' base w0 E a w ρ Q h hρ S hQ
    cases c with
    | skip => cases h; exact wpIn_skip (hQ E a w (List.prefix_refl E) S fun _ => rfl)
    | label l => cases h; exact wpIn_label (hQ E a w (List.prefix_refl E) S fun _ => rfl)
    | region id ops draw =>
      cases draw with
      | false =>
        have h : xRegion P g C ops s = some (ex, s') := h
        unfold xRegion at h
        split at h
        · rename_i s1 h1
          cases h
          exact wpIn_region_list (runOps_ok G hC hX ρ ops.toList s s' E a w S h1 fun E' a' w' hE S' hd => hQ E' a' w' hE S' fun _ => hd)
        · cases h
      | true =>
        have h : xDraw P g C ops s = some (ex, s') := h
        unfold xDraw at h
        split at h
        · rename_i s1 h1
          cases h
          exact runD_ok hm G hC hX ρ S h1 fun E' a' w' hE S' hd => hQ E' a' w' hE S' fun _ => hd
        · cases h
    | seq x y =>
      have h : xSeq (exec P g C rf n) y (exec P g C rf n x s) = some (ex, s') := h
      rcases go _ _ s _ _ h with ⟨s1, h1, h2⟩ | ⟨hne, h1⟩
      · exact wpIn_seq (ih1 x s .normal s1 base w0 E a w ρ _ h1 hρ S fun E' a' w' hE S' hd => ih1 y s1 ex s' base w0 E' a' w' ρ Q h2 (hρ.ext hE) S' fun E2 a2 w2 hE2 S2 hd2 => hQ E2 a2 w2 (hE.trans hE2) S2 fun hr => (hd2 hr).trans (hd hr))
      · refine wpIn_seq (ih1 x s ex s' base w0 E a w ρ _ h1 hρ S fun E' a' w' hE S' hd => ?_)
        have := hQ E' a' w' hE S' hd
        cases ex with
        | normal => exact absurd rfl hne
        | exit id => exact this
        | ret => exact this
    | cond x p q =>
      have h : xCond g (exec P g C rf n) (exec P g C false n) p q s (ev s.t x) = some (ex, s') := h
      have hx := ev_rel S.t x
      unfold xCond at h
      split at h
      · rename_i b hb
        rw [hb] at hx
        exact wpIn_cond hx (ih1 _ s ex s' base w0 E a w ρ Q h hρ S hQ)
      · rename_i i hb
        rw [hb] at hx
        split at h
        · rename_i b hq
          obtain ⟨_, f1, _, c, e1, e2⟩ := tlook_true hX.t hq
          have hx2 : a.eval x = .bool c := (cv_rel f1 hx).trans e1
          have e3 : b = c := by simpa [cv] using e2
          subst e3
          exact wpIn_cond hx2 (ih1 _ s ex s' base w0 E a w ρ Q h hρ S hQ)
        · unfold xJoin at h
          split at h
          · rename_i e he
            obtain ⟨hmem, hei⟩ := jlook_mem he
            have hJ := hX.t.j e hmem
            split at h
            · rename_i sA sB hA hB
              split at h
              · rename_i z hz
                rw [fList_eq _ (fun x k => fRV_eq x k), fList_eq _ (fun x k => fRO_eq x k)] at h
                cases h
                obtain ⟨RA, RB, z0, rfl, f1, f2⟩ := joinS_spec hz
                have hlen := S.h.len
                have fin : ∀ {qv ql R s2 E2 a2 w2}, QOK qv ql → fitJ qv ql s.h.length R s2 z0 = true → E <+: E2 → SimM g base w0 E0 s2 E2 a2 w2 → a2.defers = a.defers → Q .normal a2 w2 := by
                  intro qv ql R s2 E2 a2 w2 hq hf hE S2 hd
                  obtain ⟨E3, hE3, S3⟩ := fitJ_ok hq hf (by rw [hlen]; exact hE.length_le) S2.T
                  have hpre : E <+: E3 := by
                    obtain ⟨t, rfl⟩ := hE
                    rw [hlen, List.take_left'  rfl] at hE3
                    exact hE3
                  exact hQ E3 a2 w2 hpre ⟨S3.t, by rw [hd]; exact S.d.ext hpre, S3.h, S.e.trans hpre⟩ fun _ => hd
                have hx3 : a.eval x = .bool (Val.B i) := hx
                cases hb : Val.B i with
                | true =>
                  rw [hb] at hx3
                  refine wpIn_cond hx3 (ih0 p s .normal sA base w0 E a w ρ Q hA hρ S fun E2 a2 w2 hE S2 hd => ?_)
                  exact fin (hJ.a (by rw [hei]; exact hb)) f1 hE S2 (hd rfl)
                | false =>
                  rw [hb] at hx3
                  refine wpIn_cond hx3 (ih0 q s .normal sB base w0 E a w ρ Q hB hρ S fun E2 a2 w2 hE S2 hd => ?_)
                  exact fin (hJ.b (by rw [hei]; exact hb)) f2 hE S2 (hd rfl)
              · cases h
            · cases h
          · cases h
      · cases h
    | block id b =>
      have h : xBlock id (exec P g C rf n b s) = some (ex, s') := h
      unfold xBlock at h
      split at h
      · rename_i i s1 h1
        refine wpIn_block (ih1 b s _ s1 base w0 E a w ρ _ h1 hρ S fun E' a' w' hE S' hd => ?_)
        show if i = id then Q .normal a' w' else Q (.exit i) a' w'
        split at h
        · rename_i hi
          rw [if_pos hi]
          cases h
          exact hQ E' a' w' hE S' hd
        · rename_i hi
          rw [if_neg hi]
          cases h
          exact hQ E' a' w' hE S' hd
      · rename_i hne
        refine wpIn_block (ih1 b s ex s' base w0 E a w ρ _ h hρ S fun E' a' w' hE S' hd => ?_)
        have := hQ E' a' w' hE S' hd
        cases ex with
        | normal => exact this
        | exit i => exact absurd h (hne i s')
        | ret => exact this
    | loop b => exact wpIn_loop_rounds (n + 1) (loop b s ex s' base w0 E a w ρ Q h hρ S hQ)
    | rangeFunc f ps x y =>
      cases rf with
      | false => cases h
      | true => exact range_ok hC ih1 h hρ S fun E' a' w' hE S' => hQ E' a' w' hE S' (fun e => by cases e)
    | exit id => cases h; exact wpIn_exit (hQ E a w (List.prefix_refl E) S fun _ => rfl)
    | scope b =>
      have h : exec P g C rf n b s = some (ex, s') := h
      refine wpIn_scope_straight (ih1 b s ex s' base w0 E a w ρ _ h hρ S fun E' a' w' hE S' hd => ?_)
      have := hQ E' a' w' hE S' hd
      cases ex <;> exact this
    | goto l => cases h
    | ret => cases h; exact wpIn_ret (hQ E a w (List.prefix_refl E) S fun _ => rfl)
    | refuse why => cases h

/-- The same for code without a loop over a function. -/
theorem exec_okS (hm : P.follows .mixedOrders = true) (G : CfgOK P g) {C : CallF} (hC : CallOK P g C) (hX : XOK P g) (n : Nat) (c : Code) (s : St) (ex : Ex) (s' : St) {base : Nat} {w0 : World} (E : Env) (a : Act) (w : World) (Q : Exit → Act → World → Prop) (h : exec P g (liftC C) false n c s = some (ex, s')) (S : Sim g base w0 s E a w)
    (hQ : ∀ E' a' w', E <+: E' → Sim g base w0 s' E' a' w' → Q ex.toExit a' w') : c.wp P Q a w :=
  (wpIn_wide (n := 0)).1 ((exec_ok hm G (GoodC.lift (E0 := []) hC) hX n false).1 c s ex s' base w0 E a w none Q h (RhoOK.none E) S.M fun E' a' w' hE S' hd => hQ E' a' w' hE (S'.S ((hd rfl).trans S.d)))

/-- One result. -/
def resSem (tmps : Array Value) : ResultVar → Sem Value
  | .tmp t => pure (tmps.getD t undef)
  | .cell a t => do loadVar t (← asAddr (tmps.getD a undef))

theorem getD_rel {E : Env} {t : List RV} {tmps : Array Value} (ht : All2 (VRel E) t tmps.toList) (i : Nat) : VRel E (t.getD i (.pl undef)) (tmps.getD i undef) := by
  have h := ev_rel (a := ⟨tmps, []⟩) ht (.tmp i)
  have e : ev t (.tmp i) = t.getD i (.pl undef) := nth_eq t i
  rw [e] at h
  exact h

theorem resultR_ok {E : Env} {base : Nat} {w0 : World} {s : St} {tmps : Array Value} {w : World} (ht : All2 (VRel E) s.t tmps.toList) (H : HInv g.ro base w0 E s.h w) {r : ResultVar} {v : RV} (hs : resultR P g s r = some v) :
    ∃ u, VRel E v u ∧ (resSem tmps r).run P w = .ok u w := by
  cases r with
  | tmp t =>
    cases hs
    exact ⟨_, getD_rel ht t, rfl⟩
  | cell ad ty =>
    have hs : loadOp P g.ro s.h ty (s.t.getD ad (.pl undef)) = some v := hs
    obtain ⟨u, hu, hrun⟩ := fit_load H (getD_rel ht ad) hs
    refine ⟨u, hu, ?_⟩
    obtain ⟨x, hx⟩ : ∃ x, tmps.getD ad undef = x := ⟨_, rfl⟩
    rw [hx] at hrun
    show (do loadVar ty (← asAddr (tmps.getD ad undef)) : Sem Value).run P w = _
    rw [hx]
    cases x with
    | pointer p =>
      cases p with
      | some q => simpa [Instr.loadAt, Instr.sureAddr, asAddr] using hrun
      | none => simp [Instr.loadAt, Instr.sureAddr] at hrun
    | _ => simp [Instr.loadAt, Instr.sureAddr] at hrun

theorem resultsR_ok {E : Env} {base : Nat} {w0 : World} {s : St} {tmps : Array Value} {w : World} (ht : All2 (VRel E) s.t tmps.toList) (H : HInv g.ro base w0 E s.h w) : ∀ (rs : List ResultVar) (vs : List RV), resultsR P g s rs = some vs →
    ∃ us, All2 (VRel E) vs us ∧ (rs.mapM (resSem tmps)).run P w = .ok us w
  | [], vs, h => by cases h; exact ⟨[], .nil, rfl⟩
  | r :: rs, vs, h => by
    unfold resultsR at h
    split at h
    · rename_i v vs' h1 h2
      cases h
      obtain ⟨u, hu, hr⟩ := resultR_ok ht H h1
      obtain ⟨us, hus, hrs⟩ := resultsR_ok ht H rs vs' h2
      refine ⟨u :: us, .cons hu hus, ?_⟩
      rw [List.mapM_cons]
      simp [hr, hrs]
    · cases h

omit [Val] in
theorem results_run {fn : Func} {tmps : Array Value} {w : World} {us : List Value} (h : (fn.results.toList.mapM (resSem tmps)).run P w = .ok us w) :
    (results fn tmps).run P w = .ok (match us with | [u] => u | us => .tuple us.toArray) w := by
  have e : results fn tmps = (do
      let vs ← fn.results.mapM (resSem tmps)
      pure (if h : vs.size = 1 then vs[0] else .tuple vs)) := by
    unfold results
    congr 1
  rw [e, Array.mapM_eq_mapM_toList]
  simp only [Sem.run_bind, Sem.run_map, h, Result.andThen_ok, Sem.run_pure]
  rcases us with _ | ⟨u, _ | ⟨v, us⟩⟩ <;> simp

omit [Val] in
theorem callY_succ (m n : Nat) (Y : YldF) (f : FuncId) (args : List RV) (h : RH) : callY P g m (n + 1) Y f args h = cStep P g m ⟨callY P g m n, Y⟩ f args h := rfl

/-- Several answers as one. -/
noncomputable def tupR : List RV → RV
  | [v] => v
  | vs => mkTup vs
/-- A function's way out, past the marks that its loops have left. -/
theorem leaves_ok {base : Nat} {w0 : World} {s : St} {fn : Func} {tmps : Array Value} {r : RV} {rvs : List RV} (hres : resultsR P g s fn.results.toList = some rvs) (hr : r = tupR rvs) :
    ∀ (ds : List Deferred) (E : Env) (w : World), E0 <+: E → All2 (VRel E) s.t tmps.toList → HInv g.ro base w0 E s.h w → Marks base E0 E ds → LeavesInM Fence.wide 0 P fn tmps (Done g base w0 E0 r s.h) ds .returning w
  | [], E, w, hE, ht, H, _ => by
    obtain ⟨us, hus, hrun⟩ := resultsR_ok ht H _ _ hres
    have hrun := results_run hrun
    refine ⟨_, hrun, _, E, rfl, hE, ?_, H⟩
    subst hr
    cases hus with
    | nil => exact mkTup_rel .nil
    | cons h1 hrest =>
      cases hrest with
      | nil => exact h1
      | cons h2 hrest => exact mkTup_rel (.cons h1 (.cons h2 hrest))
  | d :: ds, E, w, hE, ht, H, hM => by
    cases hM with
    | cons h1 h2 h3 hb h4 h5 =>
      rename_i i p
      have h0 : w.heap[p.1]? = some (.deferred (some [])) := by have := H.pin i p h2; unfold PinOK at this; rwa [h3] at this
      obtain ⟨H', hS⟩ := H.unpin h2 h3 hb
      refine ⟨by simp, .inl ⟨p.1, _, rfl, run_takeDeferred h0, ?_⟩⟩
      have hmap : E0.map (unD p.1) = E0 := unD_map h1
      refine leaves_ok hres hr ds _ _ ?_ (ht.mono fun r v => VRel.sameB hS r v) H' ?_
      · rw [← hmap]
        exact hE.map _
      · have : ∀ ds, (∀ d ∈ ds, d.target ≠ .collected p.1) → Marks base E0 E ds → Marks base E0 (E.map (unD p.1)) ds := by
          intro ds hn hM
          induction hM with
          | nil => exact .nil
          | @cons j q ds' g1 g2 g3 gb g4 _ ih =>
            have hne : q.1 ≠ p.1 := fun e => hn _ List.mem_cons_self (by rw [e])
            exact .cons g1 (by rw [List.getElem?_map, g2]; show some (unD p.1 q) = _; rw [unD_of fun _ => hne]) g3 gb g4 (ih fun d hd => hn d (List.mem_cons_of_mem _ hd))
        exact this ds h4 h5

theorem callY_ok (hm : P.follows .mixedOrders = true) (G : CfgOK P g) (hX : XOK P g) (m : Nat) : ∀ n E0 Y, YOK P g E0 Y → CallOKE P g E0 (callY P g m n Y)
  | 0, _, _, _ => fun _ _ _ _ _ h => by cases h
  | n + 1, E0, Y, hY => by
    intro f args h r h' hcall base w0 E w vs hE0 H ha
    have ih := callY_ok hm G hX m n
    rw [callY_succ] at hcall
    unfold cStep at hcall
    split at hcall
    · rename_i fn hf
      unfold cFn at hcall
      split at hcall
      · rename_i c hb
        rw [fList_eq _ (fun x k => fRV_eq x k)] at hcall
        unfold cBody at hcall
        rw [fSpine_eq] at hcall
        unfold cDone at hcall
        have hal := ha.length
        have ht : All2 (VRel E) (args ++ List.replicate (fn.ntmps - args.length) (.pl undef)) (vs.toArray ++ Array.replicate (fn.ntmps - vs.toArray.size) undef).toList := by
          simp only [Array.toList_append, Array.toList_replicate, List.size_toArray]
          rw [hal]
          exact ha.append (All2.replicate _ (show VRel E (.pl undef) undef from rfl))
        have hgood : GoodC P g E ⟨callY P g m n, Y⟩ := ⟨ih, YOK.mono hE0 hY⟩
        refine (callsIn_wide (n := 0)).1 (callsIn_of_wp_marks hf hb trivial ?_)
        have done : ∀ (ex : Ex) (s : St), exec P g ⟨callY P g m n, Y⟩ true m c ⟨args ++ List.replicate (fn.ntmps - args.length) (.pl undef), h⟩ = some (ex, s) → (ex = .normal ∨ ex = .ret) →
            (match resultsR P g s fn.results.toList with | some [v] => fRV v fun v => some (v, s.h) | some vs => fRV (mkTup vs) fun v => some (v, s.h) | none => none) = some (r, h') →
            c.wpIn Fence.wide 0 P (bodyPostM Fence.wide 0 P fn (Done g base w0 E r h')) { tmps := vs.toArray ++ Array.replicate (fn.ntmps - vs.toArray.size) undef, defers := [] } w := by
          intro ex s hex hor hres
          refine (exec_ok hm G hgood hX m true).1 c _ ex s base w0 E _ w none _ hex (RhoOK.none E) ⟨ht, .nil, H, List.prefix_refl E⟩ fun E' a' w' hE S' _ => ?_
          have key : LeavesInM Fence.wide 0 P fn a'.tmps (Done g base w0 E r h') a'.defers .returning w' := by
            cases hrr : resultsR P g s fn.results.toList with
            | none => rw [hrr] at hres; cases hres
            | some rvs =>
              rw [hrr] at hres
              have hrh : r = tupR rvs ∧ h' = s.h := by
                rcases rvs with _ | ⟨v, _ | ⟨v2, l⟩⟩ <;> simp only [fRV_eq] at hres <;> cases hres <;> exact ⟨rfl, rfl⟩
              rw [hrh.2]
              exact leaves_ok hrr hrh.1 a'.defers E' w' hE S'.t S'.h S'.d
          rcases hor with rfl | rfl
          · exact key
          · exact key
        split at hcall
        · cases hcall
        · rename_i ex s hne hex
          refine done ex s hex ?_ hcall
          cases ex with
          | normal => exact .inl rfl
          | exit id => exact (hne id rfl).elim
          | ret => exact .inr rfl
        · cases hcall
      · cases hcall
    · cases hcall
theorem call_ok (hm : P.follows .mixedOrders = true) (G : CfgOK P g) (hX : XOK P g) (m : Nat) : ∀ n, CallOK P g (call P g m n) := fun n f args h r h' hc base w0 E w vs H ha =>
  callY_ok hm G hX m n [] noY (noY_ok P g []) f args h r h' hc base w0 E w vs List.nil_prefix H ha

/-- A CLOSED CALL: what the interpreter answers from an empty heap, the program answers in every world in which the listed variables hold what they hold. -/
theorem closed_call (hm : P.follows .mixedOrders = true) (G : CfgOK P g) (hX : XOK P g) (m n : Nat) (f : FuncId) (vs : List Value) (v : Value) (h' : RH) (hc : call P g m n f (vs.map .pl) [] = some (.pl v, h')) (w : World) (hr : RoIn g.ro w) :
    Calls P f vs.toArray w (fun e w' => e = .returned v ∧ Below w.heap.size w w') :=
  (call_ok hm G hX m n f _ [] _ _ hc w.heap.size w [] w vs (HInv.start hr) (All2.pls vs)).mono fun e w' ⟨u, E', he, _, hv, H⟩ => ⟨by rw [he, show u = v from hv], H.below⟩

theorem all2_pl {E : Env} : ∀ {l vs : List Value}, All2 (VRel E) (l.map .pl) vs → vs = l
  | [], _, h => by cases h; rfl
  | v :: l, _, h => by
    cases h with
    | cons h1 h2 => rw [all2_pl h2, show _ = v from h1]
/-- A closed call that answers a fresh slice. -/
theorem fresh_call (hm : P.follows .mixedOrders = true) (G : CfgOK P g) (hX : XOK P g) (m n : Nat) (f : FuncId) (vs : List Value) (b k s : Nat) (l : List Value) (e : TypeId) (room : Bool) (h' : RH) (hc : call P g m n f (vs.map .pl) [] = some (.sl b 0 k s none, h'))
    (hb : lkp h' b = some (.cells (l.map .pl) e room false)) : FTrue P g.ro f vs ⟨l, k, s, e⟩ := by
  intro w hr
  refine (call_ok hm G hX m n f _ [] _ _ hc w.heap.size w [] w vs (HInv.start hr) (All2.pls vs)).mono fun x w' ⟨u, E', he, _, hv, H⟩ => ?_
  obtain ⟨p, q, h1, h2, h3, rfl⟩ := hv
  rw [lkp_eq] at hb
  obtain ⟨p', g1, g2, cur, fr, g3, g4, g5, _, g6⟩ := H.blk1 b _ hb rfl
  rw [h1] at g1
  cases g1
  have hlc := g5.length
  have hl := all2_pl g5
  refine ⟨p.1, cur, ?_, g2, ?_, ?_, ?_, H.below⟩
  · rw [he, h2]
    show Ending.returned (.slice (some ⟨p.1, 0, none⟩) k ((p.2 - 0) / s)) = _
    rw [g4, Nat.sub_zero]
  · exact ⟨fr, g3, by rw [g4]; exact g6 rfl⟩
  · show k ≤ cur.size / s
    have h3' : k ≤ q := h3
    rw [h2] at h3'
    rw [g4]
    exact h3'
  · show cur.toList.take l.length = l
    rw [List.length_map] at hl
    exact hl
/-- Blocks that are lent: what they hold from their start on. -/
def LentAt (E : Env) (w : World) (o : Option RO) (p : EP) : Prop := ∃ l e, o = some (.lent l e) ∧ BRel E p w (.lent l e) ∧ p.k = .no
theorem HInv.lent {ro : Ro} {w : World} (hr : RoIn ro w) {h : RH} {E : Env} (hl : All2 (LentAt E w) h E) : HInv ro w.heap.size w E h w := by
  refine ⟨Below.refl _ _, Nat.le_refl _, hl.length, fun k cs hk => hr k cs hk, fun b o hb => ?_, fun b b' o o' p p' hb hb' ho ho' => ?_, fun b o p hb hn => ?_, fun i p hp => ?_⟩
  rotate_right
  · have hlen := hl.length
    have hi := (List.getElem?_eq_some_iff.1 hp).1
    obtain ⟨q, hq, _, _, _, _, hk⟩ := hl.get i _ (List.getElem?_eq_getElem (by omega))
    rw [hp] at hq
    cases hq
    exact PinOK.of_no hk
  rotate_right
  · unfold at? at hb
    cases hx : h[b]? with
    | none => rw [hx] at hb; cases hb
    | some x =>
      rw [hx] at hb
      obtain ⟨p, hp, l, e, hxe, hB, _⟩ := hl.get b x hx
      subst hxe
      cases hb
      cases hn
  · unfold at? at hb
    cases hx : h[b]? with
    | none => rw [hx] at hb; cases hb
    | some x =>
      rw [hx] at hb
      obtain ⟨p, hp, l, e, hxe, hB, _⟩ := hl.get b x hx
      subst hxe
      cases hb
      exact ⟨p, hp, by rw [if_neg (by simp [RO.own])]; exact hB.heap_lt, hB⟩
  · unfold at? at hb
    cases hx : h[b]? with
    | none => rw [hx] at hb; cases hb
    | some x =>
      rw [hx] at hb
      obtain ⟨p, hp, l, e, hxe, hB, _⟩ := hl.get b x hx
      subst hxe
      cases hb
      cases ho
/-- A call over blocks that are lent. -/
theorem lent_call (hm : P.follows .mixedOrders = true) (G : CfgOK P g) (hX : XOK P g) (m n : Nat) (f : FuncId) (args : List RV) (h : RH) (r : RV) (h' : RH) (hc : call P g m n f args h = some (r, h')) (hfr : flat r = true) (w : World) (hr : RoIn g.ro w)
    (E : Env) (hl : All2 (LentAt E w) h E) (vs : List Value) (ha : All2 (VRel E) args vs) : Calls P f vs.toArray w (fun e w' => e = .returned (cvF r) ∧ Below w.heap.size w w') :=
  (call_ok hm G hX m n f _ h _ _ hc w.heap.size w E w _ (HInv.lent hr hl) ha).mono fun e w' ⟨u, E', he, _, hv, H⟩ => ⟨by rw [he, VRel.fn r u _ hv (rel_cvF hfr)], H.below⟩
theorem flats_cvF : ∀ l : List RV, l.all flat = true → All2 (VRel []) l (l.map cvF)
  | [], _ => .nil
  | r :: l, h => by
    simp only [List.all_cons, Bool.and_eq_true] at h
    exact .cons (rel_cvF h.1) (flats_cvF l h.2)
/-- A CALL WITH NAMES: what the interpreter answers by what is known of the names, the program answers for what they stand for. -/
theorem sym_call (hm : P.follows .mixedOrders = true) (G : CfgOK P g) (hX : XOK P g) (m n : Nat) (f : FuncId) (args : List RV) (r : RV) (h' : RH) (hc : call P g m n f args [] = some (r, h')) (hfa : args.all flat = true) (hfr : flat r = true) (w : World) (hr : RoIn g.ro w) :
    Calls P f (args.map cvF).toArray w (fun e w' => e = .returned (cvF r) ∧ Below w.heap.size w w') :=
  (call_ok hm G hX m n f _ [] _ _ hc w.heap.size w [] w _ (HInv.start hr) (flats_cvF args hfa)).mono fun e w' ⟨u, E', he, _, hv, H⟩ => ⟨by rw [he, VRel.fn r u _ hv (rel_cvF hfr)], H.below⟩
end
end Go.Ri
