/- An interpreter for calls whose arguments are closed or names, and its soundness: a part of the proofs. -/
import Derived.Test.YtedbdpaioikhgaaGreatDoorRiS11
import Derived.Scope
import Derived.LoopN
namespace Go.Ri
open Go Go.RowKit
variable [Val]

def RoIn (ro : Ro) (w : World) : Prop := ∀ k cs, ro.lookup k = some cs → k < w.heap.size ∧ ∃ cur e fr, w.heap[k]? = some (.cells cur e fr) ∧ cur.toList = cs

/-- What is said of a fresh slice. -/
def FTrue (P : Program) (ro : Ro) (f : FuncId) (vs : List Value) (q : FE) : Prop := ∀ w, RoIn ro w → Calls P f vs.toArray w (fun x w' => ∃ p cur, x = .returned (.slice (some ⟨p, 0, none⟩) q.n (cur.size / q.s)) ∧ w.heap.size ≤ p ∧ w'.heap[p]? = some (.cells cur q.e (0, 0)) ∧
  q.n ≤ cur.size / q.s ∧ cur.toList.take q.l.length = q.l ∧ Below w.heap.size w w')
/-- The closed answers are the answers. -/
structure XOK (P : Program) (g : Cfg) : Prop where
  f : ∀ f vs q, g.F f vs = some q → FTrue P g.ro f vs q
  x : ∀ f vs v, g.X f vs = some v → ∀ w, RoIn g.ro w → Calls P f vs.toArray w (fun e w' => e = .returned v ∧ Below w.heap.size w w')
  l : ∀ f ds r, g.L f ds = some r → flat r = true → ∀ base w0 E h w args vs, HInv g.ro base w0 E h w → deepArgs h args = some ds → All2 (VRel E) args vs → Calls P f vs.toArray w (fun e w' => (∃ u, e = .returned u ∧ VRel [] r u) ∧ Below w.heap.size w w')
  y : ∀ f args r, g.Y f args = some r → flat r = true → ∀ vs, All2 (VRel []) args vs → ∀ w, RoIn g.ro w → Calls P f vs.toArray w (fun e w' => (∃ u, e = .returned u ∧ VRel [] r u) ∧ Below w.heap.size w w')
  t : TOK g

def Done (g : Cfg) (base : Nat) (w0 : World) (E : Env) (r : RV) (h' : RH) (e : Ending) (w' : World) : Prop :=
  ∃ v E', e = .returned v ∧ E <+: E' ∧ VRel E' r v ∧ HInv g.ro base w0 E' h' w'

def CallOK (P : Program) (g : Cfg) (C : CallF) : Prop := ∀ f args h r h', C f args h = some (r, h') → ∀ base w0 E w vs, HInv g.ro base w0 E h w → All2 (VRel E) args vs →
  Calls P f vs.toArray w (Done g base w0 E r h')

structure Sim (g : Cfg) (base : Nat) (w0 : World) (s : St) (E : Env) (a : Act) (w : World) : Prop where
  t : All2 (VRel E) s.t a.tmps.toList
  d : a.defers = []
  h : HInv g.ro base w0 E s.h w

section
variable {P : Program} {g : Cfg} {C : CallF} {base : Nat} {w0 : World} {E : Env} {h : RH} {w : World} {t : List RV} {a : Act}

theorem HInv.roIn {ro : Ro} (H : HInv ro base w0 E h w) : RoIn ro w := fun k cs hk => by
  obtain ⟨h1, cur, e, fr, h2, h3⟩ := H.ro k cs hk
  exact ⟨Nat.lt_of_lt_of_le h1 H.size, cur, e, fr, (H.below.block k h1).trans h2, h3⟩

theorem HInv.start {ro : Ro} (hr : RoIn ro w) : HInv ro w.heap.size w [] [] w :=
  ⟨Below.refl _ _, Nat.le_refl _, rfl, fun k cs hk => hr k cs hk, fun b o hb => by simp [at?] at hb, fun b b' o o' p p' hb => by simp [at?] at hb⟩

omit [Val] in
theorem get_join {E E2 : Env} {b : Nat} {p : Nat × Nat} (h : E2[b]? = some p) : (E ++ E2)[b + E.length]? = some p := by
  rw [List.getElem?_append_right (by omega), Nat.add_sub_cancel]
  exact h
theorem shiftA_rel {E E2 : Env} {r : RV} {v : Value} (hs : shiftable r = true) (h : VRel E2 r v) : VRel (E ++ E2) (shiftA E.length r) v := by
  cases r with
  | pl u => exact h
  | sym k i => exact h
  | el b i s => cases hs
  | ptr b o => obtain ⟨p, hp, hv⟩ := h; exact ⟨p, get_join hp, hv⟩
  | sl b o n s c => obtain ⟨p, k, hp, hv⟩ := h; exact ⟨p, k, get_join hp, hv⟩
  | fn f a c => cases hs
  | agg l => cases hs
  | tup l => cases hs
theorem shiftAs_rel {E E2 : Env} {l : List RV} {vs : List Value} (hs : l.all shiftable = true) (h : All2 (VRel E2) l vs) : All2 (VRel (E ++ E2)) (l.map (shiftA E.length)) vs := by
  induction h with
  | nil => exact .nil
  | cons r _ ih =>
    simp only [List.all_cons, Bool.and_eq_true] at hs
    exact .cons (shiftA_rel hs.1 r) (ih hs.2)
theorem shiftB_rel {E E2 : Env} {r : RV} {v : Value} (hs : shiftableB r = true) (h : VRel E2 r v) : VRel (E ++ E2) (shiftB E.length r) v := by
  cases r with
  | pl u => exact shiftA_rel (r := .pl u) rfl h
  | sym k i => exact shiftA_rel (r := .sym k i) rfl h
  | el b i s => cases hs
  | ptr b o => exact shiftA_rel (r := .ptr b o) rfl h
  | sl b o n s c => exact shiftA_rel (r := .sl b o n s c) rfl h
  | fn f a c =>
    simp only [shiftableB, Bool.and_eq_true] at hs
    obtain ⟨a', c', rfl, ha, hc⟩ := h
    exact ⟨a', c', rfl, VRels_iff.2 (shiftAs_rel hs.1 (VRels_iff.1 ha)), VRels_iff.2 (shiftAs_rel hs.2 (VRels_iff.1 hc))⟩
  | agg l => obtain ⟨l', rfl, hl⟩ := h; exact ⟨l', rfl, VRels_iff.2 (shiftAs_rel hs (VRels_iff.1 hl))⟩
  | tup l => obtain ⟨l', rfl, hl⟩ := h; exact ⟨l', rfl, VRels_iff.2 (shiftAs_rel hs (VRels_iff.1 hl))⟩
theorem shiftBs_rel {E E2 : Env} {l : List RV} {vs : List Value} (hs : l.all shiftableB = true) (h : All2 (VRel E2) l vs) : All2 (VRel (E ++ E2)) (l.map (shiftB E.length)) vs := by
  induction h with
  | nil => exact .nil
  | cons r _ ih =>
    simp only [List.all_cons, Bool.and_eq_true] at hs
    exact .cons (shiftB_rel hs.1 r) (ih hs.2)

omit [Val] in
theorem at?_append_left {h m : RH} {b : Nat} (hb : b < h.length) : at? (h ++ m) b = at? h b := by
  unfold at?
  rw [List.getElem?_append_left hb]
omit [Val] in
theorem at?_append_right {h m : RH} {b : Nat} (hb : h.length ≤ b) : at? (h ++ m) b = at? m (b - h.length) := by
  unfold at?
  rw [List.getElem?_append_right hb]
omit [Val] in
theorem at?_shift {h2 : RH} {k b : Nat} {o : RO} (hb : at? (h2.map (shiftO k)) b = some o) (hs : h2.all shiftableO = true) : ∃ o2, at? h2 b = some o2 ∧ shiftO k (some o2) = some o ∧ shiftableO (some o2) = true := by
  unfold at? at hb ⊢
  rw [List.getElem?_map] at hb
  cases hx : h2[b]? with
  | none => rw [hx] at hb; cases hb
  | some x =>
    rw [hx] at hb
    have hmem : x ∈ h2 := List.mem_of_getElem? hx
    have hsx := List.all_eq_true.1 hs x hmem
    cases x with
    | none => cases hb
    | some o2 => exact ⟨o2, rfl, hb, hsx⟩

omit [Val] in
theorem own_of {o : RO} (h : shiftableO (some o) = true) : o.own = true := by
  cases o with
  | lent l e => cases h
  | _ => rfl
theorem HInv.join {ro : Ro} {E2 : Env} {h2 : RH} {w' : World} (H : HInv ro base w0 E h w) (H2 : HInv ro w.heap.size w E2 h2 w') (hs : h2.all shiftableO = true) :
    HInv ro base w0 (E ++ E2) (h ++ h2.map (shiftO h.length)) w' := by
  have hlen := H.len
  have H1 := H.world H2.below
  have old : ∀ b, b < h.length → (E ++ E2)[b]? = E[b]? := fun b hb => List.getElem?_append_left (by omega)
  have new : ∀ b, h.length ≤ b → (E ++ E2)[b]? = E2[b - h.length]? := fun b hb => by rw [hlen]; exact List.getElem?_append_right (by omega)
  refine ⟨H1.below, H.lb, by simp [H.len, H2.len], H.ro, fun b o hb => ?_, fun b b' o o' p p' hb hb' wo wo' hp hp' e => ?_⟩
  · by_cases hlt : b < h.length
    · rw [at?_append_left hlt] at hb
      obtain ⟨p, h1, h2, h3⟩ := H1.blk b o hb
      exact ⟨p, by rw [old b hlt]; exact h1, h2, h3.keep (List.prefix_append _ _) rfl⟩
    · rw [at?_append_right (by omega)] at hb
      obtain ⟨o2, h1, h2, h3⟩ := at?_shift hb hs
      obtain ⟨p, k1, k2, k3⟩ := H2.blk1 _ o2 h1 (own_of h3)
      have ho : o.own = true := by
        cases o2 with
        | lent l e => cases h3
        | cells l e r f => cases h2; rfl
        | iter s q => cases h2; rfl
      refine ⟨p, by rw [new b (by omega)]; exact k1, by rw [if_pos ho]; exact Nat.le_trans H.size k2, ?_⟩
      cases o2 with
      | lent l e => cases h3
      | cells l e room froz =>
        cases h2
        obtain ⟨cur, fr, q1, q2, q3, q4⟩ := k3
        refine ⟨cur, fr, q1, q2, ?_, by simpa using q4⟩
        rw [hlen]
        simpa using shiftBs_rel (E := E) h3 q3
      | iter s pos =>
        cases h2
        exact k3
  · have lt : ∀ {b o p}, b < h.length → at? (h ++ h2.map (shiftO h.length)) b = some o → (E ++ E2)[b]? = some p → p.1 < w.heap.size := fun hlt hb hp => by
      rw [at?_append_left hlt] at hb
      rw [old _ hlt] at hp
      exact H.heap_ne hb hp
    have ge : ∀ {b o p}, h.length ≤ b → at? (h ++ h2.map (shiftO h.length)) b = some o → (E ++ E2)[b]? = some p → w.heap.size ≤ p.1 := fun hge hb hp => by
      rw [at?_append_right hge] at hb
      rw [new _ hge] at hp
      obtain ⟨o2, h1, _, h3⟩ := at?_shift hb hs
      obtain ⟨q, k1, k2, _⟩ := H2.blk1 _ o2 h1 (own_of h3)
      rw [hp] at k1
      cases k1
      exact k2
    by_cases hlt : b < h.length <;> by_cases hlt' : b' < h.length
    · rw [at?_append_left hlt] at hb
      rw [at?_append_left hlt'] at hb'
      rw [old _ hlt] at hp
      rw [old _ hlt'] at hp'
      exact H.inj b b' o o' p p' hb hb' wo wo' hp hp' e
    · have k1 := lt hlt hb hp
      have k2 := ge (by omega) hb' hp'
      omega
    · have k1 := ge (by omega) hb hp
      have k2 := lt hlt' hb' hp'
      omega
    · rw [at?_append_right (by omega)] at hb hb'
      rw [new _ (by omega)] at hp hp'
      obtain ⟨o2, h1, _, h3⟩ := at?_shift hb hs
      obtain ⟨o2', h1', _, h3'⟩ := at?_shift hb' hs
      have := H2.inj _ _ _ _ p p' h1 h1' (own_of h3) (own_of h3') hp hp' e
      omega

theorem isoCall_ok (hC : CallOK P g C) (hX : XOK P g) {f : FuncId} {args : List RV} {r : RV} {h' : RH} (hd : isoCall g C f args h = some (r, h')) (H : HInv g.ro base w0 E h w) {vs : List Value} (ha : All2 (VRel E) args vs) :
    Calls P f vs.toArray w (Done g base w0 E r h') := by
  unfold isoCall at hd
  split at hd
  · rename_i us hus
    have hvs : vs = us := plains_rel hus ha
    subst hvs
    have ha' : All2 (VRel []) args vs := by
      rw [plains_spec hus]
      exact All2.pls _
    split at hd
    · rename_i v hv
      cases hd
      refine (hX.x f vs v hv w H.roIn).mono fun e w' ⟨he, hb⟩ => ?_
      exact ⟨v, E, he, List.prefix_refl E, rfl, H.world hb⟩
    · split at hd
      · rename_i q hq
        cases hd
        refine (hX.f f vs q hq w H.roIn).mono fun e w' ⟨p, cur, he, hp, hh, hn, hc, hb⟩ => ?_
        refine ⟨_, E ++ [(p, cur.size)], he, List.prefix_append _ _, ⟨(p, cur.size), cur.size / q.s, H.new_get _, ?_, hn, rfl⟩, ?_⟩
        · show _ = (cur.size - 0) / q.s
          rw [Nat.sub_zero]
        · refine (H.world hb).push (p, cur.size) _ rfl (Nat.le_trans H.size hp) (fun b o' p' hb' hp' e => ?_) ⟨cur, (0, 0), hh, rfl, ?_, (fun h => by cases h), fun _ => rfl⟩
          · have := H.heap_ne hb' hp'
            have e : p'.1 = p := e
            omega
          · rw [List.length_map, hc]
            exact All2.pls _
      split at hd
      · rename_i v h2 hc
        cases hd
        refine (hC f args [] _ _ hc w.heap.size w [] w vs (HInv.start H.roIn) ha').mono fun e w' ⟨u, E', he, _, hv, H'⟩ => ?_
        have hv : u = v := hv
        subst hv
        exact ⟨u, E, he, List.prefix_refl E, rfl, H.world H'.below⟩
      · rename_i r0 h2 _ hc
        split at hd
        · rename_i hsh
          simp only [Bool.and_eq_true] at hsh
          cases hd
          refine (hC f args [] _ _ hc w.heap.size w [] w vs (HInv.start H.roIn) ha').mono fun e w' ⟨u, E', he, _, hv, H'⟩ => ?_
          refine ⟨u, E ++ E', he, List.prefix_append _ _, ?_, H.join H' hsh.2⟩
          rw [H.len]
          exact shiftB_rel hsh.1 hv
        · cases hd
      · cases hd
  · split at hd
    · rename_i hfl
      have ha' : All2 (VRel []) args vs := flats_rel hfl ha
      split at hd
      · rename_i r0 hy
        split at hd
        · rename_i hfr
          cases hd
          refine (hX.y f args _ hy hfr vs ha' w H.roIn).mono fun e w' ⟨⟨u, he, hv⟩, hb⟩ => ?_
          exact ⟨u, E, he, List.prefix_refl E, flat_rel hfr hv, H.world hb⟩
        · cases hd
      · split at hd
        · rename_i r0 h2 hc
          split at hd
          · rename_i hfr
            cases hd
            refine (hC f args [] _ _ hc w.heap.size w [] w vs (HInv.start H.roIn) ha').mono fun e w' ⟨u, E', he, _, hv, H'⟩ => ?_
            exact ⟨u, E, he, List.prefix_refl E, flat_rel hfr hv, H.world H'.below⟩
          · split at hd
            · rename_i hsh
              simp only [Bool.and_eq_true] at hsh
              cases hd
              refine (hC f args [] _ _ hc w.heap.size w [] w vs (HInv.start H.roIn) ha').mono fun e w' ⟨u, E', he, _, hv, H'⟩ => ?_
              refine ⟨u, E ++ E', he, List.prefix_append _ _, ?_, H.join H' hsh.2⟩
              rw [H.len]
              exact shiftB_rel hsh.1 hv
            · cases hd
        · cases hd
    · cases hd
omit [Val] in
theorem isoCall_app {f : FuncId} {args : List RV} {r : RV} {h' : RH} (hd : isoCall g C f args h = some (r, h')) : ∃ X, h' = h ++ X := by
  unfold isoCall at hd
  split at hd
  · split at hd
    · cases hd; exact ⟨[], by simp⟩
    · split at hd
      · cases hd; exact ⟨_, rfl⟩
      split at hd
      · cases hd; exact ⟨[], by simp⟩
      · split at hd
        · cases hd; exact ⟨_, rfl⟩
        · cases hd
      · cases hd
  · split at hd
    · split at hd
      · split at hd
        · cases hd; exact ⟨[], by simp⟩
        · cases hd
      · split at hd
        · split at hd
          · cases hd; exact ⟨[], by simp⟩
          · split at hd
            · cases hd; exact ⟨_, rfl⟩
            · cases hd
        · cases hd
    · cases hd
theorem doCall_ok (hC : CallOK P g C) (hX : XOK P g) {f : FuncId} {args : List RV} {r : RV} {h' : RH} (hd : doCall g C f args h = some (r, h')) (H : HInv g.ro base w0 E h w) {vs : List Value} (ha : All2 (VRel E) args vs) :
    Calls P f vs.toArray w (Done g base w0 E r h') := by
  unfold doCall at hd
  split at hd
  · rename_i p hp
    cases hd
    exact isoCall_ok hC hX hp H ha
  · split at hd
    · rename_i r0 hl
      cases hd
      unfold lentCall at hl
      split at hl
      · rename_i ds hds
        split at hl
        · rename_i r1 hr1
          split at hl
          · rename_i hfr
            cases hl
            refine (hX.l f ds _ hr1 hfr base w0 E h w args vs H hds ha).mono fun e w' ⟨⟨u, he, hv⟩, hb⟩ => ?_
            exact ⟨u, E, he, List.prefix_refl E, flat_rel hfr hv, H.world hb⟩
          · cases hl
        · cases hl
      · cases hl
    · exact hC _ _ _ _ _ hd _ _ _ _ _ H ha

def putT (t : List RV) (d : Option Tmp) (v : RV) : List RV :=
  match d with
  | some d => t.set d v
  | none => t
omit [Val] in
theorem putS_eq (t : List RV) (h : RH) (d : Option Tmp) (v : RV) : putS t h d v = some ⟨putT t d v, h⟩ := by
  cases d with
  | none => rfl
  | some d => simp only [putS, fRV_eq, setL_eq, putT]
omit [Val] in
theorem putF_eq (t : List RV) (h : RH) (d : Option Tmp) (v : RV) : putF t h d v = some ⟨putT t d v, h⟩ := by
  cases d with
  | none => rfl
  | some d => simp only [putF, setL_eq, putT]
theorem put_rel (ht : All2 (VRel E) t a.tmps.toList) (d : Option Tmp) {v : RV} {u : Value} (hv : VRel E v u) : All2 (VRel E) (putT t d v) (a.put d u).tmps.toList := by
  cases d with
  | none => exact ht
  | some d =>
    simp only [putT, Act.put, Array.toList_setIfInBounds]
    exact ht.set d hv
omit [Val] in
theorem put_defers (d : Option Tmp) (u : Value) : (a.put d u).defers = a.defers := by cases d <;> rfl

/-- What an effect leaves of the state. -/
noncomputable def appE (g : Cfg) (C : CallF) (t : List RV) (h : RH) (d : Option Tmp) : Eff → Option St
  | .val v => some ⟨putT t d v, h⟩
  | .same v => some ⟨putT t d v, h⟩
  | .setB v b ob => some ⟨putT t d v, h.set b (some ob)⟩
  | .newB v ob => some ⟨putT t d v, h ++ [some ob]⟩
  | .moveB v b ob => some ⟨putT t d v, h.set b none ++ [some ob]⟩
  | .call f args => (doCall g C f args h).map fun p => ⟨putT t d p.1, p.2⟩
omit [Val] in
theorem app_eq (t : List RV) (h : RH) (d : Option Tmp) (e : Option Eff) : app g C t h d e = e.bind (appE g C t h d) := by
  cases e with
  | none => rfl
  | some e =>
    cases e with
    | val v => exact putS_eq t h d v
    | same v => exact putF_eq t h d v
    | setB v b ob => simp only [app, sSet, fRO_eq, fNat_eq, setL_eq, putS_eq, Option.bind_some, appE]
    | newB v ob => simp only [app, sNew, fRO_eq, fSpine_eq, putS_eq, Option.bind_some, appE]
    | moveB v b ob => simp only [app, sMove, fRO_eq, fNat_eq, fSpine_eq, setL_eq, putS_eq, Option.bind_some, appE]
    | call f args =>
      simp only [app, sCall, Option.bind_some, appE]
      cases doCall g C f args h with
      | none => rfl
      | some p =>
        simp only [fRV_eq, fList_eq _ (fun x k => fRO_eq x k), putF_eq]
        rfl

/-- The effect of an operation. -/
noncomputable def effC (P : Program) (g : Cfg) (o : Oper) (t : List RV) (h : RH) : Option Eff := orElse P o t ((memC P g o.op).f t h)

omit [Val] in
theorem stepW_eq (ops : Array Oper) (o : Oper) (s : St) : stepW P g C ops o s =
    match o.guard with
    | none => (effC P g o s.t s.h).bind (appE g C s.t s.h o.dst)
    | some (j, want) => if symAt ops s.t j then none else if yieldedR ops s.t j == some want then (effC P g o s.t s.h).bind (appE g C s.t s.h o.dst) else some ⟨putT s.t o.dst (.pl undef), s.h⟩ := by
  obtain ⟨t, h⟩ := s
  obtain ⟨dst, op, type, pos, after, guard⟩ := o
  cases guard with
  | none => cases dst <;> simp only [stepW, stepC, app_eq, effC]
  | some p =>
    simp only [stepW, stepC, guarded, app_eq, effC, putS_eq]
    cases symAt ops t p.1 <;> rfl

theorem yielded_eq (ops : Array Oper) (ht : All2 (VRel E) t a.tmps.toList) (j : Nat) (hsym : symAt ops t j = false) : yieldedR ops t j = yielded ops a.tmps j := by
  unfold symAt at hsym
  unfold yieldedR yielded
  cases hd : (ops[j]?).bind (·.dst) with
  | none => rfl
  | some d =>
    simp only [Option.bind_some]
    simp only [hd, Option.bind_some] at hsym
    have e : a.tmps[d]? = a.tmps.toList[d]? := by simp
    rw [e]
    cases hr : t[d]? with
    | none => rw [ht.get_none d hr]
    | some r =>
      obtain ⟨v, hv, hrel⟩ := ht.get d r hr
      rw [hv]
      cases r with
      | pl u =>
        have hrel : v = u := hrel
        subst hrel
        cases v <;> rfl
      | sym k i => rw [hr] at hsym; cases hsym
      | el b i s => obtain ⟨p, hp, rfl⟩ := hrel; rfl
      | ptr b o => obtain ⟨p, hp, rfl⟩ := hrel; rfl
      | sl b o n s c => obtain ⟨p, k, hp, hk, hn, rfl⟩ := hrel; rfl
      | fn f x c => obtain ⟨x', c', rfl, _⟩ := hrel; rfl
      | agg l => obtain ⟨l', rfl, _⟩ := hrel; rfl
      | tup l => obtain ⟨l', rfl, _⟩ := hrel; rfl

/-- One operation that is carried out. -/
theorem oper_ok (G : CfgOK P g) (hC : CallOK P g C) (hX : XOK P g) (o : Oper) {e : Eff} {s s' : St} (S : Sim g base w0 s E a w) (he : effC P g o s.t s.h = some e) (hs : appE g C s.t s.h o.dst e = some s')
    {K : Act → World → Prop} {Q : Exit → Act → World → Prop} (hK : ∀ E' a' w', E <+: E' → Sim g base w0 s' E' a' w' → K a' w') : o.wp P a w K Q := by
  have hf := opC_fits hX.t G S.h S.t o he
  unfold Oper.wp
  have plain : ∀ (v : RV) (h' : RH) (E' : Env) (u : Value) (w' : World), E <+: E' → VRel E' v u → HInv g.ro base w0 E' h' w' → s' = ⟨putT s.t o.dst v, h'⟩ →
      ((execOp a.eval o).run P w = .ok (.value u) w' ∨ ((execOp a.eval o).run P w = .ok .skip w' ∧ u = undef)) → o.upon P a K Q ((execOp a.eval o).run P w) := by
    intro v h' E' u w' hE hv H' hs' hres
    have hk : K (a.put o.dst u) w' := hK E' _ _ hE (hs' ▸ ⟨put_rel (S.t.ext hE) o.dst hv, (put_defers _ _).trans S.d, H'⟩)
    rcases hres with hr | ⟨hr, hu⟩
    · rw [hr]; exact hk
    · rw [hr]; subst hu; exact hk
  cases e with
  | val v =>
    obtain ⟨u, hv, hres⟩ := hf
    cases hs
    exact plain v s.h E u w (List.prefix_refl E) hv S.h rfl hres
  | same v =>
    obtain ⟨u, hv, hres⟩ := hf
    cases hs
    exact plain v s.h E u w (List.prefix_refl E) hv S.h rfl hres
  | setB v b ob =>
    obtain ⟨E', u, w', hE, hv, hres, H'⟩ := hf
    cases hs
    exact plain v _ E' u w' hE hv H' rfl hres
  | newB v ob =>
    obtain ⟨E', u, w', hE, hv, hres, H'⟩ := hf
    cases hs
    exact plain v _ E' u w' hE hv H' rfl hres
  | moveB v b ob =>
    obtain ⟨E', u, w', hE, hv, hres, H'⟩ := hf
    cases hs
    exact plain v _ E' u w' hE hv H' rfl hres
  | call f args =>
    obtain ⟨vs, ha, hres⟩ := hf
    rw [hres]
    simp only [appE] at hs
    cases hd : doCall g C f args s.h with
    | none => rw [hd] at hs; cases hs
    | some p =>
      obtain ⟨r, h'⟩ := p
      rw [hd] at hs
      cases hs
      refine (doCall_ok hC hX hd S.h ha).mono fun e w' ⟨u, E', he', hE, hv, H'⟩ => ?_
      subst he'
      exact hK E' _ _ hE ⟨put_rel (S.t.ext hE) o.dst hv, (put_defers _ _).trans S.d, H'⟩

/-- One operation, wanted or not. -/
theorem stepW_ok (G : CfgOK P g) (hC : CallOK P g C) (hX : XOK P g) {ops : Array Oper} {o : Oper} {s s' : St} (S : Sim g base w0 s E a w) (hs : stepW P g C ops o s = some s')
    {K : Act → World → Prop} {Q : Exit → Act → World → Prop} (hK : ∀ E' a' w', E <+: E' → Sim g base w0 s' E' a' w' → K a' w') :
    if Region.wanted o (yielded ops a.tmps) then o.wp P a w K Q ∨ (o.asks P a w ∧ LetsOut Q) else K (a.put o.dst undef) w := by
  rw [stepW_eq] at hs
  have go : (effC P g o s.t s.h).bind (appE g C s.t s.h o.dst) = some s' → o.wp P a w K Q := fun hb => by
    cases he : effC P g o s.t s.h with
    | none => rw [he] at hb; cases hb
    | some e =>
      rw [he] at hb
      exact oper_ok G hC hX o S he hb hK
  unfold Region.wanted
  split at hs
  · rename_i hg
    rw [hg]
    exact .inl (go hs)
  · rename_i j want hg
    rw [hg]
    simp only
    split at hs
    · cases hs
    rename_i hsym
    rw [yielded_eq ops S.t j (by simpa using hsym)] at hs
    split at hs
    · rename_i hy
      rw [if_pos hy]
      exact .inl (go hs)
    · rename_i hy
      rw [if_neg hy]
      cases hs
      exact hK E _ _ (List.prefix_refl E) ⟨put_rel S.t o.dst rfl, (put_defers _ _).trans S.d, S.h⟩

theorem runOps_ok (G : CfgOK P g) (hC : CallOK P g C) (hX : XOK P g) {ops : Array Oper} {Q : Exit → Act → World → Prop} : ∀ (l : List Oper) (s s' : St) (E : Env) (a : Act) (w : World), Sim g base w0 s E a w → runOps P g C ops l s = some s' →
    (∀ E' a' w', E <+: E' → Sim g base w0 s' E' a' w' → Q .normal a' w') → wpList P ops Q l a w
  | [], s, s', E, a, w, S, hr, hQ => by
    cases hr
    exact hQ E a w (List.prefix_refl E) S
  | o :: l, s, s', E, a, w, S, hr, hQ => by
    have e : runOps P g C ops (o :: l) s = (match stepW P g C ops o s with | some s' => runOps P g C ops l s' | none => none) := rfl
    rw [e] at hr
    split at hr
    · rename_i s1 h1
      exact stepW_ok G hC hX S h1 fun E' a' w' hE S' => runOps_ok G hC hX l s1 s' E' a' w' S' hr fun E2 a2 w2 hE2 S2 => hQ E2 a2 w2 (hE.trans hE2) S2
    · cases hr
end
end Go.Ri
