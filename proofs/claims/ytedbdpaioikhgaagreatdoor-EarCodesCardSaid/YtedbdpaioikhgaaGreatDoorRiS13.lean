/- An interpreter for calls whose arguments are closed or names, and its soundness: a part of the proofs. -/
import Derived.Test.YtedbdpaioikhgaaGreatDoorRiS12
namespace Go.Ri
open Go Go.RowKit
variable [Val]

section
variable {P : Program} {g : Cfg} {C : CallF} {base : Nat} {w0 : World} {E : Env} {h : RH} {w : World} {t : List RV} {a : Act}

omit [Val] in
theorem effR_eq (o : Oper) (t : List RV) (h : RH) : effR P g o t h = effC P g o t h := rfl

/-! Regions that leave the heap alone: one order serves all. -/
theorem doCallQ_ok (hC : CallOK P g C) (hX : XOK P g) {f : FuncId} {args : List RV} {v : RV} (hd : doCallQ g C f args = some v) (H : HInv g.ro base w0 E h w) {vs : List Value} (ha : All2 (VRel E) args vs) :
    Calls P f vs.toArray w (fun e w' => (∃ u, e = .returned u ∧ VRel E v u) ∧ HInv g.ro base w0 E h w') := by
  unfold doCallQ at hd
  split at hd
  · rename_i us hus
    have hvs : vs = us := plains_rel hus ha
    subst hvs
    split at hd
    · rename_i v' hv
      cases hd
      exact (hX.x f vs _ hv w H.roIn).mono fun e w' ⟨he, hb⟩ => ⟨⟨_, he, rfl⟩, H.world hb⟩
    · split at hd
      · rename_i v' h2 hc
        cases hd
        have ha' : All2 (VRel []) args vs := by
          rw [plains_spec hus]
          exact All2.pls _
        refine (hC f args [] _ _ hc w.heap.size w [] w vs (HInv.start H.roIn) ha').mono fun e w' ⟨u, E', he, _, hv, H'⟩ => ?_
        exact ⟨⟨_, he, hv⟩, H.world H'.below⟩
      · cases hd
  · split at hd
    · rename_i hfl
      have ha' : All2 (VRel []) args vs := flats_rel hfl ha
      split at hd
      · rename_i r0 hy
        split at hd
        · rename_i hfr
          cases hd
          exact (hX.y f args _ hy hfr vs ha' w H.roIn).mono fun e w' ⟨⟨u, he, hv⟩, hb⟩ => ⟨⟨u, he, flat_rel hfr hv⟩, H.world hb⟩
        · cases hd
      · split at hd
        · rename_i r0 h2 hc
          split at hd
          · rename_i hfr
            cases hd
            exact (hC f args [] _ _ hc w.heap.size w [] w vs (HInv.start H.roIn) ha').mono fun e w' ⟨u, E', he, _, hv, H'⟩ => ⟨⟨u, he, flat_rel hfr hv⟩, H.world H'.below⟩
          · cases hd
        · cases hd
    · cases hd

omit [Val] in
theorem doCallQ_flat {f : FuncId} {args : List RV} {v : RV} (hd : doCallQ g C f args = some v) : flat v = true := by
  unfold doCallQ at hd
  split at hd
  · split at hd
    · cases hd; rfl
    · split at hd
      · cases hd; rfl
      · cases hd
  · split at hd
    · split at hd
      · split at hd
        · cases hd; assumption
        · cases hd
      · split at hd
        · split at hd
          · cases hd; assumption
          · cases hd
        · cases hd
    · cases hd

theorem appQ_quiet (G : CfgOK P g) (hC : CallOK P g C) (hX : XOK P g) {o : Oper} {s s' : St} (ht : All2 (VRel E) s.t a.tmps.toList) (hw : HInv g.ro base w0 E s.h w) (hs : appQ g C s.t s.h o.dst (effR P g o s.t s.h) = some s') :
    s'.h = s.h ∧ ∃ v u, VRel E v u ∧ s'.t = putT s.t o.dst v ∧ ∀ w, HInv g.ro base w0 E s.h w → o.quietAt P a (fun w' => HInv g.ro base w0 E s.h w') w u := by
  rw [effR_eq] at hs
  cases he : effC P g o s.t s.h with
  | none => rw [he] at hs; cases hs
  | some e =>
    rw [he] at hs
    have fits : ∀ w, HInv g.ro base w0 E s.h w → Fits g.ro base w0 E s.h w ((execOp a.eval o).run P w) e := fun w H => opC_fits hX.t G H ht o he
    have plain : ∀ v, (∀ w, HInv g.ro base w0 E s.h w → ∃ u, VRel E v u ∧ ((execOp a.eval o).run P w = .ok (.value u) w ∨ ((execOp a.eval o).run P w = .ok .skip w ∧ u = undef))) → s' = ⟨putT s.t o.dst v, s.h⟩ →
        s'.h = s.h ∧ ∃ v u, VRel E v u ∧ s'.t = putT s.t o.dst v ∧ ∀ w, HInv g.ro base w0 E s.h w → o.quietAt P a (fun w' => HInv g.ro base w0 E s.h w') w u := by
      intro v hf hs'
      obtain ⟨u, hv, _⟩ := hf w hw
      subst hs'
      refine ⟨rfl, v, u, hv, rfl, fun w2 H2 => ?_⟩
      obtain ⟨u2, hv2, hr⟩ := hf w2 H2
      have hu := VRel.fn v u u2 hv hv2
      subst hu
      unfold Oper.quietAt
      rcases hr with hr | ⟨hr, hu⟩
      · rw [hr]; exact ⟨rfl, rfl⟩
      · rw [hr]; exact ⟨rfl, hu⟩
    cases e with
    | val v =>
      simp only [appQ, putS_eq] at hs
      cases hs
      exact plain v fits rfl
    | same v =>
      simp only [appQ, putF_eq] at hs
      cases hs
      exact plain v fits rfl
    | call f args =>
      simp only [appQ, putF_eq] at hs
      cases hd : doCallQ g C f args with
      | none => rw [hd] at hs; cases hs
      | some v =>
        rw [hd] at hs
        cases hs
        have hfl := doCallQ_flat hd
        refine ⟨rfl, v, cvF v, rel_cvF hfl, rfl, fun w2 H2 => ?_⟩
        obtain ⟨vs, ha, hr⟩ := fits w2 H2
        unfold Oper.quietAt
        rw [hr]
        exact ⟨rfl, (doCallQ_ok hC hX hd H2 ha).mono fun e w' ⟨⟨u, he, hu⟩, H3⟩ => ⟨by rw [he, VRel.fn v u _ hu (rel_cvF hfl)], H3⟩⟩
    | setB v b ob => cases hs
    | newB v ob => cases hs
    | moveB v b ob => cases hs

theorem runQ_ok (G : CfgOK P g) (hC : CallOK P g C) (hX : XOK P g) {ops : Array Oper} {h : RH} (hw : HInv g.ro base w0 E h w) {Q : Act → Prop} : ∀ (l : List Oper) (s s' : St) (a : Act), s.h = h → All2 (VRel E) s.t a.tmps.toList → a.defers = [] → runQ P g C ops l s = some s' →
    (s'.h = h → ∀ a', All2 (VRel E) s'.t a'.tmps.toList → a'.defers = [] → Q a') → wpQuiet P ops (fun w' => HInv g.ro base w0 E h w') Q l a
  | [], s, s', a, hh, ht, hd, hr, hQ => by
    cases hr
    exact wpQuiet_nil (hQ hh a ht hd)
  | o :: l, s, s', a, hh, ht, hd, hr, hQ => by
    have e : runQ P g C ops (o :: l) s = (match stepQ P g C ops o s with | some s' => runQ P g C ops l s' | none => none) := rfl
    rw [e] at hr
    split at hr
    · rename_i s1 h1
      subst hh
      have go : appQ g C s.t s.h o.dst (effR P g o s.t s.h) = some s1 → o.quiet P a (fun w' => HInv g.ro base w0 E s.h w') (wpQuiet P ops (fun w' => HInv g.ro base w0 E s.h w') Q l) := fun hb => by
        obtain ⟨e1, v, u, hv, e2, hq⟩ := appQ_quiet (a := a) G hC hX ht hw hb
        exact ⟨u, hq, runQ_ok G hC hX hw l s1 s' _ e1 (by rw [e2]; exact put_rel ht o.dst hv) ((put_defers _ _).trans hd) hr hQ⟩
      show if Region.wanted o (yielded ops a.tmps) then _ else _
      unfold Region.wanted
      obtain ⟨st, sh⟩ := s
      cases hg : o.guard with
      | none =>
        simp only [stepQ, hg] at h1
        simp only [if_true]
        exact go h1
      | some p =>
        obtain ⟨j, want⟩ := p
        simp only [stepQ, hg, guardQ, putS_eq] at h1
        simp only
        split at h1
        · cases h1
        rename_i hsym
        rw [yielded_eq ops ht j hsym] at h1
        split at h1
        · rename_i hy
          rw [if_pos hy]
          exact go h1
        · rename_i hy
          rw [if_neg hy]
          cases h1
          exact runQ_ok G hC hX hw l ⟨putT st o.dst (.pl undef), sh⟩ s' _ rfl (put_rel ht o.dst (show VRel E (.pl undef) undef from rfl)) ((put_defers _ _).trans hd) hr hQ
    · cases hr

omit [Val] in
theorem ev_put {x : Operand} {d : Option Tmp} {v : RV} (hx : ∀ k, d = some k → x ≠ .tmp k) : ev (putT t d v) x = ev t x := by
  cases d with
  | none => rfl
  | some k =>
    cases x with
    | tmp i =>
      have hne : k ≠ i := fun e => hx k rfl (by rw [e])
      show nth _ _ = nth _ _
      rw [nth_eq, nth_eq, List.getD_eq_getElem?_getD, List.getD_eq_getElem?_getD]
      simp only [putT]
      rw [List.getElem?_set_ne hne]
    | const u => rfl
    | global k => rfl
    | func f => rfl
omit [Val] in
theorem evL_put {l : Array Operand} {d : Option Tmp} {v : RV} (hx : ∀ x ∈ l, ∀ k, d = some k → x ≠ .tmp k) : evL (putT t d v) l = evL t l := by
  unfold evL
  exact List.map_congr_left fun x hm => ev_put (hx x (by simpa using hm))
omit [Val] in
theorem evP_put {l : Array (Nat × Operand)} {d : Option Tmp} {v : RV} (hx : ∀ p ∈ l, ∀ k, d = some k → p.2 ≠ .tmp k) : evP (putT t d v) l = evP t l := by
  unfold evP
  exact List.map_congr_left fun p hm => by rw [ev_put (hx p (by simpa using hm))]
omit [Val] in
theorem evO_put {x : Option Operand} {d : Option Tmp} {v : RV} (hx : ∀ y, x = some y → ∀ k, d = some k → y ≠ .tmp k) : x.map (ev (putT t d v)) = x.map (ev t) := by
  cases x with
  | none => rfl
  | some y => simp [ev_put (hx y rfl)]

omit [Val] in
theorem memC_put {op : Op} {d : Option Tmp} {v : RV} (hx : ∀ x ∈ op.operands, ∀ k, d = some k → x ≠ .tmp k) (h : RH) : (memC P g op).f (putT t d v) h = (memC P g op).f t h := by
  cases op <;> simp only [Op.operands] at hx <;> simp only [memC] <;> (try rfl)
  case move x => rw [ev_put (hx x (by simp))]
  case assign x => rw [ev_put (hx x (by simp))]
  case pick c x y => rw [ev_put (hx c (by simp)), ev_put (hx x (by simp)), ev_put (hx y (by simp))]
  case box e x => rw [ev_put (hx x (by simp))]
  case build ty ps => rw [evP_put fun p hp => hx p.2 (by simp; exact ⟨p.1, by simpa using hp⟩)]
  case buildSlice ty n ps => rw [evP_put fun p hp => hx p.2 (by simp; exact ⟨p.1, by simpa using hp⟩)]
  case load ty x => rw [ev_put (hx x (by simp))]
  case store ty x y => rw [ev_put (hx x (by simp)), ev_put (hx y (by simp))]
  case nilCheck x => rw [ev_put (hx x (by simp))]
  case binOp op ty x y yt => rw [ev_put (hx x (by simp)), ev_put (hx y (by simp))]
  case unOp op ty x => rw [ev_put (hx x (by simp))]
  case convert s d x => rw [ev_put (hx x (by simp))]
  case makeFunc f x y => rw [evL_put fun z hz => hx z (by simp [hz]), evL_put fun z hz => hx z (by simp [hz])]
  case makeSlice ty x y => rw [ev_put (hx x (by simp)), ev_put (hx y (by simp))]
  case slice ty x lo hi mx =>
    rw [ev_put (hx x (by simp)), evO_put fun y hy => hx y (by simp [hy]), evO_put fun y hy => hx y (by simp [hy]), evO_put fun y hy => hx y (by simp [hy])]
  case index ty x i => rw [ev_put (hx x (by simp)), ev_put (hx i (by simp))]
  case fieldAddr s x f => rw [ev_put (hx x (by simp))]
  case field s x f => rw [ev_put (hx x (by simp))]
  case indexAddr ty x i => rw [ev_put (hx x (by simp)), ev_put (hx i (by simp))]
  case range ty x => rw [ev_put (hx x (by simp))]
  case next x s => rw [ev_put (hx x (by simp))]
  case extract x i => rw [ev_put (hx x (by simp))]
  case call c =>
    unfold mCall
    have ha := evL_put (t := t) (d := d) (v := v) (l := c.args) fun z hz => hx z (by simp [Call.operands, hz])
    cases hc : c.callee with
    | builtin b => simp only [ha]
    | value f =>
      simp only [ha]
      rw [ev_put (hx f (by simp [Call.operands, hc]))]
    | invoke r m => rfl

omit [Val] in
theorem pureOp_put {o : Oper} {d : Option Tmp} {v : RV} (hx : ∀ x ∈ o.op.operands, ∀ k, d = some k → x ≠ .tmp k) : pureOp P o (putT t d v) = pureOp P o t := by
  unfold pureOp
  split
  · rfl
  · rename_i hsel
    have e1 : o.op.operands.toList.all (fun x => (ev (putT t d v) x).isPl) = o.op.operands.toList.all (fun x => (ev t x).isPl) := by
      rw [Bool.eq_iff_iff]
      simp only [List.all_eq_true]
      exact ⟨fun hh x hm => by rw [← ev_put (t := t) (v := v) (hx x (by simpa using hm))]; exact hh x hm, fun hh x hm => by rw [ev_put (hx x (by simpa using hm))]; exact hh x hm⟩
    have e2 : execOp (fun x => (ev (putT t d v) x).v) o = execOp (fun x => (ev t x).v) o :=
      execOp_congr o (fun cs b e => hsel cs b e) fun x hm => by rw [ev_put (hx x hm)]
    rw [e1, e2]

omit [Val] in
theorem effC_put {o : Oper} {d : Option Tmp} {v : RV} (hx : ∀ x ∈ o.op.operands, ∀ k, d = some k → x ≠ .tmp k) (h : RH) : effC P g o (putT t d v) h = effC P g o t h := by
  unfold effC orElse
  rw [memC_put hx, pureOp_put hx]

omit [Val] in
theorem looks_spec {ops : Array Oper} {o : Oper} {d : Option Tmp} (hd : ∀ k, d = some k → k ∉ o.looksAt ops) : ∀ x ∈ o.op.operands, ∀ k, d = some k → x ≠ .tmp k := by
  intro x hx k hk e
  subst e
  exact hd k hk (List.mem_append_left _ (List.mem_filterMap.2 ⟨.tmp k, by simpa using hx, rfl⟩))

omit [Val] in
theorem yieldedR_put {ops : Array Oper} {o : Oper} {d : Option Tmp} {v : RV} (hd : ∀ k, d = some k → k ∉ o.looksAt ops) {j : Nat} {want : Bool} (hg : o.guard = some (j, want)) : yieldedR ops (putT t d v) j = yieldedR ops t j := by
  cases d with
  | none => rfl
  | some k =>
    unfold yieldedR
    cases ht : (ops[j]?).bind (·.dst) with
    | none => rfl
    | some q =>
      have hne : k ≠ q := fun e => hd k rfl (by subst e; simp [Oper.looksAt, hg, ht])
      simp only [Option.bind_some, putT]
      rw [List.getElem?_set_ne hne]

omit [Val] in
theorem symAt_put {ops : Array Oper} {o : Oper} {d : Option Tmp} {v : RV} (hd : ∀ k, d = some k → k ∉ o.looksAt ops) {j : Nat} {want : Bool} (hg : o.guard = some (j, want)) : symAt ops (putT t d v) j = symAt ops t j := by
  cases d with
  | none => rfl
  | some k =>
    unfold symAt
    cases ht : (ops[j]?).bind (·.dst) with
    | none => rfl
    | some q =>
      have hne : k ≠ q := fun e => hd k rfl (by subst e; simp [Oper.looksAt, hg, ht])
      simp only [Option.bind_some, putT]
      rw [List.getElem?_set_ne hne]

omit [Val] in
theorem putT_comm {x y : Option Tmp} {v u : RV} (hxy : ∀ k, x = some k → y ≠ some k) : putT (putT t x v) y u = putT (putT t y u) x v := by
  cases x with
  | none => rfl
  | some k =>
    cases y with
    | none => rfl
    | some q =>
      have hne : k ≠ q := fun e => hxy k rfl (by rw [e])
      exact List.set_comm _ _ hne

omit [Val] in
/-- An operation that is apart from 'x' does the same behind it. -/
theorem stepW_put {ops : Array Oper} {x y : Oper} {v : RV} (hap : x.apart ops y = true) (h : RH) :
    stepW P g C ops y ⟨putT t x.dst v, h⟩ = (stepW P g C ops y ⟨t, h⟩).map fun s => ⟨putT s.t x.dst v, s.h⟩ := by
  obtain ⟨h1, h2, h3⟩ := Oper.apart_spec hap
  rw [stepW_eq, stepW_eq]
  have heff : effC P g y (putT t x.dst v) h = effC P g y t h := effC_put (looks_spec h1) h
  have happ : ∀ e, appE g C (putT t x.dst v) h y.dst e = (appE g C t h y.dst e).map fun s => ⟨putT s.t x.dst v, s.h⟩ := by
    intro e
    cases e with
    | call f args =>
      simp only [appE]
      cases doCall g C f args h with
      | none => rfl
      | some p => simp [putT_comm h2]
    | _ => simp [appE, putT_comm h2]
  have hb : (effC P g y t h).bind (appE g C (putT t x.dst v) h y.dst) = ((effC P g y t h).bind (appE g C t h y.dst)).map fun s => ⟨putT s.t x.dst v, s.h⟩ := by
    cases effC P g y t h with
    | none => rfl
    | some e => exact happ e
  cases hg : y.guard with
  | none =>
    simp only [heff]
    exact hb
  | some p =>
    obtain ⟨j, want⟩ := p
    simp only [heff, yieldedR_put h1 hg, symAt_put h1 hg]
    split
    · rfl
    · split
      · exact hb
      · simp [putT_comm h2]

/-! Regions that write: every order comes to one state. -/
def AnyR (F : St → Nat → Option St) (ops : Array Oper) : Nat → Array Bool → St → St → Prop
  | 0, listed, s, s' => Region.ready .any ops listed = [] ∧ s = s'
  | n + 1, listed, s, s' => (Region.ready .any ops listed = [] → s = s') ∧ ∀ i ∈ Region.ready .any ops listed, ∃ s1, F s i = some s1 ∧ AnyR F ops n (listed.setIfInBounds i true) s1 s'

theorem anyR_ok (G : CfgOK P g) (hC : CallOK P g C) (hX : XOK P g) {ops : Array Oper} {F : St → Nat → Option St} (hF : ∀ s i s1, F s i = some s1 → stepAt P g C ops s i = some s1) {Q : Exit → Act → World → Prop} :
    ∀ (n : Nat) (listed : Array Bool) (s s' : St) (E : Env) (a : Act) (w : World), Sim g base w0 s E a w → AnyR F ops n listed s s' →
    (∀ E' a' w', E <+: E' → Sim g base w0 s' E' a' w' → Q .normal a' w') → wpAny P .any ops Q n listed a w
  | 0, listed, s, s', E, a, w, S, hr, hQ => by
    obtain ⟨h1, rfl⟩ := hr
    exact ⟨h1, hQ E a w (List.prefix_refl E) S⟩
  | n + 1, listed, s, s', E, a, w, S, hr, hQ => by
    obtain ⟨h1, h2⟩ := hr
    refine ⟨fun h0 => by have := h1 h0; subst this; exact hQ E a w (List.prefix_refl E) S, fun i hi => ?_⟩
    obtain ⟨s1, hs1, hrest⟩ := h2 i hi
    have hs1 := hF s i s1 hs1
    unfold stepAt at hs1
    unfold wpOp
    cases ho : ops[i]? with
    | none => rw [ho] at hs1; cases hs1
    | some o =>
      rw [ho] at hs1
      exact stepW_ok G hC hX S hs1 fun E' a' w' hE S' => anyR_ok G hC hX hF n _ s1 s' E' a' w' S' hrest fun E2 a2 w2 hE2 S2 => hQ E2 a2 w2 (hE.trans hE2) S2

def Com (F : St → Nat → Option St) (first : Array Bool → Nat → Bool) (ops : Array Oper) : Prop := ∀ listed s s1 s2 i j, first listed i = true → i ∈ Region.ready .any ops listed → j ∈ Region.ready .any ops listed → j ≠ i →
  F s i = some s1 → F s1 j = some s2 → ∃ s2', F s j = some s2' ∧ F s2' i = some s2
def Mono (first : Array Bool → Nat → Bool) : Prop := ∀ listed i j, first listed i = true → first (listed.setIfInBounds j true) i = true

omit [Val] in
theorem anyR_first {F : St → Nat → Option St} {first : Array Bool → Nat → Bool} {ops : Array Oper} (hcom : Com F first ops) (hmono : Mono first) : ∀ (n : Nat) (listed : Array Bool) (s s1 s' : St) (i : Nat), i ∈ Region.ready .any ops listed → first listed i = true →
    F s i = some s1 → AnyR F ops n (listed.setIfInBounds i true) s1 s' → AnyR F ops (n + 1) listed s s'
  | 0, listed, s, s1, s', i, hi, hf, h1, H => by
    refine ⟨fun h0 => (by rw [h0] at hi; cases hi), fun j hj => ?_⟩
    by_cases hji : j = i
    · subst hji; exact ⟨s1, h1, H⟩
    · have := ready_mono hj hji
      rw [H.1] at this
      cases this
  | n + 1, listed, s, s1, s', i, hi, hf, h1, H => by
    refine ⟨fun h0 => (by rw [h0] at hi; cases hi), fun j hj => ?_⟩
    by_cases hji : j = i
    · subst hji; exact ⟨s1, h1, H⟩
    · obtain ⟨s2, h2, H2⟩ := H.2 j (ready_mono hj hji)
      obtain ⟨s2', k1, k2⟩ := hcom listed s s1 s2 i j hf hi hj hji h1 h2
      refine ⟨s2', k1, anyR_first hcom hmono n _ s2' s2 s' i (ready_mono hi (Ne.symm hji)) (hmono _ _ _ hf) k2 ?_⟩
      rw [Array.setIfInBounds_comm _ _ hji]
      exact H2

omit [Val] in
theorem sameL_eq {α : Type} {f : α → α → Bool} (hf : ∀ x y, f x y = true → x = y) : ∀ (l m : List α), sameL f l m = true → l = m
  | [], [], _ => rfl
  | [], _ :: _, h => by cases h
  | _ :: _, [], h => by cases h
  | x :: l, y :: m, h => by
    simp only [sameL, Bool.and_eq_true] at h
    rw [hf x y h.1, sameL_eq hf l m h.2]
omit [Val] in
theorem toList_nil {α : Type} {a : Array α} (h : a.toList.isEmpty = true) : a = #[] := by
  apply Array.ext'
  simpa using h
omit [Val] in
theorem bytes_eq {a b : ByteArray} (h : (a.data.toList == b.data.toList) = true) : a = b := by
  apply ByteArray.ext
  apply Array.ext'
  simpa using h
omit [Val] in
theorem sameA_eq (u v : Value) (h : sameA u v = true) : u = v := by
  unfold sameA at h
  split at h
  · simp at h; rw [h]
  · simp at h; rw [h.1, h.2]
  · rw [bytes_eq h]
  · rfl
  · simp at h; rw [h.1, h.2]
  · simp at h; rw [h.1, h.2]
  · rfl
  · rfl
  · simp only [Bool.and_eq_true] at h
    obtain ⟨⟨⟨⟨h1, h2⟩, h3⟩, h4⟩, h5⟩ := h
    rw [toList_nil h2, toList_nil h3, toList_nil h4, toList_nil h5]
    simp at h1
    rw [h1]
  · cases h
omit [Val] in
theorem sameV1_eq (u v : Value) (h : sameV1 u v = true) : u = v := by
  unfold sameV1 at h
  split at h
  · rw [Array.toList_inj.1 (sameL_eq sameA_eq _ _ h)]
  · exact sameA_eq _ _ h
omit [Val] in
theorem sameV_eq (u v : Value) (h : sameV u v = true) : u = v := by
  unfold sameV at h
  split at h
  · rw [Array.toList_inj.1 (sameL_eq sameV1_eq _ _ h)]
  · exact sameV1_eq _ _ h
omit [Val] in
theorem sameR0_eq (x y : RV) (h : sameR0 x y = true) : x = y := by
  unfold sameR0 at h
  split at h
  · rw [sameV_eq _ _ h]
  · simp at h; rw [h.1, h.2]
  · simp at h; rw [h.1.1, h.1.2, h.2]
  · simp at h; rw [h.1, h.2]
  · simp at h
    obtain ⟨⟨⟨⟨h1, h2⟩, h3⟩, h4⟩, h5⟩ := h
    rw [h1, h2, h3, h4, h5]
  · cases h
omit [Val] in
theorem sameR1_eq (x y : RV) (h : sameR1 x y = true) : x = y := by
  unfold sameR1 at h
  split at h
  · simp only [Bool.and_eq_true] at h
    obtain ⟨⟨h1, h2⟩, h3⟩ := h
    rw [sameL_eq sameR0_eq _ _ h2, sameL_eq sameR0_eq _ _ h3]
    simp at h1
    rw [h1]
  · rw [sameL_eq sameR0_eq _ _ h]
  · exact sameR0_eq _ _ h
omit [Val] in
theorem sameR_eq (x y : RV) (h : sameR x y = true) : x = y := by
  unfold sameR at h
  split at h
  · rw [sameL_eq sameR1_eq _ _ h]
  · exact sameR1_eq _ _ h
omit [Val] in
theorem sameO_eq (x y : Option RO) (h : sameO x y = true) : x = y := by
  unfold sameO at h
  split at h
  · rfl
  · simp only [Bool.and_eq_true, beq_iff_eq] at h
    obtain ⟨⟨⟨h1, h2⟩, h3⟩, h4⟩ := h
    rw [sameL_eq sameR_eq _ _ h1, h2, h3, h4]
  · simp only [Bool.and_eq_true, beq_iff_eq] at h
    rw [sameL_eq sameR_eq _ _ h.1, h.2]
  · simp only [Bool.and_eq_true] at h
    rw [bytes_eq h.1]
    have := h.2
    simp at this
    rw [this]
  · cases h
omit [Val] in
theorem sameSt_eq (x y : St) (h : sameSt x y = true) : x = y := by
  unfold sameSt at h
  simp only [Bool.and_eq_true] at h
  obtain ⟨t, h'⟩ := x
  obtain ⟨t2, h2⟩ := y
  have e1 : t = t2 := sameL_eq sameR_eq _ _ h.1
  have e2 : h' = h2 := sameL_eq sameO_eq _ _ h.2
  rw [e1, e2]

omit [Val] in
theorem branches_spec {f : Nat → Option St} : ∀ (l : List Nat) (s : St), branches f l = some s → ∀ i ∈ l, f i = some s
  | [], s, h => by cases h
  | [i], s, h => by
    intro j hj
    simp at hj
    subst hj
    exact h
  | i :: k :: l, s, h => by
    have e : branches f (i :: k :: l) = (match f i with
      | some s => match branches f (k :: l) with
        | some s' => if sameSt s s' then some s else none
        | none => none
      | none => none) := rfl
    rw [e] at h
    split at h
    · rename_i s1 h1
      split at h
      · rename_i s2 h2
        split at h
        · rename_i hsame
          cases h
          have := sameSt_eq _ _ hsame
          subst this
          intro j hj
          rcases List.mem_cons.1 hj with rfl | hj
          · exact h1
          · exact branches_spec (k :: l) s h2 j hj
        · cases h
      · cases h
    · cases h

omit [Val] in
theorem anyB_spec {F : St → Nat → Option St} {first : Array Bool → Nat → Bool} {ops : Array Oper} (hcom : Com F first ops) (hmono : Mono first) : ∀ (n : Nat) (listed : Array Bool) (s s' : St), anyB F first ops n listed s = some s' → AnyR F ops n listed s s'
  | 0, listed, s, s', h => by
    have e : anyB F first ops 0 listed s = (match Region.ready .any ops listed with | [] => some s | _ :: _ => none) := rfl
    rw [e] at h
    split at h
    · rename_i h0
      cases h
      exact ⟨h0, rfl⟩
    · cases h
  | n + 1, listed, s, s', h => by
    have e : anyB F first ops (n + 1) listed s = (match Region.ready .any ops listed with
      | [] => some s
      | i :: r => anyStep F first (anyB F first ops n) listed s (i :: r)) := rfl
    rw [e] at h
    split at h
    · rename_i h0
      cases h
      exact ⟨fun _ => rfl, fun i hi => (by rw [h0] at hi; cases hi)⟩
    · rename_i i r hr
      have step : ∀ k, thenS (anyB F first ops n) (listed.setIfInBounds k true) (F s k) = some s' → ∃ s1, F s k = some s1 ∧ AnyR F ops n (listed.setIfInBounds k true) s1 s' := fun k hk => by
        unfold thenS at hk
        split at hk
        · rename_i s1 h1
          exact ⟨s1, h1, anyB_spec hcom hmono n _ s1 s' hk⟩
        · cases hk
      unfold anyStep at h
      split at h
      · rename_i k hk
        obtain ⟨s1, h1, H⟩ := step k h
        have hmem := List.mem_of_find?_eq_some hk
        have hfirst := List.find?_some hk
        exact anyR_first hcom hmono n listed s s1 s' k (by rw [hr]; exact hmem) hfirst h1 H
      · exact ⟨fun h0 => (by rw [h0] at hr; cases hr), fun k hk => step k (branches_spec _ _ h k (by rw [← hr]; exact hk))⟩
end
end Go.Ri
