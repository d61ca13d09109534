/- An interpreter for calls whose arguments are closed or names, and its soundness: a part of the proofs. -/
import Derived.Test.YtjeikabpnplogaaRiC
namespace Go.Ri
open Go Go.RowKit
variable [Val]

section
variable {P : Program} {g : Cfg} {C : CallF} {base : Nat} {w0 : World} {E : Env} {h : RH} {w : World} {t : List RV} {a : Act}

omit [Val] in
theorem effR_eq (o : Oper) (t : List RV) (h : RH) : effR P g o t h = effC P g o t h := rfl

/-! Regions that leave the heap alone: one order serves all. -/
theorem doCallQ_ok (hC : CallOK P g C) (hX : XOK P g) {f : FuncId} {args : List RV} {v : RV} (hd : doCallQ g C f args h = some v) (H : HInv g.ro base w0 E h w) {vs : List Value} (ha : All2 (VRel E) args vs) :
    Calls P f vs.toArray w (fun e w' => (∃ u, e = .returned u ∧ VRel E v u) ∧ HInv g.ro base w0 E h w') := by
  unfold doCallQ at hd
  split at hd
  · rename_i us hus
    have hvs : vs = us := plains_rel hus ha
    subst hvs
    split at hd
    · rename_i v' hv
      cases hd
      exact (hX.x f vs _ hv w H.roIn).mono fun e w' ⟨he, hb⟩ => ⟨⟨_, he, rfl⟩, H.world hb⟩
    · split at hd
      · rename_i v' h2 hc
        cases hd
        have ha' : All2 (VRel []) args vs := by
          rw [plains_spec hus]
          exact All2.pls _
        refine (hC f args [] _ _ hc w.heap.size w [] w vs (HInv.start H.roIn) ha').mono fun e w' ⟨u, E', he, _, hv, H'⟩ => ?_
        exact ⟨⟨_, he, hv⟩, H.world H'.below⟩
      · cases hd
  · split at hd
    · rename_i hfl
      have ha' : All2 (VRel []) args vs := flats_rel hfl ha
      split at hd
      · rename_i r0 hy
        split at hd
        · rename_i hfr
          cases hd
          exact (hX.y f args _ hy hfr vs ha' w H.roIn).mono fun e w' ⟨⟨u, he, hv⟩, hb⟩ => ⟨⟨u, he, flat_rel hfr hv⟩, H.world hb⟩
        · cases hd
      · split at hd
        · rename_i r0 h2 hc
          split at hd
          · rename_i hfr
            cases hd
            exact (hC f args [] _ _ hc w.heap.size w [] w vs (HInv.start H.roIn) ha').mono fun e w' ⟨u, E', he, _, hv, H'⟩ => ⟨⟨u, he, flat_rel hfr hv⟩, H.world H'.below⟩
          · cases hd
        · cases hd
    · unfold lentN at hd
      split at hd
      · rename_i ds hds
        split at hd
        · rename_i r1 hr1
          split at hd
          · rename_i hfr
            cases hd
            exact (hX.lc f ds _ hr1 hfr base w0 E h w args vs H hds ha).mono fun e w' ⟨⟨u, he, hv⟩, hb⟩ => ⟨⟨u, he, flat_rel hfr hv⟩, H.world hb⟩
          · cases hd
        · cases hd
      · cases hd

omit [Val] in
theorem doCallQ_flat {f : FuncId} {args : List RV} {v : RV} (hd : doCallQ g C f args h = some v) : flat v = true := by
  unfold doCallQ at hd
  split at hd
  · split at hd
    · cases hd; rfl
    · split at hd
      · cases hd; rfl
      · cases hd
  · split at hd
    · split at hd
      · split at hd
        · cases hd; assumption
        · cases hd
      · split at hd
        · split at hd
          · cases hd; assumption
          · cases hd
        · cases hd
    · unfold lentN at hd
      split at hd
      · split at hd
        · split at hd
          · cases hd; assumption
          · cases hd
        · cases hd
      · cases hd

theorem appQ_quiet (G : CfgOK P g) (hC : CallOK P g C) (hX : XOK P g) {o : Oper} {s s' : St} (ht : All2 (VRel E) s.t a.tmps.toList) (hw : HInv g.ro base w0 E s.h w) (hs : appQ g C s.t s.h o.dst (effR P g o s.t s.h) = some s') :
    s'.h = s.h ∧ ∃ v u, VRel E v u ∧ s'.t = putT s.t o.dst v ∧ ∀ w, HInv g.ro base w0 E s.h w → o.quietAt P a (fun w' => HInv g.ro base w0 E s.h w') w u := by
  rw [effR_eq] at hs
  cases he : effC P g o s.t s.h with
  | none => rw [he] at hs; cases hs
  | some e =>
    rw [he] at hs
    have fits : ∀ w, HInv g.ro base w0 E s.h w → Fits g.ro base w0 E s.h w ((execOp a.eval o).run P w) e := fun w H => opC_fits hX.t G H ht o he
    have plain : ∀ v, (∀ w, HInv g.ro base w0 E s.h w → ∃ u, VRel E v u ∧ ((execOp a.eval o).run P w = .ok (.value u) w ∨ ((execOp a.eval o).run P w = .ok .skip w ∧ u = undef))) → s' = ⟨putT s.t o.dst v, s.h⟩ →
        s'.h = s.h ∧ ∃ v u, VRel E v u ∧ s'.t = putT s.t o.dst v ∧ ∀ w, HInv g.ro base w0 E s.h w → o.quietAt P a (fun w' => HInv g.ro base w0 E s.h w') w u := by
      intro v hf hs'
      obtain ⟨u, hv, _⟩ := hf w hw
      subst hs'
      refine ⟨rfl, v, u, hv, rfl, fun w2 H2 => ?_⟩
      obtain ⟨u2, hv2, hr⟩ := hf w2 H2
      have hu := VRel.fn v u u2 hv hv2
      subst hu
      unfold Oper.quietAt
      rcases hr with hr | ⟨hr, hu⟩
      · rw [hr]; exact ⟨rfl, rfl⟩
      · rw [hr]; exact ⟨rfl, hu⟩
    cases e with
    | val v =>
      simp only [appQ, putS_eq] at hs
      cases hs
      exact plain v fits rfl
    | same v =>
      simp only [appQ, putF_eq] at hs
      cases hs
      exact plain v fits rfl
    | call f args =>
      simp only [appQ, putF_eq] at hs
      cases hd : doCallQ g C f args s.h with
      | none => rw [hd] at hs; cases hs
      | some v =>
        rw [hd] at hs
        cases hs
        have hfl := doCallQ_flat hd
        refine ⟨rfl, v, cvF v, rel_cvF hfl, rfl, fun w2 H2 => ?_⟩
        obtain ⟨vs, ha, hr⟩ := fits w2 H2
        unfold Oper.quietAt
        rw [hr]
        exact ⟨rfl, (doCallQ_ok hC hX hd H2 ha).mono fun e w' ⟨⟨u, he, hu⟩, H3⟩ => ⟨by rw [he, VRel.fn v u _ hu (rel_cvF hfl)], H3⟩⟩
    | setB v b ob => cases hs
    | newB v ob => cases hs
    | moveB v b ob => cases hs
    | move2 v b b2 ob => cases hs

theorem runQ_ok (G : CfgOK P g) (hC : CallOK P g C) (hX : XOK P g) {ops : Array Oper} {h : RH} (hw : HInv g.ro base w0 E h w) {Q : Act → Prop} : ∀ (l : List Oper) (s s' : St) (a : Act), s.h = h → All2 (VRel E) s.t a.tmps.toList → a.defers = [] → runQ P g C ops l s = some s' →
    (s'.h = h → ∀ a', All2 (VRel E) s'.t a'.tmps.toList → a'.defers = [] → Q a') → wpQuiet P ops (fun w' => HInv g.ro base w0 E h w') Q l a
  | [], s, s', a, hh, ht, hd, hr, hQ => by
    cases hr
    exact wpQuiet_nil (hQ hh a ht hd)
  | o :: l, s, s', a, hh, ht, hd, hr, hQ => by
    have e : runQ P g C ops (o :: l) s = (match stepQ P g C ops o s with | some s' => runQ P g C ops l s' | none => none) := rfl
    rw [e] at hr
    split at hr
    · rename_i s1 h1
      subst hh
      have go : appQ g C s.t s.h o.dst (effR P g o s.t s.h) = some s1 → o.quiet P a (fun w' => HInv g.ro base w0 E s.h w') (wpQuiet P ops (fun w' => HInv g.ro base w0 E s.h w') Q l) := fun hb => by
        obtain ⟨e1, v, u, hv, e2, hq⟩ := appQ_quiet (a := a) G hC hX ht hw hb
        exact ⟨u, hq, runQ_ok G hC hX hw l s1 s' _ e1 (by rw [e2]; exact put_rel ht o.dst hv) ((put_defers _ _).trans hd) hr hQ⟩
      show if Region.wanted o (yielded ops a.tmps) then _ else _
      unfold Region.wanted
      obtain ⟨st, sh⟩ := s
      cases hg : o.guard with
      | none =>
        simp only [stepQ, hg] at h1
        simp only [if_true]
        exact go h1
      | some p =>
        obtain ⟨j, want⟩ := p
        simp only [stepQ, hg, guardQ, putS_eq] at h1
        simp only
        split at h1
        · cases h1
        rename_i hsym
        rw [yielded_eq ops ht j hsym] at h1
        split at h1
        · rename_i hy
          rw [if_pos hy]
          exact go h1
        · rename_i hy
          rw [if_neg hy]
          cases h1
          exact runQ_ok G hC hX hw l ⟨putT st o.dst (.pl undef), sh⟩ s' _ rfl (put_rel ht o.dst (show VRel E (.pl undef) undef from rfl)) ((put_defers _ _).trans hd) hr hQ
    · cases hr

omit [Val] in
theorem ev_put {x : Operand} {d : Option Tmp} {v : RV} (hx : ∀ k, d = some k → x ≠ .tmp k) : ev (putT t d v) x = ev t x := by
  cases d with
  | none => rfl
  | some k =>
    cases x with
    | tmp i =>
      have hne : k ≠ i := fun e => hx k rfl (by rw [e])
      show nth _ _ = nth _ _
      rw [nth_eq, nth_eq, List.getD_eq_getElem?_getD, List.getD_eq_getElem?_getD]
      simp only [putT]
      rw [List.getElem?_set_ne hne]
    | const u => rfl
    | global k => rfl
    | func f => rfl
omit [Val] in
theorem evL_put {l : Array Operand} {d : Option Tmp} {v : RV} (hx : ∀ x ∈ l, ∀ k, d = some k → x ≠ .tmp k) : evL (putT t d v) l = evL t l := by
  unfold evL
  exact List.map_congr_left fun x hm => ev_put (hx x (by simpa using hm))
omit [Val] in
theorem evP_put {l : Array (Nat × Operand)} {d : Option Tmp} {v : RV} (hx : ∀ p ∈ l, ∀ k, d = some k → p.2 ≠ .tmp k) : evP (putT t d v) l = evP t l := by
  unfold evP
  exact List.map_congr_left fun p hm => by rw [ev_put (hx p (by simpa using hm))]
omit [Val] in
theorem evO_put {x : Option Operand} {d : Option Tmp} {v : RV} (hx : ∀ y, x = some y → ∀ k, d = some k → y ≠ .tmp k) : x.map (ev (putT t d v)) = x.map (ev t) := by
  cases x with
  | none => rfl
  | some y => simp [ev_put (hx y rfl)]

omit [Val] in
theorem memC_put {op : Op} {d : Option Tmp} {v : RV} (hx : ∀ x ∈ op.operands, ∀ k, d = some k → x ≠ .tmp k) (h : RH) : (memC P g op).f (putT t d v) h = (memC P g op).f t h := by
  cases op <;> simp only [Op.operands] at hx <;> simp only [memC] <;> (try rfl)
  case move x => rw [ev_put (hx x (by simp))]
  case assign x => rw [ev_put (hx x (by simp))]
  case pick c x y => rw [ev_put (hx c (by simp)), ev_put (hx x (by simp)), ev_put (hx y (by simp))]
  case box e x => rw [ev_put (hx x (by simp))]
  case build ty ps => rw [evP_put fun p hp => hx p.2 (by simp; exact ⟨p.1, by simpa using hp⟩)]
  case buildSlice ty n ps => rw [evP_put fun p hp => hx p.2 (by simp; exact ⟨p.1, by simpa using hp⟩)]
  case load ty x => rw [ev_put (hx x (by simp))]
  case store ty x y => rw [ev_put (hx x (by simp)), ev_put (hx y (by simp))]
  case nilCheck x => rw [ev_put (hx x (by simp))]
  case binOp op ty x y yt => rw [ev_put (hx x (by simp)), ev_put (hx y (by simp))]
  case unOp op ty x => rw [ev_put (hx x (by simp))]
  case convert s d x => rw [ev_put (hx x (by simp))]
  case makeFunc f x y => rw [evL_put fun z hz => hx z (by simp [hz]), evL_put fun z hz => hx z (by simp [hz])]
  case makeSlice ty x y => rw [ev_put (hx x (by simp)), ev_put (hx y (by simp))]
  case slice ty x lo hi mx =>
    rw [ev_put (hx x (by simp)), evO_put fun y hy => hx y (by simp [hy]), evO_put fun y hy => hx y (by simp [hy]), evO_put fun y hy => hx y (by simp [hy])]
  case index ty x i => rw [ev_put (hx x (by simp)), ev_put (hx i (by simp))]
  case fieldAddr s x f => rw [ev_put (hx x (by simp))]
  case field s x f => rw [ev_put (hx x (by simp))]
  case indexAddr ty x i => rw [ev_put (hx x (by simp)), ev_put (hx i (by simp))]
  case range ty x => rw [ev_put (hx x (by simp))]
  case next x s => rw [ev_put (hx x (by simp))]
  case extract x i => rw [ev_put (hx x (by simp))]
  case call c =>
    unfold mCall
    have ha := evL_put (t := t) (d := d) (v := v) (l := c.args) fun z hz => hx z (by simp [Call.operands, hz])
    cases hc : c.callee with
    | builtin b => simp only [ha]
    | value f =>
      simp only [ha]
      rw [ev_put (hx f (by simp [Call.operands, hc]))]
    | invoke r m => rfl

omit [Val] in
theorem pureOp_put {o : Oper} {d : Option Tmp} {v : RV} (hx : ∀ x ∈ o.op.operands, ∀ k, d = some k → x ≠ .tmp k) : pureOp P o (putT t d v) = pureOp P o t := by
  unfold pureOp
  split
  · rfl
  · rename_i hsel
    have e1 : o.op.operands.toList.all (fun x => (ev (putT t d v) x).isPl) = o.op.operands.toList.all (fun x => (ev t x).isPl) := by
      rw [Bool.eq_iff_iff]
      simp only [List.all_eq_true]
      exact ⟨fun hh x hm => by rw [← ev_put (t := t) (v := v) (hx x (by simpa using hm))]; exact hh x hm, fun hh x hm => by rw [ev_put (hx x (by simpa using hm))]; exact hh x hm⟩
    have e2 : execOp (fun x => (ev (putT t d v) x).v) o = execOp (fun x => (ev t x).v) o :=
      execOp_congr o (fun cs b e => hsel cs b e) fun x hm => by rw [ev_put (hx x hm)]
    rw [e1, e2]

omit [Val] in
theorem effC_put {o : Oper} {d : Option Tmp} {v : RV} (hx : ∀ x ∈ o.op.operands, ∀ k, d = some k → x ≠ .tmp k) (h : RH) : effC P g o (putT t d v) h = effC P g o t h := by
  unfold effC orElse
  rw [memC_put hx, pureOp_put hx]

omit [Val] in
theorem looks_spec {ops : Array Oper} {o : Oper} {d : Option Tmp} (hd : ∀ k, d = some k → k ∉ o.looksAt ops) : ∀ x ∈ o.op.operands, ∀ k, d = some k → x ≠ .tmp k := by
  intro x hx k hk e
  subst e
  exact hd k hk (List.mem_append_left _ (List.mem_filterMap.2 ⟨.tmp k, by simpa using hx, rfl⟩))

omit [Val] in
theorem yieldedR_put {ops : Array Oper} {o : Oper} {d : Option Tmp} {v : RV} (hd : ∀ k, d = some k → k ∉ o.looksAt ops) {j : Nat} {want : Bool} (hg : o.guard = some (j, want)) : yieldedR ops (putT t d v) j = yieldedR ops t j := by
  cases d with
  | none => rfl
  | some k =>
    unfold yieldedR
    cases ht : (ops[j]?).bind (·.dst) with
    | none => rfl
    | some q =>
      have hne : k ≠ q := fun e => hd k rfl (by subst e; simp [Oper.looksAt, hg, ht])
      simp only [Option.bind_some, putT]
      rw [List.getElem?_set_ne hne]

omit [Val] in
theorem symAt_put {ops : Array Oper} {o : Oper} {d : Option Tmp} {v : RV} (hd : ∀ k, d = some k → k ∉ o.looksAt ops) {j : Nat} {want : Bool} (hg : o.guard = some (j, want)) : symAt ops (putT t d v) j = symAt ops t j := by
  cases d with
  | none => rfl
  | some k =>
    unfold symAt
    cases ht : (ops[j]?).bind (·.dst) with
    | none => rfl
    | some q =>
      have hne : k ≠ q := fun e => hd k rfl (by subst e; simp [Oper.looksAt, hg, ht])
      simp only [Option.bind_some, putT]
      rw [List.getElem?_set_ne hne]

omit [Val] in
theorem putT_comm {x y : Option Tmp} {v u : RV} (hxy : ∀ k, x = some k → y ≠ some k) : putT (putT t x v) y u = putT (putT t y u) x v := by
  cases x with
  | none => rfl
  | some k =>
    cases y with
    | none => rfl
    | some q =>
      have hne : k ≠ q := fun e => hxy k rfl (by rw [e])
      exact List.set_comm _ _ hne

omit [Val] in
/-- An operation that is apart from 'x' does the same behind it. -/
theorem stepW_put {ops : Array Oper} {x y : Oper} {v : RV} (hap : x.apart ops y = true) (h : RH) :
    stepW P g C ops y ⟨putT t x.dst v, h⟩ = (stepW P g C ops y ⟨t, h⟩).map fun s => ⟨putT s.t x.dst v, s.h⟩ := by
  obtain ⟨h1, h2, h3⟩ := Oper.apart_spec hap
  rw [stepW_eq, stepW_eq]
  have heff : effC P g y (putT t x.dst v) h = effC P g y t h := effC_put (looks_spec h1) h
  have happ : ∀ e, appE g C (putT t x.dst v) h y.dst e = (appE g C t h y.dst e).map fun s => ⟨putT s.t x.dst v, s.h⟩ := by
    intro e
    cases e with
    | call f args =>
      simp only [appE]
      cases doCall g C f args h with
      | none => rfl
      | some p => simp [putT_comm h2]
    | _ => simp [appE, putT_comm h2]
  have hb : (effC P g y t h).bind (appE g C (putT t x.dst v) h y.dst) = ((effC P g y t h).bind (appE g C t h y.dst)).map fun s => ⟨putT s.t x.dst v, s.h⟩ := by
    cases effC P g y t h with
    | none => rfl
    | some e => exact happ e
  cases hg : y.guard with
  | none =>
    simp only [heff]
    exact hb
  | some p =>
    obtain ⟨j, want⟩ := p
    simp only [heff, yieldedR_put h1 hg, symAt_put h1 hg]
    split
    · rfl
    · split
      · exact hb
      · simp [putT_comm h2]

/-! Regions that write: every order comes to one state, but for the numbers of new blocks. -/
def AnyR (n0 : Nat) (F : St → Nat → Option St) (ops : Array Oper) : Nat → Array Bool → St → St → Prop
  | 0, listed, s, s' => Region.ready .any ops listed = [] ∧ Mor n0 s s'
  | n + 1, listed, s, s' => (Region.ready .any ops listed = [] → Mor n0 s s') ∧ ∀ i ∈ Region.ready .any ops listed, ∃ s1, F s i = some s1 ∧ AnyR n0 F ops n (listed.setIfInBounds i true) s1 s'
omit [Val] in
theorem anyR_mor {n0 : Nat} {F : St → Nat → Option St} {ops : Array Oper} : ∀ (n : Nat) (listed : Array Bool) (s s' s'' : St), AnyR n0 F ops n listed s s' → Mor n0 s' s'' → AnyR n0 F ops n listed s s''
  | 0, _, _, _, _, h, m => ⟨h.1, h.2.trans m⟩
  | n + 1, _, _, _, _, h, m => ⟨fun h0 => (h.1 h0).trans m, fun i hi => by
    obtain ⟨s1, e, H⟩ := h.2 i hi
    exact ⟨s1, e, anyR_mor n _ _ _ _ H m⟩⟩
omit [Val] in
theorem take_pre {n0 : Nat} {E E' : Env} (h : E <+: E') (hn : n0 ≤ E.length) : E'.take n0 = E.take n0 := by
  obtain ⟨t, rfl⟩ := h
  rw [List.take_append_of_le_length hn]
theorem anyR_ok (G : CfgOK P g) (hC : CallOK P g C) (hX : XOK P g) {ops : Array Oper} {F : St → Nat → Option St} (hF : ∀ s i s1, F s i = some s1 → stepAt P g C ops s i = some s1) {Q : Exit → Act → World → Prop} {n0 : Nat} {E0 : Env} :
    ∀ (n : Nat) (listed : Array Bool) (s s' : St) (E : Env) (a : Act) (w : World), n0 ≤ E.length → E.take n0 = E0 → Sim g base w0 s E a w → AnyR n0 F ops n listed s s' →
    (∀ E' a' w', E0 <+: E' → Sim g base w0 s' E' a' w' → Q .normal a' w') → wpAny P .any ops Q n listed a w
  | 0, listed, s, s', E, a, w, hn, hE0, S, hr, hQ => by
    obtain ⟨h1, h2⟩ := hr
    obtain ⟨E', e1, _, S'⟩ := h2 _ g base w0 E a w hn S
    refine ⟨h1, hQ E' a w ?_ S'⟩
    rw [← hE0, ← e1]
    exact List.take_prefix n0 E'
  | n + 1, listed, s, s', E, a, w, hn, hE0, S, hr, hQ => by
    obtain ⟨h1, h2⟩ := hr
    refine ⟨fun h0 => ?_, fun i hi => ?_⟩
    · obtain ⟨E', e1, _, S'⟩ := h1 h0 _ g base w0 E a w hn S
      refine hQ E' a w ?_ S'
      rw [← hE0, ← e1]
      exact List.take_prefix n0 E'
    obtain ⟨s1, hs1, hrest⟩ := h2 i hi
    have hs1 := hF s i s1 hs1
    unfold stepAt at hs1
    unfold wpOp
    cases ho : ops[i]? with
    | none => rw [ho] at hs1; cases hs1
    | some o =>
      rw [ho] at hs1
      exact stepW_ok G hC hX S hs1 fun E' a' w' hE S' => anyR_ok G hC hX hF n _ s1 s' E' a' w' (Nat.le_trans hn hE.length_le) ((take_pre hE hn).trans hE0) S' hrest hQ

/-- What is listed, with all that it waits for. -/
def Cl (ops : Array Oper) (listed : Array Bool) : Prop := ∀ k ok, ops[k]? = some ok → listed.getD k true = true → ∀ e ∈ ok.after, Region.binds .any e = true → listed.getD e.on false = true
omit [Val] in
theorem getD_set_t {listed : Array Bool} {i k : Nat} (h : listed.getD k false = true) : (listed.setIfInBounds i true).getD k false = true := by
  by_cases hik : i = k
  · subst hik
    by_cases hlt : i < listed.size
    · simp [hlt]
    · simp [hlt] at h
  · rw [getD_set_ne false hik]
    exact h
omit [Val] in
theorem Cl.set {ops : Array Oper} {listed : Array Bool} {i : Nat} (h : Cl ops listed) (hi : i ∈ Region.ready .any ops listed) : Cl ops (listed.setIfInBounds i true) := by
  intro k ok hk hl e he hb
  by_cases hik : i = k
  · subst hik
    obtain ⟨_, o, ho, hall⟩ := mem_ready.1 hi
    rw [hk] at ho
    cases ho
    exact getD_set_t (hall e he hb)
  · rw [getD_set_ne true hik] at hl
    exact getD_set_t (h k ok hk hl e he hb)
omit [Val] in
theorem Cl.init (ops : Array Oper) : Cl ops (Array.replicate ops.size false) := by
  intro k ok hk hl
  have hlt := (Array.getElem?_eq_some_iff.1 hk).1
  simp [hlt] at hl
def Com (F : St → Nat → Option St) (first : Array Bool → Nat → Bool) (ops : Array Oper) : Prop := ∀ listed s s1 s2 i j, Cl ops listed → first listed i = true → i ∈ Region.ready .any ops listed → j ∈ Region.ready .any ops listed → j ≠ i →
  F s i = some s1 → F s1 j = some s2 → ∃ s2', F s j = some s2' ∧ F s2' i = some s2
def Mono (first : Array Bool → Nat → Bool) : Prop := ∀ listed i j, first listed i = true → first (listed.setIfInBounds j true) i = true

omit [Val] in
theorem anyR_first {n0 : Nat} {F : St → Nat → Option St} {first : Array Bool → Nat → Bool} {ops : Array Oper} (hcom : Com F first ops) (hmono : Mono first) : ∀ (n : Nat) (listed : Array Bool) (s s1 s' : St) (i : Nat), Cl ops listed → i ∈ Region.ready .any ops listed → first listed i = true →
    F s i = some s1 → AnyR n0 F ops n (listed.setIfInBounds i true) s1 s' → AnyR n0 F ops (n + 1) listed s s'
  | 0, listed, s, s1, s', i, hcl, hi, hf, h1, H => by
    refine ⟨fun h0 => (by rw [h0] at hi; cases hi), fun j hj => ?_⟩
    by_cases hji : j = i
    · subst hji; exact ⟨s1, h1, H⟩
    · have := ready_mono hj hji
      rw [H.1] at this
      cases this
  | n + 1, listed, s, s1, s', i, hcl, hi, hf, h1, H => by
    refine ⟨fun h0 => (by rw [h0] at hi; cases hi), fun j hj => ?_⟩
    by_cases hji : j = i
    · subst hji; exact ⟨s1, h1, H⟩
    · obtain ⟨s2, h2, H2⟩ := H.2 j (ready_mono hj hji)
      obtain ⟨s2', k1, k2⟩ := hcom listed s s1 s2 i j hcl hf hi hj hji h1 h2
      refine ⟨s2', k1, anyR_first hcom hmono n _ s2' s2 s' i (hcl.set hj) (ready_mono hi (Ne.symm hji)) (hmono _ _ _ hf) k2 ?_⟩
      rw [Array.setIfInBounds_comm _ _ hji]
      exact H2

omit [Val] in
theorem branches_spec {n0 : Nat} {f : Nat → Option St} : ∀ (l : List Nat) (s : St), branches n0 f l = some s → ∀ i ∈ l, ∃ s1, f i = some s1 ∧ Mor n0 s1 s
  | [], s, h => by cases h
  | [i], s, h => by
    intro j hj
    simp at hj
    subst hj
    exact ⟨s, h, Mor.rfl'⟩
  | i :: k :: l, s, h => by
    have e : branches n0 f (i :: k :: l) = (match f i with
      | some s => match branches n0 f (k :: l) with
        | some s' => if sameSt s s' || samePm n0 s' s then some s else none
        | none => none
      | none => none) := rfl
    rw [e] at h
    split at h
    · rename_i s1 h1
      split at h
      · rename_i s2 h2
        split at h
        · rename_i hsame
          cases h
          have hm : Mor n0 s2 s := by
            rw [Bool.or_eq_true] at hsame
            rcases hsame with hs | hs
            · rw [sameSt_eq _ _ hs]; exact Mor.rfl'
            · exact samePm_mor hs
          intro j hj
          rcases List.mem_cons.1 hj with rfl | hj
          · exact ⟨s, h1, Mor.rfl'⟩
          · obtain ⟨s3, e3, m3⟩ := branches_spec (k :: l) s2 h2 j hj
            exact ⟨s3, e3, m3.trans hm⟩
        · cases h
      · cases h
    · cases h

omit [Val] in
theorem anyB_spec {n0 : Nat} {F : St → Nat → Option St} {first : Array Bool → Nat → Bool} {ops : Array Oper} (hcom : Com F first ops) (hmono : Mono first) : ∀ (n : Nat) (listed : Array Bool) (s s' : St), Cl ops listed → anyB n0 F first ops n listed s = some s' → AnyR n0 F ops n listed s s'
  | 0, listed, s, s', hcl, h => by
    have e : anyB n0 F first ops 0 listed s = (match Region.ready .any ops listed with | [] => some s | _ :: _ => none) := rfl
    rw [e] at h
    split at h
    · rename_i h0
      cases h
      exact ⟨h0, Mor.rfl'⟩
    · cases h
  | n + 1, listed, s, s', hcl, h => by
    have e : anyB n0 F first ops (n + 1) listed s = (match Region.ready .any ops listed with
      | [] => some s
      | i :: r => anyStep n0 F first (anyB n0 F first ops n) listed s (i :: r)) := rfl
    rw [e] at h
    split at h
    · rename_i h0
      cases h
      exact ⟨fun _ => Mor.rfl', fun i hi => (by rw [h0] at hi; cases hi)⟩
    · rename_i i r hr
      have step : ∀ k s2, k ∈ Region.ready .any ops listed → thenS (anyB n0 F first ops n) (listed.setIfInBounds k true) (F s k) = some s2 → ∃ s1, F s k = some s1 ∧ AnyR n0 F ops n (listed.setIfInBounds k true) s1 s2 := fun k s2 hkr hk => by
        unfold thenS at hk
        split at hk
        · rename_i s1 h1
          exact ⟨s1, h1, anyB_spec hcom hmono n _ s1 s2 (hcl.set hkr) hk⟩
        · cases hk
      unfold anyStep at h
      split at h
      · rename_i k hk
        have hmem := List.mem_of_find?_eq_some hk
        obtain ⟨s1, h1, H⟩ := step k s' (by rw [hr]; exact hmem) h
        have hfirst := List.find?_some hk
        exact anyR_first hcom hmono n listed s s1 s' k hcl (by rw [hr]; exact hmem) hfirst h1 H
      · exact ⟨fun h0 => (by rw [h0] at hr; cases hr), fun k hk => by
        obtain ⟨s2, e2, m2⟩ := branches_spec _ _ h k (by rw [← hr]; exact hk)
        obtain ⟨s1, h1, H⟩ := step k s2 hk e2
        exact ⟨s1, h1, anyR_mor n _ _ _ _ H m2⟩⟩
end
end Go.Ri

namespace Go.Ri
open Go Go.RowKit
variable [Val]

section
variable {P : Program} {g : Cfg} {C : CallF} {t : List RV} {h : RH}

def valOrSame (e : Eff) : Prop := (∃ v, e = .val v) ∨ (∃ v, e = .same v)

omit [Val] in
theorem map_val {x : Option RV} {e : Eff} (h : x.map Eff.val = some e) : valOrSame e := by
  obtain ⟨v, _, rfl⟩ := optMap h
  exact .inl ⟨v, rfl⟩
omit [Val] in
theorem map_same {x : Option RV} {e : Eff} (h : x.map Eff.same = some e) : valOrSame e := by
  obtain ⟨v, _, rfl⟩ := optMap h
  exact .inr ⟨v, rfl⟩

omit [Val] in
theorem mBin_val {op : BinOp} {ty : TypeId} {x y : RV} {e : Eff} (hs : mBin P op ty x y = some e) : valOrSame e := by
  unfold mBin at hs
  split at hs
  · unfold binII at hs
    split at hs
    · exact map_val hs
    · cases hs
  · unfold fastBool at hs
    split at hs
    · cases hs; exact .inl ⟨_, rfl⟩
    · cases hs; exact .inl ⟨_, rfl⟩
    · cases hs
  · exact map_val hs
  · exact map_val hs
  · unfold binRef at hs
    split at hs
    · cases hq : eqlOp P ty x y with
      | none => rw [hq] at hs; cases hs
      | some q => rw [hq] at hs; cases hs; exact .inl ⟨_, rfl⟩
    · cases hq : eqlOp P ty x y with
      | none => rw [hq] at hs; cases hs
      | some q => rw [hq] at hs; cases hs; exact .inl ⟨_, rfl⟩
    · cases hs

omit [Val] in
theorem tlook_same {c : TC} {x y : RV} {e : Eff} (h : (tlook g.T c x y).map Eff.same = some e) : valOrSame e := map_same h
omit [Val] in
theorem mBinS_val {op : BinOp} {ty : TypeId} {x y : RV} {e : Eff} (hs : mBinS P g op ty x y = some e) : valOrSame e := by
  unfold mBinS at hs
  split at hs
  · rename_i e' he
    cases hs
    exact mBin_val he
  · split at hs
    · rename_i e' he
      cases hs
      unfold slaNil at he
      split at he
      · cases hq : lblook0 g.LB _ with
        | none => rw [hq] at he; cases he
        | some k => rw [hq] at he; cases he; exact .inl ⟨_, rfl⟩
      · cases hq : lblook0 g.LB _ with
        | none => rw [hq] at he; cases he
        | some k => rw [hq] at he; cases he; exact .inl ⟨_, rfl⟩
      · cases he
    unfold symBin at hs
    split at hs
    · cases hs
    · split at hs
      · obtain ⟨q, _, rfl⟩ : ∃ q, symEq P g ty x y = some q ∧ e = .val (.pl (.bool q)) := by
          cases hq : symEq P g ty x y with
          | none => rw [hq] at hs; cases hs
          | some q => rw [hq] at hs; cases hs; exact ⟨q, rfl, rfl⟩
        exact .inl ⟨_, rfl⟩
      · obtain ⟨q, _, rfl⟩ : ∃ q, symEq P g ty x y = some q ∧ e = .val (.pl (.bool !q)) := by
          cases hq : symEq P g ty x y with
          | none => rw [hq] at hs; cases hs
          | some q => rw [hq] at hs; cases hs; exact ⟨q, rfl, rfl⟩
        exact .inl ⟨_, rfl⟩
      · exact map_same hs
omit [Val] in
theorem elAddr_val {ty : TypeId} {x i : RV} {e : Eff} (hs : elAddr P g ty x i = some e) : valOrSame e := by
  unfold elAddr at hs
  split at hs
  · split at hs
    · split at hs
      · cases hs; exact .inl ⟨_, rfl⟩
      · cases hs
    · cases hs
  · split at hs
    · split at hs
      · split at hs
        · cases hs; exact .inl ⟨_, rfl⟩
        · cases hs
      · cases hs
    · cases hs
  · split at hs
    · split at hs
      · split at hs
        · cases hs; exact .inl ⟨_, rfl⟩
        · cases hs
      · cases hs
    · cases hs
  · split at hs
    · split at hs
      · split at hs
        · cases hs; exact .inl ⟨_, rfl⟩
        · cases hs
      · cases hs
    · cases hs
  · split at hs
    · split at hs
      · cases hs; exact .inl ⟨_, rfl⟩
      · cases hs
    · cases hs
  · cases hs
omit [Val] in
theorem memC_pl {op : Op} (hp : (isP op || isL op) = true) {e : Eff} (hs : (memC P g op).f t h = some e) : valOrSame e := by
  cases op <;> simp only [isP, isL, Bool.or_self, Bool.or_false, Bool.or_true, Bool.false_eq_true] at hp <;> simp only [memC] at hs
  case move x => cases hs; exact .inr ⟨_, rfl⟩
  case assign x => cases hs; exact .inr ⟨_, rfl⟩
  case pick c x y =>
    unfold mPick at hs
    split at hs
    · cases hs; exact .inr ⟨_, rfl⟩
    · cases hs
  case build ty ps => exact map_val hs
  case load ty x =>
    unfold mLoad at hs
    split at hs
    · cases hs; exact .inr ⟨_, rfl⟩
    · split at hs
      · cases hs; exact .inr ⟨_, rfl⟩
      · exact map_same hs
  case nilCheck x =>
    unfold mNil at hs
    split at hs
    · cases hs; exact .inr ⟨_, rfl⟩
    · cases hs
  case binOp op ty x y yt => exact mBinS_val hs
  case unOp op ty x =>
    unfold mUn at hs
    split at hs
    · split at hs
      · rename_i e' he
        cases hs
        unfold mNot at he
        split at he
        · cases he; exact .inl ⟨_, rfl⟩
        · cases he
      · unfold symNot at hs
        split at hs
        · exact map_same hs
        · cases hs
    · unfold symNeg at hs
      split at hs
      · exact map_same hs
      · cases hs
    · cases hs
  case makeFunc f x y => cases hs; exact .inl ⟨_, rfl⟩
  case index ty x i =>
    unfold mIndex at hs
    have hsym : ∀ x i, symIndex P g ty x i = some e → valOrSame e := fun x i hs => by
      unfold symIndex at hs
      split at hs
      · exact map_same hs
      · cases hs
    split at hs
    · exact map_val hs
    · unfold aggIndex at hs
      split at hs
      · split at hs
        · split at hs
          · exact map_same hs
          · cases hs
        · cases hs
      · cases hs
    · exact hsym _ _ hs
    · exact hsym _ _ hs
    · cases hs
  case fieldAddr s x f => exact map_val hs
  case field s x f => exact map_val hs
  case indexAddr ty x i =>
    unfold mIndexAddr at hs
    split at hs
    · cases hs; exact .inl ⟨_, rfl⟩
    · unfold elAddrZ at hs
      split at hs
      · split at hs
        · exact elAddr_val hs
        · cases hs
      · split at hs
        · exact elAddr_val hs
        · cases hs
      · split at hs
        · exact elAddr_val hs
        · cases hs
      · exact elAddr_val hs
  case extract x i =>
    unfold mExtract at hs
    split at hs
    · cases hq : nthV _ i with
      | none => rw [hq] at hs; cases hs
      | some v => rw [hq] at hs; cases hs; exact .inr ⟨_, rfl⟩
    · exact map_same hs
    · cases hs

omit [Val] in
theorem pureOp_kind {o : Oper} {e : Eff} (hs : pureOp P o t = some e) : (∃ v, e = .val v) ∨ ∃ f as, e = .call f as := by
  unfold pureOp at hs
  split at hs
  · cases hs
  · split at hs
    · split at hs
      · cases hs; exact .inl ⟨_, rfl⟩
      · cases hs; exact .inl ⟨_, rfl⟩
      · cases hs; exact .inr ⟨_, _, rfl⟩
      · cases hs
    · cases hs

omit [Val] in
theorem effC_pl {o : Oper} (hp : (isP o.op || isL o.op) = true) {e : Eff} (hs : effC P g o t h = some e) : valOrSame e := by
  unfold effC orElse at hs
  split at hs
  · rename_i e' he
    cases hs
    exact memC_pl hp he
  · unfold noCall at hs
    rw [hp] at hs
    split at hs
    · cases hs
    · rename_i hne
      rcases pureOp_kind hs with ⟨v, rfl⟩ | ⟨f, as, rfl⟩
      · exact .inl ⟨v, rfl⟩
      · exact absurd hs (hne f as)

omit [Val] in
theorem memC_h {op : Op} (hp : isP op = true) (h h' : RH) : (memC P g op).f t h = (memC P g op).f t h' := by
  cases op <;> simp only [isP, Bool.false_eq_true] at hp <;> rfl
omit [Val] in
theorem effC_h {o : Oper} (hp : isP o.op = true) (h h' : RH) : effC P g o t h = effC P g o t h' := by
  unfold effC
  rw [memC_h hp h h']

omit [Val] in
theorem appE_val {e : Eff} (he : valOrSame e) {d : Option Tmp} {s1 : St} (hs : appE g C t h d e = some s1) : ∃ v, (∀ t' h', appE g C t' h' d e = some ⟨putT t' d v, h'⟩) ∧ s1 = ⟨putT t d v, h⟩ := by
  rcases he with ⟨v, rfl⟩ | ⟨v, rfl⟩
  · cases hs; exact ⟨v, fun _ _ => rfl, rfl⟩
  · cases hs; exact ⟨v, fun _ _ => rfl, rfl⟩

omit [Val] in
/-- What a step does to the temporaries. -/
theorem stepW_t {ops : Array Oper} {o : Oper} {s s1 : St} (hs : stepW P g C ops o s = some s1) : ∃ u, s1.t = putT s.t o.dst u := by
  rw [stepW_eq] at hs
  have go : (effC P g o s.t s.h).bind (appE g C s.t s.h o.dst) = some s1 → ∃ u, s1.t = putT s.t o.dst u := fun hb => by
    cases he : effC P g o s.t s.h with
    | none => rw [he] at hb; cases hb
    | some e =>
      rw [he] at hb
      simp only [Option.bind_some] at hb
      cases e with
      | call f args =>
        simp only [appE] at hb
        cases hd : doCall g C f args s.h with
        | none => rw [hd] at hb; cases hb
        | some p => rw [hd] at hb; cases hb; exact ⟨_, rfl⟩
      | val v => cases hb; exact ⟨_, rfl⟩
      | same v => cases hb; exact ⟨_, rfl⟩
      | setB v b ob => cases hb; exact ⟨_, rfl⟩
      | newB v ob => cases hb; exact ⟨_, rfl⟩
      | moveB v b ob => cases hb; exact ⟨_, rfl⟩
      | move2 v b b2 ob => cases hb; exact ⟨_, rfl⟩
  split at hs
  · exact go hs
  · split at hs
    · cases hs
    split at hs
    · exact go hs
    · cases hs; exact ⟨_, rfl⟩

omit [Val] in
/-- A step of an operation that keeps the heap. -/
theorem stepW_pl {ops : Array Oper} {o : Oper} {s s1 : St} (hp : (isP o.op || isL o.op) = true) (hs : stepW P g C ops o s = some s1) :
    ∃ v, s1 = ⟨putT s.t o.dst v, s.h⟩ ∧ ∀ d u h', (∀ k, d = some k → k ∉ o.looksAt ops) → (isP o.op = true ∨ h' = s.h) → stepW P g C ops o ⟨putT s.t d u, h'⟩ = some ⟨putT (putT s.t d u) o.dst v, h'⟩ := by
  rw [stepW_eq] at hs
  have eff : ∀ d u h', (∀ k, d = some k → k ∉ o.looksAt ops) → (isP o.op = true ∨ h' = s.h) → effC P g o (putT s.t d u) h' = effC P g o s.t s.h := fun d u h' hd hh => by
    rw [effC_put (looks_spec hd)]
    rcases hh with hh | rfl
    · exact effC_h hh _ _
    · rfl
  have go : (effC P g o s.t s.h).bind (appE g C s.t s.h o.dst) = some s1 →
      ∃ v, s1 = ⟨putT s.t o.dst v, s.h⟩ ∧ ∀ d u h', (∀ k, d = some k → k ∉ o.looksAt ops) → (isP o.op = true ∨ h' = s.h) → (effC P g o (putT s.t d u) h').bind (appE g C (putT s.t d u) h' o.dst) = some ⟨putT (putT s.t d u) o.dst v, h'⟩ := fun hb => by
    cases he : effC P g o s.t s.h with
    | none => rw [he] at hb; cases hb
    | some e =>
      rw [he] at hb
      obtain ⟨v, h1, h2⟩ := appE_val (effC_pl hp he) hb
      refine ⟨v, h2, fun d u h' hd hh => ?_⟩
      rw [eff d u h' hd hh, he]
      exact h1 _ _
  cases hg : o.guard with
  | none =>
    rw [hg] at hs
    obtain ⟨v, h1, h2⟩ := go hs
    refine ⟨v, h1, fun d u h' hd hh => ?_⟩
    rw [stepW_eq, hg]
    exact h2 d u h' hd hh
  | some p =>
    obtain ⟨j, want⟩ := p
    rw [hg] at hs
    simp only at hs
    split at hs
    · cases hs
    rename_i hsym
    split at hs
    · rename_i hy
      obtain ⟨v, h1, h2⟩ := go hs
      refine ⟨v, h1, fun d u h' hd hh => ?_⟩
      rw [stepW_eq, hg]
      simp only [yieldedR_put hd hg, symAt_put hd hg]
      rw [if_neg hsym, if_pos hy]
      exact h2 d u h' hd hh
    · rename_i hy
      cases hs
      refine ⟨_, rfl, fun d u h' hd hh => ?_⟩
      rw [stepW_eq, hg]
      simp only [yieldedR_put hd hg, symAt_put hd hg]
      rw [if_neg hsym, if_neg hy]

omit [Val] in
theorem getD_set_mono {listed : Array Bool} {i j : Nat} (h : listed.getD j true = true) : (listed.setIfInBounds i true).getD j true = true := by
  by_cases hij : i = j
  · subst hij
    by_cases hlt : i < listed.size
    · simp [hlt]
    · simp
  · rw [getD_set_ne true hij]; exact h

omit [Val] in
theorem firstOK_mono (others : Op → Bool) (ops : Array Oper) : Mono (firstOK others ops) := by
  intro listed i j h
  unfold firstOK at h ⊢
  cases ho : ops[i]? with
  | none => rw [ho] at h; cases h
  | some oi =>
    rw [ho] at h
    simp only [Bool.and_eq_true, Bool.or_eq_true] at h ⊢
    obtain ⟨h1, h2⟩ := h
    refine ⟨?_, ?_⟩
    · unfold Region.free at h1 ⊢
      rw [ho] at h1 ⊢
      simp only [List.all_eq_true, Bool.or_eq_true] at h1 ⊢
      intro k hk
      rcases h1 k hk with (h1 | h1) | h1
      · exact .inl (.inl h1)
      · exact .inl (.inr (getD_set_mono h1))
      · exact .inr h1
    · rcases h2 with h2 | ⟨h2, h3⟩
      · exact .inl h2
      · refine .inr ⟨h2, ?_⟩
        simp only [List.all_eq_true, Bool.or_eq_true] at h3 ⊢
        intro k hk
        rcases h3 k hk with (h3 | h3) | h3
        · exact .inl (.inl h3)
        · exact .inl (.inr (getD_set_mono h3))
        · exact .inr h3

omit [Val] in
theorem waitAcc_spec {ops : Array Oper} {listed : Array Bool} {i : Nat} (hcl : Cl ops listed) (hi : listed.getD i true = false) : ∀ (l : List Oper) (acc : List Bool), ops.toList = ops.toList.take acc.length ++ l → acc.length ≤ ops.size →
    (∀ j, acc.getD j false = true → ∃ oj, ops[j]? = some oj ∧ ∃ e ∈ oj.after, Region.binds .any e = true ∧ listed.getD e.on false = false) →
    ∀ j, (waitAcc i l acc).getD j false = true → ∃ oj, ops[j]? = some oj ∧ ∃ e ∈ oj.after, Region.binds .any e = true ∧ listed.getD e.on false = false
  | [], _, _, _, h => h
  | o :: l, acc, hl, hle, h => by
    have hunl : ∀ k, listed.getD k true = false → listed.getD k false = false := fun k hk => by
      by_cases hlt : k < listed.size
      · simp only [Array.getD, hlt, dif_pos] at hk ⊢
        exact hk
      · simp [hlt]
    have ho : ops[acc.length]? = some o := by
      have h1 : ops.toList[acc.length]? = some o := by
        rw [hl, List.getElem?_append_right (by simp; omega)]
        have : acc.length - (ops.toList.take acc.length).length = 0 := by simp; omega
        rw [this]
        rfl
      simpa using h1
    have hlt := (Array.getElem?_eq_some_iff.1 ho).1
    refine waitAcc_spec hcl hi l (acc ++ [o.after.any fun e => Region.binds .any e && (e.on == i || acc.getD e.on false)]) ?_ (by simp; omega) fun j hj => ?_
    · rw [List.length_append, List.length_singleton]
      have h2 : ops.toList.take (acc.length + 1) = ops.toList.take acc.length ++ [o] := by
        have h1 : ops.toList[acc.length]? = some o := by simpa using ho
        rw [List.take_add_one, h1]
        rfl
      rw [h2, List.append_assoc]
      exact hl
    · rcases Nat.lt_trichotomy j acc.length with hj1 | rfl | hj1
      · refine h j ?_
        rw [List.getD_eq_getElem?_getD, List.getElem?_append_left hj1, ← List.getD_eq_getElem?_getD] at hj
        exact hj
      · rw [List.getD_eq_getElem?_getD, List.getElem?_append_right (Nat.le_refl _), Nat.sub_self] at hj
        have hj : (o.after.any fun e => Region.binds .any e && (e.on == i || acc.getD e.on false)) = true := hj
        obtain ⟨e, he, hb⟩ := Array.any_eq_true'.1 hj
        simp only [Bool.and_eq_true, Bool.or_eq_true, beq_iff_eq] at hb
        refine ⟨o, ho, e, he, hb.1, ?_⟩
        rcases hb.2 with h1 | h1
        · rw [h1]
          exact hunl i hi
        · obtain ⟨oj, k1, e2, k2, k3, k4⟩ := h _ h1
          cases hk : listed.getD e.on true with
          | false => exact hunl _ hk
          | true =>
            have := hcl _ _ k1 hk e2 k2 k3
            rw [k4] at this
            cases this
      · rw [List.getD_eq_getElem?_getD, List.getElem?_eq_none (by simp; omega)] at hj
        cases hj
omit [Val] in
/-- What firstOK says of an operation that may come before. -/
theorem firstOK_spec {others : Op → Bool} {ops : Array Oper} {listed : Array Bool} {i j : Nat} {oi oj : Oper} (hcl : Cl ops listed) (h : firstOK others ops listed i = true) (hi : ops[i]? = some oi) (hir : i ∈ Region.ready .any ops listed)
    (hj : ops[j]? = some oj) (hjr : j ∈ Region.ready .any ops listed) (hne : j ≠ i) : oi.apart ops oj = true ∧ (isP oi.op = true ∨ (isL oi.op = true ∧ others oj.op = true)) := by
  obtain ⟨hui, _⟩ := mem_ready.1 hir
  obtain ⟨huj, oj', hoj', hall⟩ := mem_ready.1 hjr
  rw [hj] at hoj'
  cases hoj'
  have hno : ∀ e ∈ oj.after, Region.binds .any e = true → e.on ≠ i := fun e he hb heq => by
    have h1 := hall e he hb
    rw [heq] at h1
    rcases Nat.lt_or_ge i listed.size with h' | h'
    · simp [h'] at hui h1; rw [hui] at h1; cases h1
    · simp [Array.getElem?_eq_none h'] at h1
  unfold firstOK at h
  rw [hi] at h
  simp only [Bool.and_eq_true, Bool.or_eq_true] at h
  obtain ⟨hfree, hk⟩ := h
  refine ⟨Region.free_spec hi hfree j oj hj hne huj hno, ?_⟩
  rcases hk with hk | ⟨hk, hl⟩
  · exact .inl hk
  · refine .inr ⟨hk, ?_⟩
    simp only [List.all_eq_true, List.mem_range] at hl
    have := hl j (Array.getElem?_eq_some_iff.1 hj).1
    simp only [hj, Bool.or_eq_true, beq_iff_eq, hne, false_or, huj, Bool.false_eq_true] at this
    rcases this with h1 | h1
    · obtain ⟨oj', k1, e, he, hb, k4⟩ := waitAcc_spec hcl hui ops.toList [] (by simp) (Nat.zero_le _) (fun j hj => by simp at hj) j h1
      rw [hj] at k1
      cases k1
      have := hall e he hb
      rw [k4] at this
      cases this
    · exact h1

omit [Val] in
theorem com_at (ops : Array Oper) : Com (stepAt P g C ops) (firstOK plain2 ops) ops := by
  intro listed s s1 s2 i j hcl hf hi hj hne h1 h2
  unfold stepAt at h1 h2 ⊢
  cases hoi : ops[i]? with
  | none => rw [hoi] at h1; cases h1
  | some oi =>
    cases hoj : ops[j]? with
    | none => rw [hoj] at h2; cases h2
    | some oj =>
      rw [hoi] at h1
      rw [hoj] at h2
      simp only at h1 h2 ⊢
      obtain ⟨hap, hk⟩ := firstOK_spec hcl hf hoi hi hoj hj hne
      obtain ⟨a1, a2, a3⟩ := Oper.apart_spec hap
      have hpl : (isP oi.op || isL oi.op) = true := by rcases hk with hk | ⟨hk, _⟩ <;> simp [hk]
      obtain ⟨v, rfl, hv⟩ := stepW_pl hpl h1
      rw [stepW_put hap] at h2
      cases hq : stepW P g C ops oj ⟨s.t, s.h⟩ with
      | none => rw [hq] at h2; cases h2
      | some s2' =>
        rw [hq] at h2
        cases h2
        refine ⟨s2', rfl, ?_⟩
        obtain ⟨u, hu⟩ := stepW_t hq
        simp only at hu
        have hh : isP oi.op = true ∨ s2'.h = s.h := by
          rcases hk with hk | ⟨_, hk⟩
          · exact .inl hk
          · obtain ⟨v', hv', _⟩ := stepW_pl (by simpa [plain2] using hk) hq
            exact .inr (by rw [hv'])
        have := hv oj.dst u s2'.h a3 hh
        rw [← hu] at this
        exact this

omit [Val] in
theorem isL_load {op : Op} (h : isL op = true) : ∃ ty x, op = .load ty x := by
  cases op <;> simp [isL] at h
  exact ⟨_, _, rfl⟩

omit [Val] in
theorem seg_mono {h X : RH} {b o n : Nat} {l : List RV} (hg : getCells h b o n = some l) : getCells (h ++ X) b o n = some l := by
  unfold getCells at hg ⊢
  have : ∀ r, lkp h b = some r → lkp (h ++ X) b = some r := fun r hr => by
    rw [lkp_eq] at hr ⊢
    have hlt : b < h.length := at?_lt hr
    rw [List.getElem?_append_left hlt]
    exact hr
  split at hg
  · rename_i l0 e room froz hl
    rw [this _ hl]
    exact hg
  · rename_i l0 e hl
    rw [this _ hl]
    exact hg
  · cases hg
omit [Val] in
theorem loadOp_mono {ro : Ro} {h X : RH} {ty : TypeId} {x v : RV} (hl : loadOp P ro h ty x = some v) : loadOp P ro (h ++ X) ty x = some v := by
  unfold loadOp at hl ⊢
  split at hl
  · split at hl
    · rename_i agg sz _ _ _ b o
      cases hg : getCells h b o (cellsN agg sz) with
      | none => rw [hg] at hl; cases hl
      | some l =>
        rw [hg] at hl
        rw [seg_mono hg]
        exact hl
    · exact hl
    · cases hl
  · cases hl

omit [Val] in
theorem loadOp_el {ro : Ro} {h : RH} {ty : TypeId} {b i s : Nat} : loadOp P ro h ty (.el b i s) = none := by
  unfold loadOp
  split
  · rfl
  · rfl
omit [Val] in
theorem loadOp_elA {ro : Ro} {h : RH} {ty : TypeId} {b i s : Nat} : loadOp P ro h ty (.elA b i s) = none := by
  unfold loadOp
  split
  · rfl
  · rfl
omit [Val] in
theorem loadOp_elF {ro : Ro} {h : RH} {ty : TypeId} {b i s o : Nat} : loadOp P ro h ty (.elF b i s o) = none := by
  unfold loadOp
  split
  · rfl
  · rfl
omit [Val] in
theorem loadOp_elB {ro : Ro} {h : RH} {ty : TypeId} {b i s o : Nat} : loadOp P ro h ty (.elB b i s o) = none := by
  unfold loadOp
  split
  · rfl
  · rfl
omit [Val] in
theorem elLoad_mono {h X : RH} {ty : TypeId} {x v : RV} (hl : elLoad P g h ty x = some v) : elLoad P g (h ++ X) ty x = some v := by
  unfold elLoad at hl ⊢
  split at hl
  · rename_i b i s agg sz ha hs
    have key : ∀ l, rowQ g h b i = some l → rowQ g (h ++ X) b i = some l := fun l hr => by
      unfold rowQ at hr ⊢
      have : ∀ r, lkp h b = some r → lkp (h ++ X) b = some r := fun r hr => by
        rw [lkp_eq] at hr ⊢
        have hlt : b < h.length := at?_lt hr
        rw [List.getElem?_append_left hlt]
        exact hr
      split at hr
      · rename_i l0 e room fz hk
        rw [this _ hk]
        exact hr
      · rename_i l0 e hk
        rw [this _ hk]
        exact hr
      · rename_i l0 e ow hk
        rw [this _ hk]
        exact hr
      · cases hr
    (try simp only [ha, hs])
    split at hl
    · rename_i l hb hr
      rw [key l hr, hb]
      exact hl
    · cases hl
  · rename_i b i s agg sz ha hs
    have key : ∀ l, rowA g h b i = some l → rowA g (h ++ X) b i = some l := fun l hr => by
      unfold rowA at hr ⊢
      split at hr
      · rename_i k hk
        rw [lkp_eq] at hk
        have hlt : b < h.length := at?_lt hk
        have : lkp (h ++ X) b = some (.lstA k) := by
          rw [lkp_eq, List.getElem?_append_left hlt]
          exact hk
        rw [this]
        exact hr
      · rename_i k e0 s0 hk
        rw [lkp_eq] at hk
        have hlt : b < h.length := at?_lt hk
        have : lkp (h ++ X) b = some (.lstQ k e0 s0) := by
          rw [lkp_eq, List.getElem?_append_left hlt]
          exact hk
        rw [this]
        exact hr
      · cases hr
    (try simp only [ha, hs])
    split at hl
    · rename_i l hb hr
      rw [key l hr, hb]
      exact hl
    · cases hl
  · rename_i b i s o agg sz ha hs
    have key : ∀ l, rowQ g h b i = some l → rowQ g (h ++ X) b i = some l := fun l hr => by
      unfold rowQ at hr ⊢
      have : ∀ r, lkp h b = some r → lkp (h ++ X) b = some r := fun r hr => by
        rw [lkp_eq] at hr ⊢
        have hlt : b < h.length := at?_lt hr
        rw [List.getElem?_append_left hlt]
        exact hr
      split at hr
      · rename_i l0 e room fz hk
        rw [this _ hk]
        exact hr
      · rename_i l0 e hk
        rw [this _ hk]
        exact hr
      · rename_i l0 e ow hk
        rw [this _ hk]
        exact hr
      · cases hr
    (try simp only [ha, hs])
    split at hl
    · rename_i l hb hr
      rw [key l hr, hb]
      exact hl
    · cases hl
  · rename_i b i s o agg sz ha hs
    have key : ∀ l, rowA g h b i = some l → rowA g (h ++ X) b i = some l := fun l hr => by
      unfold rowA at hr ⊢
      split at hr
      · rename_i k hk
        rw [lkp_eq] at hk
        have hlt : b < h.length := at?_lt hk
        have : lkp (h ++ X) b = some (.lstA k) := by
          rw [lkp_eq, List.getElem?_append_left hlt]
          exact hk
        rw [this]
        exact hr
      · rename_i k e0 s0 hk
        rw [lkp_eq] at hk
        have hlt : b < h.length := at?_lt hk
        have : lkp (h ++ X) b = some (.lstQ k e0 s0) := by
          rw [lkp_eq, List.getElem?_append_left hlt]
          exact hk
        rw [this]
        exact hr
      · cases hr
    (try simp only [ha, hs])
    split at hl
    · rename_i l hb hr
      rw [key l hr, hb]
      exact hl
    · cases hl
  · cases hl
omit [Val] in
theorem mLoad_same {h : RH} {ty : TypeId} {x : RV} {e : Eff} (hl : mLoad P g h ty x = some e) : ∃ r, e = .same r := by
  unfold mLoad at hl
  split at hl
  · cases hl; exact ⟨_, rfl⟩
  · split at hl
    · cases hl; exact ⟨_, rfl⟩
    · obtain ⟨r, _, rfl⟩ := optMap hl
      exact ⟨r, rfl⟩
omit [Val] in
theorem nest_mono {h X : RH} {ty : TypeId} {x v : RV} (hl : nestLoad P g h ty x = some v) : nestLoad P g (h ++ X) ty x = some v ∧ loadOp P g.ro (h ++ X) ty x = none ∧ elLoad P g (h ++ X) ty x = none := by
  unfold nestLoad at hl
  split at hl
  · rename_i b i ha hs
    split at hl
    · rename_i k sz hk
      have hk' : lkp (h ++ X) b = some (.lstB k sz) := by
        rw [lkp_eq] at hk ⊢
        have hlt : b < h.length := at?_lt hk
        rw [List.getElem?_append_left hlt]
        exact hk
      refine ⟨?_, loadOp_elA, ?_⟩
      · unfold nestLoad
        simp only [ha, hs, hk']
        exact hl
      · have hrow : rowA g (h ++ X) b i = none := by unfold rowA; rw [hk']
        unfold elLoad
        rw [ha, hs]
        show (match Nat.beq (cellsN false 1) 1, rowA g (h ++ X) b i with
          | true, some r => match Nat.beq r.length 1 with | true => loadAs false r | false => none
          | _, _ => none) = none
        rw [hrow]
        rfl
    · cases hl
  · rename_i b i ha hs
    split at hl
    · rename_i k e0 sz hk
      have hk' : lkp (h ++ X) b = some (.lstL k e0 sz) := by
        rw [lkp_eq] at hk ⊢
        have hlt : b < h.length := at?_lt hk
        rw [List.getElem?_append_left hlt]
        exact hk
      refine ⟨?_, loadOp_el, ?_⟩
      · unfold nestLoad
        simp only [ha, hs, hk']
        exact hl
      · have hrow : rowQ g (h ++ X) b i = none := by unfold rowQ; rw [hk']
        unfold elLoad
        rw [ha, hs]
        show (match Nat.beq (cellsN false 1) 1, rowQ g (h ++ X) b i with
          | true, some r => match Nat.beq r.length 1 with | true => loadAs false r | false => none
          | _, _ => none) = none
        rw [hrow]
        rfl
    · cases hl
  · rename_i b i k j n s agg sz ha hs
    split at hl
    · rename_i r hc hr
      simp only [Bool.and_eq_true] at hc
      have hin : innOK (h ++ X) b i s = true := by
        have hc2 := hc.2
        unfold innOK at hc2 ⊢
        have old : ∀ o, lkp h b = some o → lkp (h ++ X) b = some o := fun o hk => by
          rw [lkp_eq] at hk ⊢
          have hlt : b < h.length := at?_lt hk
          rw [List.getElem?_append_left hlt]
          exact hk
        split at hc2
        · rename_i i' e0 s' hk
          rw [old _ hk]
          exact hc2
        · rename_i i' s' hk
          rw [old _ hk]
          exact hc2
        · cases hc2
      refine ⟨?_, ?_, ?_⟩
      · unfold nestLoad
        simp only [ha, hs, hr, hin, hc.1, Bool.and_self]
        exact hl
      · unfold loadOp
        rw [ha, hs]
      · unfold elLoad
        rfl
    · cases hl
  · rename_i b sz ha hs
    split at hl
    · rename_i k e o i hk hi
      have hk' : lkp (h ++ X) b = some (.lst k e o) := by
        rw [lkp_eq] at hk ⊢
        have hlt : b < h.length := at?_lt hk
        rw [List.getElem?_append_left hlt]
        exact hk
      refine ⟨?_, ?_, ?_⟩
      · unfold nestLoad
        simp only [ha, hs, hk', hi]
        exact hl
      · unfold loadOp
        rw [ha, hs]
        show (Ri.getCells (h ++ X) b 0 (cellsN true sz)).bind (loadAs true) = none
        unfold Ri.getCells
        rw [hk']
        rfl
      · unfold elLoad
        rfl
    · cases hl
  · cases hl
omit [Val] in
theorem mLoad_mono {h X : RH} {ty : TypeId} {x : RV} {e : Eff} (hl : mLoad P g h ty x = some e) : mLoad P g (h ++ X) ty x = some e := by
  unfold mLoad at hl ⊢
  split at hl
  · rename_i v hv
    rw [loadOp_mono hv]
    exact hl
  · split at hl
    · rename_i r hr
      cases hl
      have hel : (∃ b i s, x = .el b i s) ∨ (∃ b i s, x = .elA b i s) ∨ (∃ b i s o, x = .elF b i s o) ∨ ∃ b i s o, x = .elB b i s o := by
        have hr := hr
        unfold elLoad at hr
        split at hr
        · exact .inl ⟨_, _, _, rfl⟩
        · exact .inr (.inl ⟨_, _, _, rfl⟩)
        · exact .inr (.inr (.inl ⟨_, _, _, _, rfl⟩))
        · exact .inr (.inr (.inr ⟨_, _, _, _, rfl⟩))
        · cases hr
      have hnone : loadOp P g.ro (h ++ X) ty x = none := by
        rcases hel with ⟨b, i, s, rfl⟩ | ⟨b, i, s, rfl⟩ | ⟨b, i, s, o, rfl⟩ | ⟨b, i, s, o, rfl⟩
        · exact loadOp_el
        · exact loadOp_elA
        · exact loadOp_elF
        · exact loadOp_elB
      rw [hnone]
      simp only [elLoad_mono hr]
    · obtain ⟨r, hr, rfl⟩ := optMap hl
      obtain ⟨h1, h2, h3⟩ := nest_mono (X := X) hr
      rw [h2]
      simp only [h3, h1, Option.map_some]
omit [Val] in
theorem strictOK_put {o : Oper} {d : Option Tmp} {v : RV} (hx : ∀ x ∈ o.op.operands, ∀ k, d = some k → x ≠ .tmp k) : strictOK P g C o (putT t d v) h = strictOK P g C o t h := by
  unfold strictOK
  have e1 : (memC P g o.op).f (putT t d v) h = (memC P g o.op).f t h := memC_put hx h
  have e2 : effR P g o (putT t d v) h = effR P g o t h := effC_put hx h
  rw [e2]
  split
  · exact congrArg Option.isSome e1
  · rfl

omit [Val] in
theorem stepAtS_at (ops : Array Oper) (s : St) (i : Nat) (s1 : St) (h : stepAtS P g C ops s i = some s1) : stepAt P g C ops s i = some s1 := by
  unfold stepAtS at h
  unfold stepAt
  split at h
  · rename_i o ho
    split at h
    · split at h
      · exact h
      · cases h
    · cases h
  · cases h

omit [Val] in
theorem com_strict (ops : Array Oper) : Com (stepAtS P g C ops) (firstOK plain3 ops) ops := by
  intro listed s s1 s2 i j hcl hf hi hj hne h1 h2
  unfold stepAtS at h1 h2 ⊢
  cases hoi : ops[i]? with
  | none => rw [hoi] at h1; cases h1
  | some oi =>
    cases hoj : ops[j]? with
    | none => rw [hoj] at h2; cases h2
    | some oj =>
      rw [hoi] at h1
      rw [hoj] at h2
      simp only at h1 h2 ⊢
      obtain ⟨hap, hk⟩ := firstOK_spec hcl hf hoi hi hoj hj hne
      obtain ⟨a1, a2, a3⟩ := Oper.apart_spec hap
      have hpl : (isP oi.op || isL oi.op) = true := by rcases hk with hk | ⟨hk, _⟩ <;> simp [hk]
      cases hgi : oi.guard with
      | some p => rw [hgi] at h1; cases h1
      | none =>
        cases hgj : oj.guard with
        | some p => rw [hgj] at h2; cases h2
        | none =>
          rw [hgi] at h1
          rw [hgj] at h2
          simp only at h1 h2 ⊢
          split at h1
          · rename_i hsi
            split at h2
            · rename_i hsj
              obtain ⟨v, rfl, hv⟩ := stepW_pl hpl h1
              rw [stepW_put hap] at h2
              simp only at hsj
              rw [strictOK_put (looks_spec a1)] at hsj
              cases hq : stepW P g C ops oj ⟨s.t, s.h⟩ with
              | none => rw [hq] at h2; cases h2
              | some s2' =>
                rw [hq] at h2
                cases h2
                refine ⟨s2', by rw [hsj], ?_⟩
                obtain ⟨u, hu⟩ := stepW_t hq
                simp only at hu
                by_cases hh : isP oi.op = true ∨ s2'.h = s.h
                · have hstep := hv oj.dst u s2'.h a3 hh
                  rw [← hu] at hstep
                  have hst : strictOK P g C oi s2'.t s2'.h = true := by
                    rw [hu, strictOK_put (looks_spec a3)]
                    rcases hh with hh | hh
                    · unfold strictOK
                      have e1 : isL oi.op = false := by cases hop : oi.op <;> simp_all [isP, isL]
                      have e2 : isC oi.op = false := by cases hop : oi.op <;> simp_all [isP, isC]
                      rw [e1, e2]
                    · rw [hh]; exact hsi
                  rw [hst]
                  exact hstep
                · have hL : isL oi.op = true := by
                    rcases hk with hk | ⟨hk, _⟩
                    · exact absurd (.inl hk) hh
                    · exact hk
                  have hcj : isC oj.op = true := by
                    rcases hk with hk | ⟨_, hk⟩
                    · exact absurd (.inl hk) hh
                    · unfold plain3 at hk
                      simp only [Bool.or_eq_true] at hk
                      rcases hk with hk | hk
                      · exfalso
                        obtain ⟨v', hv', _⟩ := stepW_pl (by simpa using hk) hq
                        exact hh (.inr (by rw [hv']))
                      · exact hk
                  have hlj : isL oj.op = false := by
                    cases hop : oj.op <;> rw [hop] at hcj <;> first | rfl | (simp [isC] at hcj; done)
                  -- the call leaves what was there
                  have happ : ∃ X, s2'.h = s.h ++ X := by
                    unfold strictOK at hsj
                    rw [hlj, hcj] at hsj
                    simp only at hsj
                    rw [stepW_eq, hgj] at hq
                    simp only at hq
                    split at hsj
                    · rename_i f args he
                      rw [effR_eq] at he
                      rw [he] at hq
                      simp only [Option.bind_some, appE] at hq
                      obtain ⟨p, hp⟩ := Option.isSome_iff_exists.1 hsj
                      obtain ⟨r, h'⟩ := p
                      have : doCall g C f args s.h = some (r, h') := by unfold doCall; rw [hp]
                      rw [this] at hq
                      cases hq
                      exact isoCall_app hp
                    · cases hsj
                  obtain ⟨X, hX⟩ := happ
                  obtain ⟨ty, x, hop⟩ := isL_load hL
                  -- the load finds the same
                  have hload : ∃ r, mLoad P g s.h ty (ev s.t x) = some (.same r) := by
                    unfold strictOK at hsi
                    rw [hL] at hsi
                    simp only [hop, memC] at hsi
                    obtain ⟨e, he⟩ := Option.isSome_iff_exists.1 hsi
                    obtain ⟨r, rfl⟩ := mLoad_same he
                    exact ⟨r, he⟩
                  obtain ⟨r, hr⟩ := hload
                  have hev : ev s2'.t x = ev s.t x := by
                    rw [hu]
                    exact ev_put (looks_spec a3 x (by rw [hop]; simp [Op.operands]))
                  have hm1 : (memC P g oi.op).f s.t s.h = some (.same r) := by
                    rw [hop]
                    simp only [memC, hr]
                  have hm2 : (memC P g oi.op).f s2'.t s2'.h = some (.same r) := by
                    rw [hop]
                    simp only [memC, hev, hX, mLoad_mono hr]
                  have he1 : effC P g oi s.t s.h = some (.same r) := by unfold effC orElse; rw [hm1]
                  have he2 : effC P g oi s2'.t s2'.h = some (.same r) := by unfold effC orElse; rw [hm2]
                  have hst : strictOK P g C oi s2'.t s2'.h = true := by
                    unfold strictOK
                    rw [hL]
                    show ((memC P g oi.op).f s2'.t s2'.h).isSome = true
                    rw [hm2]
                    rfl
                  rw [hst]
                  simp only
                  rw [stepW_eq, hgi] at h1 ⊢
                  simp only [he1, he2, Option.bind_some, appE] at h1 ⊢
                  have hvr : putT s.t oi.dst r = putT s.t oi.dst v := by
                    have := Option.some.inj h1
                    exact congrArg St.t this
                  have : putT s2'.t oi.dst r = putT s2'.t oi.dst v := by
                    rw [hu, ← putT_comm a2, ← putT_comm a2, hvr]
                  rw [this]
            · cases h2
          · cases h1
end
end Go.Ri

namespace Go.Ri
open Go Go.RowKit
variable [Val]

section
variable {P : Program} {g : Cfg} {C : CallF} {base : Nat} {w0 : World}

theorem Sim.drew {s : St} {E : Env} {a : Act} {w : World} (S : Sim g base w0 s E a w) : Sim g base w0 s E a { w with drawn := w.drawn + 1 } := ⟨S.t, S.d, S.h.drew⟩

theorem runB_ok (hm : P.follows .mixedOrders = true) (G : CfgOK P g) (hC : CallOK P g C) (hX : XOK P g) {id : Nat} {ops : Array Oper} {Q : Exit → Act → World → Prop} {s s' : St} {E : Env} {a : Act} {w : World} (S : Sim g base w0 s E a w)
    (hr : runB P g C ops s = some s') (hQ : ∀ E' a' w', E <+: E' → Sim g base w0 s' E' a' w' → Q .normal a' w') : (Code.region id ops true).wp P Q a w := by
  have hlen : s.h.length ≤ E.length := Nat.le_of_eq S.h.len
  have hlen' : E.length ≤ s.h.length := Nat.le_of_eq S.h.len.symm
  unfold runB at hr
  split at hr
  · split at hr
    · rename_i s1 h1
      cases hr
      exact wp_region_any hm (anyR_ok G hC hX (stepAtS_at ops) _ _ s s' E a _ hlen (List.take_of_length_le hlen') S.drew (anyB_spec (com_strict ops) (firstOK_mono _ _) _ _ s s' (Cl.init ops) h1) hQ)
    · exact wp_region_any hm (anyR_ok G hC hX (fun _ _ _ h => h) _ _ s s' E a _ hlen (List.take_of_length_le hlen') S.drew (anyB_spec (com_at ops) (firstOK_mono _ _) _ _ s s' (Cl.init ops) hr) hQ)
  · exact wp_region_any hm (anyR_ok G hC hX (fun _ _ _ h => h) _ _ s s' E a _ hlen (List.take_of_length_le hlen') S.drew (anyB_spec (com_at ops) (firstOK_mono _ _) _ _ s s' (Cl.init ops) hr) hQ)

theorem runD_ok (hm : P.follows .mixedOrders = true) (G : CfgOK P g) (hC : CallOK P g C) (hX : XOK P g) {id : Nat} {ops : Array Oper} {Q : Exit → Act → World → Prop} {s s' : St} {E : Env} {a : Act} {w : World} (S : Sim g base w0 s E a w)
    (hr : runD P g C ops s = some s') (hQ : ∀ E' a' w', E <+: E' → Sim g base w0 s' E' a' w' → Q .normal a' w') : (Code.region id ops true).wp P Q a w := by
  unfold runD at hr
  split at hr
  · rename_i hq
    simp only [Bool.and_eq_true] at hq
    split at hr
    · rename_i s1 h1
      cases hr
      refine wp_region_quiet (C := fun w' => HInv g.ro base w0 E s.h w') hm hq.2 S.h.drew (runQ_ok G hC hX S.h ops.toList s s' a rfl S.t S.d h1 fun hh a' ht hd w' hw' => ?_)
      exact hQ E a' w' (List.prefix_refl E) ⟨ht, hd, by rw [hh]; exact hw'⟩
    · exact runB_ok hm G hC hX S hr hQ
  · exact runB_ok hm G hC hX S hr hQ

def Ex.toExit : Ex → Exit
  | .normal => .normal
  | .exit id => .exit id
  | .ret => .ret

omit [Val] in
theorem exec_succ (n : Nat) (c : Code) (s : St) : exec P g C (n + 1) c s = xStep P g C (exec P g C n) c s := rfl

theorem exec_ok (hm : P.follows .mixedOrders = true) (G : CfgOK P g) (hC : CallOK P g C) (hX : XOK P g) : ∀ n : Nat,
    (∀ (c : Code) (s : St) (ex : Ex) (s' : St) (E : Env) (a : Act) (w : World) (Q : Exit → Act → World → Prop), exec P g C n c s = some (ex, s') → Sim g base w0 s E a w →
      (∀ E' a' w', E <+: E' → Sim g base w0 s' E' a' w' → Q ex.toExit a' w') → c.wp P Q a w) ∧
    (∀ (b : Code) (s : St) (ex : Ex) (s' : St) (E : Env) (a : Act) (w : World) (Q : Exit → Act → World → Prop), exec P g C n (.loop b) s = some (ex, s') → Sim g base w0 s E a w →
      (∀ E' a' w', E <+: E' → Sim g base w0 s' E' a' w' → Q ex.toExit a' w') → Code.rounds P b Q n a w)
  | 0 => ⟨fun _ _ _ _ _ _ _ _ h => (by cases h), fun _ _ _ _ _ _ _ _ h => (by cases h)⟩
  | n + 1 => by
    obtain ⟨ih1, ih2⟩ := exec_ok hm G hC hX n
    -- what a run that may go on leaves
    have go : ∀ (r : Option (Ex × St)) (y : Code) (s : St) (ex : Ex) (s' : St), xSeq (exec P g C n) y r = some (ex, s') →
        (∃ s1, r = some (.normal, s1) ∧ exec P g C n y s1 = some (ex, s')) ∨ (ex ≠ .normal ∧ r = some (ex, s')) := by
      intro r y s ex s' h
      unfold xSeq at h
      split at h
      · exact .inl ⟨_, rfl, h⟩
      · rename_i hne
        refine .inr ⟨fun e => ?_, h⟩
        subst e
        exact hne s' h
    have loop : ∀ (b : Code) (s : St) (ex : Ex) (s' : St) (E : Env) (a : Act) (w : World) (Q : Exit → Act → World → Prop), exec P g C (n + 1) (.loop b) s = some (ex, s') → Sim g base w0 s E a w →
        (∀ E' a' w', E <+: E' → Sim g base w0 s' E' a' w' → Q ex.toExit a' w') → Code.rounds P b Q (n + 1) a w := by
      intro b s ex s' E a w Q h S hQ
      rw [exec_succ] at h
      have h : xSeq (exec P g C n) (.loop b) (exec P g C n b s) = some (ex, s') := h
      rw [rounds_succ]
      rcases go _ _ s _ _ h with ⟨s1, h1, h2⟩ | ⟨hne, h1⟩
      · exact ih1 b s .normal s1 E a w _ h1 S fun E' a' w' hE S' => ih2 b s1 ex s' E' a' w' Q h2 S' fun E2 a2 w2 hE2 S2 => hQ E2 a2 w2 (hE.trans hE2) S2
      · refine ih1 b s ex s' E a w _ h1 S fun E' a' w' hE S' => ?_
        have := hQ E' a' w' hE S'
        cases ex with
        | normal => exact absurd rfl hne
        | exit id => exact this
        | ret => exact this
    refine ⟨?_, loop⟩
    intro c s ex s' E a w Q h S hQ
    cases c with
    | skip => cases h; exact wp_skip (hQ E a w (List.prefix_refl E) S)
    | label l => cases h; exact wp_label (hQ E a w (List.prefix_refl E) S)
    | region id ops draw =>
      cases draw with
      | false =>
        have h : xRegion P g C ops s = some (ex, s') := h
        unfold xRegion at h
        split at h
        · rename_i s1 h1
          cases h
          exact wp_region_list (runOps_ok G hC hX ops.toList s s' E a w S h1 hQ)
        · cases h
      | true =>
        have h : xDraw P g C ops s = some (ex, s') := h
        unfold xDraw at h
        split at h
        · rename_i s1 h1
          cases h
          exact runD_ok hm G hC hX S h1 hQ
        · cases h
    | seq x y =>
      have h : xSeq (exec P g C n) y (exec P g C n x s) = some (ex, s') := h
      rcases go _ _ s _ _ h with ⟨s1, h1, h2⟩ | ⟨hne, h1⟩
      · exact wp_seq (ih1 x s .normal s1 E a w _ h1 S fun E' a' w' hE S' => ih1 y s1 ex s' E' a' w' Q h2 S' fun E2 a2 w2 hE2 S2 => hQ E2 a2 w2 (hE.trans hE2) S2)
      · refine wp_seq (ih1 x s ex s' E a w _ h1 S fun E' a' w' hE S' => ?_)
        have := hQ E' a' w' hE S'
        cases ex with
        | normal => exact absurd rfl hne
        | exit id => exact this
        | ret => exact this
    | cond x p q =>
      have h : xCond g (exec P g C n) p q s (ev s.t x) = some (ex, s') := h
      have hx := ev_rel S.t x
      unfold xCond at h
      split at h
      · rename_i b hb
        rw [hb] at hx
        exact wp_cond hx (ih1 _ s ex s' E a w Q h S hQ)
      · rename_i i hb
        rw [hb] at hx
        split at h
        · rename_i b hq
          obtain ⟨_, f1, _, c, e1, e2⟩ := tlook_true hX.t hq
          have hx2 : a.eval x = .bool c := (cv_rel f1 hx).trans e1
          have e3 : b = c := by simpa [cv] using e2
          subst e3
          exact wp_cond hx2 (ih1 _ s ex s' E a w Q h S hQ)
        · cases h
      · cases h
    | block id b =>
      have h : xBlock id (exec P g C n b s) = some (ex, s') := h
      unfold xBlock at h
      split at h
      · rename_i i s1 h1
        refine wp_block (ih1 b s _ s1 E a w _ h1 S fun E' a' w' hE S' => ?_)
        show if i = id then Q .normal a' w' else Q (.exit i) a' w'
        split at h
        · rename_i hi
          rw [if_pos hi]
          cases h
          exact hQ E' a' w' hE S'
        · rename_i hi
          rw [if_neg hi]
          cases h
          exact hQ E' a' w' hE S'
      · rename_i hne
        refine wp_block (ih1 b s ex s' E a w _ h S fun E' a' w' hE S' => ?_)
        have := hQ E' a' w' hE S'
        cases ex with
        | normal => exact this
        | exit i => exact absurd h (hne i s')
        | ret => exact this
    | loop b => exact wp_loop_rounds (n + 1) (loop b s ex s' E a w Q h S hQ)
    | rangeFunc f ps x y => cases h
    | exit id => cases h; exact wp_exit (hQ E a w (List.prefix_refl E) S)
    | scope b =>
      have h : exec P g C n b s = some (ex, s') := h
      refine wp_scope_straight (ih1 b s ex s' E a w _ h S fun E' a' w' hE S' => ?_)
      have := hQ E' a' w' hE S'
      cases ex <;> exact this
    | goto l => cases h
    | ret => cases h; exact wp_ret (hQ E a w (List.prefix_refl E) S)
    | refuse why => cases h

/-- One result. -/
def resSem (tmps : Array Value) : ResultVar → Sem Value
  | .tmp t => pure (tmps.getD t undef)
  | .cell a t => do loadVar t (← asAddr (tmps.getD a undef))

theorem getD_rel {E : Env} {t : List RV} {tmps : Array Value} (ht : All2 (VRel E) t tmps.toList) (i : Nat) : VRel E (t.getD i (.pl undef)) (tmps.getD i undef) := by
  have h := ev_rel (a := ⟨tmps, []⟩) ht (.tmp i)
  have e : ev t (.tmp i) = t.getD i (.pl undef) := nth_eq t i
  rw [e] at h
  exact h

theorem resultR_ok {E : Env} {s : St} {tmps : Array Value} {w : World} (ht : All2 (VRel E) s.t tmps.toList) (H : HInv g.ro base w0 E s.h w) {r : ResultVar} {v : RV} (hs : resultR P g s r = some v) :
    ∃ u, VRel E v u ∧ (resSem tmps r).run P w = .ok u w := by
  cases r with
  | tmp t =>
    cases hs
    exact ⟨_, getD_rel ht t, rfl⟩
  | cell ad ty =>
    have hs : loadOp P g.ro s.h ty (s.t.getD ad (.pl undef)) = some v := hs
    obtain ⟨u, hu, hrun⟩ := fit_load H (getD_rel ht ad) hs
    refine ⟨u, hu, ?_⟩
    obtain ⟨x, hx⟩ : ∃ x, tmps.getD ad undef = x := ⟨_, rfl⟩
    rw [hx] at hrun
    show (do loadVar ty (← asAddr (tmps.getD ad undef)) : Sem Value).run P w = _
    rw [hx]
    cases x with
    | pointer p =>
      cases p with
      | some q => simpa [Instr.loadAt, Instr.sureAddr, asAddr] using hrun
      | none => simp [Instr.loadAt, Instr.sureAddr] at hrun
    | _ => simp [Instr.loadAt, Instr.sureAddr] at hrun

theorem resultsR_ok {E : Env} {s : St} {tmps : Array Value} {w : World} (ht : All2 (VRel E) s.t tmps.toList) (H : HInv g.ro base w0 E s.h w) : ∀ (rs : List ResultVar) (vs : List RV), resultsR P g s rs = some vs →
    ∃ us, All2 (VRel E) vs us ∧ (rs.mapM (resSem tmps)).run P w = .ok us w
  | [], vs, h => by cases h; exact ⟨[], .nil, rfl⟩
  | r :: rs, vs, h => by
    unfold resultsR at h
    split at h
    · rename_i v vs' h1 h2
      cases h
      obtain ⟨u, hu, hr⟩ := resultR_ok ht H h1
      obtain ⟨us, hus, hrs⟩ := resultsR_ok ht H rs vs' h2
      refine ⟨u :: us, .cons hu hus, ?_⟩
      rw [List.mapM_cons]
      simp [hr, hrs]
    · cases h

omit [Val] in
theorem results_run {fn : Func} {tmps : Array Value} {w : World} {us : List Value} (h : (fn.results.toList.mapM (resSem tmps)).run P w = .ok us w) :
    (results fn tmps).run P w = .ok (match us with | [u] => u | us => .tuple us.toArray) w := by
  have e : results fn tmps = (do
      let vs ← fn.results.mapM (resSem tmps)
      pure (if h : vs.size = 1 then vs[0] else .tuple vs)) := by
    unfold results
    congr 1
  rw [e, Array.mapM_eq_mapM_toList]
  simp only [Sem.run_bind, Sem.run_map, h, Result.andThen_ok, Sem.run_pure]
  rcases us with _ | ⟨u, _ | ⟨v, us⟩⟩ <;> simp

omit [Val] in
theorem call_succ (m n : Nat) (f : FuncId) (args : List RV) (h : RH) : call P g m (n + 1) f args h = cStep P g m (call P g m n) f args h := rfl

theorem call_ok (hm : P.follows .mixedOrders = true) (G : CfgOK P g) (hX : XOK P g) (m : Nat) : ∀ n, CallOK P g (call P g m n)
  | 0 => fun _ _ _ _ _ h => by cases h
  | n + 1 => by
    intro f args h r h' hcall base w0 E w vs H ha
    have ih := call_ok hm G hX m n
    rw [call_succ] at hcall
    unfold cStep at hcall
    split at hcall
    · rename_i fn hf
      unfold cFn at hcall
      split at hcall
      · rename_i c hb
        rw [fList_eq _ (fun x k => fRV_eq x k)] at hcall
        unfold cBody at hcall
        rw [fSpine_eq] at hcall
        unfold cDone at hcall
        have hal := ha.length
        have ht : All2 (VRel E) (args ++ List.replicate (fn.ntmps - args.length) (.pl undef)) (vs.toArray ++ Array.replicate (fn.ntmps - vs.toArray.size) undef).toList := by
          simp only [Array.toList_append, Array.toList_replicate, List.size_toArray]
          rw [hal]
          exact ha.append (All2.replicate _ (show VRel E (.pl undef) undef from rfl))
        refine calls_of_wp hf hb ?_
        have done : ∀ (ex : Ex) (s : St), exec P g (call P g m n) m c ⟨args ++ List.replicate (fn.ntmps - args.length) (.pl undef), h⟩ = some (ex, s) → (ex = .normal ∨ ex = .ret) →
            (match resultsR P g s fn.results.toList with | some [v] => fRV v fun v => some (v, s.h) | some vs => fRV (mkTup vs) fun v => some (v, s.h) | none => none) = some (r, h') →
            c.wp P (bodyPost P fn (Done g base w0 E r h')) { tmps := vs.toArray ++ Array.replicate (fn.ntmps - vs.toArray.size) undef, defers := [] } w := by
          intro ex s hex hor hres
          refine (exec_ok hm G ih hX m).1 c _ ex s E _ w _ hex ⟨ht, rfl, H⟩ fun E' a' w' hE S' => ?_
          have key : a'.defers = [] ∧ ∃ v, (results fn a'.tmps).run P w' = .ok v w' ∧ Done g base w0 E r h' (.returned v) w' := by
            refine ⟨S'.d, ?_⟩
            cases hrr : resultsR P g s fn.results.toList with
            | none => rw [hrr] at hres; cases hres
            | some rvs =>
              rw [hrr] at hres
              obtain ⟨us, hus, hrun⟩ := resultsR_ok S'.t S'.h _ _ hrr
              have hrun := results_run hrun
              cases hus with
              | nil =>
                simp only [fRV_eq] at hres
                cases hres
                exact ⟨_, hrun, _, E', rfl, hE, mkTup_rel .nil, S'.h⟩
              | cons h1 hrest =>
                cases hrest with
                | nil =>
                  simp only [fRV_eq] at hres
                  cases hres
                  exact ⟨_, hrun, _, E', rfl, hE, h1, S'.h⟩
                | cons h2 hrest =>
                  simp only [fRV_eq] at hres
                  cases hres
                  exact ⟨_, hrun, _, E', rfl, hE, mkTup_rel (.cons h1 (.cons h2 hrest)), S'.h⟩
          rcases hor with rfl | rfl
          · exact key
          · exact key
        split at hcall
        · cases hcall
        · rename_i ex s hne hex
          refine done ex s hex ?_ hcall
          cases ex with
          | normal => exact .inl rfl
          | exit id => exact (hne id rfl).elim
          | ret => exact .inr rfl
        · cases hcall
      · cases hcall
    · cases hcall

/-- A CLOSED CALL: what the interpreter answers from an empty heap, the program answers in every world in which the listed variables hold what they hold. -/
theorem closed_call (hm : P.follows .mixedOrders = true) (G : CfgOK P g) (hX : XOK P g) (m n : Nat) (f : FuncId) (vs : List Value) (v : Value) (h' : RH) (hc : call P g m n f (vs.map .pl) [] = some (.pl v, h')) (w : World) (hr : RoIn g.ro w) :
    Calls P f vs.toArray w (fun e w' => e = .returned v ∧ Below w.heap.size w w') :=
  (call_ok hm G hX m n f _ [] _ _ hc w.heap.size w [] w vs (HInv.start hr) (All2.pls vs)).mono fun e w' ⟨u, E', he, _, hv, H⟩ => ⟨by rw [he, show u = v from hv], H.below⟩

theorem all2_pl {E : Env} : ∀ {l vs : List Value}, All2 (VRel E) (l.map .pl) vs → vs = l
  | [], _, h => by cases h; rfl
  | v :: l, _, h => by
    cases h with
    | cons h1 h2 => rw [all2_pl h2, show _ = v from h1]
/-- A closed call that answers a fresh slice. -/
theorem fresh_call (hm : P.follows .mixedOrders = true) (G : CfgOK P g) (hX : XOK P g) (m n : Nat) (f : FuncId) (vs : List Value) (b k s : Nat) (l : List Value) (e : TypeId) (room : Bool) (h' : RH) (hc : call P g m n f (vs.map .pl) [] = some (.sl b 0 k s none, h'))
    (hb : lkp h' b = some (.cells (l.map .pl) e room false)) : FTrue P g.ro f vs ⟨l, k, s, e⟩ := by
  intro w hr
  refine (call_ok hm G hX m n f _ [] _ _ hc w.heap.size w [] w vs (HInv.start hr) (All2.pls vs)).mono fun x w' ⟨u, E', he, _, hv, H⟩ => ?_
  obtain ⟨p, q, h1, h2, h3, rfl⟩ := hv
  rw [lkp_eq] at hb
  obtain ⟨p', g1, g2, cur, fr, g3, g4, g5, _, g6⟩ := H.blk1 b _ hb rfl
  rw [h1] at g1
  cases g1
  have hlc := g5.length
  have hl := all2_pl g5
  refine ⟨p.1, cur, ?_, g2, ?_, ?_, ?_, H.below⟩
  · rw [he, h2]
    show Ending.returned (.slice (some ⟨p.1, 0, none⟩) k ((p.2 - 0) / s)) = _
    rw [g4, Nat.sub_zero]
  · exact ⟨fr, g3, by rw [g4]; exact g6 rfl⟩
  · show k ≤ cur.size / s
    have h3' : k ≤ q := h3
    rw [h2] at h3'
    rw [g4]
    exact h3'
  · show cur.toList.take l.length = l
    rw [List.length_map] at hl
    exact hl
/-- Blocks that are lent: what they hold from their start on. -/
def LentAt (E : Env) (w : World) (o : Option RO) (p : EP) : Prop := ∃ l e, o = some (.lent l e) ∧ BRel E p w (.lent l e)
theorem HInv.lent {ro : Ro} {w : World} (hr : RoIn ro w) {h : RH} {E : Env} (hl : All2 (LentAt E w) h E) : HInv ro w.heap.size w E h w := by
  refine ⟨Below.refl _ _, Nat.le_refl _, hl.length, fun k cs hk => hr k cs hk, fun b o hb => ?_, fun b b' o o' p p' hb hb' ho ho' => ?_, fun b o p hb hn => ?_⟩
  rotate_right
  · unfold at? at hb
    cases hx : h[b]? with
    | none => rw [hx] at hb; cases hb
    | some x =>
      rw [hx] at hb
      obtain ⟨p, hp, l, e, hxe, hB⟩ := hl.get b x hx
      subst hxe
      cases hb
      cases hn
  · unfold at? at hb
    cases hx : h[b]? with
    | none => rw [hx] at hb; cases hb
    | some x =>
      rw [hx] at hb
      obtain ⟨p, hp, l, e, hxe, hB⟩ := hl.get b x hx
      subst hxe
      cases hb
      exact ⟨p, hp, by rw [if_neg (by simp [RO.own])]; exact hB.heap_lt, hB⟩
  · unfold at? at hb
    cases hx : h[b]? with
    | none => rw [hx] at hb; cases hb
    | some x =>
      rw [hx] at hb
      obtain ⟨p, hp, l, e, hxe, hB⟩ := hl.get b x hx
      subst hxe
      cases hb
      cases ho
/-- A call over blocks that are lent. -/
theorem lent_call (hm : P.follows .mixedOrders = true) (G : CfgOK P g) (hX : XOK P g) (m n : Nat) (f : FuncId) (args : List RV) (h : RH) (r : RV) (h' : RH) (hc : call P g m n f args h = some (r, h')) (hfr : flat r = true) (w : World) (hr : RoIn g.ro w)
    (E : Env) (hl : All2 (LentAt E w) h E) (vs : List Value) (ha : All2 (VRel E) args vs) : Calls P f vs.toArray w (fun e w' => e = .returned (cvF r) ∧ Below w.heap.size w w') :=
  (call_ok hm G hX m n f _ h _ _ hc w.heap.size w E w _ (HInv.lent hr hl) ha).mono fun e w' ⟨u, E', he, _, hv, H⟩ => ⟨by rw [he, VRel.fn r u _ hv (rel_cvF hfr)], H.below⟩
theorem flats_cvF : ∀ l : List RV, l.all flat = true → All2 (VRel []) l (l.map cvF)
  | [], _ => .nil
  | r :: l, h => by
    simp only [List.all_cons, Bool.and_eq_true] at h
    exact .cons (rel_cvF h.1) (flats_cvF l h.2)
/-- A CALL WITH NAMES: what the interpreter answers by what is known of the names, the program answers for what they stand for. -/
theorem sym_call (hm : P.follows .mixedOrders = true) (G : CfgOK P g) (hX : XOK P g) (m n : Nat) (f : FuncId) (args : List RV) (r : RV) (h' : RH) (hc : call P g m n f args [] = some (r, h')) (hfa : args.all flat = true) (hfr : flat r = true) (w : World) (hr : RoIn g.ro w) :
    Calls P f (args.map cvF).toArray w (fun e w' => e = .returned (cvF r) ∧ Below w.heap.size w w') :=
  (call_ok hm G hX m n f _ [] _ _ hc w.heap.size w [] w _ (HInv.start hr) (flats_cvF args hfa)).mono fun e w' ⟨u, E', he, _, hv, H⟩ => ⟨by rw [he, VRel.fn r u _ hv (rel_cvF hfr)], H.below⟩
end
end Go.Ri
