/- A part of the proofs that the laws of layer eight answer true for every input. -/
import Derived.Test.YtjeikabpnplogaaZLoop5
import Derived.Test.YtjeikabpnplogaaRiE
namespace Go.Proofs.Z
open Go Go.RowKit Go.Proofs Go.Ri
/-! A function with loops in any order: from head to head. -/
def bodyO (o : Option Code) : Code := match o with | some c => c | none => .skip
noncomputable def bodyF (f : FuncId) : Code := match Try.prog.funcs[f]? with | some fn => bodyO fn.body | none => .skip
noncomputable def lpath (f : FuncId) (i : Nat) : List Nat := (loopsAt 400 (bodyF f) []).getD i []
noncomputable def lframes (f : FuncId) (i : Nat) : List FrP := framesAt (bodyF f) (lpath f i)
noncomputable def goH (t : Tb) (plan : List Bool) (f : FuncId) (ctl : CtlP) (K : List FrP) (s : St) : Option StopP := goP Try.prog (cfgT t) (callT t) 4000 (bodyF f) 4000 plan ctl K s
noncomputable def fromH (t : Tb) (plan : List Bool) (f : FuncId) (i : Nat) (s : St) : Option StopP := fSpine (lpath f i) fun p => goH t plan f (.run (0 :: p)) (.lp p :: framesAt (bodyF f) p) s
noncomputable def entH (t : Tb) (plan : List Bool) (f : FuncId) (args : List RV) (h : RH) : Option StopP := match Try.prog.funcs[f]? with
  | some fn => goH t plan f (.run []) [] (startSt fn args h)
  | none => none
noncomputable def atH (O : Option StopP) (f : FuncId) (j : Nat) (S : List SE) (R : List Nat) (p : St) : Bool := match O with
  | some (.loop q K s) => sameW q (lpath f j) && sameK K (lframes f j) && mtS S R s p
  | _ => false
noncomputable def endH (t : Tb) (f : FuncId) (O : Option StopP) : Option (RV × RH) := match Try.prog.funcs[f]? with
  | some fn => match O with
    | some (.done ex s) => cDone Try.prog (cfgT t) fn (some (ex, s))
    | _ => none
  | none => none
theorem bodyF_eq {f : FuncId} {fn : Func} {c : Code} (hf : Try.prog.funcs[f]? = some fn) (hb : fn.body = some c) : bodyF f = c := by
  unfold bodyF
  rw [hf]
  show bodyO fn.body = c
  rw [hb]
  rfl
theorem fromH_eq (t : Tb) (plan : List Bool) (f : FuncId) (i : Nat) (s : St) : fromH t plan f i s = goH t plan f (.run (0 :: lpath f i)) (.lp (lpath f i) :: lframes f i) s := by
  unfold fromH
  rw [fSpine_eq]
  rfl
/-- One step, from a head to a head or to the end. -/
def StepH {κ : Type} (f : FuncId) (ix : κ → Nat) (pat : κ → St) (base : Nat) (w0 : World) (E0 : Env) (D : Ending → World → Prop) (nx : κ → Nm → Prop) (k : κ) (c : Nm) (W : Nat → Value) : Prop :=
  ∃ t plan, @TbOK (c.val W) t ∧ ((∃ S R k' c', nx k' c' ∧ (∀ W', Holds S (c.val W) (c'.val W')) ∧ R.take E0.length = List.range E0.length ∧ atH (fromH t plan f (ix k) (pat k)) f (ix k') S R (pat k') = true) ∨
    (∃ r h', endH t f (fromH t plan f (ix k) (pat k)) = some (r, h') ∧ ∀ E u w', E0 <+: E → @VRel (c.val W) E r u → @HInv (c.val W) ro base w0 E h' w' → D (.returned u) w'))
theorem heads_wp {κ : Type} {f : FuncId} {fn : Func} (hf : Try.prog.funcs[f]? = some fn) (ix : κ → Nat) (pat : κ → St) (base : Nat) (w0 : World) (E0 : Env) (D : Ending → World → Prop) (Φ : Nat → κ → Nm → Prop)
    (step : ∀ n k c, Φ n k c → ∀ W, StepH f ix pat base w0 E0 D (fun k' c' => ∃ n', n' < n ∧ Φ n' k' c') k c W) (n : Nat) : ∀ (k : κ) (c : Nm) (W : Nat → Value) (E : Env) (a : Act) (w : World), Φ n k c → E0 <+: E → @Go.Ri.Sim (c.val W) (cfgT {}) base w0 (pat k) E a w →
    LoopAt Try.prog (codeAt (bodyF f) (0 :: lpath f (ix k))) (postP Try.prog (bodyF f) (lframes f (ix k)) (bodyPost Try.prog fn D)) a w := by
  induction n using Nat.strongRecOn with
  | ind n ihn =>
    intro k c W E a w hΦ hE0 S
    obtain ⟨t, plan, ht, hor⟩ := step n k c hΦ W
    have S' : @Go.Ri.Sim (c.val W) (cfgT t) base w0 (pat k) E a w := @Go.Ri.Sim.mk (c.val W) (cfgT t) base w0 (pat k) E a w (@Go.Ri.Sim.t (c.val W) _ _ _ _ _ _ _ S) (@Go.Ri.Sim.d (c.val W) _ _ _ _ _ _ _ S) (@Go.Ri.Sim.h (c.val W) (cfgT {}) base w0 (pat k) E a w S)
    have hX := @xokT (c.val W) t ht
    have hC := @call_ok (c.val W) Try.prog (cfgT t) hm (cfgT_ok t) hX 4000 14
    have run : ∀ O, fromH t plan f (ix k) (pat k) = some O → (∀ E' a' w', E <+: E' → @OwedP (c.val W) Try.prog (cfgT t) base w0 (bodyF f) (bodyPost Try.prog fn D) O E' a' w') →
        LoopAt Try.prog (codeAt (bodyF f) (0 :: lpath f (ix k))) (postP Try.prog (bodyF f) (lframes f (ix k)) (bodyPost Try.prog fn D)) a w := fun O hO h => by
      rw [fromH_eq] at hO
      exact loopAt_body (@goP_ok (c.val W) Try.prog (cfgT t) (callT t) base w0 hm (cfgT_ok t) hC hX 4000 (bodyF f) (bodyPost Try.prog fn D) O 4000 plan (.run (0 :: lpath f (ix k))) (.lp (lpath f (ix k)) :: lframes f (ix k)) (pat k) E a w hO S' h)
    rcases hor with ⟨S1, R, k', c', ⟨n', hlt, hΦ'⟩, hhold, hR, hat⟩ | ⟨r, h', hout, hD⟩
    · unfold atH at hat
      split at hat
      · rename_i q K s2 hO
        simp only [Bool.and_eq_true] at hat
        obtain ⟨⟨h1, h2⟩, h3⟩ := hat
        refine run _ hO fun E' a' w' hEE => ?_
        refine fun Sm => ?_
        rw [sameW_eq _ _ h1, sameK_eq _ _ h2]
        let W' : Nat → Value := fun j => a'.tmps.toList.getD j undef
        refine ihn n' hlt k' c' W' _ a' w' hΦ' (pick_pre hR (hE0.trans hEE)) (@mtS_ok (c.val W) (c'.val W') S1 E' R (cfgT t) (cfgT {}) rfl base w0 w' a' s2 (pat k') (hhold W') h3 ?_ Sm)
        intro j v hj
        show a'.tmps.toList.getD j undef = v
        rw [List.getD_eq_getElem?_getD, hj]
        rfl
      · cases hat
    · unfold endH at hout
      rw [hf] at hout
      simp only at hout
      split at hout
      · rename_i ex s1 hO
        refine run _ hO fun E' a' w' hEE => ?_
        refine fun Sm => ?_
        exact @done_post (c.val W) Try.prog (cfgT t) base w0 fn ex s1 r h' hout D E' a' w' Sm fun u hu H => hD E' u w' (hE0.trans hEE) hu H
      · cases hout
/-- A FUNCTION WITH LOOPS, over blocks that are there. -/
theorem fn_heads {κ : Type} (c0 : Nm) (W0 : Nat → Value) (t0 : Tb) (plan0 : List Bool) (f : FuncId) (args : List RV) (h : RH) (ix : κ → Nat) (pat : κ → St) (Φ : Nat → κ → Nm → Prop) (ht0 : @TbOK (c0.val W0) t0) (S0 : List SE) (R0 : List Nat) (k0 : κ) (n0 : Nat)
    (h0 : atH (entH t0 plan0 f args h) f (ix k0) S0 R0 (pat k0) = true) (c1 : Nm) (hS0 : ∀ W', Holds S0 (c0.val W0) (c1.val W')) (hΦ0 : Φ n0 k0 c1) (base : Nat) (w0 : World) (E0 E : Env) (hE0 : E0 <+: E) (hR0 : R0.take E0.length = List.range E0.length) (D : Ending → World → Prop)
    (step : ∀ n k c, Φ n k c → ∀ W, StepH f ix pat base w0 E0 D (fun k' c' => ∃ n', n' < n ∧ Φ n' k' c') k c W) (w : World) (H : @HInv (c0.val W0) ro base w0 E h w) (vs : List Value) (hv : All2 (@VRel (c0.val W0) E) args vs) :
    Calls Try.prog f vs.toArray w D := by
  unfold atH at h0
  split at h0
  · rename_i q K s hO
    simp only [Bool.and_eq_true] at h0
    obtain ⟨⟨h1, h2⟩, h3⟩ := h0
    unfold entH at hO
    split at hO
    · rename_i fn hf
      have hX := @xokT (c0.val W0) t0 ht0
      have hC := @call_ok (c0.val W0) Try.prog (cfgT t0) hm (cfgT_ok t0) hX 4000 14
      cases hb : fn.body with
      | none =>
        have e : bodyF f = .skip := by unfold bodyF; rw [hf]; show bodyO fn.body = _; rw [hb]; rfl
        exfalso
        have hl : lpath f (ix k0) = [] := by unfold lpath; rw [e]; rfl
        unfold goH at hO
        rw [e] at hO
        have hO : pLeaf Try.prog (cfgT t0) (callT t0) 4000 (goP Try.prog (cfgT t0) (callT t0) 4000 .skip 3999) plan0 .skip [] (startSt fn args h) = some (.loop q K s) := hO
        cases hO
      | some c =>
        have e := bodyF_eq hf hb
        unfold goH at hO
        refine @calls_stopP (c0.val W0) Try.prog (cfgT t0) (callT t0) base w0 hm (cfgT_ok t0) hC hX f fn c hf hb 4000 4000 plan0 args h _ (e ▸ hO) E w vs D H hv fun E' a' w' hEE => ?_
        refine fun Sm => ?_
        rw [← e, sameW_eq _ _ h1, sameK_eq _ _ h2]
        let W' : Nat → Value := fun j => a'.tmps.toList.getD j undef
        refine heads_wp hf ix pat base w0 E0 D Φ step n0 k0 c1 W' _ a' w' hΦ0 (pick_pre hR0 (hE0.trans hEE)) (@mtS_ok (c0.val W0) (c1.val W') S0 E' R0 (cfgT t0) (cfgT {}) rfl base w0 w' a' s (pat k0) (hS0 W') h3 ?_ Sm)
        intro j v hj
        show a'.tmps.toList.getD j undef = v
        rw [List.getD_eq_getElem?_getD, hj]
        rfl
    · cases hO
  · cases h0
/-- The same, of values that came in. -/
noncomputable def entN (t : Tb) (plan : List Bool) (f : FuncId) (ds : List RV) : Option StopP := match okA ds with | true => entH t plan f (openN ds 0).1 (openN ds 0).2 | false => none
theorem fn_headsN {κ : Type} (c0 : Nm) (W0 : Nat → Value) (t0 : Tb) (plan0 : List Bool) (f : FuncId) (ds : List RV) (ix : κ → Nat) (pat : κ → St) (Φ : Nat → κ → Nm → Prop) (ht0 : @TbOK (c0.val W0) t0) (S0 : List SE) (R0 : List Nat) (k0 : κ) (n0 : Nat)
    (h0 : atH (entN t0 plan0 f ds) f (ix k0) S0 R0 (pat k0) = true) (c1 : Nm) (hS0 : ∀ W', Holds S0 (c0.val W0) (c1.val W')) (hΦ0 : Φ n0 k0 c1) (D : World → Ending → World → Prop)
    (step : ∀ w n k c, Φ n k c → ∀ W, StepH f ix pat w.heap.size w [] (D w) (fun k' c' => ∃ n', n' < n ∧ Φ n' k' c') k c W) (w : World) (hr : RoIn ro w) (vs : List Value) (hv : All2 (@Go.Ri.NVal (c0.val W0) w) ds vs) :
    Calls Try.prog f vs.toArray w (D w) := by
  unfold entN at h0
  split at h0
  · rename_i hok
    obtain ⟨E1, g1, g2⟩ := @openN_rel (c0.val W0) w ds (.inr (ro_pos hr)) vs [] (okA_n hok) hv
    exact fn_heads c0 W0 t0 plan0 f (openN ds 0).1 (openN ds 0).2 ix pat Φ ht0 S0 R0 k0 n0 h0 c1 hS0 hΦ0 w.heap.size w [] E1 (List.nil_prefix) rfl (D w) (step w) w (@HInv.lentN (c0.val W0) ro w hr _ _ g1) vs g2
  · cases h0
theorem stepH_to {κ : Type} {f : FuncId} {ix : κ → Nat} {pat : κ → St} {base : Nat} {w0 : World} {E0 : Env} {D : Ending → World → Prop} {nx : κ → Nm → Prop} {k : κ} {c : Nm} {W : Nat → Value} (t : Tb) (plan : List Bool) (ht : @TbOK (c.val W) t)
    (S : List SE) (R : List Nat) (hR : R.take E0.length = List.range E0.length) (k' : κ) (c' : Nm) (h : atH (fromH t plan f (ix k) (pat k)) f (ix k') S R (pat k') = true) (hS : ∀ W', Holds S (c.val W) (c'.val W')) (hn : nx k' c') : StepH f ix pat base w0 E0 D nx k c W :=
  ⟨t, plan, ht, .inl ⟨S, R, k', c', hn, hS, hR, h⟩⟩
noncomputable def endF (t : Tb) (f : FuncId) (O : Option StopP) (r0 : RV) : Bool := match endH t f O with
  | some (r, _) => match flat r with | true => eqTopR r r0 | false => false
  | none => false
noncomputable def endQ (t : Tb) (f : FuncId) (O : Option StopP) (S : List SE) (R : List Nat) (r0 : RV) (h0 : RH) : Bool := match endH t f O with
  | some (r, h') => mtS S R ⟨[r], h'⟩ ⟨[r0], h0⟩
  | none => false
theorem stepH_outF {κ : Type} {f : FuncId} {ix : κ → Nat} {pat : κ → St} {w0 : World} {E0 : Env} {v : Value} {nx : κ → Nm → Prop} {k : κ} {c : Nm} {W : Nat → Value} (t : Tb) (plan : List Bool) (ht : @TbOK (c.val W) t)
    (r0 : RV) (h : endF t f (fromH t plan f (ix k) (pat k)) r0 = true) (hv : @cvF (c.val W) r0 = v) : StepH f ix pat w0.heap.size w0 E0 (DF v w0) nx k c W := by
  unfold endF at h
  split at h
  · rename_i r h' hr
    split at h
    · rename_i hfl
      refine ⟨t, plan, ht, .inr ⟨r, h', hr, fun E u w' _ hu H => ⟨?_, @HInv.below (c.val W) _ _ _ _ _ _ H⟩⟩⟩
      rw [← hv, ← @eqTopR_cv (c.val W) r r0 h hfl]
      rw [@VRel.fn (c.val W) E r u _ hu (@rel_cvF (c.val W) E r hfl)]
    · cases h
  · cases h
theorem stepH_outQ {κ : Type} {f : FuncId} {ix : κ → Nat} {pat : κ → St} {w0 : World} {E0 : Env} {nx : κ → Nm → Prop} {k : κ} {c : Nm} {W : Nat → Value} (t : Tb) (plan : List Bool) (ht : @TbOK (c.val W) t)
    (V : Val) (S : List SE) (R : List Nat) (r0 : RV) (h0 : RH) (h : endQ t f (fromH t plan f (ix k) (pat k)) S R r0 h0 = true) (hw : isW r0 = false) (hS : Holds S (c.val W) V) : StepH f ix pat w0.heap.size w0 E0 (DQ V r0 h0 w0) nx k c W := by
  unfold endQ at h
  split at h
  · rename_i r h' hr
    exact ⟨t, plan, ht, .inr ⟨r, h', hr, fun E u w' _ hu H => ⟨u, pickE R E, rfl, mtQ_ok h hw hS hu H⟩⟩⟩
  · cases h
end Go.Proofs.Z
