/- A part of the proofs that the laws of layer one answer true for every input. -/
import Derived.Test.YtedbdpaioikhgaaDoorZLoop
/-! A loop behind a loop. -/
namespace Go.Proofs.Z
open Go Go.RowKit Go.Proofs Go.Ri
noncomputable def rndT (t : Tb) (plan : List Bool) (B : Code) (K : List Fr) (s : St) : Option Rnd := rnd Tryd.prog (cfgT t) (callT t) 4000 4000 plan B K s
noncomputable def oB (r : Option Rnd) : Code := match r with | some (.out (.loop b _ _)) => b | _ => .skip
noncomputable def oK (r : Option Rnd) : List Fr := match r with | some (.out (.loop _ K _)) => K | _ => []
noncomputable def oM (r : Option Rnd) (S : List SE) (R : List Nat) (p : St) : Bool := match r with | some (.out (.loop _ _ s)) => mtS S R s p | _ => false
/-- What is owed at a loop's head. -/
def AtHead (f : FuncId) (B : Code) (K : List Fr) (base : Nat) (w0 : World) (D : Ending → World → Prop) (p : St) (c : Nm) : Prop :=
  ∀ fn, Tryd.prog.funcs[f]? = some fn → ∀ W E a w, @Go.Ri.Sim (c.val W) (cfgT {}) base w0 p E a w → (Code.loop B).wp Tryd.prog (postK Tryd.prog K (bodyPost Tryd.prog fn D)) a w
/-- One step of a loop, or out of it to another loop's head. -/
def StepL {κ : Type} (f : FuncId) (B : Code) (K : List Fr) (pat : κ → St) (base : Nat) (w0 : World) (D : Ending → World → Prop) (nx : κ → Nm → Prop) (k : κ) (c : Nm) (W : Nat → Value) : Prop :=
  StepT f B K pat base w0 D nx k c W ∨ ∃ t plan S R p' c', @TbOK (c.val W) t ∧ oM (rndT t plan B K (pat k)) S R p' = true ∧ (∀ W', Holds S (c.val W) (c'.val W')) ∧
    AtHead f (oB (rndT t plan B K (pat k))) (oK (rndT t plan B K (pat k))) base w0 D p' c'
theorem loop_wpL {κ : Type} {f : FuncId} {fn : Func} (hf : Tryd.prog.funcs[f]? = some fn) (B : Code) (K : List Fr) (pat : κ → St) (base : Nat) (w0 : World) (D : Ending → World → Prop) (Φ : Nat → κ → Nm → Prop)
    (step : ∀ n k c, Φ n k c → ∀ W, StepL f B K pat base w0 D (fun k' c' => ∃ n', n' < n ∧ Φ n' k' c') k c W) (n : Nat) (k : κ) (c : Nm) (W : Nat → Value) (E : Env) (a : Act) (w : World) (hΦ : Φ n k c) (S : @Go.Ri.Sim (c.val W) (cfgT {}) base w0 (pat k) E a w) :
    (Code.loop B).wp Tryd.prog (postK Tryd.prog K (bodyPost Tryd.prog fn D)) a w := by
  refine head_rule (κ := κ) (fun n k a w => ∃ c W E, Φ n k c ∧ @Go.Ri.Sim (c.val W) (cfgT {}) base w0 (pat k) E a w) ?_ n k a w ⟨c, W, E, hΦ, S⟩
  rintro n k a w ⟨c, W, E, hΦ, S⟩
  rcases step n k c hΦ W with ⟨t, plan, ht, hor⟩ | ⟨t, plan, S1, R, p', c', ht, hM, hhold, hhead⟩
  · have S' : @Go.Ri.Sim (c.val W) (cfgT t) base w0 (pat k) E a w := @Go.Ri.Sim.mk (c.val W) (cfgT t) base w0 (pat k) E a w (@Go.Ri.Sim.t (c.val W) _ _ _ _ _ _ _ S) (@Go.Ri.Sim.d (c.val W) _ _ _ _ _ _ _ S) (@Go.Ri.Sim.h (c.val W) (cfgT {}) base w0 (pat k) E a w S)
    have hX := @xokT (c.val W) t ht
    have hC := @call_ok (c.val W) Tryd.prog (cfgT t) hm (cfgT_ok t) hX 4000 14
    rcases hor with ⟨S1, R, k', c', ⟨n', hlt, hΦ'⟩, hhold, hag⟩ | ⟨r, h', hout, hD⟩
    · unfold againT at hag
      split at hag
      · rename_i s1 hr
        refine @rnd_ok (c.val W) Tryd.prog (cfgT t) (callT t) base w0 hm (cfgT_ok t) hC hX _ _ _ _ _ _ _ _ _ _ _ _ hr S' ?_ ?_
        · intro s2 he E' a' w' _ Sm
          cases he
          let W' : Nat → Value := fun j => a'.tmps.toList.getD j undef
          refine ⟨n', k', hlt, _, W', _, hΦ', @mtS_ok (c.val W) (c'.val W') S1 E' R (cfgT t) (cfgT {}) rfl base w0 w' a' s1 (pat k') (hhold W') hag ?_ Sm⟩
          intro j v hj
          show a'.tmps.toList.getD j undef = v
          rw [List.getD_eq_getElem?_getD, hj]
          rfl
        · intro O he
          cases he
      · cases hag
    · unfold outT at hout
      rw [hf] at hout
      simp only at hout
      split at hout
      · rename_i ex s1 hr
        refine @rnd_ok (c.val W) Tryd.prog (cfgT t) (callT t) base w0 hm (cfgT_ok t) hC hX _ _ _ _ _ _ _ _ _ _ _ _ hr S' ?_ ?_
        · intro s2 he
          cases he
        · intro O he
          cases he
          intro E' a' w' _
          refine fun Sm => ?_
          exact @done_post (c.val W) Tryd.prog (cfgT t) base w0 fn ex s1 r h' hout D E' a' w' Sm fun u hu H => hD E' u w' hu H
      · cases hout
  · have S' : @Go.Ri.Sim (c.val W) (cfgT t) base w0 (pat k) E a w := @Go.Ri.Sim.mk (c.val W) (cfgT t) base w0 (pat k) E a w (@Go.Ri.Sim.t (c.val W) _ _ _ _ _ _ _ S) (@Go.Ri.Sim.d (c.val W) _ _ _ _ _ _ _ S) (@Go.Ri.Sim.h (c.val W) (cfgT {}) base w0 (pat k) E a w S)
    have hX := @xokT (c.val W) t ht
    have hC := @call_ok (c.val W) Tryd.prog (cfgT t) hm (cfgT_ok t) hX 4000 14
    unfold oM at hM
    split at hM
    · rename_i b2 K2 s1 hr
      have hB : oB (rndT t plan B K (pat k)) = b2 := by rw [hr]; rfl
      have hK : oK (rndT t plan B K (pat k)) = K2 := by rw [hr]; rfl
      rw [hB, hK] at hhead
      refine @rnd_ok (c.val W) Tryd.prog (cfgT t) (callT t) base w0 hm (cfgT_ok t) hC hX _ _ _ _ _ _ _ _ _ _ _ _ hr S' ?_ ?_
      · intro s2 he
        cases he
      · intro O he
        cases he
        intro E' a' w' _
        refine fun Sm => ?_
        let W' : Nat → Value := fun j => a'.tmps.toList.getD j undef
        refine hhead fn hf W' _ a' w' (@mtS_ok (c.val W) (c'.val W') S1 E' R (cfgT t) (cfgT {}) rfl base w0 w' a' s1 p' (hhold W') hM ?_ Sm)
        intro j v hj
        show a'.tmps.toList.getD j undef = v
        rw [List.getD_eq_getElem?_getD, hj]
        rfl
    · cases hM
/-- A FUNCTION WITH LOOPS, one behind the other. -/
theorem fn_loopL {κ : Type} (c0 : Nm) (W0 : Nat → Value) (t0 : Tb) (plan0 : List Bool) (f : FuncId) (ds : List RV) (pat : κ → St) (Φ : Nat → κ → Nm → Prop) (ht0 : @TbOK (c0.val W0) t0) (S0 : List SE) (R0 : List Nat) (k0 : κ) (n0 : Nat)
    (h0 : enterT t0 plan0 f ds S0 R0 (pat k0) = true) (c1 : Nm) (hS0 : ∀ W', Holds S0 (c0.val W0) (c1.val W')) (hΦ0 : Φ n0 k0 c1) (D : World → Ending → World → Prop)
    (step : ∀ w n k c, Φ n k c → ∀ W, StepL f (hB t0 plan0 f ds) (hK t0 plan0 f ds) pat w.heap.size w (D w) (fun k' c' => ∃ n', n' < n ∧ Φ n' k' c') k c W) (w : World) (hr : RoIn ro w) (vs : List Value) (hv : All2 (@Go.Ri.NVal (c0.val W0) w) ds vs) :
    Calls Tryd.prog f vs.toArray w (D w) := by
  unfold enterT at h0
  split at h0
  · rename_i b K s hs
    obtain ⟨fn, c, hf, hb, hok, hgo⟩ := stop_fn hs
    have hX := @xokT (c0.val W0) t0 ht0
    have hC := @call_ok (c0.val W0) Tryd.prog (cfgT t0) hm (cfgT_ok t0) hX 4000 14
    have eB : hB t0 plan0 f ds = b := by unfold hB; rw [hs]
    have eK : hK t0 plan0 f ds = K := by unfold hK; rw [hs]
    rw [eB, eK] at step
    refine @callsN_stop (c0.val W0) Tryd.prog (cfgT t0) (callT t0) hm (cfgT_ok t0) hC hX f fn c hf hb 4000 4000 plan0 ds _ hok hgo w hr (ro_pos hr) vs hv (D w) fun E' a' w' => ?_
    refine fun Sm => ?_
    let W' : Nat → Value := fun j => a'.tmps.toList.getD j undef
    refine loop_wpL hf b K pat w.heap.size w (D w) Φ (step w) n0 k0 c1 W' _ a' w' hΦ0 (@mtS_ok (c0.val W0) (c1.val W') S0 E' R0 (cfgT t0) (cfgT {}) rfl w.heap.size w w' a' s (pat k0) (hS0 W') h0 ?_ Sm)
    intro j v hj
    show a'.tmps.toList.getD j undef = v
    rw [List.getD_eq_getElem?_getD, hj]
    rfl
  · cases h0
end Go.Proofs.Z
