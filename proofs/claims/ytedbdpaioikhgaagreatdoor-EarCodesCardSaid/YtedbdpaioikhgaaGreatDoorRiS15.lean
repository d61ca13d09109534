/- An interpreter for calls whose arguments are closed or names, and its soundness: a part of the proofs. -/
import Derived.Test.YtedbdpaioikhgaaGreatDoorRiS14
namespace Go.Ri
open Go Go.RowKit
variable [Val]

section
variable {P : Program} {g : Cfg} {C : CallF} {base : Nat} {w0 : World}

theorem Sim.drew {s : St} {E : Env} {a : Act} {w : World} (S : Sim g base w0 s E a w) : Sim g base w0 s E a { w with drawn := w.drawn + 1 } := ⟨S.t, S.d, S.h.drew⟩

theorem runB_ok (hm : P.follows .mixedOrders = true) (G : CfgOK P g) (hC : CallOK P g C) (hX : XOK P g) {id : Nat} {ops : Array Oper} {Q : Exit → Act → World → Prop} {s s' : St} {E : Env} {a : Act} {w : World} (S : Sim g base w0 s E a w)
    (hr : runB P g C ops s = some s') (hQ : ∀ E' a' w', E <+: E' → Sim g base w0 s' E' a' w' → Q .normal a' w') : (Code.region id ops true).wp P Q a w := by
  unfold runB at hr
  split at hr
  · exact wp_region_any hm (anyR_ok G hC hX (stepAtS_at ops) _ _ s s' E a _ S.drew (anyB_spec (com_strict ops) (firstOK_mono _ _) _ _ s s' hr) hQ)
  · exact wp_region_any hm (anyR_ok G hC hX (fun _ _ _ h => h) _ _ s s' E a _ S.drew (anyB_spec (com_at ops) (firstOK_mono _ _) _ _ s s' hr) hQ)

theorem runD_ok (hm : P.follows .mixedOrders = true) (G : CfgOK P g) (hC : CallOK P g C) (hX : XOK P g) {id : Nat} {ops : Array Oper} {Q : Exit → Act → World → Prop} {s s' : St} {E : Env} {a : Act} {w : World} (S : Sim g base w0 s E a w)
    (hr : runD P g C ops s = some s') (hQ : ∀ E' a' w', E <+: E' → Sim g base w0 s' E' a' w' → Q .normal a' w') : (Code.region id ops true).wp P Q a w := by
  unfold runD at hr
  split at hr
  · rename_i hq
    simp only [Bool.and_eq_true] at hq
    split at hr
    · rename_i s1 h1
      cases hr
      refine wp_region_quiet (C := fun w' => HInv g.ro base w0 E s.h w') hm hq.2 S.h.drew (runQ_ok G hC hX S.h ops.toList s s' a rfl S.t S.d h1 fun hh a' ht hd w' hw' => ?_)
      exact hQ E a' w' (List.prefix_refl E) ⟨ht, hd, by rw [hh]; exact hw'⟩
    · exact runB_ok hm G hC hX S hr hQ
  · exact runB_ok hm G hC hX S hr hQ

def Ex.toExit : Ex → Exit
  | .normal => .normal
  | .exit id => .exit id
  | .ret => .ret

omit [Val] in
theorem exec_succ (n : Nat) (c : Code) (s : St) : exec P g C (n + 1) c s = xStep P g C (exec P g C n) c s := rfl

theorem exec_ok (hm : P.follows .mixedOrders = true) (G : CfgOK P g) (hC : CallOK P g C) (hX : XOK P g) : ∀ n : Nat,
    (∀ (c : Code) (s : St) (ex : Ex) (s' : St) (E : Env) (a : Act) (w : World) (Q : Exit → Act → World → Prop), exec P g C n c s = some (ex, s') → Sim g base w0 s E a w →
      (∀ E' a' w', E <+: E' → Sim g base w0 s' E' a' w' → Q ex.toExit a' w') → c.wp P Q a w) ∧
    (∀ (b : Code) (s : St) (ex : Ex) (s' : St) (E : Env) (a : Act) (w : World) (Q : Exit → Act → World → Prop), exec P g C n (.loop b) s = some (ex, s') → Sim g base w0 s E a w →
      (∀ E' a' w', E <+: E' → Sim g base w0 s' E' a' w' → Q ex.toExit a' w') → Code.rounds P b Q n a w)
  | 0 => ⟨fun _ _ _ _ _ _ _ _ h => (by cases h), fun _ _ _ _ _ _ _ _ h => (by cases h)⟩
  | n + 1 => by
    obtain ⟨ih1, ih2⟩ := exec_ok hm G hC hX n
    -- what a run that may go on leaves
    have go : ∀ (r : Option (Ex × St)) (y : Code) (s : St) (ex : Ex) (s' : St), xSeq (exec P g C n) y r = some (ex, s') →
        (∃ s1, r = some (.normal, s1) ∧ exec P g C n y s1 = some (ex, s')) ∨ (ex ≠ .normal ∧ r = some (ex, s')) := by
      intro r y s ex s' h
      unfold xSeq at h
      split at h
      · exact .inl ⟨_, rfl, h⟩
      · rename_i hne
        refine .inr ⟨fun e => ?_, h⟩
        subst e
        exact hne s' h
    have loop : ∀ (b : Code) (s : St) (ex : Ex) (s' : St) (E : Env) (a : Act) (w : World) (Q : Exit → Act → World → Prop), exec P g C (n + 1) (.loop b) s = some (ex, s') → Sim g base w0 s E a w →
        (∀ E' a' w', E <+: E' → Sim g base w0 s' E' a' w' → Q ex.toExit a' w') → Code.rounds P b Q (n + 1) a w := by
      intro b s ex s' E a w Q h S hQ
      rw [exec_succ] at h
      have h : xSeq (exec P g C n) (.loop b) (exec P g C n b s) = some (ex, s') := h
      rw [rounds_succ]
      rcases go _ _ s _ _ h with ⟨s1, h1, h2⟩ | ⟨hne, h1⟩
      · exact ih1 b s .normal s1 E a w _ h1 S fun E' a' w' hE S' => ih2 b s1 ex s' E' a' w' Q h2 S' fun E2 a2 w2 hE2 S2 => hQ E2 a2 w2 (hE.trans hE2) S2
      · refine ih1 b s ex s' E a w _ h1 S fun E' a' w' hE S' => ?_
        have := hQ E' a' w' hE S'
        cases ex with
        | normal => exact absurd rfl hne
        | exit id => exact this
        | ret => exact this
    refine ⟨?_, loop⟩
    intro c s ex s' E a w Q h S hQ
    cases c with
    | skip => cases h; exact wp_skip (hQ E a w (List.prefix_refl E) S)
    | label l => cases h; exact wp_label (hQ E a w (List.prefix_refl E) S)
    | region id ops draw =>
      cases draw with
      | false =>
        have h : xRegion P g C ops s = some (ex, s') := h
        unfold xRegion at h
        split at h
        · rename_i s1 h1
          cases h
          exact wp_region_list (runOps_ok G hC hX ops.toList s s' E a w S h1 hQ)
        · cases h
      | true =>
        have h : xDraw P g C ops s = some (ex, s') := h
        unfold xDraw at h
        split at h
        · rename_i s1 h1
          cases h
          exact runD_ok hm G hC hX S h1 hQ
        · cases h
    | seq x y =>
      have h : xSeq (exec P g C n) y (exec P g C n x s) = some (ex, s') := h
      rcases go _ _ s _ _ h with ⟨s1, h1, h2⟩ | ⟨hne, h1⟩
      · exact wp_seq (ih1 x s .normal s1 E a w _ h1 S fun E' a' w' hE S' => ih1 y s1 ex s' E' a' w' Q h2 S' fun E2 a2 w2 hE2 S2 => hQ E2 a2 w2 (hE.trans hE2) S2)
      · refine wp_seq (ih1 x s ex s' E a w _ h1 S fun E' a' w' hE S' => ?_)
        have := hQ E' a' w' hE S'
        cases ex with
        | normal => exact absurd rfl hne
        | exit id => exact this
        | ret => exact this
    | cond x p q =>
      have h : xCond g (exec P g C n) p q s (ev s.t x) = some (ex, s') := h
      have hx := ev_rel S.t x
      unfold xCond at h
      split at h
      · rename_i b hb
        rw [hb] at hx
        exact wp_cond hx (ih1 _ s ex s' E a w Q h S hQ)
      · rename_i i hb
        rw [hb] at hx
        split at h
        · rename_i b hq
          obtain ⟨_, f1, _, c, e1, e2⟩ := tlook_true hX.t hq
          have hx2 : a.eval x = .bool c := (cv_rel f1 hx).trans e1
          have e3 : b = c := by simpa [cv] using e2
          subst e3
          exact wp_cond hx2 (ih1 _ s ex s' E a w Q h S hQ)
        · cases h
      · cases h
    | block id b =>
      have h : xBlock id (exec P g C n b s) = some (ex, s') := h
      unfold xBlock at h
      split at h
      · rename_i i s1 h1
        refine wp_block (ih1 b s _ s1 E a w _ h1 S fun E' a' w' hE S' => ?_)
        show if i = id then Q .normal a' w' else Q (.exit i) a' w'
        split at h
        · rename_i hi
          rw [if_pos hi]
          cases h
          exact hQ E' a' w' hE S'
        · rename_i hi
          rw [if_neg hi]
          cases h
          exact hQ E' a' w' hE S'
      · rename_i hne
        refine wp_block (ih1 b s ex s' E a w _ h S fun E' a' w' hE S' => ?_)
        have := hQ E' a' w' hE S'
        cases ex with
        | normal => exact this
        | exit i => exact absurd h (hne i s')
        | ret => exact this
    | loop b => exact wp_loop_rounds (n + 1) (loop b s ex s' E a w Q h S hQ)
    | rangeFunc f ps x y => cases h
    | exit id => cases h; exact wp_exit (hQ E a w (List.prefix_refl E) S)
    | scope b =>
      have h : exec P g C n b s = some (ex, s') := h
      refine wp_scope_straight (ih1 b s ex s' E a w _ h S fun E' a' w' hE S' => ?_)
      have := hQ E' a' w' hE S'
      cases ex <;> exact this
    | goto l => cases h
    | ret => cases h; exact wp_ret (hQ E a w (List.prefix_refl E) S)
    | refuse why => cases h

/-- One result. -/
def resSem (tmps : Array Value) : ResultVar → Sem Value
  | .tmp t => pure (tmps.getD t undef)
  | .cell a t => do loadVar t (← asAddr (tmps.getD a undef))

theorem getD_rel {E : Env} {t : List RV} {tmps : Array Value} (ht : All2 (VRel E) t tmps.toList) (i : Nat) : VRel E (t.getD i (.pl undef)) (tmps.getD i undef) := by
  have h := ev_rel (a := ⟨tmps, []⟩) ht (.tmp i)
  have e : ev t (.tmp i) = t.getD i (.pl undef) := nth_eq t i
  rw [e] at h
  exact h

theorem resultR_ok {E : Env} {s : St} {tmps : Array Value} {w : World} (ht : All2 (VRel E) s.t tmps.toList) (H : HInv g.ro base w0 E s.h w) {r : ResultVar} {v : RV} (hs : resultR P g s r = some v) :
    ∃ u, VRel E v u ∧ (resSem tmps r).run P w = .ok u w := by
  cases r with
  | tmp t =>
    cases hs
    exact ⟨_, getD_rel ht t, rfl⟩
  | cell ad ty =>
    have hs : loadOp P g.ro s.h ty (s.t.getD ad (.pl undef)) = some v := hs
    obtain ⟨u, hu, hrun⟩ := fit_load H (getD_rel ht ad) hs
    refine ⟨u, hu, ?_⟩
    obtain ⟨x, hx⟩ : ∃ x, tmps.getD ad undef = x := ⟨_, rfl⟩
    rw [hx] at hrun
    show (do loadVar ty (← asAddr (tmps.getD ad undef)) : Sem Value).run P w = _
    rw [hx]
    cases x with
    | pointer p =>
      cases p with
      | some q => simpa [Instr.loadAt, Instr.sureAddr, asAddr] using hrun
      | none => simp [Instr.loadAt, Instr.sureAddr] at hrun
    | _ => simp [Instr.loadAt, Instr.sureAddr] at hrun

theorem resultsR_ok {E : Env} {s : St} {tmps : Array Value} {w : World} (ht : All2 (VRel E) s.t tmps.toList) (H : HInv g.ro base w0 E s.h w) : ∀ (rs : List ResultVar) (vs : List RV), resultsR P g s rs = some vs →
    ∃ us, All2 (VRel E) vs us ∧ (rs.mapM (resSem tmps)).run P w = .ok us w
  | [], vs, h => by cases h; exact ⟨[], .nil, rfl⟩
  | r :: rs, vs, h => by
    unfold resultsR at h
    split at h
    · rename_i v vs' h1 h2
      cases h
      obtain ⟨u, hu, hr⟩ := resultR_ok ht H h1
      obtain ⟨us, hus, hrs⟩ := resultsR_ok ht H rs vs' h2
      refine ⟨u :: us, .cons hu hus, ?_⟩
      rw [List.mapM_cons]
      simp [hr, hrs]
    · cases h

omit [Val] in
theorem results_run {fn : Func} {tmps : Array Value} {w : World} {us : List Value} (h : (fn.results.toList.mapM (resSem tmps)).run P w = .ok us w) :
    (results fn tmps).run P w = .ok (match us with | [u] => u | us => .tuple us.toArray) w := by
  have e : results fn tmps = (do
      let vs ← fn.results.mapM (resSem tmps)
      pure (if h : vs.size = 1 then vs[0] else .tuple vs)) := by
    unfold results
    congr 1
  rw [e, Array.mapM_eq_mapM_toList]
  simp only [Sem.run_bind, Sem.run_map, h, Result.andThen_ok, Sem.run_pure]
  rcases us with _ | ⟨u, _ | ⟨v, us⟩⟩ <;> simp

omit [Val] in
theorem call_succ (m n : Nat) (f : FuncId) (args : List RV) (h : RH) : call P g m (n + 1) f args h = cStep P g m (call P g m n) f args h := rfl

theorem call_ok (hm : P.follows .mixedOrders = true) (G : CfgOK P g) (hX : XOK P g) (m : Nat) : ∀ n, CallOK P g (call P g m n)
  | 0 => fun _ _ _ _ _ h => by cases h
  | n + 1 => by
    intro f args h r h' hcall base w0 E w vs H ha
    have ih := call_ok hm G hX m n
    rw [call_succ] at hcall
    unfold cStep at hcall
    split at hcall
    · rename_i fn hf
      unfold cFn at hcall
      split at hcall
      · rename_i c hb
        rw [fList_eq _ (fun x k => fRV_eq x k)] at hcall
        unfold cBody at hcall
        rw [fSpine_eq] at hcall
        unfold cDone at hcall
        have hal := ha.length
        have ht : All2 (VRel E) (args ++ List.replicate (fn.ntmps - args.length) (.pl undef)) (vs.toArray ++ Array.replicate (fn.ntmps - vs.toArray.size) undef).toList := by
          simp only [Array.toList_append, Array.toList_replicate, List.size_toArray]
          rw [hal]
          exact ha.append (All2.replicate _ (show VRel E (.pl undef) undef from rfl))
        refine calls_of_wp hf hb ?_
        have done : ∀ (ex : Ex) (s : St), exec P g (call P g m n) m c ⟨args ++ List.replicate (fn.ntmps - args.length) (.pl undef), h⟩ = some (ex, s) → (ex = .normal ∨ ex = .ret) →
            (match resultsR P g s fn.results.toList with | some [v] => fRV v fun v => some (v, s.h) | some vs => fRV (mkTup vs) fun v => some (v, s.h) | none => none) = some (r, h') →
            c.wp P (bodyPost P fn (Done g base w0 E r h')) { tmps := vs.toArray ++ Array.replicate (fn.ntmps - vs.toArray.size) undef, defers := [] } w := by
          intro ex s hex hor hres
          refine (exec_ok hm G ih hX m).1 c _ ex s E _ w _ hex ⟨ht, rfl, H⟩ fun E' a' w' hE S' => ?_
          have key : a'.defers = [] ∧ ∃ v, (results fn a'.tmps).run P w' = .ok v w' ∧ Done g base w0 E r h' (.returned v) w' := by
            refine ⟨S'.d, ?_⟩
            cases hrr : resultsR P g s fn.results.toList with
            | none => rw [hrr] at hres; cases hres
            | some rvs =>
              rw [hrr] at hres
              obtain ⟨us, hus, hrun⟩ := resultsR_ok S'.t S'.h _ _ hrr
              have hrun := results_run hrun
              cases hus with
              | nil =>
                simp only [fRV_eq] at hres
                cases hres
                exact ⟨_, hrun, _, E', rfl, hE, mkTup_rel .nil, S'.h⟩
              | cons h1 hrest =>
                cases hrest with
                | nil =>
                  simp only [fRV_eq] at hres
                  cases hres
                  exact ⟨_, hrun, _, E', rfl, hE, h1, S'.h⟩
                | cons h2 hrest =>
                  simp only [fRV_eq] at hres
                  cases hres
                  exact ⟨_, hrun, _, E', rfl, hE, mkTup_rel (.cons h1 (.cons h2 hrest)), S'.h⟩
          rcases hor with rfl | rfl
          · exact key
          · exact key
        split at hcall
        · cases hcall
        · rename_i ex s hne hex
          refine done ex s hex ?_ hcall
          cases ex with
          | normal => exact .inl rfl
          | exit id => exact (hne id rfl).elim
          | ret => exact .inr rfl
        · cases hcall
      · cases hcall
    · cases hcall

/-- A CLOSED CALL: what the interpreter answers from an empty heap, the program answers in every world in which the listed variables hold what they hold. -/
theorem closed_call (hm : P.follows .mixedOrders = true) (G : CfgOK P g) (hX : XOK P g) (m n : Nat) (f : FuncId) (vs : List Value) (v : Value) (h' : RH) (hc : call P g m n f (vs.map .pl) [] = some (.pl v, h')) (w : World) (hr : RoIn g.ro w) :
    Calls P f vs.toArray w (fun e w' => e = .returned v ∧ Below w.heap.size w w') :=
  (call_ok hm G hX m n f _ [] _ _ hc w.heap.size w [] w vs (HInv.start hr) (All2.pls vs)).mono fun e w' ⟨u, E', he, _, hv, H⟩ => ⟨by rw [he, show u = v from hv], H.below⟩

theorem all2_pl {E : Env} : ∀ {l vs : List Value}, All2 (VRel E) (l.map .pl) vs → vs = l
  | [], _, h => by cases h; rfl
  | v :: l, _, h => by
    cases h with
    | cons h1 h2 => rw [all2_pl h2, show _ = v from h1]
/-- A closed call that answers a fresh slice. -/
theorem fresh_call (hm : P.follows .mixedOrders = true) (G : CfgOK P g) (hX : XOK P g) (m n : Nat) (f : FuncId) (vs : List Value) (b k s : Nat) (l : List Value) (e : TypeId) (room : Bool) (h' : RH) (hc : call P g m n f (vs.map .pl) [] = some (.sl b 0 k s none, h'))
    (hb : lkp h' b = some (.cells (l.map .pl) e room false)) : FTrue P g.ro f vs ⟨l, k, s, e⟩ := by
  intro w hr
  refine (call_ok hm G hX m n f _ [] _ _ hc w.heap.size w [] w vs (HInv.start hr) (All2.pls vs)).mono fun x w' ⟨u, E', he, _, hv, H⟩ => ?_
  obtain ⟨p, q, h1, h2, h3, rfl⟩ := hv
  rw [lkp_eq] at hb
  obtain ⟨p', g1, g2, cur, fr, g3, g4, g5, _, g6⟩ := H.blk1 b _ hb rfl
  rw [h1] at g1
  cases g1
  have hlc := g5.length
  have hl := all2_pl g5
  refine ⟨p.1, cur, ?_, g2, ?_, ?_, ?_, H.below⟩
  · rw [he, h2]
    show Ending.returned (.slice (some ⟨p.1, 0, none⟩) k ((p.2 - 0) / s)) = _
    rw [g4, Nat.sub_zero]
  · rw [g3, g6 rfl]
  · show k ≤ cur.size / s
    have h3' : k ≤ q := h3
    rw [h2] at h3'
    rw [g4]
    exact h3'
  · show cur.toList.take l.length = l
    rw [List.length_map] at hl
    exact hl
/-- Blocks that are lent: what they hold from their start on. -/
def LentAt (E : Env) (w : World) (o : Option RO) (p : Nat × Nat) : Prop := ∃ l e, o = some (.lent l e) ∧ BRel E p w (.lent l e)
theorem HInv.lent {ro : Ro} {w : World} (hr : RoIn ro w) {h : RH} {E : Env} (hl : All2 (LentAt E w) h E) : HInv ro w.heap.size w E h w := by
  refine ⟨Below.refl _ _, Nat.le_refl _, hl.length, fun k cs hk => hr k cs hk, fun b o hb => ?_, fun b b' o o' p p' hb hb' ho ho' => ?_⟩
  · unfold at? at hb
    cases hx : h[b]? with
    | none => rw [hx] at hb; cases hb
    | some x =>
      rw [hx] at hb
      obtain ⟨p, hp, l, e, hxe, hB⟩ := hl.get b x hx
      subst hxe
      cases hb
      exact ⟨p, hp, by rw [if_neg (by simp [RO.own])]; exact hB.heap_lt, hB⟩
  · unfold at? at hb
    cases hx : h[b]? with
    | none => rw [hx] at hb; cases hb
    | some x =>
      rw [hx] at hb
      obtain ⟨p, hp, l, e, hxe, hB⟩ := hl.get b x hx
      subst hxe
      cases hb
      cases ho
/-- A call over blocks that are lent. -/
theorem lent_call (hm : P.follows .mixedOrders = true) (G : CfgOK P g) (hX : XOK P g) (m n : Nat) (f : FuncId) (args : List RV) (h : RH) (r : RV) (h' : RH) (hc : call P g m n f args h = some (r, h')) (hfr : flat r = true) (w : World) (hr : RoIn g.ro w)
    (E : Env) (hl : All2 (LentAt E w) h E) (vs : List Value) (ha : All2 (VRel E) args vs) : Calls P f vs.toArray w (fun e w' => e = .returned (cvF r) ∧ Below w.heap.size w w') :=
  (call_ok hm G hX m n f _ h _ _ hc w.heap.size w E w _ (HInv.lent hr hl) ha).mono fun e w' ⟨u, E', he, _, hv, H⟩ => ⟨by rw [he, VRel.fn r u _ hv (rel_cvF hfr)], H.below⟩
theorem flats_cvF : ∀ l : List RV, l.all flat = true → All2 (VRel []) l (l.map cvF)
  | [], _ => .nil
  | r :: l, h => by
    simp only [List.all_cons, Bool.and_eq_true] at h
    exact .cons (rel_cvF h.1) (flats_cvF l h.2)
/-- A CALL WITH NAMES: what the interpreter answers by what is known of the names, the program answers for what they stand for. -/
theorem sym_call (hm : P.follows .mixedOrders = true) (G : CfgOK P g) (hX : XOK P g) (m n : Nat) (f : FuncId) (args : List RV) (r : RV) (h' : RH) (hc : call P g m n f args [] = some (r, h')) (hfa : args.all flat = true) (hfr : flat r = true) (w : World) (hr : RoIn g.ro w) :
    Calls P f (args.map cvF).toArray w (fun e w' => e = .returned (cvF r) ∧ Below w.heap.size w w') :=
  (call_ok hm G hX m n f _ [] _ _ hc w.heap.size w [] w _ (HInv.start hr) (flats_cvF args hfa)).mono fun e w' ⟨u, E', he, _, hv, H⟩ => ⟨by rw [he, VRel.fn r u _ hv (rel_cvF hfr)], H.below⟩
end
end Go.Ri
