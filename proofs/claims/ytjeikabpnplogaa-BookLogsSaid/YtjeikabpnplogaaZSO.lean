/- A part of the proofs that the laws of layer eight answer true for every input. -/
import Derived.Test.YtjeikabpnplogaaZSA
namespace Go.Proofs.Z
open Go Go.RowKit Go.Proofs Go.Ri
/-! A closed call in two runs: up to a place in the body, and from there on with nothing that was. -/
noncomputable def preRun (t : Tb) : Nat → Code → St → Option (St × Code)
  | 0, c, s => some (s, c)
  | k + 1, c, s => match c with
    | .seq a b => match exec Try.prog (cfgT t) (callT t) 4000 a s with
      | some (.normal, s1) => preRun t k b s1
      | _ => none
    | _ => none
def tailOf : Nat → Code → Option Code
  | 0, c => some c
  | k + 1, c => match c with
    | .seq _ b => tailOf k b
    | _ => none
theorem preRun_tail (t : Tb) : ∀ (k : Nat) (c : Code) (s s' : St) (tl : Code), preRun t k c s = some (s', tl) → tailOf k c = some tl
  | 0, c, s, s', tl, h => by
    have h : some (s, c) = some (s', tl) := h
    cases h
    rfl
  | k + 1, c, s, s', tl, h => by
    unfold preRun at h
    split at h
    · rename_i a b
      split at h
      · exact preRun_tail t k b _ s' tl h
      · cases h
    · cases h
theorem pre_ok [Val] {t : Tb} (ht : TbOK t) {base : Nat} {w0 : World} {Q : Exit → Act → World → Prop} : ∀ (k : Nat) (c : Code) (s s' : St) (tl : Code) (E : Env) (a : Act) (w : World), preRun t k c s = some (s', tl) → Go.Ri.Sim (cfgT t) base w0 s E a w →
    (∀ E' a' w', E <+: E' → Go.Ri.Sim (cfgT t) base w0 s' E' a' w' → tl.wp Try.prog Q a' w') → c.wp Try.prog Q a w
  | 0, c, s, s', tl, E, a, w, h, S, hk => by
    have h : some (s, c) = some (s', tl) := h
    cases h
    exact hk E a w (List.prefix_refl E) S
  | k + 1, c, s, s', tl, E, a, w, h, S, hk => by
    have hX := xokT ht
    have hC := call_ok (P := Try.prog) (g := cfgT t) hm (cfgT_ok t) hX 4000 14
    unfold preRun at h
    split at h
    · rename_i x b
      split at h
      · rename_i s1 h1
        refine wp_seq ?_
        refine (exec_ok hm (cfgT_ok t) hC hX 4000).1 x s .normal s1 E a w _ h1 S fun E' a' w' hE S' => ?_
        exact pre_ok ht k b s1 s' tl E' a' w' h S' fun E2 a2 w2 hE2 S2 => hk E2 a2 w2 (hE.trans hE2) S2
      · cases h
    · cases h
noncomputable def cutA (t : Tb) (f : FuncId) (k : Nat) : Bool := match Try.prog.funcs[f]? with
  | some fn => match preRun t k (bodyF f) (startSt fn [] []) with
    | some (s', _) => mtS [] [] s' ⟨patW [] fn.ntmps 0, []⟩
    | none => false
  | none => false
noncomputable def cutB (t : Tb) (f : FuncId) (k : Nat) (r0 : RV) : Bool := match Try.prog.funcs[f]? with
  | some fn => match tailOf k (bodyF f) with
    | some tl => match cDone Try.prog (cfgT t) fn (exec Try.prog (cfgT t) (callT t) 4000 tl ⟨patW [] fn.ntmps 0, []⟩) with
      | some (r, _) => match flat r with | true => eqTopR r r0 | false => false
      | none => false
    | none => false
  | none => false
theorem cut_call {X : FuncId → List Value → Option Value} (hX : XTrue X) {f : FuncId} {fn : Func} {c : Code} (hf : Try.prog.funcs[f]? = some fn) (hb : fn.body = some c) {k : Nat} {v0 : Value} (hA : cutA { X := X } f k = true) (hB : cutB { X := X } f k (.pl v0) = true) : Ans f [] v0 := by
  intro w hr
  have hbody := bodyF_eq hf hb
  unfold cutA at hA
  unfold cutB at hB
  rw [hf] at hA hB
  simp only at hA hB
  rw [hbody] at hA hB
  split at hA
  · rename_i s' tl hpre
    rw [preRun_tail _ _ _ _ _ _ hpre] at hB
    simp only at hB
    split at hB
    · rename_i r h' hd
      split at hB
      · rename_i hfl
        have ht0 : @TbOK V0 { X := X } := by
          letI : Val := V0
          exact { X := hX }
        cases hex : exec Try.prog (cfgT { X := X }) (callT { X := X }) 4000 tl ⟨patW [] fn.ntmps 0, []⟩ with
        | none => rw [hex] at hd; cases hd
        | some x =>
          obtain ⟨ex, s2⟩ := x
          rw [hex] at hd
          refine calls_of_wp hf hb ?_
          have hts : All2 (@VRel V0 []) (startSt fn [] []).t (([] : List Value).toArray ++ Array.replicate (fn.ntmps - ([] : List Value).toArray.size) undef).toList := by
            show All2 (@VRel V0 []) ([] ++ List.replicate (fn.ntmps - 0) (RV.pl undef)) _
            simp only [List.nil_append, Array.toList_append, Array.toList_replicate, List.size_toArray, List.length_nil]
            exact All2.replicate _ (show @VRel V0 [] (RV.pl undef) undef from rfl)
          refine @pre_ok V0 { X := X } ht0 w.heap.size w _ k c (startSt fn [] []) s' tl [] _ w hpre (@Go.Ri.Sim.mk V0 (cfgT { X := X }) w.heap.size w (startSt fn [] []) [] _ w hts rfl (@HInv.start V0 _ _ hr)) fun E' a' w' _ S' => ?_
          let V1 : Val := ⟨V0.I, V0.B, V0.S, V0.V, V0.L, fun j => a'.tmps.toList.getD j undef⟩
          have ht1 : @TbOK V1 { X := X } := by
            letI : Val := V1
            exact { X := hX }
          have hm1 := @mtS_ok V0 V1 [] E' [] (cfgT { X := X }) (cfgT { X := X }) rfl w.heap.size w w' a' s' ⟨patW [] fn.ntmps 0, []⟩ ⟨(fun _ _ h => by cases h), (fun _ _ h => by cases h), (fun _ _ h => by cases h), (fun _ _ h => by cases h), (fun _ _ h => by cases h)⟩ hA (fun j v hj => by
            show a'.tmps.toList.getD j undef = v
            rw [List.getD_eq_getElem?_getD, hj]
            rfl) S'
          have hX1 := @xokT V1 { X := X } ht1
          have hC1 := @call_ok V1 Try.prog (cfgT { X := X }) hm (cfgT_ok _) hX1 4000 14
          refine (@exec_ok V1 Try.prog (cfgT { X := X }) (callT { X := X }) w.heap.size w hm (cfgT_ok _) hC1 hX1 4000).1 tl ⟨patW [] fn.ntmps 0, []⟩ ex s2 _ a' w' _ hex hm1 fun E2 a2 w2 _ S2 => ?_
          refine @done_post V1 Try.prog (cfgT { X := X }) w.heap.size w fn ex s2 r h' hd _ E2 a2 w2 S2 fun u hu H => ⟨?_, @HInv.below V1 _ _ _ _ _ _ H⟩
          have e1 : u = @cvF V1 r := @VRel.fn V1 E2 r u _ hu (@rel_cvF V1 E2 r hfl)
          rw [e1, @eqTopR_cv V1 r (.pl v0) hB hfl]
          rfl
      · cases hB
    · cases hB
  · cases hA
end Go.Proofs.Z
