/- A part of the proofs that the laws of layer four answer true for every input. -/
import Derived.Test.YtjjmnoiiihcoiaaGreatDoorZLoop6
namespace Go.Proofs.Z
open Go Go.RowKit Go.Proofs Go.Ri
/-! Calls over named lists that answer blocks of their own. -/
noncomputable def qnlook (T : List QE) (f : FuncId) (ds : List RV) : Option (RV × RH) :=
  List.rec (motive := fun _ => Option (RV × RH)) none (fun e _ ih => match Nat.beq e.f f with
    | true => match eqSL eqA e.a ds with | true => some (e.r, e.h) | false => ih
    | false => ih) T
noncomputable def qnU (T : List QE) : CallF := fun f args h =>
  match absArgs h args with
  | some ds => match qnlook T f ds with
    | some (r, h2) => match shiftableB r && h2.all shiftableO with
      | true => some (shiftB h.length r, h ++ h2.map (shiftO h.length))
      | false => none
    | none => none
  | none => none
section
variable [Val]
def QNTrue (e : QE) : Prop := ∀ w, RoIn ro w → ∀ vs, All2 (Go.Ri.NVal w) e.a vs → Calls Tryz.prog e.f vs.toArray w (fun x w' => ∃ v E', x = .returned v ∧ VRel E' e.r v ∧ HInv ro w.heap.size w E' e.h w')
theorem qnlook_mem : ∀ (T : List QE) (f : FuncId) (ds : List RV) (r : RV) (h : RH), qnlook T f ds = some (r, h) → ∃ e, e ∈ T ∧ e.f = f ∧ (∀ w vs, All2 (Go.Ri.NVal w) ds vs → All2 (Go.Ri.NVal w) e.a vs) ∧ e.r = r ∧ e.h = h
  | [], _, _, _, _, h => by cases h
  | e :: T, f, ds, r, hh, h => by
    have h : (match Nat.beq e.f f with
      | true => match eqSL eqA e.a ds with | true => some (e.r, e.h) | false => qnlook T f ds
      | false => qnlook T f ds) = some (r, hh) := h
    have go : qnlook T f ds = some (r, hh) → ∃ e', e' ∈ e :: T ∧ e'.f = f ∧ (∀ w vs, All2 (Go.Ri.NVal w) ds vs → All2 (Go.Ri.NVal w) e'.a vs) ∧ e'.r = r ∧ e'.h = hh := fun h => by
      obtain ⟨e', he, q⟩ := qnlook_mem T f ds r hh h
      exact ⟨e', List.mem_cons_of_mem _ he, q⟩
    split at h
    · rename_i h1
      split at h
      · rename_i h2
        cases h
        exact ⟨e, List.mem_cons_self, Nat.eq_of_beq_eq_true h1, fun w vs hv => eqSLA_nval h2 hv, rfl, rfl⟩
      · exact go h
    · exact go h
theorem qnU_ok (T : List QE) (hT : ∀ e, e ∈ T → QNTrue e) : UOK (qnU T) := by
  intro f args h r h' hu base w0 E w vs H ha
  unfold qnU at hu
  split at hu
  · rename_i ds hds
    split at hu
    · rename_i r0 h2 hq
      split at hu
      · rename_i hsh
        simp only [Bool.and_eq_true] at hsh
        cases hu
        obtain ⟨e, he, rfl, hcv, rfl, rfl⟩ := qnlook_mem T f ds _ _ hq
        refine (hT e he w H.roIn vs (hcv w vs (absArgs_nval H hds ha))).mono fun x w' ⟨u, E', hx, hv, H'⟩ => ?_
        refine ⟨u, E ++ E', hx, List.prefix_append _ _, ?_, H.join H' hsh.2⟩
        rw [H.len]
        exact shiftB_rel hsh.1 hv
      · cases hu
    · cases hu
  · cases hu
end
/-! The same, where a slice of known cells goes by a name. -/
noncomputable def nameOf (D : List (Nat × List RV)) (l : List RV) : Option Nat :=
  List.rec (motive := fun _ => Option Nat) none (fun d _ ih => match eqSs d.2 l with | true => some d.1 | false => ih) D
noncomputable def absSlD (D : List (Nat × List RV)) (h : RH) (b n s : Nat) : Option RV :=
  match lkp h b with
  | some (.cells l _ _ _) => match nameOf D l, Nat.beq l.length (n * s) && Nat.blt 0 s && l.all flat0 with
    | some i, true => some (.slN 0 i s)
    | _, _ => none
  | _ => none
noncomputable def absPartD (D : List (Nat × List RV)) (h : RH) (r : RV) : Option RV :=
  match r with
  | .sl b 0 n s none => absSlD D h b n s
  | r => absArg0 h r
noncomputable def absLD (D : List (Nat × List RV)) (h : RH) (l : List RV) : Option (List RV) :=
  List.rec (motive := fun _ => Option (List RV)) (some []) (fun r _ ih => match absPartD D h r with
    | some d => match ih with | some ds => some (d :: ds) | none => none
    | none => none) l
noncomputable def absArgD (D : List (Nat × List RV)) (h : RH) (r : RV) : Option RV :=
  match r with
  | .sl b 0 n s none => absSlD D h b n s
  | .agg l => match absLD D h l with
    | some ds => match ds.all flat0 with
      | true => absArg h (.agg l)
      | false => some (.agg ds)
    | none => absArg h (.agg l)
  | r => absArg h r
noncomputable def absArgsD (D : List (Nat × List RV)) (h : RH) (l : List RV) : Option (List RV) :=
  List.rec (motive := fun _ => Option (List RV)) (some []) (fun r _ ih => match absArgD D h r with
    | some d => match ih with | some ds => some (d :: ds) | none => none
    | none => none) l
noncomputable def qdU (D : List (Nat × List RV)) (T : List QE) : CallF := fun f args h =>
  match absArgsD D h args with
  | some ds => match qnlook T f ds with
    | some (r, h2) => match shiftableB r && h2.all shiftableO with
      | true => some (shiftB h.length r, h ++ h2.map (shiftO h.length))
      | false => none
    | none => none
  | none => none
section
variable [Val]
omit [Val] in
theorem nameOf_mem : ∀ (D : List (Nat × List RV)) (l : List RV) (i : Nat), nameOf D l = some i → (i, l) ∈ D
  | [], _, _, h => by cases h
  | d :: D, l, i, h => by
    have h : (match eqSs d.2 l with | true => some d.1 | false => nameOf D l) = some i := h
    split at h
    · rename_i he
      cases h
      rw [← eqSs_eq _ _ he]
      exact List.mem_cons_self
    · exact List.mem_cons_of_mem _ (nameOf_mem D l i h)
theorem rel_flat0s {E : Env} : ∀ {l : List RV} {vs : List Value}, l.all flat0 = true → All2 (VRel E) l vs → vs = l.map cv
  | [], _, _, h => by cases h; rfl
  | r :: l, _, hf, h => by
    simp only [List.all_cons, Bool.and_eq_true] at hf
    cases h with
    | cons h1 h2 =>
      rw [List.map_cons, rel_flat0s hf.2 h2]
      congr 1
      cases r <;> first | exact h1 | (cases hf.1; done)
theorem absSlD_nval {D : List (Nat × List RV)} (hD : ∀ d, d ∈ D → Val.L d.1 = d.2.map cv) {base : Nat} {w0 : World} {E : Env} {h : RH} {w : World} (H : HInv ro base w0 E h w) {b n s : Nat} {d : RV} {v : Value} (hd : absSlD D h b n s = some d) (hv : VRel E (.sl b 0 n s none) v) : ∃ i, d = .slN 0 i s ∧ ∃ oa n cap, v = .slice oa n cap ∧ (Val.L i ≠ [] → ∃ a : Addr, oa = some a ∧ a.block < w.heap.size) ∧ 0 < s ∧ (Val.L i).length = n * s ∧ n ≤ cap ∧ ∀ a, oa = some a → ∀ j u, (Val.L i)[j]? = some u → w.cell? (a.add j) = some u := by
  unfold absSlD at hd
  split at hd
  · rename_i l e rm fz hl
    split at hd
    · rename_i i hi hc
      cases hd
      simp only [Bool.and_eq_true] at hc
      obtain ⟨⟨c1, c2⟩, c3⟩ := hc
      have hat : at? h b = some (.cells l e rm fz) := by rw [lkp_eq] at hl; exact hl
      obtain ⟨q, hq, _, cur, fr, k1, k2, k3, _⟩ := H.blk b _ hat
      obtain ⟨p, k, hp, hk, hn, rfl⟩ := hv
      have hpq : p = q := by
        rw [hp] at hq
        exact Option.some.inj hq
      subst hpq
      have hm := hD _ (nameOf_mem D l i hi)
      have hcs := rel_flat0s c3 k3
      have hlen := Nat.eq_of_beq_eq_true c1
      refine ⟨i, rfl, some ⟨p.1, 0, none⟩, n, k, rfl, fun _ => ⟨_, rfl, H.heap_ne hat hp⟩, blt_lt c2, ?_, hn, ?_⟩
      · show (Val.L i).length = n * s
        rw [hm, List.length_map]
        exact hlen
      · intro a ha j u hj
        cases ha
        rw [hm, ← hcs, List.getElem?_take] at hj
        split at hj
        · rw [add_lit, Nat.zero_add, cell_of_row w p.1 j cur e fr k1]
          simpa using hj
        · cases hj
    · cases hd
  · cases hd
theorem absPartD_nval {D : List (Nat × List RV)} (hD : ∀ d, d ∈ D → Val.L d.1 = d.2.map cv) {base : Nat} {w0 : World} {E : Env} {h : RH} {w : World} (H : HInv ro base w0 E h w) {r d : RV} {v : Value} (hd : absPartD D h r = some d) (hv : VRel E r v) : NVal0 w d v := by
  unfold absPartD at hd
  split at hd
  · obtain ⟨i, rfl, h2⟩ := absSlD_nval hD H hd hv
    exact h2
  · exact absArg0_nval H hd hv
theorem absLD_nval {D : List (Nat × List RV)} (hD : ∀ d, d ∈ D → Val.L d.1 = d.2.map cv) {base : Nat} {w0 : World} {E : Env} {hh : RH} {w : World} (H : HInv ro base w0 E hh w) : ∀ {args ds : List RV} {vs : List Value}, absLD D hh args = some ds → All2 (VRel E) args vs → All2 (NVal0 w) ds vs
  | [], _, _, hd, h => by cases hd; cases h; exact .nil
  | r :: l, _, _, hd, h => by
    have hd : (match absPartD D hh r with
      | some d => match absLD D hh l with | some ds => some (d :: ds) | none => none
      | none => none) = some _ := hd
    split at hd
    · rename_i d hd1
      split at hd
      · rename_i ds hd2
        cases hd
        cases h with
        | cons h1 h2 => exact .cons (absPartD_nval hD H hd1 h1) (absLD_nval hD H hd2 h2)
      · cases hd
    · cases hd
theorem absArgD_nval {D : List (Nat × List RV)} (hD : ∀ d, d ∈ D → Val.L d.1 = d.2.map cv) {base : Nat} {w0 : World} {E : Env} {h : RH} {w : World} (H : HInv ro base w0 E h w) {r d : RV} {v : Value} (hd : absArgD D h r = some d) (hv : VRel E r v) : Go.Ri.NVal w d v := by
  unfold absArgD at hd
  split at hd
  · obtain ⟨i, rfl, h2⟩ := absSlD_nval hD H hd hv
    exact h2
  · rename_i l
    split at hd
    · rename_i ds hds
      split at hd
      · exact absArg_nval H hd hv
      · rename_i hf
        cases hd
        obtain ⟨vs, rfl, h2⟩ := hv
        have h3 := absLD_nval hD H hds (VRels_iff.1 h2)
        unfold Go.Ri.NVal
        simp only
        rw [hf]
        exact ⟨vs, rfl, h3⟩
    · exact absArg_nval H hd hv
  · exact absArg_nval H hd hv
theorem absArgsD_nval {D : List (Nat × List RV)} (hD : ∀ d, d ∈ D → Val.L d.1 = d.2.map cv) {base : Nat} {w0 : World} {E : Env} {hh : RH} {w : World} (H : HInv ro base w0 E hh w) : ∀ {args ds : List RV} {vs : List Value}, absArgsD D hh args = some ds → All2 (VRel E) args vs → All2 (Go.Ri.NVal w) ds vs
  | [], _, _, hd, h => by cases hd; cases h; exact .nil
  | r :: l, _, _, hd, h => by
    have hd : (match absArgD D hh r with
      | some d => match absArgsD D hh l with | some ds => some (d :: ds) | none => none
      | none => none) = some _ := hd
    split at hd
    · rename_i d hd1
      split at hd
      · rename_i ds hd2
        cases hd
        cases h with
        | cons h1 h2 => exact .cons (absArgD_nval hD H hd1 h1) (absArgsD_nval hD H hd2 h2)
      · cases hd
    · cases hd
theorem qdU_ok (D : List (Nat × List RV)) (T : List QE) (hD : ∀ d, d ∈ D → Val.L d.1 = d.2.map cv) (hT : ∀ e, e ∈ T → QNTrue e) : UOK (qdU D T) := by
  intro f args h r h' hu base w0 E w vs H ha
  unfold qdU at hu
  split at hu
  · rename_i ds hds
    split at hu
    · rename_i r0 h2 hq
      split at hu
      · rename_i hsh
        simp only [Bool.and_eq_true] at hsh
        cases hu
        obtain ⟨e, he, rfl, hcv, rfl, rfl⟩ := qnlook_mem T f ds _ _ hq
        refine (hT e he w H.roIn vs (hcv w vs (absArgsD_nval hD H hds ha))).mono fun x w' ⟨u, E', hx, hv, H'⟩ => ?_
        refine ⟨u, E ++ E', hx, List.prefix_append _ _, ?_, H.join H' hsh.2⟩
        rw [H.len]
        exact shiftB_rel hsh.1 hv
      · cases hu
    · cases hu
  · cases hu
end
end Go.Proofs.Z
