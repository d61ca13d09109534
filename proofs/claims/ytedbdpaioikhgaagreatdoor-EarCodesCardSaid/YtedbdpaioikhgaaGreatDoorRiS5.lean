/- An interpreter for calls whose arguments are closed or names, and its soundness: a part of the proofs. -/
import Derived.Test.YtedbdpaioikhgaaGreatDoorRiS4
namespace Go.Ri
open Go Go.RowKit
variable [Val]

section
variable {P : Program} {ro : Ro} {base : Nat} {w0 : World} {E : Env} {h : RH} {w : World}

omit [Val] in
theorem foldl_set_list (vs : List Value) : ∀ (cells : Array Value) (off k : Nat), off + k + vs.length ≤ cells.size →
    ((vs.zipIdx k).foldl (fun cs p => cs.setIfInBounds (off + p.2) p.1) cells).toList = cells.toList.take (off + k) ++ vs ++ cells.toList.drop (off + k + vs.length) := by
  induction vs with
  | nil => intro cells off k _; simp
  | cons v vs ih =>
    intro cells off k hle
    simp only [List.length_cons] at hle
    rw [List.zipIdx_cons, List.foldl_cons, ih _ off (k + 1) (by simp; omega)]
    have e := list_seg_step cells.toList (off + k) v vs (by simp; omega)
    simp only [Array.toList_setIfInBounds, List.length_cons]
    rw [show off + (k + 1) = off + k + 1 from rfl, show off + k + (vs.length + 1) = off + k + (vs.length + 1) from rfl]
    exact e

theorem fill_rel (place : Nat → Option (Nat × Nat)) : ∀ (parts : List (Nat × RV)) (vparts : List (Nat × Value)) (cells : List RV) (vcells : Array Value) (out : List RV),
    All2 (fun p q => p.1 = q.1 ∧ VRel E p.2 q.2) parts vparts → All2 (VRel E) cells vcells.toList → fillR place cells parts = some out →
    ∃ vout, Instr.fill place vcells vparts = some vout ∧ All2 (VRel E) out vout.toList := by
  intro parts
  induction parts with
  | nil =>
    intro vparts cells vcells out hp hc hf
    cases hp
    cases hf
    exact ⟨vcells, rfl, hc⟩
  | cons p parts ih =>
    intro vparts cells vcells out hp hc hf
    cases hp with
    | @cons _ q _ vp hpq hp =>
      obtain ⟨i, r⟩ := p
      obtain ⟨i', v⟩ := q
      obtain ⟨rfl, hr⟩ := hpq
      simp only at hr
      unfold fillR at hf
      unfold Instr.fill
      simp only
      split at hf
      · cases hf
      · rename_i off size hpl
        rw [hpl]
        simp only
        have hcl := cellsOf_rel hr
        have hl1 := hcl.length
        have hl2 := hc.length
        simp only [Array.length_toList] at hl1 hl2
        split at hf
        · cases hf
        · rename_i hcond
          have h1 : (cellsOf r).length = size ∧ off + (cellsOf r).length ≤ cells.length := by
            constructor
            · by_cases e : (cellsOf r).length = size
              · exact e
              · exact absurd (by simp [e]) hcond
            · by_cases e : off + (cellsOf r).length ≤ cells.length
              · exact e
              · exact absurd (by simp; omega) hcond
          have hcond' : ¬ ((decide (v.cells.size ≠ size) || decide (off + v.cells.size > vcells.size)) = true) := by
            simp
            omega
          rw [if_neg (by simpa using hcond')]
          refine ih vp _ _ out hp ?_ hf
          have e := foldl_set_list v.cells.toList vcells off 0 (by simp; omega)
          simp only [Nat.add_zero, Array.length_toList] at e
          have e2 : (Array.foldl (fun cs x => cs.setIfInBounds (off + x.2) x.1) vcells v.cells.zipIdx).toList = vcells.toList.take off ++ v.cells.toList ++ vcells.toList.drop (off + v.cells.size) := by
            rw [← e, ← Array.foldl_toList]
            simp
          rw [e2, ← hl1]
          exact ((hc.take off).append hcl).append (hc.drop _)

omit [Val] in
theorem fill_size (place : Nat → Option (Nat × Nat)) : ∀ (parts : List (Nat × Value)) (cells out : Array Value), Instr.fill place cells parts = some out → out.size = cells.size := by
  intro parts
  induction parts with
  | nil => intro cells out h; cases h; rfl
  | cons p parts ih =>
    intro cells out h
    unfold Instr.fill at h
    split at h
    · cases h
    · split at h
      · cases h
      · rw [ih _ _ h]
        have key : ∀ (l : List (Value × Nat)) (cs : Array Value) (off : Nat), (l.foldl (fun cs p => cs.setIfInBounds (off + p.2) p.1) cs).size = cs.size := by
          intro l
          induction l with
          | nil => intro cs off; rfl
          | cons x l ih => intro cs off; rw [List.foldl_cons, ih]; simp
        rw [← Array.foldl_toList]
        exact key _ _ _

theorem evP_rel {t : List RV} {a : Act} (ht : All2 (VRel E) t a.tmps.toList) (ps : Array (Nat × Operand)) :
    All2 (fun p q => p.1 = q.1 ∧ VRel E p.2 q.2) (evP t ps) ((ps.map fun (i, x) => (i, a.eval x)).toList) := by
  unfold evP
  rw [Array.toList_map]
  exact All2.map _ _ (fun x => ⟨rfl, ev_rel ht x.2⟩) _

omit [Val] in
theorem fieldPlaces_run {fs : Array Field} (hall : fs.toList.all (fun f => (sizeB P f.type).isSome) = true) :
    ∃ pl : Array (Nat × Nat), (∀ w, (fs.mapM fun (f : Field) => Prod.mk f.offset <$> sizeOf f.type : Sem (Array (Nat × Nat))).run P w = .ok pl w) ∧ ∀ i : Nat, pl[i]? = fieldPlaces P fs i := by
  have key : ∀ (l : List Field), l.all (fun f => (sizeB P f.type).isSome) = true →
      ∃ pl : List (Nat × Nat), (∀ w, (l.mapM fun (f : Field) => Prod.mk f.offset <$> sizeOf f.type : Sem (List (Nat × Nat))).run P w = .ok pl w) ∧
        ∀ i : Nat, pl[i]? = (match l[i]? with | some f => (sizeB P f.type).map (f.offset, ·) | none => none) := by
    intro l
    induction l with
    | nil => intro _; exact ⟨[], fun w => rfl, fun i => by simp⟩
    | cons f l ih =>
      intro h
      simp only [List.all_cons, Bool.and_eq_true] at h
      obtain ⟨pl, hrun, hget⟩ := ih h.2
      cases hs : sizeB P f.type with
      | none => rw [hs] at h; simp at h
      | some n =>
        refine ⟨(f.offset, n) :: pl, fun w => ?_, fun i => ?_⟩
        · rw [List.mapM_cons]
          simp [run_sizeB hs, hrun]
        · cases i with
          | zero => simp [hs]
          | succ i => simpa using hget i
  obtain ⟨pl, hrun, hget⟩ := key fs.toList hall
  refine ⟨pl.toArray, fun w => ?_, fun i => ?_⟩
  · rw [Array.mapM_eq_mapM_toList]
    simp [hrun]
  · have h := hget i
    rw [show fs.toList[i]? = fs[i]? from by simp] at h
    unfold fieldPlaces
    cases hfs : fs[i]? <;> simp [hfs] at h ⊢ <;> exact h

theorem fit_build {ty : TypeId} {parts : List (Nat × RV)} {vparts : Array (Nat × Value)} {v : RV}
    (hp : All2 (fun p q => p.1 = q.1 ∧ VRel E p.2 q.2) parts vparts.toList) (hs : buildOp P ty parts = some v) :
    ∃ r, VRel E v r ∧ ∀ w, (Instr.build ty vparts).run P w = .ok r w := by
  unfold buildOp at hs
  split at hs
  · rename_i zero fs hz hu
    obtain ⟨z, hzrun, hzr⟩ := zero_rel (E := E) hz
    split at hs
    · rename_i hall
      obtain ⟨pl, hpl, hget⟩ := fieldPlaces_run hall
      cases hf : fillR (fieldPlaces P fs) zero parts with
      | none => rw [hf] at hs; cases hs
      | some out =>
        rw [hf] at hs
        cases hs
        obtain ⟨vout, hfill, hout⟩ := fill_rel _ _ _ _ _ _ hp hzr hf
        refine ⟨.agg vout, by simpa using mkAgg_rel hout, fun w => ?_⟩
        have e : Instr.fill (fun i => pl[i]?) z.cells vparts.toList = some vout := by
          rw [show (fun i => pl[i]?) = fieldPlaces P fs from funext hget]
          exact hfill
        simp [Instr.build, hzrun, run_under hu, hpl, e]
    · cases hs
  · rename_i zero len elem hz hu
    obtain ⟨z, hzrun, hzr⟩ := zero_rel (E := E) hz
    split at hs
    · rename_i s hsz
      cases hf : fillR (fun i => some (i * s, s)) zero parts with
      | none => rw [hf] at hs; cases hs
      | some out =>
        rw [hf] at hs
        cases hs
        obtain ⟨vout, hfill, hout⟩ := fill_rel _ _ _ _ _ _ hp hzr hf
        refine ⟨.agg vout, by simpa using mkAgg_rel hout, fun w => ?_⟩
        simp [Instr.build, hzrun, run_under hu, run_sizeB hsz, hfill]
    · cases hs
  · cases hs

/-- The zero cells of n elements, as the model lays them. -/
theorem rep_rel {zero : List RV} {z : Array Value} (hz : All2 (VRel E) zero z.toList) (n s : Nat) (hs : zero.length = s + 1) :
    All2 (VRel E) (rep n zero) ((Array.range (n * (s + 1))).map (z[· % z.size]!)).toList := by
  have hzs : z.size = s + 1 := by rw [← hs, hz.length, Array.length_toList]
  have hlen : (rep n zero).length = n * (s + 1) := by
    unfold rep
    induction n with
    | zero => simp
    | succ n ih => rw [List.replicate_succ, List.flatten_cons, List.length_append, ih, hs, Nat.succ_mul]; omega
  have get : ∀ n i r, (rep n zero)[i]? = some r → i < n * (s + 1) ∧ zero[i % (s + 1)]? = some r := by
    intro n
    unfold rep
    induction n with
    | zero => intro i r hr; simp at hr
    | succ n ih =>
      intro i r hr
      rw [List.replicate_succ, List.flatten_cons] at hr
      by_cases hi : i < s + 1
      · rw [List.getElem?_append_left (by omega)] at hr
        rw [Nat.mod_eq_of_lt hi]
        exact ⟨by rw [Nat.succ_mul]; omega, hr⟩
      · rw [List.getElem?_append_right (by omega), hs] at hr
        obtain ⟨h1, h2⟩ := ih _ _ hr
        refine ⟨by rw [Nat.succ_mul]; omega, ?_⟩
        have : i % (s + 1) = (i - (s + 1)) % (s + 1) := by rw [Nat.mod_eq_sub_mod (by omega)]
        rw [this]
        exact h2
  refine All2.of_get (by rw [hlen]; simp) fun i r hr => ?_
  obtain ⟨h1, h2⟩ := get n i r hr
  obtain ⟨v, hv, hvr⟩ := hz.get _ _ h2
  refine ⟨v, ?_, hvr⟩
  rw [hzs]
  have hvv : z[i % (s + 1)]? = some v := by simpa using hv
  simp [h1, getElem!_def, hvv]

theorem fit_buildSlice (H : HInv ro base w0 E h w) {ty : TypeId} {n : Nat} {parts : List (Nat × RV)} {vparts : Array (Nat × Value)} {e : Eff}
    (hp : All2 (fun p q => p.1 = q.1 ∧ VRel E p.2 q.2) parts vparts.toList) (hs : buildSliceOp P h ty n parts = some e) :
    Fits ro base w0 E h w ((vSem (Instr.buildSlice ty n vparts)).run P w) e := by
  unfold buildSliceOp at hs
  split at hs
  · rename_i elem hu
    split at hs
    · rename_i s zero hsz hz
      obtain ⟨z, hzrun, hzr⟩ := zero_rel (E := E) hz
      split at hs
      · rename_i hcond
        simp only [Bool.and_eq_true, decide_eq_true_eq] at hcond
        cases hf : fillR (fun i => some (i * (s + 1), (s + 1))) (rep n zero) parts with
        | none => rw [hf] at hs; cases hs
        | some out =>
          rw [hf] at hs
          simp only [Option.bind_some] at hs
          split at hs
          · cases hs
            obtain ⟨vout, hfill, hout⟩ := fill_rel _ _ _ _ _ _ hp (rep_rel hzr n s hcond.2) hf
            have hl := hout.length
            simp only [Array.length_toList] at hl
            have H' := H.allocCells vout elem out false (by rw [hl, ← Array.length_toList, List.take_length]; exact hout) (fun _ => hl)
            have hsize : vout.size = n * (s + 1) := by rw [fill_size _ _ _ _ hfill]; simp
            refine ⟨_, _, _, List.prefix_append _ _, ⟨_, n, H.new_get _, ?_, Nat.le_refl _, rfl⟩, .inl (run_vSem ?_), H'⟩
            · simp [hsize]
            · have h24 : ¬ (16777216 < n * (s + 1)) := by omega
              by_cases hn : n = 0
              · subst hn
                have e0 : ∀ f : Nat → Value, (Array.range 0).map f = #[] := fun f => by simp
                rw [Nat.zero_mul, e0] at hfill
                have h0 : ¬ (0 > 16777216) := by omega
                simp only [Instr.buildSlice, Sem.run_bind, run_under hu, run_sizeB hsz, Result.andThen_ok, Nat.zero_mul, Nat.reducePow, if_neg h0, if_true, Sem.run_pure, e0, hfill]
                simp [newRow]
              · have hnz : ¬ (n * (s + 1) = 0) := by
                  intro e0
                  rcases Nat.mul_eq_zero.1 e0 with e1 | e1 <;> omega
                simp only [Instr.buildSlice, Sem.run_bind, run_under hu, run_sizeB hsz, Result.andThen_ok, Nat.reducePow, if_neg h24, if_neg hnz, Sem.run_pure, hzrun, hfill, gt_iff_lt, Nat.succ_eq_add_one]
                simp [newRow]
          · cases hs
      · cases hs
    · cases hs
  · cases hs
end
end Go.Ri
