/- An interpreter for calls whose arguments are closed or names, and its soundness: a part of the proofs. -/
import Derived.Test.YtedbdpaioikhgaaGreatDoorRiS3
namespace Go.Ri
open Go Go.RowKit
variable [Val]

section
variable {P : Program} {ro : Ro} {base : Nat} {w0 : World} {E : Env} {h : RH} {w : World}

/-- A run that ends in a value. -/
def vSem (s : Sem Value) : Sem Next := do pure (.value (← s))
def uSem (s : Sem Unit) : Sem Next := do s; pure .skip
omit [Val] in
theorem run_vSem {s : Sem Value} {u : Value} {w' : World} (hs : s.run P w = .ok u w') : (vSem s).run P w = .ok (.value u) w' := by
  simp [vSem, hs]
omit [Val] in
theorem run_uSem {s : Sem Unit} {w' : World} (hs : s.run P w = .ok () w') : (uSem s).run P w = .ok .skip w' := by
  simp [uSem, hs]

omit [Val] in
theorem run_sizeB {t : TypeId} {n : Nat} (h : sizeB P t = some n) (w : World) : (sizeOf t).run P w = .ok n w := quiet_run P _ _ h w
omit [Val] in
theorem run_under {t : TypeId} {d : TypeDesc} (h : P.underlying t = some d) (w : World) : (underlying t).run P w = .ok d w := run_underlying h w

theorem fit_store (H : HInv ro base w0 E h w) {ty : TypeId} {x y : RV} {u v : Value} {e : Eff} (hx : VRel E x u) (hy : VRel E y v) (hs : storeOp P h ty x y = some e) :
    Fits ro base w0 E h w ((uSem (Instr.storeAt ty u v)).run P w) e := by
  unfold storeOp at hs
  split at hs
  · rename_i b o n hn
    split at hs
    · rename_i hlen
      obtain ⟨p, hp, rfl⟩ := hx
      cases hput : putCells h b o (cellsOf y) with
      | none => rw [hput] at hs; cases hs
      | some ob =>
        rw [hput] at hs
        cases hs
        have hcs := cellsOf_rel hy
        obtain ⟨w', hrun, H'⟩ := fit_put (P := P) H hcs hp hput
        have hsz := quiet_run P _ _ hn w
        have hl : v.cells.size = n := by rw [← hlen, hcs.length, Array.length_toList]
        refine ⟨E, undef, w', List.prefix_refl E, rfl, .inr ⟨run_uSem ?_, rfl⟩, H'⟩
        simp [Instr.storeAt, Instr.sureAddr, storeVar, hsz, hl, hrun]
    · cases hs
  · cases hs

theorem HInv.new_get (H : HInv ro base w0 E h w) (p : Nat × Nat) : (E ++ [p])[h.length]? = some p := by rw [H.len]; simp

theorem fit_box (H : HInv ro base w0 E h w) {ty : TypeId} {x : RV} {u : Value} {e : Eff} (hx : VRel E x u) (hs : mBox ty x h = some e) :
    Fits ro base w0 E h w ((vSem (Instr.box ty u)).run P w) e := by
  unfold mBox at hs
  split at hs
  · cases hs
    have hcs := cellsOf_rel hx
    have hl := hcs.length
    have H' := H.allocCells u.cells ty (cellsOf x) false (by rw [hl, List.take_of_length_le (Nat.le_refl _)]; exact hcs) (fun _ => by simpa using hl)
    refine ⟨_, _, _, List.prefix_append _ _, ⟨_, H.new_get _, rfl⟩, .inl (run_vSem ?_), H'⟩
    · simp [Instr.box, newVar, newRow]
  · cases hs

theorem zero_rel {t : TypeId} {cs : List RV} (hz : zeroCellsOf P t = some cs) : ∃ z, (∀ w, (zeroValue t).run P w = .ok z w) ∧ All2 (VRel E) cs z.cells.toList := by
  unfold zeroCellsOf at hz
  cases hq : quiet P (zeroValue t) with
  | none => rw [hq] at hz; cases hz
  | some z =>
    rw [hq] at hz
    cases hz
    exact ⟨z, quiet_run P _ _ hq, All2.pls _⟩

theorem fit_alloc (H : HInv ro base w0 E h w) {ty : TypeId} {e : Eff} (hs : mAlloc P ty h = some e) :
    Fits ro base w0 E h w ((vSem (Instr.alloc ty true (.tuple #[]))).run P w) e := by
  unfold mAlloc at hs
  cases hz : zeroCellsOf P ty with
  | none => rw [hz] at hs; cases hs
  | some cs =>
    rw [hz] at hs
    simp only [Option.bind_some] at hs
    split at hs
    · cases hs
      obtain ⟨z, hrun, hcs⟩ := zero_rel (E := E) hz
      have hl := hcs.length
      have H' := H.allocCells z.cells ty cs false (by rw [hl, List.take_of_length_le (Nat.le_refl _)]; exact hcs) (fun _ => by simpa using hl)
      refine ⟨_, _, _, List.prefix_append _ _, ⟨_, H.new_get _, rfl⟩, .inl (run_vSem ?_), H'⟩
      · simp [Instr.alloc, hrun, newVar, newRow]
    · cases hs

theorem fit_fieldAddr {ty : TypeId} {x v : RV} {u : Value} {f : Nat} (hx : VRel E x u) (hs : fieldAddrOp P ty x f = some v) :
    ∃ r, VRel E v r ∧ ∀ w, (Instr.fieldAt ty u f).run P w = .ok r w := by
  unfold fieldAddrOp at hs
  split at hs
  · rename_i b o fs hu
    split at hs
    · rename_i fd hfd
      split at hs
      · rename_i n hn
        cases hs
        obtain ⟨p, hp, rfl⟩ := hx
        refine ⟨_, ⟨p, hp, rfl⟩, fun w => ?_⟩
        have hsz := run_sizeB hn w
        simp [Instr.fieldAt, run_under hu, hfd, Instr.sureAddr, fieldPlace, hsz, add_lit]
      · cases hs
    · cases hs
  · cases hs

theorem fit_indexAddr {ty : TypeId} {x i v : RV} {u k : Value} (hx : VRel E x u) (hi : VRel E i k) (hs : indexAddrOp P ty x i = some v) :
    ∃ r, VRel E v r ∧ ∀ w, (Instr.indexAt ty u k).run P w = .ok r w := by
  unfold indexAddrOp at hs
  have asI_spec : ∀ n, asI i = some n → ∃ j, k = .int j n := by
    intro n hn
    unfold asI at hn
    split at hn
    · cases hn; cases hi; exact ⟨_, rfl⟩
    · cases hn
  split at hs
  · rename_i n len elem b o hn hu
    obtain ⟨j, rfl⟩ := asI_spec _ hn
    split at hs
    · rename_i s hsz
      split at hs
      · rename_i hb
        cases hs
        obtain ⟨p, hp, rfl⟩ := hx
        refine ⟨_, ⟨p, hp, rfl⟩, fun w => ?_⟩
        simp [Instr.indexAt, asIntOf, run_under hu, Instr.sureAddr, hb, run_sizeB hsz, add_lit]
      · cases hs
    · cases hs
  · rename_i n elem b o m s c hn hu
    obtain ⟨j, rfl⟩ := asI_spec _ hn
    split at hs
    · rename_i s' hsz
      split at hs
      · rename_i hb
        cases hs
        obtain ⟨p, q, hp, hq, hle, rfl⟩ := hx
        refine ⟨_, ⟨p, hp, rfl⟩, fun w => ?_⟩
        simp [Instr.indexAt, asIntOf, run_under hu, hb, run_sizeB hsz, add_lit]
      · cases hs
    · cases hs
  · cases hs

theorem fit_part {ty : TypeId} {l : List RV} {cs : Array Value} {off : Nat} {v : RV} (hl : All2 (VRel E) l cs.toList) (hs : partOp P ty l off = some v) :
    ∃ r, VRel E v r ∧ ∀ w, (part ty cs off).run P w = .ok r w := by
  unfold partOp at hs
  split at hs
  · rename_i n ha hn
    cases hs
    refine ⟨_, mkAgg_rel ((hl.drop off).take n), fun w => ?_⟩
    simp [part, quiet_run P _ _ ha w, run_sizeB hn w]
    apply Array.ext'
    simp
  · rename_i ha
    obtain ⟨r, hr, hv⟩ := hl.get off v hs
    refine ⟨r, hv, fun w => ?_⟩
    have : cs[off]? = some r := by simpa using hr
    simp [part, quiet_run P _ _ ha w, this]
  · cases hs

theorem fit_field {ty : TypeId} {x v : RV} {u : Value} {f : Nat} (hx : VRel E x u) (hs : fieldOp P ty x f = some v) :
    ∃ r, VRel E v r ∧ ∀ w, (Instr.field ty u f).run P w = .ok r w := by
  unfold fieldOp at hs
  split at hs
  · rename_i l fs hu
    split at hs
    · rename_i fd hfd
      obtain ⟨l', rfl, hl⟩ := hx
      obtain ⟨r, hr, hrun⟩ := fit_part (VRels_iff.1 hl) hs
      exact ⟨r, hr, fun w => by simp [Instr.field, run_under hu, hfd, asAgg, hrun]⟩
    · cases hs
  · cases hs

omit [Val] in
theorem nthV_eq : ∀ (l : List Value) (i : Nat), nthV l i = l[i]?
  | [], _ => rfl
  | _ :: _, 0 => rfl
  | _ :: l, i + 1 => (nthV_eq l i).trans (by simp)

theorem fit_extract {x : RV} {u : Value} {i : Nat} {e : Eff} (hx : VRel E x u) (hs : mExtract x i = some e) :
    Fits ro base w0 E h w ((vSem (Instr.extract u i)).run P w) e := by
  unfold mExtract at hs
  split at hs
  · rename_i vs
    cases hx
    rw [nthV_eq] at hs
    cases hv : vs.toList[i]? with
    | none => rw [hv] at hs; cases hs
    | some v =>
      rw [hv] at hs
      cases hs
      have : vs[i]? = some v := by simpa using hv
      exact ⟨v, rfl, .inl (run_vSem (by simp [Instr.extract, this]))⟩
  · rename_i l
    obtain ⟨l', rfl, hl⟩ := hx
    cases hv : l[i]? with
    | none => rw [hv] at hs; cases hs
    | some r =>
      rw [hv] at hs
      cases hs
      obtain ⟨v, hv', hr⟩ := (VRels_iff.1 hl).get i r hv
      have : l'[i]? = some v := by simpa using hv'
      exact ⟨v, hr, .inl (run_vSem (by simp [Instr.extract, this]))⟩
  · cases hs
end
end Go.Ri
