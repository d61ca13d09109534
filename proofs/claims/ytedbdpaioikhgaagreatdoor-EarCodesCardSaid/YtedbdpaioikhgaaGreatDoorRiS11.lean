/- An interpreter for calls whose arguments are closed or names, and its soundness: a part of the proofs. -/
import Derived.Test.YtedbdpaioikhgaaGreatDoorRiS10
namespace Go.Ri
open Go Go.RowKit
variable [Val]

section
variable {P : Program} {g : Cfg} {base : Nat} {w0 : World} {E : Env} {h : RH} {w : World} {t : List RV} {a : Act}

omit [Val] in
theorem optMap {α : Type} {x : Option α} {f : α → Eff} {e : Eff} (hs : x.map f = some e) : ∃ v, x = some v ∧ e = f v := by
  cases x with
  | none => cases hs
  | some v => cases hs; exact ⟨v, rfl, rfl⟩

theorem fit_val {ro : Ro} {v : RV} {s : Sem Value} {r : Value} (hr : VRel E v r) (hrun : s.run P w = .ok r w) : Fits ro base w0 E h w ((vSem s).run P w) (.val v) :=
  ⟨r, hr, .inl (run_vSem hrun)⟩
theorem fit_same {ro : Ro} {v : RV} {s : Sem Value} {r : Value} (hr : VRel E v r) (hrun : s.run P w = .ok r w) : Fits ro base w0 E h w ((vSem s).run P w) (.same v) :=
  ⟨r, hr, .inl (run_vSem hrun)⟩

theorem memC_fits (hT : TOK g) (G : CfgOK P g) (H : HInv g.ro base w0 E h w) (ht : All2 (VRel E) t a.tmps.toList) (o : Oper) {e : Eff} (hs : (memC P g o.op).f t h = some e) :
    Fits g.ro base w0 E h w ((execOp a.eval o).run P w) e := by
  obtain ⟨dst, op, type, pos, after, guard⟩ := o
  cases op with
  | move x => cases hs; exact ⟨_, ev_rel ht x, .inl rfl⟩
  | assign x => cases hs; exact ⟨_, ev_rel ht x, .inl rfl⟩
  | pick c x y =>
    have hs : mPick (ev t c) (ev t x) (ev t y) = some e := hs
    have hc := ev_rel ht c
    unfold mPick at hs
    split at hs
    · rename_i q heq
      rw [heq] at hc
      cases hs
      have hc : a.eval c = .bool q := hc
      refine ⟨if q then a.eval x else a.eval y, ?_, .inl ?_⟩
      · cases q
        · exact ev_rel ht y
        · exact ev_rel ht x
      · simp [execOp, hc, asBool]
    · cases hs
  | alloc el => exact fit_alloc H hs
  | box el x => exact fit_box H (ev_rel ht x) hs
  | build ty ps =>
    obtain ⟨v, hv, rfl⟩ := optMap (x := buildOp P ty (evP t ps)) hs
    obtain ⟨r, hr, hrun⟩ := fit_build (evP_rel ht ps) hv
    exact fit_val hr (hrun w)
  | buildSlice ty n ps => exact fit_buildSlice H (evP_rel ht ps) hs
  | load ty x =>
    have hs : mLoad P g h ty (ev t x) = some e := hs
    unfold mLoad at hs
    split at hs
    · rename_i v hv
      cases hs
      obtain ⟨r, hr, hrun⟩ := fit_load H (ev_rel ht x) hv
      exact fit_same hr hrun
    · obtain ⟨v, hv, rfl⟩ := optMap hs
      obtain ⟨r, hr, hrun⟩ := fit_elLoad hT H (ev_rel ht x) hv
      exact fit_same hr hrun
  | store ty x y => exact fit_store H (ev_rel ht x) (ev_rel ht y) hs
  | nilCheck x =>
    have hs : mNil (ev t x) = some e := hs
    have hx := ev_rel ht x
    unfold mNil at hs
    split at hs
    · rename_i b o heq
      rw [heq] at hx
      cases hs
      obtain ⟨p, hp, hv⟩ := hx
      refine ⟨_, ⟨p, hp, rfl⟩, .inl ?_⟩
      simp [execOp, hv]
    · cases hs
  | binOp op ty x y yt => exact fit_binS hT H (ev_rel ht x) (ev_rel ht y) hs
  | unOp op ty x =>
    have hs : mUn g op (ev t x) = some e := hs
    have hx := ev_rel ht x
    unfold mUn at hs
    split at hs
    · split at hs
      · rename_i e' he
        cases hs
        unfold mNot at he
        split at he
        · rename_i b heq
          rw [heq] at hx
          cases he
          have hx : a.eval x = .bool b := hx
          refine ⟨_, rfl, .inl ?_⟩
          simp [execOp, hx, Op.unary]
        · cases he
      · unfold symNot at hs
        split at hs
        · rename_i i heq
          rw [heq] at hx
          cases hq : tlook g.T .not (.sym .bool i) (.sym .bool i) with
          | none => rw [hq] at hs; cases hs
          | some r =>
            rw [hq] at hs
            cases hs
            obtain ⟨f0, f1, f2, b, e1, e2⟩ := tlook_true hT hq
            refine ⟨cv r, rel_cv f0, .inl ?_⟩
            have hx : a.eval x = .bool b := (cv_rel f1 hx).trans e1
            simp [execOp, hx, Op.unary, e2]
        · cases hs
    · cases hs
  | convert s d x =>
    have hs : mConv P g h s d (ev t x) = some e := hs
    unfold mConv at hs
    split at hs
    · rename_i v hv
      cases hs
      obtain ⟨r, hr, hrun⟩ := fit_conv H (ev_rel ht x) hv
      exact fit_val hr hrun
    · exact fit_symConv hT (ev_rel ht x) hs
  | makeFunc f x y =>
    cases hs
    refine ⟨.func f (x.map a.eval) (y.map a.eval), ⟨_, _, rfl, VRels_iff.2 (evL_rel ht x), VRels_iff.2 (evL_rel ht y)⟩, .inl rfl⟩
  | makeSlice ty x y => exact fit_makeSlice H (ev_rel ht x) (ev_rel ht y) hs
  | slice ty x lo hi mx => exact fit_mSlice H (ev_rel ht x) (orel_map ht lo) (orel_map ht hi) (orel_map ht mx) hs
  | index ty x i =>
    have hs : mIndex P g ty (ev t x) (ev t i) = some e := hs
    have hx := ev_rel ht x
    have hi := ev_rel ht i
    unfold mIndex at hs
    split at hs
    · rename_i s k i' h1 h2
      rw [h1] at hx
      rw [h2] at hi
      obtain ⟨v, hv, rfl⟩ := optMap hs
      obtain ⟨r, hr, hrun⟩ := fit_strIndex (E := E) (k := k) hv
      have hx : a.eval x = .string s := hx
      have hi : a.eval i = .int k i' := hi
      show Fits g.ro base w0 E h w ((vSem (Instr.index ty (a.eval x) (a.eval i))).run P w) _
      rw [hx, hi]
      exact fit_val hr (hrun w)
    · rename_i l k i' h1 h2
      rw [h1] at hx
      rw [h2] at hi
      obtain ⟨l', hx, hl⟩ := hx
      have hi : a.eval i = .int k i' := hi
      show Fits g.ro base w0 E h w ((vSem (Instr.index ty (a.eval x) (a.eval i))).run P w) _
      rw [hx, hi]
      exact fit_aggIndex (VRels_iff.1 hl) hs
    · rename_i j h1
      rw [h1] at hx
      exact fit_symIndex hT hx hi hs
    · rename_i s k j h1 h2
      rw [h1] at hx
      rw [h2] at hi
      exact fit_symIndex hT hx hi hs
    · cases hs
  | fieldAddr s x f =>
    obtain ⟨v, hv, rfl⟩ := optMap (x := fieldAddrOp P s (ev t x) f) hs
    obtain ⟨r, hr, hrun⟩ := fit_fieldAddr (ev_rel ht x) hv
    exact fit_val hr (hrun w)
  | field s x f =>
    obtain ⟨v, hv, rfl⟩ := optMap (x := fieldOp P s (ev t x) f) hs
    obtain ⟨r, hr, hrun⟩ := fit_field (ev_rel ht x) hv
    exact fit_val hr (hrun w)
  | indexAddr ty x i =>
    have hs : mIndexAddr P g ty (ev t x) (ev t i) = some e := hs
    unfold mIndexAddr at hs
    split at hs
    · rename_i v hv
      cases hs
      obtain ⟨r, hr, hrun⟩ := fit_indexAddr (ev_rel ht x) (ev_rel ht i) hv
      exact fit_val hr (hrun w)
    · exact fit_elAddr hT (ev_rel ht x) (ev_rel ht i) hs
  | range ty x => exact fit_range H (ev_rel ht x) hs
  | next x s => exact fit_next H (ev_rel ht x) hs
  | extract x i => exact fit_extract (ev_rel ht x) hs
  | call c => exact fit_mCall hT G H ht hs
  | _ => cases hs

theorem opC_fits (hT : TOK g) (G : CfgOK P g) (H : HInv g.ro base w0 E h w) (ht : All2 (VRel E) t a.tmps.toList) (o : Oper) {e : Eff} (hs : orElse P o t ((memC P g o.op).f t h) = some e) :
    Fits g.ro base w0 E h w ((execOp a.eval o).run P w) e := by
  unfold orElse at hs
  split at hs
  · rename_i e' he
    cases hs
    exact memC_fits hT G H ht o he
  · refine fit_pure ht ?_
    unfold noCall at hs
    split at hs
    · rename_i f args hp
      split at hs
      · cases hs
      · rw [hp]; exact hs
    · exact hs
end
end Go.Ri
