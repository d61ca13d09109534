/- A part of the proofs that the laws of layer eight answer true for every input. -/
import Derived.Test.YtjeikabpnplogaaZLoop5
namespace Go.Proofs.Z
open Go Go.RowKit Go.Proofs Go.Ri
/-! Calls over named lists that answer blocks of their own. -/
noncomputable def qnlook (T : List QE) (f : FuncId) (ds : List RV) : Option (RV × RH) :=
  List.rec (motive := fun _ => Option (RV × RH)) none (fun e _ ih => match Nat.beq e.f f with
    | true => match eqSL eqA e.a ds with | true => some (e.r, e.h) | false => ih
    | false => ih) T
noncomputable def qnU (T : List QE) : CallF := fun f args h =>
  match absArgs h args with
  | some ds => match qnlook T f ds with
    | some (r, h2) => match shiftableB r && h2.all shiftableO with
      | true => some (shiftB h.length r, h ++ h2.map (shiftO h.length))
      | false => none
    | none => none
  | none => none
section
variable [Val]
def QNTrue (e : QE) : Prop := ∀ w, RoIn ro w → ∀ vs, All2 (Go.Ri.NVal w) e.a vs → Calls Try.prog e.f vs.toArray w (fun x w' => ∃ v E', x = .returned v ∧ VRel E' e.r v ∧ HInv ro w.heap.size w E' e.h w')
theorem qnlook_mem : ∀ (T : List QE) (f : FuncId) (ds : List RV) (r : RV) (h : RH), qnlook T f ds = some (r, h) → ∃ e, e ∈ T ∧ e.f = f ∧ (∀ w vs, All2 (Go.Ri.NVal w) ds vs → All2 (Go.Ri.NVal w) e.a vs) ∧ e.r = r ∧ e.h = h
  | [], _, _, _, _, h => by cases h
  | e :: T, f, ds, r, hh, h => by
    have h : (match Nat.beq e.f f with
      | true => match eqSL eqA e.a ds with | true => some (e.r, e.h) | false => qnlook T f ds
      | false => qnlook T f ds) = some (r, hh) := h
    have go : qnlook T f ds = some (r, hh) → ∃ e', e' ∈ e :: T ∧ e'.f = f ∧ (∀ w vs, All2 (Go.Ri.NVal w) ds vs → All2 (Go.Ri.NVal w) e'.a vs) ∧ e'.r = r ∧ e'.h = hh := fun h => by
      obtain ⟨e', he, q⟩ := qnlook_mem T f ds r hh h
      exact ⟨e', List.mem_cons_of_mem _ he, q⟩
    split at h
    · rename_i h1
      split at h
      · rename_i h2
        cases h
        exact ⟨e, List.mem_cons_self, Nat.eq_of_beq_eq_true h1, fun w vs hv => eqSLA_nval h2 hv, rfl, rfl⟩
      · exact go h
    · exact go h
theorem qnU_ok (T : List QE) (hT : ∀ e, e ∈ T → QNTrue e) : UOK (qnU T) := by
  intro f args h r h' hu base w0 E w vs H ha
  unfold qnU at hu
  split at hu
  · rename_i ds hds
    split at hu
    · rename_i r0 h2 hq
      split at hu
      · rename_i hsh
        simp only [Bool.and_eq_true] at hsh
        cases hu
        obtain ⟨e, he, rfl, hcv, rfl, rfl⟩ := qnlook_mem T f ds _ _ hq
        refine (hT e he w H.roIn vs (hcv w vs (absArgs_nval H hds ha))).mono fun x w' ⟨u, E', hx, hv, H'⟩ => ?_
        refine ⟨u, E ++ E', hx, List.prefix_append _ _, ?_, H.join H' hsh.2⟩
        rw [H.len]
        exact shiftB_rel hsh.1 hv
      · cases hu
    · cases hu
  · cases hu
end
/-! The same, where a slice of known cells goes by a name. -/
section
variable [Val]
end
end Go.Proofs.Z
