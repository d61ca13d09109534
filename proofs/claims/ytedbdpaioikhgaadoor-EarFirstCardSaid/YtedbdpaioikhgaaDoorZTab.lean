/- A part of the proofs that the laws of layer one answer true for every input. -/
import Derived.Test.YtedbdpaioikhgaaDoorRiE
namespace Go.Ri
open Go Go.RowKit
noncomputable def eqAtom : Value → Value → Bool
  | .int k a, .int k' b => if k = k' then a == b else false
  | .bool a, .bool b => a == b
  | .string a, .string b => eqB a.data.toList b.data.toList
  | _, _ => false
noncomputable def eqL (e : Value → Value → Bool) (l : List Value) : List Value → Bool :=
  List.rec (motive := fun _ => List Value → Bool) (fun m => match m with | [] => true | _ => false) (fun x _ ih m => match m with | [] => false | y :: m => match e x y with | true => ih m | false => false) l
noncomputable def eqOne : Value → Value → Bool
  | .agg a, .agg b => eqL eqAtom a.toList b.toList
  | a, b => eqAtom a b
noncomputable def eqTop : Value → Value → Bool
  | .tuple a, .tuple b => eqL eqOne a.toList b.toList
  | a, b => eqOne a b
theorem eqAtom_eq {a b : Value} (h : eqAtom a b = true) : a = b := by
  unfold eqAtom at h
  split at h
  · split at h
    · rename_i hk; subst hk; rw [beq_iff_eq.mp h]
    · cases h
  · rw [beq_iff_eq.mp h]
  · rename_i x y
    rw [eqB_eq] at h
    have := beq_iff_eq.mp h
    congr 1
    exact ByteArray.ext (Array.ext' this)
  · cases h
theorem eqL_eq {e : Value → Value → Bool} (he : ∀ a b, e a b = true → a = b) : ∀ l m, eqL e l m = true → l = m
  | [], [], _ => rfl
  | [], _ :: _, h => by cases h
  | _ :: _, [], h => by cases h
  | x :: l, y :: m, h => by
    have h : (match e x y with | true => eqL e l m | false => false) = true := h
    split at h
    · rename_i hx; rw [he _ _ hx, eqL_eq he l m h]
    · cases h
theorem eqOne_eq {a b : Value} (h : eqOne a b = true) : a = b := by
  unfold eqOne at h
  split at h
  · rw [Array.ext' (eqL_eq (fun _ _ => eqAtom_eq) _ _ h)]
  · exact eqAtom_eq h
theorem eqTop_eq {a b : Value} (h : eqTop a b = true) : a = b := by
  unfold eqTop at h
  split at h
  · rw [Array.ext' (eqL_eq (fun _ _ => eqOne_eq) _ _ h)]
  · exact eqOne_eq h
structure Ent where
  f : FuncId
  a : List Value
  r : Value
noncomputable def look (T : List Ent) (f : FuncId) (vs : List Value) : Option Value :=
  List.rec (motive := fun _ => Option Value) none (fun e _ ih => match Nat.beq e.f f with
    | true => match eqL eqOne e.a vs with | true => some e.r | false => ih
    | false => ih) T
theorem look_mem : ∀ (T : List Ent) (f : FuncId) (vs : List Value) (v : Value), look T f vs = some v → ∃ e, e ∈ T ∧ e.f = f ∧ e.a = vs ∧ e.r = v
  | [], _, _, _, h => by cases h
  | e :: T, f, vs, v, h => by
    have h : (match Nat.beq e.f f with | true => (match eqL eqOne e.a vs with | true => some e.r | false => look T f vs) | false => look T f vs) = some v := h
    split at h
    · rename_i h1
      split at h
      · rename_i h2
        cases h
        exact ⟨e, List.mem_cons_self, Nat.eq_of_beq_eq_true h1, eqL_eq (fun _ _ => eqOne_eq) _ _ h2, rfl⟩
      · obtain ⟨x, hx, r⟩ := look_mem T f vs v h
        exact ⟨x, List.mem_cons_of_mem _ hx, r⟩
    · obtain ⟨x, hx, r⟩ := look_mem T f vs v h
      exact ⟨x, List.mem_cons_of_mem _ hx, r⟩
/-- An entry is the answer of the call that it names. -/
noncomputable def entOK (P : Program) (g : Cfg) (m n : Nat) (e : Ent) : Bool :=
  match call P g m n e.f (e.a.map .pl) [] with
  | some (.pl v, _) => eqTop v e.r
  | _ => false
noncomputable def tabOK (P : Program) (g : Cfg) (m n : Nat) (T : List Ent) : Bool :=
  List.rec (motive := fun _ => Bool) true (fun e _ ih => match entOK P g m n e with | true => ih | false => false) T
theorem tabOK_mem {P : Program} {g : Cfg} {m n : Nat} : ∀ (T : List Ent), tabOK P g m n T = true → ∀ e, e ∈ T → entOK P g m n e = true
  | e :: T, h, x, hx => by
    have h : (match entOK P g m n e with | true => tabOK P g m n T | false => false) = true := h
    split at h
    · rename_i h1
      cases hx with
      | head => exact h1
      | tail _ hx => exact tabOK_mem T h x hx
    · cases h
/-- What the table's calls answer. -/
def EntTrue (P : Program) (ro : Ro) (e : Ent) : Prop := ∀ w, RoIn ro w → Calls P e.f e.a.toArray w (fun x w' => x = .returned e.r ∧ Below w.heap.size w w')
theorem ent_true {P : Program} {g : Cfg} (hm : P.follows .mixedOrders = true) (G : CfgOK P g) (hX : @XOK V0 P g) {m n : Nat} {e : Ent} (h : entOK P g m n e = true) : EntTrue P g.ro e := by
  unfold entOK at h
  split at h
  · rename_i v h' hc
    intro w hr
    have := @closed_call V0 P g hm G hX m n e.f e.a v h' hc w hr
    rw [eqTop_eq h] at this
    exact this
  · cases h
theorem tab_true {P : Program} {g : Cfg} (hm : P.follows .mixedOrders = true) (G : CfgOK P g) (hX : @XOK V0 P g) {m n : Nat} {T : List Ent} (h : tabOK P g m n T = true) : ∀ e, e ∈ T → EntTrue P g.ro e :=
  fun e he => ent_true hm G hX (tabOK_mem T h e he)
end Go.Ri
