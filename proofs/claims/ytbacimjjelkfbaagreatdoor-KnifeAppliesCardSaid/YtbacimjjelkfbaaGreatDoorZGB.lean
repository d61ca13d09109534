/- A part of the proofs that the laws of layer three answer true for every input. -/
import Derived.Test.YtbacimjjelkfbaaGreatDoorZFi0f
import Derived.Test.YtbacimjjelkfbaaGreatDoorZLoop3
import Derived.Test.YtbacimjjelkfbaaGreatDoorRiE
namespace Go.Proofs.Z
open Go Go.RowKit Go.Proofs Go.Ri Go.Proofs.Z.Fa
/-! Fells: lists of gates, and their models. -/
def intOf : Value → Int
  | .int _ n => n
  | _ => 0
def ints (l : List Value) : Prop := ∀ v, v ∈ l → ∃ n, v = .int .i64 n
theorem row4 {l : List Value} (hl : ints l) (i : Nat) (h : i * 4 + 4 ≤ l.length) : (l.drop (i * 4)).take 4 = [.int .i64 (intOf (l.getD (i * 4) undef)), .int .i64 (intOf (l.getD (i * 4 + 1) undef)), .int .i64 (intOf (l.getD (i * 4 + 2) undef)), .int .i64 (intOf (l.getD (i * 4 + 3) undef))] := by
  have cell : ∀ j, j < l.length → Value.int .i64 (intOf (l.getD j undef)) = l.getD j undef := fun j hj => by
    obtain ⟨n, hn⟩ := hl (l[j]) (List.getElem_mem hj)
    have e : l.getD j undef = l[j] := by rw [List.getD_eq_getElem?_getD, List.getElem?_eq_getElem hj]; rfl
    rw [e, hn]
    rfl
  rw [cell _ (by omega), cell _ (by omega), cell _ (by omega), cell _ (by omega)]
  apply List.ext_getElem?
  intro j
  rw [List.getElem?_take]
  split
  · rename_i hj
    rw [List.getElem?_drop]
    have g : ∀ k, k < l.length → l[k]? = some (l.getD k undef) := fun k hk => by
      rw [List.getD_eq_getElem?_getD, List.getElem?_eq_getElem hk]; rfl
    rw [g _ (by omega)]
    match j, hj with
    | 0, _ => rfl
    | 1, _ => rfl
    | 2, _ => rfl
    | 3, _ => rfl
  · rename_i hj
    rw [List.getElem?_eq_none]
    simp
    omega
def firstBad (p : Nat → Bool) : Nat → Nat → Nat
  | 0, i => i
  | n + 1, i => if p i then firstBad p n (i + 1) else i
theorem firstBad_le (p : Nat → Bool) : ∀ n i, firstBad p n i ≤ i + n
  | 0, i => Nat.le_refl _
  | n + 1, i => by
    unfold firstBad
    split
    · have := firstBad_le p n (i + 1); omega
    · omega
theorem firstBad_pass (p : Nat → Bool) : ∀ n i j, i ≤ j → j < firstBad p n i → p j = true
  | 0, i, j, h1, h2 => by unfold firstBad at h2; omega
  | n + 1, i, j, h1, h2 => by
    unfold firstBad at h2
    split at h2
    · rename_i hp
      rcases Nat.lt_or_eq_of_le h1 with h | rfl
      · exact firstBad_pass p n (i + 1) j h h2
      · exact hp
    · omega
theorem firstBad_fail (p : Nat → Bool) : ∀ n i, firstBad p n i < i + n → p (firstBad p n i) = false
  | 0, i, h => by unfold firstBad at h; omega
  | n + 1, i, h => by
    unfold firstBad at h ⊢
    split
    · rename_i hp
      rw [if_pos hp] at h
      exact firstBad_fail p n (i + 1) (by omega)
    · rename_i hp
      simpa using hp
end Go.Proofs.Z

namespace Go.Proofs.Z
open Go Go.RowKit Go.Proofs Go.Ri Go.Proofs.Z.Fa
/-! Facts, one behind the other; a loop that gathers a list. -/
theorem fa {α : Type} {p : α → Prop} {a : α} {l : List α} (h : p a) (t : ∀ x, x ∈ l → p x) : ∀ x, x ∈ a :: l → p x := by
  intro x hx
  rcases List.mem_cons.1 hx with rfl | hx
  · exact h
  · exact t x hx
theorem fz {α : Type} {p : α → Prop} : ∀ x, x ∈ ([] : List α) → p x := by
  intro x hx
  cases hx
theorem fapp {α : Type} {p : α → Prop} {l m : List α} (h : ∀ x, x ∈ l → p x) (t : ∀ x, x ∈ m → p x) : ∀ x, x ∈ l ++ m → p x := by
  intro x hx
  rcases List.mem_append.1 hx with hx | hx
  · exact h x hx
  · exact t x hx
structure GP where
  f : FuncId
  ds : List RV
  tb : Tb
  plan : List Bool
  n : Nat
  l : Nat
  ov : List (Nat × RV)
  pre : RH
  e : TypeId
  s : Nat
  S0 : List SE
  rt : Bool → Tb
  S : List SE
  cr : List RV
  bt : Nat
  bf : Nat
  et : Tb
  er : Bool → RV × RH
  al : Bool := false
noncomputable def gpat (q : GP) (ne : Bool) : St :=
  ⟨patW ((q.l, if ne then .slN q.pre.length 9 q.s else nilR) :: q.ov) q.n 0, q.pre ++ if ne then [some (.lst 9 q.e true)] else []⟩
def glist (q : GP) (ne b : Bool) : List SE := q.S ++ if ne then (if b then [.lst 9 10] else [.lst 9 9]) else (if b then [.new 9 q.cr] else [])
def gblk (q : GP) (ne b : Bool) : List Nat := List.range q.pre.length ++ if ne then (if b then [q.bt] else [q.pre.length]) else (if b then [q.bf] else [])
noncomputable def gpB (q : GP) : Code := hB q.tb q.plan q.f q.ds
noncomputable def gpK (q : GP) : List Fr := hK q.tb q.plan q.f q.ds
noncomputable def genter (q : GP) : Bool := enterT q.tb q.plan q.f q.ds q.S0 (List.range q.pre.length) (gpat q false)
noncomputable def ground (q : GP) (ne b : Bool) : Bool := againT (q.rt b) [] (gpB q) (gpK q) (gpat q ne) (glist q ne b) (gblk q ne b) (gpat q (ne || b))
noncomputable def gout (q : GP) (ne : Bool) : Bool := outQ q.et [] q.f (gpB q) (gpK q) (gpat q ne) (if ne then [.lst 9 9] else []) (if ne then [q.pre.length] else []) (q.er ne).1 (q.er ne).2
structure GRuns (q : GP) : Prop where
  enter : genter q = true
  rounds : (all2 fun ne => ground q ne true) = true
  skips : q.al = true ∨ (all2 fun ne => ground q ne false) = true
  outs : (all2 (gout q)) = true
structure GRunsF (q : GP) : Prop where
  enter : genter q = true
  rounds : (all2 fun ne => ground q ne true) = true
  skips : q.al = true ∨ (all2 fun ne => ground q ne false) = true
/-- A loop that goes on over numbers, or ends with the answer v. -/
theorem scan (f : FuncId) (ds : List RV) (tb0 : Tb) (plan : List Bool) (pat : St) (S0 S : List SE) (R0 R : List Nat) (nm0 : Nm) (W0 : Nat → Value) (nm : Nat → Nm) (N : Nat) (v : Value) (inv : Nat → Prop)
    (enter : enterT tb0 plan f ds S0 R0 pat = true) (ht0 : @TbOK (nm0.val W0) tb0) (hS0 : ∀ W' e, e ∈ S0 → okSE (nm0.val W0) ((nm 0).val W') e) (h0 : inv 0)
    (step : ∀ k, k ≤ N → inv k → ∀ W, (∃ t r0, @TbOK ((nm k).val W) t ∧ outF t [] f (hB tb0 plan f ds) (hK tb0 plan f ds) pat r0 = true ∧ @cvF ((nm k).val W) r0 = v) ∨
      (k < N ∧ inv (k + 1) ∧ ∃ t, @TbOK ((nm k).val W) t ∧ againT t [] (hB tb0 plan f ds) (hK tb0 plan f ds) pat S R pat = true ∧ ∀ W' e, e ∈ S → okSE ((nm k).val W) ((nm (k + 1)).val W') e))
    (w : World) (hr : RoIn ro w) (vs : List Value) (hv : All2 (@Go.Ri.NVal (nm0.val W0) w) ds vs) : Calls Tryz.prog f vs.toArray w (fun e w' => e = .returned v ∧ Below w.heap.size w w') := by
  refine fn_loop (κ := Unit) nm0 W0 tb0 plan f ds (fun _ => pat) (fun m _ c => ∃ k, k ≤ N ∧ m = N - k ∧ c = nm k ∧ inv k) ht0 S0 R0 () N enter (nm 0) (fun W' => holds_all (hS0 W')) ⟨0, Nat.zero_le _, rfl, rfl, h0⟩ (DF v) ?_ w hr vs hv
  rintro w m _ c ⟨k, hk, rfl, rfl, hi⟩ W
  rcases step k hk hi W with ⟨t, r0, ht, ho, hv⟩ | ⟨hlt, hi', t, ht, ha, hS⟩
  · exact step_outF t [] ht r0 ho hv
  · exact step_to t [] ht S R () (nm (k + 1)) ha (fun W' => holds_all (hS W')) ⟨N - (k + 1), by omega, k + 1, hlt, rfl, rfl, hi'⟩
/-- A function that answers without a loop. -/
theorem done_flat (V : Val) {t : Tb} {plan : List Bool} {f : FuncId} {ds : List RV} {r0 : RV} {v : Value} (ht : @TbOK V t) (h : doneQ t plan f ds [] [] r0 [] = true) (hw : isW r0 = false) (hf : flat r0 = true) (hv0 : @cvF V0 r0 = v) (w : World) (hr : RoIn ro w) (vs : List Value) (hv : All2 (@Go.Ri.NVal V w) ds vs) :
    Calls Tryz.prog f vs.toArray w (fun e w' => e = .returned v ∧ Below w.heap.size w w') := by
  have := done_calls V V0 ht h hw (holds_all fz) w hr vs hv
  refine this.mono fun e w' ⟨u, E', he, hu, H⟩ => ⟨?_, @HInv.below V0 _ _ _ _ _ _ H⟩
  rw [he, ← hv0]
  exact congrArg Ending.returned (@VRel.fn V0 E' r0 u _ hu (@rel_cvF V0 E' r0 hf))
end Go.Proofs.Z
