/- A part of the proofs that the laws of layer four answer true for every input. -/
import Derived.Test.YtjjmnoiiihcoiaaGreatDoorZFoX
namespace Go.Proofs.Z
open Go Go.RowKit Go.Proofs Go.Ri Go.Proofs.Z.Fa
/-! Fells: lists of gates, and their models. -/
def intOf : Value → Int
  | .int _ n => n
  | _ => 0
def ints (l : List Value) : Prop := ∀ v, v ∈ l → ∃ n, v = .int .i64 n
theorem row4 {l : List Value} (hl : ints l) (i : Nat) (h : i * 4 + 4 ≤ l.length) : (l.drop (i * 4)).take 4 = [.int .i64 (intOf (l.getD (i * 4) undef)), .int .i64 (intOf (l.getD (i * 4 + 1) undef)), .int .i64 (intOf (l.getD (i * 4 + 2) undef)), .int .i64 (intOf (l.getD (i * 4 + 3) undef))] := by
  have cell : ∀ j, j < l.length → Value.int .i64 (intOf (l.getD j undef)) = l.getD j undef := fun j hj => by
    obtain ⟨n, hn⟩ := hl (l[j]) (List.getElem_mem hj)
    have e : l.getD j undef = l[j] := by rw [List.getD_eq_getElem?_getD, List.getElem?_eq_getElem hj]; rfl
    rw [e, hn]
    rfl
  rw [cell _ (by omega), cell _ (by omega), cell _ (by omega), cell _ (by omega)]
  apply List.ext_getElem?
  intro j
  rw [List.getElem?_take]
  split
  · rename_i hj
    rw [List.getElem?_drop]
    have g : ∀ k, k < l.length → l[k]? = some (l.getD k undef) := fun k hk => by
      rw [List.getD_eq_getElem?_getD, List.getElem?_eq_getElem hk]; rfl
    rw [g _ (by omega)]
    match j, hj with
    | 0, _ => rfl
    | 1, _ => rfl
    | 2, _ => rfl
    | 3, _ => rfl
  · rename_i hj
    rw [List.getElem?_eq_none]
    simp
    omega
theorem row1 {l : List Value} (i : Nat) (h : i < l.length) : (l.drop (i * 1)).take 1 = [l.getD i undef] := by
  rw [Nat.mul_one, List.getD_eq_getElem?_getD, List.getElem?_eq_getElem h]
  rw [List.drop_eq_getElem_cons h]
  rfl
/-- A field of a gate. -/
def gtA (l : List Value) (k : Nat) : Int := intOf (l.getD (k * 4) undef)
def gtB (l : List Value) (k : Nat) : Int := intOf (l.getD (k * 4 + 1) undef)
def gtF (l : List Value) (k : Nat) : Int := intOf (l.getD (k * 4 + 2) undef)
def gtT (l : List Value) (k : Nat) : Int := intOf (l.getD (k * 4 + 3) undef)
/-- What a gate is tested for, one test behind the other. -/
def gTest (G a b fr to : Int) (i : Nat) : Bool :=
  if i = 0 then decide (0 ≤ a) else if i = 1 then decide (a < b) else if i = 2 then decide (b < G) else if i = 3 then decide (0 ≤ fr) else if i = 4 then decide (fr < 360) else if i = 5 then decide (0 ≤ to) else decide (to < 360)
def firstBad (p : Nat → Bool) : Nat → Nat → Nat
  | 0, i => i
  | n + 1, i => if p i then firstBad p n (i + 1) else i
theorem firstBad_le (p : Nat → Bool) : ∀ n i, firstBad p n i ≤ i + n
  | 0, i => Nat.le_refl _
  | n + 1, i => by
    unfold firstBad
    split
    · have := firstBad_le p n (i + 1); omega
    · omega
theorem firstBad_pass (p : Nat → Bool) : ∀ n i j, i ≤ j → j < firstBad p n i → p j = true
  | 0, i, j, h1, h2 => by unfold firstBad at h2; omega
  | n + 1, i, j, h1, h2 => by
    unfold firstBad at h2
    split at h2
    · rename_i hp
      rcases Nat.lt_or_eq_of_le h1 with h | rfl
      · exact firstBad_pass p n (i + 1) j h h2
      · exact hp
    · omega
theorem firstBad_fail (p : Nat → Bool) : ∀ n i, firstBad p n i < i + n → p (firstBad p n i) = false
  | 0, i, h => by unfold firstBad at h; omega
  | n + 1, i, h => by
    unfold firstBad at h ⊢
    split
    · rename_i hp
      rw [if_pos hp] at h
      exact firstBad_fail p n (i + 1) (by omega)
    · rename_i hp
      simpa using hp
def gCls (G a b fr to : Int) : Nat := firstBad (gTest G a b fr to) 7 0
def gOk (G a b fr to : Int) : Bool := gCls G a b fr to == 7
theorem gOk_iff (G a b fr to : Int) : gOk G a b fr to = true ↔ 0 ≤ a ∧ a < b ∧ b < G ∧ 0 ≤ fr ∧ fr < 360 ∧ 0 ≤ to ∧ to < 360 := by
  constructor
  · intro h
    have h : gCls G a b fr to = 7 := by simpa [gOk] using h
    have p := fun j hj => firstBad_pass (gTest G a b fr to) 7 0 j (Nat.zero_le _) (show j < gCls G a b fr to by rw [h]; exact hj)
    have p0 := p 0 (by omega); have p1 := p 1 (by omega); have p2 := p 2 (by omega); have p3 := p 3 (by omega); have p4 := p 4 (by omega); have p5 := p 5 (by omega); have p6 := p 6 (by omega)
    simp [gTest] at p0 p1 p2 p3 p4 p5 p6
    exact ⟨p0, p1, p2, p3, p4, p5, p6⟩
  · rintro ⟨h0, h1, h2, h3, h4, h5, h6⟩
    simp [gOk, gCls, firstBad, gTest, h0, h1, h2, h3, h4, h5, h6]
def gokL (G : Int) (l : List Value) (k : Nat) : Bool := gOk G (gtA l k) (gtB l k) (gtF l k) (gtT l k)
/-- Are the first k gates right? -/
def okL (G : Int) (l : List Value) : Nat → Bool
  | 0 => true
  | k + 1 => okL G l k && gokL G l k
theorem okL_at {G : Int} {l : List Value} : ∀ {n k : Nat}, okL G l n = true → k < n → gokL G l k = true
  | n + 1, k, h, hk => by
    have h : (okL G l n && gokL G l n) = true := h
    simp only [Bool.and_eq_true] at h
    rcases Nat.lt_or_eq_of_le (Nat.le_of_lt_succ hk) with h1 | rfl
    · exact okL_at h.1 h1
    · exact h.2
/-- Is a fell valid? -/
def validM (G : Int) (l : List Value) (n : Nat) : Bool := decide (1 ≤ G) && decide (G ≤ 16) && decide (n ≤ 32) && okL G l n
def errM (G : Int) (l : List Value) (n : Nat) : Int := if validM G l n then 0 else 40
theorem validM_iff (G : Int) (l : List Value) (n : Nat) : validM G l n = true ↔ 1 ≤ G ∧ G ≤ 16 ∧ n ≤ 32 ∧ okL G l n = true := by
  unfold validM
  simp only [Bool.and_eq_true, decide_eq_true_eq, and_assoc]
end Go.Proofs.Z

namespace Go.Proofs.Z
open Go Go.RowKit Go.Proofs Go.Ri Go.Proofs.Z.Fa
/-! Facts, one behind the other; a loop that gathers a list. -/
theorem fa {α : Type} {p : α → Prop} {a : α} {l : List α} (h : p a) (t : ∀ x, x ∈ l → p x) : ∀ x, x ∈ a :: l → p x := by
  intro x hx
  rcases List.mem_cons.1 hx with rfl | hx
  · exact h
  · exact t x hx
theorem fz {α : Type} {p : α → Prop} : ∀ x, x ∈ ([] : List α) → p x := by
  intro x hx
  cases hx
theorem fapp {α : Type} {p : α → Prop} {l m : List α} (h : ∀ x, x ∈ l → p x) (t : ∀ x, x ∈ m → p x) : ∀ x, x ∈ l ++ m → p x := by
  intro x hx
  rcases List.mem_append.1 hx with hx | hx
  · exact h x hx
  · exact t x hx
theorem ids_ok {V V' : Val} (l : List Nat) (h : ∀ i, i ∈ l → V'.I i = V.I i) : ∀ q, q ∈ idI l → okSE V V' q := by
  intro q hq
  obtain ⟨i, hi, rfl⟩ := List.mem_map.1 hq
  exact ⟨.i64, V.I i, rfl, h i hi⟩
/-- What a loop gathers. -/
def gl (p : Nat → Bool) (cells : Nat → List Value) : Nat → List Value
  | 0 => []
  | k + 1 => gl p cells k ++ if p k then cells k else []
theorem gl_len {p : Nat → Bool} {cells : Nat → List Value} {s : Nat} (hs : ∀ k, (cells k).length = s) : ∀ k, (gl p cells k).length ≤ s * k
  | 0 => Nat.le_refl _
  | k + 1 => by
    have h1 := gl_len (p := p) hs k
    show (gl p cells k ++ if p k then cells k else []).length ≤ _
    rw [List.length_append]
    split
    · rw [hs, Nat.mul_succ]; omega
    · rw [Nat.mul_succ]; simp; omega
theorem gl_mem {p : Nat → Bool} {cells : Nat → List Value} {Q : Value → Prop} (hQ : ∀ k u, u ∈ cells k → Q u) : ∀ k, ∀ u, u ∈ gl p cells k → Q u
  | 0, u, hu => by cases hu
  | k + 1, u, hu => by
    have hu : u ∈ gl p cells k ++ (if p k then cells k else []) := hu
    rcases List.mem_append.1 hu with hu | hu
    · exact gl_mem hQ k u hu
    · split at hu
      · exact hQ _ u hu
      · cases hu
structure GP where
  f : FuncId
  ds : List RV
  tb : Tb
  plan : List Bool
  n : Nat
  l : Nat
  ov : List (Nat × RV)
  pre : RH
  e : TypeId
  s : Nat
  S0 : List SE
  rt : Bool → Tb
  S : List SE
  cr : List RV
  bt : Nat
  bf : Nat
  et : Tb
  er : Bool → RV × RH
  al : Bool := false
noncomputable def gpat (q : GP) (ne : Bool) : St :=
  ⟨patW ((q.l, if ne then .slN q.pre.length 9 q.s else nilR) :: q.ov) q.n 0, q.pre ++ if ne then [some (.lst 9 q.e true)] else []⟩
def glist (q : GP) (ne b : Bool) : List SE := q.S ++ if ne then (if b then [.lst 9 10] else [.lst 9 9]) else (if b then [.new 9 q.cr] else [])
def gblk (q : GP) (ne b : Bool) : List Nat := List.range q.pre.length ++ if ne then (if b then [q.bt] else [q.pre.length]) else (if b then [q.bf] else [])
noncomputable def gpB (q : GP) : Code := hB q.tb q.plan q.f q.ds
noncomputable def gpK (q : GP) : List Fr := hK q.tb q.plan q.f q.ds
noncomputable def genter (q : GP) : Bool := enterT q.tb q.plan q.f q.ds q.S0 (List.range q.pre.length) (gpat q false)
noncomputable def ground (q : GP) (ne b : Bool) : Bool := againT (q.rt b) [] (gpB q) (gpK q) (gpat q ne) (glist q ne b) (gblk q ne b) (gpat q (ne || b))
noncomputable def gout (q : GP) (ne : Bool) : Bool := outQ q.et [] q.f (gpB q) (gpK q) (gpat q ne) (if ne then [.lst 9 9] else []) (if ne then [q.pre.length] else []) (q.er ne).1 (q.er ne).2
structure GRuns (q : GP) : Prop where
  enter : genter q = true
  rounds : (all2 fun ne => ground q ne true) = true
  skips : q.al = true ∨ (all2 fun ne => ground q ne false) = true
  outs : (all2 (gout q)) = true
theorem grun {q : GP} (hq : GRuns q) {b : Bool} (h : q.al = true → b = true) (ne : Bool) : ground q ne b = true := by
  cases b with
  | true => exact all2_all hq.rounds _
  | false =>
    rcases hq.skips with ha | hs
    · exact absurd (h ha) (by decide)
    · exact all2_all hs _
theorem gather (q : GP) (hq : GRuns q) (hw : ∀ ne, isW (q.er ne).1 = false) (nm0 : Nm) (W0 : Nat → Value) (nm : Nat → Nm) (N : Nat) (p : Nat → Bool) (cells : Nat → List Value) (hL9 : ∀ k, (nm k).L 9 = gl p cells k) (hL10 : ∀ k, (nm k).L 10 = gl p cells (k + 1))
    (ht0 : @TbOK (nm0.val W0) q.tb) (hS0 : ∀ W' e, e ∈ q.S0 → okSE (nm0.val W0) ((nm 0).val W') e) (htb : ∀ k, k < N → ∀ W, @TbOK ((nm k).val W) (q.rt (p k))) (hS : ∀ k, k < N → ∀ W W' e, e ∈ q.S → okSE ((nm k).val W) ((nm (k + 1)).val W') e)
    (hcr : ∀ k, k < N → p k = true → ∀ W, q.cr.map (@cv ((nm k).val W)) = cells k) (hne : ∀ k, cells k ≠ []) (hal : q.al = true → ∀ k, k < N → p k = true) (hend : ∀ W, @TbOK ((nm N).val W) q.et) (V : Val) (hV : V.L 9 = gl p cells N) (w : World) (hr : RoIn ro w) (vs : List Value) (hv : All2 (@Go.Ri.NVal (nm0.val W0) w) q.ds vs) :
    Calls Tryz.prog q.f vs.toArray w (DQ V (q.er (!(gl p cells N).isEmpty)).1 (q.er (!(gl p cells N).isEmpty)).2 w) := by
  refine fn_loop (κ := Bool) nm0 W0 q.tb q.plan q.f q.ds (gpat q) (fun m ne c => ∃ k, k ≤ N ∧ m = N - k ∧ c = nm k ∧ ne = !(gl p cells k).isEmpty) ht0 q.S0 (List.range q.pre.length) false N hq.enter (nm 0) (fun W' => holds_all (hS0 W')) ⟨0, Nat.zero_le _, rfl, rfl, rfl⟩ (DQ V (q.er (!(gl p cells N).isEmpty)).1 (q.er (!(gl p cells N).isEmpty)).2) ?_ w hr vs hv
  rintro w m ne c ⟨k, hk, rfl, rfl, rfl⟩ W
  rcases Nat.lt_or_ge k N with hlt | hge
  · have hstep : gl p cells (k + 1) = gl p cells k ++ if p k then cells k else [] := rfl
    refine step_to (q.rt (p k)) [] (htb k hlt W) (glist q (!(gl p cells k).isEmpty) (p k)) (gblk q (!(gl p cells k).isEmpty) (p k)) (!(gl p cells k).isEmpty || p k) (nm (k + 1)) (grun hq (fun ha => hal ha k hlt) _) (fun W' => holds_all (fapp (hS k hlt W W') ?_)) ⟨N - (k + 1), by omega, k + 1, hlt, rfl, rfl, ?_⟩
    · cases hg : (gl p cells k).isEmpty <;> cases hp : p k
      · refine fa ?_ fz
        show (nm (k + 1)).L 9 = (nm k).L 9
        rw [hL9, hL9, hstep, hp]
        simp
      · refine fa ?_ fz
        show (nm (k + 1)).L 9 = (nm k).L 10
        rw [hL9, hL10]
      · exact fz
      · refine fa ?_ fz
        show (nm (k + 1)).L 9 = _
        rw [hL9, hcr k hlt hp W, hstep, hp, List.isEmpty_iff.1 hg]
        rfl
    · rw [hstep]
      cases hp : p k
      · simp
      · have := hne k
        simp [this]
  · obtain rfl : k = N := by omega
    have ho := all2_all hq.outs (!(gl p cells k).isEmpty)
    refine step_outQ q.et [] (hend W) V _ _ _ _ ho (hw _) (holds_all ?_)
    split
    · refine fa ?_ fz
      show V.L 9 = (nm k).L 9
      rw [hV, hL9]
    · exact fz
structure GRunsF (q : GP) : Prop where
  enter : genter q = true
  rounds : (all2 fun ne => ground q ne true) = true
  skips : q.al = true ∨ (all2 fun ne => ground q ne false) = true
theorem gatherF (q : GP) (hq : GRunsF q) (nm0 : Nm) (W0 : Nat → Value) (nm : Nat → Nm) (N : Nat) (p : Nat → Bool) (cells : Nat → List Value) (hL9 : ∀ k, (nm k).L 9 = gl p cells k) (hL10 : ∀ k, (nm k).L 10 = gl p cells (k + 1))
    (ht0 : @TbOK (nm0.val W0) q.tb) (hS0 : ∀ W' e, e ∈ q.S0 → okSE (nm0.val W0) ((nm 0).val W') e) (htb : ∀ k, k < N → ∀ W, @TbOK ((nm k).val W) (q.rt (p k))) (hS : ∀ k, k < N → ∀ W W' e, e ∈ q.S → okSE ((nm k).val W) ((nm (k + 1)).val W') e)
    (hcr : ∀ k, k < N → p k = true → ∀ W, q.cr.map (@cv ((nm k).val W)) = cells k) (hne : ∀ k, cells k ≠ []) (hal : q.al = true → ∀ k, k < N → p k = true) (v : Value)
    (hend : ∀ W, ∃ t r0, @TbOK ((nm N).val W) t ∧ outF t [] q.f (gpB q) (gpK q) (gpat q (!(gl p cells N).isEmpty)) r0 = true ∧ @cvF ((nm N).val W) r0 = v) (w : World) (hr : RoIn ro w) (vs : List Value) (hv : All2 (@Go.Ri.NVal (nm0.val W0) w) q.ds vs) :
    Calls Tryz.prog q.f vs.toArray w (fun e w' => e = .returned v ∧ Below w.heap.size w w') := by
  refine fn_loop (κ := Bool) nm0 W0 q.tb q.plan q.f q.ds (gpat q) (fun m ne c => ∃ k, k ≤ N ∧ m = N - k ∧ c = nm k ∧ ne = !(gl p cells k).isEmpty) ht0 q.S0 (List.range q.pre.length) false N hq.enter (nm 0) (fun W' => holds_all (hS0 W')) ⟨0, Nat.zero_le _, rfl, rfl, rfl⟩ (DF v) ?_ w hr vs hv
  rintro w m ne c ⟨k, hk, rfl, rfl, rfl⟩ W
  rcases Nat.lt_or_ge k N with hlt | hge
  · have hstep : gl p cells (k + 1) = gl p cells k ++ if p k then cells k else [] := rfl
    have hgr : ground q (!(gl p cells k).isEmpty) (p k) = true := by
      cases hp : p k with
      | true => exact all2_all hq.rounds _
      | false =>
        rcases hq.skips with ha | hs
        · exact absurd (hal ha k hlt) (by rw [hp]; decide)
        · exact all2_all hs _
    refine step_to (q.rt (p k)) [] (htb k hlt W) (glist q (!(gl p cells k).isEmpty) (p k)) (gblk q (!(gl p cells k).isEmpty) (p k)) (!(gl p cells k).isEmpty || p k) (nm (k + 1)) hgr (fun W' => holds_all (fapp (hS k hlt W W') ?_)) ⟨N - (k + 1), by omega, k + 1, hlt, rfl, rfl, ?_⟩
    · cases hg : (gl p cells k).isEmpty <;> cases hp : p k
      · refine fa ?_ fz
        show (nm (k + 1)).L 9 = (nm k).L 9
        rw [hL9, hL9, hstep, hp]
        simp
      · refine fa ?_ fz
        show (nm (k + 1)).L 9 = (nm k).L 10
        rw [hL9, hL10]
      · exact fz
      · refine fa ?_ fz
        show (nm (k + 1)).L 9 = _
        rw [hL9, hcr k hlt hp W, hstep, hp, List.isEmpty_iff.1 hg]
        rfl
    · rw [hstep]
      cases hp : p k
      · simp
      · have := hne k
        simp [this]
  · obtain rfl : k = N := by omega
    obtain ⟨t, r0, ht, ho, hv⟩ := hend W
    exact step_outF t [] ht r0 ho hv
/-- The list behind the next one. -/
theorem gl_la {V : Val} {p : Nat → Bool} {cells : Nat → List Value} {s k : Nat} {cr : List RV} (hs : ∀ k, (cells k).length = s) (h1 : ∀ k u, u ∈ cells k → u.oneCell' = true) (h9 : V.L 9 = gl p cells k) (h10 : V.L 10 = gl p cells (k + 1)) (hp : p k = true) (hcr : cr.map (@cv V) = cells k) (hb : s * (k + 1) ≤ 1000000) : @LATrue V ⟨9, cr, 10⟩ := by
  refine ⟨?_, ?_, ?_⟩
  · show V.L 10 = V.L 9 ++ cr.map (@cv V)
    rw [h10, h9, hcr]
    show gl p cells k ++ (if p k then cells k else []) = _
    rw [hp]
    rfl
  · show (V.L 10).length ≤ _
    rw [h10]
    exact Nat.le_trans (gl_len hs (k + 1)) hb
  · show ∀ v, v ∈ V.L 9 → _
    rw [h9]
    exact gl_mem h1 k
/-- A loop that goes on over numbers, or ends with the answer v. -/
theorem scan (f : FuncId) (ds : List RV) (tb0 : Tb) (plan : List Bool) (pat : St) (S0 S : List SE) (R0 R : List Nat) (nm0 : Nm) (W0 : Nat → Value) (nm : Nat → Nm) (N : Nat) (v : Value) (inv : Nat → Prop)
    (enter : enterT tb0 plan f ds S0 R0 pat = true) (ht0 : @TbOK (nm0.val W0) tb0) (hS0 : ∀ W' e, e ∈ S0 → okSE (nm0.val W0) ((nm 0).val W') e) (h0 : inv 0)
    (step : ∀ k, k ≤ N → inv k → ∀ W, (∃ t r0, @TbOK ((nm k).val W) t ∧ outF t [] f (hB tb0 plan f ds) (hK tb0 plan f ds) pat r0 = true ∧ @cvF ((nm k).val W) r0 = v) ∨
      (k < N ∧ inv (k + 1) ∧ ∃ t, @TbOK ((nm k).val W) t ∧ againT t [] (hB tb0 plan f ds) (hK tb0 plan f ds) pat S R pat = true ∧ ∀ W' e, e ∈ S → okSE ((nm k).val W) ((nm (k + 1)).val W') e))
    (w : World) (hr : RoIn ro w) (vs : List Value) (hv : All2 (@Go.Ri.NVal (nm0.val W0) w) ds vs) : Calls Tryz.prog f vs.toArray w (fun e w' => e = .returned v ∧ Below w.heap.size w w') := by
  refine fn_loop (κ := Unit) nm0 W0 tb0 plan f ds (fun _ => pat) (fun m _ c => ∃ k, k ≤ N ∧ m = N - k ∧ c = nm k ∧ inv k) ht0 S0 R0 () N enter (nm 0) (fun W' => holds_all (hS0 W')) ⟨0, Nat.zero_le _, rfl, rfl, h0⟩ (DF v) ?_ w hr vs hv
  rintro w m _ c ⟨k, hk, rfl, rfl, hi⟩ W
  rcases step k hk hi W with ⟨t, r0, ht, ho, hv⟩ | ⟨hlt, hi', t, ht, ha, hS⟩
  · exact step_outF t [] ht r0 ho hv
  · exact step_to t [] ht S R () (nm (k + 1)) ha (fun W' => holds_all (hS W')) ⟨N - (k + 1), by omega, k + 1, hlt, rfl, rfl, hi'⟩
/-- The same, each round with names of its own. -/
theorem scan2 (f : FuncId) (ds : List RV) (tb0 : Tb) (plan : List Bool) (pat : St) (S0 : List SE) (R0 : List Nat) (nm0 : Nm) (W0 : Nat → Value) (nm : Nat → Nm) (N : Nat) (v : Value) (inv : Nat → Prop)
    (enter : enterT tb0 plan f ds S0 R0 pat = true) (ht0 : @TbOK (nm0.val W0) tb0) (hS0 : ∀ W' e, e ∈ S0 → okSE (nm0.val W0) ((nm 0).val W') e) (h0 : inv 0)
    (step : ∀ k, k ≤ N → inv k → ∀ W, (∃ t r0, @TbOK ((nm k).val W) t ∧ outF t [] f (hB tb0 plan f ds) (hK tb0 plan f ds) pat r0 = true ∧ @cvF ((nm k).val W) r0 = v) ∨
      (k < N ∧ inv (k + 1) ∧ ∃ t S R, @TbOK ((nm k).val W) t ∧ againT t [] (hB tb0 plan f ds) (hK tb0 plan f ds) pat S R pat = true ∧ ∀ W' e, e ∈ S → okSE ((nm k).val W) ((nm (k + 1)).val W') e))
    (w : World) (hr : RoIn ro w) (vs : List Value) (hv : All2 (@Go.Ri.NVal (nm0.val W0) w) ds vs) : Calls Tryz.prog f vs.toArray w (fun e w' => e = .returned v ∧ Below w.heap.size w w') := by
  refine fn_loop (κ := Unit) nm0 W0 tb0 plan f ds (fun _ => pat) (fun m _ c => ∃ k, k ≤ N ∧ m = N - k ∧ c = nm k ∧ inv k) ht0 S0 R0 () N enter (nm 0) (fun W' => holds_all (hS0 W')) ⟨0, Nat.zero_le _, rfl, rfl, h0⟩ (DF v) ?_ w hr vs hv
  rintro w m _ c ⟨k, hk, rfl, rfl, hi⟩ W
  rcases step k hk hi W with ⟨t, r0, ht, ho, hv⟩ | ⟨hlt, hi', t, S, R, ht, ha, hS⟩
  · exact step_outF t [] ht r0 ho hv
  · exact step_to t [] ht S R () (nm (k + 1)) ha (fun W' => holds_all (hS W')) ⟨N - (k + 1), by omega, k + 1, hlt, rfl, rfl, hi'⟩
/-- A function that answers without a loop. -/
theorem done_flat (V : Val) {t : Tb} {plan : List Bool} {f : FuncId} {ds : List RV} {r0 : RV} {v : Value} (ht : @TbOK V t) (h : doneQ t plan f ds [] [] r0 [] = true) (hw : isW r0 = false) (hf : flat r0 = true) (hv0 : @cvF V0 r0 = v) (w : World) (hr : RoIn ro w) (vs : List Value) (hv : All2 (@Go.Ri.NVal V w) ds vs) :
    Calls Tryz.prog f vs.toArray w (fun e w' => e = .returned v ∧ Below w.heap.size w w') := by
  have := done_calls V V0 ht h hw (holds_all fz) w hr vs hv
  refine this.mono fun e w' ⟨u, E', he, hu, H⟩ => ⟨?_, @HInv.below V0 _ _ _ _ _ _ H⟩
  rw [he, ← hv0]
  exact congrArg Ending.returned (@VRel.fn V0 E' r0 u _ hu (@rel_cvF V0 E' r0 hf))
end Go.Proofs.Z
