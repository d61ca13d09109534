/- A part of the proofs that the laws of layer three answer true for every input. -/
import Derived.Test.YtbacimjjelkfbaaGreatDoorZVal
namespace Go.Proofs.Z
open Go Go.RowKit Go.Proofs Go.Ri Go.Proofs.Z.Fa
/-! Two functions that answer the same at names: a run of each; what they answer is told by its kind alone. -/
def isI (r : RV) : Bool := match r with | .sym (.int .i64) _ => true | .pl (.int .i64 _) => true | _ => false
def isB (r : RV) : Bool := match r with | .sym .bool _ => true | .pl (.bool _) => true | _ => false
theorem isI_cv [Val] {r : RV} (h : isI r = true) : ∃ n, cv r = .int .i64 n := by
  unfold isI at h
  split at h
  · exact ⟨_, rfl⟩
  · exact ⟨_, rfl⟩
  · cases h
theorem isB_cv [Val] {r : RV} (h : isB r = true) : ∃ n, cv r = .bool n := by
  unfold isB at h
  split at h
  · exact ⟨_, rfl⟩
  · exact ⟨_, rfl⟩
  · cases h
noncomputable def aggK (r : RV) : Option (List RV) := match r with | .agg l => some l | .pl (.agg vs) => some (vs.toList.map .pl) | _ => none
noncomputable def tupK (r : RV) : Option (List RV) := match r with | .tup l => some l | .pl (.tuple vs) => some (vs.toList.map .pl) | _ => none
theorem aggK_cv [Val] {r : RV} {l : List RV} (h : aggK r = some l) : cv1 r = .agg (l.map cv).toArray := by
  unfold aggK at h
  split at h
  · cases h; rfl
  · rename_i vs
    cases h
    show Value.agg vs = _
    rw [List.map_map]
    have e : vs.toList.map (cv ∘ RV.pl) = vs.toList := by
      induction vs.toList with
      | nil => rfl
      | cons a l ih => rw [List.map_cons, ih]; rfl
    rw [e]
  · cases h
theorem tupK_cv [Val] {r : RV} {l : List RV} (h : tupK r = some l) : cvF r = .tuple (l.map cv1).toArray := by
  unfold tupK at h
  split at h
  · cases h; rfl
  · rename_i vs
    cases h
    show Value.tuple vs = _
    rw [List.map_map, cv1_pls]
  · cases h
noncomputable def earK (r : RV) : Bool := match aggK r with
  | some [a0, a1, a2, a3, a4, a5, a6, a7, a8, b0, b1, b2] => isI a0 && isI a1 && isI a2 && isI a3 && isI a4 && isI a5 && isI a6 && isI a7 && isI a8 && isB b0 && isB b1 && isB b2
  | _ => false
theorem earK_cv [Val] {r : RV} (h : earK r = true) : ∃ x y, cv1 r = earF x y := by
  unfold earK at h
  split at h
  · rename_i a0 a1 a2 a3 a4 a5 a6 a7 a8 b0 b1 b2 hl
    simp only [Bool.and_eq_true] at h
    obtain ⟨⟨⟨⟨⟨⟨⟨⟨⟨⟨⟨h0, h1⟩, h2⟩, h3⟩, h4⟩, h5⟩, h6⟩, h7⟩, h8⟩, g0⟩, g1⟩, g2⟩ := h
    obtain ⟨n0, e0⟩ := isI_cv h0
    obtain ⟨n1, e1⟩ := isI_cv h1
    obtain ⟨n2, e2⟩ := isI_cv h2
    obtain ⟨n3, e3⟩ := isI_cv h3
    obtain ⟨n4, e4⟩ := isI_cv h4
    obtain ⟨n5, e5⟩ := isI_cv h5
    obtain ⟨n6, e6⟩ := isI_cv h6
    obtain ⟨n7, e7⟩ := isI_cv h7
    obtain ⟨n8, e8⟩ := isI_cv h8
    obtain ⟨m0, f0⟩ := isB_cv g0
    obtain ⟨m1, f1⟩ := isB_cv g1
    obtain ⟨m2, f2⟩ := isB_cv g2
    refine ⟨fun i => match i with | 0 => n0 | 1 => n1 | 2 => n2 | 3 => n3 | 4 => n4 | 5 => n5 | 6 => n6 | 7 => n7 | _ => n8, fun i => match i with | 0 => m0 | 1 => m1 | _ => m2, ?_⟩
    rw [aggK_cv hl]
    simp only [List.map_cons, List.map_nil, e0, e1, e2, e3, e4, e5, e6, e7, e8, f0, f1, f2]
    rfl
  · cases h
/-- An ear and a number. -/
noncomputable def earN (r : RV) : Bool := match tupK r with
  | some [a, e] => earK a && isI e
  | _ => false
theorem earN_cv [Val] {r : RV} (h : earN r = true) : ∃ x y n, cvF r = .tuple #[earF x y, .int .i64 n] := by
  unfold earN at h
  split at h
  · rename_i a e hl
    simp only [Bool.and_eq_true] at h
    obtain ⟨x, y, h1⟩ := earK_cv h.1
    obtain ⟨n, h2⟩ := isI_cv h.2
    have h3 : cv1 e = .int .i64 n := by
      unfold isI at h
      revert h2
      have := h.2
      split at this
      · exact fun h => h
      · exact fun h => h
      · cases this
    refine ⟨x, y, n, ?_⟩
    rw [tupK_cv hl]
    simp only [List.map_cons, List.map_nil, h1, h3]
  · cases h
noncomputable def runG (X : FuncId → List Value → Option Value) (T : List TE) (Y : List YE) (f : FuncId) (args : List RV) : Option RV := match args.all flat with
  | true => match runR X noF T Y [] 4000 14 f args [] with
    | some r => match flat r with | true => some r | false => none
    | none => none
  | false => none
theorem runG_ans [Val] {X : FuncId → List Value → Option Value} {T : List TE} {Y : List YE} (hX : XTrue X) (hT : ∀ e, e ∈ T → TETrue e) (hY : ∀ e, e ∈ Y → Ans e.f (e.a.map cvF) (cvF e.r)) {f : FuncId} {args : List RV} {r : RV} (h : runG X T Y f args = some r) : flat r = true ∧ Ans f (args.map cvF) (cvF r) := by
  unfold runG at h
  split at h
  · rename_i hfa
    split at h
    · rename_i r' hr'
      split at h
      · rename_i hfr
        cases h
        unfold runR at hr'
        split at hr'
        · rename_i h1 hc
          cases hr'
          refine ⟨hfr, fun w hr => ?_⟩
          exact sym_call hm (cfgL_ok X noF T Y []) (xokL hX noF_true hT hY (by intro e he; cases he)) 4000 14 f args r h1 hc hfa hfr w hr
        · cases hr'
      · cases h
    · cases h
  · cases h
/-- Both answer the same, of a kind. -/
noncomputable def bothG (X : FuncId → List Value → Option Value) (T T' : List TE) (Y Y' : List YE) (f f' : FuncId) (args : List RV) (ok : RV → Bool) : Bool := match runG X T Y f args with
  | some r => match runG X T' Y' f' args with
    | some r' => match ok r with | true => eqTopR r' r | false => false
    | none => false
  | none => false
theorem bothG_ans [Val] {X : FuncId → List Value → Option Value} {T T' : List TE} {Y Y' : List YE} (hX : XTrue X) (hT : ∀ e, e ∈ T → TETrue e) (hT' : ∀ e, e ∈ T' → TETrue e) (hY : ∀ e, e ∈ Y → Ans e.f (e.a.map cvF) (cvF e.r)) (hY' : ∀ e, e ∈ Y' → Ans e.f (e.a.map cvF) (cvF e.r)) {f f' : FuncId} {args : List RV} {ok : RV → Bool}
    (h : bothG X T T' Y Y' f f' args ok = true) : ∃ r, ok r = true ∧ Ans f (args.map cvF) (cvF r) ∧ Ans f' (args.map cvF) (cvF r) := by
  unfold bothG at h
  split at h
  · rename_i r hr
    split at h
    · rename_i r' hr'
      split at h
      · rename_i hk
        obtain ⟨_, h1⟩ := runG_ans hX hT hY hr
        obtain ⟨h2, h3⟩ := runG_ans hX hT' hY' hr'
        rw [eqTopR_cv h h2] at h3
        exact ⟨r, hk, h1, h3⟩
      · cases h
    · cases h
  · cases h
end Go.Proofs.Z

namespace Go.Proofs.Z
open Go Go.RowKit Go.Proofs Go.Ri Go.Proofs.Z.Fa
/-! Cuts: Check of both packages: runs. 20 to 23 the cut. -/
abbrev fKCheck : Nat := 13
abbrev fRKCheck : Nat := 14
abbrev fApply : Nat := 11
abbrev fRApply : Nat := 12
def cutR : RV := .agg [sI 20, sI 21, sI 22, sI 23]
def cutF (c : Nat → Int) : Value := .agg #[.int .i64 (c 0), .int .i64 (c 1), .int .i64 (c 2), .int .i64 (c 3)]
/-- A cut of a known kind. -/
def cutK (k : Nat) : RV := .agg [lI k, sI 21, sI 22, sI 23]
def eds (k : Nat) : Int := if k = 2 ∨ k = 4 then 2 else 1
def ats (k : Nat) : Int := if k = 2 then 4 else if k = 1 then 1 else 3
def lo (k : Nat) : Int := if k = 1 ∨ k = 2 then 1 else 0
def hi (k : Nat) : Int := if k = 1 then 4 else if k = 2 then 3 else 0
/-- The number i of a cut's tests. -/
def ctest (k : Nat) (e a t : Int) (i : Nat) : Bool := if i = 0 then decide (e ≥ 0) else if i = 1 then decide (e < eds k) else if i = 2 then decide (a ≥ 0) else if i = 3 then decide (a < ats k) else if i = 4 then decide (t ≥ lo k) else decide (t ≤ hi k)
def ctF (k i : Nat) (q : Bool) : List TE := if i = 0 then [⟨.bin .geq, sI 21, lI 0, bR q⟩] else if i = 1 then [⟨.bin .lss, sI 21, lI (eds k), bR q⟩] else if i = 2 then [⟨.bin .geq, sI 22, lI 0, bR q⟩] else if i = 3 then [⟨.bin .lss, sI 22, lI (ats k), bR q⟩] else if i = 4 then [⟨.bin .geq, sI 23, lI (lo k), bR q⟩] else [⟨.bin .leq, sI 23, lI (hi k), bR q⟩]
def ctT (k m : Nat) : List TE := (List.range (Nat.min (m + 1) 6)).flatMap fun i => ctF k i (Nat.blt i m)
set_option maxRecDepth 100000 in
theorem kc_run : (allU 4 fun k => allU 7 fun m => match runG noX (ctT (k + 1) m) [] fKCheck [cutK (k + 1)] with | some r => eqTopR r (lI (if Nat.beq m 6 then 0 else 30)) | none => false) = true := by kernel_rfl
/-! What is not of a kind. -/
set_option maxRecDepth 100000 in
theorem kc_out : (all2 fun q => match runG noX ([⟨.bin .lss, sI 20, lI 1, bR q⟩] ++ if q then [] else [⟨.bin .gtr, sI 20, lI 4, bR true⟩]) [] fKCheck [cutR] with | some r => eqTopR r (lI 30) | none => false) = true := by kernel_rfl
/-- The specification's tests. -/
def rnum (k : Nat) : Nat := if k = 2 then 6 else if k = 4 then 5 else 4
def rtE (k i : Nat) (q : Bool) : TE :=
  if k = 1 then (if i = 0 then ⟨.ieq, sI 21, lI 0, bR q⟩ else if i = 1 then ⟨.ieq, sI 22, lI 0, bR q⟩ else if i = 2 then ⟨.bin .geq, sI 23, lI 1, bR q⟩ else ⟨.bin .leq, sI 23, lI 4, bR q⟩)
  else if k = 2 then (if i = 0 then ⟨.bin .geq, sI 21, lI 0, bR q⟩ else if i = 1 then ⟨.bin .leq, sI 21, lI 1, bR q⟩ else if i = 2 then ⟨.bin .geq, sI 22, lI 0, bR q⟩ else if i = 3 then ⟨.bin .lss, sI 22, lI 4, bR q⟩ else if i = 4 then ⟨.bin .geq, sI 23, lI 1, bR q⟩ else ⟨.bin .leq, sI 23, lI 3, bR q⟩)
  else if k = 3 then (if i = 0 then ⟨.ieq, sI 21, lI 0, bR q⟩ else if i = 1 then ⟨.bin .geq, sI 22, lI 0, bR q⟩ else if i = 2 then ⟨.bin .lss, sI 22, lI 3, bR q⟩ else ⟨.ieq, sI 23, lI 0, bR q⟩)
  else (if i = 0 then ⟨.bin .geq, sI 21, lI 0, bR q⟩ else if i = 1 then ⟨.bin .leq, sI 21, lI 1, bR q⟩ else if i = 2 then ⟨.bin .geq, sI 22, lI 0, bR q⟩ else if i = 3 then ⟨.bin .lss, sI 22, lI 3, bR q⟩ else ⟨.ieq, sI 23, lI 0, bR q⟩)
def rtT (k m : Nat) : List TE := (List.range (Nat.min (m + 1) (rnum k))).map fun i => rtE k i (Nat.blt i m)
set_option maxRecDepth 100000 in
theorem rkc_run : (allU 4 fun k => allU 7 fun m => Nat.blt (rnum (k + 1)) m || match runG noX (rtT (k + 1) m) [] fRKCheck [cutK (k + 1)] with | some r => eqTopR r (lI (if Nat.beq m (rnum (k + 1)) then 0 else 30)) | none => false) = true := by kernel_rfl
set_option maxRecDepth 100000 in
theorem rkc_out : (match runG noX [⟨.ieq, sI 20, lI 1, bR false⟩, ⟨.ieq, sI 20, lI 2, bR false⟩, ⟨.ieq, sI 20, lI 3, bR false⟩, ⟨.ieq, sI 20, lI 4, bR false⟩] [] fRKCheck [cutR] with | some r => eqTopR r (lI 30) | none => false) = true := by kernel_rfl
end Go.Proofs.Z
