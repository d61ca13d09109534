/- A part of the proofs that the laws of layer one answer true for every input. -/
import Derived.Test.YtedbdpaioikhgaaDoorZTab
import Derived.Test.YtedbdpaioikhgaaDoorProg
import Derived.WalkKit
import Derived.KernelRfl
import Derived.Laws.Externs
import Derived.Lib.MakeNoZero
namespace Go.Proofs.Z
open Go Go.RowKit Go.Proofs Go.Ri

abbrev fSound : Nat := 43
abbrev fCheck : Nat := 13
abbrev fCheckMark : Nat := 26
abbrev fCompare : Nat := 15
abbrev fCompareMarks : Nat := 16
abbrev fCmp : Nat := 44
abbrev fHolesCode : Nat := 42
abbrev fSane : Nat := 10
abbrev fEdgeCode : Nat := 40
abbrev fEdgeFromCode : Nat := 38
abbrev fHolesFromCode : Nat := 39
abbrev fCode : Nat := 12
abbrev fFromCode : Nat := 11
abbrev fNext : Nat := 14
abbrev fCount : Nat := 35
abbrev fCountBefore : Nat := 41
abbrev fCountOf : Nat := 36
abbrev fSlotsUnder : Nat := 37
abbrev fBijection : Nat := 3
def roCells : List Value := [.int .i64 1, .int .i64 4, .int .i64 7, .int .i64 19, .int .i64 40]
abbrev ro : Ro := [(0, roCells)]
noncomputable def cfg (X : FuncId → List Value → Option Value) (T : List TE) (Y : List YE) : Cfg := { ro := ro, ne := [88], mz := [(100, 5)], X := X, T := T, Y := fun f args => if args.all flat then ylook Y f args else none }
set_option maxRecDepth 100000 in
theorem ne88 (x : Value) (w : World) : (callFunc 88 #[x]).run Tryd.prog w = .ok (.value x) w :=
  run_callFunc_extern (P := Tryd.prog) (f := 88) (fn := Tryd.f88) (e := Extern.AbiNoEscape.same) (by kernel_rfl) (by kernel_rfl) (by kernel_rfl) (by kernel_rfl) (by kernel_rfl) #[x] w
set_option maxRecDepth 100000 in
theorem mz100 (n : Int) (w : World) (h0 : 0 ≤ n) (h1 : n ≤ 1000000000) : ∃ (cs : Array Value) (k : Nat),
    (callFunc 100 #[.int .i64 n]).run Tryd.prog w = .ok (.value (.slice (some ⟨w.heap.size, 0, none⟩) n.toNat cs.size)) ((w.drewN k).alloc (.cells cs 5)) ∧ n.toNat ≤ cs.size := by
  obtain ⟨m, rfl⟩ : ∃ m : Nat, n = m := ⟨n.toNat, by omega⟩
  obtain ⟨cs, h, hc, _⟩ := Lib.run_makeNoZero (P := Tryd.prog) w Tryd.f100.params (Tryd.f100.resultTypes[0]?.getD 0) 5 (by kernel_rfl) m (by omega)
  refine ⟨cs, 2, ?_, by simpa using hc⟩
  rw [run_callFunc_extern (P := Tryd.prog) (f := 100) (fn := Tryd.f100) (e := Extern.BytealgMakeNoZero.makeNoZero Tryd.f100.params #[(Tryd.f100.resultTypes[0]?.getD 0)]) (by kernel_rfl) (by kernel_rfl) (by kernel_rfl) (by kernel_rfl) (by kernel_rfl), h]
  rfl
theorem hm : Tryd.prog.follows .mixedOrders = true := by kernel_rfl
theorem cfg_ok (X : FuncId → List Value → Option Value) (T : List TE) (Y : List YE) : CfgOK Tryd.prog (cfg X T Y) where
  ne := by
    intro f hf x w
    have : f = 88 := by simpa [cfg] using hf
    subst this
    exact ne88 x w
  mz := by
    intro f e hf n w h0 h1
    have : f = 100 ∧ e = 5 := by
      simp only [cfg, List.lookup] at hf
      split at hf
      · rename_i hb; cases hf; exact ⟨by simpa using hb, rfl⟩
      · cases hf
    obtain ⟨rfl, rfl⟩ := this
    exact mz100 n w h0 h1
/-- The function answers v, in every world that holds the table. -/
def Ans (f : FuncId) (args : List Value) (v : Value) : Prop := ∀ w, RoIn ro w → Calls Tryd.prog f args.toArray w (fun e w' => e = .returned v ∧ Below w.heap.size w w')
def XTrue (X : FuncId → List Value → Option Value) : Prop := ∀ f vs v, X f vs = some v → Ans f vs v
theorem xok [Val] {X : FuncId → List Value → Option Value} {T : List TE} {Y : List YE} (hX : XTrue X) (hT : ∀ e, e ∈ T → TETrue e) (hY : ∀ e, e ∈ Y → Ans e.f (e.a.map cvF) (cvF e.r)) : XOK Tryd.prog (cfg X T Y) where
  x := fun f vs v h w hr => hX f vs v h w hr
  y := y_ok (T := Y) rfl fun e he w hr => hY e he w hr
  t := hT
def noX : FuncId → List Value → Option Value := fun _ _ => none
theorem noX_true : XTrue noX := fun _ _ _ h => by cases h
/-- A run with names. -/
noncomputable def runR (X : FuncId → List Value → Option Value) (T : List TE) (Y : List YE) (m n : Nat) (f : FuncId) (args : List RV) : Option RV :=
  match call Tryd.prog (cfg X T Y) m n f args [] with
  | some (r, _) => some r
  | none => none
noncomputable def eqTopR (x y : RV) : Bool :=
  match x, y with
  | .tup l, .tup m => eqSL eqF1 l m
  | .tup l, .pl (.tuple vs) => eqSL eqF1 l (vs.toList.map .pl)
  | .pl (.tuple us), .tup m => match m.all flat1 with | true => eqSL eqF1 (us.toList.map .pl) m | false => false
  | .pl (.tuple us), .pl (.tuple vs) => eqSL eqF1 (us.toList.map .pl) (vs.toList.map .pl)
  | x, y => eqF1 x y
noncomputable def runOK (X : FuncId → List Value → Option Value) (T : List TE) (Y : List YE) (m n : Nat) (f : FuncId) (args : List RV) (r : RV) : Bool :=
  match args.all flat with
  | true => match runR X T Y m n f args with
    | some r' => match flat r' with | true => eqTopR r' r | false => false
    | none => false
  | false => false
theorem cv1_pls [Val] (vs : List Value) : vs.map (cv1 ∘ RV.pl) = vs := by
  induction vs with
  | nil => rfl
  | cons v vs ih => rw [List.map_cons, ih]; rfl
theorem eqTopR_cv [Val] {x y : RV} (h : eqTopR x y = true) (hx : flat x = true) : cvF x = cvF y := by
  have lists : ∀ {l m : List RV}, eqSL eqF1 l m = true → (∀ r ∈ l, cvF r = cv1 r) → (∀ r ∈ m, cvF r = cv1 r) → l.map cv1 = m.map cv1 := by
    intro l m h h1 h2
    have := eqSL_cvF h
    rw [List.map_congr_left h1, List.map_congr_left h2] at this
    exact this
  have pl1 : ∀ vs : List Value, ∀ r ∈ vs.map RV.pl, cvF r = cv1 r := by
    intro vs r hr
    obtain ⟨v, _, rfl⟩ := List.mem_map.1 hr
    rfl
  have fl1 : ∀ l : List RV, l.all flat1 = true → ∀ r ∈ l, cvF r = cv1 r := by
    intro l hl r hr
    have := List.all_eq_true.1 hl r hr
    cases r with
    | tup l => cases this
    | _ => rfl
  have tup2 : ∀ {l m : List RV}, l.all flat1 = true → eqSL eqF1 l m = true → ∀ r ∈ m, cvF r = cv1 r := by
    intro l m hl h r hr
    have := eqSL_spec (R := fun x y => eqF1 x y = true) (fun _ _ h => h) l m h
    clear h
    induction this with
    | nil => cases hr
    | cons h1 _ ih =>
      simp only [List.all_cons, Bool.and_eq_true] at hl
      cases hr with
      | head =>
        cases r with
        | tup q =>
          rename_i a _ _ _
          cases a <;> first | (cases h1; done) | (cases hl.1; done) | (rename_i v; cases v <;> cases h1)
        | _ => rfl
      | tail _ hr => exact ih hl.2 hr
  unfold eqTopR at h
  split at h
  · rename_i l m
    show Value.tuple _ = Value.tuple _
    rw [lists h (fl1 l hx) (tup2 hx h)]
  · rename_i l vs
    have := lists h (fl1 l hx) (pl1 _)
    show Value.tuple _ = Value.tuple _
    rw [this, List.map_map, cv1_pls]
  · rename_i us m
    split at h
    · rename_i hm
      have := lists h (pl1 _) (fl1 m hm)
      rw [List.map_map, cv1_pls] at this
      show Value.tuple _ = Value.tuple _
      rw [← this]
    · cases h
  · rename_i us vs
    have := lists h (pl1 _) (pl1 _)
    rw [List.map_map, List.map_map, cv1_pls, cv1_pls] at this
    show Value.tuple _ = Value.tuple _
    rw [Array.ext' this]
  · exact eqF1_cv h
/-- What a run with names answers, the function answers. -/
theorem ans [Val] {X : FuncId → List Value → Option Value} {T : List TE} {Y : List YE} (hX : XTrue X) (hT : ∀ e, e ∈ T → TETrue e) (hY : ∀ e, e ∈ Y → Ans e.f (e.a.map cvF) (cvF e.r)) {m n : Nat} {f : FuncId} {args : List RV} {r : RV} (h : runOK X T Y m n f args r = true) :
    Ans f (args.map cvF) (cvF r) := by
  unfold runOK at h
  split at h
  · rename_i hfa
    split at h
    · rename_i r' hr'
      split at h
      · rename_i hfr
        unfold runR at hr'
        split at hr'
        · rename_i r1 h1 hc
          cases hr'
          intro w hr
          rw [← eqTopR_cv h hfr]
          exact sym_call hm (cfg_ok X T Y) (xok hX hT hY) m n f args r' h1 hc hfa hfr w hr
        · cases hr'
      · cases h
    · cases h
  · cases h
end Go.Proofs.Z
