/- A part of the proofs that the laws of layer one answer true for every input. -/
import Derived.Test.YtedbdpaioikhgaaGreatDoorRiE
import Derived.Test.YtedbdpaioikhgaaGreatDoorProg
import Derived.WalkKit
import Derived.KernelRfl
import Derived.Laws.Externs
import Derived.Lib.MakeNoZero
namespace Go.Ri
open Go Go.RowKit
noncomputable def eqAtom : Value → Value → Bool
  | .int k a, .int k' b => if k = k' then a == b else false
  | .bool a, .bool b => a == b
  | .string a, .string b => eqB a.data.toList b.data.toList
  | _, _ => false
noncomputable def eqL (e : Value → Value → Bool) (l : List Value) : List Value → Bool :=
  List.rec (motive := fun _ => List Value → Bool) (fun m => match m with | [] => true | _ => false) (fun x _ ih m => match m with | [] => false | y :: m => match e x y with | true => ih m | false => false) l
noncomputable def eqOne : Value → Value → Bool
  | .agg a, .agg b => eqL eqAtom a.toList b.toList
  | a, b => eqAtom a b
noncomputable def eqTop : Value → Value → Bool
  | .tuple a, .tuple b => eqL eqOne a.toList b.toList
  | a, b => eqOne a b
theorem eqAtom_eq {a b : Value} (h : eqAtom a b = true) : a = b := by
  unfold eqAtom at h
  split at h
  · split at h
    · rename_i hk; subst hk; rw [beq_iff_eq.mp h]
    · cases h
  · rw [beq_iff_eq.mp h]
  · rename_i x y
    rw [eqB_eq] at h
    have := beq_iff_eq.mp h
    congr 1
    exact ByteArray.ext (Array.ext' this)
  · cases h
theorem eqL_eq {e : Value → Value → Bool} (he : ∀ a b, e a b = true → a = b) : ∀ l m, eqL e l m = true → l = m
  | [], [], _ => rfl
  | [], _ :: _, h => by cases h
  | _ :: _, [], h => by cases h
  | x :: l, y :: m, h => by
    have h : (match e x y with | true => eqL e l m | false => false) = true := h
    split at h
    · rename_i hx; rw [he _ _ hx, eqL_eq he l m h]
    · cases h
theorem eqOne_eq {a b : Value} (h : eqOne a b = true) : a = b := by
  unfold eqOne at h
  split at h
  · rw [Array.ext' (eqL_eq (fun _ _ => eqAtom_eq) _ _ h)]
  · exact eqAtom_eq h
theorem eqTop_eq {a b : Value} (h : eqTop a b = true) : a = b := by
  unfold eqTop at h
  split at h
  · rw [Array.ext' (eqL_eq (fun _ _ => eqOne_eq) _ _ h)]
  · exact eqOne_eq h
structure Ent where
  f : FuncId
  a : List Value
  r : Value
noncomputable def look (T : List Ent) (f : FuncId) (vs : List Value) : Option Value :=
  List.rec (motive := fun _ => Option Value) none (fun e _ ih => match Nat.beq e.f f with
    | true => match eqL eqOne e.a vs with | true => some e.r | false => ih
    | false => ih) T
theorem look_mem : ∀ (T : List Ent) (f : FuncId) (vs : List Value) (v : Value), look T f vs = some v → ∃ e, e ∈ T ∧ e.f = f ∧ e.a = vs ∧ e.r = v
  | [], _, _, _, h => by cases h
  | e :: T, f, vs, v, h => by
    have h : (match Nat.beq e.f f with | true => (match eqL eqOne e.a vs with | true => some e.r | false => look T f vs) | false => look T f vs) = some v := h
    split at h
    · rename_i h1
      split at h
      · rename_i h2
        cases h
        exact ⟨e, List.mem_cons_self, Nat.eq_of_beq_eq_true h1, eqL_eq (fun _ _ => eqOne_eq) _ _ h2, rfl⟩
      · obtain ⟨x, hx, r⟩ := look_mem T f vs v h
        exact ⟨x, List.mem_cons_of_mem _ hx, r⟩
    · obtain ⟨x, hx, r⟩ := look_mem T f vs v h
      exact ⟨x, List.mem_cons_of_mem _ hx, r⟩
/-- An entry is the answer of the call that it names. -/
noncomputable def entOK (P : Program) (g : Cfg) (m n : Nat) (e : Ent) : Bool :=
  match call P g m n e.f (e.a.map .pl) [] with
  | some (.pl v, _) => eqTop v e.r
  | _ => false
noncomputable def tabOK (P : Program) (g : Cfg) (m n : Nat) (T : List Ent) : Bool :=
  List.rec (motive := fun _ => Bool) true (fun e _ ih => match entOK P g m n e with | true => ih | false => false) T
theorem tabOK_mem {P : Program} {g : Cfg} {m n : Nat} : ∀ (T : List Ent), tabOK P g m n T = true → ∀ e, e ∈ T → entOK P g m n e = true
  | e :: T, h, x, hx => by
    have h : (match entOK P g m n e with | true => tabOK P g m n T | false => false) = true := h
    split at h
    · rename_i h1
      cases hx with
      | head => exact h1
      | tail _ hx => exact tabOK_mem T h x hx
    · cases h
/-- What the table's calls answer. -/
def EntTrue (P : Program) (ro : Ro) (e : Ent) : Prop := ∀ w, RoIn ro w → Calls P e.f e.a.toArray w (fun x w' => x = .returned e.r ∧ Below w.heap.size w w')
theorem ent_true {P : Program} {g : Cfg} (hm : P.follows .mixedOrders = true) (G : CfgOK P g) (hX : @XOK V0 P g) {m n : Nat} {e : Ent} (h : entOK P g m n e = true) : EntTrue P g.ro e := by
  unfold entOK at h
  split at h
  · rename_i v h' hc
    intro w hr
    have := @closed_call V0 P g hm G hX m n e.f e.a v h' hc w hr
    rw [eqTop_eq h] at this
    exact this
  · cases h
theorem tab_true {P : Program} {g : Cfg} (hm : P.follows .mixedOrders = true) (G : CfgOK P g) (hX : @XOK V0 P g) {m n : Nat} {T : List Ent} (h : tabOK P g m n T = true) : ∀ e, e ∈ T → EntTrue P g.ro e :=
  fun e he => ent_true hm G hX (tabOK_mem T h e he)
end Go.Ri

namespace Go.Proofs.Z
open Go Go.RowKit Go.Proofs Go.Ri

abbrev fSound : Nat := 61
abbrev fCheck : Nat := 12
abbrev fREdge : Nat := 108
abbrev fValid : Nat := 62
abbrev fRCheck : Nat := 13
abbrev fCheckMark : Nat := 14
abbrev fRCheckMark : Nat := 15
abbrev fCompare : Nat := 16
abbrev fRCompare : Nat := 17
abbrev fCompareMarks : Nat := 18
abbrev fRCompareMarks : Nat := 19
abbrev fCmp : Nat := 63
abbrev fNumber : Nat := 66
abbrev fHolesCode : Nat := 65
abbrev fBit : Nat := 73
abbrev fGet : Nat := 67
abbrev fSane : Nat := 11
abbrev fLaw : Nat := 3
abbrev fEdgeCode : Nat := 68
abbrev fEdgeFromCode : Nat := 75
abbrev fHolesFromCode : Nat := 76
abbrev fCode : Nat := 24
abbrev fFromCode : Nat := 26
abbrev fNext : Nat := 28
abbrev fCount : Nat := 30
abbrev fCountBefore : Nat := 69
abbrev fCountOf : Nat := 74
abbrev fSlotsUnder : Nat := 60
abbrev fCodes : Nat := 4
abbrev fRCode : Nat := 25
abbrev fRFromCode : Nat := 27
abbrev fRNext : Nat := 29
abbrev fRCount : Nat := 31
abbrev fMany : Nat := 70
abbrev fEdges : Nat := 71
abbrev fRank : Nat := 72
def roCells : List Value := [.int .i64 1, .int .i64 4, .int .i64 7, .int .i64 19, .int .i64 40]
abbrev ro : Ro := [(0, roCells)]
/-- What is known of a call over slices that are only read. -/
structure LE where
  f : FuncId
  d : List (List RV)
  r : RV
noncomputable def eqDs (l : List (List RV)) : List (List RV) → Bool :=
  List.rec (motive := fun _ => List (List RV) → Bool) (fun m => match m with | [] => true | _ => false) (fun x _ ih m => match m with | [] => false | y :: m => match eqSL eqF1 x y with | true => ih m | false => false) l
noncomputable def llook (T : List LE) (f : FuncId) (ds : List (List RV)) : Option RV :=
  List.rec (motive := fun _ => Option RV) none (fun e _ ih => match Nat.beq e.f f with
    | true => match eqDs e.d ds with | true => some e.r | false => ih
    | false => ih) T
noncomputable def cfgL (X : FuncId → List Value → Option Value) (F : FuncId → List Value → Option FE) (T : List TE) (Y : List YE) (L : List LE) : Cfg := { ro := ro, ne := [141], mz := [(156, 5)], X := X, T := T, Y := fun f args => if args.all flat then ylook Y f args else none, L := llook L, F := F }
def noF : FuncId → List Value → Option FE := fun _ _ => none
noncomputable def cfg (X : FuncId → List Value → Option Value) (T : List TE) (Y : List YE) : Cfg := cfgL X noF T Y []
set_option maxRecDepth 100000 in
theorem ne141 (x : Value) (w : World) : (callFunc 141 #[x]).run Tryz.prog w = .ok (.value x) w :=
  run_callFunc_extern (P := Tryz.prog) (f := 141) (fn := Tryz.f141) (e := Extern.AbiNoEscape.same) (by kernel_rfl) (by kernel_rfl) (by kernel_rfl) (by kernel_rfl) (by kernel_rfl) #[x] w
set_option maxRecDepth 100000 in
theorem mz156 (n : Int) (w : World) (h0 : 0 ≤ n) (h1 : n ≤ 1000000000) : ∃ (cs : Array Value) (k : Nat),
    (callFunc 156 #[.int .i64 n]).run Tryz.prog w = .ok (.value (.slice (some ⟨w.heap.size, 0, none⟩) n.toNat cs.size)) ((w.drewN k).alloc (.cells cs 5)) ∧ n.toNat ≤ cs.size := by
  obtain ⟨m, rfl⟩ : ∃ m : Nat, n = m := ⟨n.toNat, by omega⟩
  obtain ⟨cs, h, hc, _⟩ := Lib.run_makeNoZero (P := Tryz.prog) w Tryz.f156.params (Tryz.f156.resultTypes[0]?.getD 0) 5 (by kernel_rfl) m (by omega)
  refine ⟨cs, 2, ?_, by simpa using hc⟩
  rw [run_callFunc_extern (P := Tryz.prog) (f := 156) (fn := Tryz.f156) (e := Extern.BytealgMakeNoZero.makeNoZero Tryz.f156.params #[(Tryz.f156.resultTypes[0]?.getD 0)]) (by kernel_rfl) (by kernel_rfl) (by kernel_rfl) (by kernel_rfl) (by kernel_rfl), h]
  rfl
theorem hm : Tryz.prog.follows .mixedOrders = true := by kernel_rfl
theorem cfgL_ok (X : FuncId → List Value → Option Value) (F : FuncId → List Value → Option FE) (T : List TE) (Y : List YE) (L : List LE) : CfgOK Tryz.prog (cfgL X F T Y L) where
  ne := by
    intro f hf x w
    have : f = 141 := by simpa [cfgL] using hf
    subst this
    exact ne141 x w
  mz := by
    intro f e hf n w h0 h1
    have : f = 156 ∧ e = 5 := by
      simp only [cfgL, List.lookup] at hf
      split at hf
      · rename_i hb; cases hf; exact ⟨by simpa using hb, rfl⟩
      · cases hf
    obtain ⟨rfl, rfl⟩ := this
    exact mz156 n w h0 h1
theorem cfg_ok (X : FuncId → List Value → Option Value) (T : List TE) (Y : List YE) : CfgOK Tryz.prog (cfg X T Y) := cfgL_ok X noF T Y []
/-- The function answers v, in every world that holds the table. -/
def Ans (f : FuncId) (args : List Value) (v : Value) : Prop := ∀ w, RoIn ro w → Calls Tryz.prog f args.toArray w (fun e w' => e = .returned v ∧ Below w.heap.size w w')
def XTrue (X : FuncId → List Value → Option Value) : Prop := ∀ f vs v, X f vs = some v → Ans f vs v
/-- The same, over slices with what they hold. -/
def AnsD (f : FuncId) (ds : List (List Value)) (v : Value) : Prop := ∀ w, RoIn ro w → ∀ vs, All2 (DVal w) ds vs → Calls Tryz.prog f vs.toArray w (fun e w' => e = .returned v ∧ Below w.heap.size w w')
theorem eqDs_cvF [Val] : ∀ {l m : List (List RV)}, eqDs l m = true → (l.map fun d => d.map cvF) = m.map fun d => d.map cvF
  | [], [], _ => rfl
  | [], _ :: _, h => by cases h
  | _ :: _, [], h => by cases h
  | x :: l, y :: m, h => by
    have h : (match eqSL eqF1 x y with | true => eqDs l m | false => false) = true := h
    split at h
    · rename_i hx
      rw [List.map_cons, List.map_cons, eqSL_cvF hx, eqDs_cvF h]
    · cases h
theorem llook_mem [Val] : ∀ (T : List LE) (f : FuncId) (ds : List (List RV)) (r : RV), llook T f ds = some r → ∃ e, e ∈ T ∧ e.f = f ∧ (e.d.map fun d => d.map cvF) = (ds.map fun d => d.map cvF) ∧ e.r = r
  | [], _, _, _, h => by cases h
  | e :: T, f, ds, r, h => by
    have h : (match Nat.beq e.f f with
      | true => match eqDs e.d ds with | true => some e.r | false => llook T f ds
      | false => llook T f ds) = some r := h
    have go : llook T f ds = some r → ∃ e', e' ∈ e :: T ∧ e'.f = f ∧ (e'.d.map fun d => d.map cvF) = (ds.map fun d => d.map cvF) ∧ e'.r = r := fun h => by
      obtain ⟨e', he, q⟩ := llook_mem T f ds r h
      exact ⟨e', List.mem_cons_of_mem _ he, q⟩
    split at h
    · rename_i h1
      split at h
      · rename_i h2
        cases h
        exact ⟨e, List.mem_cons_self, Nat.eq_of_beq_eq_true h1, eqDs_cvF h2, rfl⟩
      · exact go h
    · exact go h
def FXTrue (F : FuncId → List Value → Option FE) : Prop := ∀ f vs q, F f vs = some q → FTrue Tryz.prog ro f vs q
theorem noF_true : FXTrue noF := fun _ _ _ h => by cases h
theorem xokL [Val] {X : FuncId → List Value → Option Value} {F : FuncId → List Value → Option FE} {T : List TE} {Y : List YE} {L : List LE} (hX : XTrue X) (hF : FXTrue F) (hT : ∀ e, e ∈ T → TETrue e) (hY : ∀ e, e ∈ Y → Ans e.f (e.a.map cvF) (cvF e.r))
    (hL : ∀ e, e ∈ L → AnsD e.f (e.d.map fun d => d.map cvF) (cvF e.r)) : XOK Tryz.prog (cfgL X F T Y L) where
  f := hF
  x := fun f vs v h w hr => hX f vs v h w hr
  y := y_ok (T := Y) rfl fun e he w hr => hY e he w hr
  t := ⟨hT, (by intro e he; cases he), (by intro e he; cases he), (by intro e he; cases he), (by intro e he; cases he), (by intro e he; cases he), (by intro e he; cases he), (by intro e he; cases he), (by intro e he; cases he), (by intro e he; cases he), (by intro f args r h; cases h)⟩
  q := by intro f args r h2 hq; cases hq
  lc := by intro f ds r hq; cases hq
  u := by intro f args h r h' hu; cases hu
  l := fun f ds r hl hfr base w0 E h w args vs H hd hv => by
    obtain ⟨e, he, rfl, e2, rfl⟩ := llook_mem L f ds r hl
    have hdv := deeps_dv H hd hv
    rw [← e2] at hdv
    exact (hL e he w H.roIn vs hdv).mono fun x w' ⟨h1, h2⟩ => ⟨⟨_, h1, rel_cvF hfr⟩, h2⟩
theorem xok [Val] {X : FuncId → List Value → Option Value} {T : List TE} {Y : List YE} (hX : XTrue X) (hT : ∀ e, e ∈ T → TETrue e) (hY : ∀ e, e ∈ Y → Ans e.f (e.a.map cvF) (cvF e.r)) : XOK Tryz.prog (cfg X T Y) :=
  xokL hX noF_true hT hY (by intro e he; cases he)
def noX : FuncId → List Value → Option Value := fun _ _ => none
theorem noX_true : XTrue noX := fun _ _ _ h => by cases h
/-- A run with names. -/
noncomputable def runR (X : FuncId → List Value → Option Value) (F : FuncId → List Value → Option FE) (T : List TE) (Y : List YE) (L : List LE) (m n : Nat) (f : FuncId) (args : List RV) (h : RH) : Option RV :=
  match call Tryz.prog (cfgL X F T Y L) m n f args h with
  | some (r, _) => some r
  | none => none
noncomputable def eqTopR (x y : RV) : Bool :=
  match x, y with
  | .tup l, .tup m => eqSL eqF1 l m
  | .tup l, .pl (.tuple vs) => eqSL eqF1 l (vs.toList.map .pl)
  | .pl (.tuple us), .tup m => match m.all flat1 with | true => eqSL eqF1 (us.toList.map .pl) m | false => false
  | .pl (.tuple us), .pl (.tuple vs) => eqSL eqF1 (us.toList.map .pl) (vs.toList.map .pl)
  | x, y => eqF1 x y
noncomputable def runOKL (X : FuncId → List Value → Option Value) (F : FuncId → List Value → Option FE) (T : List TE) (Y : List YE) (L : List LE) (m n : Nat) (f : FuncId) (args : List RV) (r : RV) : Bool :=
  match args.all flat with
  | true => match runR X F T Y L m n f args [] with
    | some r' => match flat r' with | true => eqTopR r' r | false => false
    | none => false
  | false => false
noncomputable def runOK (X : FuncId → List Value → Option Value) (T : List TE) (Y : List YE) (m n : Nat) (f : FuncId) (args : List RV) (r : RV) : Bool := runOKL X noF T Y [] m n f args r
/-- A run over slices that are only read. -/
noncomputable def runOKD (X : FuncId → List Value → Option Value) (F : FuncId → List Value → Option FE) (T : List TE) (Y : List YE) (L : List LE) (m n : Nat) (f : FuncId) (ds : List (List RV)) (r : RV) : Bool :=
  match ds.all okD with
  | true => match runR X F T Y L m n f (openArgs ds 0).1 (openArgs ds 0).2 with
    | some r' => match flat r' with | true => eqTopR r' r | false => false
    | none => false
  | false => false
theorem cv1_pls [Val] (vs : List Value) : vs.map (cv1 ∘ RV.pl) = vs := by
  induction vs with
  | nil => rfl
  | cons v vs ih => rw [List.map_cons, ih]; rfl
theorem eqTopR_cv [Val] {x y : RV} (h : eqTopR x y = true) (hx : flat x = true) : cvF x = cvF y := by
  have lists : ∀ {l m : List RV}, eqSL eqF1 l m = true → (∀ r ∈ l, cvF r = cv1 r) → (∀ r ∈ m, cvF r = cv1 r) → l.map cv1 = m.map cv1 := by
    intro l m h h1 h2
    have := eqSL_cvF h
    rw [List.map_congr_left h1, List.map_congr_left h2] at this
    exact this
  have pl1 : ∀ vs : List Value, ∀ r ∈ vs.map RV.pl, cvF r = cv1 r := by
    intro vs r hr
    obtain ⟨v, _, rfl⟩ := List.mem_map.1 hr
    rfl
  have fl1 : ∀ l : List RV, l.all flat1 = true → ∀ r ∈ l, cvF r = cv1 r := by
    intro l hl r hr
    have := List.all_eq_true.1 hl r hr
    cases r with
    | tup l => cases this
    | _ => rfl
  have tup2 : ∀ {l m : List RV}, l.all flat1 = true → eqSL eqF1 l m = true → ∀ r ∈ m, cvF r = cv1 r := by
    intro l m hl h r hr
    have := eqSL_spec (R := fun x y => eqF1 x y = true) (fun _ _ h => h) l m h
    clear h
    induction this with
    | nil => cases hr
    | cons h1 _ ih =>
      simp only [List.all_cons, Bool.and_eq_true] at hl
      cases hr with
      | head =>
        cases r with
        | tup q =>
          rename_i a _ _ _
          cases a <;> first | (cases h1; done) | (cases hl.1; done) | (rename_i v; cases v <;> first | (cases h1; done) | (rename_i o _ _; cases o <;> cases h1))
        | _ => rfl
      | tail _ hr => exact ih hl.2 hr
  unfold eqTopR at h
  split at h
  · rename_i l m
    show Value.tuple _ = Value.tuple _
    rw [lists h (fl1 l hx) (tup2 hx h)]
  · rename_i l vs
    have := lists h (fl1 l hx) (pl1 _)
    show Value.tuple _ = Value.tuple _
    rw [this, List.map_map, cv1_pls]
  · rename_i us m
    split at h
    · rename_i hm
      have := lists h (pl1 _) (fl1 m hm)
      rw [List.map_map, cv1_pls] at this
      show Value.tuple _ = Value.tuple _
      rw [← this]
    · cases h
  · rename_i us vs
    have := lists h (pl1 _) (pl1 _)
    rw [List.map_map, List.map_map, cv1_pls, cv1_pls] at this
    show Value.tuple _ = Value.tuple _
    rw [Array.ext' this]
  · exact eqF1_cv h
/-- What a run with names answers, the function answers. -/
theorem ansL [Val] {X : FuncId → List Value → Option Value} {F : FuncId → List Value → Option FE} {T : List TE} {Y : List YE} {L : List LE} (hX : XTrue X) (hF : FXTrue F) (hT : ∀ e, e ∈ T → TETrue e) (hY : ∀ e, e ∈ Y → Ans e.f (e.a.map cvF) (cvF e.r))
    (hL : ∀ e, e ∈ L → AnsD e.f (e.d.map fun d => d.map cvF) (cvF e.r)) {m n : Nat} {f : FuncId} {args : List RV} {r : RV} (h : runOKL X F T Y L m n f args r = true) :
    Ans f (args.map cvF) (cvF r) := by
  unfold runOKL at h
  split at h
  · rename_i hfa
    split at h
    · rename_i r' hr'
      split at h
      · rename_i hfr
        unfold runR at hr'
        split at hr'
        · rename_i h1 hc
          cases hr'
          intro w hr
          rw [← eqTopR_cv h hfr]
          exact sym_call hm (cfgL_ok X F T Y L) (xokL hX hF hT hY hL) m n f args r' h1 hc hfa hfr w hr
        · cases hr'
      · cases h
    · cases h
  · cases h
theorem ans [Val] {X : FuncId → List Value → Option Value} {T : List TE} {Y : List YE} (hX : XTrue X) (hT : ∀ e, e ∈ T → TETrue e) (hY : ∀ e, e ∈ Y → Ans e.f (e.a.map cvF) (cvF e.r)) {m n : Nat} {f : FuncId} {args : List RV} {r : RV} (h : runOK X T Y m n f args r = true) :
    Ans f (args.map cvF) (cvF r) := ansL hX noF_true hT hY (by intro e he; cases he) h
theorem ansD [Val] {X : FuncId → List Value → Option Value} {F : FuncId → List Value → Option FE} {T : List TE} {Y : List YE} {L : List LE} (hX : XTrue X) (hF : FXTrue F) (hT : ∀ e, e ∈ T → TETrue e) (hY : ∀ e, e ∈ Y → Ans e.f (e.a.map cvF) (cvF e.r))
    (hL : ∀ e, e ∈ L → AnsD e.f (e.d.map fun d => d.map cvF) (cvF e.r)) {m n : Nat} {f : FuncId} {ds : List (List RV)} {r : RV} (h : runOKD X F T Y L m n f ds r = true) :
    AnsD f (ds.map fun d => d.map cvF) (cvF r) := by
  unfold runOKD at h
  split at h
  · rename_i hok
    split at h
    · rename_i r' hr'
      split at h
      · rename_i hfr
        unfold runR at hr'
        split at hr'
        · rename_i h1 hc
          cases hr'
          intro w hr vs hv
          rw [← eqTopR_cv h hfr]
          exact deep_call hm (cfgL_ok X F T Y L) (xokL hX hF hT hY hL) m n f ds hok r' h1 hc hfr w hr vs hv
        · cases hr'
      · cases h
    · cases h
  · cases h
/-- A closed run that answers a fresh slice. -/
noncomputable def freshOK (X : FuncId → List Value → Option Value) (F : FuncId → List Value → Option FE) (m n : Nat) (f : FuncId) (vs : List Value) (q : FE) : Bool :=
  match call Tryz.prog (cfgL X F [] [] []) m n f (vs.map .pl) [] with
  | some (.sl b 0 k s none, h) => match Nat.beq k q.n, Nat.beq s q.s, lkp h b with
    | true, true, some (.cells l e _ false) => match Nat.beq e q.e, plains l with
      | true, some us => eqSL eqS (us.map .pl) (q.l.map .pl)
      | _, _ => false
    | _, _, _ => false
  | _ => false
theorem fresh_ans {X : FuncId → List Value → Option Value} {F : FuncId → List Value → Option FE} (hX : XTrue X) (hF : FXTrue F) {m n : Nat} {f : FuncId} {vs : List Value} {q : FE} (h : freshOK X F m n f vs q = true) : FTrue Tryz.prog ro f vs q := by
  unfold freshOK at h
  split at h
  · rename_i b k s h2 hc
    split at h
    · rename_i l e room hk hs hl
      split at h
      · rename_i us he hp
        have hinj : ∀ a b : List Value, a.map RV.pl = b.map RV.pl → a = b := fun a => by
          induction a with
          | nil => intro b hb; cases b with
            | nil => rfl
            | cons => cases hb
          | cons x a ih => intro b hb; cases b with
            | nil => cases hb
            | cons y b =>
              simp only [List.map_cons, List.cons.injEq, RV.pl.injEq] at hb
              rw [hb.1, ih b hb.2]
        have e1 := hinj _ _ (all2_eq (eqSL_spec (fun _ _ => eqS_eq) _ _ h))
        have hp := plains_spec hp
        subst hp
        obtain ⟨ql, qn, qs, qe⟩ := q
        obtain rfl := Nat.eq_of_beq_eq_true hk
        obtain rfl := Nat.eq_of_beq_eq_true hs
        obtain rfl := Nat.eq_of_beq_eq_true he
        have e1 : us = ql := e1
        subst e1
        exact @fresh_call V0 Tryz.prog (cfgL X F [] [] []) hm (cfgL_ok X F [] [] []) (@xokL V0 X F [] [] [] hX hF (by intro e he; cases he) (by intro e he; cases he) (by intro e he; cases he)) m n f vs b k s us e room h2 hc hl
      · cases h
    · cases h
  · cases h
/-! Runs that read elements of known slices by a name's number. -/
noncomputable def cfgN (X : FuncId → List Value → Option Value) (F : FuncId → List Value → Option FE) (T : List TE) (Y : List YE) (L : List LE) (N : List NE) : Cfg := { ro := ro, ne := [141], mz := [(156, 5)], X := X, T := T, Y := fun f args => if args.all flat then ylook Y f args else none, L := llook L, F := F, N := N }
theorem cfgN_ok (X : FuncId → List Value → Option Value) (F : FuncId → List Value → Option FE) (T : List TE) (Y : List YE) (L : List LE) (N : List NE) : CfgOK Tryz.prog (cfgN X F T Y L N) :=
  ⟨(cfgL_ok X F T Y L).ne, (cfgL_ok X F T Y L).mz⟩
theorem xokN [Val] {X : FuncId → List Value → Option Value} {F : FuncId → List Value → Option FE} {T : List TE} {Y : List YE} {L : List LE} {N : List NE} (hX : XTrue X) (hF : FXTrue F) (hT : ∀ e, e ∈ T → TETrue e) (hY : ∀ e, e ∈ Y → Ans e.f (e.a.map cvF) (cvF e.r))
    (hL : ∀ e, e ∈ L → AnsD e.f (e.d.map fun d => d.map cvF) (cvF e.r)) (hN : ∀ e, e ∈ N → NTrue e) : XOK Tryz.prog (cfgN X F T Y L N) :=
  ⟨(xokL hX hF hT hY hL).f, (xokL hX hF hT hY hL).x, (xokL hX hF hT hY hL).l, (xokL hX hF hT hY hL).y, ⟨hT, hN, (xokL hX hF hT hY hL).t.ll, (xokL hX hF hT hY hL).t.lx, (xokL hX hF hT hY hL).t.la, (xokL hX hF hT hY hL).t.ms, (xokL hX hF hT hY hL).t.ss, (xokL hX hF hT hY hL).t.lp, (xokL hX hF hT hY hL).t.lb, (xokL hX hF hT hY hL).t.lz, (xokL hX hF hT hY hL).t.ex⟩, (xokL hX hF hT hY hL).q, (xokL hX hF hT hY hL).lc, (by intro f args h r h' hu; cases hu)⟩
noncomputable def runOKN (X : FuncId → List Value → Option Value) (F : FuncId → List Value → Option FE) (T : List TE) (Y : List YE) (L : List LE) (N : List NE) (m n : Nat) (f : FuncId) (args : List RV) (r : RV) : Bool :=
  match args.all flat with
  | true => match call Tryz.prog (cfgN X F T Y L N) m n f args [] with
    | some (r', _) => match flat r' with | true => eqTopR r' r | false => false
    | none => false
  | false => false
theorem ansN [Val] {X : FuncId → List Value → Option Value} {F : FuncId → List Value → Option FE} {T : List TE} {Y : List YE} {L : List LE} {N : List NE} (hX : XTrue X) (hF : FXTrue F) (hT : ∀ e, e ∈ T → TETrue e) (hY : ∀ e, e ∈ Y → Ans e.f (e.a.map cvF) (cvF e.r))
    (hL : ∀ e, e ∈ L → AnsD e.f (e.d.map fun d => d.map cvF) (cvF e.r)) (hN : ∀ e, e ∈ N → NTrue e) {m n : Nat} {f : FuncId} {args : List RV} {r : RV} (h : runOKN X F T Y L N m n f args r = true) :
    Ans f (args.map cvF) (cvF r) := by
  unfold runOKN at h
  split at h
  · rename_i hfa
    split at h
    · rename_i r' h1 hc
      split at h
      · rename_i hfr
        intro w hr
        rw [← eqTopR_cv h hfr]
        exact sym_call hm (cfgN_ok X F T Y L N) (xokN hX hF hT hY hL hN) m n f args r' h1 hc hfa hfr w hr
      · cases h
    · cases h
  · cases h
end Go.Proofs.Z

namespace Go.Proofs.Z
open Go Go.RowKit Go.Proofs Go.Ri
/-! A whole number's class: 0: it is 0; 1: from 1 to 3; 2: below 0; 3: above 3. -/
def cls (x : Int) : Nat := if x = 0 then 0 else if x < 0 then 2 else if x > 3 then 3 else 1
def sI (i : Nat) : RV := .sym (.int .i64) i
def lI (n : Int) : RV := .pl (.int .i64 n)
def bR (b : Bool) : RV := .pl (.bool b)
/-- What is known of a name of class c. -/
def entC (i c : Nat) : List TE := [⟨.ieq, sI i, lI 0, bR (Nat.beq c 0)⟩, ⟨.bin .lss, sI i, lI 0, bR (Nat.beq c 2)⟩, ⟨.bin .gtr, sI i, lI 3, bR (Nat.beq c 3)⟩]
theorem cls0 (x : Int) : Nat.beq (cls x) 0 = (x == 0) := by
  by_cases h : x = 0
  · subst h; rfl
  · have e : (x == 0) = false := by simpa using h
    rw [e]; unfold cls; rw [if_neg h]
    split
    · rfl
    · split <;> rfl
theorem cls2 (x : Int) : Nat.beq (cls x) 2 = decide (x < 0) := by
  unfold cls
  by_cases h : x = 0
  · subst h; rfl
  · rw [if_neg h]
    by_cases h2 : x < 0
    · rw [if_pos h2, decide_eq_true h2]; rfl
    · rw [if_neg h2, decide_eq_false h2]; split <;> rfl
theorem cls3 (x : Int) : Nat.beq (cls x) 3 = decide (x > 3) := by
  unfold cls
  by_cases h : x = 0
  · subst h; rfl
  · rw [if_neg h]
    by_cases h2 : x < 0
    · rw [if_pos h2, decide_eq_false (by omega)]; rfl
    · rw [if_neg h2]
      by_cases h3 : x > 3
      · rw [if_pos h3, decide_eq_true h3]; rfl
      · rw [if_neg h3, decide_eq_false h3]; rfl
theorem cls_lt (x : Int) : cls x < 4 := by 
  unfold cls
  split
  · omega
  · split
    · omega
    · split <;> omega
theorem entC_true [Val] (i : Nat) : ∀ e ∈ entC i (cls (Val.I i)), TETrue e := by
  intro e he
  simp only [entC, List.mem_cons, List.not_mem_nil, or_false] at he
  rcases he with rfl | rfl | rfl
  · exact ⟨rfl, by rw [cls0]; exact t_ieq .i64 (Val.I i) 0⟩
  · exact ⟨rfl, by rw [cls2]; exact t_lss .i64 (Val.I i) 0⟩
  · exact ⟨rfl, by rw [cls3]; exact t_gtr .i64 (Val.I i) 3⟩
/-- Does a value of this class have to go. -/
def badC (slots i prev c : Nat) : Bool := (Nat.ble 1 i && !(Nat.beq prev 0)) || Nat.ble slots i || Nat.beq c 2 || Nat.beq c 3
def keep (b : Bool) (i : Nat) : RV := if b then lI 0 else sI i
noncomputable def soundRun (slots c0 c1 c2 c3 : Nat) : Bool := runOK noX (entC 0 c0 ++ (entC 1 c1 ++ (entC 2 c2 ++ entC 3 c3))) [] 1000 10 fSound [.agg [sI 0, sI 1, sI 2, sI 3], lI slots]
  (.agg [keep (badC slots 0 0 c0) 0, keep (badC slots 1 c0 c1) 1, keep (badC slots 2 c1 c2) 2, keep (badC slots 3 c2 c3) 3])
noncomputable def allB (f : Nat → Bool) : Bool := match f 0 with
  | true => match f 1 with
    | true => match f 2 with
      | true => f 3
      | false => false
    | false => false
  | false => false
theorem allB_lt {f : Nat → Bool} (h : allB f = true) (c : Nat) (hc : c < 4) : f c = true := by
  unfold allB at h
  split at h
  · split at h
    · split at h
      · match c, hc with
        | 0, _ => assumption
        | 1, _ => assumption
        | 2, _ => assumption
        | 3, _ => exact h
      · cases h
    · cases h
  · cases h
end Go.Proofs.Z
