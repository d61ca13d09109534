/- A part of the proofs that the laws of layer three answer true for every input. -/
import Derived.Test.YtbacimjjelkfbaaGreatDoorRiE
import Derived.Test.YtbacimjjelkfbaaGreatDoorProg
import Derived.WalkKit
import Derived.KernelRfl
import Derived.Shelf.Strconv.Itoa3
namespace Go.Ri
open Go Go.RowKit
noncomputable def eqAtom : Value → Value → Bool
  | .int k a, .int k' b => if k = k' then a == b else false
  | .bool a, .bool b => a == b
  | .string a, .string b => eqB a.data.toList b.data.toList
  | _, _ => false
noncomputable def eqL (e : Value → Value → Bool) (l : List Value) : List Value → Bool :=
  List.rec (motive := fun _ => List Value → Bool) (fun m => match m with | [] => true | _ => false) (fun x _ ih m => match m with | [] => false | y :: m => match e x y with | true => ih m | false => false) l
noncomputable def eqOne : Value → Value → Bool
  | .agg a, .agg b => eqL eqAtom a.toList b.toList
  | a, b => eqAtom a b
noncomputable def eqTop : Value → Value → Bool
  | .tuple a, .tuple b => eqL eqOne a.toList b.toList
  | a, b => eqOne a b
theorem eqAtom_eq {a b : Value} (h : eqAtom a b = true) : a = b := by
  unfold eqAtom at h
  split at h
  · split at h
    · rename_i hk; subst hk; rw [beq_iff_eq.mp h]
    · cases h
  · rw [beq_iff_eq.mp h]
  · rename_i x y
    rw [eqB_eq] at h
    have := beq_iff_eq.mp h
    congr 1
    exact ByteArray.ext (Array.ext' this)
  · cases h
theorem eqL_eq {e : Value → Value → Bool} (he : ∀ a b, e a b = true → a = b) : ∀ l m, eqL e l m = true → l = m
  | [], [], _ => rfl
  | [], _ :: _, h => by cases h
  | _ :: _, [], h => by cases h
  | x :: l, y :: m, h => by
    have h : (match e x y with | true => eqL e l m | false => false) = true := h
    split at h
    · rename_i hx; rw [he _ _ hx, eqL_eq he l m h]
    · cases h
theorem eqOne_eq {a b : Value} (h : eqOne a b = true) : a = b := by
  unfold eqOne at h
  split at h
  · rw [Array.ext' (eqL_eq (fun _ _ => eqAtom_eq) _ _ h)]
  · exact eqAtom_eq h
theorem eqTop_eq {a b : Value} (h : eqTop a b = true) : a = b := by
  unfold eqTop at h
  split at h
  · rw [Array.ext' (eqL_eq (fun _ _ => eqOne_eq) _ _ h)]
  · exact eqOne_eq h
structure Ent where
  f : FuncId
  a : List Value
  r : Value
noncomputable def look (T : List Ent) (f : FuncId) (vs : List Value) : Option Value :=
  List.rec (motive := fun _ => Option Value) none (fun e _ ih => match Nat.beq e.f f with
    | true => match eqL eqOne e.a vs with | true => some e.r | false => ih
    | false => ih) T
theorem look_mem : ∀ (T : List Ent) (f : FuncId) (vs : List Value) (v : Value), look T f vs = some v → ∃ e, e ∈ T ∧ e.f = f ∧ e.a = vs ∧ e.r = v
  | [], _, _, _, h => by cases h
  | e :: T, f, vs, v, h => by
    have h : (match Nat.beq e.f f with | true => (match eqL eqOne e.a vs with | true => some e.r | false => look T f vs) | false => look T f vs) = some v := h
    split at h
    · rename_i h1
      split at h
      · rename_i h2
        cases h
        exact ⟨e, List.mem_cons_self, Nat.eq_of_beq_eq_true h1, eqL_eq (fun _ _ => eqOne_eq) _ _ h2, rfl⟩
      · obtain ⟨x, hx, r⟩ := look_mem T f vs v h
        exact ⟨x, List.mem_cons_of_mem _ hx, r⟩
    · obtain ⟨x, hx, r⟩ := look_mem T f vs v h
      exact ⟨x, List.mem_cons_of_mem _ hx, r⟩
/-- An entry is the answer of the call that it names. -/
noncomputable def entOK (P : Program) (g : Cfg) (m n : Nat) (e : Ent) : Bool :=
  match call P g m n e.f (e.a.map .pl) [] with
  | some (.pl v, _) => eqTop v e.r
  | _ => false
noncomputable def tabOK (P : Program) (g : Cfg) (m n : Nat) (T : List Ent) : Bool :=
  List.rec (motive := fun _ => Bool) true (fun e _ ih => match entOK P g m n e with | true => ih | false => false) T
theorem tabOK_mem {P : Program} {g : Cfg} {m n : Nat} : ∀ (T : List Ent), tabOK P g m n T = true → ∀ e, e ∈ T → entOK P g m n e = true
  | e :: T, h, x, hx => by
    have h : (match entOK P g m n e with | true => tabOK P g m n T | false => false) = true := h
    split at h
    · rename_i h1
      cases hx with
      | head => exact h1
      | tail _ hx => exact tabOK_mem T h x hx
    · cases h
/-- What the table's calls answer. -/
def EntTrue (P : Program) (ro : Ro) (e : Ent) : Prop := ∀ w, RoIn ro w → Calls P e.f e.a.toArray w (fun x w' => x = .returned e.r ∧ Below w.heap.size w w')
theorem ent_true {P : Program} {g : Cfg} (hm : P.follows .mixedOrders = true) (G : CfgOK P g) (hX : @XOK V0 P g) {m n : Nat} {e : Ent} (h : entOK P g m n e = true) : EntTrue P g.ro e := by
  unfold entOK at h
  split at h
  · rename_i v h' hc
    intro w hr
    have := @closed_call V0 P g hm G hX m n e.f e.a v h' hc w hr
    rw [eqTop_eq h] at this
    exact this
  · cases h
theorem tab_true {P : Program} {g : Cfg} (hm : P.follows .mixedOrders = true) (G : CfgOK P g) (hX : @XOK V0 P g) {m n : Nat} {T : List Ent} (h : tabOK P g m n T = true) : ∀ e, e ∈ T → EntTrue P g.ro e :=
  fun e he => ent_true hm G hX (tabOK_mem T h e he)
end Go.Ri

namespace Go.Proofs.Z
open Go Go.RowKit Go.Proofs Go.Ri

def roCells : List Value := [.string ⟨#[]⟩, .string ⟨#[115, 108, 105, 116]⟩, .string ⟨#[102, 111, 114, 107, 101, 100]⟩, .string ⟨#[104, 111, 108, 108, 111, 119, 101, 100]⟩, .string ⟨#[99, 114, 111, 112, 112, 101, 100]⟩]
def roEdge : List Value := [.string ⟨#[117, 112, 112, 101, 114]⟩, .string ⟨#[108, 111, 119, 101, 114]⟩]
def roSlot : List Value := [.string ⟨#[]⟩, .string ⟨#[110, 111, 116, 99, 104]⟩, .string ⟨#[98, 105, 116]⟩, .string ⟨#[107, 101, 121]⟩]
def roKinds : List Value := [.string ⟨#[]⟩, .int .i64 0, .int .i64 0, .string ⟨#[102, 114, 111, 115, 116]⟩, .int .i64 1, .int .i64 1, .string ⟨#[116, 101, 97, 114]⟩, .int .i64 2, .int .i64 3, .string ⟨#[114, 117, 110]⟩, .int .i64 2, .int .i64 2, .string ⟨#[99, 108, 111, 115, 101]⟩, .int .i64 1, .int .i64 3, .string ⟨#[104, 101, 97, 108]⟩, .int .i64 1, .int .i64 1, .string ⟨#[115, 104, 117, 116]⟩, .int .i64 2, .int .i64 4, .string ⟨#[119, 101, 97, 114]⟩, .int .i64 2, .int .i64 4]
def deBr : List Int := [0, 1, 28, 2, 29, 14, 24, 3, 30, 22, 20, 15, 25, 17, 4, 8, 31, 27, 13, 23, 21, 19, 16, 7, 26, 12, 18, 6, 11, 5, 10, 9]
def deCells : List Value := [.int .u8 0, .int .u8 1, .int .u8 28, .int .u8 2, .int .u8 29, .int .u8 14, .int .u8 24, .int .u8 3, .int .u8 30, .int .u8 22, .int .u8 20, .int .u8 15, .int .u8 25, .int .u8 17, .int .u8 4, .int .u8 8, .int .u8 31, .int .u8 27, .int .u8 13, .int .u8 23, .int .u8 21, .int .u8 19, .int .u8 16, .int .u8 7, .int .u8 26, .int .u8 12, .int .u8 18, .int .u8 6, .int .u8 11, .int .u8 5, .int .u8 10, .int .u8 9]
def powCells : List Value := Lib.pow10Tab.map fun z => .int .u64 z
abbrev ro : Ro := [(0, roCells), (1, roEdge), (2, roSlot), (3, roKinds), (4, powCells), (6, deCells)]
/-- What is known of a call over slices that are only read. -/
structure LE where
  f : FuncId
  d : List (List RV)
  r : RV
noncomputable def eqDs (l : List (List RV)) : List (List RV) → Bool :=
  List.rec (motive := fun _ => List (List RV) → Bool) (fun m => match m with | [] => true | _ => false) (fun x _ ih m => match m with | [] => false | y :: m => match eqSL eqF1 x y with | true => ih m | false => false) l
noncomputable def llook (T : List LE) (f : FuncId) (ds : List (List RV)) : Option RV :=
  List.rec (motive := fun _ => Option RV) none (fun e _ ih => match Nat.beq e.f f with
    | true => match eqDs e.d ds with | true => some e.r | false => ih
    | false => ih) T
noncomputable def cfgL (X : FuncId → List Value → Option Value) (F : FuncId → List Value → Option FE) (T : List TE) (Y : List YE) (L : List LE) : Cfg := { ro := ro, ne := [], mz := [], X := X, T := T, Y := fun f args => if args.all flat then ylook Y f args else none, L := llook L, F := F }
def noF : FuncId → List Value → Option FE := fun _ _ => none
noncomputable def cfg (X : FuncId → List Value → Option Value) (T : List TE) (Y : List YE) : Cfg := cfgL X noF T Y []
theorem hm : Tryz.prog.follows .mixedOrders = true := by kernel_rfl
theorem cfgL_ok (X : FuncId → List Value → Option Value) (F : FuncId → List Value → Option FE) (T : List TE) (Y : List YE) (L : List LE) : CfgOK Tryz.prog (cfgL X F T Y L) where
  ne := by
    intro f hf x w
    cases hf
  mz := by
    intro f e hf n w h0 h1
    cases hf
theorem cfg_ok (X : FuncId → List Value → Option Value) (T : List TE) (Y : List YE) : CfgOK Tryz.prog (cfg X T Y) := cfgL_ok X noF T Y []
/-- The function answers v, in every world that holds the table. -/
def Ans (f : FuncId) (args : List Value) (v : Value) : Prop := ∀ w, RoIn ro w → Calls Tryz.prog f args.toArray w (fun e w' => e = .returned v ∧ Below w.heap.size w w')
def XTrue (X : FuncId → List Value → Option Value) : Prop := ∀ f vs v, X f vs = some v → Ans f vs v
/-- The same, over slices with what they hold. -/
def AnsD (f : FuncId) (ds : List (List Value)) (v : Value) : Prop := ∀ w, RoIn ro w → ∀ vs, All2 (DVal w) ds vs → Calls Tryz.prog f vs.toArray w (fun e w' => e = .returned v ∧ Below w.heap.size w w')
theorem eqDs_cvF [Val] : ∀ {l m : List (List RV)}, eqDs l m = true → (l.map fun d => d.map cvF) = m.map fun d => d.map cvF
  | [], [], _ => rfl
  | [], _ :: _, h => by cases h
  | _ :: _, [], h => by cases h
  | x :: l, y :: m, h => by
    have h : (match eqSL eqF1 x y with | true => eqDs l m | false => false) = true := h
    split at h
    · rename_i hx
      rw [List.map_cons, List.map_cons, eqSL_cvF hx, eqDs_cvF h]
    · cases h
theorem llook_mem [Val] : ∀ (T : List LE) (f : FuncId) (ds : List (List RV)) (r : RV), llook T f ds = some r → ∃ e, e ∈ T ∧ e.f = f ∧ (e.d.map fun d => d.map cvF) = (ds.map fun d => d.map cvF) ∧ e.r = r
  | [], _, _, _, h => by cases h
  | e :: T, f, ds, r, h => by
    have h : (match Nat.beq e.f f with
      | true => match eqDs e.d ds with | true => some e.r | false => llook T f ds
      | false => llook T f ds) = some r := h
    have go : llook T f ds = some r → ∃ e', e' ∈ e :: T ∧ e'.f = f ∧ (e'.d.map fun d => d.map cvF) = (ds.map fun d => d.map cvF) ∧ e'.r = r := fun h => by
      obtain ⟨e', he, q⟩ := llook_mem T f ds r h
      exact ⟨e', List.mem_cons_of_mem _ he, q⟩
    split at h
    · rename_i h1
      split at h
      · rename_i h2
        cases h
        exact ⟨e, List.mem_cons_self, Nat.eq_of_beq_eq_true h1, eqDs_cvF h2, rfl⟩
      · exact go h
    · exact go h
def FXTrue (F : FuncId → List Value → Option FE) : Prop := ∀ f vs q, F f vs = some q → FTrue Tryz.prog ro f vs q
theorem noF_true : FXTrue noF := fun _ _ _ h => by cases h
theorem xokL [Val] {X : FuncId → List Value → Option Value} {F : FuncId → List Value → Option FE} {T : List TE} {Y : List YE} {L : List LE} (hX : XTrue X) (hF : FXTrue F) (hT : ∀ e, e ∈ T → TETrue e) (hY : ∀ e, e ∈ Y → Ans e.f (e.a.map cvF) (cvF e.r))
    (hL : ∀ e, e ∈ L → AnsD e.f (e.d.map fun d => d.map cvF) (cvF e.r)) : XOK Tryz.prog (cfgL X F T Y L) where
  f := hF
  x := fun f vs v h w hr => hX f vs v h w hr
  y := y_ok (T := Y) rfl fun e he w hr => hY e he w hr
  t := ⟨hT, (by intro e he; cases he), (by intro e he; cases he), (by intro e he; cases he), (by intro e he; cases he), (by intro e he; cases he), (by intro e he; cases he), (by intro e he; cases he), (by intro e he; cases he), (by intro e he; cases he), (by intro f args r h; cases h), (by intro e he; cases he), (by intro e he; cases he), (by intro e he; cases he), (by intro e he; cases he), (by intro e he; cases he), (by intro e he; cases he), (by intro e he; cases he), (by intro e he; cases he), (by intro e he; cases he), (by intro e he; cases he), (by intro e he; cases he), (by intro e he; cases he)⟩
  q := by intro f args r h2 hq; cases hq
  lc := by intro f ds r hq; cases hq
  u := by intro f args h r h' hu; cases hu
  l := fun f ds r hl hfr base w0 E h w args vs H hd hv => by
    obtain ⟨e, he, rfl, e2, rfl⟩ := llook_mem L f ds r hl
    have hdv := deeps_dv H hd hv
    rw [← e2] at hdv
    exact (hL e he w H.roIn vs hdv).mono fun x w' ⟨h1, h2⟩ => ⟨⟨_, h1, rel_cvF hfr⟩, h2⟩
theorem xok [Val] {X : FuncId → List Value → Option Value} {T : List TE} {Y : List YE} (hX : XTrue X) (hT : ∀ e, e ∈ T → TETrue e) (hY : ∀ e, e ∈ Y → Ans e.f (e.a.map cvF) (cvF e.r)) : XOK Tryz.prog (cfg X T Y) :=
  xokL hX noF_true hT hY (by intro e he; cases he)
def noX : FuncId → List Value → Option Value := fun _ _ => none
theorem noX_true : XTrue noX := fun _ _ _ h => by cases h
/-- A run with names. -/
noncomputable def runR (X : FuncId → List Value → Option Value) (F : FuncId → List Value → Option FE) (T : List TE) (Y : List YE) (L : List LE) (m n : Nat) (f : FuncId) (args : List RV) (h : RH) : Option RV :=
  match call Tryz.prog (cfgL X F T Y L) m n f args h with
  | some (r, _) => some r
  | none => none
noncomputable def eqTopR (x y : RV) : Bool :=
  match x, y with
  | .tup l, .tup m => eqSL eqF1 l m
  | .tup l, .pl (.tuple vs) => eqSL eqF1 l (vs.toList.map .pl)
  | .pl (.tuple us), .tup m => match m.all flat1 with | true => eqSL eqF1 (us.toList.map .pl) m | false => false
  | .pl (.tuple us), .pl (.tuple vs) => eqSL eqF1 (us.toList.map .pl) (vs.toList.map .pl)
  | x, y => eqF1 x y
noncomputable def runOKL (X : FuncId → List Value → Option Value) (F : FuncId → List Value → Option FE) (T : List TE) (Y : List YE) (L : List LE) (m n : Nat) (f : FuncId) (args : List RV) (r : RV) : Bool :=
  match args.all flat with
  | true => match runR X F T Y L m n f args [] with
    | some r' => match flat r' with | true => eqTopR r' r | false => false
    | none => false
  | false => false
noncomputable def runOK (X : FuncId → List Value → Option Value) (T : List TE) (Y : List YE) (m n : Nat) (f : FuncId) (args : List RV) (r : RV) : Bool := runOKL X noF T Y [] m n f args r
theorem cv1_pls [Val] (vs : List Value) : vs.map (cv1 ∘ RV.pl) = vs := by
  induction vs with
  | nil => rfl
  | cons v vs ih => rw [List.map_cons, ih]; rfl
theorem eqTopR_cv [Val] {x y : RV} (h : eqTopR x y = true) (hx : flat x = true) : cvF x = cvF y := by
  have lists : ∀ {l m : List RV}, eqSL eqF1 l m = true → (∀ r ∈ l, cvF r = cv1 r) → (∀ r ∈ m, cvF r = cv1 r) → l.map cv1 = m.map cv1 := by
    intro l m h h1 h2
    have := eqSL_cvF h
    rw [List.map_congr_left h1, List.map_congr_left h2] at this
    exact this
  have pl1 : ∀ vs : List Value, ∀ r ∈ vs.map RV.pl, cvF r = cv1 r := by
    intro vs r hr
    obtain ⟨v, _, rfl⟩ := List.mem_map.1 hr
    rfl
  have fl1 : ∀ l : List RV, l.all flat1 = true → ∀ r ∈ l, cvF r = cv1 r := by
    intro l hl r hr
    have := List.all_eq_true.1 hl r hr
    cases r with
    | tup l => cases this
    | _ => rfl
  have tup2 : ∀ {l m : List RV}, l.all flat1 = true → eqSL eqF1 l m = true → ∀ r ∈ m, cvF r = cv1 r := by
    intro l m hl h r hr
    have := eqSL_spec (R := fun x y => eqF1 x y = true) (fun _ _ h => h) l m h
    clear h
    induction this with
    | nil => cases hr
    | cons h1 _ ih =>
      simp only [List.all_cons, Bool.and_eq_true] at hl
      cases hr with
      | head =>
        cases r with
        | tup q =>
          rename_i a _ _ _
          cases a <;> first | (cases h1; done) | (cases hl.1; done) | (rename_i v; cases v <;> first | (cases h1; done) | (rename_i o _ _; cases o <;> cases h1))
        | _ => rfl
      | tail _ hr => exact ih hl.2 hr
  unfold eqTopR at h
  split at h
  · rename_i l m
    show Value.tuple _ = Value.tuple _
    rw [lists h (fl1 l hx) (tup2 hx h)]
  · rename_i l vs
    have := lists h (fl1 l hx) (pl1 _)
    show Value.tuple _ = Value.tuple _
    rw [this, List.map_map, cv1_pls]
  · rename_i us m
    split at h
    · rename_i hm
      have := lists h (pl1 _) (fl1 m hm)
      rw [List.map_map, cv1_pls] at this
      show Value.tuple _ = Value.tuple _
      rw [← this]
    · cases h
  · rename_i us vs
    have := lists h (pl1 _) (pl1 _)
    rw [List.map_map, List.map_map, cv1_pls, cv1_pls] at this
    show Value.tuple _ = Value.tuple _
    rw [Array.ext' this]
  · exact eqF1_cv h
/-- What a run with names answers, the function answers. -/
theorem ansL [Val] {X : FuncId → List Value → Option Value} {F : FuncId → List Value → Option FE} {T : List TE} {Y : List YE} {L : List LE} (hX : XTrue X) (hF : FXTrue F) (hT : ∀ e, e ∈ T → TETrue e) (hY : ∀ e, e ∈ Y → Ans e.f (e.a.map cvF) (cvF e.r))
    (hL : ∀ e, e ∈ L → AnsD e.f (e.d.map fun d => d.map cvF) (cvF e.r)) {m n : Nat} {f : FuncId} {args : List RV} {r : RV} (h : runOKL X F T Y L m n f args r = true) :
    Ans f (args.map cvF) (cvF r) := by
  unfold runOKL at h
  split at h
  · rename_i hfa
    split at h
    · rename_i r' hr'
      split at h
      · rename_i hfr
        unfold runR at hr'
        split at hr'
        · rename_i h1 hc
          cases hr'
          intro w hr
          rw [← eqTopR_cv h hfr]
          exact sym_call hm (cfgL_ok X F T Y L) (xokL hX hF hT hY hL) m n f args r' h1 hc hfa hfr w hr
        · cases hr'
      · cases h
    · cases h
  · cases h
theorem ans [Val] {X : FuncId → List Value → Option Value} {T : List TE} {Y : List YE} (hX : XTrue X) (hT : ∀ e, e ∈ T → TETrue e) (hY : ∀ e, e ∈ Y → Ans e.f (e.a.map cvF) (cvF e.r)) {m n : Nat} {f : FuncId} {args : List RV} {r : RV} (h : runOK X T Y m n f args r = true) :
    Ans f (args.map cvF) (cvF r) := ansL hX noF_true hT hY (by intro e he; cases he) h
/-! Runs that read elements of known slices by a name's number. -/
end Go.Proofs.Z

namespace Go.Proofs.Z
open Go Go.RowKit Go.Proofs Go.Ri
def sI (i : Nat) : RV := .sym (.int .i64) i
def lI (n : Int) : RV := .pl (.int .i64 n)
def bR (b : Bool) : RV := .pl (.bool b)
def sB (i : Nat) : RV := .sym .bool i
def sT (i : Nat) : RV := .sym .str i
def intV (n : Int) : Value := .int .i64 n
/-- Names for whole numbers and truth values. -/
abbrev VE (x : Nat → Int) (y : Nat → Bool) : Val := ⟨x, y, fun _ => ⟨#[]⟩, fun _ => ⟨.int .i64 0, rfl⟩, fun _ => [], fun _ => undef⟩
noncomputable def all2 (f : Bool → Bool) : Bool := match f true with
  | true => f false
  | false => false
theorem all2_all {f : Bool → Bool} (h : all2 f = true) (b : Bool) : f b = true := by
  unfold all2 at h
  split at h
  · rename_i h1
    cases b
    · exact h
    · exact h1
  · cases h
end Go.Proofs.Z
