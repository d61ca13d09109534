/- An interpreter for calls whose arguments are closed or names, and its soundness: a part of the proofs. -/
import Derived.WalkKit
import Derived.Orders
import Derived.Deep.Quiet
import Derived.Deep.Draws
import Derived.Laws.BytesString
import Derived.Lib.ConvBytes
import Derived.Lib.AtoiErrMem
import Derived.RangeFuncNested
import Derived.LoopNIn
import Derived.OrdersIn
import Derived.TacticsIn
/-! An interpreter over a small heap of its own, for calls whose arguments are closed. -/
namespace Go.Ri
open Go

/-- Kinds of names that stand for a value. -/
inductive TK where
  | int (k : IntKind)
  | bool
  | str
  | any
  deriving Inhabited, DecidableEq

inductive RV where
  | pl (v : Value)
  | sym (k : TK) (i : Nat)
  | el (b i s : Nat)
  | ptr (b off : Nat)
  | sl (b off len sz : Nat) (cap : Option Nat)
  | fn (f : Fn) (first captured : List RV)
  | agg (l : List RV)
  | tup (l : List RV)
  | slN (b i s : Nat)
  | slA (b i s : Nat)
  | elA (b i s : Nat)
  | elF (b i s o : Nat)
  | elB (b i s o : Nat)
  | slL (i s : Nat)
  | slX (b i k j s : Nat)
  | elX (b i k j n s : Nat)
  | ifc (b t : Nat)
  | slP (b i j s a : Nat)
  | wild (i : Nat)
  | yld (b : Nat)
  | gst (b j : Nat)
  deriving Inhabited

/-- How code is left. -/
inductive Ex where
  | normal
  | exit (id : Nat)
  | ret
  deriving Inhabited, DecidableEq

inductive RO where
  | cells (l : List RV) (elem : TypeId) (room froz : Bool)
  | iter (s : ByteArray) (pos : Nat)
  | lent (l : List RV) (elem : TypeId)
  | lst (i : Nat) (elem : TypeId) (mine : Bool)
  | lstA (i : Nat)
  | lstQ (i : Nat) (elem : TypeId) (s : Nat)
  | lstL (i : Nat) (elem : TypeId) (s : Nat)
  | lstB (i : Nat) (s : Nat)
  | lp (st : Nat) (pe : Option Ex)
  deriving Inhabited

abbrev RH := List (Option RO)
abbrev Ro := List (Nat × List Value)

/-- What is known of an operation on names. -/
inductive TC where
  | bin (op : BinOp)
  | ieq
  | beq
  | seq
  | idx
  | len
  | truth
  | not
  | conv (k : IntKind)
  | inb
  deriving Inhabited
structure TE where
  c : TC
  x : RV
  y : RV
  r : RV

/-- What an element by a name's number is of known cells. -/
structure NE where
  l : List RV
  i : Nat
  r : List RV
/-- A fresh slice that a closed call answers: its cells, its length, an element's cells, the element's type. -/
structure FE where
  l : List Value
  n : Nat
  s : Nat
  e : TypeId
/-- A named list's length, in elements of so many cells. -/
structure LNE where
  i : Nat
  s : Nat
  r : RV
/-- The element of a named list at a name's number. -/
structure LEE where
  l : Nat
  i : Nat
  r : List RV
/-- A named list with cells behind it. -/
structure LAE where
  i : Nat
  cs : List RV
  j : Nat
/-- A string of named bytes. -/
structure MSE where
  cs : List RV
  j : Nat
/-- A part of a string between names. -/
structure SSE where
  s : RV
  lo : RV
  hi : RV
  r : RV
/-- A part of a named list, between names; a is the name of the part's first number. -/
structure LPE where
  i : Nat
  s : Nat
  lo : Option RV
  hi : Option RV
  j : Nat
  a : Nat
/-- A named list behind nothing or behind a named list. -/
structure LBE where
  i : Option Nat
  j : Nat
  k : Nat
/-- A made list: the name of its length, an element's zero, the list. -/
structure LME where
  n : Nat
  z : RV
  j : Nat
/-- A list of lists with a list behind it: the list (none: nothing yet), the list behind it, the list then. -/
structure LNL where
  i : Option Nat
  j : Nat
  k : Nat
/-- An element of a list of lists, by a name's number: the list, the name, the list that it is. -/
structure LNX where
  i : Nat
  n : Nat
  j : Nat
/-- A list put into a list of lists, by a name's number: the list of lists, the name, the list, the list of lists then. -/
structure LNP where
  i : Nat
  n : Nat
  j : Nat
  k : Nat
/-- A named list with one element changed: the list, the number's name, what is put, the list then. -/
structure LWE where
  i : Nat
  k : Nat
  x : RV
  j : Nat
/-- A named list with a cell of an element changed: the list, the number's name, an element's cells, the cell, what is put, the list then. -/
structure LFE where
  i : Nat
  k : Nat
  s : Nat
  o : Nat
  x : RV
  j : Nat
/-- Where two ways meet again, by the name of what they part by: values, and lists, of the way where it is true, of the way where it is false, and what they are called then. -/
structure JE where
  i : Nat
  vs : List (RV × RV × RV) := []
  ls : List (Nat × Nat × Nat) := []
/-- What is known of a program: package-level variables that are only read; functions without a Go body; closed answers of some functions. -/
structure Cfg where
  N : List NE := []
  ro : Ro
  ne : List FuncId
  mz : List (FuncId × TypeId)
  X : FuncId → List Value → Option Value
  T : List TE := []
  Y : FuncId → List RV → Option RV := fun _ _ => none
  L : FuncId → List (List RV) → Option RV := fun _ _ => none
  F : FuncId → List Value → Option FE := fun _ _ => none
  LL : List LNE := []
  LX : List LEE := []
  LA : List LAE := []
  LC : FuncId → List RV → Option RV := fun _ _ => none
  LNA : List LNL := []
  LNE : List LNX := []
  LNW : List LNP := []
  LNV : List LNP := []
  LF : List LFE := []
  MS : List MSE := []
  SS : List SSE := []
  EX : FuncId → List RV → Option RV := fun _ _ => none
  LP : List LPE := []
  LB : List LBE := []
  LZ : List Nat := []
  Q : FuncId → List RV → Option (RV × RH) := fun _ _ => none
  U : FuncId → List RV → RH → Option (RV × RH) := fun _ _ _ => none
  LQ : List (Nat × List RV) := []
  IZ : List (Nat × Nat) := []
  LM : List LME := []
  LW : List LWE := []
  OC : List Nat := []
  BS : List (Nat × Nat) := []
  J : List JE := []

noncomputable def quiet (P : Program) {α : Type} (s : Sem α) : Option α :=
  Sem.rec (motive := fun _ => Option α) (fun a => some a) (fun _ _ _ _ => none) (fun _ _ _ _ _ => none) (fun _ _ _ => none) (fun _ _ _ => none) (fun _ _ _ _ => none) (fun _ _ _ => none)
    (fun _ _ _ => none) (fun _ _ _ _ => none) (fun _ _ _ => none) (fun _ _ _ => none) (fun _ ih => ih P) (fun _ _ ih => ih) (fun _ => none) s

def RV.isPl : RV → Bool
  | .pl _ => true
  | _ => false
def RV.v : RV → Value
  | .pl v => v
  | _ => undef

noncomputable def nth (l : List RV) : Nat → RV :=
  List.rec (motive := fun _ => Nat → RV) (fun _ => .pl undef) (fun x _ ih i => Nat.rec (motive := fun _ => RV) x (fun j _ => ih j) i) l
noncomputable def ev (t : List RV) : Operand → RV
  | .tmp i => nth t i
  | .const v => .pl v
  | .global g => .pl (.pointer (some ⟨g, 0, none⟩))
  | .func f => .pl (.func (.func f) #[] #[])

noncomputable def plains (l : List RV) : Option (List Value) :=
  List.rec (motive := fun _ => Option (List Value)) (some []) (fun x _ ih => match x with
    | .pl v => match ih with | some vs => some (v :: vs) | none => none
    | _ => none) l

noncomputable def mkAgg (l : List RV) : RV := match plains l with | some vs => .pl (.agg vs.toArray) | none => .agg l
noncomputable def mkTup (l : List RV) : RV := match plains l with | some vs => .pl (.tuple vs.toArray) | none => .tup l
def cellsOf : RV → List RV
  | .pl v => v.cells.toList.map .pl
  | .agg l => l
  | r => [r]
def one : RV → Bool
  | .pl v => v.oneCell'
  | .agg _ => false
  | .tup _ => false
  | .wild _ => false
  | .gst _ _ => false
  | _ => true
def isW : RV → Bool
  | .wild _ => true
  | .gst _ _ => true
  | _ => false

def binCode : BinOp → Nat
  | .add => 0 | .sub => 1 | .mul => 2 | .quo => 3 | .rem => 4 | .and => 5 | .or => 6 | .xor => 7 | .shl => 8 | .shr => 9 | .andNot => 10
  | .eql => 11 | .neq => 12 | .lss => 13 | .leq => 14 | .gtr => 15 | .geq => 16
def kindCode : IntKind → Nat
  | .i8 => 0 | .i16 => 1 | .i32 => 2 | .i64 => 3 | .u8 => 4 | .u16 => 5 | .u32 => 6 | .u64 => 7
def tcCode : TC → Nat
  | .bin op => binCode op
  | .ieq => 20 | .beq => 21 | .seq => 22 | .idx => 23 | .len => 24 | .truth => 25 | .not => 26
  | .conv k => 30 + kindCode k
  | .inb => 27
def tkCode : TK → Nat
  | .int k => kindCode k
  | .bool => 20 | .str => 21 | .any => 22
noncomputable def sameBs (l : List UInt8) : List UInt8 → Bool :=
  List.rec (motive := fun _ => List UInt8 → Bool) (fun r => match r with | [] => true | _ :: _ => false)
    (fun x _ ih r => match r with | [] => false | y :: r => match Nat.beq x.toNat y.toNat with | true => ih r | false => false) l
/-- Are two scalars the same? -/
noncomputable def eqS (x y : RV) : Bool :=
  match x, y with
  | .sym k i, .sym k' j => match Nat.beq i j with | true => Nat.beq (tkCode k) (tkCode k') | false => false
  | .pl (.int k a), .pl (.int k' b) => match Nat.beq (kindCode k) (kindCode k') with | true => a == b | false => false
  | .pl (.bool a), .pl (.bool b) => a == b
  | .pl (.string a), .pl (.string b) => sameBs a.data.toList b.data.toList
  | .pl (.slice none a b), .pl (.slice none c d) => match Nat.beq a c with | true => Nat.beq b d | false => false
  | _, _ => false
noncomputable def tlook (T : List TE) (c : TC) (x y : RV) : Option RV :=
  List.rec (motive := fun _ => Option RV) none (fun e _ ih => match Nat.beq (tcCode e.c) (tcCode c) with
    | true => match eqS e.x x with
      | true => match eqS e.y y with | true => some e.r | false => ih
      | false => ih
    | false => ih) T
def isSym : RV → Bool
  | .sym _ _ => true
  | _ => false
def flat0 : RV → Bool
  | .pl _ => true
  | .sym _ _ => true
  | _ => false
def flat1 : RV → Bool
  | .agg l => l.all flat0
  | r => flat0 r
def flat : RV → Bool
  | .tup l => l.all flat1
  | r => flat1 r

/-! Forcing: each of these is 'k' at its argument; the kernel meets the argument written out. -/
section
variable {β : Type}
def fNat (n : Nat) (k : Nat → β) : β := match n with | 0 => k 0 | m + 1 => k (m + 1)
theorem fNat_eq (n : Nat) (k : Nat → β) : fNat n k = k n := by cases n <;> rfl
def fInt (n : Int) (k : Int → β) : β := match n with | .ofNat m => fNat m fun m => k (.ofNat m) | .negSucc m => fNat m fun m => k (.negSucc m)
theorem fInt_eq (n : Int) (k : Int → β) : fInt n k = k n := by cases n <;> simp only [fInt, fNat_eq]
def fBool (b : Bool) (k : Bool → β) : β := match b with | true => k true | false => k false
theorem fBool_eq (b : Bool) (k : Bool → β) : fBool b k = k b := by cases b <;> rfl
noncomputable def fSpine {α : Type} (l : List α) : (List α → β) → β :=
  List.rec (motive := fun _ => (List α → β) → β) (fun k => k []) (fun x _ ih k => ih fun l' => k (x :: l')) l
theorem fSpine_eq {α : Type} : ∀ (l : List α) (k : List α → β), fSpine l k = k l
  | [], _ => rfl
  | x :: l, k => fSpine_eq l fun l' => k (x :: l')
noncomputable def fList {α : Type} (f : α → (α → β) → β) (l : List α) : (List α → β) → β :=
  List.rec (motive := fun _ => (List α → β) → β) (fun k => k []) (fun x _ ih k => f x fun x' => ih fun l' => k (x' :: l')) l
theorem fList_eq {α : Type} (f : α → (α → β) → β) (hf : ∀ x k, f x k = k x) : ∀ (l : List α) (k : List α → β), fList f l k = k l
  | [], _ => rfl
  | x :: l, k => (hf x fun x' => fList f l fun l' => k (x' :: l')).trans (fList_eq f hf l fun l' => k (x :: l'))
def fByte (b : UInt8) (k : UInt8 → β) : β := fNat b.toNat fun n => k (UInt8.ofNat n)
theorem fByte_eq (b : UInt8) (k : UInt8 → β) : fByte b k = k b := by simp only [fByte, fNat_eq, UInt8.ofNat_toNat]
noncomputable def fStr (s : ByteArray) (k : ByteArray → β) : β := fList fByte s.data.toList fun l => k ⟨l.toArray⟩
theorem fStr_eq (s : ByteArray) (k : ByteArray → β) : fStr s k = k s := by
  rw [fStr, fList_eq _ (fun x k => fByte_eq x k)]
noncomputable def fAtom (v : Value) (k : Value → β) : β :=
  match v with
  | .int j n => fInt n fun n => k (.int j n)
  | .bool b => fBool b fun b => k (.bool b)
  | .string s => fStr s fun s => k (.string s)
  | .slice none n c => fNat n fun n => fNat c fun c => k (.slice none n c)
  | v => k v
theorem fAtom_eq (v : Value) (k : Value → β) : fAtom v k = k v := by
  unfold fAtom
  split <;> simp only [fInt_eq, fBool_eq, fStr_eq, fNat_eq]
noncomputable def fVal1 (v : Value) (k : Value → β) : β :=
  match v with
  | .agg cs => fList fAtom cs.toList fun l => k (.agg l.toArray)
  | v => fAtom v k
theorem fVal1_eq (v : Value) (k : Value → β) : fVal1 v k = k v := by
  unfold fVal1
  split
  · rw [fList_eq _ (fun x k => fAtom_eq x k)]
  · exact fAtom_eq _ _
noncomputable def fVal (v : Value) (k : Value → β) : β :=
  match v with
  | .tuple cs => fList fVal1 cs.toList fun l => k (.tuple l.toArray)
  | v => fVal1 v k
theorem fVal_eq (v : Value) (k : Value → β) : fVal v k = k v := by
  unfold fVal
  split
  · rw [fList_eq _ (fun x k => fVal1_eq x k)]
  · exact fVal1_eq _ _
def fOpt (c : Option Nat) (k : Option Nat → β) : β := match c with | none => k none | some n => fNat n fun n => k (some n)
theorem fOpt_eq (c : Option Nat) (k : Option Nat → β) : fOpt c k = k c := by cases c <;> simp only [fOpt, fNat_eq]
noncomputable def fRV0 (r : RV) (k : RV → β) : β :=
  match r with
  | .pl v => fVal v fun v => k (.pl v)
  | .sym c i => fNat i fun i => k (.sym c i)
  | .el b i s => fNat b fun b => fNat i fun i => fNat s fun s => k (.el b i s)
  | .ptr b o => fNat b fun b => fNat o fun o => k (.ptr b o)
  | .sl b o n s c => fNat b fun b => fNat o fun o => fNat n fun n => fNat s fun s => fOpt c fun c => k (.sl b o n s c)
  | .fn f a c => fSpine a fun a => fSpine c fun c => k (.fn f a c)
  | .agg l => k (.agg l)
  | .tup l => k (.tup l)
  | .slN b i s => fNat b fun b => fNat i fun i => fNat s fun s => k (.slN b i s)
  | .slA b i s => fNat b fun b => fNat i fun i => fNat s fun s => k (.slA b i s)
  | .elA b i s => fNat b fun b => fNat i fun i => fNat s fun s => k (.elA b i s)
  | .elF b i s o => fNat b fun b => fNat i fun i => fNat s fun s => fNat o fun o => k (.elF b i s o)
  | .elB b i s o => fNat b fun b => fNat i fun i => fNat s fun s => fNat o fun o => k (.elB b i s o)
  | .slL i s => k (.slL i s)
  | .slX b i n j s => fNat b fun b => fNat i fun i => fNat n fun n => fNat j fun j => fNat s fun s => k (.slX b i n j s)
  | .elX b i n j m s => fNat b fun b => fNat i fun i => fNat n fun n => fNat j fun j => fNat m fun m => fNat s fun s => k (.elX b i n j m s)
  | .ifc b t => fNat b fun b => fNat t fun t => k (.ifc b t)
  | .slP b i j s a => fNat b fun b => fNat i fun i => fNat j fun j => fNat s fun s => fNat a fun a => k (.slP b i j s a)
  | .wild i => k (.wild i)
  | .yld b => fNat b fun b => k (.yld b)
  | .gst b j => fNat b fun b => fNat j fun j => k (.gst b j)
theorem fRV0_eq (r : RV) (k : RV → β) : fRV0 r k = k r := by
  unfold fRV0
  split <;> simp only [fVal_eq, fNat_eq, fOpt_eq, fSpine_eq]
noncomputable def fRV1 (r : RV) (k : RV → β) : β := match r with | .agg l => fList fRV0 l fun l => k (.agg l) | r => fRV0 r k
theorem fRV1_eq (r : RV) (k : RV → β) : fRV1 r k = k r := by
  unfold fRV1
  split
  · rw [fList_eq _ (fun x k => fRV0_eq x k)]
  · exact fRV0_eq _ _
noncomputable def fRV (r : RV) (k : RV → β) : β := match r with | .tup l => fList fRV1 l fun l => k (.tup l) | r => fRV1 r k
theorem fRV_eq (r : RV) (k : RV → β) : fRV r k = k r := by
  unfold fRV
  split
  · rw [fList_eq _ (fun x k => fRV1_eq x k)]
  · exact fRV1_eq _ _
noncomputable def setL {α : Type} (l : List α) (n : Nat) (v : α) : (List α → β) → β :=
  List.rec (motive := fun _ => Nat → (List α → β) → β) (fun _ k => k []) (fun x l ih n => Nat.rec (motive := fun _ => (List α → β) → β) (fun k => k (v :: l)) (fun m _ k => ih m fun l' => k (x :: l')) n) l n
theorem setL_eq {α : Type} : ∀ (l : List α) (n : Nat) (v : α) (k : List α → β), setL l n v k = k (l.set n v)
  | [], _, _, _ => rfl
  | _ :: _, 0, _, _ => rfl
  | x :: l, n + 1, v, k => setL_eq l n v fun l' => k (x :: l')
noncomputable def fRO (o : Option RO) (k : Option RO → β) : β :=
  match o with
  | none => k none
  | some (.cells l e r f) => fSpine l fun l => fBool r fun r => fBool f fun f => k (some (.cells l e r f))
  | some (.iter s p) => fStr s fun s => fNat p fun p => k (some (.iter s p))
  | some (.lent l e) => k (some (.lent l e))
  | some (.lst i e o) => k (some (.lst i e o))
  | some (.lstA i) => k (some (.lstA i))
  | some (.lstQ i e s) => k (some (.lstQ i e s))
  | some (.lstL i e s) => k (some (.lstL i e s))
  | some (.lstB i s) => k (some (.lstB i s))
  | some (.lp st pe) => fNat st fun st => k (some (.lp st pe))
theorem fRO_eq (o : Option RO) (k : Option RO → β) : fRO o k = k o := by
  unfold fRO
  split <;> simp only [fBool_eq, fNat_eq, fStr_eq, fSpine_eq]
end

noncomputable def lkp (h : RH) (b : Nat) : Option RO :=
  List.rec (motive := fun _ => Nat → Option RO) (fun _ => none) (fun x _ ih i => Nat.rec (motive := fun _ => Option RO) x (fun j _ => ih j) i) h b

noncomputable def takeN (n : Nat) (l : List RV) : Option (List RV) :=
  Nat.rec (motive := fun _ => List RV → Option (List RV)) (fun _ => some []) (fun _ ih l => match l with
    | [] => none
    | x :: l => match ih l with | some r => some (x :: r) | none => none) n l
noncomputable def seg (l : List RV) (o n : Nat) : Option (List RV) :=
  Nat.rec (motive := fun _ => List RV → Option (List RV)) (takeN n) (fun _ ih l => match l with
    | [] => none
    | _ :: l => ih l) o l

noncomputable def getCells (h : RH) (b o n : Nat) : Option (List RV) :=
  match lkp h b with
  | some (.cells l _ _ _) => seg l o n
  | some (.lent l _) => seg l o n
  | _ => none

noncomputable def over (cs : List RV) : List RV → Option (List RV) :=
  List.rec (motive := fun _ => List RV → Option (List RV)) (fun l => some l) (fun c _ ih l => match l with
    | [] => none
    | _ :: l => match one c with
      | true => match ih l with | some r => some (c :: r) | none => none
      | false => none) cs
noncomputable def splice (cs l : List RV) (o : Nat) : Option (List RV) :=
  Nat.rec (motive := fun _ => List RV → Option (List RV)) (over cs) (fun _ ih l => match l with
    | [] => none
    | x :: l => match ih l with | some r => some (x :: r) | none => none) o l
theorem over_eq : ∀ cs l : List RV, over cs l = if cs.length ≤ l.length && cs.all one then some (cs ++ l.drop cs.length) else none
  | [], l => by simp [over]
  | c :: cs, [] => by simp [over]
  | c :: cs, x :: l => by
    have e : over (c :: cs) (x :: l) = match one c with
      | true => (match over cs l with | some r => some (c :: r) | none => none)
      | false => none := rfl
    have e2 : decide ((c :: cs).length ≤ (x :: l).length) = decide (cs.length ≤ l.length) := by simp
    rw [e, over_eq cs l, e2, List.all_cons]
    generalize decide (cs.length ≤ l.length) = p
    generalize cs.all one = q
    generalize one c = r
    cases p <;> cases q <;> cases r <;> simp
theorem splice_eq (cs : List RV) : ∀ (o : Nat) (l : List RV), splice cs l o = if o + cs.length ≤ l.length && cs.all one then some (l.take o ++ cs ++ l.drop (o + cs.length)) else none
  | 0, l => by
    have e : splice cs l 0 = over cs l := rfl
    rw [e, over_eq]
    simp
  | o + 1, [] => by
    have e : splice cs [] (o + 1) = none := rfl
    rw [e, if_neg (by simp)]
  | o + 1, x :: l => by
    have e : splice cs (x :: l) (o + 1) = match splice cs l o with | some r => some (x :: r) | none => none := rfl
    have e1 : o + 1 + cs.length = (o + cs.length) + 1 := by omega
    have e2 : decide ((o + cs.length) + 1 ≤ (x :: l).length) = decide (o + cs.length ≤ l.length) := by simp
    rw [e, splice_eq cs o l, e1, e2]
    generalize decide (o + cs.length ≤ l.length) = p
    generalize cs.all one = q
    cases p <;> cases q <;> simp
noncomputable def putCells (h : RH) (b o : Nat) (cs : List RV) : Option RO :=
  match lkp h b with
  | some (.cells l e room false) => match splice cs l o with | some l' => some (.cells l' e room false) | none => none
  | _ => none
theorem putCells_eq (h : RH) (b o : Nat) (cs : List RV) : putCells h b o cs = match lkp h b with
  | some (.cells l e room false) =>
    if o + cs.length ≤ l.length && cs.all one then some (.cells (l.take o ++ cs ++ l.drop (o + cs.length)) e room false) else none
  | _ => none := by
  unfold putCells
  cases lkp h b with
  | none => rfl
  | some o' => cases o' with
    | iter _ _ => rfl
    | lent _ _ => rfl
    | lst _ _ _ => rfl
    | lstA _ => rfl
    | lstQ _ _ _ => rfl
    | lstL _ _ _ => rfl
    | lstB _ _ => rfl
    | lp _ _ => rfl
    | cells l e room f =>
      cases f with
      | true => rfl
      | false =>
        simp only [splice_eq]
        split
        · split
          · rename_i h1 h2; rw [if_pos h2] at h1; cases h1; rfl
          · rename_i h1 h2; rw [if_neg h2] at h1; cases h1
        · split
          · rename_i h1 h2; rw [if_pos h2] at h1; cases h1
          · rfl

/-- What an operation comes to: a value; one block written anew, and a value; a new block behind the others, and a value (with one block given up); a call. -/
inductive Eff where
  | val (v : RV)
  | same (v : RV)
  | setB (v : RV) (b : Nat) (o : RO)
  | newB (v : RV) (o : RO)
  | moveB (v : RV) (b : Nat) (o : RO)
  | move2 (v : RV) (b b2 : Nat) (o : RO)
  | call (f : FuncId) (args : List RV)
  | yield (b : Nat) (args : List RV)
  deriving Inhabited

noncomputable def loadAs (agg : Bool) (l : List RV) : Option RV := if agg then some (mkAgg l) else l.head?

def cellsN (agg : Bool) (sz : Nat) : Nat := match agg with | true => sz | false => 1
/-- A row that says: this global's cell holds an interface's value. -/
def isIfRow : List Value → Bool
  | [.nilFunc] => true
  | _ => false
noncomputable def loadOp (P : Program) (ro : Ro) (h : RH) (ty : TypeId) (a : RV) : Option RV :=
  match quiet P (isAgg ty), quiet P (sizeOf ty) with
  | some agg, some sz =>
    match a with
    | .ptr b o => (getCells h b o (cellsN agg sz)).bind (loadAs agg)
    | .pl (.pointer (some ⟨g, o, none⟩)) =>
      match ro.lookup g with
      | some cs => if o + cellsN agg sz ≤ cs.length ∧ isIfRow cs = false then loadAs agg (((cs.drop o).take (cellsN agg sz)).map .pl) else none
      | none => none
    | _ => none
  | _, _ => none

noncomputable def storeOp (P : Program) (h : RH) (ty : TypeId) (a x : RV) : Option Eff :=
  match a, quiet P (sizeOf ty) with
  | .ptr b o, some n => if (cellsOf x).length = n && !isW x then (putCells h b o (cellsOf x)).map (.setB (.pl undef) b) else none
  | _, _ => none

def addOff (b o n : Nat) : RV := .ptr b (o + n)

noncomputable def sizeB (P : Program) (t : TypeId) : Option Nat := quiet P (sizeOf t)

noncomputable def fieldAddrOp (P : Program) (s : TypeId) (x : RV) (f : Nat) : Option RV :=
  match x, P.underlying s with
  | .ptr b o, some (.struct fs) =>
    match fs[f]? with
    | some fd => match sizeB P fd.type with
      | some (_ + 1) => some (.ptr b (o + fd.offset))
      | _ => none
    | none => none
  | _, _ => none

def asI : RV → Option Int
  | .pl (.int _ n) => some n
  | _ => none

noncomputable def indexAddrOp (P : Program) (t : TypeId) (x ix : RV) : Option RV :=
  match asI ix, P.underlying t, x with
  | some i, some (.array len elem), .ptr b o =>
    match sizeB P elem with
    | some s => if 0 ≤ i ∧ i < len then some (.ptr b (o + i.toNat * s)) else none
    | none => none
  | some i, some (.slice elem), .sl b o n _ _ =>
    match sizeB P elem with
    | some s => if 0 ≤ i ∧ i < n then some (.ptr b (o + i.toNat * s)) else none
    | none => none
  | _, _, _ => none

noncomputable def partOp (P : Program) (t : TypeId) (l : List RV) (off : Nat) : Option RV :=
  match quiet P (isAgg t), sizeB P t with
  | some true, some n => some (mkAgg ((l.drop off).take n))
  | some false, _ => l[off]?
  | _, _ => none

noncomputable def fieldOp (P : Program) (xType : TypeId) (x : RV) (f : Nat) : Option RV :=
  match x, P.underlying xType with
  | .agg l, some (.struct fs) =>
    match fs[f]? with
    | some fd => partOp P fd.type l fd.offset
    | none => none
  | _, _ => none

def fillR (place : Nat → Option (Nat × Nat)) (cells : List RV) : List (Nat × RV) → Option (List RV)
  | [] => some cells
  | (i, v) :: rest =>
    match place i with
    | none => none
    | some (off, size) =>
      if (cellsOf v).length ≠ size || off + (cellsOf v).length > cells.length || isW v then none
      else fillR place (cells.take off ++ cellsOf v ++ cells.drop (off + (cellsOf v).length)) rest

noncomputable def fieldPlaces (P : Program) (fs : Array Field) (i : Nat) : Option (Nat × Nat) :=
  match fs[i]? with
  | some f => (sizeB P f.type).map (f.offset, ·)
  | none => none

noncomputable def zeroCellsOf (P : Program) (t : TypeId) : Option (List RV) := (quiet P (zeroValue t)).map fun z => z.cells.toList.map .pl

noncomputable def buildOp (P : Program) (t : TypeId) (parts : List (Nat × RV)) : Option RV :=
  match zeroCellsOf P t, P.underlying t with
  | some zero, some (.struct fs) =>
    if fs.toList.all (fun f => (sizeB P f.type).isSome) then (fillR (fieldPlaces P fs) zero parts).map mkAgg else none
  | some zero, some (.array _ elem) =>
    match sizeB P elem with
    | some s => (fillR (fun i => some (i * s, s)) zero parts).map mkAgg
    | none => none
  | _, _ => none

def rep (n : Nat) (l : List RV) : List RV := (List.replicate n l).flatten

noncomputable def buildSliceOp (P : Program) (h : RH) (t : TypeId) (len : Nat) (parts : List (Nat × RV)) : Option Eff :=
  match P.underlying t with
  | some (.slice elem) =>
    match sizeB P elem, zeroCellsOf P elem with
    | some (s + 1), some zero =>
      if len * (s + 1) ≤ 4096 && zero.length = s + 1 then
        (fillR (fun i => some (i * (s + 1), (s + 1))) (rep len zero) parts).bind fun cs =>
          if cs.all one then some (.newB (.sl h.length 0 len (s + 1) none) (.cells cs elem false false)) else none
      else none
    | _, _ => none
  | _ => none

noncomputable def makeSliceOp (P : Program) (h : RH) (t : TypeId) (l c : RV) : Option Eff :=
  match P.underlying t, l, c with
  | some (.slice elem), .pl (.int .i64 l), .pl (.int .i64 c) =>
    match sizeB P elem, zeroCellsOf P elem with
    | some (s + 1), some zero =>
      if 0 ≤ l && l ≤ c && c * (s + 1) ≤ 65536 && zero.length = s + 1 && zero.all one && ((P.info? elem).map (·.bytes)).getD 70000 ≤ 65536 then
        some (.newB (.sl h.length 0 l.toNat (s + 1) none) (.cells (rep c.toNat zero) elem false false))
      else none
    | _, _ => none
  | _, _, _ => none

/-- The end of what a slice over this block can hold, where it is known. -/
noncomputable def capOf (h : RH) (b o s : Nat) : Option Nat → Option Nat
  | some c => some c
  | none => match lkp h b with
    | some (.cells l _ false _) => some ((l.length - o) / s)
    | _ => none

def bnd (x : Option RV) (d : Nat) : Option Nat :=
  match x with
  | none => some d
  | some (.pl (.int _ i)) => if 0 ≤ i then some i.toNat else none
  | _ => none

noncomputable def sliceOp (P : Program) (h : RH) (t : TypeId) (x : RV) (lo hi mx : Option RV) : Option RV :=
  match P.underlying t, x, mx with
  | some (.slice elem), .sl b o n s c, none =>
    match bnd lo 0, bnd hi n, sizeB P elem with
    | some l, some g, some s' =>
      if l ≤ g && g ≤ n && s = s' && s ≠ 0 then
        if l = 0 then some (.sl b o g s c)
        else if l < n then some (.sl b (o + l * s) (g - l) s (c.map (· - l)))
        else match capOf h b o s c with
          | some k => if n ≤ k then (if k = l then some (.sl b o (g - l) s (some 0)) else some (.sl b (o + l * s) (g - l) s (some (k - l)))) else none
          | none => none
      else none
    | _, _, _ => none
  | some (.array n elem), .ptr b o, none =>
    match bnd lo 0, bnd hi n, sizeB P elem with
    | some l, some g, some s =>
      if l ≤ g && g ≤ n && s ≠ 0 then (if n = l then some (.sl b o (g - l) s (some (n - l))) else some (.sl b (o + l * s) (g - l) s (some (n - l)))) else none
    | _, _, _ => none
  | _, _, _ => none

noncomputable def nthV (l : List Value) : Nat → Option Value :=
  List.rec (motive := fun _ => Nat → Option Value) (fun _ => none) (fun x _ ih i => Nat.rec (motive := fun _ => Option Value) (some x) (fun j _ => ih j) i) l

noncomputable def nthB (l : List UInt8) : Nat → Option UInt8 :=
  List.rec (motive := fun _ => Nat → Option UInt8) (fun _ => none) (fun x _ ih i => Nat.rec (motive := fun _ => Option UInt8) (some x) (fun j _ => ih j) i) l
noncomputable def lenB (l : List UInt8) : Nat := List.rec (motive := fun _ => Nat) 0 (fun _ _ ih => Nat.succ ih) l
noncomputable def eqB (l : List UInt8) : List UInt8 → Bool :=
  List.rec (motive := fun _ => List UInt8 → Bool) (fun r => match r with | [] => true | _ :: _ => false)
    (fun x _ ih r => match r with | [] => false | y :: r => match Nat.beq x.toNat y.toNat with | true => ih r | false => false) l
noncomputable def takeB (n : Nat) (l : List UInt8) : Option (List UInt8) :=
  Nat.rec (motive := fun _ => List UInt8 → Option (List UInt8)) (fun _ => some []) (fun _ ih l => match l with
    | [] => none
    | x :: l => match ih l with | some r => some (x :: r) | none => none) n l
noncomputable def segB (l : List UInt8) (o n : Nat) : Option (List UInt8) :=
  Nat.rec (motive := fun _ => List UInt8 → Option (List UInt8)) (takeB n) (fun _ ih l => match l with
    | [] => none
    | _ :: l => ih l) o l
noncomputable def appB (l r : List UInt8) : List UInt8 := List.rec (motive := fun _ => List UInt8) r (fun x _ ih => x :: ih) l

def bytesR (s : ByteArray) : List RV := s.data.toList.map fun b => .pl (.int .u8 b.toNat)

/-- The cells that a source holds, and how many elements these are. -/
noncomputable def srcCells (P : Program) (h : RH) (tS tX elem : TypeId) (sz : Nat) : RV → Option (List RV × Nat)
  | .pl (.slice _ n _) => if tS = tX && n = 0 then some ([], 0) else none
  | .sl b o n s _ => if tS = tX && s = sz then (getCells h b o (n * sz)).map (·, n) else none
  | .pl (.string s) =>
    match P.underlying tX, P.underlying elem with
    | some .string, some (.int .u8) => if sz = 1 then some (bytesR s, lenB s.data.toList) else none
    | _, _ => none
  | _ => none

noncomputable def appendSl (h : RH) (elem : TypeId) (sz by_ b n : Nat) (ncs : List RV) (m : Nat) : Option Eff :=
  match lkp h b with
  | some (.cells l e room false) =>
    if e ≠ elem then none else
    if (n + m) * sz ≤ l.length then (putCells h b (n * sz) ncs).map (.setB (.sl b 0 (n + m) sz none) b)
    else if n * sz ≤ l.length && (n + m) * by_ ≤ 1000000000 && n + m ≤ 1000000000 then
      match room with
      | true => if n * sz = l.length && l.all one then some (.moveB (.sl h.length 0 (n + m) sz none) b (.cells (l ++ ncs) elem true false)) else none
      | false => some (.newB (.sl h.length 0 (n + m) sz none) (.cells (l.take (n * sz) ++ ncs) elem true false))
    else none
  | _ => none
noncomputable def appendTo (h : RH) (elem : TypeId) (sz by_ : Nat) (s : RV) (ncs : List RV) (m : Nat) : Option Eff :=
  match s with
  | .pl (.slice none 0 0) =>
    if m = 0 then some (.same s)
    else if m * by_ ≤ 1000000000 && m ≤ 1000000000 then some (.newB (.sl h.length 0 m sz none) (.cells ncs elem true false))
    else none
  | .sl b 0 n s' none =>
    if s' ≠ sz then none else
    if m = 0 then some (.same s) else appendSl h elem sz by_ b n ncs m
  | .sl b o n s' (some k) =>
    if s' = sz ∧ k < n + m ∧ (n + m) * by_ ≤ 1000000000 ∧ n + m ≤ 1000000000 then (getCells h b o (n * sz)).map fun old => .newB (.sl h.length 0 (n + m) sz none) (.cells (old ++ ncs) elem true false) else none
  | _ => none
noncomputable def appendOp (P : Program) (h : RH) (argTypes : Array TypeId) (s x : RV) : Option Eff :=
  match argTypes.toList with
  | [tS, tX] =>
    match P.underlying tS with
    | some (.slice elem) =>
      match P.info? elem, zeroCellsOf P elem with
      | some i, some zero =>
        if i.size = 0 || zero.length ≠ i.size then none else
        match srcCells P h tS tX elem i.size x with
        | some (ncs, m) => if ncs.all one then appendTo h elem i.size i.bytes s ncs m else none
        | none => none
      | _, _ => none
    | _ => none
  | _ => none

noncomputable def copyOp (P : Program) (h : RH) (argTypes : Array TypeId) (d x : RV) : Option Eff :=
  match argTypes.toList with
  | tD :: _ =>
    match P.underlying tD with
    | some (.slice elem) =>
      match sizeB P elem with
      | some sz =>
        match d, x with
        | .sl b o n s _, .sl b2 o2 n2 s2 _ =>
          if s = sz && s2 = sz then
            (getCells h b2 o2 (Nat.min n2 n * sz)).bind fun cs => (putCells h b o cs).map (.setB (.pl (goInt (Nat.min n2 n))) b)
          else none
        | .sl _ _ _ _ _, .pl (.slice none 0 _) => some (.val (.pl (goInt 0)))
        | .sl b o n s _, .pl (.string q) =>
          if s = 1 && sz = 1 then
            (takeN (Nat.min (lenB q.data.toList) n) (bytesR q)).bind fun cs => (putCells h b o cs).map (.setB (.pl (goInt (Nat.min (lenB q.data.toList) n))) b)
          else none
        | _, _ => none
      | none => none
    | _ => none
  | _ => none

noncomputable def eqlOp (P : Program) (t : TypeId) (x y : RV) : Option Bool :=
  match P.underlying t, x, y with
  | some (.pointer e), .ptr b o, .ptr b' o' => match sizeB P e with
    | some (_ + 1) => if b = b' then some (o == o') else none
    | _ => none
  | some (.pointer _), .pl (.pointer none), .ptr _ _ => some false
  | some (.pointer _), .ptr _ _, .pl (.pointer none) => some false
  | some (.slice _), .pl (.slice none _ _), .sl _ _ _ _ _ => some false
  | some (.slice _), .sl _ _ _ _ _, .pl (.slice none _ _) => some false
  | some (.func _ _ _), .pl .nilFunc, .fn _ _ _ => some false
  | some (.func _ _ _), .fn _ _ _, .pl .nilFunc => some false
  | some (.interface _), .ifc _ _, .pl .nilIface => some false
  | some (.interface _), .pl .nilIface, .ifc _ _ => some false
  | _, _, _ => none

def byteOfR : RV → Option UInt8
  | .pl (.int .u8 n) => some (UInt8.ofNat n.toNat)
  | _ => none
def strOf : List RV → Option (List UInt8)
  | [] => some []
  | r :: l => match byteOfR r, strOf l with
    | some b, some s => some (b :: s)
    | _, _ => none

noncomputable def decodeF (s : ByteArray) (pos : Nat) : Nat × Nat :=
  match nthB s.data.toList pos with
  | some b => if b.toNat < 128 then (b.toNat, 1) else Utf8.decode s pos
  | none => Utf8.decode s pos

noncomputable def rangeOp (P : Program) (h : RH) (t : TypeId) (x : RV) : Option Eff :=
  match P.underlying t, x with
  | some .string, .pl (.string s) => some (.newB (.ptr h.length 0) (.iter s 0))
  | _, _ => none

noncomputable def nextOp (h : RH) (x : RV) (isString : Bool) : Option Eff :=
  match x, isString with
  | .ptr b 0, true =>
    match lkp h b with
    | some (.iter s pos) =>
      if pos < lenB s.data.toList then
        let (c, width) := decodeF s pos
        some (.setB (.pl (.tuple #[.bool true, goInt pos, .int .i32 c])) b (.iter s (pos + width)))
      else some (.val (.pl (.tuple #[.bool false])))
    | _ => none
  | _, _ => none

noncomputable def fastStr (op : BinOp) (a b : ByteArray) : Option RV :=
  match op with
  | .eql => some (.pl (.bool (eqB a.data.toList b.data.toList)))
  | .neq => some (.pl (.bool (!eqB a.data.toList b.data.toList)))
  | .add => if lenB a.data.toList + lenB b.data.toList ≤ 1000000000 then some (.pl (.string ⟨(appB a.data.toList b.data.toList).toArray⟩)) else none
  | _ => none

noncomputable def takeV (n : Nat) (l : List Value) : Option (List Value) :=
  Nat.rec (motive := fun _ => List Value → Option (List Value)) (fun _ => some []) (fun _ ih l => match l with
    | [] => none
    | x :: l => match ih l with | some r => some (x :: r) | none => none) n l
noncomputable def segV (l : List Value) (o n : Nat) : Option (List Value) :=
  Nat.rec (motive := fun _ => List Value → Option (List Value)) (takeV n) (fun _ ih l => match l with
    | [] => none
    | _ :: l => ih l) o l
noncomputable def partV (P : Program) (t : TypeId) (l : List Value) (off : Nat) : Option Value :=
  match quiet P (isAgg t) with
  | some true => match sizeB P t with
    | some n => (segV l off n).map fun r => .agg r.toArray
    | none => none
  | some false => nthV l off
  | none => none
noncomputable def eqFieldsV (P : Program) (e : TypeId → Value → Value → Option Bool) (xs ys : List Value) (fs : List Field) : Option Bool :=
  List.rec (motive := fun _ => Option Bool) (some true) (fun f _ ih =>
    if f.name = "_" then ih else
    match partV P f.type xs f.offset, partV P f.type ys f.offset with
    | some a, some b => match e f.type a b with
      | some true => ih
      | r => r
    | _, _ => none) fs
noncomputable def eqElemsV (P : Program) (e : TypeId → Value → Value → Option Bool) (elem : TypeId) (n : Nat) (xs ys : List Value) (is : List Nat) : Option Bool :=
  List.rec (motive := fun _ => Option Bool) (some true) (fun i _ ih =>
    match partV P elem xs (i * n), partV P elem ys (i * n) with
    | some a, some b => match e elem a b with
      | some true => ih
      | r => r
    | _, _ => none) is
noncomputable def eqV (P : Program) (d : Nat) : TypeId → Value → Value → Option Bool :=
  Nat.rec (motive := fun _ => TypeId → Value → Value → Option Bool) (fun _ _ _ => none) (fun _ ih t x y =>
    match P.underlying t, x, y with
    | some (.int _), .int k a, .int k' b => if k = k' then some (a == b) else none
    | some .bool, .bool a, .bool b => some (a == b)
    | some .string, .string a, .string b => some (eqB a.data.toList b.data.toList)
    | some (.struct fs), .agg xs, .agg ys => if P.stoodInHeld t then none else eqFieldsV P ih xs.toList ys.toList fs.toList
    | some (.array len elem), .agg xs, .agg ys => match sizeB P elem with
      | some n => eqElemsV P ih elem n xs.toList ys.toList (List.range len)
      | none => none
    | _, _, _ => none) d
noncomputable def fastAgg (P : Program) (op : BinOp) (ty : TypeId) (xs ys : Array Value) : Option RV :=
  if P.eqGuardType P.depth ty then none else
  match op with
  | .eql => (eqV P 8 ty (.agg xs) (.agg ys)).map fun b => .pl (.bool b)
  | .neq => (eqV P 8 ty (.agg xs) (.agg ys)).map fun b => .pl (.bool !b)
  | _ => none

noncomputable def strIndex (P : Program) (t : TypeId) (s : ByteArray) (i : Int) : Option RV :=
  match P.underlying t with
  | some .string => if 0 ≤ i then (nthB s.data.toList i.toNat).map fun b => .pl (.int .u8 b.toNat) else none
  | _ => none

noncomputable def strSlice (P : Program) (t : TypeId) (s : ByteArray) (lo hi : Option RV) : Option RV :=
  match P.underlying t with
  | some .string =>
    let n := lenB s.data.toList
    match bnd lo 0, bnd hi n with
    | some l, some g => if l ≤ g && g ≤ n then (segB s.data.toList l (g - l)).map fun r => .pl (.string ⟨r.toArray⟩) else none
    | _, _ => none
  | _ => none

noncomputable def isBodyName (P : Program) (f : FuncId) : Option Bool := (P.funcs[f]?).map fun fn => fn.body.isSome && !(fn.name == "runtime.NumGoroutine")

noncomputable def exOp (g : Cfg) (f : FuncId) (args : List RV) : Option Eff :=
  match args.all flat0 with
  | true => match g.EX f args with
    | some r => match flat0 r with | true => some (.same r) | false => none
    | none => none
  | false => none
noncomputable def externOp0 (g : Cfg) (h : RH) (f : FuncId) (args : List RV) : Option Eff :=
  if g.ne.contains f then
    match args with
    | [x] => some (.same x)
    | _ => none
  else
    match g.mz.lookup f, args with
    | some e, [.pl (.int .i64 n)] => if 0 ≤ n && n ≤ 1000000000 then some (.newB (.sl h.length 0 n.toNat 1 none) (.cells [] e true false)) else none
    | _, _ => none

noncomputable def externOp (g : Cfg) (h : RH) (f : FuncId) (args : List RV) : Option Eff :=
  match exOp g f args with
  | some e => some e
  | none => externOp0 g h f args

noncomputable def callAt (P : Program) (g : Cfg) (h : RH) (f : FuncId) (as : List RV) : Option Eff :=
  match isBodyName P f with
  | some true => some (.call f as)
  | some false => externOp g h f as
  | none => none
noncomputable def callOp (P : Program) (g : Cfg) (h : RH) (f : RV) (args : List RV) : Option Eff :=
  match f with
  | .pl (.func (.func k) first cap) => callAt P g h k (first.toList.map .pl ++ args ++ cap.toList.map .pl)
  | .fn (.func k) first cap => callAt P g h k (first ++ args ++ cap)
  | .yld b => some (.yield b args)
  | _ => none

noncomputable def unsafeConv (P : Program) (h : RH) (src dst : TypeId) (x : RV) : Option RV :=
  match P.underlying src, P.underlying dst, x with
  | some (.pointer t), some .unsafePointer, .ptr b o =>
    match sizeB P t, lkp h b with
    | some (_ + 1), some (.cells l _ _ _) => if o < l.length then some x else none
    | _, _ => none
  | some .unsafePointer, some (.pointer u), .ptr b o =>
    match lkp h b with
    | some (.cells l e false _) => if (sizeB P u).isSome && liesAt P P.depth e (l.length / P.cellsOf e) o u 1 then some x else none
    | _ => none
  | _, _, _ => none

noncomputable def strM (M : List RV → Option RV) (l : List RV) : Option RV :=
  match strOf l with
  | some s => some (.pl (.string ⟨s.toArray⟩))
  | none => M l
noncomputable def unsafeStringOp (P : Program) (M : List RV → Option RV) (h : RH) (argTypes : Array TypeId) (p l : RV) : Option Eff :=
  match p, l, argTypes.toList with
  | .ptr b o, .pl (.int _ n), pt :: _ =>
    match P.underlying pt, lkp h b with
    | some (.pointer u), some (.cells cs e room _) =>
      if 0 < n && n ≤ 1000000000 && P.underlyingId e == P.underlyingId u && P.cellsOf e == 1 then
        match getCells h b o n.toNat with
        | some l => (strM M l).map fun r => .setB r b (.cells cs e room true)
        | none => none
      else none
    | _, _ => none
  | _, _, _ => none

noncomputable def eqSs (l : List RV) : List RV → Bool :=
  List.rec (motive := fun _ => List RV → Bool) (fun m => match m with | [] => true | _ => false) (fun x _ ih m => match m with | [] => false | y :: m => match eqS x y with | true => ih m | false => false) l
noncomputable def lenlook (T : List LNE) (i s : Nat) : Option RV :=
  List.rec (motive := fun _ => Option RV) none (fun e _ ih => match Nat.beq e.i i with
    | true => match Nat.beq e.s s with | true => some e.r | false => ih
    | false => ih) T
noncomputable def applook (T : List LAE) (i : Nat) (cs : List RV) : Option Nat :=
  List.rec (motive := fun _ => Option Nat) none (fun e _ ih => match Nat.beq e.i i with
    | true => match eqSs e.cs cs with | true => some e.j | false => ih
    | false => ih) T
noncomputable def mslook (T : List MSE) (cs : List RV) : Option RV :=
  List.rec (motive := fun _ => Option RV) none (fun e _ ih => match eqSs e.cs cs with | true => some (.sym .str e.j) | false => ih) T
noncomputable def sslook (T : List SSE) (s lo hi : RV) : Option RV :=
  List.rec (motive := fun _ => Option RV) none (fun e _ ih => match eqS e.s s with
    | true => match eqS e.lo lo with
      | true => match eqS e.hi hi with | true => some e.r | false => ih
      | false => ih
    | false => ih) T
/-- Behind a named list. -/
noncomputable def appN (P : Program) (g : Cfg) (h : RH) (argTypes : Array TypeId) (s x : RV) : Option Eff :=
  match s, argTypes.toList with
  | .slN b i sz, [tS, tX] => match P.underlying tS with
    | some (.slice elem) => match P.info? elem, zeroCellsOf P elem with
      | some t, some zero =>
        if t.size = 0 || zero.length ≠ t.size || t.size ≠ sz || !(Nat.ble t.bytes 1000) then none else
        match srcCells P h tS tX elem sz x, lkp h b with
        | some (ncs, m), some (.lst i' e true) =>
          if ncs.all one && ncs.all flat0 && m ≠ 0 && e = elem && i' = i then (applook g.LA i ncs).map fun j => .moveB (.slN h.length j sz) b (.lst j e true) else none
        | _, _ => none
      | _, _ => none
    | _ => none
  | _, _ => none
noncomputable def memZ (l : List Nat) (j : Nat) : Bool :=
  List.rec (motive := fun _ => Bool) false (fun e _ ih => match Nat.beq e j with | true => true | false => ih) l
noncomputable def lblook0 (T : List LBE) (j : Nat) : Option Nat :=
  List.rec (motive := fun _ => Option Nat) none (fun e _ ih => match e.i with
    | none => match Nat.beq e.j j with | true => some e.k | false => ih
    | some _ => ih) T
noncomputable def lblook (T : List LBE) (i j : Nat) : Option Nat :=
  List.rec (motive := fun _ => Option Nat) none (fun e _ ih => match e.i with
    | some i' => match Nat.beq i' i with
      | true => match Nat.beq e.j j with | true => some e.k | false => ih
      | false => ih
    | none => ih) T
/-- Behind nothing or behind a named list, a part of a named list. -/
noncomputable def appP1 (g : Cfg) (h : RH) (e : TypeId) (b j sz : Nat) (s : RV) : Option Eff :=
  match s with
  | .pl (.slice none 0 0) => match memZ g.LZ j with
    | true => some (.same (.pl (.slice none 0 0)))
    | false => match lblook0 g.LB j with
      | some k => some (.newB (.slN h.length k sz) (.lst k e true))
      | none => none
  | .slN b' i' sz' => match Nat.beq sz' sz with
    | true => match memZ g.LZ j with
      | true => match lkp h b' with
        | some (.lst i e' true) => if i = i' ∧ e' = e then some (.same (.slN b' i' sz)) else none
        | _ => none
      | false => match Nat.beq b' b with
        | true => none
        | false => match lkp h b' with
          | some (.lst i e' true) => if i = i' ∧ e' = e then (lblook g.LB i' j).map fun k => .moveB (.slN h.length k sz) b' (.lst k e true) else none
          | _ => none
    | false => none
  | _ => none
noncomputable def appPc (P : Program) (g : Cfg) (h : RH) (argTypes : Array TypeId) (s : RV) (b i j sz : Nat) : Option Eff :=
  match argTypes.toList with
  | [tS, tX] => match P.underlying tS with
    | some (.slice elem) => match P.info? elem, zeroCellsOf P elem with
      | some t, some zero =>
        if t.size = 0 || zero.length ≠ t.size || t.size ≠ sz || !(Nat.ble t.bytes 1000) || tS ≠ tX then none else
        match lkp h b with
        | some (.lst i' e true) => if i' = i ∧ e = elem then appP1 g h elem b j sz s else none
        | _ => none
      | _, _ => none
    | _ => none
  | _ => none
/-- The list of a string's bytes; the string of a list of bytes. -/
noncomputable def bslook (T : List (Nat × Nat)) (t : Nat) : Option Nat :=
  List.rec (motive := fun _ => Option Nat) none (fun e _ ih => match Nat.beq e.1 t with | true => some e.2 | false => ih) T
noncomputable def bslookL (T : List (Nat × Nat)) (l : Nat) : Option Nat :=
  List.rec (motive := fun _ => Option Nat) none (fun e _ ih => match Nat.beq e.2 l with | true => some e.1 | false => ih) T
/-- Behind a named list of bytes, a string by its name. -/
noncomputable def appS (P : Program) (g : Cfg) (h : RH) (argTypes : Array TypeId) (s x : RV) : Option Eff :=
  match s, x, argTypes.toList with
  | .slN b i 1, .sym .str t, [tS, tX] => match P.underlying tS, P.underlying tX with
    | some (.slice elem), some .string => match P.underlying elem, P.info? elem, zeroCellsOf P elem with
      | some (.int .u8), some ti, some zero =>
        if zero.length ≠ ti.size || ti.size ≠ 1 || !(Nat.ble ti.bytes 1000) then none else
        match lkp h b, bslook g.BS t with
        | some (.lst i' e true), some l =>
          if i' = i ∧ e = elem then
            match memZ g.LZ l with
            | true => some (.same (.slN b i 1))
            | false => (lblook g.LB i l).map fun k => .moveB (.slN h.length k 1) b (.lst k e true)
          else none
        | _, _ => none
      | _, _, _ => none
    | _, _ => none
  | _, _, _ => none
/-- A part, or a whole list. -/
noncomputable def appP (P : Program) (g : Cfg) (h : RH) (argTypes : Array TypeId) (s x : RV) : Option Eff :=
  match x with
  | .slP b i j sz _ => appPc P g h argTypes s b i j sz
  | .slN b j sz => appPc P g h argTypes s b j j sz
  | _ => none
/-- Behind a named list of our own, wherever it lies. -/
noncomputable def appLQ (P : Program) (g : Cfg) (h : RH) (argTypes : Array TypeId) (s x : RV) : Option Eff :=
  match s, argTypes.toList with
  | .slA b i sz, [tS, tX] => match P.underlying tS with
    | some (.slice elem) => match P.info? elem, zeroCellsOf P elem with
      | some t, some zero =>
        if t.size = 0 || zero.length ≠ t.size || t.size ≠ sz || !(Nat.ble t.bytes 1000) then none else
        match srcCells P h tS tX elem sz x, lkp h b with
        | some (ncs, m), some (.lstQ i' e s') =>
          if ncs.all one && ncs.all flat0 && m ≠ 0 && e = elem && i' = i && s' = sz then (applook g.LA i ncs).map fun j => .moveB (.slA h.length j sz) b (.lstQ j e sz) else none
        | _, _ => none
      | _, _ => none
    | _ => none
  | _, _ => none
/-- A slice that holds nothing and has no room. -/
noncomputable def emptyS (h : RH) (s : RV) : Bool :=
  match s with
  | .pl (.slice none 0 0) => true
  | .sl b 0 0 _ none => match lkp h b with
    | some (.cells [] _ false _) => true
    | _ => false
  | _ => false
/-- A list that came in, behind nothing. -/
noncomputable def appA (P : Program) (g : Cfg) (h : RH) (argTypes : Array TypeId) (s x : RV) : Option Eff :=
  match x, argTypes.toList with
  | .slA b j sz, [tS, tX] => match P.underlying tS with
    | some (.slice elem) => match P.info? elem, zeroCellsOf P elem with
      | some t, some zero =>
        if t.size = 0 || zero.length ≠ t.size || t.size ≠ sz || !(Nat.ble t.bytes 1000) || tS ≠ tX then none else
        match lkp h b with
        | some (.lstA j') => if j' = j ∧ emptyS h s = true then
            match memZ g.LZ j with
            | true => some (.same s)
            | false => (lblook0 g.LB j).map fun k => .newB (.slN h.length k sz) (.lst k elem true)
          else none
        | _ => none
      | _, _ => none
    | _ => none
  | _, _ => none
def intR : RV → Bool
  | .pl (.int _ _) => true
  | .sym (.int _) _ => true
  | _ => false
/-- The less (the greater) of two numbers, by what is known. -/
noncomputable def minOp (T : List TE) (mx : Bool) (x y : RV) : Option Eff :=
  match intR x && intR y with
  | true => match tlook T (.bin (match mx with | true => .gtr | false => .lss)) y x with
    | some (.pl (.bool true)) => some (.same y)
    | some (.pl (.bool false)) => some (.same x)
    | _ => none
  | false => none
noncomputable def lmlook (T : List LME) (n : Nat) (z : RV) : Option Nat :=
  List.rec (motive := fun _ => Option Nat) none (fun e _ ih => match Nat.beq e.n n with
    | true => match eqS e.z z with | true => some e.j | false => ih
    | false => ih) T
noncomputable def lwlook (T : List LWE) (i k : Nat) (x : RV) : Option Nat :=
  List.rec (motive := fun _ => Option Nat) none (fun e _ ih => match Nat.beq e.i i with
    | true => match Nat.beq e.k k with
      | true => match eqS e.x x with | true => some e.j | false => ih
      | false => ih
    | false => ih) T
noncomputable def lflook (T : List LFE) (i k s o : Nat) (x : RV) : Option Nat :=
  List.rec (motive := fun _ => Option Nat) none (fun e _ ih => match Nat.beq e.i i && Nat.beq e.k k && Nat.beq e.s s && Nat.beq e.o o with
    | true => match eqS e.x x with | true => some e.j | false => ih
    | false => ih) T
/-- The cells of an element by a name's number, put anew one by one. -/
noncomputable def lfchain (T : List LFE) (k s : Nat) (xs : List RV) : Nat → Nat → Option Nat :=
  List.rec (motive := fun _ => Nat → Nat → Option Nat) (fun i _ => some i) (fun x _ ih i o => match lflook T i k s o x with
    | some j => ih j (o + 1)
    | none => none) xs
/-- A made list of so many elements of several cells. -/
noncomputable def lmfind (L : List LNE) (i s : Nat) (z : RV) (T : List LME) : Option Nat :=
  List.rec (motive := fun _ => Option Nat) none (fun e _ ih => match eqS e.z z with
    | true => match lenlook L e.j s with
      | some r => match eqS r (.sym (.int .i64) i) with | true => some e.j | false => ih
      | none => ih
    | false => ih) T
/-- A slice made of a length by a name. -/
noncomputable def makeN (P : Program) (g : Cfg) (h : RH) (t : TypeId) (l c : RV) : Option Eff :=
  match P.underlying t, l, c with
  | some (.slice elem), .sym (.int .i64) i, .sym (.int .i64) i' =>
    match sizeB P elem, zeroCellsOf P elem with
    | some 1, some [z] =>
      if Nat.beq i i' && one z && flat0 z && Nat.ble (((P.info? elem).map (·.bytes)).getD 70000) 65536 then (lmlook g.LM i z).map fun j => .newB (.slN h.length j 1) (.lst j elem true) else none
    | some (m + 2), some (z :: zs) =>
      if Nat.beq i i' && one z && flat0 z && zs.all (fun r => eqS r z) && Nat.beq zs.length (m + 1) && Nat.ble (((P.info? elem).map (·.bytes)).getD 70000) 65536 then (lmfind g.LL i (m + 2) z g.LM).map fun j => .newB (.slN h.length j (m + 2)) (.lst j elem true) else none
    | _, _ => none
  | _, _, _ => none
/-- A slice that holds nothing, with room of a size by a name. -/
noncomputable def makeR (P : Program) (g : Cfg) (h : RH) (t : TypeId) (l c : RV) : Option Eff :=
  match P.underlying t, l, c with
  | some (.slice elem), .pl (.int .i64 0), .sym (.int .i64) i =>
    match sizeB P elem, zeroCellsOf P elem, g.LZ with
    | some 1, some [z], j :: _ =>
      if one z && flat0 z && Nat.ble (((P.info? elem).map (·.bytes)).getD 70000) 65536 then (lmlook g.LM i z).map fun _ => .newB (.slN h.length j 1) (.lst j elem true) else none
    | _, _, _ => none
  | _, _, _ => none
noncomputable def mMake (P : Program) (g : Cfg) (h : RH) (t : TypeId) (l c : RV) : Option Eff :=
  match makeSliceOp P h t l c with
  | some e => some e
  | none => match makeN P g h t l c with
    | some e => some e
    | none => makeR P g h t l c
noncomputable def eqLen (g : Cfg) (i j s : Nat) : Bool :=
  match Nat.beq i j with
  | true => true
  | false => match lenlook g.LL i s, lenlook g.LL j s with
    | some r, some r' => eqS r r'
    | _, _ => false
/-- A named list copied over another one of its length. -/
noncomputable def copyN (P : Program) (g : Cfg) (h : RH) (argTypes : Array TypeId) (d x : RV) : Option Eff :=
  match argTypes.toList, d, x with
  | tD :: _, .slN b i s, .slA b' i' s' =>
    match P.underlying tD, lkp h b, lkp h b' with
    | some (.slice elem), some (.lst _ e true), some (.lstA i'') =>
      match sizeB P elem, lenlook g.LL i s, lenlook g.LL i' s' with
      | some sz, some r, some r' => if sz = s ∧ s' = s ∧ i'' = i' ∧ eqS r r' = true ∧ g.OC.contains i' = true then some (.setB r b (.lst i' e true)) else none
      | _, _, _ => none
    | _, _, _ => none
  | tD :: _, .slN b i s, .slN b' i' s' =>
    match P.underlying tD, lkp h b, lkp h b' with
    | some (.slice elem), some (.lst _ e true), some (.lst i'' _ _) =>
      match sizeB P elem, lenlook g.LL i s, lenlook g.LL i'' s' with
      | some sz, some r, some r' => if sz = s ∧ s' = s ∧ eqLen g i' i'' s' = true ∧ eqS r r' = true ∧ g.OC.contains i'' = true then some (.setB r b (.lst i'' e true)) else none
      | _, _, _ => none
    | _, _, _ => none
  | tD :: _, .slN b i s, .slX b' k _ i' s' =>
    match P.underlying tD, lkp h b, lkp h b' with
    | some (.slice elem), some (.lst _ e true), some (.lstL k' _ s'') =>
      match sizeB P elem, lenlook g.LL i s, lenlook g.LL i' s' with
      | some sz, some r, some r' => if sz = s ∧ s' = s ∧ (k' = k ∧ s'' = s') ∧ eqS r r' = true ∧ g.OC.contains i' = true then some (.setB r b (.lst i' e true)) else none
      | _, _, _ => none
    | _, _, _ => none
  | _, _, _ => none
/-- An element by a name's number, put anew. -/
noncomputable def storeEl (P : Program) (g : Cfg) (h : RH) (ty : TypeId) (a x : RV) : Option Eff :=
  match a, quiet P (sizeOf ty) with
  | .el b i 1, some 1 => match lkp h b with
    | some (.lst k e true) => match flat0 x && one x with
      | true => (lwlook g.LW k i x).map fun j => .setB (.pl undef) b (.lst j e true)
      | false => none
    | _ => none
  | .elF b i s o, some 1 => match lkp h b with
    | some (.lst k e true) => match flat0 x && one x with
      | true => (lflook g.LF k i s o x).map fun j => .setB (.pl undef) b (.lst j e true)
      | false => none
    | _ => none
  | .el b i s, some (n + 2) => match lkp h b with
    | some (.lst k e true) => match Nat.beq s (n + 2) && Nat.beq (cellsOf x).length s && !isW x && (cellsOf x).all (fun r => flat0 r && one r) with
      | true => (lfchain g.LF i s (cellsOf x) k 0).map fun j => .setB (.pl undef) b (.lst j e true)
      | false => none
    | _ => none
  | _, _ => none
noncomputable def mStore (P : Program) (g : Cfg) (h : RH) (ty : TypeId) (a x : RV) : Option Eff :=
  match storeOp P h ty a x with
  | some e => some e
  | none => storeEl P g h ty a x
noncomputable def lnlook (T : List LNL) (i : Option Nat) (j : Nat) : Option Nat :=
  List.rec (motive := fun _ => Option Nat) none (fun e _ ih => match Nat.beq e.j j with
    | true => match i, e.i with
      | none, none => some e.k
      | some a, some b => match Nat.beq a b with | true => some e.k | false => ih
      | _, _ => ih
    | false => ih) T
noncomputable def appNest1 (g : Cfg) (h : RH) (elem : TypeId) (s : RV) (b2 j sz : Nat) : Option Eff :=
  match lkp h b2 with
  | some (.lst j' _ true) => match Nat.beq j j' with
    | true => match s with
      | .pl (.slice none 0 0) => (lnlook g.LNA none j).map fun k => .move2 (.slN h.length k 1) b2 b2 (.lstL k elem sz)
      | .slN b i 1 => match lkp h b with
        | some (.lstL i' e' s') => if i = i' ∧ e' = elem ∧ s' = sz ∧ b ≠ b2 then (lnlook g.LNA (some i) j).map fun k => .move2 (.slN h.length k 1) b b2 (.lstL k elem sz) else none
        | _ => none
      | _ => none
    | false => none
  | _ => none
/-- A list of our own behind a list of lists. -/
noncomputable def appNest (P : Program) (g : Cfg) (h : RH) (argTypes : Array TypeId) (s x : RV) : Option Eff :=
  match argTypes.toList with
  | [tS, tX] => match P.underlying tS with
    | some (.slice elem) => match P.info? elem, zeroCellsOf P elem with
      | some t, some zero =>
        if t.size ≠ 1 || zero.length ≠ 1 || !(Nat.ble t.bytes 1000) then none else
        match srcCells P h tS tX elem 1 x with
        | some ([.slN b2 j sz], 1) => appNest1 g h elem s b2 j sz
        | _ => none
      | _, _ => none
    | _ => none
  | _ => none
noncomputable def clearOp (P : Program) (h : RH) (argTypes : Array TypeId) (x : RV) : Option Eff :=
  match argTypes.toList with
  | t :: _ => match P.underlying t, x with
    | some (.slice elem), .sl b o n _ _ => match zeroCellsOf P elem with
      | some zero => match Nat.beq n 0 with
        | true => some (.val (.pl (.tuple #[])))
        | false => match Nat.ble 1 zero.length with
          | true => (putCells h b o (rep n zero)).map (.setB (.pl (.tuple #[])) b)
          | false => none
      | none => none
    | _, _ => none
  | _ => none
/-- So many zeros behind nothing. -/
noncomputable def appZ (P : Program) (h : RH) (argTypes : Array TypeId) (s x : RV) : Option Eff :=
  match argTypes.toList, s, x with
  | [tS, tX], .pl (.slice none 0 0), .pl (.int .i64 n) => match P.underlying tS, P.underlying tX with
    | some (.slice elem), some (.int _) => match P.info? elem, zeroCellsOf P elem with
      | some i, some zero =>
        if i.size ≠ 0 && zero.length = i.size && zero.all one && 0 < n && n ≤ 1000000000 && n.toNat * i.bytes ≤ 1000000000 then
          some (.newB (.sl h.length 0 n.toNat i.size none) (.cells (rep n.toNat zero) elem true false))
        else none
      | _, _ => none
    | _, _ => none
  | _, _, _ => none
noncomputable def builtinOp (P : Program) (g : Cfg) (h : RH) (b : Builtin) (argTypes : Array TypeId) (args : List RV) : Option Eff :=
  match b, args with
  | .append, [s, x] => match appNest P g h argTypes s x with
    | some e => some e
    | none => match appendOp P h argTypes s x with
    | some e => some e
    | none => match appN P g h argTypes s x with
      | some e => some e
      | none => match appP P g h argTypes s x with
        | some e => some e
        | none => match appLQ P g h argTypes s x with
          | some e => some e
          | none => match appA P g h argTypes s x with
            | some e => some e
            | none => match appS P g h argTypes s x with
              | some e => some e
              | none => appZ P h argTypes s x
  | .copy, [d, x] => match copyOp P h argTypes d x with
    | some e => some e
    | none => copyN P g h argTypes d x
  | .len, [.pl (.string s)] => match argTypes.toList with
    | [t] => match P.underlying t with
      | some .string => some (.val (.pl (goInt (lenB s.data.toList))))
      | _ => none
    | _ => none
  | .len, [.sym .str i] => match argTypes.toList with
    | [t] => match P.underlying t with
      | some .string => (tlook g.T .len (.sym .str i) (.sym .str i)).map .same
      | _ => none
    | _ => none
  | .len, [.sl _ _ n _ _] => match argTypes.toList with
    | [t] => match P.underlying t with
      | some (.slice _) => some (.val (.pl (goInt n)))
      | _ => none
    | _ => none
  | .len, [.slN _ i s] => match argTypes.toList with
    | [t] => match P.underlying t with
      | some (.slice _) => (lenlook g.LL i s).map .same
      | _ => none
    | _ => none
  | .len, [.slA _ i s] => match argTypes.toList with
    | [t] => match P.underlying t with
      | some (.slice _) => (lenlook g.LL i s).map .same
      | _ => none
    | _ => none
  | .len, [.slX _ _ _ j s] => match argTypes.toList with
    | [t] => match P.underlying t with
      | some (.slice _) => (lenlook g.LL j s).map .same
      | _ => none
    | _ => none
  | .cap, [.sl b o _ s c] => match argTypes.toList with
    | [t] => match P.underlying t with
      | some (.slice _) => (capOf h b o s c).map fun k => .val (.pl (goInt k))
      | _ => none
    | _ => none
  | .unsafeSliceData, [.sl b o n _ _] => if 0 < n then some (.val (.ptr b o)) else none
  | .unsafeString, [p, l] => unsafeStringOp P (mslook g.MS) h argTypes p l
  | .min, [x, y] => minOp g.T false x y
  | .max, [x, y] => minOp g.T true x y
  | .clear, [x] => clearOp P h argTypes x
  | _, _ => none

/-- An operation that looks at no memory, all of whose operands are plain. -/
noncomputable def pureOp (P : Program) (o : Oper) (t : List RV) : Option Eff :=
  match o.op with
  | .select _ _ => none
  | _ =>
    if o.op.operands.toList.all (fun x => (ev t x).isPl) then
      match quiet P (execOp (fun x => (ev t x).v) o) with
      | some (.value v) => some (.val (.pl v))
      | some .skip => some (.val (.pl undef))
      | some (.enter f args) => some (.call f (args.toList.map .pl))
      | _ => none
    else none

def fastInt (op : BinOp) (k : IntKind) (a b : Int) : Option RV :=
  match op with
  | .add => some (.pl (.int k (k.wrap (a + b))))
  | .sub => some (.pl (.int k (k.wrap (a - b))))
  | .mul => some (.pl (.int k (k.wrap (a * b))))
  | .eql => some (.pl (.bool (a == b)))
  | .neq => some (.pl (.bool (a != b)))
  | .lss => some (.pl (.bool (a < b)))
  | .leq => some (.pl (.bool (a ≤ b)))
  | .gtr => some (.pl (.bool (a > b)))
  | .geq => some (.pl (.bool (a ≥ b)))
  | _ => none

def fastBool (P : Program) (op : BinOp) (ty : TypeId) (a b : Bool) : Option Eff :=
  match op, P.underlying ty with
  | .eql, some .bool => some (.val (.pl (.bool (a == b))))
  | .neq, some .bool => some (.val (.pl (.bool (!(a == b)))))
  | _, _ => none

noncomputable def mPick (c a b : RV) : Option Eff :=
  match c with
  | .pl (.bool q) => some (.same (if q then a else b))
  | _ => none
noncomputable def mAlloc (P : Program) (e : TypeId) (h : RH) : Option Eff :=
  (zeroCellsOf P e).bind fun cs => if cs.all one then some (.newB (.ptr h.length 0) (.cells cs e false false)) else none
noncomputable def mBox (e : TypeId) (x : RV) (h : RH) : Option Eff :=
  if (cellsOf x).all one && !isW x then some (.newB (.ptr h.length 0) (.cells (cellsOf x) e false false)) else none
noncomputable def mNil : RV → Option Eff
  | .ptr b o => some (.same (.ptr b o))
  | _ => none
noncomputable def binII (op : BinOp) (k : IntKind) (a : Int) (k' : IntKind) (b : Int) : Option Eff := if k = k' then (fastInt op k a b).map .val else none
noncomputable def binRef (P : Program) (op : BinOp) (ty : TypeId) (x y : RV) : Option Eff :=
  match op with
  | .eql => (eqlOp P ty x y).map fun b => .val (.pl (.bool b))
  | .neq => (eqlOp P ty x y).map fun b => .val (.pl (.bool !b))
  | _ => none
noncomputable def binSS (op : BinOp) (a b : ByteArray) : Option Eff := (fastStr op a b).map .val
noncomputable def binAA (P : Program) (op : BinOp) (ty : TypeId) (a b : Array Value) : Option Eff := (fastAgg P op ty a b).map .val
noncomputable def mBin (P : Program) (op : BinOp) (ty : TypeId) (x y : RV) : Option Eff :=
  match x, y with
  | .pl (.int k a), .pl (.int k' b) => binII op k a k' b
  | .pl (.bool a), .pl (.bool b) => fastBool P op ty a b
  | .pl (.string a), .pl (.string b) => binSS op a b
  | .pl (.agg a), .pl (.agg b) => binAA P op ty a b
  | x, y => binRef P op ty x y
/-- '==' where names stand among the operands. -/
noncomputable def eqLeaf (P : Program) (g : Cfg) (t : TypeId) (x y : RV) : Option Bool :=
  match P.underlying t, x, y with
  | _, .pl u, .pl v => eqV P 1 t u v
  | some (.int _), .sym (.int k) i, .sym (.int k') j => match eqS (.sym (.int k) i) (.sym (.int k') j) with
    | true => some true
    | false => match tlook g.T .ieq x y with | some (.pl (.bool b)) => some b | _ => none
  | some (.int _), x, y => match tlook g.T .ieq x y with | some (.pl (.bool b)) => some b | _ => none
  | some .bool, .sym .bool i, .sym .bool j => match Nat.beq i j with
    | true => some true
    | false => match tlook g.T .beq x y with | some (.pl (.bool b)) => some b | _ => none
  | some .bool, x, y => match tlook g.T .beq x y with | some (.pl (.bool b)) => some b | _ => none
  | some .string, .sym .str i, .sym .str j => match Nat.beq i j with
    | true => some true
    | false => match tlook g.T .seq x y with | some (.pl (.bool b)) => some b | _ => none
  | some .string, x, y => match tlook g.T .seq x y with | some (.pl (.bool b)) => some b | _ => none
  | _, _, _ => none
noncomputable def aggL : RV → Option (List RV)
  | .agg l => some l
  | .pl (.agg vs) => some (vs.toList.map .pl)
  | _ => none
def isAggV : RV → Bool
  | .pl (.agg _) => true
  | _ => false
noncomputable def partR (P : Program) (t : TypeId) (l : List RV) (off : Nat) : Option RV :=
  match quiet P (isAgg t) with
  | some true => match sizeB P t with
    | some n => (seg l off n).map .agg
    | none => none
  | some false => l[off]?
  | none => none
noncomputable def eqFieldsR (P : Program) (e : TypeId → RV → RV → Option Bool) (xs ys : List RV) (fs : List Field) : Option Bool :=
  List.rec (motive := fun _ => Option Bool) (some true) (fun f _ ih =>
    if f.name = "_" then ih else
    match partR P f.type xs f.offset, partR P f.type ys f.offset with
    | some a, some b => match e f.type a b with
      | some true => ih
      | r => r
    | _, _ => none) fs
noncomputable def eqElemsR (P : Program) (e : TypeId → RV → RV → Option Bool) (elem : TypeId) (n : Nat) (xs ys : List RV) (is : List Nat) : Option Bool :=
  List.rec (motive := fun _ => Option Bool) (some true) (fun i _ ih =>
    match partR P elem xs (i * n), partR P elem ys (i * n) with
    | some a, some b => match e elem a b with
      | some true => ih
      | r => r
    | _, _ => none) is
noncomputable def eqR (P : Program) (g : Cfg) (d : Nat) : TypeId → RV → RV → Option Bool :=
  Nat.rec (motive := fun _ => TypeId → RV → RV → Option Bool) (fun _ _ _ => none) (fun _ ih t x y =>
    match P.underlying t with
    | some (.struct fs) => match P.stoodInHeld t, aggL x, aggL y with
      | false, some xs, some ys => eqFieldsR P ih xs ys fs.toList
      | _, _, _ => none
    | some (.array len elem) => match sizeB P elem, aggL x, aggL y with
      | some n, some xs, some ys => eqElemsR P ih elem n xs ys (List.range len)
      | _, _, _ => none
    | _ => eqLeaf P g t x y) d
noncomputable def hasSym (x y : RV) : Bool :=
  match x, y with
  | .sym _ _, _ => true
  | _, .sym _ _ => true
  | .agg l, _ => l.all flat0
  | _, .agg l => l.all flat0
  | _, _ => false
/-- '==' of two scalars, by what is known. -/
noncomputable def eqKnown (P : Program) (g : Cfg) (ty : TypeId) (x y : RV) : Option Bool :=
  match tlook g.T .ieq x y with
  | some (.pl (.bool b)) => some b
  | _ => match tlook g.T .seq x y with
    | some (.pl (.bool b)) => some b
    | _ => match P.underlying ty with
      | some .bool => match tlook g.T .beq x y with
        | some (.pl (.bool b)) => some b
        | _ => none
      | _ => none
noncomputable def eqScal (P : Program) (g : Cfg) (ty : TypeId) (x y : RV) : Option Bool :=
  match x, y with
  | .sym (.int k) i, .sym (.int k') j => match eqS (.sym (.int k) i) (.sym (.int k') j) with
    | true => some true
    | false => eqKnown P g ty x y
  | .sym .str i, .sym .str j => match Nat.beq i j with
    | true => some true
    | false => eqKnown P g ty x y
  | .sym .bool i, .sym .bool j => match Nat.beq i j, P.underlying ty with
    | true, some .bool => some true
    | _, _ => eqKnown P g ty x y
  | x, y => eqKnown P g ty x y
noncomputable def eqAgg (P : Program) (g : Cfg) (ty : TypeId) (x y : RV) : Option Bool :=
  match P.eqGuardType P.depth ty, aggL x, aggL y with
  | false, some _, some _ => eqR P g 8 ty x y
  | _, _, _ => none
noncomputable def symEq (P : Program) (g : Cfg) (ty : TypeId) (x y : RV) : Option Bool :=
  match flat0 x, flat0 y, isAggV x, isAggV y with
  | true, true, false, false => eqScal P g ty x y
  | _, _, _, _ => eqAgg P g ty x y
noncomputable def symBin (P : Program) (g : Cfg) (op : BinOp) (ty : TypeId) (x y : RV) : Option Eff :=
  match hasSym x y with
  | false => none
  | true => match op with
    | .eql => (symEq P g ty x y).map fun b => .val (.pl (.bool b))
    | .neq => (symEq P g ty x y).map fun b => .val (.pl (.bool !b))
    | op => (tlook g.T (.bin op) x y).map .same
/-- A slice that came in and holds something is not nil. -/
noncomputable def slaNil (P : Program) (g : Cfg) (op : BinOp) (ty : TypeId) (x y : RV) : Option Eff :=
  match op, x, y, P.underlying ty with
  | .eql, .slA _ i _, .pl (.slice none _ _), some (.slice _) => (lblook0 g.LB i).map fun _ => .val (.pl (.bool false))
  | .neq, .slA _ i _, .pl (.slice none _ _), some (.slice _) => (lblook0 g.LB i).map fun _ => .val (.pl (.bool true))
  | _, _, _, _ => none
noncomputable def mBinS (P : Program) (g : Cfg) (op : BinOp) (ty : TypeId) (x y : RV) : Option Eff :=
  match mBin P op ty x y with
  | some e => some e
  | none => match slaNil P g op ty x y with
    | some e => some e
    | none => symBin P g op ty x y
noncomputable def symNot (g : Cfg) (x : RV) : Option Eff :=
  match x with
  | .sym .bool i => (tlook g.T .not (.sym .bool i) (.sym .bool i)).map .same
  | _ => none
/-- A number's opposite: 0 less the number. -/
noncomputable def symNeg (g : Cfg) (x : RV) : Option Eff :=
  match x with
  | .sym (.int k) i => (tlook g.T (.bin .sub) (.pl (.int k 0)) (.sym (.int k) i)).map .same
  | _ => none
noncomputable def mNot : RV → Option Eff
  | .pl (.bool b) => some (.val (.pl (.bool !b)))
  | _ => none
noncomputable def symSlice (P : Program) (g : Cfg) (ty : TypeId) (x : RV) (lo hi : Option RV) : Option Eff :=
  match P.underlying ty, lo, hi with
  | some .string, some l, some r => (sslook g.SS x l r).map .same
  | some .string, none, some r => (sslook g.SS x (.pl (.int .i64 0)) r).map .same
  | some .string, some l, none => match tlook g.T .len x x with
    | some r => (sslook g.SS x l r).map .same
    | none => none
  | _, _, _ => none
noncomputable def eqO (x y : Option RV) : Bool :=
  match x, y with
  | none, none => true
  | some x, some y => eqS x y
  | _, _ => false
noncomputable def lplook (T : List LPE) (i s : Nat) (lo hi : Option RV) : Option (Nat × Nat) :=
  List.rec (motive := fun _ => Option (Nat × Nat)) none (fun e _ ih => match Nat.beq e.i i with
    | true => match Nat.beq e.s s with
      | true => match eqO e.lo lo with
        | true => match eqO e.hi hi with | true => some (e.j, e.a) | false => ih
        | false => ih
      | false => ih
    | false => ih) T
/-- A part of a named list. -/
noncomputable def partSl (P : Program) (g : Cfg) (ty : TypeId) (b i s : Nat) (lo hi : Option RV) : Option Eff :=
  match P.underlying ty with
  | some (.slice elem) => match sizeB P elem with
    | some (s' + 1) => match Nat.beq s (s' + 1) with
      | true => match lplook g.LP i s lo hi with
        | some (j, a) => some (.val (.slP b i j s a))
        | none => none
      | false => none
    | _ => none
  | _ => none
noncomputable def mSlice (P : Program) (g : Cfg) (h : RH) (ty : TypeId) (x : RV) (lo hi mx : Option RV) : Option Eff :=
  match x, mx with
  | .pl (.string s), none => match strSlice P ty s lo hi with
    | some v => some (.val v)
    | none => symSlice P g ty (.pl (.string s)) lo hi
  | .sym .str i, none => symSlice P g ty (.sym .str i) lo hi
  | .slN b i s, none => partSl P g ty b i s lo hi
  | x, mx => (sliceOp P h ty x lo hi mx).map .val
noncomputable def nameQ (T : List (Nat × List RV)) (l : List RV) : Option Nat :=
  List.rec (motive := fun _ => Option Nat) none (fun e _ ih => match eqSs e.2 l with | true => some e.1 | false => ih) T
/-- What is left of a slice of our own, behind its first elements: wherever it lies. -/
noncomputable def sliceQ0 (P : Program) (g : Cfg) (h : RH) (ty : TypeId) (b n s : Nat) (m : Int) : Option Eff :=
  match P.underlying ty, lkp h b with
  | some (.slice elem), some (.cells l e true false) => match sizeB P elem with
    | some s' => if s = s' ∧ 0 < s ∧ 0 ≤ m ∧ m.toNat ≤ n ∧ l.length = n * s ∧ l.all flat0 = true then (nameQ g.LQ (l.drop (m.toNat * s))).map fun i => .moveB (.slA h.length i s) b (.lstQ i e s) else none
    | none => none
  | _, _ => none
noncomputable def sliceQ1 (P : Program) (g : Cfg) (h : RH) (ty : TypeId) (b i s : Nat) (lo : RV) : Option Eff :=
  match P.underlying ty, lkp h b with
  | some (.slice elem), some (.lstQ i' e s') => match sizeB P elem with
    | some z => if s = z ∧ s' = s ∧ i' = i then (lplook g.LP i s (some lo) none).map fun j => .moveB (.slA h.length j.1 s) b (.lstQ j.1 e s) else none
    | none => none
  | _, _ => none
/-- The same of a named list of our own: where the table gives the part's first number the name 77777. -/
noncomputable def sliceQ2 (P : Program) (g : Cfg) (h : RH) (ty : TypeId) (b i s : Nat) (lo : RV) : Option Eff :=
  match P.underlying ty, lkp h b with
  | some (.slice elem), some (.lst i' e true) => match sizeB P elem with
    | some z => if s = z ∧ i' = i then (match lplook g.LP i s (some lo) none with
      | some (j, a) => match Nat.beq a 77777 with | true => some (.moveB (.slA h.length j s) b (.lstQ j e s)) | false => none
      | none => none) else none
    | none => none
  | _, _ => none
noncomputable def sliceQ (P : Program) (g : Cfg) (h : RH) (ty : TypeId) (x : RV) (lo hi mx : Option RV) : Option Eff :=
  match x, lo, hi, mx with
  | .sl b 0 n s none, some (.pl (.int _ m)), none, none => sliceQ0 P g h ty b n s m
  | .slA b i s, some lo, none, none => sliceQ1 P g h ty b i s lo
  | .slN b i s, some lo, none, none => sliceQ2 P g h ty b i s lo
  | _, _, _, _ => none
/-- The three-index form, from the beginning. -/
noncomputable def sliceClip (P : Program) (ty : TypeId) (x : RV) (lo hi mx : Option RV) : Option Eff :=
  match x, lo, hi, mx with
  | .sl b o n s _, none, some (.pl (.int _ g)), some (.pl (.int _ m)) => match P.underlying ty with
    | some (.slice elem) => match sizeB P elem with
      | some s' => if s = s' ∧ 0 ≤ g ∧ g ≤ m ∧ m ≤ (n : Int) then some (.val (.sl b o g.toNat s (some m.toNat))) else none
      | none => none
    | _ => none
  | _, _, _, _ => none
noncomputable def mSliceQ (P : Program) (g : Cfg) (h : RH) (ty : TypeId) (x : RV) (lo hi mx : Option RV) : Option Eff :=
  match sliceQ P g h ty x lo hi mx with
  | some e => some e
  | none => match sliceClip P ty x lo hi mx with
    | some e => some e
    | none => mSlice P g h ty x lo hi mx
noncomputable def aggIndex (P : Program) (ty : TypeId) (l : List RV) (i : Int) : Option Eff :=
  match P.underlying ty with
  | some (.array len elem) => match sizeB P elem with
    | some s => if 0 ≤ i ∧ i < len then (partOp P elem l (i.toNat * s)).map .same else none
    | none => none
  | _ => none
noncomputable def symIndex (P : Program) (g : Cfg) (ty : TypeId) (x i : RV) : Option Eff :=
  match P.underlying ty with
  | some .string => (tlook g.T .idx x i).map .same
  | _ => none
noncomputable def mIndex (P : Program) (g : Cfg) (ty : TypeId) (x i : RV) : Option Eff :=
  match x, i with
  | .pl (.string s), .pl (.int _ i) => (strIndex P ty s i).map .val
  | .agg l, .pl (.int _ i) => aggIndex P ty l i
  | .sym .str j, i => symIndex P g ty (.sym .str j) i
  | .pl (.string s), .sym k j => symIndex P g ty (.pl (.string s)) (.sym k j)
  | _, _ => none
noncomputable def symConv (P : Program) (g : Cfg) (s d : TypeId) (x : RV) : Option Eff :=
  match x, P.underlying s, P.underlying d with
  | .sym k i, some (.int _), some (.int k') => (tlook g.T (.conv k') (.sym k i) (.sym k i)).map .same
  | _, _, _ => none
/-- Bytes as a string; a string as bytes. -/
noncomputable def bytesStr (P : Program) (g : Cfg) (h : RH) (sT dT : TypeId) (x : RV) : Option RV :=
  match x, P.underlying sT, P.underlying dT with
  | .sl b o n _ _, some (.slice e), some .string => match P.underlying e with
    | some (.int .u8) => match getCells h b o n with
      | some l => strM (mslook g.MS) l
      | none => none
    | _ => none
  | _, _, _ => none
noncomputable def strBytes (P : Program) (h : RH) (sT dT : TypeId) (x : RV) : Option Eff :=
  match x, P.underlying sT, P.underlying dT with
  | .pl (.string s), some _, some (.slice e) => match P.underlying e with
    | some (.int .u8) => some (.newB (.sl h.length 0 (lenB s.data.toList) 1 none) (.cells (bytesR s) e true false))
    | _ => none
  | _, _, _ => none
/-- Bytes told as bytes: they are marked behind their end. -/
noncomputable def idBytes (P : Program) (h : RH) (sT dT : TypeId) (x : RV) : Option Eff :=
  match x, P.underlying sT, P.underlying dT with
  | .sl b o n s c, some (.slice _), some (.slice e) => match P.underlying e, Nat.beq sT dT with
    | some (.int .u8), true => match lkp h b with
      | some (.cells l e' room false) => some (.setB (.sl b o n s c) b (.cells l e' room false))
      | _ => none
    | _, _ => none
  | _, _, _ => none
/-- A named list of bytes as a string by a name. -/
noncomputable def strN (P : Program) (g : Cfg) (h : RH) (sT dT : TypeId) (x : RV) : Option RV :=
  match x, P.underlying sT, P.underlying dT with
  | .slN b i 1, some (.slice e), some .string => match P.underlying e, lkp h b with
    | some (.int .u8), some (.lst i' _ true) => match Nat.beq i' i with
      | true => (bslookL g.BS i).map (.sym .str)
      | false => none
    | _, _ => none
  | _, _, _ => none
noncomputable def mConv (P : Program) (g : Cfg) (h : RH) (s d : TypeId) (x : RV) : Option Eff :=
  match unsafeConv P h s d x with
  | some v => some (.val v)
  | none => match bytesStr P g h s d x with
    | some v => some (.val v)
    | none => match strBytes P h s d x with
      | some e => some e
      | none => match idBytes P h s d x with
        | some e => some e
        | none => match strN P g h s d x with
          | some v => some (.same v)
          | none => symConv P g s d x
noncomputable def mExtract (x : RV) (i : Nat) : Option Eff :=
  match x with
  | .pl (.tuple vs) => (nthV vs.toList i).map fun v => .same (.pl v)
  | .tup l => (l[i]?).map .same
  | _ => none
noncomputable def nlook (T : List NE) (l : List RV) (i : Nat) : Option (List RV) :=
  List.rec (motive := fun _ => Option (List RV)) none (fun e _ ih => match Nat.beq e.i i with
    | true => match eqSs e.l l with | true => some e.r | false => ih
    | false => ih) T
noncomputable def ellook (T : List LEE) (l i : Nat) : Option (List RV) :=
  List.rec (motive := fun _ => Option (List RV)) none (fun e _ ih => match Nat.beq e.l l with
    | true => match Nat.beq e.i i with | true => some e.r | false => ih
    | false => ih) T
noncomputable def elAddr (P : Program) (g : Cfg) (t : TypeId) (x ix : RV) : Option Eff :=
  match x, ix, P.underlying t with
  | .sl b 0 n s none, .sym (.int k) i, some (.slice elem) => match sizeB P elem with
    | some (s' + 1) => match Nat.beq s (s' + 1), tlook g.T .inb (.sym (.int k) i) (.pl (.int .i64 n)) with
      | true, some (.pl (.bool true)) => some (.val (.el b i s))
      | _, _ => none
    | _ => none
  | .slN b l s, .sym (.int k) i, some (.slice elem) => match sizeB P elem with
    | some (s' + 1) => match Nat.beq s (s' + 1), lenlook g.LL l s with
      | true, some r => match tlook g.T .inb (.sym (.int k) i) r with
        | some (.pl (.bool true)) => some (.val (.el b i s))
        | _ => none
      | _, _ => none
    | _ => none
  | .slA b l s, .sym (.int k) i, some (.slice elem) => match sizeB P elem with
    | some (s' + 1) => match Nat.beq s (s' + 1), lenlook g.LL l s with
      | true, some r => match tlook g.T .inb (.sym (.int k) i) r with
        | some (.pl (.bool true)) => some (.val (.elA b i s))
        | _ => none
      | _, _ => none
    | _ => none
  | .slX b l q j s, .sym (.int k) i, some (.slice elem) => match sizeB P elem with
    | some (s' + 1) => match Nat.beq s (s' + 1), lenlook g.LL j s with
      | true, some r => match tlook g.T .inb (.sym (.int k) i) r with
        | some (.pl (.bool true)) => some (.val (.elX b l q j i s))
        | _ => none
      | _, _ => none
    | _ => none
  | .ptr b 0, .sym (.int k) i, some (.array n elem) => match sizeB P elem with
    | some (s' + 1) => match tlook g.T .inb (.sym (.int k) i) (.pl (.int .i64 n)) with
      | some (.pl (.bool true)) => some (.val (.el b i (s' + 1)))
      | _ => none
    | _ => none
  | _, _, _ => none
noncomputable def izlook (T : List (Nat × Nat)) (n : Nat) : Option Nat :=
  List.rec (motive := fun _ => Option Nat) none (fun e _ ih => match Nat.beq e.2 n with | true => some e.1 | false => ih) T
/-- A number, by a name that stands for it. -/
noncomputable def elAddrZ (P : Program) (g : Cfg) (t : TypeId) (x ix : RV) : Option Eff :=
  match x, ix with
  | .slA b l s, .pl (.int .i64 (.ofNat n)) => match izlook g.IZ n with
    | some i => elAddr P g t (.slA b l s) (.sym (.int .i64) i)
    | none => none
  | .slN b l s, .pl (.int .i64 (.ofNat n)) => match izlook g.IZ n with
    | some i => elAddr P g t (.slN b l s) (.sym (.int .i64) i)
    | none => none
  | .slX b l q j s, .pl (.int .i64 (.ofNat n)) => match izlook g.IZ n with
    | some i => elAddr P g t (.slX b l q j s) (.sym (.int .i64) i)
    | none => none
  | x, ix => elAddr P g t x ix
noncomputable def mIndexAddr (P : Program) (g : Cfg) (t : TypeId) (x ix : RV) : Option Eff :=
  match indexAddrOp P t x ix with
  | some v => some (.val v)
  | none => elAddrZ P g t x ix
noncomputable def rowQ (g : Cfg) (h : RH) (b i : Nat) : Option (List RV) :=
  match lkp h b with
  | some (.cells l _ _ _) => nlook g.N l i
  | some (.lent l _) => nlook g.N l i
  | some (.lst k _ _) => ellook g.LX k i
  | _ => none
noncomputable def rowA (g : Cfg) (h : RH) (b i : Nat) : Option (List RV) :=
  match lkp h b with
  | some (.lstA k) => ellook g.LX k i
  | some (.lstQ k _ _) => ellook g.LX k i
  | _ => none
/-- A field of an element by a name's number. -/
noncomputable def elField (P : Program) (s : TypeId) (x : RV) (f : Nat) : Option RV :=
  match x, P.underlying s with
  | .el b i n, some (.struct fs) =>
    match fs[f]? with
    | some fd => match sizeB P fd.type with
      | some (_ + 1) => some (.elF b i n fd.offset)
      | _ => none
    | none => none
  | .elA b i n, some (.struct fs) =>
    match fs[f]? with
    | some fd => match sizeB P fd.type with
      | some (_ + 1) => some (.elB b i n fd.offset)
      | _ => none
    | none => none
  | _, _ => none
noncomputable def mFieldAddr (P : Program) (s : TypeId) (x : RV) (f : Nat) : Option RV :=
  match fieldAddrOp P s x f with
  | some v => some v
  | none => elField P s x f
noncomputable def elLoad (P : Program) (g : Cfg) (h : RH) (ty : TypeId) (a : RV) : Option RV :=
  match a, quiet P (isAgg ty), quiet P (sizeOf ty) with
  | .el b i s, some agg, some sz => match Nat.beq (cellsN agg sz) s, rowQ g h b i with
    | true, some r => match Nat.beq r.length s with | true => loadAs agg r | false => none
    | _, _ => none
  | .elA b i s, some agg, some sz => match Nat.beq (cellsN agg sz) s, rowA g h b i with
    | true, some r => match Nat.beq r.length s with | true => loadAs agg r | false => none
    | _, _ => none
  | .elF b i s o, some agg, some sz => match Nat.ble (o + cellsN agg sz) s, rowQ g h b i with
    | true, some r => match Nat.beq r.length s with | true => loadAs agg ((r.drop o).take (cellsN agg sz)) | false => none
    | _, _ => none
  | .elB b i s o, some agg, some sz => match Nat.ble (o + cellsN agg sz) s, rowA g h b i with
    | true, some r => match Nat.beq r.length s with | true => loadAs agg ((r.drop o).take (cellsN agg sz)) | false => none
    | _, _ => none
  | _, _, _ => none
noncomputable def lnxlook (T : List LNX) (i n : Nat) : Option Nat :=
  List.rec (motive := fun _ => Option Nat) none (fun e _ ih => match Nat.beq e.i i with
    | true => match Nat.beq e.n n with | true => some e.j | false => ih
    | false => ih) T
/-- Is the block the list of lists i, of lists with elements of s cells. -/
noncomputable def innOK (h : RH) (b i s : Nat) : Bool :=
  match lkp h b with
  | some (.lstL i' _ s') => Nat.beq i i' && Nat.beq s s'
  | some (.lstB i' s') => Nat.beq i i' && Nat.beq s s'
  | _ => false
/-- An element of a list of lists; a whole block that is a named list; an element of an element of a list of lists. -/
noncomputable def nestLoad (P : Program) (g : Cfg) (h : RH) (ty : TypeId) (a : RV) : Option RV :=
  match a, quiet P (isAgg ty), quiet P (sizeOf ty) with
  | .elA b i 1, some false, some 1 => match lkp h b with
    | some (.lstB k sz) => (lnxlook g.LNE k i).map fun j => .slX b k i j sz
    | _ => none
  | .el b i 1, some false, some 1 => match lkp h b with
    | some (.lstL k _ sz) => (lnxlook g.LNE k i).map fun j => .slX b k i j sz
    | _ => none
  | .elX b i _ j n s, some agg, some sz => match Nat.beq (cellsN agg sz) s && innOK h b i s, ellook g.LX j n with
    | true, some r => match Nat.beq r.length s with | true => loadAs agg r | false => none
    | _, _ => none
  | .ptr b 0, some true, some sz => match lkp h b, izlook g.IZ 0 with
    | some (.lst k _ _), some i => match ellook g.LX k i with
      | some r => match Nat.beq r.length sz with | true => some (mkAgg r) | false => none
      | none => none
    | _, _ => none
  | _, _, _ => none
noncomputable def mLoad (P : Program) (g : Cfg) (h : RH) (ty : TypeId) (a : RV) : Option Eff :=
  match loadOp P g.ro h ty a with
  | some v => some (.same v)
  | none => match elLoad P g h ty a with
    | some v => some (.same v)
    | none => (nestLoad P g h ty a).map .same
noncomputable def evL (t : List RV) (l : Array Operand) : List RV := l.toList.map (ev t)
noncomputable def evP (t : List RV) (l : Array (Nat × Operand)) : List (Nat × RV) := l.toList.map fun p => (p.1, ev t p.2)
noncomputable def mUn (g : Cfg) (op : UnOp) (x : RV) : Option Eff :=
  match op with
  | .not => match mNot x with | some e => some e | none => symNot g x
  | .neg => symNeg g x
  | _ => none
noncomputable def mCall (P : Program) (g : Cfg) (h : RH) (t : List RV) (c : Call) : Option Eff :=
  match c.callee with
  | .builtin b => builtinOp P g h b c.argTypes (evL t c.args)
  | .value f => callOp P g h (ev t f) (evL t c.args)
  | _ => none

structure OpC where
  f : List RV → RH → Option Eff
noncomputable def memC (P : Program) (g : Cfg) (op : Op) : OpC :=
  match op with
  | .move x => ⟨fun t _ => some (.same (ev t x))⟩
  | .assign x => ⟨fun t _ => some (.same (ev t x))⟩
  | .pick c a b => ⟨fun t _ => mPick (ev t c) (ev t a) (ev t b)⟩
  | .alloc e => ⟨fun _ h => mAlloc P e h⟩
  | .box e x => ⟨fun t h => mBox e (ev t x) h⟩
  | .build ty ps => ⟨fun t _ => (buildOp P ty (evP t ps)).map .val⟩
  | .buildSlice ty n ps => ⟨fun t h => buildSliceOp P h ty n (evP t ps)⟩
  | .load ty a => ⟨fun t h => mLoad P g h ty (ev t a)⟩
  | .store ty a x => ⟨fun t h => mStore P g h ty (ev t a) (ev t x)⟩
  | .nilCheck x => ⟨fun t _ => mNil (ev t x)⟩
  | .binOp op ty x y _ => ⟨fun t _ => mBinS P g op ty (ev t x) (ev t y)⟩
  | .unOp op _ x => ⟨fun t _ => mUn g op (ev t x)⟩
  | .convert s d x => ⟨fun t h => mConv P g h s d (ev t x)⟩
  | .makeFunc f a b => ⟨fun t _ => some (.val (.fn f (evL t a) (evL t b)))⟩
  | .makeSlice ty l c => ⟨fun t h => mMake P g h ty (ev t l) (ev t c)⟩
  | .slice ty x lo hi mx => ⟨fun t h => mSliceQ P g h ty (ev t x) (lo.map (ev t)) (hi.map (ev t)) (mx.map (ev t))⟩
  | .index ty x i => ⟨fun t _ => mIndex P g ty (ev t x) (ev t i)⟩
  | .fieldAddr s x f => ⟨fun t _ => (mFieldAddr P s (ev t x) f).map .val⟩
  | .field s x f => ⟨fun t _ => (fieldOp P s (ev t x) f).map .val⟩
  | .indexAddr ty x i => ⟨fun t _ => mIndexAddr P g ty (ev t x) (ev t i)⟩
  | .range ty x => ⟨fun t h => rangeOp P h ty (ev t x)⟩
  | .next x s => ⟨fun t h => nextOp h (ev t x) s⟩
  | .extract x i => ⟨fun t _ => mExtract (ev t x) i⟩
  | .call c => ⟨fun t h => mCall P g h t c⟩
  | _ => ⟨fun _ _ => none⟩

def isP : Op → Bool
  | .move _ | .assign _ | .pick _ _ _ | .build _ _ | .nilCheck _ | .binOp _ _ _ _ _ | .unOp _ _ _ | .makeFunc _ _ _ | .index _ _ _ | .fieldAddr _ _ _ | .field _ _ _ | .indexAddr _ _ _ | .extract _ _ => true
  | _ => false
def isL : Op → Bool
  | .load _ _ => true
  | _ => false
noncomputable def noCall (op : Op) (r : Option Eff) : Option Eff :=
  match r with
  | some (.call f args) => match isP op || isL op with
    | true => none
    | false => some (.call f args)
  | r => r
noncomputable def orElse (P : Program) (o : Oper) (t : List RV) (r : Option Eff) : Option Eff :=
  match r with
  | some e => some e
  | none => noCall o.op (pureOp P o t)

structure St where
  t : List RV
  h : RH
  deriving Inhabited

abbrev CallF := FuncId → List RV → RH → Option (RV × RH)
/-- What a call of a loop's yield comes to. -/
abbrev YldF := Nat → List RV → RH → Option (RV × RH)
noncomputable def noY : YldF := fun _ _ _ => none
/-- How functions are called, by the loops that they may yield to; and the loops that are there. -/
structure CallG where
  F : YldF → CallF
  Y : YldF
/-- Calls that yield to no loop. -/
noncomputable def liftC (C : CallF) : CallG := ⟨fun _ => C, noY⟩

def yieldedR (ops : Array Oper) (t : List RV) (j : Nat) : Option Bool :=
  match ((ops[j]?).bind (·.dst)).bind (t[·]?) with
  | some (.pl (.bool b)) => some b
  | _ => none

/-- Is what a guard looks at a name? -/
def symAt (ops : Array Oper) (t : List RV) (j : Nat) : Bool :=
  match ((ops[j]?).bind (·.dst)).bind (t[·]?) with
  | some (.sym _ _) => true
  | some (.wild _) => true
  | some (.gst _ _) => true
  | _ => false

/-- The block numbers of a heap that is laid behind another one. -/
def shiftA (k : Nat) : RV → RV
  | .ptr b o => .ptr (b + k) o
  | .sl b o n s c => .sl (b + k) o n s c
  | .slN b i s => .slN (b + k) i s
  | .ifc b t => .ifc (b + k) t
  | .yld b => .yld (b + k)
  | r => r
def shiftable : RV → Bool
  | .pl _ => true
  | .sym _ _ => true
  | .ptr _ _ => true
  | .sl _ _ _ _ _ => true
  | .slN _ _ _ => true
  | .ifc _ _ => true
  | .yld _ => true
  | _ => false
def shiftM (k : Nat) : RV → RV
  | .agg l => .agg (l.map (shiftA k))
  | r => shiftA k r
def shiftableM : RV → Bool
  | .agg l => l.all shiftable
  | r => shiftable r
def shiftB (k : Nat) : RV → RV
  | .fn f a c => .fn f (a.map (shiftA k)) (c.map (shiftA k))
  | .agg l => .agg (l.map (shiftA k))
  | .tup l => .tup (l.map (shiftM k))
  | r => shiftA k r
def shiftableB : RV → Bool
  | .fn _ a c => a.all shiftable && c.all shiftable
  | .agg l => l.all shiftable
  | .tup l => l.all shiftableM
  | r => shiftable r
def shiftO (k : Nat) : Option RO → Option RO
  | some (.cells l e r f) => some (.cells (l.map (shiftB k)) e r f)
  | o => o
def shiftableO : Option RO → Bool
  | some (.cells l _ _ _) => l.all shiftableB
  | some (.lent _ _) => false
  | some (.lst _ _ o) => o
  | some (.lstA _) => false
  | some (.lstQ _ _ _) => false
  | some (.lstB _ _) => false
  | some (.lp _ _) => false
  | _ => true
def sameA (u v : Value) : Bool :=
  match u, v with
  | .bool a, .bool b => a == b
  | .int k a, .int k' b => k == k' && a == b
  | .string a, .string b => a.data.toList == b.data.toList
  | .pointer none, .pointer none => true
  | .pointer (some ⟨b, o, none⟩), .pointer (some ⟨b', o', none⟩) => b == b' && o == o'
  | .slice none n c, .slice none n' c' => n == n' && c == c'
  | .nilFunc, .nilFunc => true
  | .nilIface, .nilIface => true
  | .func (.func f) a b, .func (.func f') a' b' => f == f' && a.toList.isEmpty && a'.toList.isEmpty && b.toList.isEmpty && b'.toList.isEmpty
  | _, _ => false
def sameL {α : Type} (f : α → α → Bool) : List α → List α → Bool
  | [], [] => true
  | x :: l, y :: m => f x y && sameL f l m
  | _, _ => false
def sameV1 (u v : Value) : Bool :=
  match u, v with
  | .agg a, .agg b => sameL sameA a.toList b.toList
  | u, v => sameA u v
def sameV (u v : Value) : Bool :=
  match u, v with
  | .tuple a, .tuple b => sameL sameV1 a.toList b.toList
  | u, v => sameV1 u v
def sameR0 (x y : RV) : Bool :=
  match x, y with
  | .pl u, .pl v => sameV u v
  | .sym k i, .sym k' j => k == k' && i == j
  | .el b i s, .el b' j s' => b == b' && i == j && s == s'
  | .ptr b o, .ptr b' o' => b == b' && o == o'
  | .sl b o n s c, .sl b' o' n' s' c' => b == b' && o == o' && n == n' && s == s' && c == c'
  | .slN b i s, .slN b' i' s' => b == b' && i == i' && s == s'
  | .slA b i s, .slA b' i' s' => b == b' && i == i' && s == s'
  | .elA b i s, .elA b' i' s' => b == b' && i == i' && s == s'
  | .elF b i s o, .elF b' i' s' o' => b == b' && i == i' && s == s' && o == o'
  | .elB b i s o, .elB b' i' s' o' => b == b' && i == i' && s == s' && o == o'
  | .slX b i k j s, .slX b' i' k' j' s' => b == b' && i == i' && k == k' && j == j' && s == s'
  | .elX b i k j n s, .elX b' i' k' j' n' s' => b == b' && i == i' && k == k' && j == j' && n == n' && s == s'
  | .ifc b t, .ifc b' t' => b == b' && t == t'
  | .slP b i j s a, .slP b' i' j' s' a' => b == b' && i == i' && j == j' && s == s' && a == a'
  | .wild i, .wild j => i == j
  | .yld b, .yld b' => b == b'
  | .gst b j, .gst b' j' => b == b' && j == j'
  | _, _ => false
def sameR1 (x y : RV) : Bool :=
  match x, y with
  | .fn (.func f) a c, .fn (.func f') a' c' => f == f' && sameL sameR0 a a' && sameL sameR0 c c'
  | .agg l, .agg m => sameL sameR0 l m
  | x, y => sameR0 x y
def sameR (x y : RV) : Bool :=
  match x, y with
  | .tup l, .tup m => sameL sameR1 l m
  | x, y => sameR1 x y
def sameO (x y : Option RO) : Bool :=
  match x, y with
  | none, none => true
  | some (.cells l e r f), some (.cells l' e' r' f') => sameL sameR l l' && e == e' && r == r' && f == f'
  | some (.lent l e), some (.lent l' e') => sameL sameR l l' && e == e'
  | some (.lst i e o), some (.lst i' e' o') => i == i' && e == e' && o == o'
  | some (.lstA i), some (.lstA i') => i == i'
  | some (.lstQ i e s), some (.lstQ i' e' s') => i == i' && e == e' && s == s'
  | some (.lstL i e s), some (.lstL i' e' s') => i == i' && e == e' && s == s'
  | some (.lstB i s), some (.lstB i' s') => i == i' && s == s'
  | some (.iter s p), some (.iter s' p') => s.data.toList == s'.data.toList && p == p'
  | some (.lp a x), some (.lp a' x') => a == a' && decide (x = x')
  | _, _ => false
def sameSt (x y : St) : Bool := sameL sameR x.t y.t && sameL sameO x.h y.h

/-! Two states that differ in how their blocks are numbered. -/
/-- Block b of the one is block c of the other. -/
def rk (R : List Nat) (b c : Nat) : Bool := match R[b]? with | some x => x == c | none => false
/-- x is of the other state, y of the one. -/
def pm0 (R : List Nat) (x y : RV) : Bool :=
  match x, y with
  | .pl u, .pl v => sameV u v
  | .sym k i, .sym k' j => k == k' && i == j
  | .el b i s, .el b' j s' => rk R b' b && i == j && s == s'
  | .ptr b o, .ptr b' o' => rk R b' b && o == o'
  | .sl b o n s c, .sl b' o' n' s' c' => rk R b' b && o == o' && n == n' && s == s' && c == c'
  | .slN b i s, .slN b' i' s' => rk R b' b && i == i' && s == s'
  | .slA b i s, .slA b' i' s' => rk R b' b && i == i' && s == s'
  | .elA b i s, .elA b' i' s' => rk R b' b && i == i' && s == s'
  | .elF b i s o, .elF b' i' s' o' => rk R b' b && i == i' && s == s' && o == o'
  | .elB b i s o, .elB b' i' s' o' => rk R b' b && i == i' && s == s' && o == o'
  | .ifc b t, .ifc b' t' => rk R b' b && t == t'
  | .wild i, .wild j => i == j
  | .yld b, .yld b' => rk R b' b
  | .gst b j, .gst b' j' => rk R b' b && j == j'
  | _, _ => false
def pm1 (R : List Nat) (x y : RV) : Bool :=
  match x, y with
  | .fn (.func f) a c, .fn (.func f') a' c' => f == f' && sameL (pm0 R) a a' && sameL (pm0 R) c c'
  | .agg l, .agg m => sameL (pm0 R) l m
  | x, y => pm0 R x y
def pm2 (R : List Nat) (x y : RV) : Bool :=
  match x, y with
  | .tup l, .tup m => sameL (pm1 R) l m
  | x, y => pm1 R x y
def pmO (R : List Nat) (x y : Option RO) : Bool :=
  match x, y with
  | _, none => true
  | some (.cells l e r f), some (.cells l' e' r' f') => sameL (pm1 R) l l' && e == e' && r == r' && f == f'
  | some (.lent l e), some (.lent l' e') => sameL (pm1 R) l l' && e == e'
  | some (.lst i e o), some (.lst i' e' o') => i == i' && e == e' && o == o'
  | some (.lstA i), some (.lstA i') => i == i'
  | some (.lstQ i e s), some (.lstQ i' e' s') => i == i' && e == e' && s == s'
  | some (.lstL i e s), some (.lstL i' e' s') => i == i' && e == e' && s == s'
  | some (.lstB i s), some (.lstB i' s') => i == i' && s == s'
  | some (.iter s p), some (.iter s' p') => s.data.toList == s'.data.toList && p == p'
  | some (.lp a x), some (.lp a' x') => a == a' && decide (x = x')
  | _, _ => false
def pmH (R0 : List Nat) (h : RH) : List Nat → RH → Bool
  | [], [] => true
  | x :: R, q :: m => pmO R0 (match h[x]? with | some o => o | none => none) q && pmH R0 h R m
  | _, _ => false
def noDup : List Nat → Bool
  | [] => true
  | x :: R => !(R.contains x) && noDup R
def blkOf : RV → Option Nat
  | .el b _ _ => some b | .ptr b _ => some b | .sl b _ _ _ _ => some b | .slN b _ _ => some b | .slA b _ _ => some b | .elA b _ _ => some b | .elF b _ _ _ => some b | .elB b _ _ _ => some b | .ifc b _ => some b | .yld b => some b
  | _ => none
/-- Which blocks go together, by two cells (of the other state, of the one). -/
def pair0 (x y : RV) : List (Nat × Nat) := match blkOf x, blkOf y with | some c, some b => [(b, c)] | _, _ => []
def pairL (f : RV → RV → List (Nat × Nat)) : List RV → List RV → List (Nat × Nat)
  | x :: l, y :: m => f x y ++ pairL f l m
  | _, _ => []
def pair1 (x y : RV) : List (Nat × Nat) := match x, y with | .agg l, .agg m => pairL pair0 l m | .fn _ a c, .fn _ a' c' => pairL pair0 a a' ++ pairL pair0 c c' | x, y => pair0 x y
def pair2 (x y : RV) : List (Nat × Nat) := match x, y with | .tup l, .tup m => pairL pair1 l m | x, y => pair1 x y
def lookP (b : Nat) : List (Nat × Nat) → Option Nat
  | [] => none
  | (x, c) :: l => match x == b with | true => some c | false => lookP b l
def pairO (h' h : RH) : List (Nat × Nat) → List (Nat × Nat)
  | [] => []
  | (b, c) :: l => (match h'[c]?, h[b]? with | some (some (.cells x _ _ _)), some (some (.cells y _ _ _)) => pairL pair1 x y | _, _ => []) ++ pairO h' h l
/-- The blocks that nothing names: in their order. -/
def fillP (P : List (Nat × Nat)) : List Nat → List Nat → List Nat
  | [], _ => []
  | b :: bs, free => match lookP b P with
    | some c => c :: fillP P bs free
    | none => match free with
      | c :: free => c :: fillP P bs free
      | [] => 0 :: fillP P bs []
/-! What an answer reaches of a heap. -/
def blks0 (r : RV) : List Nat := match blkOf r with | some b => [b] | none => []
def blks1 (r : RV) : List Nat := match r with | .agg l => l.flatMap blks0 | .fn _ a c => a.flatMap blks0 ++ c.flatMap blks0 | r => blks0 r
def blks2 (r : RV) : List Nat := match r with | .tup l => l.flatMap blks1 | r => blks1 r
def reach (h : RH) : Nat → List Nat → List Nat → List Nat
  | 0, _, seen => seen
  | _ + 1, [], seen => seen
  | n + 1, b :: todo, seen => match seen.contains b with
    | true => reach h n todo seen
    | false => match h[b]? with
      | some (some (.cells l _ _ _)) => reach h n (l.flatMap blks1 ++ todo) (seen ++ [b])
      | _ => reach h n todo (seen ++ [b])
def ixOf (b : Nat) : List Nat → Nat → Nat
  | [], n => n
  | x :: l, n => match x == b with | true => n | false => ixOf b l (n + 1)
def renA (R : List Nat) : RV → RV
  | .ptr b o => .ptr (ixOf b R 0) o
  | .sl b o n s c => .sl (ixOf b R 0) o n s c
  | .slN b i s => .slN (ixOf b R 0) i s
  | .ifc b t => .ifc (ixOf b R 0) t
  | .yld b => .yld (ixOf b R 0)
  | r => r
def ren1 (R : List Nat) : RV → RV
  | .agg l => .agg (l.map (renA R))
  | .fn f a c => .fn f (a.map (renA R)) (c.map (renA R))
  | r => renA R r
def ren2 (R : List Nat) : RV → RV
  | .tup l => .tup (l.map (ren1 R))
  | r => ren1 R r
def renO (R : List Nat) : Option RO → Option RO
  | some (.cells l e r f) => some (.cells (l.map (ren1 R)) e r f)
  | o => o
/-- An answer, and what it reaches of its heap alone. -/
noncomputable def gcI (r : RV) (h : RH) : RV × RH :=
  let R := reach h 200 (blks2 r) []
  let r3 := ren2 R r
  let h3 := R.map fun b => renO R ((h[b]?).join)
  match noDup R && pmH R h R h3 && pm2 R r r3 with
  | true => (r3, h3)
  | false => (r, h)
noncomputable def isoRes (h : RH) (x : RV × RH) : Option (RV × RH) := match x with
  | (r, h2) => if shiftableB r && h2.all shiftableO then some (shiftB h.length r, h ++ h2.map (shiftO h.length)) else none
/-- A call with plain arguments, run on a heap of its own. -/
noncomputable def isoCall0 (g : Cfg) (C : CallG) (f : FuncId) (args : List RV) (h : RH) : Option (RV × RH) :=
  match plains args with
  | some vs =>
    match g.X f vs with
    | some v => some (.pl v, h)
    | none =>
      match g.F f vs with
      | some q => some (.sl h.length 0 q.n q.s none, h ++ [some (.cells (q.l.map .pl) q.e true false)])
      | none =>
      match C.F noY f args [] with
      | some (.pl v, _) => some (.pl v, h)
      | some (r, h2) => isoRes h (gcI r h2)
      | none => none
  | none => match args.all flat with
    | true => match g.Y f args with
      | some r => if flat r then some (r, h) else none
      | none => match C.F noY f args [] with
        | some (r, h2) => match flat r with
          | true => some (r, h)
          | false => isoRes h (gcI r h2)
        | none => none
    | false => none
/-- What is told of a call: its answer over blocks of its own. -/
noncomputable def qCall (g : Cfg) (f : FuncId) (args : List RV) (h : RH) : Option (RV × RH) :=
  match args.all flat with
  | true => match g.Q f args with
    | some (r, h2) => match shiftableB r && h2.all shiftableO with | true => some (shiftB h.length r, h ++ h2.map (shiftO h.length)) | false => none
    | none => none
  | false => none
noncomputable def isoCall (g : Cfg) (C : CallG) (f : FuncId) (args : List RV) (h : RH) : Option (RV × RH) :=
  match qCall g f args h with
  | some r => some r
  | none => isoCall0 g C f args h
noncomputable def deepSeg (n s e : Nat) (c : Option (List RV)) : Option (List RV) :=
  match c with
  | some cs => match cs.all flat0 with
    | true => some (.pl (.int .i64 n) :: .pl (.int .i64 s) :: .pl (.int .i64 e) :: cs)
    | false => none
  | none => none
/-- What an argument comes to, slices with what they hold. -/
noncomputable def deepArg (h : RH) (r : RV) : Option (List RV) :=
  match r with
  | .sl b 0 n s none => match lkp h b with
    | some (.cells l e _ _) => deepSeg n s e (seg l 0 (n * s))
    | some (.lent l e) => deepSeg n s e (seg l 0 (n * s))
    | _ => none
  | r => match flat r with
    | true => some [r]
    | false => none
noncomputable def deepArgs (h : RH) (l : List RV) : Option (List (List RV)) :=
  List.rec (motive := fun _ => Option (List (List RV))) (some []) (fun r _ ih => match deepArg h r with
    | some d => match ih with | some ds => some (d :: ds) | none => none
    | none => none) l
noncomputable def lentCall (g : Cfg) (f : FuncId) (args : List RV) (h : RH) : Option RV :=
  match deepArgs h args with
  | some ds => match g.L f ds with
    | some r => match flat r with | true => some r | false => none
    | none => none
  | none => none
/-- A part of an argument, a named list by its name alone. -/
noncomputable def absArg0 (h : RH) (r : RV) : Option RV :=
  match r with
  | .slN b i s => match lkp h b with
    | some (.lst i' _ _) => match Nat.beq i i' with | true => some (.slN 0 i s) | false => none
    | _ => none
  | .slA b i s => match lkp h b with
    | some (.lstA i') => match Nat.beq i i' with | true => some (.slN 0 i s) | false => none
    | _ => none
  | r => match flat0 r with
    | true => some r
    | false => none
noncomputable def absL (h : RH) (l : List RV) : Option (List RV) :=
  List.rec (motive := fun _ => Option (List RV)) (some []) (fun r _ ih => match absArg0 h r with
    | some d => match ih with | some ds => some (d :: ds) | none => none
    | none => none) l
/-- A function value that holds a cell. -/
noncomputable def absFn (h : RH) (f : Fn) (a c : List RV) : Option RV :=
  match f, a, c with
  | .func k, [], [.ptr b 0] => match lkp h b with
    | some (.cells [x] e _ _) => match flat0 x with | true => some (.fn (.func k) [.pl (.int .i64 e)] [x]) | false => none
    | some (.lent [x] e) => match flat0 x with | true => some (.fn (.func k) [.pl (.int .i64 e)] [x]) | false => none
    | _ => none
  | _, _, _ => none
/-- An argument, a named list by its name alone. -/
noncomputable def absArg (h : RH) (r : RV) : Option RV :=
  match r with
  | .slN b i s => match lkp h b with
    | some (.lst i' _ _) => match Nat.beq i i' with | true => some (.slN 0 i s) | false => none
    | some (.lstL i' _ s') => match Nat.beq i i' && Nat.beq s 1 with | true => some (.slL i s') | false => none
    | _ => none
  | .slA b i s => match lkp h b with
    | some (.lstA i') => match Nat.beq i i' with | true => some (.slN 0 i s) | false => none
    | some (.lstB i' s') => match Nat.beq i i' && Nat.beq s 1 with | true => some (.slL i s') | false => none
    | _ => none
  | .slX b i _ j s => match innOK h b i s with | true => some (.slN 0 j s) | false => none
  | .agg l => match l.all flat0 with
    | true => some (.agg l)
    | false => match absL h l with
      | some ds => some (.agg ds)
      | none => none
  | .fn f a c => absFn h f a c
  | r => match flat r with
    | true => some r
    | false => none
noncomputable def absArgs (h : RH) (l : List RV) : Option (List RV) :=
  List.rec (motive := fun _ => Option (List RV)) (some []) (fun r _ ih => match absArg h r with
    | some d => match ih with | some ds => some (d :: ds) | none => none
    | none => none) l
noncomputable def lentN (g : Cfg) (f : FuncId) (args : List RV) (h : RH) : Option RV :=
  match absArgs h args with
  | some ds => match g.LC f ds with
    | some r => match flat r with | true => some r | false => none
    | none => none
  | none => none
/-- Does a value name blocks below k alone? -/
def refA (k : Nat) : RV → Bool
  | .pl _ => true
  | .sym _ _ => true
  | .el b _ _ => Nat.blt b k
  | .ptr b _ => Nat.blt b k
  | .sl b _ _ _ _ => Nat.blt b k
  | .slN b _ _ => Nat.blt b k
  | .slA b _ _ => Nat.blt b k
  | .elA b _ _ => Nat.blt b k
  | .elF b _ _ _ => Nat.blt b k
  | .elB b _ _ _ => Nat.blt b k
  | .slX b _ _ _ _ => Nat.blt b k
  | .elX b _ _ _ _ _ => Nat.blt b k
  | .ifc b _ => Nat.blt b k
  | .yld b => Nat.blt b k
  | .gst b _ => Nat.blt b k
  | .slP b _ _ _ _ => Nat.blt b k
  | .wild _ => true
  | _ => false
def refB (k : Nat) : RV → Bool
  | .agg l => l.all (refA k)
  | .tup l => l.all (refA k)
  | .fn _ a c => a.all (refA k) && c.all (refA k)
  | r => refA k r
def refO (k : Nat) : Option RO → Bool
  | some (.cells l _ _ _) => l.all (refB k)
  | some (.lent l _) => l.all (refB k)
  | _ => true
noncomputable def takeH (n : Nat) (l : RH) : RH :=
  Nat.rec (motive := fun _ => RH → RH) (fun _ => []) (fun _ ih l => match l with
    | [] => []
    | x :: l => x :: ih l) n l
def blksO (o : Option RO) : List Nat := match o with | some (.cells l _ _ _) => l.flatMap blks1 | some (.lent l _) => l.flatMap blks1 | _ => []
def reachN (n0 : Nat) (h : RH) : Nat → List Nat → List Nat → List Nat
  | 0, _, seen => seen
  | _ + 1, [], seen => seen
  | n + 1, b :: todo, seen => match Nat.blt b n0 || seen.contains b with
    | true => reachN n0 h n todo seen
    | false => reachN n0 h n (blksO ((h[b]?).join) ++ todo) (seen ++ [b])
/-- An answer, and of the blocks behind the first n0 those alone that it, or these, reach. -/
noncomputable def gcN (n0 : Nat) (r : RV) (h : RH) : RV × RH :=
  let new := reachN n0 h 300 (blks2 r ++ (takeH n0 h).flatMap blksO) []
  match Nat.ble h.length (n0 + new.length) with
  | true => (r, h)
  | false =>
    let R := List.range n0 ++ new
    let r3 := ren2 R r
    let h3 := R.map fun b => renO R ((h[b]?).join)
    match Nat.ble n0 h.length && noDup R && pmH R h R h3 && pm2 R r r3 with
    | true => (r3, h3)
    | false => (r, h)
/-- What a call leaves behind that its answer does not name, is forgotten. -/
noncomputable def trim1 (h : RH) (r : RV) (h2 : RH) : RV × RH := match flat r && (takeH h.length h2).all (refO h.length) with
  | true => (r, takeH h.length h2)
  | false => match r with
    | .sl k o m s c => match lkp h2 k with
      | some (.cells l e room f) => match Nat.blt h.length k && l.all (refB h.length) && (takeH h.length h2).all (refO h.length) with
        | true => (.sl h.length o m s c, takeH h.length h2 ++ [some (.cells l e room f)])
        | false => gcN h.length r h2
      | _ => gcN h.length r h2
    | _ => gcN h.length r h2
noncomputable def trimC (h : RH) (x : Option (RV × RH)) : Option (RV × RH) := match x with
  | some (r, h2) => some (trim1 h r h2)
  | none => none
noncomputable def doCall (g : Cfg) (C : CallG) (f : FuncId) (args : List RV) (h : RH) : Option (RV × RH) :=
  match isoCall g C f args h with
  | some r => some r
  | none => match g.U f args h with
  | some r => some r
  | none => match lentCall g f args h with
    | some r => some (r, h)
    | none => match lentN g f args h with
      | some r => some (r, h)
      | none => trimC h (C.F C.Y f args h)

noncomputable def putS (t : List RV) (h : RH) (d : Option Tmp) (v : RV) : Option St :=
  match d with
  | some d => fRV v fun v => setL t d v fun t => some ⟨t, h⟩
  | none => some ⟨t, h⟩

noncomputable def putF (t : List RV) (h : RH) (d : Option Tmp) (v : RV) : Option St :=
  match d with
  | some d => setL t d v fun t => some ⟨t, h⟩
  | none => some ⟨t, h⟩

noncomputable def sSet (t : List RV) (h : RH) (d : Option Tmp) (v : RV) (b : Nat) (ob : RO) : Option St :=
  fRO (some ob) fun ob => fNat b fun b => setL h b ob fun h => putS t h d v
noncomputable def sNew (t : List RV) (h : RH) (d : Option Tmp) (v : RV) (ob : RO) : Option St :=
  fRO (some ob) fun ob => fSpine (h ++ [ob]) fun h => putS t h d v
noncomputable def sMove (t : List RV) (h : RH) (d : Option Tmp) (v : RV) (b : Nat) (ob : RO) : Option St :=
  fRO (some ob) fun ob => fNat b fun b => setL h b none fun h => fSpine (h ++ [ob]) fun h => putS t h d v
noncomputable def sMove2 (t : List RV) (h : RH) (d : Option Tmp) (v : RV) (b b2 : Nat) (ob : RO) : Option St :=
  fRO (some ob) fun ob => fNat b fun b => fNat b2 fun b2 => setL h b none fun h => setL h b2 none fun h => fSpine (h ++ [ob]) fun h => putS t h d v
noncomputable def sCall (g : Cfg) (C : CallG) (t : List RV) (h : RH) (d : Option Tmp) (f : FuncId) (args : List RV) : Option St :=
  match doCall g C f args h with
  | some (v, h) => fRV v fun v => fList fRO h fun h => putF t h d v
  | none => none
noncomputable def sYield (C : CallG) (t : List RV) (h : RH) (d : Option Tmp) (b : Nat) (args : List RV) : Option St :=
  match C.Y b args h with
  | some (v, h) => fRV v fun v => fList fRO h fun h => putF t h d v
  | none => none
noncomputable def app (g : Cfg) (C : CallG) (t : List RV) (h : RH) (d : Option Tmp) (e : Option Eff) : Option St :=
  match e with
  | some (.val v) => putS t h d v
  | some (.same v) => putF t h d v
  | some (.setB v b ob) => sSet t h d v b ob
  | some (.newB v ob) => sNew t h d v ob
  | some (.moveB v b ob) => sMove t h d v b ob
  | some (.move2 v b b2 ob) => sMove2 t h d v b b2 ob
  | some (.call f args) => sCall g C t h d f args
  | some (.yield b args) => sYield C t h d b args
  | none => none
structure StC where
  f : List RV → RH → Option St
noncomputable def guarded (g : Cfg) (C : CallG) (ops : Array Oper) (j : Nat) (want : Bool) (d : Option Tmp) (t : List RV) (h : RH) (r : Option Eff) : Option St :=
  match symAt ops t j with
  | true => none
  | false => if yieldedR ops t j == some want then app g C t h d r else putS t h d (.pl undef)
noncomputable def stepC (P : Program) (g : Cfg) (C : CallG) (ops : Array Oper) (o : Oper) : StC :=
  match memC P g o.op, o.guard, o.dst with
  | ⟨f⟩, none, some d => ⟨fun t h => app g C t h (some d) (orElse P o t (f t h))⟩
  | ⟨f⟩, none, none => ⟨fun t h => app g C t h none (orElse P o t (f t h))⟩
  | ⟨f⟩, some (j, want), d => ⟨fun t h => guarded g C ops j want d t h (orElse P o t (f t h))⟩
noncomputable def stepW (P : Program) (g : Cfg) (C : CallG) (ops : Array Oper) (o : Oper) (s : St) : Option St :=
  match stepC P g C ops o with
  | ⟨f⟩ => match s with
    | ⟨t, h⟩ => f t h

/-! A list put into a list of lists: the old names of both go over to the new block. -/
noncomputable def lnplook (T : List LNP) (i n j : Nat) : Option Nat :=
  List.rec (motive := fun _ => Option Nat) none (fun e _ ih => match Nat.beq e.i i && Nat.beq e.n n && Nat.beq e.j j with
    | true => some e.k
    | false => ih) T
noncomputable def renR (b i b2 j jn sz nb k n : Nat) (r : RV) : RV :=
  match r with
  | .slN x y z => match Nat.beq x b && Nat.beq y i && Nat.beq z 1 with
    | true => .slN nb k 1
    | false => match Nat.beq x b2 && Nat.beq y j && Nat.beq z sz with
      | true => .slX nb k n jn sz
      | false => r
  | r => r
noncomputable def nestPut (P : Program) (g : Cfg) (t : List RV) (h : RH) (ty : TypeId) (a x : RV) : Option St :=
  match a, x, quiet P (sizeOf ty) with
  | .el b n 1, .slN b2 j sz, some 1 => match lkp h b, lkp h b2 with
    | some (.lstL i e s'), some (.lst j' _ true) => match eqLen g j j' sz && Nat.beq s' sz && !(Nat.beq b b2) with
      | true => match lnplook g.LNW i n j' with
        | some k => fList fRV (t.map (renR b i b2 j j' sz h.length k n)) fun t => fSpine ((h.set b none).set b2 none ++ [some (.lstL k e s')]) fun h => some ⟨t, h⟩
        | none => none
      | false => none
    | some (.lst i e true), some (.lst j' _ true) => match eqLen g j j' sz && !(Nat.beq b b2) with
      | true => match lnplook g.LNV i n j' with
        | some k => fList fRV (t.map (renR b i b2 j j' sz h.length k n)) fun t => fSpine ((h.set b none).set b2 none ++ [some (.lstL k e sz)]) fun h => some ⟨t, h⟩
        | none => none
      | false => none
    | _, _ => none
  | _, _, _ => none
noncomputable def nestOp (P : Program) (g : Cfg) (o : Oper) (s : St) : Option St :=
  match o.op, o.guard, o.dst with
  | .store ty a x, none, none => match g.LNW, g.LNV with
    | [], [] => none
    | _, _ => nestPut P g s.t s.h ty (ev s.t a) (ev s.t x)
  | _, _, _ => none
noncomputable def stepL (P : Program) (g : Cfg) (C : CallG) (ops : Array Oper) (o : Oper) (s : St) : Option St :=
  match nestOp P g o s with
  | some s' => some s'
  | none => stepW P g C ops o s
noncomputable def runOps (P : Program) (g : Cfg) (C : CallG) (ops : Array Oper) (l : List Oper) : St → Option St :=
  List.rec (motive := fun _ => St → Option St) (fun s => some s) (fun o _ ih s => match stepL P g C ops o s with
    | some s' => ih s'
    | none => none) l

/-! A region whose order the tape draws. -/
def quietable : Op → Bool
  | .slice _ _ _ _ _ | .convert _ _ _ | .call _ | .load _ _ => true
  | op => isP op

noncomputable def doCallQ (g : Cfg) (C : CallG) (f : FuncId) (args : List RV) (h : RH) : Option RV :=
  match plains args with
  | some vs =>
    match g.X f vs with
    | some v => some (.pl v)
    | none =>
      match C.F noY f args [] with
      | some (.pl v, _) => some (.pl v)
      | _ => none
  | none => match args.all flat with
    | true => match g.Y f args with
      | some r => if flat r then some r else none
      | none => match C.F noY f args [] with
        | some (r, _) => if flat r then some r else none
        | none => none
    | false => lentN g f args h

noncomputable def appQ (g : Cfg) (C : CallG) (t : List RV) (h : RH) (d : Option Tmp) (e : Option Eff) : Option St :=
  match e with
  | some (.val v) => putS t h d v
  | some (.same v) => putF t h d v
  | some (.call f args) =>
    match doCallQ g C f args h with
    | some v => putF t h d v
    | none => none
  | _ => none
noncomputable def effR (P : Program) (g : Cfg) (o : Oper) (t : List RV) (h : RH) : Option Eff :=
  match memC P g o.op with
  | ⟨f⟩ => orElse P o t (f t h)
noncomputable def guardQ (P : Program) (g : Cfg) (C : CallG) (ops : Array Oper) (o : Oper) (j : Nat) (want : Bool) (t : List RV) (h : RH) : Option St :=
  match symAt ops t j with
  | true => none
  | false => if yieldedR ops t j == some want then appQ g C t h o.dst (effR P g o t h) else putS t h o.dst (.pl undef)
noncomputable def stepQ (P : Program) (g : Cfg) (C : CallG) (ops : Array Oper) (o : Oper) (s : St) : Option St :=
  match s, o.guard with
  | ⟨t, h⟩, none => appQ g C t h o.dst (effR P g o t h)
  | ⟨t, h⟩, some (j, want) => guardQ P g C ops o j want t h
noncomputable def runQ (P : Program) (g : Cfg) (C : CallG) (ops : Array Oper) (l : List Oper) : St → Option St :=
  List.rec (motive := fun _ => St → Option St) (fun s => some s) (fun o _ ih s => match stepQ P g C ops o s with
    | some s' => ih s'
    | none => none) l

def newOnes (n : Nat) (l : List (Nat × Nat)) : List (Nat × Nat) := l.filter fun p => Nat.ble n p.1
def permOf (n0 : Nat) (s' s : St) : List Nat :=
  let P1 := newOnes n0 (pairL pair2 s'.t s.t)
  let P2 := P1 ++ newOnes n0 (pairO s'.h s.h P1)
  let used := P2.map (·.2)
  let bs := (List.range s.h.length).filter fun b => Nat.ble n0 b
  let free := ((List.range s'.h.length).filter fun c => Nat.ble n0 c).filter fun c => !(used.contains c)
  List.range n0 ++ fillP P2 bs free
/-- Is s' the state s, but for the numbers of its blocks behind the first n0. -/
def samePm (n0 : Nat) (s' s : St) : Bool :=
  let R := permOf n0 s' s
  Nat.ble n0 s.h.length && noDup R && R.take n0 == List.range n0 && pmH R s'.h R s.h && sameL (pm2 R) s'.t s.t

def isC : Op → Bool
  | .call ⟨.value (.func _), _, _⟩ => true
  | _ => false
/-- Which operations wait for operation i. -/
noncomputable def waitAcc (i : Nat) (l : List Oper) : List Bool → List Bool :=
  List.rec (motive := fun _ => List Bool → List Bool) (fun acc => acc) (fun o _ ih acc => ih (acc ++ [o.after.any fun e => Region.binds .any e && (e.on == i || acc.getD e.on false)])) l
/-- May operation i come first: all that has not come, and does not wait for it, keeps to itself. 'others': what a load may precede. -/
noncomputable def firstOK (others : Op → Bool) (ops : Array Oper) (listed : Array Bool) (i : Nat) : Bool :=
  match ops[i]? with
  | none => false
  | some oi => Region.free .any ops listed i && (isP oi.op || (isL oi.op && (List.range ops.size).all fun j => j == i || listed.getD j true || match ops[j]? with
      | some oj => (waitAcc i ops.toList []).getD j false || others oj.op
      | none => true))
def plain2 (op : Op) : Bool := isP op || isL op
def plain3 (op : Op) : Bool := isP op || isL op || isC op
noncomputable def stepAt (P : Program) (g : Cfg) (C : CallG) (ops : Array Oper) (s : St) (i : Nat) : Option St :=
  match ops[i]? with
  | some o => stepW P g C ops o s
  | none => none
/-- The same, where a load is a load and a call has plain arguments. -/
noncomputable def strictOK (P : Program) (g : Cfg) (C : CallG) (o : Oper) (t : List RV) (h : RH) : Bool :=
  match isL o.op with
  | true => match memC P g o.op with
    | ⟨f⟩ => (f t h).isSome
  | false => match isC o.op with
    | true => match effR P g o t h with
      | some (.call f args) => (isoCall g C f args h).isSome
      | _ => false
    | false => true
/-- A call that every load waits for, or that waits for every load. -/
noncomputable def syncC (ops : Array Oper) (j : Nat) : Bool :=
  match ops[j]? with
  | some oj => isC oj.op && (List.range ops.size).all fun i => match ops[i]? with
    | some oi => !(isL oi.op) || ((waitAcc i ops.toList []).getD j false || (waitAcc j ops.toList []).getD i false)
    | none => true
  | none => false
noncomputable def stepAtS (P : Program) (g : Cfg) (C : CallG) (ops : Array Oper) (s : St) (i : Nat) : Option St :=
  match ops[i]? with
  | some o => match o.guard with
    | none => match strictOK P g C o s.t s.h || syncC ops i with
      | true => stepW P g C ops o s
      | false => none
    | some _ => none
  | none => none
noncomputable def branches (n0 : Nat) (f : Nat → Option St) (l : List Nat) : Option St :=
  List.rec (motive := fun _ => Option St) none (fun i l ih => match l with
    | [] => f i
    | _ :: _ => match f i with
      | some s => match ih with
        | some s' => if sameSt s s' || samePm n0 s' s then some s else none
        | none => none
      | none => none) l
noncomputable def thenS (ih : Array Bool → St → Option St) (listed : Array Bool) (r : Option St) : Option St :=
  match r with
  | some s => ih listed s
  | none => none
noncomputable def anyStep (n0 : Nat) (F : St → Nat → Option St) (first : Array Bool → Nat → Bool) (ih : Array Bool → St → Option St) (listed : Array Bool) (s : St) (r : List Nat) : Option St :=
  match r.find? (first listed) with
  | some i => thenS ih (listed.setIfInBounds i true) (F s i)
  | none => branches n0 (fun i => thenS ih (listed.setIfInBounds i true) (F s i)) r
noncomputable def anyB (n0 : Nat) (F : St → Nat → Option St) (first : Array Bool → Nat → Bool) (ops : Array Oper) (n : Nat) : Array Bool → St → Option St :=
  Nat.rec (motive := fun _ => Array Bool → St → Option St) (fun listed s => match Region.ready .any ops listed with | [] => some s | _ :: _ => none)
    (fun _ ih listed s => match Region.ready .any ops listed with
      | [] => some s
      | i :: r => anyStep n0 F first ih listed s (i :: r)) n

/-- Is it worth to look first for an order in which calls keep to themselves. -/
def strictW (ops : Array Oper) : Bool := ops.toList.all (fun o => plain3 o.op) || (Nat.ble 2 (ops.toList.filter fun o => isC o.op).length && Nat.ble 2 (ops.toList.filter fun o => isL o.op).length)
noncomputable def runB (P : Program) (g : Cfg) (C : CallG) (ops : Array Oper) (s : St) : Option St :=
  match strictW ops with
  | true => match anyB s.h.length (stepAtS P g C ops) (firstOK plain3 ops) ops ops.size (Array.replicate ops.size false) s with
    | some s' => some s'
    | none => anyB s.h.length (stepAt P g C ops) (firstOK plain2 ops) ops ops.size (Array.replicate ops.size false) s
  | false => anyB s.h.length (stepAt P g C ops) (firstOK plain2 ops) ops ops.size (Array.replicate ops.size false) s
noncomputable def runD (P : Program) (g : Cfg) (C : CallG) (ops : Array Oper) (s : St) : Option St :=
  match ops.toList.all (fun o => quietable o.op) && Region.lexB .any ops with
  | true => match runQ P g C ops ops.toList s with
    | some s' => some s'
    | none => runB P g C ops s
  | false => runB P g C ops s

abbrev ExF := Code → St → Option (Ex × St)
noncomputable def xDraw (P : Program) (g : Cfg) (C : CallG) (ops : Array Oper) (s : St) : Option (Ex × St) :=
  match runD P g C ops s with
  | some s' => some (.normal, s')
  | none => none
noncomputable def xRegion (P : Program) (g : Cfg) (C : CallG) (ops : Array Oper) (s : St) : Option (Ex × St) :=
  match runOps P g C ops ops.toList s with
  | some s' => some (.normal, s')
  | none => none
noncomputable def xSeq (ih : ExF) (b : Code) (r : Option (Ex × St)) : Option (Ex × St) :=
  match r with
  | some (.normal, s') => ih b s'
  | r => r
/-! Two ways that meet again. -/
noncomputable def jq (qv : List (RV × RV)) (x z : RV) : Bool := flat0 x && flat0 z && qv.any fun q => eqS q.1 x && eqS q.2 z
noncomputable def jl (ql : List (Nat × Nat)) (i j : Nat) : Bool := i == j || ql.any fun q => q.1 == i && q.2 == j
/-- Is z what x is called. -/
noncomputable def jm0 (qv : List (RV × RV)) (ql : List (Nat × Nat)) (R : List Nat) (x z : RV) : Bool :=
  match x, z with
  | .slN b i s, .slN b' j s' => rk R b' b && jl ql i j && s == s'
  | x, z => pm0 R x z || jq qv x z
noncomputable def jm1 (qv : List (RV × RV)) (ql : List (Nat × Nat)) (R : List Nat) (x z : RV) : Bool :=
  match x, z with
  | .fn (.func f) a c, .fn (.func f') a' c' => f == f' && sameL (jm0 qv ql R) a a' && sameL (jm0 qv ql R) c c'
  | .agg l, .agg m => sameL (jm0 qv ql R) l m
  | x, z => jm0 qv ql R x z
noncomputable def jm2 (qv : List (RV × RV)) (ql : List (Nat × Nat)) (R : List Nat) (x z : RV) : Bool :=
  match x, z with
  | .tup l, .tup m => sameL (jm1 qv ql R) l m
  | x, z => jm1 qv ql R x z
noncomputable def jmO (qv : List (RV × RV)) (ql : List (Nat × Nat)) (R : List Nat) (x z : Option RO) : Bool :=
  match x, z with
  | _, none => true
  | some (.cells l e r f), some (.cells l' e' r' f') => sameL (jm1 qv ql R) l l' && e == e' && r == r' && f == f'
  | some (.lst i e o), some (.lst i' e' o') => jl ql i i' && e == e' && o == o'
  | x, z => pmO R x z
noncomputable def jmH (qv : List (RV × RV)) (ql : List (Nat × Nat)) (R0 : List Nat) (h : RH) : List Nat → RH → Bool
  | [], [] => true
  | x :: R, q :: m => jmO qv ql R0 (match h[x]? with | some o => o | none => none) q && jmH qv ql R0 h R m
  | _, _ => false
noncomputable def jmT (qv : List (RV × RV)) (ql : List (Nat × Nat)) (R : List Nat) (L : Nat) : Nat → List RV → List RV → Bool
  | _, [], [] => true
  | j, x :: l, z :: m => (match z with | .gst b j' => (b == L && j == j') || jm2 qv ql R x (.gst b j') | z => jm2 qv ql R x z) && jmT qv ql R L (j + 1) l m
  | _, _, _ => false
/-- No living block twice. -/
noncomputable def aliveR : List Nat → RH → List Nat
  | x :: R, q :: m => match q with | some _ => x :: aliveR R m | none => aliveR R m
  | _, _ => []
/-- Is the state z what the state s is, by other names. -/
noncomputable def fitJ (qv : List (RV × RV)) (ql : List (Nat × Nat)) (n0 : Nat) (R : List Nat) (s z : St) : Bool :=
  Nat.ble n0 R.length && R.take n0 == List.range n0 && noDup (aliveR R z.h) && jmH qv ql R s.h R z.h && jmT qv ql R R.length 0 s.t z.t
noncomputable def jQA (e : JE) : List (RV × RV) := (.sym .bool e.i, .pl (.bool true)) :: e.vs.map fun q => (q.1, q.2.2)
noncomputable def jQB (e : JE) : List (RV × RV) := (.sym .bool e.i, .pl (.bool false)) :: e.vs.map fun q => (q.2.1, q.2.2)
noncomputable def jLA (e : JE) : List (Nat × Nat) := e.ls.map fun q => (q.1, q.2.2)
noncomputable def jLB (e : JE) : List (Nat × Nat) := e.ls.map fun q => (q.2.1, q.2.2)
noncomputable def jname (e : JE) (i j : Nat) : Option Nat := match i == j with
  | true => some i
  | false => (e.ls.find? fun q => q.1 == i && q.2.1 == j).map (·.2.2)
noncomputable def joinR0 (e : JE) (RA RB : List Nat) (x y : RV) : Option RV :=
  match x, y with
  | .slN b i s, .slN b' j s' => match rk RB b b' && s == s' with
    | true => (jname e i j).map fun k => .slN b k s
    | false => none
  | x, y => match jm0 (jQB e) (jLB e) RB y x with
    | true => some x
    | false => match flat0 y && jm0 (jQA e) (jLA e) RA x y with
      | true => some y
      | false => (e.vs.find? fun q => eqS q.1 x && eqS q.2.1 y).map (·.2.2)
noncomputable def joinL (f : RV → RV → Option RV) : List RV → List RV → Option (List RV)
  | [], [] => some []
  | x :: l, y :: m => match f x y, joinL f l m with
    | some z, some r => some (z :: r)
    | _, _ => none
  | _, _ => none
noncomputable def joinR1 (e : JE) (RA RB : List Nat) (x y : RV) : Option RV :=
  match x, y with
  | .agg l, .agg m => (joinL (joinR0 e RA RB) l m).map .agg
  | .fn f a c, .fn _ a' c' => match joinL (joinR0 e RA RB) a a', joinL (joinR0 e RA RB) c c' with
    | some a, some c => some (.fn f a c)
    | _, _ => none
  | x, y => joinR0 e RA RB x y
noncomputable def joinR2 (e : JE) (RA RB : List Nat) (x y : RV) : Option RV :=
  match x, y with
  | .tup l, .tup m => (joinL (joinR1 e RA RB) l m).map .tup
  | x, y => joinR1 e RA RB x y
noncomputable def joinO (e : JE) (RA RB : List Nat) (x y : Option RO) : Option RO :=
  match x, y with
  | some (.cells l el r f), some (.cells m _ _ _) => (joinL (joinR1 e RA RB) l m).map fun k => .cells k el r f
  | some (.lst i el o), some (.lst j _ _) => (jname e i j).map fun k => .lst k el o
  | some (.iter s p), some (.iter _ p') => match p == p' with | true => some (.iter s p) | false => none
  | some (.lp a x), some (.lp a' x') => match a == a' && decide (x = x') with | true => some (.lp a x) | false => none
  | some (.lent l el), some (.lent _ _) => some (.lent l el)
  | some (.lstA i), some (.lstA _) => some (.lstA i)
  | some (.lstB i s), some (.lstB _ _) => some (.lstB i s)
  | some (.lstQ i el s), some (.lstQ j _ _) => match i == j with | true => some (.lstQ i el s) | false => none
  | some (.lstL i el s), some (.lstL j _ _) => match i == j with | true => some (.lstL i el s) | false => none
  | _, _ => none
noncomputable def joinT (e : JE) (RA RB : List Nat) (L : Nat) : Nat → List RV → List RV → List RV
  | j, x :: l, y :: m => ((joinR2 e RA RB x y).getD (.gst L j)) :: joinT e RA RB L (j + 1) l m
  | _, _, _ => []
noncomputable def pairHJ (n0 : Nat) : Nat → RH → RH → List (Nat × Nat)
  | 0, _, _ => []
  | n + 1, x :: h, y :: m => (match x, y with | some (.cells l _ _ _), some (.cells l' _ _ _) => pairL pair1 l' l | _, _ => []) ++ pairHJ n0 n h m
  | _, _, _ => []
noncomputable def joinS (e : JE) (n0 : Nat) (sA sB : St) : Option St :=
  let P := newOnes n0 (pairL pair2 sB.t sA.t ++ pairHJ n0 n0 sA.h sB.h)
  let nA := sA.h.length
  let RA := List.range nA
  let new := (List.range (nA - n0)).map fun k => lookP (n0 + k) P
  let RB := List.range n0 ++ new.map fun c => c.getD 0
  let old := (List.range n0).map fun b => joinO e RA RB ((sA.h[b]?).join) ((sB.h[b]?).join)
  let nw := (List.range (nA - n0)).map fun k => match (new[k]?).join with
    | some c => joinO e RA RB ((sA.h[n0 + k]?).join) ((sB.h[c]?).join)
    | none => none
  let z : St := ⟨joinT e RA RB nA 0 sA.t sB.t, old ++ nw⟩
  match fitJ (jQA e) (jLA e) n0 RA sA z && fitJ (jQB e) (jLB e) n0 RB sB z with
  | true => some ⟨z.t, z.h ++ [none]⟩
  | false => none
noncomputable def jlook (J : List JE) (i : Nat) : Option JE := J.find? fun e => Nat.beq e.i i
noncomputable def xJoin (g : Cfg) (ih0 : ExF) (a b : Code) (s : St) (i : Nat) : Option (Ex × St) :=
  match jlook g.J i with
  | some e => match ih0 a s, ih0 b s with
    | some (.normal, sA), some (.normal, sB) => match joinS e s.h.length sA sB with
      | some z => fList fRV z.t fun t => fList fRO z.h fun h => some (.normal, ⟨t, h⟩)
      | none => none
    | _, _ => none
  | none => none
noncomputable def xCond (g : Cfg) (ih ih0 : ExF) (a b : Code) (s : St) (r : RV) : Option (Ex × St) :=
  match r with
  | .pl (.bool q) => ih (if q then a else b) s
  | .sym .bool i => match tlook g.T .truth (.sym .bool i) (.sym .bool i) with
    | some (.pl (.bool q)) => ih (if q then a else b) s
    | _ => xJoin g ih0 a b s i
  | _ => none
noncomputable def xBlock (id : Nat) (r : Option (Ex × St)) : Option (Ex × St) :=
  match r with
  | some (.exit i, s') => if i = id then some (.normal, s') else some (.exit i, s')
  | r => r
structure ExC where
  f : ExF → ExF → St → Option (Ex × St)
/-- What a loop's parameters take over. -/
noncomputable def putPs (ps : List Tmp) : List RV → List RV → Option (List RV) :=
  List.rec (motive := fun _ => List RV → List RV → Option (List RV)) (fun as t => match as with | [] => some t | _ :: _ => none)
    (fun p _ ih as t => match as with | [] => none | x :: as => setL t p x fun t => ih as t) ps
/-- One round of a range over a function: what its yield answers. -/
noncomputable def yldBody (ih : ExF) (body : Code) (L : Nat) (t : List RV) (h : RH) : Option (RV × RH) :=
  match lkp h L with
  | some (.lp 0 pe) => setL h L (some (.lp 1 pe)) fun h => match ih body ⟨t, h⟩ with
    | some (ex, s) => match lkp s.h L with
      | some (.lp 1 _) => match ex with
        | .normal => setL s.h L (some (.lp 0 none)) fun h => some (.pl (.bool true), h)
        | ex => setL s.h L (some (.lp 2 (some ex))) fun h => some (.pl (.bool false), h)
      | _ => none
    | none => none
  | _ => none
noncomputable def yldRound (ih : ExF) (ps : List Tmp) (assign body : Code) (L : Nat) (t : List RV) (args : List RV) (h : RH) : Option (RV × RH) :=
  match putPs ps args t with
  | some t => match ih assign ⟨t, h⟩ with
    | some (.normal, s) => yldBody ih body L s.t s.h
    | _ => none
  | none => none
noncomputable def fnParts : RV → Option (FuncId × List RV × List RV)
  | .pl (.func (.func k) first cap) => some (k, first.toList.map .pl, cap.toList.map .pl)
  | .fn (.func k) first cap => some (k, first, cap)
  | _ => none
noncomputable def xEnd (L : Nat) (t : List RV) (h : RH) : Option (Ex × St) :=
  match lkp h L with
  | some (.lp 0 none) => setL h L none fun h => some (.normal, ⟨t, h⟩)
  | some (.lp 2 (some ex)) => setL h L none fun h => some (ex, ⟨t, h⟩)
  | _ => none
noncomputable def xCallY (C : CallG) (ih : ExF) (ps : List Tmp) (assign body : Code) (f : FuncId) (first cap : List RV) (L : Nat) (t : List RV) (h : RH) : Option (RV × RH) :=
  C.F (fun b args h => match Nat.beq b L with | true => fList fRV args fun args => trimC h (yldRound ih ps assign body L t args h) | false => C.Y b args h) f (first ++ [.yld L] ++ cap) h
noncomputable def xRange (P : Program) (C : CallG) (ih : ExF) (f : Operand) (ps : Array Tmp) (assign body : Code) (s : St) : Option (Ex × St) :=
  match fnParts (ev s.t f) with
  | some (k, first, cap) => match isBodyName P k with
    | some true => fNat (s.h.length + 1) fun L => fSpine (s.h ++ [none, some (.lp 0 none)]) fun h1 =>
      match xCallY C ih ps.toList assign body k first cap L s.t h1 with
      | some (_, h2) => fList fRO h2 fun h2 => xEnd L s.t h2
      | none => none
    | _ => none
  | none => none
noncomputable def xC (P : Program) (g : Cfg) (C : CallG) (rf : Bool) (c : Code) : ExC :=
  match c with
  | .skip => ⟨fun _ _ s => some (.normal, s)⟩
  | .label _ => ⟨fun _ _ s => some (.normal, s)⟩
  | .region _ ops false => ⟨fun _ _ s => xRegion P g C ops s⟩
  | .region _ ops true => ⟨fun _ _ s => xDraw P g C ops s⟩
  | .seq a b => ⟨fun ih _ s => xSeq ih b (ih a s)⟩
  | .cond x a b => ⟨fun ih ih0 s => xCond g ih ih0 a b s (ev s.t x)⟩
  | .block id b => ⟨fun ih _ s => xBlock id (ih b s)⟩
  | .loop b => ⟨fun ih _ s => xSeq ih (.loop b) (ih b s)⟩
  | .scope b => ⟨fun ih _ s => ih b s⟩
  | .exit id => ⟨fun _ _ s => some (.exit id, s)⟩
  | .ret => ⟨fun _ _ s => some (.ret, s)⟩
  | .rangeFunc f ps a b => match rf with
    | true => ⟨fun ih _ s => xRange P C ih f ps a b s⟩
    | false => ⟨fun _ _ _ => none⟩
  | _ => ⟨fun _ _ _ => none⟩
noncomputable def xStep (P : Program) (g : Cfg) (C : CallG) (rf : Bool) (ih ih0 : ExF) (c : Code) (s : St) : Option (Ex × St) :=
  match xC P g C rf c with
  | ⟨f⟩ => f ih ih0 s
noncomputable def exec (P : Program) (g : Cfg) (C : CallG) (rf : Bool) (n : Nat) : ExF :=
  Nat.rec (motive := fun _ => Bool → ExF) (fun _ _ _ => none) (fun _ ih rf c s => xStep P g C rf (ih rf) (ih false) c s) n rf

noncomputable def resultR (P : Program) (g : Cfg) (s : St) : ResultVar → Option RV
  | .tmp t => some (s.t.getD t (.pl undef))
  | .cell a ty => loadOp P g.ro s.h ty (s.t.getD a (.pl undef))

noncomputable def resultsR (P : Program) (g : Cfg) (s : St) (rs : List ResultVar) : Option (List RV) :=
  match rs with
  | [] => some []
  | r :: l => match resultR P g s r, resultsR P g s l with
    | some v, some vs => some (v :: vs)
    | _, _ => none

noncomputable def cDone (P : Program) (g : Cfg) (fn : Func) (r : Option (Ex × St)) : Option (RV × RH) :=
  match r with
  | some (.exit _, _) => none
  | some (_, s) =>
    match resultsR P g s fn.results.toList with
    | some [v] => fRV v fun v => some (v, s.h)
    | some vs => fRV (mkTup vs) fun v => some (v, s.h)
    | none => none
  | none => none
noncomputable def cBody (P : Program) (g : Cfg) (m : Nat) (C : CallG) (fn : Func) (c : Code) (args : List RV) (h : RH) : Option (RV × RH) :=
  fSpine (args ++ List.replicate (fn.ntmps - args.length) (.pl undef)) fun t => cDone P g fn (exec P g C true m c ⟨t, h⟩)
noncomputable def cFn (P : Program) (g : Cfg) (m : Nat) (C : CallG) (fn : Func) (args : List RV) (h : RH) : Option (RV × RH) :=
  match fn.body with
  | some c => fList fRV args fun args => cBody P g m C fn c args h
  | none => none
noncomputable def cStep (P : Program) (g : Cfg) (m : Nat) (C : CallG) (f : FuncId) (args : List RV) (h : RH) : Option (RV × RH) :=
  match P.funcs[f]? with
  | some fn => cFn P g m C fn args h
  | none => none
/-- Calls that may yield to loops. -/
noncomputable def callY (P : Program) (g : Cfg) (m n : Nat) : YldF → CallF :=
  Nat.rec (motive := fun _ => YldF → CallF) (fun _ _ _ _ => none) (fun _ ih Y f args h => cStep P g m ⟨ih, Y⟩ f args h) n
noncomputable def call (P : Program) (g : Cfg) (m n : Nat) : CallF := callY P g m n noY

end Go.Ri

namespace Go.Ri
open Go Go.RowKit

theorem quiet_pure (P : Program) {α : Type} (a : α) : quiet P (Sem.pure a) = some a := rfl
theorem quiet_run (P : Program) {α : Type} (s : Sem α) (a : α) (h : quiet P s = some a) (w : World) : s.run P w = .ok a w := by
  induction s with
  | pure b => cases h; rfl
  | program k ih => exact ih P h
  | mark m k ih => exact ih h
  | _ => cases h

/-! Lists, related element by element. -/
inductive All2 {α β : Type} (R : α → β → Prop) : List α → List β → Prop
  | nil : All2 R [] []
  | cons {a b l m} : R a b → All2 R l m → All2 R (a :: l) (b :: m)

namespace All2
variable {α β : Type} {R S : α → β → Prop} {l l' : List α} {m m' : List β}
theorem length (h : All2 R l m) : l.length = m.length := by induction h <;> simp_all
theorem mono (hRS : ∀ a b, R a b → S a b) (h : All2 R l m) : All2 S l m := by
  induction h with
  | nil => exact .nil
  | cons r _ ih => exact .cons (hRS _ _ r) ih
theorem append (h : All2 R l m) (h' : All2 R l' m') : All2 R (l ++ l') (m ++ m') := by
  induction h with
  | nil => exact h'
  | cons r _ ih => exact .cons r ih
theorem take (h : All2 R l m) (n : Nat) : All2 R (l.take n) (m.take n) := by
  induction h generalizing n with
  | nil => simpa using All2.nil
  | cons r _ ih => cases n with
    | zero => exact .nil
    | succ n => exact .cons r (ih n)
theorem drop (h : All2 R l m) (n : Nat) : All2 R (l.drop n) (m.drop n) := by
  induction h generalizing n with
  | nil => simpa using All2.nil
  | cons r h ih => cases n with
    | zero => exact .cons r h
    | succ n => exact ih n
theorem get (h : All2 R l m) (i : Nat) (a : α) (ha : l[i]? = some a) : ∃ b, m[i]? = some b ∧ R a b := by
  induction h generalizing i with
  | nil => simp at ha
  | cons r _ ih => cases i with
    | zero => simp at ha; subst ha; exact ⟨_, by simp, r⟩
    | succ i => simp at ha ⊢; exact ih i ha
theorem get_none (h : All2 R l m) (i : Nat) (ha : l[i]? = none) : m[i]? = none := by
  have := h.length
  simp at ha ⊢
  omega
theorem set (h : All2 R l m) (i : Nat) {a : α} {b : β} (r : R a b) : All2 R (l.set i a) (m.set i b) := by
  induction h generalizing i with
  | nil => exact .nil
  | cons r' h ih => cases i with
    | zero => exact .cons r h
    | succ i => exact .cons r' (ih i)
theorem replicate (n : Nat) {a : α} {b : β} (r : R a b) : All2 R (List.replicate n a) (List.replicate n b) := by
  induction n with
  | zero => exact .nil
  | succ n ih => exact .cons r ih
theorem map {γ : Type} (f : γ → α) (g : γ → β) (h : ∀ x, R (f x) (g x)) : ∀ xs : List γ, All2 R (xs.map f) (xs.map g)
  | [] => .nil
  | x :: xs => .cons (h x) (map f g h xs)
theorem of_get (hl : l.length = m.length) (h : ∀ (i : Nat) (a : α), l[i]? = some a → ∃ b, m[i]? = some b ∧ R a b) : All2 R l m := by
  induction l generalizing m with
  | nil => cases m with
    | nil => exact .nil
    | cons => simp at hl
  | cons a l ih => cases m with
    | nil => simp at hl
    | cons b m =>
      obtain ⟨b', hb, r⟩ := h 0 a (by simp)
      simp at hb
      subst hb
      exact .cons r (ih (by simpa using hl) fun i a ha => by simpa using h (i + 1) a (by simpa using ha))
end All2

/-- What a block is held to: nothing; the deferred calls of a function's loops, of which there are none; the record of a range over a function. -/
inductive EK where
  | no
  | dfr
  | loop (L : Loop)
/-- A block: its number, its size, what was handed in for it, and what it is held to. -/
structure EP where
  fst : Nat
  snd : Nat
  val : Value
  k : EK
abbrev Env := List EP
/-- A temporary that is forgotten. -/
def gstAt (v : Value) (j : Nat) : Value := match v with | .tuple vs => vs.getD j undef | _ => undef
/-- The slice that a block's list is, and the slices that it holds. -/
def EP.sl (p : EP) : Value := match p.val with | .tuple vs => vs.toList.headD undef | v => v
def EP.inn (p : EP) : List Value := match p.val with
  | .tuple vs => match vs.toList with | [_, .agg ss] => ss.toList | _ => []
  | .agg ss => ss.toList
  | _ => []
def innB : Value → Option Nat
  | .slice (some a) _ _ => some a.block
  | _ => none
def EP.innP (p : EP) : List Nat := p.inn.filterMap innB

/-- What the names stand for. -/
class Val where
  I : Nat → Int
  B : Nat → Bool
  S : Nat → ByteArray
  V : Nat → { v : Value // v.oneCell' = true }
  L : Nat → List Value
  W : Nat → Value
def TK.val [Val] : TK → Nat → Value
  | .int k, i => .int k (Val.I i)
  | .bool, i => .bool (Val.B i)
  | .str, i => .string (Val.S i)
  | .any, i => (Val.V i).1
theorem TK.one [Val] (k : TK) (i : Nat) : (k.val i).oneCell' = true := by
  cases k with
  | any => exact (Val.V i).2
  | _ => rfl
theorem TK.not_agg [Val] (k : TK) (i : Nat) (l : Array Value) : k.val i ≠ .agg l := by
  intro h
  have := k.one i
  rw [h] at this
  cases this
section
variable [Val]

mutual
def VRel (E : Env) : RV → Value → Prop
  | .pl u, v => v = u
  | .sym k i, v => v = k.val i
  | .el b i s, v => ∃ p, E[b]? = some p ∧ v = .pointer (some ⟨p.1, (Val.I i).toNat * s, none⟩)
  | .ptr b o, v => ∃ p, E[b]? = some p ∧ v = .pointer (some ⟨p.1, o, none⟩)
  | .sl b o n s c, v => ∃ p k, E[b]? = some p ∧ k = c.getD ((p.2 - o) / s) ∧ n ≤ k ∧ v = .slice (some ⟨p.1, o, none⟩) n k
  | .fn f a c, v => ∃ a' c', v = .func f a' c' ∧ VRels E a a'.toList ∧ VRels E c c'.toList
  | .agg l, v => ∃ l', v = .agg l' ∧ VRels E l l'.toList
  | .tup l, v => ∃ l', v = .tuple l' ∧ VRels E l l'.toList
  | .slN b i s, v => ∃ p n, E[b]? = some p ∧ 0 < s ∧ (Val.L i).length = n * s ∧ n ≤ p.2 / s ∧ v = .slice (some ⟨p.1, 0, none⟩) n (p.2 / s)
  | .slA b i s, v => ∃ p oa n cap, E[b]? = some p ∧ p.sl = .slice oa n cap ∧ (Val.L i ≠ [] → ∃ a : Addr, oa = some a ∧ a.block = p.1) ∧ 0 < s ∧ (Val.L i).length = n * s ∧ n ≤ cap ∧ v = .slice oa n cap
  | .elA b i s, v => ∃ p a n cap, E[b]? = some p ∧ p.sl = .slice (some a) n cap ∧ v = .pointer (some (a.add ((Val.I i).toNat * s)))
  | .elF b i s o, v => ∃ p, E[b]? = some p ∧ v = .pointer (some ⟨p.1, (Val.I i).toNat * s + o, none⟩)
  | .elB b i s o, v => ∃ p a n cap, E[b]? = some p ∧ p.sl = .slice (some a) n cap ∧ v = .pointer (some (a.add ((Val.I i).toNat * s + o)))
  | .slP b i j s a, v => ∃ p n, E[b]? = some p ∧ 0 < s ∧ (Val.L j).length = n * s ∧ ((Val.I a).toNat + n) * s ≤ (Val.L i).length ∧ Val.L j = ((Val.L i).drop ((Val.I a).toNat * s)).take (n * s) ∧ (Val.I a).toNat + n ≤ p.2 / s ∧ v = .slice (if p.2 / s = (Val.I a).toNat then some ⟨p.1, 0, none⟩ else some ⟨p.1, (Val.I a).toNat * s, none⟩) n (p.2 / s - (Val.I a).toNat)
  | .slL _ _, _ => False
  | .slX b i k j s, v => ∃ p oa n cap, E[b]? = some p ∧ p.inn[(Val.I k).toNat]? = some v ∧ (Val.L i)[(Val.I k).toNat]? = some (.agg (Val.L j).toArray) ∧ 0 < s ∧ (Val.L j).length = n * s ∧ (Val.L j ≠ [] → ∃ a : Addr, oa = some a) ∧ v = .slice oa n cap
  | .elX b i k j n s, v => ∃ p a m cap, E[b]? = some p ∧ p.inn[(Val.I k).toNat]? = some (.slice (some a) m cap) ∧ (Val.L i)[(Val.I k).toNat]? = some (.agg (Val.L j).toArray) ∧ v = .pointer (some (a.add ((Val.I n).toNat * s)))
  | .ifc b t, v => ∃ p, E[b]? = some p ∧ v = .iface t (.pointer (some ⟨p.1, 0, none⟩))
  | .wild i, v => v = Val.W i
  | .yld b, v => ∃ p, E[b]? = some p ∧ v = .func (.yield p.1) #[] #[]
  | .gst b j, v => ∃ p, E[b]? = some p ∧ v = gstAt p.val j
def VRels (E : Env) : List RV → List Value → Prop
  | [], vs => vs = []
  | r :: l, vs => ∃ v vs', vs = v :: vs' ∧ VRel E r v ∧ VRels E l vs'
end

theorem VRels_iff {E : Env} : ∀ {l : List RV} {vs : List Value}, VRels E l vs ↔ All2 (VRel E) l vs
  | [], vs => by
    simp only [VRels]
    exact ⟨fun h => h ▸ .nil, fun h => by cases h; rfl⟩
  | r :: l, vs => by
    simp only [VRels]
    constructor
    · rintro ⟨v, vs', rfl, h, h'⟩
      exact .cons h (VRels_iff.1 h')
    · intro h
      cases h with
      | cons r h => exact ⟨_, _, rfl, r, VRels_iff.2 h⟩

omit [Val] in
theorem getElem?_prefix {α : Type} {E E' : List α} (h : E <+: E') {b : Nat} {p : α} (hb : E[b]? = some p) : E'[b]? = some p := by
  obtain ⟨t, rfl⟩ := h
  rw [List.getElem?_append_left]
  · exact hb
  · exact (List.getElem?_eq_some_iff.1 hb).1

mutual
theorem VRel.ext {E E' : Env} (h : E <+: E') : ∀ (r : RV) (v : Value), VRel E r v → VRel E' r v
  | .pl _, _, hv => hv
  | .sym _ _, _, hv => hv
  | .el _ _ _, _, ⟨p, hp, hv⟩ => ⟨p, getElem?_prefix h hp, hv⟩
  | .ptr _ _, _, ⟨p, hp, hv⟩ => ⟨p, getElem?_prefix h hp, hv⟩
  | .sl _ _ _ _ _, _, ⟨p, k, hp, hv⟩ => ⟨p, k, getElem?_prefix h hp, hv⟩
  | .fn _ a c, _, ⟨a', c', hv, ha, hc⟩ => ⟨a', c', hv, VRels.ext h a _ ha, VRels.ext h c _ hc⟩
  | .agg l, _, ⟨l', hv, hl⟩ => ⟨l', hv, VRels.ext h l _ hl⟩
  | .tup l, _, ⟨l', hv, hl⟩ => ⟨l', hv, VRels.ext h l _ hl⟩
  | .slN _ _ _, _, ⟨p, n, hp, hv⟩ => ⟨p, n, getElem?_prefix h hp, hv⟩
  | .slA _ _ _, _, ⟨p, a, n, cap, hp, hv⟩ => ⟨p, a, n, cap, getElem?_prefix h hp, hv⟩
  | .elA _ _ _, _, ⟨p, a, n, cap, hp, hv⟩ => ⟨p, a, n, cap, getElem?_prefix h hp, hv⟩
  | .elF _ _ _ _, _, ⟨p, hp, hv⟩ => ⟨p, getElem?_prefix h hp, hv⟩
  | .elB _ _ _ _, _, ⟨p, a, n, cap, hp, hv⟩ => ⟨p, a, n, cap, getElem?_prefix h hp, hv⟩
  | .slP _ _ _ _ _, _, ⟨p, n, hp, hv⟩ => ⟨p, n, getElem?_prefix h hp, hv⟩
  | .slL _ _, _, hv => hv.elim
  | .slX _ _ _ _ _, _, ⟨p, oa, n, cap, hp, hv⟩ => ⟨p, oa, n, cap, getElem?_prefix h hp, hv⟩
  | .elX _ _ _ _ _ _, _, ⟨p, a, n, cap, hp, hv⟩ => ⟨p, a, n, cap, getElem?_prefix h hp, hv⟩
  | .ifc _ _, _, ⟨p, hp, hv⟩ => ⟨p, getElem?_prefix h hp, hv⟩
  | .wild _, _, hv => hv
  | .yld _, _, ⟨p, hp, hv⟩ => ⟨p, getElem?_prefix h hp, hv⟩
  | .gst _ _, _, ⟨p, hp, hv⟩ => ⟨p, getElem?_prefix h hp, hv⟩
theorem VRels.ext {E E' : Env} (h : E <+: E') : ∀ (l : List RV) (vs : List Value), VRels E l vs → VRels E' l vs
  | [], _, hv => hv
  | r :: l, _, ⟨v, vs', e, hv, hl⟩ => ⟨v, vs', e, VRel.ext h r v hv, VRels.ext h l vs' hl⟩
end

mutual
theorem VRel.fn {E : Env} : ∀ (r : RV) (v v' : Value), VRel E r v → VRel E r v' → v = v'
  | .pl _, _, _, h, h' => h.trans h'.symm
  | .sym _ _, _, _, h, h' => h.trans h'.symm
  | .el _ _ _, _, _, ⟨p, hp, hv⟩, ⟨p', hp', hv'⟩ => by
    rw [hp] at hp'; cases hp'; rw [hv, hv']
  | .ptr _ _, _, _, ⟨p, hp, hv⟩, ⟨p', hp', hv'⟩ => by
    rw [hp] at hp'; cases hp'; rw [hv, hv']
  | .sl _ _ _ _ _, _, _, ⟨p, k, hp, hk, _, hv⟩, ⟨p', k', hp', hk', _, hv'⟩ => by
    rw [hp] at hp'; cases hp'; rw [hv, hv', hk, hk']
  | .fn _ a c, _, _, ⟨a1, c1, hv, ha, hc⟩, ⟨a2, c2, hv', ha', hc'⟩ => by
    have e1 := VRels.fn a _ _ ha ha'
    have e2 := VRels.fn c _ _ hc hc'
    rw [hv, hv', Array.toList_inj.1 e1, Array.toList_inj.1 e2]
  | .agg l, _, _, ⟨l1, hv, hl⟩, ⟨l2, hv', hl'⟩ => by
    have e1 := VRels.fn l _ _ hl hl'
    rw [hv, hv', Array.toList_inj.1 e1]
  | .tup l, _, _, ⟨l1, hv, hl⟩, ⟨l2, hv', hl'⟩ => by
    have e1 := VRels.fn l _ _ hl hl'
    rw [hv, hv', Array.toList_inj.1 e1]
  | .slN _ _ _, _, _, ⟨p, n, hp, hs, hn, _, hv⟩, ⟨p', n', hp', _, hn', _, hv'⟩ => by
    rw [hp] at hp'; cases hp'
    rw [hn] at hn'
    have := Nat.eq_of_mul_eq_mul_right hs hn'
    rw [hv, hv', this]
  | .slA _ _ _, _, _, ⟨p, a, n, cap, hp, hv, _, _, _, _, e⟩, ⟨p', a', n', cap', hp', hv', _, _, _, _, e'⟩ => by
    rw [hp] at hp'; cases hp'
    rw [hv] at hv'; cases hv'
    rw [e, e']
  | .elA _ _ _, _, _, ⟨p, a, n, cap, hp, hv, e⟩, ⟨p', a', n', cap', hp', hv', e'⟩ => by
    rw [hp] at hp'; cases hp'
    rw [hv] at hv'; cases hv'
    rw [e, e']
  | .elB _ _ _ _, _, _, ⟨p, a, n, cap, hp, hv, e⟩, ⟨p', a', n', cap', hp', hv', e'⟩ => by
    rw [hp] at hp'; cases hp'
    rw [hv] at hv'; cases hv'
    rw [e, e']
  | .elF _ _ _ _, _, _, ⟨p, hp, hv⟩, ⟨p', hp', hv'⟩ => by
    rw [hp] at hp'; cases hp'; rw [hv, hv']
  | .slP _ _ _ _ _, _, _, ⟨p, n, hp, hs, hn, _, _, _, hv⟩, ⟨p', n', hp', _, hn', _, _, _, hv'⟩ => by
    rw [hp] at hp'; cases hp'
    rw [hn] at hn'
    have := Nat.eq_of_mul_eq_mul_right hs hn'
    rw [hv, hv', this]
  | .slL _ _, _, _, h, _ => h.elim
  | .slX _ _ _ _ _, _, _, ⟨p, oa, n, cap, hp, hv, _, _⟩, ⟨p', oa', n', cap', hp', hv', _, _⟩ => by
    rw [hp] at hp'; cases hp'
    rw [hv] at hv'; cases hv'; rfl
  | .elX _ _ _ _ _ _, _, _, ⟨p, a, n, cap, hp, h1, _, hv⟩, ⟨p', a', n', cap', hp', h1', _, hv'⟩ => by
    rw [hp] at hp'; cases hp'
    rw [h1] at h1'; cases h1'
    rw [hv, hv']
  | .ifc _ _, _, _, ⟨p, hp, hv⟩, ⟨p', hp', hv'⟩ => by
    rw [hp] at hp'; cases hp'; rw [hv, hv']
  | .wild _, _, _, h, h' => h.trans h'.symm
  | .yld _, _, _, ⟨p, hp, hv⟩, ⟨p', hp', hv'⟩ => by
    rw [hp] at hp'; cases hp'; rw [hv, hv']
  | .gst _ _, _, _, ⟨p, hp, hv⟩, ⟨p', hp', hv'⟩ => by
    rw [hp] at hp'; cases hp'; rw [hv, hv']
theorem VRels.fn {E : Env} : ∀ (l : List RV) (vs vs' : List Value), VRels E l vs → VRels E l vs' → vs = vs'
  | [], _, _, h, h' => h.trans h'.symm
  | r :: l, _, _, ⟨v, vs1, e, hv, hl⟩, ⟨v', vs2, e', hv', hl'⟩ => by
    rw [e, e', VRel.fn r v v' hv hv', VRels.fn l vs1 vs2 hl hl']
end

theorem All2.ext {E E' : Env} (h : E <+: E') {l : List RV} {vs : List Value} (hl : All2 (VRel E) l vs) : All2 (VRel E') l vs :=
  hl.mono fun r v => VRel.ext h r v
theorem All2.pls {E : Env} : ∀ vs : List Value, All2 (VRel E) (vs.map .pl) vs
  | [] => .nil
  | _ :: vs => .cons rfl (All2.pls vs)

omit [Val] in
theorem plains_spec {l : List RV} {vs : List Value} (h : plains l = some vs) : l = vs.map .pl := by
  induction l generalizing vs with
  | nil => cases h; rfl
  | cons r l ih =>
    cases r with
    | pl v =>
      have e : plains (.pl v :: l) = (match plains l with | some vs => some (v :: vs) | none => none) := rfl
      rw [e] at h
      cases hl : plains l with
      | none => rw [hl] at h; cases h
      | some vs' => rw [hl] at h; cases h; simp [ih hl]
    | _ => cases h
theorem plains_rel {E : Env} {l : List RV} {vs us : List Value} (h : plains l = some vs) (hr : All2 (VRel E) l us) : us = vs := by
  subst_vars
  have := plains_spec h
  subst this
  exact VRels.fn _ _ _ (VRels_iff.2 hr) (VRels_iff.2 (All2.pls vs))
theorem mkAgg_rel {E : Env} {l : List RV} {vs : List Value} (h : All2 (VRel E) l vs) : VRel E (mkAgg l) (.agg vs.toArray) := by
  unfold mkAgg
  split
  · rename_i us hus
    have := plains_rel hus h
    subst this
    rfl
  · exact ⟨vs.toArray, rfl, VRels_iff.2 (by simpa using h)⟩
theorem mkTup_rel {E : Env} {l : List RV} {vs : List Value} (h : All2 (VRel E) l vs) : VRel E (mkTup l) (.tuple vs.toArray) := by
  unfold mkTup
  split
  · rename_i us hus
    have := plains_rel hus h
    subst this
    rfl
  · exact ⟨vs.toArray, rfl, VRels_iff.2 (by simpa using h)⟩
theorem cellsOf_rel {E : Env} {r : RV} {v : Value} (h : VRel E r v) (hw : isW r = false) : All2 (VRel E) (cellsOf r) v.cells.toList := by
  cases r with
  | pl u => cases h; exact All2.pls _
  | sym k i =>
    cases h
    have e : (k.val i).cells.toList = [k.val i] := by
      have := TK.not_agg k i
      generalize k.val i = v at this
      cases v with
      | agg l => exact absurd rfl (this l)
      | _ => rfl
    rw [e]
    exact .cons rfl .nil
  | el b i s => obtain ⟨p, hp, rfl⟩ := h; exact .cons ⟨p, hp, rfl⟩ .nil
  | ptr b o => obtain ⟨p, hp, rfl⟩ := h; exact .cons ⟨p, hp, rfl⟩ .nil
  | sl b o n s c => obtain ⟨p, k, hp, hk, hn, rfl⟩ := h; exact .cons ⟨p, k, hp, hk, hn, rfl⟩ .nil
  | fn f a c => obtain ⟨a', c', rfl, ha, hc⟩ := h; exact .cons ⟨a', c', rfl, ha, hc⟩ .nil
  | agg l => obtain ⟨l', rfl, hl⟩ := h; exact VRels_iff.1 hl
  | tup l => obtain ⟨l', rfl, hl⟩ := h; exact .cons ⟨l', rfl, hl⟩ .nil
  | slN b i s => obtain ⟨p, n, hp, h1, h2, h3, rfl⟩ := h; exact .cons ⟨p, n, hp, h1, h2, h3, rfl⟩ .nil
  | slA b i s => obtain ⟨p, a, n, cap, hp, g1, g2, g3, g4, g5, rfl⟩ := h; exact .cons ⟨p, a, n, cap, hp, g1, g2, g3, g4, g5, rfl⟩ .nil
  | elA b i s => obtain ⟨p, a, n, cap, hp, g1, rfl⟩ := h; exact .cons ⟨p, a, n, cap, hp, g1, rfl⟩ .nil
  | elF b i s o => obtain ⟨p, hp, rfl⟩ := h; exact .cons ⟨p, hp, rfl⟩ .nil
  | elB b i s o => obtain ⟨p, a, n, cap, hp, g1, rfl⟩ := h; exact .cons ⟨p, a, n, cap, hp, g1, rfl⟩ .nil
  | slP b i j s a => obtain ⟨p, n, hp, g1, g2, g3, g4, g5, rfl⟩ := h; exact .cons ⟨p, n, hp, g1, g2, g3, g4, g5, rfl⟩ .nil
  | slL i s => exact h.elim
  | slX b i k j s => obtain ⟨p, oa, n, cap, hp, g1, g2, g3, g4, g5, rfl⟩ := h; exact .cons ⟨p, oa, n, cap, hp, g1, g2, g3, g4, g5, rfl⟩ .nil
  | elX b i k j m s => obtain ⟨p, a, n, cap, hp, g1, g2, rfl⟩ := h; exact .cons ⟨p, a, n, cap, hp, g1, g2, rfl⟩ .nil
  | ifc b t => obtain ⟨p, hp, rfl⟩ := h; exact .cons ⟨p, hp, rfl⟩ .nil
  | wild i => cases hw
  | yld b => obtain ⟨p, hp, rfl⟩ := h; exact .cons ⟨p, hp, rfl⟩ .nil
  | gst b j => cases hw
theorem one_rel {E : Env} {r : RV} {v : Value} (h : VRel E r v) (h1 : one r = true) : v.oneCell' = true := by
  cases r with
  | pl u => cases h; exact h1
  | sym k i => cases h; exact k.one i
  | el b i s => obtain ⟨p, hp, rfl⟩ := h; rfl
  | ptr b o => obtain ⟨p, hp, rfl⟩ := h; rfl
  | sl b o n s c => obtain ⟨p, k, hp, hk, hn, rfl⟩ := h; rfl
  | fn f a c => obtain ⟨a', c', rfl, ha, hc⟩ := h; rfl
  | agg l => cases h1
  | tup l => cases h1
  | slN b i s => obtain ⟨p, n, hp, g1, g2, g3, rfl⟩ := h; rfl
  | slA b i s => obtain ⟨p, a, n, cap, hp, g1, g2, g3, g4, g5, rfl⟩ := h; rfl
  | elA b i s => obtain ⟨p, a, n, cap, hp, g1, rfl⟩ := h; rfl
  | elF b i s o => obtain ⟨p, hp, rfl⟩ := h; rfl
  | elB b i s o => obtain ⟨p, a, n, cap, hp, g1, rfl⟩ := h; rfl
  | slP b i j s a => obtain ⟨p, n, hp, g1, g2, g3, g4, g5, rfl⟩ := h; rfl
  | slL i s => exact h.elim
  | slX b i k j s => obtain ⟨p, oa, n, cap, hp, g1, g2, g3, g4, g5, rfl⟩ := h; rfl
  | elX b i k j m s => obtain ⟨p, a, n, cap, hp, g1, g2, rfl⟩ := h; rfl
  | ifc b t => obtain ⟨p, hp, rfl⟩ := h; rfl
  | wild i => cases h1
  | yld b => obtain ⟨p, hp, rfl⟩ := h; rfl
  | gst b j => cases h1
theorem all_one_rel {E : Env} {l : List RV} {vs : List Value} (h : All2 (VRel E) l vs) (h1 : l.all one = true) : ∀ v ∈ vs, v.oneCell' = true := by
  induction h with
  | nil => simp
  | cons r _ ih =>
    simp at h1
    intro v hv
    simp at hv
    rcases hv with rfl | hv
    · exact one_rel r h1.1
    · exact ih (by simpa using h1.2) v hv

/-! What stands for itself or by a name. -/
def cv : RV → Value
  | .pl v => v
  | .sym k i => k.val i
  | _ => undef
theorem cv_rel {E : Env} {r : RV} {v : Value} (hf : flat0 r = true) (h : VRel E r v) : v = cv r := by
  cases r with
  | pl u => exact h
  | sym k i => exact h
  | _ => cases hf
theorem rel_cv {E : Env} {r : RV} (hf : flat0 r = true) : VRel E r (cv r) := by
  cases r with
  | pl u => exact rfl
  | sym k i => exact rfl
  | _ => cases hf
theorem flat0_rel {E E' : Env} {r : RV} {v : Value} (hf : flat0 r = true) (h : VRel E r v) : VRel E' r v := by
  cases r with
  | pl u => exact h
  | sym k i => exact h
  | _ => cases hf
theorem flat0s_rel {E E' : Env} {l : List RV} {vs : List Value} (hf : l.all flat0 = true) (h : All2 (VRel E) l vs) : All2 (VRel E') l vs := by
  induction h with
  | nil => exact .nil
  | cons r _ ih =>
    simp only [List.all_cons, Bool.and_eq_true] at hf
    exact .cons (flat0_rel hf.1 r) (ih hf.2)
theorem flat1_rel {E E' : Env} {r : RV} {v : Value} (hf : flat1 r = true) (h : VRel E r v) : VRel E' r v := by
  cases r with
  | agg l => obtain ⟨l', hv, hl⟩ := h; exact ⟨l', hv, VRels_iff.2 (flat0s_rel hf (VRels_iff.1 hl))⟩
  | pl u => exact h
  | sym k i => exact h
  | _ => cases hf
theorem flat1s_rel {E E' : Env} {l : List RV} {vs : List Value} (hf : l.all flat1 = true) (h : All2 (VRel E) l vs) : All2 (VRel E') l vs := by
  induction h with
  | nil => exact .nil
  | cons r _ ih =>
    simp only [List.all_cons, Bool.and_eq_true] at hf
    exact .cons (flat1_rel hf.1 r) (ih hf.2)
theorem flat_rel {E E' : Env} {r : RV} {v : Value} (hf : flat r = true) (h : VRel E r v) : VRel E' r v := by
  cases r with
  | tup l => obtain ⟨l', hv, hl⟩ := h; exact ⟨l', hv, VRels_iff.2 (flat1s_rel hf (VRels_iff.1 hl))⟩
  | agg l => exact flat1_rel (r := .agg l) hf h
  | pl u => exact h
  | sym k i => exact h
  | _ => cases hf
/-- What is flat stands for one value. -/
def cv1 : RV → Value
  | .agg l => .agg (l.map cv).toArray
  | r => cv r
def cvF : RV → Value
  | .tup l => .tuple (l.map cv1).toArray
  | r => cv1 r
theorem rel_cvs {E : Env} : ∀ l : List RV, l.all flat0 = true → All2 (VRel E) l (l.map cv)
  | [], _ => .nil
  | r :: l, h => by
    simp only [List.all_cons, Bool.and_eq_true] at h
    exact .cons (rel_cv h.1) (rel_cvs l h.2)
theorem rel_cv1 {E : Env} {r : RV} (hf : flat1 r = true) : VRel E r (cv1 r) := by
  cases r with
  | agg l => exact ⟨_, rfl, VRels_iff.2 (by simpa using rel_cvs l hf)⟩
  | pl u => exact rfl
  | sym k i => exact rfl
  | _ => cases hf
theorem rel_cv1s {E : Env} : ∀ l : List RV, l.all flat1 = true → All2 (VRel E) l (l.map cv1)
  | [], _ => .nil
  | r :: l, h => by
    simp only [List.all_cons, Bool.and_eq_true] at h
    exact .cons (rel_cv1 h.1) (rel_cv1s l h.2)
theorem rel_cvF {E : Env} {r : RV} (hf : flat r = true) : VRel E r (cvF r) := by
  cases r with
  | tup l => exact ⟨_, rfl, VRels_iff.2 (by simpa using rel_cv1s l hf)⟩
  | agg l => exact rel_cv1 (r := .agg l) hf
  | pl u => exact rfl
  | sym k i => exact rfl
  | _ => cases hf
theorem flats_rel {E E' : Env} {l : List RV} {vs : List Value} (hf : l.all flat = true) (h : All2 (VRel E) l vs) : All2 (VRel E') l vs := by
  induction h with
  | nil => exact .nil
  | cons r _ ih =>
    simp only [List.all_cons, Bool.and_eq_true] at hf
    exact .cons (flat_rel hf.1 r) (ih hf.2)
end

theorem lkp_eq : ∀ (h : RH) (b : Nat), lkp h b = (h[b]?).join
  | [], _ => rfl
  | _ :: _, 0 => rfl
  | _ :: h, b + 1 => (lkp_eq h b).trans (by simp)
theorem nth_eq : ∀ (l : List RV) (i : Nat), nth l i = l.getD i (.pl undef)
  | [], _ => rfl
  | _ :: _, 0 => rfl
  | _ :: l, i + 1 => (nth_eq l i).trans (by simp)
theorem takeN_eq : ∀ (n : Nat) (l r : List RV), takeN n l = some r → n ≤ l.length ∧ r = l.take n
  | 0, l, r, h => by cases h; simp
  | n + 1, [], r, h => by cases h
  | n + 1, x :: l, r, h => by
    have e : takeN (n + 1) (x :: l) = (match takeN n l with | some r => some (x :: r) | none => none) := rfl
    rw [e] at h
    cases hq : takeN n l with
    | none => rw [hq] at h; cases h
    | some q =>
      rw [hq] at h
      cases h
      obtain ⟨h1, h2⟩ := takeN_eq n l q hq
      subst h2
      exact ⟨by simp; omega, by simp⟩
theorem seg_eq : ∀ (l : List RV) (o n : Nat) (r : List RV), seg l o n = some r → o + n ≤ l.length ∧ r = (l.drop o).take n
  | l, 0, n, r, h => by
    have := takeN_eq n l r h
    simpa using this
  | [], o + 1, n, r, h => by cases h
  | x :: l, o + 1, n, r, h => by
    have := seg_eq l o n r h
    simp
    exact ⟨by omega, this.2⟩
end Go.Ri

namespace Go.Ri
open Go Go.RowKit
variable [Val]

/-- The cells of a list within a list. -/
def unA : Value → List Value
  | .agg a => a.toList
  | _ => []
/-- What a list within a list is in a world: a slice that holds it. -/
def Inn (w : World) (s : Nat) (l v : Value) : Prop :=
  ∃ oa n cap, v = .slice oa n cap ∧ 0 < s ∧ (unA l).length = n * s ∧ n ≤ cap ∧ (unA l ≠ [] → ∃ a : Addr, oa = some a) ∧ ∀ a : Addr, oa = some a → a.block < w.heap.size ∧ ∀ j u, (unA l)[j]? = some u → w.cell? (a.add j) = some u
/-- A row's marks lie on none of its cells. -/
def Free (fr : Nat × Nat) (n : Nat) : Prop := fr = (0, 0) ∨ n ≤ fr.1
/-- A row whose marks lie on none of its n cells. -/
def RowF (w : World) (b : Nat) (cur : Array Value) (e : TypeId) (n : Nat) : Prop := ∃ fr, w.heap[b]? = some (.cells cur e fr) ∧ Free fr n
omit [Val] in
theorem RowF.keep {w w' : World} {b : Nat} {cur : Array Value} {e : TypeId} {n : Nat} (h : RowF w b cur e n) (hh : w'.heap[b]? = w.heap[b]?) : RowF w' b cur e n := by
  obtain ⟨fr, h1, h2⟩ := h
  exact ⟨fr, hh.trans h1, h2⟩
/-- How code is left, as code. -/
def exCode : Ex → Code
  | .normal => .skip
  | .exit id => .exit id
  | .ret => .ret
/-- The states of a loop's record. -/
def lpSt : Nat → LoopState
  | 0 => .ready
  | 1 => .busy
  | _ => .done
/-- What a block is held to. -/
def PinOK (w : World) (p : EP) : Prop := match p.k with
  | .no => True
  | .dfr => w.heap[p.1]? = some (.deferred (some []))
  | .loop L => ∃ st pe, w.heap[p.1]? = some (.loop { L with state := st, pending := pe })
omit [Val] in
theorem PinOK.keep {w w' : World} {p : EP} (h : PinOK w p) (hk : p.k ≠ .no → w'.heap[p.1]? = w.heap[p.1]?) : PinOK w' p := by
  unfold PinOK at h ⊢
  cases he : p.k with
  | no => trivial
  | dfr => rw [he] at h; exact (hk (by rw [he]; simp)).trans h
  | loop L => rw [he] at h; obtain ⟨st, pe, hs⟩ := h; exact ⟨st, pe, (hk (by rw [he]; simp)).trans hs⟩
omit [Val] in
theorem PinOK.of_no {w : World} {p : EP} (h : p.k = .no) : PinOK w p := by unfold PinOK; rw [h]; trivial
omit [Val] in
theorem PinOK.lt {w : World} {p : EP} (h : PinOK w p) (hk : p.k ≠ .no) : p.1 < w.heap.size := by
  unfold PinOK at h
  cases he : p.k with
  | no => exact absurd he hk
  | dfr => rw [he] at h; exact (Array.getElem?_eq_some_iff.1 h).1
  | loop L => rw [he] at h; obtain ⟨st, pe, hs⟩ := h; exact (Array.getElem?_eq_some_iff.1 hs).1
def BRel (E : Env) (p : EP) (w : World) : RO → Prop
  | .cells l e room froz => ∃ cur fr, w.heap[p.1]? = some (.cells cur e fr) ∧ cur.size = p.2 ∧ All2 (VRel E) l (cur.toList.take l.length) ∧
      (room = false → l.length = p.2) ∧ (froz = false → Free fr p.2)
  | .iter s pos => w.heap[p.1]? = some (.stringIter s pos)
  | .lent l e => ∃ cur fr, w.heap[p.1]? = some (.cells cur e fr) ∧ cur.size = p.2 ∧ All2 (VRel E) l (cur.toList.take l.length)
  | .lst i e o => ∃ cur fr, w.heap[p.1]? = some (.cells cur e fr) ∧ cur.size = p.2 ∧ cur.toList.take (Val.L i).length = Val.L i ∧ (o = true → Free fr p.2)
  | .lstA i => p.1 < w.heap.size ∧ ∃ oa n cap, p.sl = .slice oa n cap ∧ (Val.L i ≠ [] → ∃ a : Addr, oa = some a ∧ a.block = p.1) ∧ ∀ a, oa = some a → ∀ j v, (Val.L i)[j]? = some v → w.cell? (a.add j) = some v
  | .lstQ i e s => ∃ off n cap cur, p.sl = .slice (some ⟨p.1, off, none⟩) n cap ∧ RowF w p.1 cur e p.2 ∧ cur.size = p.2 ∧ n ≤ cap ∧ off + cap * s ≤ p.2 ∧ (Val.L i).length = n * s ∧ 0 < s ∧ (cur.toList.drop off).take (n * s) = Val.L i
  | .lstL i e s => ∃ cur, RowF w p.1 cur e p.2 ∧ cur.size = p.2 ∧ cur.toList.take (Val.L i).length = p.inn ∧ All2 (Inn w s) (Val.L i) p.inn
  | .lp st pe => ∃ L, p.k = .loop L ∧ w.heap[p.1]? = some (.loop { L with state := lpSt st, pending := pe.map exCode })
  | .lstB i s => p.1 < w.heap.size ∧ ∃ oa n cap, p.sl = .slice oa n cap ∧ (Val.L i ≠ [] → ∃ a : Addr, oa = some a ∧ a.block = p.1) ∧ (∀ a, oa = some a → ∀ j v, p.inn[j]? = some v → w.cell? (a.add j) = some v) ∧ All2 (Inn w s) (Val.L i) p.inn
/-- Is a block the run's own. -/
def RO.own : RO → Bool
  | .lent _ _ => false
  | .lst _ _ o => o
  | .lstA _ => false
  | .lstB _ _ => false
  | _ => true
/-- Does a block hold lists. -/
def RO.nest : RO → Bool
  | .lstL _ _ _ => true
  | .lstB _ _ => true
  | _ => false

def at? (h : RH) (b : Nat) : Option RO := (h[b]?).join

/-- What a table's cells are: those listed; where none are listed, one number; where a function that is nil is listed, an interface's value. -/
def RoEq (l cs : List Value) : Prop := (l = cs ∧ cs ≠ [] ∧ isIfRow cs = false) ∨ (cs = [] ∧ ∃ m, l = [.int .i64 m]) ∨ (cs = [.nilFunc] ∧ ∃ v, l = [v] ∧ (v = .nilIface ∨ ∃ te pe, v = .iface te pe))
structure HInv (ro : Ro) (base : Nat) (w0 : World) (E : Env) (h : RH) (w : World) : Prop where
  below : Below base w0 w
  lb : base ≤ w0.heap.size
  len : h.length = E.length
  ro : ∀ g cs, ro.lookup g = some cs → g < base ∧ ∃ cur e fr, w0.heap[g]? = some (.cells cur e fr) ∧ RoEq cur.toList cs
  blk : ∀ b o, at? h b = some o → ∃ p, E[b]? = some p ∧ (if o.own then base ≤ p.1 else p.1 < base) ∧ BRel E p w o
  inj : ∀ b b' o o' p p', at? h b = some o → at? h b' = some o' → o.own = true → o'.own = true → E[b]? = some p → E[b']? = some p' → p.1 = p'.1 → b = b'
  frm : ∀ b o p, at? h b = some o → o.nest = true → E[b]? = some p → ∀ q, q ∈ p.innP → q < w.heap.size ∧ (if o.own then base ≤ q ∧ ∀ b' o' p', at? h b' = some o' → o'.own = true → E[b']? = some p' → p'.1 ≠ q else q < base)
  pin : ∀ (i : Nat) p, E[i]? = some p → PinOK w p

omit [Val] in
theorem at?_lt {h : RH} {b : Nat} {o : RO} (hb : at? h b = some o) : b < h.length := by
  unfold at? at hb
  by_cases hlt : b < h.length
  · exact hlt
  · rw [List.getElem?_eq_none (by omega)] at hb
    cases hb
omit [Val] in
theorem at?_push_old {h : RH} {b : Nat} {x : Option RO} (hb : b < h.length) : at? (h ++ [x]) b = at? h b := by
  unfold at?
  rw [List.getElem?_append_left hb]
omit [Val] in
theorem at?_push_new (h : RH) (x : Option RO) : at? (h ++ [x]) h.length = x := by
  unfold at?
  rw [List.getElem?_append_right (by omega)]
  simp
omit [Val] in
theorem at?_push_far {h : RH} {b : Nat} {x : Option RO} (hb : h.length < b) : at? (h ++ [x]) b = none := by
  unfold at?
  rw [List.getElem?_eq_none (by simp; omega)]
  rfl
omit [Val] in
theorem at?_set_same {h : RH} {b : Nat} (x : Option RO) (hb : b < h.length) : at? (h.set b x) b = x := by
  unfold at?
  rw [List.getElem?_set_self hb]
  rfl
omit [Val] in
theorem at?_set_other {h : RH} {b b' : Nat} (x : Option RO) (hb : b ≠ b') : at? (h.set b x) b' = at? h b' := by
  unfold at?
  rw [List.getElem?_set_ne hb]

theorem BRel.heap_lt {E : Env} {p : EP} {w : World} {o : RO} (h : BRel E p w o) : p.1 < w.heap.size := by
  have key : ∀ x : Obj, w.heap[p.1]? = some x → p.1 < w.heap.size := fun x hx => (Array.getElem?_eq_some_iff.1 hx).1
  cases o with
  | cells l e room froz => obtain ⟨cur, fr, hh, _⟩ := h; exact key _ hh
  | iter s pos => exact key _ h
  | lent l e => obtain ⟨cur, fr, hh, _⟩ := h; exact key _ hh
  | lst i e o => obtain ⟨cur, fr, hh, _⟩ := h; exact key _ hh
  | lstA i => exact h.1
  | lstQ i e s => obtain ⟨off, n, cap, cur, _, ⟨_, hh, _⟩, _⟩ := h; exact key _ hh
  | lstL i e s => obtain ⟨cur, ⟨_, hh, _⟩, _⟩ := h; exact key _ hh
  | lstB i s => exact h.1
  | lp st pe => obtain ⟨L, _, hh⟩ := h; exact key _ hh
omit [Val] in
theorem block_add (a : Addr) (j : Nat) : (a.add j).block = a.block := by
  unfold Addr.add
  split <;> rfl
omit [Val] in
theorem size_keep {w w' : World} {q : Nat} (hq : w'.heap[q]? = w.heap[q]?) (hlt : q < w.heap.size) : q < w'.heap.size := by
  rcases Nat.lt_or_ge q w'.heap.size with hl | hl
  · exact hl
  · rw [Array.getElem?_eq_none hl, Array.getElem?_eq_getElem hlt] at hq
    cases hq
omit [Val] in
theorem cell_keep {w w' : World} {a : Addr} (hq : w'.heap[a.block]? = w.heap[a.block]?) {j : Nat} {u : Value} (h : w.cell? (a.add j) = some u) : w'.cell? (a.add j) = some u := by
  unfold World.cell? at h ⊢
  rw [block_add] at h ⊢
  rw [hq]
  exact h
omit [Val] in
theorem All2.mono_mem {α β : Type} {R S : α → β → Prop} : ∀ {l : List α} {m : List β}, All2 R l m → (∀ a b, b ∈ m → R a b → S a b) → All2 S l m
  | _, _, .nil, _ => .nil
  | _, _, .cons h t, hS => .cons (hS _ _ List.mem_cons_self h) (All2.mono_mem t fun a b hb => hS a b (List.mem_cons_of_mem _ hb))
omit [Val] in
theorem Inn.keep {w w' : World} {s : Nat} {p : EP} {l v : Value} (hi : ∀ q, q ∈ p.innP → w'.heap[q]? = w.heap[q]?) (hv : v ∈ p.inn) (h : Inn w s l v) : Inn w' s l v := by
  obtain ⟨oa, n, cap, rfl, h1, h2, h3, h4, h5⟩ := h
  refine ⟨oa, n, cap, rfl, h1, h2, h3, h4, fun a ha => ?_⟩
  obtain ⟨h6, h7⟩ := h5 a ha
  have hq := hi a.block (List.mem_filterMap.2 ⟨_, hv, by rw [ha]; rfl⟩)
  exact ⟨size_keep hq h6, fun j u hj => cell_keep hq (h7 j u hj)⟩
theorem BRel.keep {E E' : Env} (hE : E <+: E') {p : EP} {w w' : World} {o : RO} (hh : w'.heap[p.1]? = w.heap[p.1]?) (hi : o.nest = true → ∀ q, q ∈ p.innP → w'.heap[q]? = w.heap[q]?) (h : BRel E p w o) : BRel E' p w' o := by
  cases o with
  | lstL i e s =>
    obtain ⟨cur, h1, h2, h3, h4⟩ := h
    exact ⟨cur, h1.keep hh, h2, h3, h4.mono_mem fun a b hb => Inn.keep (hi rfl) hb⟩
  | lstB i s =>
    obtain ⟨hlt, oa, n, cap, h1, h2, h3, h4⟩ := h
    refine ⟨size_keep hh hlt, oa, n, cap, h1, h2, fun a ha j v hj => ?_, h4.mono_mem fun a b hb => Inn.keep (hi rfl) hb⟩
    have hne : Val.L i ≠ [] := by
      intro e
      rw [e] at h4
      cases hin : p.inn with
      | nil => rw [hin] at hj; cases hj
      | cons x t => rw [hin] at h4; cases h4
    obtain ⟨a2, ha2, hb2⟩ := h2 hne
    rw [ha] at ha2
    cases ha2
    exact cell_keep (by rw [hb2]; exact hh) (h3 a ha j v hj)
  | cells l e room froz =>
    obtain ⟨cur, fr, h1, h2, h3, h4⟩ := h
    exact ⟨cur, fr, hh.trans h1, h2, h3.ext hE, h4⟩
  | iter s pos => exact hh.trans h
  | lp st pe => obtain ⟨L, hk, h1⟩ := h; exact ⟨L, hk, hh.trans h1⟩
  | lent l e =>
    obtain ⟨cur, fr, h1, h2, h3⟩ := h
    exact ⟨cur, fr, hh.trans h1, h2, h3.ext hE⟩
  | lst i e o =>
    obtain ⟨cur, fr, h1, h2⟩ := h
    exact ⟨cur, fr, hh.trans h1, h2⟩
  | lstQ i e s =>
    obtain ⟨off, n, cap, cur, h1, h2, h3⟩ := h
    exact ⟨off, n, cap, cur, h1, h2.keep hh, h3⟩
  | lstA i =>
    obtain ⟨hlt, a, n, cap, h1, h2, h3⟩ := h
    have hs : p.1 < w'.heap.size := by
      rcases Nat.lt_or_ge p.1 w'.heap.size with hl | hl
      · exact hl
      · rw [Array.getElem?_eq_none hl] at hh
        rw [Array.getElem?_eq_getElem hlt] at hh
        cases hh
    refine ⟨hs, a, n, cap, h1, h2, fun a1 ha1 j v hj => ?_⟩
    have := h3 a1 ha1 j v hj
    unfold World.cell? at this ⊢
    have hbl : (a1.add j).block = p.1 := by
      obtain ⟨a2, ha2, hb2⟩ := h2 (fun e => by rw [e] at hj; cases hj)
      rw [ha1] at ha2
      cases ha2
      rw [← hb2]
      unfold Addr.add
      split <;> rfl
    rw [hbl] at this ⊢
    rw [hh]
    exact this

/-- A block that a run writes is held to nothing. -/
theorem BRel.not_pin {E : Env} {p q : EP} {w : World} {o : RO} (h : BRel E p w o) (hnl : ∀ st pe, o ≠ .lp st pe) (hw : o.own = true) (hk : q.k ≠ .no) (hq : q.1 = p.1) (hp : PinOK w q) : False := by
  have key : ∀ x : Obj, w.heap[p.1]? = some x → (∀ d, x ≠ .deferred d) → (∀ l, x ≠ .loop l) → False := fun x hx h1 h2 => by
    unfold PinOK at hp
    rw [hq] at hp
    cases he : q.k with
    | no => exact hk he
    | dfr => rw [he] at hp; exact h1 _ (Option.some.inj (hx.symm.trans hp))
    | loop L => rw [he] at hp; obtain ⟨st, pe, hs⟩ := hp; exact h2 _ (Option.some.inj (hx.symm.trans hs))
  cases o with
  | cells l e room froz => obtain ⟨cur, fr, hh, _⟩ := h; exact key _ hh (by simp) (by simp)
  | iter s pos => exact key _ h (by simp) (by simp)
  | lent l e => cases hw
  | lst i e o => obtain ⟨cur, fr, hh, _⟩ := h; exact key _ hh (by simp) (by simp)
  | lstA i => cases hw
  | lstQ i e s => obtain ⟨off, n, cap, cur, _, ⟨_, hh, _⟩, _⟩ := h; exact key _ hh (by simp) (by simp)
  | lstL i e s => obtain ⟨cur, ⟨_, hh, _⟩, _⟩ := h; exact key _ hh (by simp) (by simp)
  | lstB i s => cases hw
  | lp st pe => exact hnl st pe rfl
theorem BRel.inn_lt {E : Env} {p : EP} {w : World} {o : RO} (hn : o.nest = true) (h : BRel E p w o) : ∀ q, q ∈ p.innP → q < w.heap.size := by
  have key : ∀ {s : Nat} {l : List Value}, All2 (Inn w s) l p.inn → ∀ q, q ∈ p.innP → q < w.heap.size := fun {s l} ha q hq => by
    obtain ⟨v, hv, hb⟩ := List.mem_filterMap.1 hq
    have : ∀ {l m : List Value}, All2 (Inn w s) l m → v ∈ m → ∃ x, Inn w s x v := by
      intro l m ha
      induction ha with
      | nil => intro hv; cases hv
      | cons h _ ih =>
        intro hv
        rcases List.mem_cons.1 hv with rfl | hv
        · exact ⟨_, h⟩
        · exact ih hv
    obtain ⟨x, oa, n, cap, rfl, _, _, _, _, h5⟩ := this ha hv
    cases oa with
    | none => cases hb
    | some a =>
      have hb : some a.block = some q := hb
      cases hb
      exact (h5 a rfl).1
  cases o with
  | lstL i e s => obtain ⟨_, _, _, _, h4⟩ := h; exact key h4
  | lstB i s => obtain ⟨_, _, _, _, _, _, _, h4⟩ := h; exact key h4
  | _ => cases hn
section
variable {ro : Ro} {base : Nat} {w0 : World} {E : Env} {h : RH} {w : World}

theorem HInv.size (H : HInv ro base w0 E h w) : base ≤ w.heap.size := Nat.le_trans H.lb H.below.size

/-- A draw. -/
theorem HInv.drew (H : HInv ro base w0 E h w) : HInv ro base w0 E h w.drew :=
  ⟨H.below.drew, H.lb, H.len, H.ro, H.blk, H.inj, H.frm, fun i p hp => (H.pin i p hp).keep fun _ => rfl⟩

/-- A world in which all blocks that were there are as they were. -/
theorem HInv.world {w' : World} (H : HInv ro base w0 E h w) (hb : Below w.heap.size w w') : HInv ro base w0 E h w' :=
  ⟨H.below.trans (hb.mono H.size), H.lb, H.len, H.ro, fun b o hbo => by
    obtain ⟨p, h1, h2, h3⟩ := H.blk b o hbo
    exact ⟨p, h1, h2, h3.keep (List.prefix_refl E) (hb.block _ h3.heap_lt) fun hn q hq => hb.block _ (H.frm b o p hbo hn h1 q hq).1⟩, H.inj, fun b o p hbo hn hp q hq => ⟨Nat.lt_of_lt_of_le (H.frm b o p hbo hn hp q hq).1 hb.size, (H.frm b o p hbo hn hp q hq).2⟩,
    fun i p hp => (H.pin i p hp).keep fun hk => hb.block _ ((H.pin i p hp).lt hk)⟩

/-- A block given up. -/
theorem HInv.kill (H : HInv ro base w0 E h w) (b : Nat) : HInv ro base w0 E (h.set b none) w := by
  have key : ∀ b' o, at? (h.set b none) b' = some o → at? h b' = some o := fun b' o hb => by
    by_cases e : b = b'
    · subst e
      have hlt := at?_lt hb
      rw [at?_set_same none (by simpa using hlt)] at hb
      cases hb
    · rwa [at?_set_other none e] at hb
  exact ⟨H.below, H.lb, by simpa using H.len, H.ro, fun b' o hb => H.blk b' o (key _ _ hb), fun b1 b2 o1 o2 p1 p2 h1 h2 => H.inj b1 b2 o1 o2 p1 p2 (key _ _ h1) (key _ _ h2), fun b1 o1 p1 h1 hn hp q hq => by
    obtain ⟨g1, g2⟩ := H.frm b1 o1 p1 (key _ _ h1) hn hp q hq
    refine ⟨g1, ?_⟩
    split
    · rename_i ho
      rw [if_pos ho] at g2
      exact ⟨g2.1, fun b2 o2 p2 h2 => g2.2 b2 o2 p2 (key _ _ h2)⟩
    · rename_i ho
      rwa [if_neg ho] at g2, H.pin⟩

/-- A block behind the others, whichever real block it is, as long as no other one is it. -/
theorem HInv.blk1 (H : HInv ro base w0 E h w) (b : Nat) (o : RO) (hb : at? h b = some o) (ho : o.own = true) : ∃ p, E[b]? = some p ∧ base ≤ p.1 ∧ BRel E p w o := by
  obtain ⟨p, h1, h2, h3⟩ := H.blk b o hb
  rw [if_pos ho] at h2
  exact ⟨p, h1, h2, h3⟩
theorem HInv.pushN (H : HInv ro base w0 E h w) (p : EP) (o : RO) (hown : o.own = true) (hself : o.nest = true → ∀ q, q ∈ p.innP → q < w.heap.size ∧ base ≤ q ∧ q ≠ p.1 ∧ ∀ b' o' p', at? h b' = some o' → o'.own = true → E[b']? = some p' → p'.1 ≠ q) (hp : base ≤ p.1) (hnew : ∀ b o' p', at? h b = some o' → E[b]? = some p' → p'.1 ≠ p.1)
    (hin : ∀ b o' p', at? h b = some o' → o'.nest = true → E[b]? = some p' → p.1 ∉ p'.innP) (ho : BRel (E ++ [p]) p w o) (hpin : PinOK w p := by first | exact trivial | exact PinOK.of_no (by assumption)) : HInv ro base w0 (E ++ [p]) (h ++ [some o]) w := by
  have hE : E <+: E ++ [p] := List.prefix_append _ _
  have old : ∀ b o', at? (h ++ [some o]) b = some o' → (b < h.length ∧ at? h b = some o') ∨ (b = h.length ∧ o' = o) := fun b o' hb => by
    by_cases h1 : b < h.length
    · exact .inl ⟨h1, by rwa [at?_push_old h1] at hb⟩
    · by_cases h2 : b = h.length
      · subst h2
        rw [at?_push_new] at hb
        cases hb
        exact .inr ⟨rfl, rfl⟩
      · rw [at?_push_far (by omega)] at hb
        cases hb
  have atnew : (E ++ [p])[h.length]? = some p := by rw [H.len]; simp
  have atold : ∀ b, b < h.length → (E ++ [p])[b]? = E[b]? := fun b hb => List.getElem?_append_left (by have := H.len; omega)
  have hpins : ∀ (i : Nat) p1, (E ++ [p])[i]? = some p1 → PinOK w p1 := fun i p1 hp1 => by
    by_cases hi : i < E.length
    · rw [List.getElem?_append_left hi] at hp1
      exact H.pin i p1 hp1
    · rw [List.getElem?_append_right (by omega)] at hp1
      cases hj : i - E.length with
      | zero => rw [hj] at hp1; cases hp1; exact hpin
      | succ j => rw [hj] at hp1; cases hp1
  refine ⟨H.below, H.lb, by simp [H.len], H.ro, fun b o' hb => ?_, fun b b' o1 o2 p1 p2 h1 h2 w1 w2 e1 e2 e3 => ?_, fun b o1 p1 h1 hn e1 q hq => ?_, hpins⟩
  rotate_right
  · rcases old b o1 h1 with ⟨hl1, k1⟩ | ⟨r1, s1⟩
    · rw [atold _ hl1] at e1
      obtain ⟨g1, g2⟩ := H.frm b o1 p1 k1 hn e1 q hq
      refine ⟨g1, ?_⟩
      split
      · rename_i ho1
        rw [if_pos ho1] at g2
        refine ⟨g2.1, fun b' o' p' h2 w2 e2 => ?_⟩
        rcases old b' o' h2 with ⟨hl2, k2⟩ | ⟨r2, s2⟩
        · rw [atold _ hl2] at e2
          exact g2.2 b' o' p' k2 w2 e2
        · rw [r2, atnew] at e2
          cases e2
          exact fun e => hin b o1 p1 k1 hn e1 (e ▸ hq)
      · rename_i ho1
        rwa [if_neg ho1] at g2
    · rw [r1, atnew] at e1
      cases e1
      rw [s1] at hn ⊢
      obtain ⟨g1, g2, g3, g4⟩ := hself hn q hq
      rw [if_pos hown]
      refine ⟨g1, g2, fun b' o' p' h2 w2 e2 => ?_⟩
      rcases old b' o' h2 with ⟨hl2, k2⟩ | ⟨r2, s2⟩
      · rw [atold _ hl2] at e2
        exact g4 b' o' p' k2 w2 e2
      · rw [r2, atnew] at e2
        cases e2
        exact fun e => g3 e.symm
  · rcases old b o' hb with ⟨hlt, hb⟩ | ⟨rfl, rfl⟩
    · obtain ⟨q, h1, h2, h3⟩ := H.blk b o' hb
      exact ⟨q, getElem?_prefix hE h1, h2, h3.keep hE rfl fun _ _ _ => rfl⟩
    · exact ⟨p, atnew, by rw [if_pos hown]; exact hp, ho⟩
  · rcases old b o1 h1 with ⟨hl1, k1⟩ | ⟨r1, s1⟩ <;> rcases old b' o2 h2 with ⟨hl2, k2⟩ | ⟨r2, s2⟩
    · rw [atold _ hl1] at e1
      rw [atold _ hl2] at e2
      exact H.inj b b' o1 o2 p1 p2 k1 k2 w1 w2 e1 e2 e3
    · rw [atold _ hl1] at e1
      rw [r2, atnew] at e2
      cases e2
      exact absurd e3 (hnew b o1 p1 k1 e1)
    · rw [r1, atnew] at e1
      rw [atold _ hl2] at e2
      cases e1
      exact absurd e3.symm (hnew b' o2 p2 k2 e2)
    · rw [r1, r2]

theorem HInv.push (H : HInv ro base w0 E h w) (p : EP) (o : RO) (hown : o.own = true) (hno : o.nest = false) (hp : base ≤ p.1) (hnew : ∀ b o' p', at? h b = some o' → E[b]? = some p' → p'.1 ≠ p.1)
    (hin : ∀ b o' p', at? h b = some o' → o'.nest = true → E[b]? = some p' → p.1 ∉ p'.innP) (ho : BRel (E ++ [p]) p w o) (hpin : PinOK w p := by first | exact trivial | exact PinOK.of_no (by assumption)) : HInv ro base w0 (E ++ [p]) (h ++ [some o]) w :=
  H.pushN p o hown (fun hn => by rw [hno] at hn; cases hn) hp hnew hin ho hpin

theorem HInv.heap_ne (H : HInv ro base w0 E h w) {b : Nat} {o : RO} {p : EP} (hb : at? h b = some o) (hp : E[b]? = some p) : p.1 < w.heap.size := by
  obtain ⟨q, h1, _, h3⟩ := H.blk b o hb
  rw [hp] at h1
  cases h1
  exact h3.heap_lt

/-- A new block. -/
theorem HInv.alloc (H : HInv ro base w0 E h w) (ob : Obj) (n : Nat) (o : RO) (hown : o.own = true) (hno : o.nest = false) (ho : BRel (E ++ [(⟨w.heap.size, n, undef, .no⟩ : EP)]) (⟨w.heap.size, n, undef, .no⟩ : EP) (w.alloc ob) o) :
    HInv ro base w0 (E ++ [(⟨w.heap.size, n, undef, .no⟩ : EP)]) (h ++ [some o]) (w.alloc ob) := by
  have H' : HInv ro base w0 E h (w.alloc ob) := H.world ((Below.refl _ _).alloc (Nat.le_refl _) ob)
  exact H'.push _ o hown hno H.size (fun b o' p' hb hp => Nat.ne_of_lt (H.heap_ne hb hp)) (fun b o' p' hb hn hp hq => Nat.lt_irrefl _ (H.frm b o' p' hb hn hp _ hq).1) ho

theorem HInv.allocCells (H : HInv ro base w0 E h w) (cur : Array Value) (e : TypeId) (l : List RV) (room : Bool)
    (hl : All2 (VRel E) l (cur.toList.take l.length)) (hr : room = false → l.length = cur.size) :
    HInv ro base w0 (E ++ [(⟨w.heap.size, cur.size, undef, .no⟩ : EP)]) (h ++ [some (.cells l e room false)]) (w.alloc (.cells cur e)) :=
  H.alloc _ _ _ rfl rfl ⟨cur, (0, 0), heap_alloc_new w _, rfl, hl.ext (List.prefix_append _ _), hr, fun _ => .inl rfl⟩

/-- A block written anew. -/
theorem HInv.write (H : HInv ro base w0 E h w) {b : Nat} {o o' : RO} {p : EP} (hb : at? h b = some o) (hp : E[b]? = some p) (hw : o.own = true) (hw' : o'.own = true) (hno : o'.nest = false) (w' : World) (hB : Below base w w') 
    (hother : ∀ k, k ≠ p.1 → k < w.heap.size → w'.heap[k]? = w.heap[k]?) (ho : BRel E p w' o') (hnl : ∀ st pe, o ≠ .lp st pe := by simp) : HInv ro base w0 E (h.set b (some o')) w' := by
  have hlt := at?_lt hb
  have key : ∀ b' x, at? (h.set b (some o')) b' = some x → (b' = b ∧ x = o') ∨ (b ≠ b' ∧ at? h b' = some x) := fun b' x hx => by
    by_cases e : b = b'
    · subst e
      rw [at?_set_same _ hlt] at hx
      cases hx
      exact .inl ⟨rfl, rfl⟩
    · exact .inr ⟨e, by rwa [at?_set_other _ e] at hx⟩
  have alive : ∀ b' x, at? (h.set b (some o')) b' = some x → x.own = true → ∃ y, at? h b' = some y ∧ y.own = true := fun b' x hx hxo => by
    rcases key b' x hx with ⟨rfl, rfl⟩ | ⟨_, h1⟩
    · exact ⟨o, hb, hw⟩
    · exact ⟨x, h1, hxo⟩
  have inner : ∀ b' x p', at? h b' = some x → x.nest = true → E[b']? = some p' → ∀ q, q ∈ p'.innP → q ≠ p.1 := fun b' x p' hx hn hp' q hq e => by
    obtain ⟨g1, g2⟩ := H.frm b' x p' hx hn hp' q hq
    obtain ⟨p0, k1, k2, _⟩ := H.blk1 b o hb hw
    rw [hp] at k1
    cases k1
    split at g2
    · exact g2.2 b o p hb hw hp e.symm
    · omega
  have hpins : ∀ (i : Nat) q, E[i]? = some q → PinOK w' q := fun i q hq => by
    have hq0 := H.pin i q hq
    refine hq0.keep fun hk => ?_
    refine hother _ (fun e => ?_) (hq0.lt hk)
    obtain ⟨p0, k1, _, k3⟩ := H.blk1 b o hb hw
    rw [hp] at k1
    cases k1
    exact k3.not_pin hnl hw hk e hq0
  refine ⟨H.below.trans hB, H.lb, by simpa using H.len, H.ro, fun b' x hx => ?_, fun b1 b2 o1 o2 p1 p2 h1 h2 v1 v2 => ?_, fun b1 o1 p1 h1 hn e1 q hq => ?_, hpins⟩
  rotate_right
  · rcases key b1 o1 h1 with ⟨rfl, rfl⟩ | ⟨hne, k1⟩
    · rw [hno] at hn
      cases hn
    · obtain ⟨g1, g2⟩ := H.frm b1 o1 p1 k1 hn e1 q hq
      refine ⟨Nat.lt_of_lt_of_le g1 hB.size, ?_⟩
      · split
        · rename_i ho1
          rw [if_pos ho1] at g2
          refine ⟨g2.1, fun b2 o2 p2 h2 v2 e2 => ?_⟩
          obtain ⟨y2, hy2, z2⟩ := alive b2 o2 h2 v2
          exact g2.2 b2 y2 p2 hy2 z2 e2
        · rename_i ho1
          rwa [if_neg ho1] at g2
  · rcases key b' x hx with ⟨rfl, rfl⟩ | ⟨hne, h1⟩
    · obtain ⟨q, e1, e2, _⟩ := H.blk1 b' o hb hw
      rw [hp] at e1
      cases e1
      exact ⟨p, hp, by rw [if_pos hw']; exact e2, ho⟩
    · obtain ⟨q, e1, e2, e3⟩ := H.blk b' x h1
      have hq : q.1 ≠ p.1 := fun e => by
        cases hx : x.own with
        | true => exact hne (H.inj b b' o x p q hb h1 hw hx hp e1 e.symm)
        | false =>
          obtain ⟨p0, g1, g2, _⟩ := H.blk1 b o hb hw
          rw [hp] at g1
          cases g1
          rw [hx, if_neg (by simp)] at e2
          omega
      exact ⟨q, e1, e2, e3.keep (List.prefix_refl E) (hother _ hq e3.heap_lt) fun hn k hk => hother _ (inner b' x q h1 hn e1 k hk) (H.frm b' x q h1 hn e1 k hk).1⟩
  · obtain ⟨y1, hy1, z1⟩ := alive b1 o1 h1 v1
    obtain ⟨y2, hy2, z2⟩ := alive b2 o2 h2 v2
    exact H.inj b1 b2 y1 y2 p1 p2 hy1 hy2 z1 z2

omit [Val] in
theorem below_setRow (w : World) (g : Nat) (cs : Array Value) (hb : base ≤ g) : Below base w (w.setRow g cs) :=
  ⟨rfl, rfl, rfl, by simp, fun k hk => setRow_other w g k cs (by omega)⟩

/-- What getCells finds. -/
theorem HInv.getCells (H : HInv ro base w0 E h w) {b o n : Nat} {l : List RV} (hg : getCells h b o n = some l) :
    ∃ p cur e fr, E[b]? = some p ∧ w.heap[p.1]? = some (.cells cur e fr) ∧ cur.size = p.2 ∧ o + n ≤ cur.size ∧ l.length = n ∧ All2 (VRel E) l ((cur.toList.drop o).take n) := by
  unfold Ri.getCells at hg
  split at hg
  · rename_i l0 e room froz hl
    rw [lkp_eq] at hl
    obtain ⟨p, h1, h2, cur, fr, h3, h4, h5, h6⟩ := H.blk b _ hl
    obtain ⟨hlen, rfl⟩ := seg_eq _ _ _ _ hg
    have hlc := h5.length
    have hle : l0.length ≤ cur.size := by simp at hlc; omega
    refine ⟨p, cur, e, fr, h1, h3, h4, by omega, by simp; omega, ?_⟩
    have := (h5.drop o).take n
    rw [List.drop_take, List.take_take, Nat.min_eq_left (by omega)] at this
    exact this
  · rename_i l0 e hl
    rw [lkp_eq] at hl
    obtain ⟨p, h1, h2, cur, fr, h3, h4, h5⟩ := H.blk b _ hl
    obtain ⟨hlen, rfl⟩ := seg_eq _ _ _ _ hg
    have hlc := h5.length
    have hle : l0.length ≤ cur.size := by simp at hlc; omega
    refine ⟨p, cur, e, fr, h1, h3, h4, by omega, by simp; omega, ?_⟩
    have := (h5.drop o).take n
    rw [List.drop_take, List.take_take, Nat.min_eq_left (by omega)] at this
    exact this
  · cases hg

omit [Val] in
theorem add_lit (b o n : Nat) : (⟨b, o, none⟩ : Addr).add n = ⟨b, o + n, none⟩ := by
  unfold Addr.add
  split <;> simp_all

omit [Val] in
/-- The cells of a found segment, as the run of a load wants them. -/
theorem seg_cells {g o n : Nat} {cur : Array Value} {e : TypeId} {fr : Nat × Nat} (hg : w.heap[g]? = some (.cells cur e fr)) :
    ∀ j v, ((cur.toList.drop o).take n)[j]? = some v → w.cell? ((⟨g, o, none⟩ : Addr).add j) = some v := by
  intro j v hv
  rw [add_lit, cell_of_row w g (o + j) cur e fr hg]
  rw [List.getElem?_take] at hv
  split at hv
  · simpa using hv
  · cases hv
end
end Go.Ri

namespace Go.Ri
open Go Go.RowKit
variable [Val]

section
variable {P : Program} {ro : Ro} {base : Nat} {w0 : World} {E : Env} {h : RH} {w : World} {t : List RV} {a : Act}

theorem ev_rel (ht : All2 (VRel E) t a.tmps.toList) (x : Operand) : VRel E (ev t x) (a.eval x) := by
  cases x with
  | tmp i =>
    show VRel E (nth t i) (a.tmps.getD i undef)
    rw [nth_eq, List.getD_eq_getElem?_getD]
    have e : a.tmps.getD i undef = (a.tmps.toList[i]?).getD undef := by simp
    rw [e]
    cases hi : t[i]? with
    | some r =>
      obtain ⟨b, hb, hr⟩ := ht.get i r hi
      rw [hb]
      exact hr
    | none =>
      rw [ht.get_none i hi]
      rfl
  | const v => rfl
  | global g => rfl
  | func f => rfl
theorem evL_rel (ht : All2 (VRel E) t a.tmps.toList) (l : Array Operand) : All2 (VRel E) (evL t l) ((l.map a.eval).toList) := by
  unfold evL
  rw [Array.toList_map]
  exact All2.map _ _ (fun x => ev_rel ht x) _

theorem loadAs_rel {agg : Bool} {l : List RV} {vs : List Value} {v : RV} (h : loadAs agg l = some v) (hl : All2 (VRel E) l vs) (hn : agg = false → l.length = 1) :
    (agg = true ∧ VRel E v (.agg vs.toArray)) ∨ (agg = false ∧ ∃ u, vs = [u] ∧ VRel E v u) := by
  unfold loadAs at h
  cases agg with
  | true => simp at h; subst h; exact .inl ⟨rfl, mkAgg_rel hl⟩
  | false =>
    right
    refine ⟨rfl, ?_⟩
    have hn := hn rfl
    obtain ⟨x, rfl⟩ := List.length_eq_one_iff.1 hn
    cases hl with
    | cons r hr =>
      cases hr
      simp at h
      subst h
      exact ⟨_, rfl, r⟩

omit [Val] in
theorem run_load_seg {ty : TypeId} {agg : Bool} {sz : Nat} (hagg : (isAgg ty).run P w = .ok agg w) (hsz : (sizeOf ty).run P w = .ok sz w) (ad : Addr) (cs : List Value)
    (hlen : cs.length = cellsN agg sz) (hc : ∀ j v, cs[j]? = some v → w.cell? (ad.add j) = some v) :
    (loadVar ty ad).run P w = .ok (if agg then .agg cs.toArray else cs.headD undef) w := by
  unfold loadVar
  simp only [Sem.run_bind, hagg, Result.andThen_ok]
  cases agg with
  | true =>
    simp only [cellsN] at hlen
    simp only [if_true]
    simp only [Sem.run_bind, hsz, Result.andThen_ok, ← hlen]
    rw [run_loadCells_list w ad cs hc]
    rfl
  | false =>
    simp only [cellsN] at hlen
    simp only [Bool.false_eq_true, if_false]
    match cs, hlen with
    | [c], _ =>
      have := hc 0 c (by simp)
      have e : ad.add 0 = ad := by simp [Addr.add]
      rw [e] at this
      simp [this]

theorem fit_load (H : HInv ro base w0 E h w) {ty : TypeId} {x v : RV} {u : Value} (hx : VRel E x u) (hl : loadOp P ro h ty x = some v) :
    ∃ r, VRel E v r ∧ (Instr.loadAt ty u).run P w = .ok r w := by
  unfold loadOp at hl
  split at hl
  · rename_i agg sz hagg hsz
    have hagg := quiet_run P _ _ hagg w
    have hsz := quiet_run P _ _ hsz w
    simp only [Instr.loadAt]
    split at hl
    · rename_i b o
      obtain ⟨p, hp, rfl⟩ := hx
      cases hg : getCells h b o (cellsN agg sz) with
      | none => rw [hg] at hl; cases hl
      | some l =>
        rw [hg] at hl
        obtain ⟨q, cur, e, fr, h1, h2, h3, h4, h5, h6⟩ := H.getCells hg
        rw [hp] at h1
        cases h1
        have hrun := run_load_seg hagg hsz ⟨p.1, o, none⟩ ((cur.toList.drop o).take (cellsN agg sz)) (by rw [← h6.length, h5]) (seg_cells h2)
        simp only [Sem.run_bind, Instr.sureAddr, Sem.run_pure, Result.andThen_ok]
        rw [hrun]
        have hr := loadAs_rel (v := v) hl h6 (fun e => by rw [h5, e]; rfl)
        rcases hr with ⟨rfl, hr⟩ | ⟨rfl, u, hu, hr⟩
        · exact ⟨_, hr, rfl⟩
        · refine ⟨u, hr, ?_⟩
          simp [hu]
    · rename_i g o
      cases hx
      split at hl
      · rename_i cs hcs
        obtain ⟨hg1, cur, e, fr, hg2, hg3⟩ := H.ro g cs hcs
        split at hl
        · rename_i hle0
          obtain ⟨hle, hif⟩ := hle0
          have hw : w.heap[g]? = some (.cells cur e fr) := (H.below.block g hg1).trans hg2
          have hsame : (cur.toList.drop o).take (cellsN agg sz) = (cs.drop o).take (cellsN agg sz) := by
            rcases hg3 with ⟨h3, _⟩ | ⟨rfl, _, _⟩ | ⟨rfl, _⟩
            · rw [h3]
            · have : cellsN agg sz = 0 := by simp at hle; omega
              rw [this]
              rfl
            · exact absurd hif (by decide)
          have hall : All2 (VRel E) (((cs.drop o).take (cellsN agg sz)).map .pl) ((cs.drop o).take (cellsN agg sz)) := All2.pls _
          have hlen : ((cs.drop o).take (cellsN agg sz)).length = cellsN agg sz := by simp at hle ⊢; omega
          have hrun := run_load_seg hagg hsz ⟨g, o, none⟩ _ hlen (by
            rw [← hsame]
            exact seg_cells hw)
          simp only [Sem.run_bind, Instr.sureAddr, Sem.run_pure, Result.andThen_ok]
          rw [hrun]
          have hr := loadAs_rel (v := v) hl hall (fun e => by rw [hall.length, hlen, e]; rfl)
          rcases hr with ⟨rfl, hr⟩ | ⟨rfl, u, hu, hr⟩
          · exact ⟨_, hr, rfl⟩
          · refine ⟨u, hr, ?_⟩
            simp [hu]
        · cases hl
      · cases hl
    · cases hl
  · cases hl

/-- What an operation that may change the heap leaves. -/
def After (ro : Ro) (base : Nat) (w0 : World) (E : Env) (v : RV) (h' : RH) (res : Result Next) : Prop :=
  ∃ E' u w', E <+: E' ∧ VRel E' v u ∧ (res = .ok (.value u) w' ∨ (res = .ok .skip w' ∧ u = undef)) ∧ HInv ro base w0 E' h' w'

def Fits (ro : Ro) (base : Nat) (w0 : World) (E : Env) (h : RH) (w : World) (res : Result Next) : Eff → Prop
  | .val v => ∃ u, VRel E v u ∧ (res = .ok (.value u) w ∨ (res = .ok .skip w ∧ u = undef))
  | .same v => ∃ u, VRel E v u ∧ (res = .ok (.value u) w ∨ (res = .ok .skip w ∧ u = undef))
  | .setB v b ob => After ro base w0 E v (h.set b (some ob)) res
  | .newB v ob => After ro base w0 E v (h ++ [some ob]) res
  | .moveB v b ob => After ro base w0 E v (h.set b none ++ [some ob]) res
  | .move2 v b b2 ob => After ro base w0 E v ((h.set b none).set b2 none ++ [some ob]) res
  | .call f args => ∃ vs, All2 (VRel E) args vs ∧ res = .ok (.enter f vs.toArray) w
  | .yield b args => ∃ p vs, E[b]? = some p ∧ All2 (VRel E) args vs ∧ ∀ rec : Loop, w.heap[p.1]? = some (.loop rec) → vs.toArray.size = rec.params.size →
      res = .ok (.round p.1 rec.fn ((rec.params.zip vs.toArray).foldl (fun tmps (t, a) => tmps.setIfInBounds t a) rec.tmps) rec.assign rec.body) w

omit [Val] in
/-- Cells stored into a row whose marks lie behind its cells. -/
theorem store_free (P : Program) (g o : Nat) (t : TypeId) (fz : Nat × Nat) : ∀ (vs : List Value) (i : Nat) (cur : Array Value) (w : World), w.heap[g]? = some (.cells cur t fz) → Free fz cur.size → o + i + vs.length ≤ cur.size → (∀ v ∈ vs, v.oneCell' = true) →
    (storeCells ⟨g, o, none⟩ vs i).run P w = .ok () (w.setRow g (cur.toList.take (o + i) ++ vs ++ cur.toList.drop (o + i + vs.length)).toArray)
  | [], i, cur, w, hg, _, _, _ => by
    simp only [storeCells, List.append_nil, List.length_nil, Nat.add_zero, List.take_append_drop, Array.toArray_toList]
    rw [setRow_self w g cur t fz hg]
    rfl
  | v :: rest, i, cur, w, hg, hfz, hl, h1 => by
    have hi : o + i < cur.size := by simp at hl; omega
    have hadd : (⟨g, o, none⟩ : Addr).add i = ⟨g, o + i, none⟩ := by unfold Addr.add; split <;> simp_all
    have hcell : w.cell? ⟨g, o + i, none⟩ = some cur[o + i] := by simp [World.cell?, hg, hi]
    have hfro : w.frozen? ⟨g, o + i, none⟩ = false := by
      rcases hfz with rfl | hfz
      · simp [World.frozen?, hg]
      · obtain ⟨lo, hi'⟩ := fz
        simp only [World.frozen?, hg, Bool.and_eq_false_iff, decide_eq_false_iff_not]
        left
        simp only at hfz
        omega
    have hst : (store ((⟨g, o, none⟩ : Addr).add i) v).run P w = .ok () (w.setRow g (cur.setIfInBounds (o + i) v)) := by
      rw [hadd, run_store P w _ v _ (h1 v (by simp)), hcell]
      simp [hfro, setCell_eq_setRow w g (o + i) cur t fz v hg]
    have ih := store_free P g o t fz rest (i + 1) (cur.setIfInBounds (o + i) v) (w.setRow g (cur.setIfInBounds (o + i) v)) (setRow_heap w g cur _ t _ hg) (by simpa using hfz) (by simp at hl ⊢; omega) (fun x hx => h1 x (by simp [hx]))
    simp only [storeCells, Sem.run_bind, hst, Result.andThen_ok, ih, setRow_setRow]
    congr 3
    have e := list_seg_step cur.toList (o + i) v rest (by simp at hl ⊢; omega)
    simpa [Array.toList_setIfInBounds, Nat.add_assoc] using e
/-- The store of a list of cells into a block. -/
theorem fit_put (H : HInv ro base w0 E h w) {b o : Nat} {cs : List RV} {vs : List Value} {ob : RO} {p : EP} (hcs : All2 (VRel E) cs vs) (hp : E[b]? = some p)
    (hput : putCells h b o cs = some ob) :
    ∃ w', (storeCells ⟨p.1, o, none⟩ vs).run P w = .ok () w' ∧ HInv ro base w0 E (h.set b (some ob)) w' := by
  rw [putCells_eq] at hput
  split at hput
  · rename_i l e room hl
    rw [lkp_eq] at hl
    split at hput
    · rename_i hcond
      cases hput
      simp only [Bool.and_eq_true, decide_eq_true_eq] at hcond
      obtain ⟨hle, hone⟩ := hcond
      obtain ⟨q, h1, h2, cur, fr, h3, h4, h5, h6, h7⟩ := H.blk1 b _ hl rfl
      rw [hp] at h1
      cases h1
      have hfr := h7 rfl
      have hlc := h5.length
      have hlen : l.length ≤ cur.size := by simp at hlc; omega
      have hvl := hcs.length
      have hrun := store_free P p.1 o e fr vs 0 cur w h3 (h4 ▸ hfr) (by omega) (all_one_rel hcs hone)
      simp only [Nat.add_zero] at hrun
      refine ⟨_, hrun, H.write hl hp rfl rfl rfl _ (below_setRow w p.1 _ h2) (fun k hk _ => setRow_other w p.1 k _ hk) ⟨_, fr, setRow_heap w p.1 cur _ e _ h3, ?_, ?_, ?_, fun _ => hfr⟩⟩
      · simp
        omega
      · have key := ((h5.take o).append hcs).append (h5.drop (o + cs.length))
        have e1 : (l.take o ++ cs ++ l.drop (o + cs.length)).length = l.length := by simp; omega
        rw [e1]
        have e2 : ((cur.toList.take o ++ vs ++ cur.toList.drop (o + vs.length)).toArray.toList).take l.length =
            (cur.toList.take l.length).take o ++ vs ++ (cur.toList.take l.length).drop (o + cs.length) := by
          simp only
          rw [List.take_take, Nat.min_eq_left (by omega), hvl]
          have : l.length = (cur.toList.take o ++ vs).length + (l.length - (o + vs.length)) := by simp; omega
          rw [List.take_append, List.take_of_length_le (by simp; omega)]
          congr 1
          rw [List.drop_take]
          congr 1
          simp
          omega
        rw [e2]
        exact key
      · intro hr
        have := h6 hr
        simp
        omega
    · cases hput
  · cases hput

end
end Go.Ri

namespace Go.Ri
open Go Go.RowKit
variable [Val]

section
variable {P : Program} {ro : Ro} {base : Nat} {w0 : World} {E : Env} {h : RH} {w : World}

/-- A run that ends in a value. -/
def vSem (s : Sem Value) : Sem Next := do pure (.value (← s))
def uSem (s : Sem Unit) : Sem Next := do s; pure .skip
omit [Val] in
theorem run_vSem {s : Sem Value} {u : Value} {w' : World} (hs : s.run P w = .ok u w') : (vSem s).run P w = .ok (.value u) w' := by
  simp [vSem, hs]
omit [Val] in
theorem run_uSem {s : Sem Unit} {w' : World} (hs : s.run P w = .ok () w') : (uSem s).run P w = .ok .skip w' := by
  simp [uSem, hs]

omit [Val] in
theorem run_sizeB {t : TypeId} {n : Nat} (h : sizeB P t = some n) (w : World) : (sizeOf t).run P w = .ok n w := quiet_run P _ _ h w
omit [Val] in
theorem run_under {t : TypeId} {d : TypeDesc} (h : P.underlying t = some d) (w : World) : (underlying t).run P w = .ok d w := run_underlying h w

theorem fit_store (H : HInv ro base w0 E h w) {ty : TypeId} {x y : RV} {u v : Value} {e : Eff} (hx : VRel E x u) (hy : VRel E y v) (hs : storeOp P h ty x y = some e) :
    Fits ro base w0 E h w ((uSem (Instr.storeAt ty u v)).run P w) e := by
  unfold storeOp at hs
  split at hs
  · rename_i b o n hn
    split at hs
    · rename_i hlen
      simp only [Bool.and_eq_true, decide_eq_true_eq, Bool.not_eq_true'] at hlen
      obtain ⟨p, hp, rfl⟩ := hx
      cases hput : putCells h b o (cellsOf y) with
      | none => rw [hput] at hs; cases hs
      | some ob =>
        rw [hput] at hs
        cases hs
        have hcs := cellsOf_rel hy hlen.2
        have hlen := hlen.1
        obtain ⟨w', hrun, H'⟩ := fit_put (P := P) H hcs hp hput
        have hsz := quiet_run P _ _ hn w
        have hl : v.cells.size = n := by rw [← hlen, hcs.length, Array.length_toList]
        refine ⟨E, undef, w', List.prefix_refl E, rfl, .inr ⟨run_uSem ?_, rfl⟩, H'⟩
        simp [Instr.storeAt, Instr.sureAddr, storeVar, hsz, hl, hrun]
    · cases hs
  · cases hs

theorem HInv.new_get (H : HInv ro base w0 E h w) (p : EP) : (E ++ [p])[h.length]? = some p := by rw [H.len]; simp

theorem fit_box (H : HInv ro base w0 E h w) {ty : TypeId} {x : RV} {u : Value} {e : Eff} (hx : VRel E x u) (hs : mBox ty x h = some e) :
    Fits ro base w0 E h w ((vSem (Instr.box ty u)).run P w) e := by
  unfold mBox at hs
  split at hs
  · rename_i hc
    simp only [Bool.and_eq_true, Bool.not_eq_true'] at hc
    cases hs
    have hcs := cellsOf_rel hx hc.2
    have hl := hcs.length
    have H' := H.allocCells u.cells ty (cellsOf x) false (by rw [hl, List.take_of_length_le (Nat.le_refl _)]; exact hcs) (fun _ => by simpa using hl)
    refine ⟨_, _, _, List.prefix_append _ _, ⟨_, H.new_get _, rfl⟩, .inl (run_vSem ?_), H'⟩
    · simp [Instr.box, newVar, newRow]
  · cases hs

theorem zero_rel {t : TypeId} {cs : List RV} (hz : zeroCellsOf P t = some cs) : ∃ z, (∀ w, (zeroValue t).run P w = .ok z w) ∧ All2 (VRel E) cs z.cells.toList := by
  unfold zeroCellsOf at hz
  cases hq : quiet P (zeroValue t) with
  | none => rw [hq] at hz; cases hz
  | some z =>
    rw [hq] at hz
    cases hz
    exact ⟨z, quiet_run P _ _ hq, All2.pls _⟩

theorem fit_alloc (H : HInv ro base w0 E h w) {ty : TypeId} {e : Eff} (hs : mAlloc P ty h = some e) :
    Fits ro base w0 E h w ((vSem (Instr.alloc ty true (.tuple #[]))).run P w) e := by
  unfold mAlloc at hs
  cases hz : zeroCellsOf P ty with
  | none => rw [hz] at hs; cases hs
  | some cs =>
    rw [hz] at hs
    simp only [Option.bind_some] at hs
    split at hs
    · cases hs
      obtain ⟨z, hrun, hcs⟩ := zero_rel (E := E) hz
      have hl := hcs.length
      have H' := H.allocCells z.cells ty cs false (by rw [hl, List.take_of_length_le (Nat.le_refl _)]; exact hcs) (fun _ => by simpa using hl)
      refine ⟨_, _, _, List.prefix_append _ _, ⟨_, H.new_get _, rfl⟩, .inl (run_vSem ?_), H'⟩
      · simp [Instr.alloc, hrun, newVar, newRow]
    · cases hs

theorem fit_fieldAddr {ty : TypeId} {x v : RV} {u : Value} {f : Nat} (hx : VRel E x u) (hs : fieldAddrOp P ty x f = some v) :
    ∃ r, VRel E v r ∧ ∀ w, (Instr.fieldAt ty u f).run P w = .ok r w := by
  unfold fieldAddrOp at hs
  split at hs
  · rename_i b o fs hu
    split at hs
    · rename_i fd hfd
      split at hs
      · rename_i n hn
        cases hs
        obtain ⟨p, hp, rfl⟩ := hx
        refine ⟨_, ⟨p, hp, rfl⟩, fun w => ?_⟩
        have hsz := run_sizeB hn w
        simp [Instr.fieldAt, run_under hu, hfd, Instr.sureAddr, fieldPlace, hsz, add_lit]
      · cases hs
    · cases hs
  · cases hs

omit [Val] in
theorem addr_add (a : Addr) (m j : Nat) : (a.add m).add j = a.add (m + j) := by
  unfold Addr.add
  by_cases hj : j = 0
  · subst hj; simp
  · by_cases hm : m = 0
    · subst hm; simp [hj]
    · rw [if_neg hj, if_neg hm, if_neg (by omega)]
      simp
      omega
theorem fit_mFieldAddr {ty : TypeId} {x v : RV} {u : Value} {f : Nat} (hx : VRel E x u) (hs : mFieldAddr P ty x f = some v) :
    ∃ r, VRel E v r ∧ ∀ w, (Instr.fieldAt ty u f).run P w = .ok r w := by
  unfold mFieldAddr at hs
  split at hs
  · rename_i v' hv
    cases hs
    exact fit_fieldAddr hx hv
  · rename_i hnone
    clear hnone
    unfold elField at hs
    split at hs
    · rename_i b i m fs hu
      split at hs
      · rename_i fd hfd
        split at hs
        · rename_i n hn
          cases hs
          obtain ⟨p, hp, rfl⟩ := hx
          refine ⟨_, ⟨p, hp, rfl⟩, fun w => ?_⟩
          have hsz := run_sizeB hn w
          simp [Instr.fieldAt, run_under hu, hfd, Instr.sureAddr, fieldPlace, hsz, add_lit]
        · cases hs
      · cases hs
    · rename_i b i m fs hu
      split at hs
      · rename_i fd hfd
        split at hs
        · rename_i n hn
          cases hs
          obtain ⟨p, a, n0, cap, hp, hpv, rfl⟩ := hx
          refine ⟨_, ⟨p, a, n0, cap, hp, hpv, rfl⟩, fun w => ?_⟩
          have hsz := run_sizeB hn w
          simp [Instr.fieldAt, run_under hu, hfd, Instr.sureAddr, fieldPlace, hsz, addr_add]
        · cases hs
      · cases hs
    · cases hs

theorem fit_indexAddr {ty : TypeId} {x i v : RV} {u k : Value} (hx : VRel E x u) (hi : VRel E i k) (hs : indexAddrOp P ty x i = some v) :
    ∃ r, VRel E v r ∧ ∀ w, (Instr.indexAt ty u k).run P w = .ok r w := by
  unfold indexAddrOp at hs
  have asI_spec : ∀ n, asI i = some n → ∃ j, k = .int j n := by
    intro n hn
    unfold asI at hn
    split at hn
    · cases hn; cases hi; exact ⟨_, rfl⟩
    · cases hn
  split at hs
  · rename_i n len elem b o hn hu
    obtain ⟨j, rfl⟩ := asI_spec _ hn
    split at hs
    · rename_i s hsz
      split at hs
      · rename_i hb
        cases hs
        obtain ⟨p, hp, rfl⟩ := hx
        refine ⟨_, ⟨p, hp, rfl⟩, fun w => ?_⟩
        simp [Instr.indexAt, asIntOf, run_under hu, Instr.sureAddr, hb, run_sizeB hsz, add_lit]
      · cases hs
    · cases hs
  · rename_i n elem b o m s c hn hu
    obtain ⟨j, rfl⟩ := asI_spec _ hn
    split at hs
    · rename_i s' hsz
      split at hs
      · rename_i hb
        cases hs
        obtain ⟨p, q, hp, hq, hle, rfl⟩ := hx
        refine ⟨_, ⟨p, hp, rfl⟩, fun w => ?_⟩
        simp [Instr.indexAt, asIntOf, run_under hu, hb, run_sizeB hsz, add_lit]
      · cases hs
    · cases hs
  · cases hs

theorem fit_part {ty : TypeId} {l : List RV} {cs : Array Value} {off : Nat} {v : RV} (hl : All2 (VRel E) l cs.toList) (hs : partOp P ty l off = some v) :
    ∃ r, VRel E v r ∧ ∀ w, (part ty cs off).run P w = .ok r w := by
  unfold partOp at hs
  split at hs
  · rename_i n ha hn
    cases hs
    refine ⟨_, mkAgg_rel ((hl.drop off).take n), fun w => ?_⟩
    simp [part, quiet_run P _ _ ha w, run_sizeB hn w]
    apply Array.ext'
    simp
  · rename_i ha
    obtain ⟨r, hr, hv⟩ := hl.get off v hs
    refine ⟨r, hv, fun w => ?_⟩
    have : cs[off]? = some r := by simpa using hr
    simp [part, quiet_run P _ _ ha w, this]
  · cases hs

theorem fit_field {ty : TypeId} {x v : RV} {u : Value} {f : Nat} (hx : VRel E x u) (hs : fieldOp P ty x f = some v) :
    ∃ r, VRel E v r ∧ ∀ w, (Instr.field ty u f).run P w = .ok r w := by
  unfold fieldOp at hs
  split at hs
  · rename_i l fs hu
    split at hs
    · rename_i fd hfd
      obtain ⟨l', rfl, hl⟩ := hx
      obtain ⟨r, hr, hrun⟩ := fit_part (VRels_iff.1 hl) hs
      exact ⟨r, hr, fun w => by simp [Instr.field, run_under hu, hfd, asAgg, hrun]⟩
    · cases hs
  · cases hs

omit [Val] in
theorem nthV_eq : ∀ (l : List Value) (i : Nat), nthV l i = l[i]?
  | [], _ => rfl
  | _ :: _, 0 => rfl
  | _ :: l, i + 1 => (nthV_eq l i).trans (by simp)

theorem fit_extract {x : RV} {u : Value} {i : Nat} {e : Eff} (hx : VRel E x u) (hs : mExtract x i = some e) :
    Fits ro base w0 E h w ((vSem (Instr.extract u i)).run P w) e := by
  unfold mExtract at hs
  split at hs
  · rename_i vs
    cases hx
    rw [nthV_eq] at hs
    cases hv : vs.toList[i]? with
    | none => rw [hv] at hs; cases hs
    | some v =>
      rw [hv] at hs
      cases hs
      have : vs[i]? = some v := by simpa using hv
      exact ⟨v, rfl, .inl (run_vSem (by simp [Instr.extract, this]))⟩
  · rename_i l
    obtain ⟨l', rfl, hl⟩ := hx
    cases hv : l[i]? with
    | none => rw [hv] at hs; cases hs
    | some r =>
      rw [hv] at hs
      cases hs
      obtain ⟨v, hv', hr⟩ := (VRels_iff.1 hl).get i r hv
      have : l'[i]? = some v := by simpa using hv'
      exact ⟨v, hr, .inl (run_vSem (by simp [Instr.extract, this]))⟩
  · cases hs
end
end Go.Ri

namespace Go.Ri
open Go Go.RowKit
variable [Val]

section
variable {P : Program} {ro : Ro} {base : Nat} {w0 : World} {E : Env} {h : RH} {w : World}

omit [Val] in
theorem foldl_set_list (vs : List Value) : ∀ (cells : Array Value) (off k : Nat), off + k + vs.length ≤ cells.size →
    ((vs.zipIdx k).foldl (fun cs p => cs.setIfInBounds (off + p.2) p.1) cells).toList = cells.toList.take (off + k) ++ vs ++ cells.toList.drop (off + k + vs.length) := by
  induction vs with
  | nil => intro cells off k _; simp
  | cons v vs ih =>
    intro cells off k hle
    simp only [List.length_cons] at hle
    rw [List.zipIdx_cons, List.foldl_cons, ih _ off (k + 1) (by simp; omega)]
    have e := list_seg_step cells.toList (off + k) v vs (by simp; omega)
    simp only [Array.toList_setIfInBounds, List.length_cons]
    rw [show off + (k + 1) = off + k + 1 from rfl, show off + k + (vs.length + 1) = off + k + (vs.length + 1) from rfl]
    exact e

theorem fill_rel (place : Nat → Option (Nat × Nat)) : ∀ (parts : List (Nat × RV)) (vparts : List (Nat × Value)) (cells : List RV) (vcells : Array Value) (out : List RV),
    All2 (fun p q => p.1 = q.1 ∧ VRel E p.2 q.2) parts vparts → All2 (VRel E) cells vcells.toList → fillR place cells parts = some out →
    ∃ vout, Instr.fill place vcells vparts = some vout ∧ All2 (VRel E) out vout.toList := by
  intro parts
  induction parts with
  | nil =>
    intro vparts cells vcells out hp hc hf
    cases hp
    cases hf
    exact ⟨vcells, rfl, hc⟩
  | cons p parts ih =>
    intro vparts cells vcells out hp hc hf
    cases hp with
    | @cons _ q _ vp hpq hp =>
      obtain ⟨i, r⟩ := p
      obtain ⟨i', v⟩ := q
      obtain ⟨rfl, hr⟩ := hpq
      simp only at hr
      unfold fillR at hf
      unfold Instr.fill
      simp only
      split at hf
      · cases hf
      · rename_i off size hpl
        rw [hpl]
        simp only
        split at hf
        · cases hf
        · rename_i hcond
          have hW : isW r = false := by
            cases hq : isW r with
            | false => rfl
            | true => exact absurd (by simp [hq]) hcond
          have hcl := cellsOf_rel hr hW
          have hl1 := hcl.length
          have hl2 := hc.length
          simp only [Array.length_toList] at hl1 hl2
          have h1 : (cellsOf r).length = size ∧ off + (cellsOf r).length ≤ cells.length := by
            constructor
            · by_cases e : (cellsOf r).length = size
              · exact e
              · exact absurd (by simp [e]) hcond
            · by_cases e : off + (cellsOf r).length ≤ cells.length
              · exact e
              · exact absurd (by simp; omega) hcond
          have hcond' : ¬ ((decide (v.cells.size ≠ size) || decide (off + v.cells.size > vcells.size)) = true) := by
            simp
            omega
          rw [if_neg (by simpa using hcond')]
          refine ih vp _ _ out hp ?_ hf
          have e := foldl_set_list v.cells.toList vcells off 0 (by simp; omega)
          simp only [Nat.add_zero, Array.length_toList] at e
          have e2 : (Array.foldl (fun cs x => cs.setIfInBounds (off + x.2) x.1) vcells v.cells.zipIdx).toList = vcells.toList.take off ++ v.cells.toList ++ vcells.toList.drop (off + v.cells.size) := by
            rw [← e, ← Array.foldl_toList]
            simp
          rw [e2, ← hl1]
          exact ((hc.take off).append hcl).append (hc.drop _)

omit [Val] in
theorem fill_size (place : Nat → Option (Nat × Nat)) : ∀ (parts : List (Nat × Value)) (cells out : Array Value), Instr.fill place cells parts = some out → out.size = cells.size := by
  intro parts
  induction parts with
  | nil => intro cells out h; cases h; rfl
  | cons p parts ih =>
    intro cells out h
    unfold Instr.fill at h
    split at h
    · cases h
    · split at h
      · cases h
      · rw [ih _ _ h]
        have key : ∀ (l : List (Value × Nat)) (cs : Array Value) (off : Nat), (l.foldl (fun cs p => cs.setIfInBounds (off + p.2) p.1) cs).size = cs.size := by
          intro l
          induction l with
          | nil => intro cs off; rfl
          | cons x l ih => intro cs off; rw [List.foldl_cons, ih]; simp
        rw [← Array.foldl_toList]
        exact key _ _ _

theorem evP_rel {t : List RV} {a : Act} (ht : All2 (VRel E) t a.tmps.toList) (ps : Array (Nat × Operand)) :
    All2 (fun p q => p.1 = q.1 ∧ VRel E p.2 q.2) (evP t ps) ((ps.map fun (i, x) => (i, a.eval x)).toList) := by
  unfold evP
  rw [Array.toList_map]
  exact All2.map _ _ (fun x => ⟨rfl, ev_rel ht x.2⟩) _

omit [Val] in
theorem fieldPlaces_run {fs : Array Field} (hall : fs.toList.all (fun f => (sizeB P f.type).isSome) = true) :
    ∃ pl : Array (Nat × Nat), (∀ w, (fs.mapM fun (f : Field) => Prod.mk f.offset <$> sizeOf f.type : Sem (Array (Nat × Nat))).run P w = .ok pl w) ∧ ∀ i : Nat, pl[i]? = fieldPlaces P fs i := by
  have key : ∀ (l : List Field), l.all (fun f => (sizeB P f.type).isSome) = true →
      ∃ pl : List (Nat × Nat), (∀ w, (l.mapM fun (f : Field) => Prod.mk f.offset <$> sizeOf f.type : Sem (List (Nat × Nat))).run P w = .ok pl w) ∧
        ∀ i : Nat, pl[i]? = (match l[i]? with | some f => (sizeB P f.type).map (f.offset, ·) | none => none) := by
    intro l
    induction l with
    | nil => intro _; exact ⟨[], fun w => rfl, fun i => by simp⟩
    | cons f l ih =>
      intro h
      simp only [List.all_cons, Bool.and_eq_true] at h
      obtain ⟨pl, hrun, hget⟩ := ih h.2
      cases hs : sizeB P f.type with
      | none => rw [hs] at h; simp at h
      | some n =>
        refine ⟨(f.offset, n) :: pl, fun w => ?_, fun i => ?_⟩
        · rw [List.mapM_cons]
          simp [run_sizeB hs, hrun]
        · cases i with
          | zero => simp [hs]
          | succ i => simpa using hget i
  obtain ⟨pl, hrun, hget⟩ := key fs.toList hall
  refine ⟨pl.toArray, fun w => ?_, fun i => ?_⟩
  · rw [Array.mapM_eq_mapM_toList]
    simp [hrun]
  · have h := hget i
    rw [show fs.toList[i]? = fs[i]? from by simp] at h
    unfold fieldPlaces
    cases hfs : fs[i]? <;> simp [hfs] at h ⊢ <;> exact h

theorem fit_build {ty : TypeId} {parts : List (Nat × RV)} {vparts : Array (Nat × Value)} {v : RV}
    (hp : All2 (fun p q => p.1 = q.1 ∧ VRel E p.2 q.2) parts vparts.toList) (hs : buildOp P ty parts = some v) :
    ∃ r, VRel E v r ∧ ∀ w, (Instr.build ty vparts).run P w = .ok r w := by
  unfold buildOp at hs
  split at hs
  · rename_i zero fs hz hu
    obtain ⟨z, hzrun, hzr⟩ := zero_rel (E := E) hz
    split at hs
    · rename_i hall
      obtain ⟨pl, hpl, hget⟩ := fieldPlaces_run hall
      cases hf : fillR (fieldPlaces P fs) zero parts with
      | none => rw [hf] at hs; cases hs
      | some out =>
        rw [hf] at hs
        cases hs
        obtain ⟨vout, hfill, hout⟩ := fill_rel _ _ _ _ _ _ hp hzr hf
        refine ⟨.agg vout, by simpa using mkAgg_rel hout, fun w => ?_⟩
        have e : Instr.fill (fun i => pl[i]?) z.cells vparts.toList = some vout := by
          rw [show (fun i => pl[i]?) = fieldPlaces P fs from funext hget]
          exact hfill
        simp [Instr.build, hzrun, run_under hu, hpl, e]
    · cases hs
  · rename_i zero len elem hz hu
    obtain ⟨z, hzrun, hzr⟩ := zero_rel (E := E) hz
    split at hs
    · rename_i s hsz
      cases hf : fillR (fun i => some (i * s, s)) zero parts with
      | none => rw [hf] at hs; cases hs
      | some out =>
        rw [hf] at hs
        cases hs
        obtain ⟨vout, hfill, hout⟩ := fill_rel _ _ _ _ _ _ hp hzr hf
        refine ⟨.agg vout, by simpa using mkAgg_rel hout, fun w => ?_⟩
        simp [Instr.build, hzrun, run_under hu, run_sizeB hsz, hfill]
    · cases hs
  · cases hs

/-- The zero cells of n elements, as the model lays them. -/
theorem rep_rel {zero : List RV} {z : Array Value} (hz : All2 (VRel E) zero z.toList) (n s : Nat) (hs : zero.length = s + 1) :
    All2 (VRel E) (rep n zero) ((Array.range (n * (s + 1))).map (z[· % z.size]!)).toList := by
  have hzs : z.size = s + 1 := by rw [← hs, hz.length, Array.length_toList]
  have hlen : (rep n zero).length = n * (s + 1) := by
    unfold rep
    induction n with
    | zero => simp
    | succ n ih => rw [List.replicate_succ, List.flatten_cons, List.length_append, ih, hs, Nat.succ_mul]; omega
  have get : ∀ n i r, (rep n zero)[i]? = some r → i < n * (s + 1) ∧ zero[i % (s + 1)]? = some r := by
    intro n
    unfold rep
    induction n with
    | zero => intro i r hr; simp at hr
    | succ n ih =>
      intro i r hr
      rw [List.replicate_succ, List.flatten_cons] at hr
      by_cases hi : i < s + 1
      · rw [List.getElem?_append_left (by omega)] at hr
        rw [Nat.mod_eq_of_lt hi]
        exact ⟨by rw [Nat.succ_mul]; omega, hr⟩
      · rw [List.getElem?_append_right (by omega), hs] at hr
        obtain ⟨h1, h2⟩ := ih _ _ hr
        refine ⟨by rw [Nat.succ_mul]; omega, ?_⟩
        have : i % (s + 1) = (i - (s + 1)) % (s + 1) := by rw [Nat.mod_eq_sub_mod (by omega)]
        rw [this]
        exact h2
  refine All2.of_get (by rw [hlen]; simp) fun i r hr => ?_
  obtain ⟨h1, h2⟩ := get n i r hr
  obtain ⟨v, hv, hvr⟩ := hz.get _ _ h2
  refine ⟨v, ?_, hvr⟩
  rw [hzs]
  have hvv : z[i % (s + 1)]? = some v := by simpa using hv
  simp [h1, getElem!_def, hvv]

theorem fit_buildSlice (H : HInv ro base w0 E h w) {ty : TypeId} {n : Nat} {parts : List (Nat × RV)} {vparts : Array (Nat × Value)} {e : Eff}
    (hp : All2 (fun p q => p.1 = q.1 ∧ VRel E p.2 q.2) parts vparts.toList) (hs : buildSliceOp P h ty n parts = some e) :
    Fits ro base w0 E h w ((vSem (Instr.buildSlice ty n vparts)).run P w) e := by
  unfold buildSliceOp at hs
  split at hs
  · rename_i elem hu
    split at hs
    · rename_i s zero hsz hz
      obtain ⟨z, hzrun, hzr⟩ := zero_rel (E := E) hz
      split at hs
      · rename_i hcond
        simp only [Bool.and_eq_true, decide_eq_true_eq] at hcond
        cases hf : fillR (fun i => some (i * (s + 1), (s + 1))) (rep n zero) parts with
        | none => rw [hf] at hs; cases hs
        | some out =>
          rw [hf] at hs
          simp only [Option.bind_some] at hs
          split at hs
          · cases hs
            obtain ⟨vout, hfill, hout⟩ := fill_rel _ _ _ _ _ _ hp (rep_rel hzr n s hcond.2) hf
            have hl := hout.length
            simp only [Array.length_toList] at hl
            have H' := H.allocCells vout elem out false (by rw [hl, ← Array.length_toList, List.take_length]; exact hout) (fun _ => hl)
            have hsize : vout.size = n * (s + 1) := by rw [fill_size _ _ _ _ hfill]; simp
            refine ⟨_, _, _, List.prefix_append _ _, ⟨_, n, H.new_get _, ?_, Nat.le_refl _, rfl⟩, .inl (run_vSem ?_), H'⟩
            · simp [hsize]
            · have h24 : ¬ (16777216 < n * (s + 1)) := by omega
              by_cases hn : n = 0
              · subst hn
                have e0 : ∀ f : Nat → Value, (Array.range 0).map f = #[] := fun f => by simp
                rw [Nat.zero_mul, e0] at hfill
                have h0 : ¬ (0 > 16777216) := by omega
                simp only [Instr.buildSlice, Sem.run_bind, run_under hu, run_sizeB hsz, Result.andThen_ok, Nat.zero_mul, Nat.reducePow, if_neg h0, if_true, Sem.run_pure, e0, hfill]
                simp [newRow]
              · have hnz : ¬ (n * (s + 1) = 0) := by
                  intro e0
                  rcases Nat.mul_eq_zero.1 e0 with e1 | e1 <;> omega
                simp only [Instr.buildSlice, Sem.run_bind, run_under hu, run_sizeB hsz, Result.andThen_ok, Nat.reducePow, if_neg h24, if_neg hnz, Sem.run_pure, hzrun, hfill, gt_iff_lt, Nat.succ_eq_add_one]
                simp [newRow]
          · cases hs
      · cases hs
    · cases hs
  · cases hs
end
end Go.Ri
