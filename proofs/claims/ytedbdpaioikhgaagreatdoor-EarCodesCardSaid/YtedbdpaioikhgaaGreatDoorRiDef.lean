/- An interpreter for calls whose arguments are closed or names, and its soundness: a part of the proofs. -/
import Derived.WalkKit
import Derived.Orders
import Derived.Deep.Quiet
import Derived.Deep.Draws
/-! An interpreter over a small heap of its own, for calls whose arguments are closed. -/
namespace Go.Ri
open Go

/-- Kinds of names that stand for a value. -/
inductive TK where
  | int (k : IntKind)
  | bool
  | str
  | any
  deriving Inhabited, DecidableEq

inductive RV where
  | pl (v : Value)
  | sym (k : TK) (i : Nat)
  | el (b i s : Nat)
  | ptr (b off : Nat)
  | sl (b off len sz : Nat) (cap : Option Nat)
  | fn (f : Fn) (first captured : List RV)
  | agg (l : List RV)
  | tup (l : List RV)
  deriving Inhabited

inductive RO where
  | cells (l : List RV) (elem : TypeId) (room froz : Bool)
  | iter (s : ByteArray) (pos : Nat)
  | lent (l : List RV) (elem : TypeId)
  deriving Inhabited

abbrev RH := List (Option RO)
abbrev Ro := List (Nat × List Value)

/-- What is known of an operation on names. -/
inductive TC where
  | bin (op : BinOp)
  | ieq
  | beq
  | seq
  | idx
  | len
  | truth
  | not
  | conv (k : IntKind)
  | inb
  deriving Inhabited
structure TE where
  c : TC
  x : RV
  y : RV
  r : RV

/-- What an element by a name's number is of known cells. -/
structure NE where
  l : List RV
  i : Nat
  r : List RV
/-- A fresh slice that a closed call answers: its cells, its length, an element's cells, the element's type. -/
structure FE where
  l : List Value
  n : Nat
  s : Nat
  e : TypeId
/-- What is known of a program: package-level variables that are only read; functions without a Go body; closed answers of some functions. -/
structure Cfg where
  N : List NE := []
  ro : Ro
  ne : List FuncId
  mz : List (FuncId × TypeId)
  X : FuncId → List Value → Option Value
  T : List TE := []
  Y : FuncId → List RV → Option RV := fun _ _ => none
  L : FuncId → List (List RV) → Option RV := fun _ _ => none
  F : FuncId → List Value → Option FE := fun _ _ => none

noncomputable def quiet (P : Program) {α : Type} (s : Sem α) : Option α :=
  Sem.rec (motive := fun _ => Option α) (fun a => some a) (fun _ _ _ _ => none) (fun _ _ _ _ _ => none) (fun _ _ _ => none) (fun _ _ _ => none) (fun _ _ _ _ => none) (fun _ _ _ => none)
    (fun _ _ _ => none) (fun _ _ _ _ => none) (fun _ _ _ => none) (fun _ _ _ => none) (fun _ ih => ih P) (fun _ _ ih => ih) (fun _ => none) s

def RV.isPl : RV → Bool
  | .pl _ => true
  | _ => false
def RV.v : RV → Value
  | .pl v => v
  | _ => undef

noncomputable def nth (l : List RV) : Nat → RV :=
  List.rec (motive := fun _ => Nat → RV) (fun _ => .pl undef) (fun x _ ih i => Nat.rec (motive := fun _ => RV) x (fun j _ => ih j) i) l
noncomputable def ev (t : List RV) : Operand → RV
  | .tmp i => nth t i
  | .const v => .pl v
  | .global g => .pl (.pointer (some ⟨g, 0, none⟩))
  | .func f => .pl (.func (.func f) #[] #[])

noncomputable def plains (l : List RV) : Option (List Value) :=
  List.rec (motive := fun _ => Option (List Value)) (some []) (fun x _ ih => match x with
    | .pl v => match ih with | some vs => some (v :: vs) | none => none
    | _ => none) l

noncomputable def mkAgg (l : List RV) : RV := match plains l with | some vs => .pl (.agg vs.toArray) | none => .agg l
noncomputable def mkTup (l : List RV) : RV := match plains l with | some vs => .pl (.tuple vs.toArray) | none => .tup l
def cellsOf : RV → List RV
  | .pl v => v.cells.toList.map .pl
  | .agg l => l
  | r => [r]
def one : RV → Bool
  | .pl v => v.oneCell'
  | .agg _ => false
  | .tup _ => false
  | _ => true

def binCode : BinOp → Nat
  | .add => 0 | .sub => 1 | .mul => 2 | .quo => 3 | .rem => 4 | .and => 5 | .or => 6 | .xor => 7 | .shl => 8 | .shr => 9 | .andNot => 10
  | .eql => 11 | .neq => 12 | .lss => 13 | .leq => 14 | .gtr => 15 | .geq => 16
def kindCode : IntKind → Nat
  | .i8 => 0 | .i16 => 1 | .i32 => 2 | .i64 => 3 | .u8 => 4 | .u16 => 5 | .u32 => 6 | .u64 => 7
def tcCode : TC → Nat
  | .bin op => binCode op
  | .ieq => 20 | .beq => 21 | .seq => 22 | .idx => 23 | .len => 24 | .truth => 25 | .not => 26
  | .conv k => 30 + kindCode k
  | .inb => 27
def tkCode : TK → Nat
  | .int k => kindCode k
  | .bool => 20 | .str => 21 | .any => 22
noncomputable def sameBs (l : List UInt8) : List UInt8 → Bool :=
  List.rec (motive := fun _ => List UInt8 → Bool) (fun r => match r with | [] => true | _ :: _ => false)
    (fun x _ ih r => match r with | [] => false | y :: r => match Nat.beq x.toNat y.toNat with | true => ih r | false => false) l
/-- Are two scalars the same? -/
noncomputable def eqS (x y : RV) : Bool :=
  match x, y with
  | .sym k i, .sym k' j => match Nat.beq i j with | true => Nat.beq (tkCode k) (tkCode k') | false => false
  | .pl (.int k a), .pl (.int k' b) => match Nat.beq (kindCode k) (kindCode k') with | true => a == b | false => false
  | .pl (.bool a), .pl (.bool b) => a == b
  | .pl (.string a), .pl (.string b) => sameBs a.data.toList b.data.toList
  | _, _ => false
noncomputable def tlook (T : List TE) (c : TC) (x y : RV) : Option RV :=
  List.rec (motive := fun _ => Option RV) none (fun e _ ih => match Nat.beq (tcCode e.c) (tcCode c) with
    | true => match eqS e.x x with
      | true => match eqS e.y y with | true => some e.r | false => ih
      | false => ih
    | false => ih) T
def isSym : RV → Bool
  | .sym _ _ => true
  | _ => false
def flat0 : RV → Bool
  | .pl _ => true
  | .sym _ _ => true
  | _ => false
def flat1 : RV → Bool
  | .agg l => l.all flat0
  | r => flat0 r
def flat : RV → Bool
  | .tup l => l.all flat1
  | r => flat1 r

/-! Forcing: each of these is 'k' at its argument; the kernel meets the argument written out. -/
section
variable {β : Type}
def fNat (n : Nat) (k : Nat → β) : β := match n with | 0 => k 0 | m + 1 => k (m + 1)
theorem fNat_eq (n : Nat) (k : Nat → β) : fNat n k = k n := by cases n <;> rfl
def fInt (n : Int) (k : Int → β) : β := match n with | .ofNat m => fNat m fun m => k (.ofNat m) | .negSucc m => fNat m fun m => k (.negSucc m)
theorem fInt_eq (n : Int) (k : Int → β) : fInt n k = k n := by cases n <;> simp only [fInt, fNat_eq]
def fBool (b : Bool) (k : Bool → β) : β := match b with | true => k true | false => k false
theorem fBool_eq (b : Bool) (k : Bool → β) : fBool b k = k b := by cases b <;> rfl
noncomputable def fSpine {α : Type} (l : List α) : (List α → β) → β :=
  List.rec (motive := fun _ => (List α → β) → β) (fun k => k []) (fun x _ ih k => ih fun l' => k (x :: l')) l
theorem fSpine_eq {α : Type} : ∀ (l : List α) (k : List α → β), fSpine l k = k l
  | [], _ => rfl
  | x :: l, k => fSpine_eq l fun l' => k (x :: l')
noncomputable def fList {α : Type} (f : α → (α → β) → β) (l : List α) : (List α → β) → β :=
  List.rec (motive := fun _ => (List α → β) → β) (fun k => k []) (fun x _ ih k => f x fun x' => ih fun l' => k (x' :: l')) l
theorem fList_eq {α : Type} (f : α → (α → β) → β) (hf : ∀ x k, f x k = k x) : ∀ (l : List α) (k : List α → β), fList f l k = k l
  | [], _ => rfl
  | x :: l, k => (hf x fun x' => fList f l fun l' => k (x' :: l')).trans (fList_eq f hf l fun l' => k (x :: l'))
def fByte (b : UInt8) (k : UInt8 → β) : β := fNat b.toNat fun n => k (UInt8.ofNat n)
theorem fByte_eq (b : UInt8) (k : UInt8 → β) : fByte b k = k b := by simp only [fByte, fNat_eq, UInt8.ofNat_toNat]
noncomputable def fStr (s : ByteArray) (k : ByteArray → β) : β := fList fByte s.data.toList fun l => k ⟨l.toArray⟩
theorem fStr_eq (s : ByteArray) (k : ByteArray → β) : fStr s k = k s := by
  rw [fStr, fList_eq _ (fun x k => fByte_eq x k)]
noncomputable def fAtom (v : Value) (k : Value → β) : β :=
  match v with
  | .int j n => fInt n fun n => k (.int j n)
  | .bool b => fBool b fun b => k (.bool b)
  | .string s => fStr s fun s => k (.string s)
  | .slice none n c => fNat n fun n => fNat c fun c => k (.slice none n c)
  | v => k v
theorem fAtom_eq (v : Value) (k : Value → β) : fAtom v k = k v := by
  unfold fAtom
  split <;> simp only [fInt_eq, fBool_eq, fStr_eq, fNat_eq]
noncomputable def fVal1 (v : Value) (k : Value → β) : β :=
  match v with
  | .agg cs => fList fAtom cs.toList fun l => k (.agg l.toArray)
  | v => fAtom v k
theorem fVal1_eq (v : Value) (k : Value → β) : fVal1 v k = k v := by
  unfold fVal1
  split
  · rw [fList_eq _ (fun x k => fAtom_eq x k)]
  · exact fAtom_eq _ _
noncomputable def fVal (v : Value) (k : Value → β) : β :=
  match v with
  | .tuple cs => fList fVal1 cs.toList fun l => k (.tuple l.toArray)
  | v => fVal1 v k
theorem fVal_eq (v : Value) (k : Value → β) : fVal v k = k v := by
  unfold fVal
  split
  · rw [fList_eq _ (fun x k => fVal1_eq x k)]
  · exact fVal1_eq _ _
def fOpt (c : Option Nat) (k : Option Nat → β) : β := match c with | none => k none | some n => fNat n fun n => k (some n)
theorem fOpt_eq (c : Option Nat) (k : Option Nat → β) : fOpt c k = k c := by cases c <;> simp only [fOpt, fNat_eq]
noncomputable def fRV0 (r : RV) (k : RV → β) : β :=
  match r with
  | .pl v => fVal v fun v => k (.pl v)
  | .sym c i => fNat i fun i => k (.sym c i)
  | .el b i s => fNat b fun b => fNat i fun i => fNat s fun s => k (.el b i s)
  | .ptr b o => fNat b fun b => fNat o fun o => k (.ptr b o)
  | .sl b o n s c => fNat b fun b => fNat o fun o => fNat n fun n => fNat s fun s => fOpt c fun c => k (.sl b o n s c)
  | .fn f a c => fSpine a fun a => fSpine c fun c => k (.fn f a c)
  | .agg l => k (.agg l)
  | .tup l => k (.tup l)
theorem fRV0_eq (r : RV) (k : RV → β) : fRV0 r k = k r := by
  unfold fRV0
  split <;> simp only [fVal_eq, fNat_eq, fOpt_eq, fSpine_eq]
noncomputable def fRV1 (r : RV) (k : RV → β) : β := match r with | .agg l => fList fRV0 l fun l => k (.agg l) | r => fRV0 r k
theorem fRV1_eq (r : RV) (k : RV → β) : fRV1 r k = k r := by
  unfold fRV1
  split
  · rw [fList_eq _ (fun x k => fRV0_eq x k)]
  · exact fRV0_eq _ _
noncomputable def fRV (r : RV) (k : RV → β) : β := match r with | .tup l => fList fRV1 l fun l => k (.tup l) | r => fRV1 r k
theorem fRV_eq (r : RV) (k : RV → β) : fRV r k = k r := by
  unfold fRV
  split
  · rw [fList_eq _ (fun x k => fRV1_eq x k)]
  · exact fRV1_eq _ _
noncomputable def setL {α : Type} (l : List α) (n : Nat) (v : α) : (List α → β) → β :=
  List.rec (motive := fun _ => Nat → (List α → β) → β) (fun _ k => k []) (fun x l ih n => Nat.rec (motive := fun _ => (List α → β) → β) (fun k => k (v :: l)) (fun m _ k => ih m fun l' => k (x :: l')) n) l n
theorem setL_eq {α : Type} : ∀ (l : List α) (n : Nat) (v : α) (k : List α → β), setL l n v k = k (l.set n v)
  | [], _, _, _ => rfl
  | _ :: _, 0, _, _ => rfl
  | x :: l, n + 1, v, k => setL_eq l n v fun l' => k (x :: l')
noncomputable def fRO (o : Option RO) (k : Option RO → β) : β :=
  match o with
  | none => k none
  | some (.cells l e r f) => fSpine l fun l => fBool r fun r => fBool f fun f => k (some (.cells l e r f))
  | some (.iter s p) => fStr s fun s => fNat p fun p => k (some (.iter s p))
  | some (.lent l e) => k (some (.lent l e))
theorem fRO_eq (o : Option RO) (k : Option RO → β) : fRO o k = k o := by
  unfold fRO
  split <;> simp only [fBool_eq, fNat_eq, fStr_eq, fSpine_eq]
end

noncomputable def lkp (h : RH) (b : Nat) : Option RO :=
  List.rec (motive := fun _ => Nat → Option RO) (fun _ => none) (fun x _ ih i => Nat.rec (motive := fun _ => Option RO) x (fun j _ => ih j) i) h b

noncomputable def takeN (n : Nat) (l : List RV) : Option (List RV) :=
  Nat.rec (motive := fun _ => List RV → Option (List RV)) (fun _ => some []) (fun _ ih l => match l with
    | [] => none
    | x :: l => match ih l with | some r => some (x :: r) | none => none) n l
noncomputable def seg (l : List RV) (o n : Nat) : Option (List RV) :=
  Nat.rec (motive := fun _ => List RV → Option (List RV)) (takeN n) (fun _ ih l => match l with
    | [] => none
    | _ :: l => ih l) o l

noncomputable def getCells (h : RH) (b o n : Nat) : Option (List RV) :=
  match lkp h b with
  | some (.cells l _ _ _) => seg l o n
  | some (.lent l _) => seg l o n
  | _ => none

noncomputable def over (cs : List RV) : List RV → Option (List RV) :=
  List.rec (motive := fun _ => List RV → Option (List RV)) (fun l => some l) (fun c _ ih l => match l with
    | [] => none
    | _ :: l => match one c with
      | true => match ih l with | some r => some (c :: r) | none => none
      | false => none) cs
noncomputable def splice (cs l : List RV) (o : Nat) : Option (List RV) :=
  Nat.rec (motive := fun _ => List RV → Option (List RV)) (over cs) (fun _ ih l => match l with
    | [] => none
    | x :: l => match ih l with | some r => some (x :: r) | none => none) o l
theorem over_eq : ∀ cs l : List RV, over cs l = if cs.length ≤ l.length && cs.all one then some (cs ++ l.drop cs.length) else none
  | [], l => by simp [over]
  | c :: cs, [] => by simp [over]
  | c :: cs, x :: l => by
    have e : over (c :: cs) (x :: l) = match one c with
      | true => (match over cs l with | some r => some (c :: r) | none => none)
      | false => none := rfl
    have e2 : decide ((c :: cs).length ≤ (x :: l).length) = decide (cs.length ≤ l.length) := by simp
    rw [e, over_eq cs l, e2, List.all_cons]
    generalize decide (cs.length ≤ l.length) = p
    generalize cs.all one = q
    generalize one c = r
    cases p <;> cases q <;> cases r <;> simp
theorem splice_eq (cs : List RV) : ∀ (o : Nat) (l : List RV), splice cs l o = if o + cs.length ≤ l.length && cs.all one then some (l.take o ++ cs ++ l.drop (o + cs.length)) else none
  | 0, l => by
    have e : splice cs l 0 = over cs l := rfl
    rw [e, over_eq]
    simp
  | o + 1, [] => by
    have e : splice cs [] (o + 1) = none := rfl
    rw [e, if_neg (by simp)]
  | o + 1, x :: l => by
    have e : splice cs (x :: l) (o + 1) = match splice cs l o with | some r => some (x :: r) | none => none := rfl
    have e1 : o + 1 + cs.length = (o + cs.length) + 1 := by omega
    have e2 : decide ((o + cs.length) + 1 ≤ (x :: l).length) = decide (o + cs.length ≤ l.length) := by simp
    rw [e, splice_eq cs o l, e1, e2]
    generalize decide (o + cs.length ≤ l.length) = p
    generalize cs.all one = q
    cases p <;> cases q <;> simp
noncomputable def putCells (h : RH) (b o : Nat) (cs : List RV) : Option RO :=
  match lkp h b with
  | some (.cells l e room false) => match splice cs l o with | some l' => some (.cells l' e room false) | none => none
  | _ => none
theorem putCells_eq (h : RH) (b o : Nat) (cs : List RV) : putCells h b o cs = match lkp h b with
  | some (.cells l e room false) =>
    if o + cs.length ≤ l.length && cs.all one then some (.cells (l.take o ++ cs ++ l.drop (o + cs.length)) e room false) else none
  | _ => none := by
  unfold putCells
  cases lkp h b with
  | none => rfl
  | some o' => cases o' with
    | iter _ _ => rfl
    | lent _ _ => rfl
    | cells l e room f =>
      cases f with
      | true => rfl
      | false =>
        simp only [splice_eq]
        split
        · split
          · rename_i h1 h2; rw [if_pos h2] at h1; cases h1; rfl
          · rename_i h1 h2; rw [if_neg h2] at h1; cases h1
        · split
          · rename_i h1 h2; rw [if_pos h2] at h1; cases h1
          · rfl

/-- What an operation comes to: a value; one block written anew, and a value; a new block behind the others, and a value (with one block given up); a call. -/
inductive Eff where
  | val (v : RV)
  | same (v : RV)
  | setB (v : RV) (b : Nat) (o : RO)
  | newB (v : RV) (o : RO)
  | moveB (v : RV) (b : Nat) (o : RO)
  | call (f : FuncId) (args : List RV)
  deriving Inhabited

noncomputable def loadAs (agg : Bool) (l : List RV) : Option RV := if agg then some (mkAgg l) else l.head?

def cellsN (agg : Bool) (sz : Nat) : Nat := match agg with | true => sz | false => 1
noncomputable def loadOp (P : Program) (ro : Ro) (h : RH) (ty : TypeId) (a : RV) : Option RV :=
  match quiet P (isAgg ty), quiet P (sizeOf ty) with
  | some agg, some sz =>
    match a with
    | .ptr b o => (getCells h b o (cellsN agg sz)).bind (loadAs agg)
    | .pl (.pointer (some ⟨g, o, none⟩)) =>
      match ro.lookup g with
      | some cs => if o + cellsN agg sz ≤ cs.length then loadAs agg (((cs.drop o).take (cellsN agg sz)).map .pl) else none
      | none => none
    | _ => none
  | _, _ => none

noncomputable def storeOp (P : Program) (h : RH) (ty : TypeId) (a x : RV) : Option Eff :=
  match a, quiet P (sizeOf ty) with
  | .ptr b o, some n => if (cellsOf x).length = n then (putCells h b o (cellsOf x)).map (.setB (.pl undef) b) else none
  | _, _ => none

def addOff (b o n : Nat) : RV := .ptr b (o + n)

noncomputable def sizeB (P : Program) (t : TypeId) : Option Nat := quiet P (sizeOf t)

noncomputable def fieldAddrOp (P : Program) (s : TypeId) (x : RV) (f : Nat) : Option RV :=
  match x, P.underlying s with
  | .ptr b o, some (.struct fs) =>
    match fs[f]? with
    | some fd => match sizeB P fd.type with
      | some (_ + 1) => some (.ptr b (o + fd.offset))
      | _ => none
    | none => none
  | _, _ => none

def asI : RV → Option Int
  | .pl (.int _ n) => some n
  | _ => none

noncomputable def indexAddrOp (P : Program) (t : TypeId) (x ix : RV) : Option RV :=
  match asI ix, P.underlying t, x with
  | some i, some (.array len elem), .ptr b o =>
    match sizeB P elem with
    | some s => if 0 ≤ i ∧ i < len then some (.ptr b (o + i.toNat * s)) else none
    | none => none
  | some i, some (.slice elem), .sl b o n _ _ =>
    match sizeB P elem with
    | some s => if 0 ≤ i ∧ i < n then some (.ptr b (o + i.toNat * s)) else none
    | none => none
  | _, _, _ => none

noncomputable def partOp (P : Program) (t : TypeId) (l : List RV) (off : Nat) : Option RV :=
  match quiet P (isAgg t), sizeB P t with
  | some true, some n => some (mkAgg ((l.drop off).take n))
  | some false, _ => l[off]?
  | _, _ => none

noncomputable def fieldOp (P : Program) (xType : TypeId) (x : RV) (f : Nat) : Option RV :=
  match x, P.underlying xType with
  | .agg l, some (.struct fs) =>
    match fs[f]? with
    | some fd => partOp P fd.type l fd.offset
    | none => none
  | _, _ => none

def fillR (place : Nat → Option (Nat × Nat)) (cells : List RV) : List (Nat × RV) → Option (List RV)
  | [] => some cells
  | (i, v) :: rest =>
    match place i with
    | none => none
    | some (off, size) =>
      if (cellsOf v).length ≠ size || off + (cellsOf v).length > cells.length then none
      else fillR place (cells.take off ++ cellsOf v ++ cells.drop (off + (cellsOf v).length)) rest

noncomputable def fieldPlaces (P : Program) (fs : Array Field) (i : Nat) : Option (Nat × Nat) :=
  match fs[i]? with
  | some f => (sizeB P f.type).map (f.offset, ·)
  | none => none

noncomputable def zeroCellsOf (P : Program) (t : TypeId) : Option (List RV) := (quiet P (zeroValue t)).map fun z => z.cells.toList.map .pl

noncomputable def buildOp (P : Program) (t : TypeId) (parts : List (Nat × RV)) : Option RV :=
  match zeroCellsOf P t, P.underlying t with
  | some zero, some (.struct fs) =>
    if fs.toList.all (fun f => (sizeB P f.type).isSome) then (fillR (fieldPlaces P fs) zero parts).map mkAgg else none
  | some zero, some (.array _ elem) =>
    match sizeB P elem with
    | some s => (fillR (fun i => some (i * s, s)) zero parts).map mkAgg
    | none => none
  | _, _ => none

def rep (n : Nat) (l : List RV) : List RV := (List.replicate n l).flatten

noncomputable def buildSliceOp (P : Program) (h : RH) (t : TypeId) (len : Nat) (parts : List (Nat × RV)) : Option Eff :=
  match P.underlying t with
  | some (.slice elem) =>
    match sizeB P elem, zeroCellsOf P elem with
    | some (s + 1), some zero =>
      if len * (s + 1) ≤ 4096 && zero.length = s + 1 then
        (fillR (fun i => some (i * (s + 1), (s + 1))) (rep len zero) parts).bind fun cs =>
          if cs.all one then some (.newB (.sl h.length 0 len (s + 1) none) (.cells cs elem false false)) else none
      else none
    | _, _ => none
  | _ => none

noncomputable def makeSliceOp (P : Program) (h : RH) (t : TypeId) (l c : RV) : Option Eff :=
  match P.underlying t, l, c with
  | some (.slice elem), .pl (.int .i64 l), .pl (.int .i64 c) =>
    match sizeB P elem, zeroCellsOf P elem with
    | some (s + 1), some zero =>
      if 0 ≤ l && l ≤ c && c * (s + 1) ≤ 65536 && zero.length = s + 1 && zero.all one && ((P.info? elem).map (·.bytes)).getD 70000 ≤ 65536 then
        some (.newB (.sl h.length 0 l.toNat (s + 1) none) (.cells (rep c.toNat zero) elem false false))
      else none
    | _, _ => none
  | _, _, _ => none

/-- The end of what a slice over this block can hold, where it is known. -/
noncomputable def capOf (h : RH) (b o s : Nat) : Option Nat → Option Nat
  | some c => some c
  | none => match lkp h b with
    | some (.cells l _ false _) => some ((l.length - o) / s)
    | _ => none

def bnd (x : Option RV) (d : Nat) : Option Nat :=
  match x with
  | none => some d
  | some (.pl (.int _ i)) => if 0 ≤ i then some i.toNat else none
  | _ => none

noncomputable def sliceOp (P : Program) (h : RH) (t : TypeId) (x : RV) (lo hi mx : Option RV) : Option RV :=
  match P.underlying t, x, mx with
  | some (.slice elem), .sl b o n s c, none =>
    match bnd lo 0, bnd hi n, sizeB P elem with
    | some l, some g, some s' =>
      if l ≤ g && g ≤ n && s = s' && s ≠ 0 then
        if l = 0 then some (.sl b o g s c)
        else if l < n then some (.sl b (o + l * s) (g - l) s (c.map (· - l)))
        else match capOf h b o s c with
          | some k => if n ≤ k then (if k = l then some (.sl b o (g - l) s (some 0)) else some (.sl b (o + l * s) (g - l) s (some (k - l)))) else none
          | none => none
      else none
    | _, _, _ => none
  | some (.array n elem), .ptr b o, none =>
    match bnd lo 0, bnd hi n, sizeB P elem with
    | some l, some g, some s =>
      if l ≤ g && g ≤ n && s ≠ 0 then (if n = l then some (.sl b o (g - l) s (some (n - l))) else some (.sl b (o + l * s) (g - l) s (some (n - l)))) else none
    | _, _, _ => none
  | _, _, _ => none

noncomputable def nthV (l : List Value) : Nat → Option Value :=
  List.rec (motive := fun _ => Nat → Option Value) (fun _ => none) (fun x _ ih i => Nat.rec (motive := fun _ => Option Value) (some x) (fun j _ => ih j) i) l

noncomputable def nthB (l : List UInt8) : Nat → Option UInt8 :=
  List.rec (motive := fun _ => Nat → Option UInt8) (fun _ => none) (fun x _ ih i => Nat.rec (motive := fun _ => Option UInt8) (some x) (fun j _ => ih j) i) l
noncomputable def lenB (l : List UInt8) : Nat := List.rec (motive := fun _ => Nat) 0 (fun _ _ ih => Nat.succ ih) l
noncomputable def eqB (l : List UInt8) : List UInt8 → Bool :=
  List.rec (motive := fun _ => List UInt8 → Bool) (fun r => match r with | [] => true | _ :: _ => false)
    (fun x _ ih r => match r with | [] => false | y :: r => match Nat.beq x.toNat y.toNat with | true => ih r | false => false) l
noncomputable def takeB (n : Nat) (l : List UInt8) : Option (List UInt8) :=
  Nat.rec (motive := fun _ => List UInt8 → Option (List UInt8)) (fun _ => some []) (fun _ ih l => match l with
    | [] => none
    | x :: l => match ih l with | some r => some (x :: r) | none => none) n l
noncomputable def segB (l : List UInt8) (o n : Nat) : Option (List UInt8) :=
  Nat.rec (motive := fun _ => List UInt8 → Option (List UInt8)) (takeB n) (fun _ ih l => match l with
    | [] => none
    | _ :: l => ih l) o l
noncomputable def appB (l r : List UInt8) : List UInt8 := List.rec (motive := fun _ => List UInt8) r (fun x _ ih => x :: ih) l

def bytesR (s : ByteArray) : List RV := s.data.toList.map fun b => .pl (.int .u8 b.toNat)

/-- The cells that a source holds, and how many elements these are. -/
noncomputable def srcCells (P : Program) (h : RH) (tS tX elem : TypeId) (sz : Nat) : RV → Option (List RV × Nat)
  | .pl (.slice none n _) => if tS = tX && n = 0 then some ([], 0) else none
  | .sl b o n s _ => if tS = tX && s = sz then (getCells h b o (n * sz)).map (·, n) else none
  | .pl (.string s) =>
    match P.underlying tX, P.underlying elem with
    | some .string, some (.int .u8) => if sz = 1 then some (bytesR s, lenB s.data.toList) else none
    | _, _ => none
  | _ => none

noncomputable def appendSl (h : RH) (elem : TypeId) (sz by_ b n : Nat) (ncs : List RV) (m : Nat) : Option Eff :=
  match lkp h b with
  | some (.cells l e room false) =>
    if e ≠ elem then none else
    if (n + m) * sz ≤ l.length then (putCells h b (n * sz) ncs).map (.setB (.sl b 0 (n + m) sz none) b)
    else if n * sz ≤ l.length && (n + m) * by_ ≤ 1000000000 && n + m ≤ 1000000000 then
      match room with
      | true => if n * sz = l.length && l.all one then some (.moveB (.sl h.length 0 (n + m) sz none) b (.cells (l ++ ncs) elem true false)) else none
      | false => some (.newB (.sl h.length 0 (n + m) sz none) (.cells (l.take (n * sz) ++ ncs) elem true false))
    else none
  | _ => none
noncomputable def appendTo (h : RH) (elem : TypeId) (sz by_ : Nat) (s : RV) (ncs : List RV) (m : Nat) : Option Eff :=
  match s with
  | .pl (.slice none 0 0) =>
    if m = 0 then some (.same s)
    else if m * by_ ≤ 1000000000 && m ≤ 1000000000 then some (.newB (.sl h.length 0 m sz none) (.cells ncs elem true false))
    else none
  | .sl b 0 n s' none =>
    if s' ≠ sz then none else
    if m = 0 then some (.same s) else appendSl h elem sz by_ b n ncs m
  | _ => none
noncomputable def appendOp (P : Program) (h : RH) (argTypes : Array TypeId) (s x : RV) : Option Eff :=
  match argTypes.toList with
  | [tS, tX] =>
    match P.underlying tS with
    | some (.slice elem) =>
      match P.info? elem, zeroCellsOf P elem with
      | some i, some zero =>
        if i.size = 0 || zero.length ≠ i.size then none else
        match srcCells P h tS tX elem i.size x with
        | some (ncs, m) => if ncs.all one then appendTo h elem i.size i.bytes s ncs m else none
        | none => none
      | _, _ => none
    | _ => none
  | _ => none

noncomputable def copyOp (P : Program) (h : RH) (argTypes : Array TypeId) (d x : RV) : Option Eff :=
  match argTypes.toList with
  | tD :: _ =>
    match P.underlying tD with
    | some (.slice elem) =>
      match sizeB P elem with
      | some sz =>
        match d, x with
        | .sl b o n s _, .sl b2 o2 n2 s2 _ =>
          if s = sz && s2 = sz then
            (getCells h b2 o2 (Nat.min n2 n * sz)).bind fun cs => (putCells h b o cs).map (.setB (.pl (goInt (Nat.min n2 n))) b)
          else none
        | .sl _ _ _ _ _, .pl (.slice none 0 _) => some (.val (.pl (goInt 0)))
        | _, _ => none
      | none => none
    | _ => none
  | _ => none

noncomputable def eqlOp (P : Program) (t : TypeId) (x y : RV) : Option Bool :=
  match P.underlying t, x, y with
  | some (.pointer e), .ptr b o, .ptr b' o' => match sizeB P e with
    | some (_ + 1) => if b = b' then some (o == o') else none
    | _ => none
  | some (.pointer _), .pl (.pointer none), .ptr _ _ => some false
  | some (.pointer _), .ptr _ _, .pl (.pointer none) => some false
  | some (.slice _), .pl (.slice none _ _), .sl _ _ _ _ _ => some false
  | some (.slice _), .sl _ _ _ _ _, .pl (.slice none _ _) => some false
  | some (.func _ _ _), .pl .nilFunc, .fn _ _ _ => some false
  | some (.func _ _ _), .fn _ _ _, .pl .nilFunc => some false
  | _, _, _ => none

def byteOfR : RV → Option UInt8
  | .pl (.int .u8 n) => some (UInt8.ofNat n.toNat)
  | _ => none
def strOf : List RV → Option (List UInt8)
  | [] => some []
  | r :: l => match byteOfR r, strOf l with
    | some b, some s => some (b :: s)
    | _, _ => none

noncomputable def decodeF (s : ByteArray) (pos : Nat) : Nat × Nat :=
  match nthB s.data.toList pos with
  | some b => if b.toNat < 128 then (b.toNat, 1) else Utf8.decode s pos
  | none => Utf8.decode s pos

noncomputable def rangeOp (P : Program) (h : RH) (t : TypeId) (x : RV) : Option Eff :=
  match P.underlying t, x with
  | some .string, .pl (.string s) => some (.newB (.ptr h.length 0) (.iter s 0))
  | _, _ => none

noncomputable def nextOp (h : RH) (x : RV) (isString : Bool) : Option Eff :=
  match x, isString with
  | .ptr b 0, true =>
    match lkp h b with
    | some (.iter s pos) =>
      if pos < lenB s.data.toList then
        let (c, width) := decodeF s pos
        some (.setB (.pl (.tuple #[.bool true, goInt pos, .int .i32 c])) b (.iter s (pos + width)))
      else some (.val (.pl (.tuple #[.bool false])))
    | _ => none
  | _, _ => none

noncomputable def fastStr (op : BinOp) (a b : ByteArray) : Option RV :=
  match op with
  | .eql => some (.pl (.bool (eqB a.data.toList b.data.toList)))
  | .neq => some (.pl (.bool (!eqB a.data.toList b.data.toList)))
  | .add => if lenB a.data.toList + lenB b.data.toList ≤ 1000000000 then some (.pl (.string ⟨(appB a.data.toList b.data.toList).toArray⟩)) else none
  | _ => none

noncomputable def takeV (n : Nat) (l : List Value) : Option (List Value) :=
  Nat.rec (motive := fun _ => List Value → Option (List Value)) (fun _ => some []) (fun _ ih l => match l with
    | [] => none
    | x :: l => match ih l with | some r => some (x :: r) | none => none) n l
noncomputable def segV (l : List Value) (o n : Nat) : Option (List Value) :=
  Nat.rec (motive := fun _ => List Value → Option (List Value)) (takeV n) (fun _ ih l => match l with
    | [] => none
    | _ :: l => ih l) o l
noncomputable def partV (P : Program) (t : TypeId) (l : List Value) (off : Nat) : Option Value :=
  match quiet P (isAgg t) with
  | some true => match sizeB P t with
    | some n => (segV l off n).map fun r => .agg r.toArray
    | none => none
  | some false => nthV l off
  | none => none
noncomputable def eqFieldsV (P : Program) (e : TypeId → Value → Value → Option Bool) (xs ys : List Value) (fs : List Field) : Option Bool :=
  List.rec (motive := fun _ => Option Bool) (some true) (fun f _ ih =>
    if f.name = "_" then ih else
    match partV P f.type xs f.offset, partV P f.type ys f.offset with
    | some a, some b => match e f.type a b with
      | some true => ih
      | r => r
    | _, _ => none) fs
noncomputable def eqElemsV (P : Program) (e : TypeId → Value → Value → Option Bool) (elem : TypeId) (n : Nat) (xs ys : List Value) (is : List Nat) : Option Bool :=
  List.rec (motive := fun _ => Option Bool) (some true) (fun i _ ih =>
    match partV P elem xs (i * n), partV P elem ys (i * n) with
    | some a, some b => match e elem a b with
      | some true => ih
      | r => r
    | _, _ => none) is
noncomputable def eqV (P : Program) (d : Nat) : TypeId → Value → Value → Option Bool :=
  Nat.rec (motive := fun _ => TypeId → Value → Value → Option Bool) (fun _ _ _ => none) (fun _ ih t x y =>
    match P.underlying t, x, y with
    | some (.int _), .int k a, .int k' b => if k = k' then some (a == b) else none
    | some .bool, .bool a, .bool b => some (a == b)
    | some .string, .string a, .string b => some (eqB a.data.toList b.data.toList)
    | some (.struct fs), .agg xs, .agg ys => if P.stoodInHeld t then none else eqFieldsV P ih xs.toList ys.toList fs.toList
    | some (.array len elem), .agg xs, .agg ys => match sizeB P elem with
      | some n => eqElemsV P ih elem n xs.toList ys.toList (List.range len)
      | none => none
    | _, _, _ => none) d
noncomputable def fastAgg (P : Program) (op : BinOp) (ty : TypeId) (xs ys : Array Value) : Option RV :=
  if P.eqGuardType P.depth ty then none else
  match op with
  | .eql => (eqV P 8 ty (.agg xs) (.agg ys)).map fun b => .pl (.bool b)
  | .neq => (eqV P 8 ty (.agg xs) (.agg ys)).map fun b => .pl (.bool !b)
  | _ => none

noncomputable def strIndex (P : Program) (t : TypeId) (s : ByteArray) (i : Int) : Option RV :=
  match P.underlying t with
  | some .string => if 0 ≤ i then (nthB s.data.toList i.toNat).map fun b => .pl (.int .u8 b.toNat) else none
  | _ => none

noncomputable def strSlice (P : Program) (t : TypeId) (s : ByteArray) (lo hi : Option RV) : Option RV :=
  match P.underlying t with
  | some .string =>
    let n := lenB s.data.toList
    match bnd lo 0, bnd hi n with
    | some l, some g => if l ≤ g && g ≤ n then (segB s.data.toList l (g - l)).map fun r => .pl (.string ⟨r.toArray⟩) else none
    | _, _ => none
  | _ => none

noncomputable def isBodyName (P : Program) (f : FuncId) : Option Bool := (P.funcs[f]?).map fun fn => fn.body.isSome && !(fn.name == "runtime.NumGoroutine")

noncomputable def externOp (g : Cfg) (h : RH) (f : FuncId) (args : List RV) : Option Eff :=
  if g.ne.contains f then
    match args with
    | [x] => some (.same x)
    | _ => none
  else
    match g.mz.lookup f, args with
    | some e, [.pl (.int .i64 n)] => if 0 ≤ n && n ≤ 1000000000 then some (.newB (.sl h.length 0 n.toNat 1 none) (.cells [] e true false)) else none
    | _, _ => none

noncomputable def callAt (P : Program) (g : Cfg) (h : RH) (f : FuncId) (as : List RV) : Option Eff :=
  match isBodyName P f with
  | some true => some (.call f as)
  | some false => externOp g h f as
  | none => none
noncomputable def callOp (P : Program) (g : Cfg) (h : RH) (f : RV) (args : List RV) : Option Eff :=
  match f with
  | .pl (.func (.func k) first cap) => callAt P g h k (first.toList.map .pl ++ args ++ cap.toList.map .pl)
  | .fn (.func k) first cap => callAt P g h k (first ++ args ++ cap)
  | _ => none

noncomputable def unsafeConv (P : Program) (h : RH) (src dst : TypeId) (x : RV) : Option RV :=
  match P.underlying src, P.underlying dst, x with
  | some (.pointer t), some .unsafePointer, .ptr b o =>
    match sizeB P t, lkp h b with
    | some (_ + 1), some (.cells l _ _ _) => if o < l.length then some x else none
    | _, _ => none
  | some .unsafePointer, some (.pointer u), .ptr b o =>
    match lkp h b with
    | some (.cells l e false _) => if (sizeB P u).isSome && liesAt P P.depth e (l.length / P.cellsOf e) o u 1 then some x else none
    | _ => none
  | _, _, _ => none

noncomputable def unsafeStringOp (P : Program) (h : RH) (argTypes : Array TypeId) (p l : RV) : Option Eff :=
  match p, l, argTypes.toList with
  | .ptr b o, .pl (.int _ n), pt :: _ =>
    match P.underlying pt, lkp h b with
    | some (.pointer u), some (.cells cs e room _) =>
      if 0 < n && n ≤ 1000000000 && P.underlyingId e == P.underlyingId u && P.cellsOf e == 1 then
        match getCells h b o n.toNat with
        | some l => (strOf l).map fun s => .setB (.pl (.string ⟨s.toArray⟩)) b (.cells cs e room true)
        | none => none
      else none
    | _, _ => none
  | _, _, _ => none

noncomputable def builtinOp (P : Program) (g : Cfg) (h : RH) (b : Builtin) (argTypes : Array TypeId) (args : List RV) : Option Eff :=
  match b, args with
  | .append, [s, x] => appendOp P h argTypes s x
  | .copy, [d, x] => copyOp P h argTypes d x
  | .len, [.pl (.string s)] => match argTypes.toList with
    | [t] => match P.underlying t with
      | some .string => some (.val (.pl (goInt (lenB s.data.toList))))
      | _ => none
    | _ => none
  | .len, [.sym .str i] => match argTypes.toList with
    | [t] => match P.underlying t with
      | some .string => (tlook g.T .len (.sym .str i) (.sym .str i)).map .same
      | _ => none
    | _ => none
  | .len, [.sl _ _ n _ _] => match argTypes.toList with
    | [t] => match P.underlying t with
      | some (.slice _) => some (.val (.pl (goInt n)))
      | _ => none
    | _ => none
  | .cap, [.sl b o _ s c] => match argTypes.toList with
    | [t] => match P.underlying t with
      | some (.slice _) => (capOf h b o s c).map fun k => .val (.pl (goInt k))
      | _ => none
    | _ => none
  | .unsafeSliceData, [.sl b o n _ _] => if 0 < n then some (.val (.ptr b o)) else none
  | .unsafeString, [p, l] => unsafeStringOp P h argTypes p l
  | _, _ => none

/-- An operation that looks at no memory, all of whose operands are plain. -/
noncomputable def pureOp (P : Program) (o : Oper) (t : List RV) : Option Eff :=
  match o.op with
  | .select _ _ => none
  | _ =>
    if o.op.operands.toList.all (fun x => (ev t x).isPl) then
      match quiet P (execOp (fun x => (ev t x).v) o) with
      | some (.value v) => some (.val (.pl v))
      | some .skip => some (.val (.pl undef))
      | some (.enter f args) => some (.call f (args.toList.map .pl))
      | _ => none
    else none

def fastInt (op : BinOp) (k : IntKind) (a b : Int) : Option RV :=
  match op with
  | .add => some (.pl (.int k (k.wrap (a + b))))
  | .sub => some (.pl (.int k (k.wrap (a - b))))
  | .mul => some (.pl (.int k (k.wrap (a * b))))
  | .eql => some (.pl (.bool (a == b)))
  | .neq => some (.pl (.bool (a != b)))
  | .lss => some (.pl (.bool (a < b)))
  | .leq => some (.pl (.bool (a ≤ b)))
  | .gtr => some (.pl (.bool (a > b)))
  | .geq => some (.pl (.bool (a ≥ b)))
  | _ => none

def fastBool (P : Program) (op : BinOp) (ty : TypeId) (a b : Bool) : Option Eff :=
  match op, P.underlying ty with
  | .eql, some .bool => some (.val (.pl (.bool (a == b))))
  | .neq, some .bool => some (.val (.pl (.bool (!(a == b)))))
  | _, _ => none

noncomputable def mPick (c a b : RV) : Option Eff :=
  match c with
  | .pl (.bool q) => some (.same (if q then a else b))
  | _ => none
noncomputable def mAlloc (P : Program) (e : TypeId) (h : RH) : Option Eff :=
  (zeroCellsOf P e).bind fun cs => if cs.all one then some (.newB (.ptr h.length 0) (.cells cs e false false)) else none
noncomputable def mBox (e : TypeId) (x : RV) (h : RH) : Option Eff :=
  if (cellsOf x).all one then some (.newB (.ptr h.length 0) (.cells (cellsOf x) e false false)) else none
noncomputable def mNil : RV → Option Eff
  | .ptr b o => some (.same (.ptr b o))
  | _ => none
noncomputable def binII (op : BinOp) (k : IntKind) (a : Int) (k' : IntKind) (b : Int) : Option Eff := if k = k' then (fastInt op k a b).map .val else none
noncomputable def binRef (P : Program) (op : BinOp) (ty : TypeId) (x y : RV) : Option Eff :=
  match op with
  | .eql => (eqlOp P ty x y).map fun b => .val (.pl (.bool b))
  | .neq => (eqlOp P ty x y).map fun b => .val (.pl (.bool !b))
  | _ => none
noncomputable def binSS (op : BinOp) (a b : ByteArray) : Option Eff := (fastStr op a b).map .val
noncomputable def binAA (P : Program) (op : BinOp) (ty : TypeId) (a b : Array Value) : Option Eff := (fastAgg P op ty a b).map .val
noncomputable def mBin (P : Program) (op : BinOp) (ty : TypeId) (x y : RV) : Option Eff :=
  match x, y with
  | .pl (.int k a), .pl (.int k' b) => binII op k a k' b
  | .pl (.bool a), .pl (.bool b) => fastBool P op ty a b
  | .pl (.string a), .pl (.string b) => binSS op a b
  | .pl (.agg a), .pl (.agg b) => binAA P op ty a b
  | x, y => binRef P op ty x y
/-- '==' where names stand among the operands. -/
noncomputable def eqLeaf (P : Program) (g : Cfg) (t : TypeId) (x y : RV) : Option Bool :=
  match P.underlying t, x, y with
  | _, .pl u, .pl v => eqV P 1 t u v
  | some (.int _), .sym (.int k) i, .sym (.int k') j => match eqS (.sym (.int k) i) (.sym (.int k') j) with
    | true => some true
    | false => match tlook g.T .ieq x y with | some (.pl (.bool b)) => some b | _ => none
  | some (.int _), x, y => match tlook g.T .ieq x y with | some (.pl (.bool b)) => some b | _ => none
  | some .bool, .sym .bool i, .sym .bool j => match Nat.beq i j with
    | true => some true
    | false => match tlook g.T .beq x y with | some (.pl (.bool b)) => some b | _ => none
  | some .bool, x, y => match tlook g.T .beq x y with | some (.pl (.bool b)) => some b | _ => none
  | some .string, .sym .str i, .sym .str j => match Nat.beq i j with
    | true => some true
    | false => match tlook g.T .seq x y with | some (.pl (.bool b)) => some b | _ => none
  | some .string, x, y => match tlook g.T .seq x y with | some (.pl (.bool b)) => some b | _ => none
  | _, _, _ => none
noncomputable def aggL : RV → Option (List RV)
  | .agg l => some l
  | .pl (.agg vs) => some (vs.toList.map .pl)
  | _ => none
def isAggV : RV → Bool
  | .pl (.agg _) => true
  | _ => false
noncomputable def partR (P : Program) (t : TypeId) (l : List RV) (off : Nat) : Option RV :=
  match quiet P (isAgg t) with
  | some true => match sizeB P t with
    | some n => (seg l off n).map .agg
    | none => none
  | some false => l[off]?
  | none => none
noncomputable def eqFieldsR (P : Program) (e : TypeId → RV → RV → Option Bool) (xs ys : List RV) (fs : List Field) : Option Bool :=
  List.rec (motive := fun _ => Option Bool) (some true) (fun f _ ih =>
    if f.name = "_" then ih else
    match partR P f.type xs f.offset, partR P f.type ys f.offset with
    | some a, some b => match e f.type a b with
      | some true => ih
      | r => r
    | _, _ => none) fs
noncomputable def eqElemsR (P : Program) (e : TypeId → RV → RV → Option Bool) (elem : TypeId) (n : Nat) (xs ys : List RV) (is : List Nat) : Option Bool :=
  List.rec (motive := fun _ => Option Bool) (some true) (fun i _ ih =>
    match partR P elem xs (i * n), partR P elem ys (i * n) with
    | some a, some b => match e elem a b with
      | some true => ih
      | r => r
    | _, _ => none) is
noncomputable def eqR (P : Program) (g : Cfg) (d : Nat) : TypeId → RV → RV → Option Bool :=
  Nat.rec (motive := fun _ => TypeId → RV → RV → Option Bool) (fun _ _ _ => none) (fun _ ih t x y =>
    match P.underlying t with
    | some (.struct fs) => match P.stoodInHeld t, aggL x, aggL y with
      | false, some xs, some ys => eqFieldsR P ih xs ys fs.toList
      | _, _, _ => none
    | some (.array len elem) => match sizeB P elem, aggL x, aggL y with
      | some n, some xs, some ys => eqElemsR P ih elem n xs ys (List.range len)
      | _, _, _ => none
    | _ => eqLeaf P g t x y) d
noncomputable def hasSym (x y : RV) : Bool :=
  match x, y with
  | .sym _ _, _ => true
  | _, .sym _ _ => true
  | .agg l, _ => l.all flat0
  | _, .agg l => l.all flat0
  | _, _ => false
/-- '==' of two scalars, by what is known. -/
noncomputable def eqKnown (P : Program) (g : Cfg) (ty : TypeId) (x y : RV) : Option Bool :=
  match tlook g.T .ieq x y with
  | some (.pl (.bool b)) => some b
  | _ => match tlook g.T .seq x y with
    | some (.pl (.bool b)) => some b
    | _ => match P.underlying ty with
      | some .bool => match tlook g.T .beq x y with
        | some (.pl (.bool b)) => some b
        | _ => none
      | _ => none
noncomputable def eqScal (P : Program) (g : Cfg) (ty : TypeId) (x y : RV) : Option Bool :=
  match x, y with
  | .sym (.int k) i, .sym (.int k') j => match eqS (.sym (.int k) i) (.sym (.int k') j) with
    | true => some true
    | false => eqKnown P g ty x y
  | .sym .str i, .sym .str j => match Nat.beq i j with
    | true => some true
    | false => eqKnown P g ty x y
  | .sym .bool i, .sym .bool j => match Nat.beq i j, P.underlying ty with
    | true, some .bool => some true
    | _, _ => eqKnown P g ty x y
  | x, y => eqKnown P g ty x y
noncomputable def eqAgg (P : Program) (g : Cfg) (ty : TypeId) (x y : RV) : Option Bool :=
  match P.eqGuardType P.depth ty, aggL x, aggL y with
  | false, some _, some _ => eqR P g 8 ty x y
  | _, _, _ => none
noncomputable def symEq (P : Program) (g : Cfg) (ty : TypeId) (x y : RV) : Option Bool :=
  match flat0 x, flat0 y, isAggV x, isAggV y with
  | true, true, false, false => eqScal P g ty x y
  | _, _, _, _ => eqAgg P g ty x y
noncomputable def symBin (P : Program) (g : Cfg) (op : BinOp) (ty : TypeId) (x y : RV) : Option Eff :=
  match hasSym x y with
  | false => none
  | true => match op with
    | .eql => (symEq P g ty x y).map fun b => .val (.pl (.bool b))
    | .neq => (symEq P g ty x y).map fun b => .val (.pl (.bool !b))
    | op => (tlook g.T (.bin op) x y).map .same
noncomputable def mBinS (P : Program) (g : Cfg) (op : BinOp) (ty : TypeId) (x y : RV) : Option Eff :=
  match mBin P op ty x y with
  | some e => some e
  | none => symBin P g op ty x y
noncomputable def symNot (g : Cfg) (x : RV) : Option Eff :=
  match x with
  | .sym .bool i => (tlook g.T .not (.sym .bool i) (.sym .bool i)).map .same
  | _ => none
noncomputable def mNot : RV → Option Eff
  | .pl (.bool b) => some (.val (.pl (.bool !b)))
  | _ => none
noncomputable def mSlice (P : Program) (h : RH) (ty : TypeId) (x : RV) (lo hi mx : Option RV) : Option Eff :=
  match x, mx with
  | .pl (.string s), none => (strSlice P ty s lo hi).map .val
  | x, mx => (sliceOp P h ty x lo hi mx).map .val
noncomputable def aggIndex (P : Program) (ty : TypeId) (l : List RV) (i : Int) : Option Eff :=
  match P.underlying ty with
  | some (.array len elem) => match sizeB P elem with
    | some s => if 0 ≤ i ∧ i < len then (partOp P elem l (i.toNat * s)).map .same else none
    | none => none
  | _ => none
noncomputable def symIndex (P : Program) (g : Cfg) (ty : TypeId) (x i : RV) : Option Eff :=
  match P.underlying ty with
  | some .string => (tlook g.T .idx x i).map .same
  | _ => none
noncomputable def mIndex (P : Program) (g : Cfg) (ty : TypeId) (x i : RV) : Option Eff :=
  match x, i with
  | .pl (.string s), .pl (.int _ i) => (strIndex P ty s i).map .val
  | .agg l, .pl (.int _ i) => aggIndex P ty l i
  | .sym .str j, i => symIndex P g ty (.sym .str j) i
  | .pl (.string s), .sym k j => symIndex P g ty (.pl (.string s)) (.sym k j)
  | _, _ => none
noncomputable def symConv (P : Program) (g : Cfg) (s d : TypeId) (x : RV) : Option Eff :=
  match x, P.underlying s, P.underlying d with
  | .sym k i, some (.int _), some (.int k') => (tlook g.T (.conv k') (.sym k i) (.sym k i)).map .same
  | _, _, _ => none
noncomputable def mConv (P : Program) (g : Cfg) (h : RH) (s d : TypeId) (x : RV) : Option Eff :=
  match unsafeConv P h s d x with
  | some v => some (.val v)
  | none => symConv P g s d x
noncomputable def mExtract (x : RV) (i : Nat) : Option Eff :=
  match x with
  | .pl (.tuple vs) => (nthV vs.toList i).map fun v => .same (.pl v)
  | .tup l => (l[i]?).map .same
  | _ => none
noncomputable def eqSs (l : List RV) : List RV → Bool :=
  List.rec (motive := fun _ => List RV → Bool) (fun m => match m with | [] => true | _ => false) (fun x _ ih m => match m with | [] => false | y :: m => match eqS x y with | true => ih m | false => false) l
noncomputable def nlook (T : List NE) (l : List RV) (i : Nat) : Option (List RV) :=
  List.rec (motive := fun _ => Option (List RV)) none (fun e _ ih => match Nat.beq e.i i with
    | true => match eqSs e.l l with | true => some e.r | false => ih
    | false => ih) T
noncomputable def elAddr (P : Program) (g : Cfg) (t : TypeId) (x ix : RV) : Option Eff :=
  match x, ix, P.underlying t with
  | .sl b 0 n s none, .sym (.int k) i, some (.slice elem) => match sizeB P elem with
    | some (s' + 1) => match Nat.beq s (s' + 1), tlook g.T .inb (.sym (.int k) i) (.pl (.int .i64 n)) with
      | true, some (.pl (.bool true)) => some (.val (.el b i s))
      | _, _ => none
    | _ => none
  | _, _, _ => none
noncomputable def mIndexAddr (P : Program) (g : Cfg) (t : TypeId) (x ix : RV) : Option Eff :=
  match indexAddrOp P t x ix with
  | some v => some (.val v)
  | none => elAddr P g t x ix
noncomputable def rowOf (h : RH) (b : Nat) : Option (List RV) :=
  match lkp h b with
  | some (.cells l _ _ _) => some l
  | some (.lent l _) => some l
  | _ => none
noncomputable def elLoad (P : Program) (g : Cfg) (h : RH) (ty : TypeId) (a : RV) : Option RV :=
  match a, quiet P (isAgg ty), quiet P (sizeOf ty) with
  | .el b i s, some agg, some sz => match Nat.beq (cellsN agg sz) s, rowOf h b with
    | true, some l => match nlook g.N l i with
      | some r => match Nat.beq r.length s with | true => loadAs agg r | false => none
      | none => none
    | _, _ => none
  | _, _, _ => none
noncomputable def mLoad (P : Program) (g : Cfg) (h : RH) (ty : TypeId) (a : RV) : Option Eff :=
  match loadOp P g.ro h ty a with
  | some v => some (.same v)
  | none => (elLoad P g h ty a).map .same
noncomputable def evL (t : List RV) (l : Array Operand) : List RV := l.toList.map (ev t)
noncomputable def evP (t : List RV) (l : Array (Nat × Operand)) : List (Nat × RV) := l.toList.map fun p => (p.1, ev t p.2)
noncomputable def mUn (g : Cfg) (op : UnOp) (x : RV) : Option Eff :=
  match op with
  | .not => match mNot x with | some e => some e | none => symNot g x
  | _ => none
noncomputable def mCall (P : Program) (g : Cfg) (h : RH) (t : List RV) (c : Call) : Option Eff :=
  match c.callee with
  | .builtin b => builtinOp P g h b c.argTypes (evL t c.args)
  | .value f => callOp P g h (ev t f) (evL t c.args)
  | _ => none

structure OpC where
  f : List RV → RH → Option Eff
noncomputable def memC (P : Program) (g : Cfg) (op : Op) : OpC :=
  match op with
  | .move x => ⟨fun t _ => some (.same (ev t x))⟩
  | .assign x => ⟨fun t _ => some (.same (ev t x))⟩
  | .pick c a b => ⟨fun t _ => mPick (ev t c) (ev t a) (ev t b)⟩
  | .alloc e => ⟨fun _ h => mAlloc P e h⟩
  | .box e x => ⟨fun t h => mBox e (ev t x) h⟩
  | .build ty ps => ⟨fun t _ => (buildOp P ty (evP t ps)).map .val⟩
  | .buildSlice ty n ps => ⟨fun t h => buildSliceOp P h ty n (evP t ps)⟩
  | .load ty a => ⟨fun t h => mLoad P g h ty (ev t a)⟩
  | .store ty a x => ⟨fun t h => storeOp P h ty (ev t a) (ev t x)⟩
  | .nilCheck x => ⟨fun t _ => mNil (ev t x)⟩
  | .binOp op ty x y _ => ⟨fun t _ => mBinS P g op ty (ev t x) (ev t y)⟩
  | .unOp op _ x => ⟨fun t _ => mUn g op (ev t x)⟩
  | .convert s d x => ⟨fun t h => mConv P g h s d (ev t x)⟩
  | .makeFunc f a b => ⟨fun t _ => some (.val (.fn f (evL t a) (evL t b)))⟩
  | .makeSlice ty l c => ⟨fun t h => makeSliceOp P h ty (ev t l) (ev t c)⟩
  | .slice ty x lo hi mx => ⟨fun t h => mSlice P h ty (ev t x) (lo.map (ev t)) (hi.map (ev t)) (mx.map (ev t))⟩
  | .index ty x i => ⟨fun t _ => mIndex P g ty (ev t x) (ev t i)⟩
  | .fieldAddr s x f => ⟨fun t _ => (fieldAddrOp P s (ev t x) f).map .val⟩
  | .field s x f => ⟨fun t _ => (fieldOp P s (ev t x) f).map .val⟩
  | .indexAddr ty x i => ⟨fun t _ => mIndexAddr P g ty (ev t x) (ev t i)⟩
  | .range ty x => ⟨fun t h => rangeOp P h ty (ev t x)⟩
  | .next x s => ⟨fun t h => nextOp h (ev t x) s⟩
  | .extract x i => ⟨fun t _ => mExtract (ev t x) i⟩
  | .call c => ⟨fun t h => mCall P g h t c⟩
  | _ => ⟨fun _ _ => none⟩

def isP : Op → Bool
  | .move _ | .assign _ | .pick _ _ _ | .build _ _ | .nilCheck _ | .binOp _ _ _ _ _ | .unOp _ _ _ | .makeFunc _ _ _ | .index _ _ _ | .fieldAddr _ _ _ | .field _ _ _ | .indexAddr _ _ _ | .extract _ _ => true
  | _ => false
def isL : Op → Bool
  | .load _ _ => true
  | _ => false
noncomputable def noCall (op : Op) (r : Option Eff) : Option Eff :=
  match r with
  | some (.call f args) => match isP op || isL op with
    | true => none
    | false => some (.call f args)
  | r => r
noncomputable def orElse (P : Program) (o : Oper) (t : List RV) (r : Option Eff) : Option Eff :=
  match r with
  | some e => some e
  | none => noCall o.op (pureOp P o t)

structure St where
  t : List RV
  h : RH
  deriving Inhabited

inductive Ex where
  | normal
  | exit (id : Nat)
  | ret
  deriving Inhabited, DecidableEq

abbrev CallF := FuncId → List RV → RH → Option (RV × RH)

def yieldedR (ops : Array Oper) (t : List RV) (j : Nat) : Option Bool :=
  match ((ops[j]?).bind (·.dst)).bind (t[·]?) with
  | some (.pl (.bool b)) => some b
  | _ => none

/-- Is what a guard looks at a name? -/
def symAt (ops : Array Oper) (t : List RV) (j : Nat) : Bool :=
  match ((ops[j]?).bind (·.dst)).bind (t[·]?) with
  | some (.sym _ _) => true
  | _ => false

/-- The block numbers of a heap that is laid behind another one. -/
def shiftA (k : Nat) : RV → RV
  | .ptr b o => .ptr (b + k) o
  | .sl b o n s c => .sl (b + k) o n s c
  | r => r
def shiftable : RV → Bool
  | .pl _ => true
  | .sym _ _ => true
  | .ptr _ _ => true
  | .sl _ _ _ _ _ => true
  | _ => false
def shiftB (k : Nat) : RV → RV
  | .fn f a c => .fn f (a.map (shiftA k)) (c.map (shiftA k))
  | .agg l => .agg (l.map (shiftA k))
  | .tup l => .tup (l.map (shiftA k))
  | r => shiftA k r
def shiftableB : RV → Bool
  | .fn _ a c => a.all shiftable && c.all shiftable
  | .agg l => l.all shiftable
  | .tup l => l.all shiftable
  | r => shiftable r
def shiftO (k : Nat) : Option RO → Option RO
  | some (.cells l e r f) => some (.cells (l.map (shiftB k)) e r f)
  | o => o
def shiftableO : Option RO → Bool
  | some (.cells l _ _ _) => l.all shiftableB
  | some (.lent _ _) => false
  | _ => true
/-- A call with plain arguments, run on a heap of its own. -/
noncomputable def isoCall (g : Cfg) (C : CallF) (f : FuncId) (args : List RV) (h : RH) : Option (RV × RH) :=
  match plains args with
  | some vs =>
    match g.X f vs with
    | some v => some (.pl v, h)
    | none =>
      match g.F f vs with
      | some q => some (.sl h.length 0 q.n q.s none, h ++ [some (.cells (q.l.map .pl) q.e true false)])
      | none =>
      match C f args [] with
      | some (.pl v, _) => some (.pl v, h)
      | some (r, h2) => if shiftableB r && h2.all shiftableO then some (shiftB h.length r, h ++ h2.map (shiftO h.length)) else none
      | none => none
  | none => match args.all flat with
    | true => match g.Y f args with
      | some r => if flat r then some (r, h) else none
      | none => match C f args [] with
        | some (r, h2) => match flat r with
          | true => some (r, h)
          | false => if shiftableB r && h2.all shiftableO then some (shiftB h.length r, h ++ h2.map (shiftO h.length)) else none
        | none => none
    | false => none
noncomputable def deepSeg (n s e : Nat) (c : Option (List RV)) : Option (List RV) :=
  match c with
  | some cs => match cs.all flat0 with
    | true => some (.pl (.int .i64 n) :: .pl (.int .i64 s) :: .pl (.int .i64 e) :: cs)
    | false => none
  | none => none
/-- What an argument comes to, slices with what they hold. -/
noncomputable def deepArg (h : RH) (r : RV) : Option (List RV) :=
  match r with
  | .sl b 0 n s none => match lkp h b with
    | some (.cells l e _ _) => deepSeg n s e (seg l 0 (n * s))
    | some (.lent l e) => deepSeg n s e (seg l 0 (n * s))
    | _ => none
  | r => match flat r with
    | true => some [r]
    | false => none
noncomputable def deepArgs (h : RH) (l : List RV) : Option (List (List RV)) :=
  List.rec (motive := fun _ => Option (List (List RV))) (some []) (fun r _ ih => match deepArg h r with
    | some d => match ih with | some ds => some (d :: ds) | none => none
    | none => none) l
noncomputable def lentCall (g : Cfg) (f : FuncId) (args : List RV) (h : RH) : Option RV :=
  match deepArgs h args with
  | some ds => match g.L f ds with
    | some r => match flat r with | true => some r | false => none
    | none => none
  | none => none
noncomputable def doCall (g : Cfg) (C : CallF) (f : FuncId) (args : List RV) (h : RH) : Option (RV × RH) :=
  match isoCall g C f args h with
  | some r => some r
  | none => match lentCall g f args h with
    | some r => some (r, h)
    | none => C f args h

noncomputable def putS (t : List RV) (h : RH) (d : Option Tmp) (v : RV) : Option St :=
  match d with
  | some d => fRV v fun v => setL t d v fun t => some ⟨t, h⟩
  | none => some ⟨t, h⟩

noncomputable def putF (t : List RV) (h : RH) (d : Option Tmp) (v : RV) : Option St :=
  match d with
  | some d => setL t d v fun t => some ⟨t, h⟩
  | none => some ⟨t, h⟩

noncomputable def sSet (t : List RV) (h : RH) (d : Option Tmp) (v : RV) (b : Nat) (ob : RO) : Option St :=
  fRO (some ob) fun ob => fNat b fun b => setL h b ob fun h => putS t h d v
noncomputable def sNew (t : List RV) (h : RH) (d : Option Tmp) (v : RV) (ob : RO) : Option St :=
  fRO (some ob) fun ob => fSpine (h ++ [ob]) fun h => putS t h d v
noncomputable def sMove (t : List RV) (h : RH) (d : Option Tmp) (v : RV) (b : Nat) (ob : RO) : Option St :=
  fRO (some ob) fun ob => fNat b fun b => setL h b none fun h => fSpine (h ++ [ob]) fun h => putS t h d v
noncomputable def sCall (g : Cfg) (C : CallF) (t : List RV) (h : RH) (d : Option Tmp) (f : FuncId) (args : List RV) : Option St :=
  match doCall g C f args h with
  | some (v, h) => fRV v fun v => fList fRO h fun h => putF t h d v
  | none => none
noncomputable def app (g : Cfg) (C : CallF) (t : List RV) (h : RH) (d : Option Tmp) (e : Option Eff) : Option St :=
  match e with
  | some (.val v) => putS t h d v
  | some (.same v) => putF t h d v
  | some (.setB v b ob) => sSet t h d v b ob
  | some (.newB v ob) => sNew t h d v ob
  | some (.moveB v b ob) => sMove t h d v b ob
  | some (.call f args) => sCall g C t h d f args
  | none => none
structure StC where
  f : List RV → RH → Option St
noncomputable def guarded (g : Cfg) (C : CallF) (ops : Array Oper) (j : Nat) (want : Bool) (d : Option Tmp) (t : List RV) (h : RH) (r : Option Eff) : Option St :=
  match symAt ops t j with
  | true => none
  | false => if yieldedR ops t j == some want then app g C t h d r else putS t h d (.pl undef)
noncomputable def stepC (P : Program) (g : Cfg) (C : CallF) (ops : Array Oper) (o : Oper) : StC :=
  match memC P g o.op, o.guard, o.dst with
  | ⟨f⟩, none, some d => ⟨fun t h => app g C t h (some d) (orElse P o t (f t h))⟩
  | ⟨f⟩, none, none => ⟨fun t h => app g C t h none (orElse P o t (f t h))⟩
  | ⟨f⟩, some (j, want), d => ⟨fun t h => guarded g C ops j want d t h (orElse P o t (f t h))⟩
noncomputable def stepW (P : Program) (g : Cfg) (C : CallF) (ops : Array Oper) (o : Oper) (s : St) : Option St :=
  match stepC P g C ops o with
  | ⟨f⟩ => match s with
    | ⟨t, h⟩ => f t h

noncomputable def runOps (P : Program) (g : Cfg) (C : CallF) (ops : Array Oper) (l : List Oper) : St → Option St :=
  List.rec (motive := fun _ => St → Option St) (fun s => some s) (fun o _ ih s => match stepW P g C ops o s with
    | some s' => ih s'
    | none => none) l

/-! A region whose order the tape draws. -/
def quietable : Op → Bool
  | .slice _ _ _ _ _ | .convert _ _ _ | .call _ | .load _ _ => true
  | op => isP op

noncomputable def doCallQ (g : Cfg) (C : CallF) (f : FuncId) (args : List RV) : Option RV :=
  match plains args with
  | some vs =>
    match g.X f vs with
    | some v => some (.pl v)
    | none =>
      match C f args [] with
      | some (.pl v, _) => some (.pl v)
      | _ => none
  | none => match args.all flat with
    | true => match g.Y f args with
      | some r => if flat r then some r else none
      | none => match C f args [] with
        | some (r, _) => if flat r then some r else none
        | none => none
    | false => none

noncomputable def appQ (g : Cfg) (C : CallF) (t : List RV) (h : RH) (d : Option Tmp) (e : Option Eff) : Option St :=
  match e with
  | some (.val v) => putS t h d v
  | some (.same v) => putF t h d v
  | some (.call f args) =>
    match doCallQ g C f args with
    | some v => putF t h d v
    | none => none
  | _ => none
noncomputable def effR (P : Program) (g : Cfg) (o : Oper) (t : List RV) (h : RH) : Option Eff :=
  match memC P g o.op with
  | ⟨f⟩ => orElse P o t (f t h)
noncomputable def guardQ (P : Program) (g : Cfg) (C : CallF) (ops : Array Oper) (o : Oper) (j : Nat) (want : Bool) (t : List RV) (h : RH) : Option St :=
  match symAt ops t j with
  | true => none
  | false => if yieldedR ops t j == some want then appQ g C t h o.dst (effR P g o t h) else putS t h o.dst (.pl undef)
noncomputable def stepQ (P : Program) (g : Cfg) (C : CallF) (ops : Array Oper) (o : Oper) (s : St) : Option St :=
  match s, o.guard with
  | ⟨t, h⟩, none => appQ g C t h o.dst (effR P g o t h)
  | ⟨t, h⟩, some (j, want) => guardQ P g C ops o j want t h
noncomputable def runQ (P : Program) (g : Cfg) (C : CallF) (ops : Array Oper) (l : List Oper) : St → Option St :=
  List.rec (motive := fun _ => St → Option St) (fun s => some s) (fun o _ ih s => match stepQ P g C ops o s with
    | some s' => ih s'
    | none => none) l

def sameA (u v : Value) : Bool :=
  match u, v with
  | .bool a, .bool b => a == b
  | .int k a, .int k' b => k == k' && a == b
  | .string a, .string b => a.data.toList == b.data.toList
  | .pointer none, .pointer none => true
  | .pointer (some ⟨b, o, none⟩), .pointer (some ⟨b', o', none⟩) => b == b' && o == o'
  | .slice none n c, .slice none n' c' => n == n' && c == c'
  | .nilFunc, .nilFunc => true
  | .nilIface, .nilIface => true
  | .func (.func f) a b, .func (.func f') a' b' => f == f' && a.toList.isEmpty && a'.toList.isEmpty && b.toList.isEmpty && b'.toList.isEmpty
  | _, _ => false
def sameL {α : Type} (f : α → α → Bool) : List α → List α → Bool
  | [], [] => true
  | x :: l, y :: m => f x y && sameL f l m
  | _, _ => false
def sameV1 (u v : Value) : Bool :=
  match u, v with
  | .agg a, .agg b => sameL sameA a.toList b.toList
  | u, v => sameA u v
def sameV (u v : Value) : Bool :=
  match u, v with
  | .tuple a, .tuple b => sameL sameV1 a.toList b.toList
  | u, v => sameV1 u v
def sameR0 (x y : RV) : Bool :=
  match x, y with
  | .pl u, .pl v => sameV u v
  | .sym k i, .sym k' j => k == k' && i == j
  | .el b i s, .el b' j s' => b == b' && i == j && s == s'
  | .ptr b o, .ptr b' o' => b == b' && o == o'
  | .sl b o n s c, .sl b' o' n' s' c' => b == b' && o == o' && n == n' && s == s' && c == c'
  | _, _ => false
def sameR1 (x y : RV) : Bool :=
  match x, y with
  | .fn (.func f) a c, .fn (.func f') a' c' => f == f' && sameL sameR0 a a' && sameL sameR0 c c'
  | .agg l, .agg m => sameL sameR0 l m
  | x, y => sameR0 x y
def sameR (x y : RV) : Bool :=
  match x, y with
  | .tup l, .tup m => sameL sameR1 l m
  | x, y => sameR1 x y
def sameO (x y : Option RO) : Bool :=
  match x, y with
  | none, none => true
  | some (.cells l e r f), some (.cells l' e' r' f') => sameL sameR l l' && e == e' && r == r' && f == f'
  | some (.lent l e), some (.lent l' e') => sameL sameR l l' && e == e'
  | some (.iter s p), some (.iter s' p') => s.data.toList == s'.data.toList && p == p'
  | _, _ => false
def sameSt (x y : St) : Bool := sameL sameR x.t y.t && sameL sameO x.h y.h

def isC : Op → Bool
  | .call ⟨.value (.func _), _, _⟩ => true
  | _ => false
/-- May operation i come first: all that has not come, and does not wait for it, keeps to itself. 'others': what a load may precede. -/
def firstOK (others : Op → Bool) (ops : Array Oper) (listed : Array Bool) (i : Nat) : Bool :=
  match ops[i]? with
  | none => false
  | some oi => Region.free .any ops listed i && (isP oi.op || (isL oi.op && (List.range ops.size).all fun j => j == i || listed.getD j true || match ops[j]? with
      | some oj => oj.after.any (fun e => Region.binds .any e && e.on == i) || others oj.op
      | none => true))
def plain2 (op : Op) : Bool := isP op || isL op
def plain3 (op : Op) : Bool := isP op || isL op || isC op
noncomputable def stepAt (P : Program) (g : Cfg) (C : CallF) (ops : Array Oper) (s : St) (i : Nat) : Option St :=
  match ops[i]? with
  | some o => stepW P g C ops o s
  | none => none
/-- The same, where a load is a load and a call has plain arguments. -/
noncomputable def strictOK (P : Program) (g : Cfg) (C : CallF) (o : Oper) (t : List RV) (h : RH) : Bool :=
  match isL o.op with
  | true => match memC P g o.op with
    | ⟨f⟩ => (f t h).isSome
  | false => match isC o.op with
    | true => match effR P g o t h with
      | some (.call f args) => (isoCall g C f args h).isSome
      | _ => false
    | false => true
noncomputable def stepAtS (P : Program) (g : Cfg) (C : CallF) (ops : Array Oper) (s : St) (i : Nat) : Option St :=
  match ops[i]? with
  | some o => match o.guard with
    | none => match strictOK P g C o s.t s.h with
      | true => stepW P g C ops o s
      | false => none
    | some _ => none
  | none => none
noncomputable def branches (f : Nat → Option St) (l : List Nat) : Option St :=
  List.rec (motive := fun _ => Option St) none (fun i l ih => match l with
    | [] => f i
    | _ :: _ => match f i with
      | some s => match ih with
        | some s' => if sameSt s s' then some s else none
        | none => none
      | none => none) l
noncomputable def thenS (ih : Array Bool → St → Option St) (listed : Array Bool) (r : Option St) : Option St :=
  match r with
  | some s => ih listed s
  | none => none
noncomputable def anyStep (F : St → Nat → Option St) (first : Array Bool → Nat → Bool) (ih : Array Bool → St → Option St) (listed : Array Bool) (s : St) (r : List Nat) : Option St :=
  match r.find? (first listed) with
  | some i => thenS ih (listed.setIfInBounds i true) (F s i)
  | none => branches (fun i => thenS ih (listed.setIfInBounds i true) (F s i)) r
noncomputable def anyB (F : St → Nat → Option St) (first : Array Bool → Nat → Bool) (ops : Array Oper) (n : Nat) : Array Bool → St → Option St :=
  Nat.rec (motive := fun _ => Array Bool → St → Option St) (fun listed s => match Region.ready .any ops listed with | [] => some s | _ :: _ => none)
    (fun _ ih listed s => match Region.ready .any ops listed with
      | [] => some s
      | i :: r => anyStep F first ih listed s (i :: r)) n

noncomputable def runB (P : Program) (g : Cfg) (C : CallF) (ops : Array Oper) (s : St) : Option St :=
  match ops.toList.all (fun o => plain3 o.op) with
  | true => anyB (stepAtS P g C ops) (firstOK plain3 ops) ops ops.size (Array.replicate ops.size false) s
  | false => anyB (stepAt P g C ops) (firstOK plain2 ops) ops ops.size (Array.replicate ops.size false) s
noncomputable def runD (P : Program) (g : Cfg) (C : CallF) (ops : Array Oper) (s : St) : Option St :=
  match ops.toList.all (fun o => quietable o.op) && Region.lexB .any ops with
  | true => match runQ P g C ops ops.toList s with
    | some s' => some s'
    | none => runB P g C ops s
  | false => runB P g C ops s

abbrev ExF := Code → St → Option (Ex × St)
noncomputable def xDraw (P : Program) (g : Cfg) (C : CallF) (ops : Array Oper) (s : St) : Option (Ex × St) :=
  match runD P g C ops s with
  | some s' => some (.normal, s')
  | none => none
noncomputable def xRegion (P : Program) (g : Cfg) (C : CallF) (ops : Array Oper) (s : St) : Option (Ex × St) :=
  match runOps P g C ops ops.toList s with
  | some s' => some (.normal, s')
  | none => none
noncomputable def xSeq (ih : ExF) (b : Code) (r : Option (Ex × St)) : Option (Ex × St) :=
  match r with
  | some (.normal, s') => ih b s'
  | r => r
noncomputable def xCond (g : Cfg) (ih : ExF) (a b : Code) (s : St) (r : RV) : Option (Ex × St) :=
  match r with
  | .pl (.bool q) => ih (if q then a else b) s
  | .sym .bool i => match tlook g.T .truth (.sym .bool i) (.sym .bool i) with
    | some (.pl (.bool q)) => ih (if q then a else b) s
    | _ => none
  | _ => none
noncomputable def xBlock (id : Nat) (r : Option (Ex × St)) : Option (Ex × St) :=
  match r with
  | some (.exit i, s') => if i = id then some (.normal, s') else some (.exit i, s')
  | r => r
structure ExC where
  f : ExF → St → Option (Ex × St)
noncomputable def xC (P : Program) (g : Cfg) (C : CallF) (c : Code) : ExC :=
  match c with
  | .skip => ⟨fun _ s => some (.normal, s)⟩
  | .label _ => ⟨fun _ s => some (.normal, s)⟩
  | .region _ ops false => ⟨fun _ s => xRegion P g C ops s⟩
  | .region _ ops true => ⟨fun _ s => xDraw P g C ops s⟩
  | .seq a b => ⟨fun ih s => xSeq ih b (ih a s)⟩
  | .cond x a b => ⟨fun ih s => xCond g ih a b s (ev s.t x)⟩
  | .block id b => ⟨fun ih s => xBlock id (ih b s)⟩
  | .loop b => ⟨fun ih s => xSeq ih (.loop b) (ih b s)⟩
  | .scope b => ⟨fun ih s => ih b s⟩
  | .exit id => ⟨fun _ s => some (.exit id, s)⟩
  | .ret => ⟨fun _ s => some (.ret, s)⟩
  | _ => ⟨fun _ _ => none⟩
noncomputable def xStep (P : Program) (g : Cfg) (C : CallF) (ih : ExF) (c : Code) (s : St) : Option (Ex × St) :=
  match xC P g C c with
  | ⟨f⟩ => f ih s
noncomputable def exec (P : Program) (g : Cfg) (C : CallF) (n : Nat) : ExF :=
  Nat.rec (motive := fun _ => ExF) (fun _ _ => none) (fun _ ih c s => xStep P g C ih c s) n

noncomputable def resultR (P : Program) (g : Cfg) (s : St) : ResultVar → Option RV
  | .tmp t => some (s.t.getD t (.pl undef))
  | .cell a ty => loadOp P g.ro s.h ty (s.t.getD a (.pl undef))

noncomputable def resultsR (P : Program) (g : Cfg) (s : St) (rs : List ResultVar) : Option (List RV) :=
  match rs with
  | [] => some []
  | r :: l => match resultR P g s r, resultsR P g s l with
    | some v, some vs => some (v :: vs)
    | _, _ => none

noncomputable def cDone (P : Program) (g : Cfg) (fn : Func) (r : Option (Ex × St)) : Option (RV × RH) :=
  match r with
  | some (.exit _, _) => none
  | some (_, s) =>
    match resultsR P g s fn.results.toList with
    | some [v] => fRV v fun v => some (v, s.h)
    | some vs => fRV (mkTup vs) fun v => some (v, s.h)
    | none => none
  | none => none
noncomputable def cBody (P : Program) (g : Cfg) (m : Nat) (C : CallF) (fn : Func) (c : Code) (args : List RV) (h : RH) : Option (RV × RH) :=
  fSpine (args ++ List.replicate (fn.ntmps - args.length) (.pl undef)) fun t => cDone P g fn (exec P g C m c ⟨t, h⟩)
noncomputable def cFn (P : Program) (g : Cfg) (m : Nat) (C : CallF) (fn : Func) (args : List RV) (h : RH) : Option (RV × RH) :=
  match fn.body with
  | some c => fList fRV args fun args => cBody P g m C fn c args h
  | none => none
noncomputable def cStep (P : Program) (g : Cfg) (m : Nat) (C : CallF) (f : FuncId) (args : List RV) (h : RH) : Option (RV × RH) :=
  match P.funcs[f]? with
  | some fn => cFn P g m C fn args h
  | none => none
noncomputable def call (P : Program) (g : Cfg) (m n : Nat) : CallF :=
  Nat.rec (motive := fun _ => CallF) (fun _ _ _ => none) (fun _ ih f args h => cStep P g m ih f args h) n

end Go.Ri
