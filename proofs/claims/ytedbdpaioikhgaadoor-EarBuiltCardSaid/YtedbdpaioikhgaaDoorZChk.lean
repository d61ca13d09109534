/- A part of the proofs that the laws of layer one answer true for every input. -/
import Derived.Test.YtedbdpaioikhgaaDoorZSnd3
import Derived.Test.YtedbdpaioikhgaaDoorZSnd4
namespace Go.Proofs.Z
open Go Go.RowKit Go.Proofs Go.Ri
/-! Ears and edges as values. -/
def edgeF (x : Nat → Int) : Value := .agg #[.int .i64 (x 0), .int .i64 (x 1), .int .i64 (x 2), .int .i64 (x 3)]
def earF (x : Nat → Int) (y : Nat → Bool) : Value := .agg #[.int .i64 (x 0), .int .i64 (x 1), .int .i64 (x 2), .int .i64 (x 3), .int .i64 (x 4), .int .i64 (x 5), .int .i64 (x 6), .int .i64 (x 7), .int .i64 (x 8), .bool (y 0), .bool (y 1), .bool (y 2)]
def markF (x : Nat → Int) (y : Nat → Bool) (x' : Nat → Int) (y' : Nat → Bool) : Value := .agg #[.int .i64 (x 0), .int .i64 (x 1), .int .i64 (x 2), .int .i64 (x 3), .int .i64 (x 4), .int .i64 (x 5), .int .i64 (x 6), .int .i64 (x 7), .int .i64 (x 8), .bool (y 0), .bool (y 1), .bool (y 2),
  .int .i64 (x' 0), .int .i64 (x' 1), .int .i64 (x' 2), .int .i64 (x' 3), .int .i64 (x' 4), .int .i64 (x' 5), .int .i64 (x' 6), .int .i64 (x' 7), .int .i64 (x' 8), .bool (y' 0), .bool (y' 1), .bool (y' 2)]
def intV (n : Int) : Value := .int .i64 n
def sB (i : Nat) : RV := .sym .bool i
def edgeL (k : Nat) : List RV := [sI k, sI (k + 1), sI (k + 2), sI (k + 3)]
def edgeR (k : Nat) : RV := .agg [sI k, sI (k + 1), sI (k + 2), sI (k + 3)]
def earR (k : Nat) : RV := .agg [sI k, sI (k + 1), sI (k + 2), sI (k + 3), sI (k + 4), sI (k + 5), sI (k + 6), sI (k + 7), sI (k + 8), sB k, sB (k + 1), sB (k + 2)]
def markR (k j : Nat) : RV := .agg [sI k, sI (k + 1), sI (k + 2), sI (k + 3), sI (k + 4), sI (k + 5), sI (k + 6), sI (k + 7), sI (k + 8), sB k, sB (k + 1), sB (k + 2),
  sI j, sI (j + 1), sI (j + 2), sI (j + 3), sI (j + 4), sI (j + 5), sI (j + 6), sI (j + 7), sI (j + 8), sB j, sB (j + 1), sB (j + 2)]
def sh {α : Type} (k : Nat) (x : Nat → α) : Nat → α := fun i => x (k + i)
/-- Names for whole numbers and truth values. -/
abbrev VE (x : Nat → Int) (y : Nat → Bool) : Val := ⟨x, y, fun _ => ⟨#[]⟩, fun _ => ⟨.int .i64 0, rfl⟩, fun _ => [], fun _ => undef⟩
/-- Two families of names: from k on the second. -/
def two {α : Type} (k : Nat) (x x' : Nat → α) : Nat → α := fun i => if i < k then x i else x' (i - k)

def pc (x : Nat → Int) : Nat → Nat
  | 0 => 0
  | i + 1 => cls (x i)
def sndI (s : Nat) (x : Nat → Int) (i : Nat) : Int := if badC s i (pc x i) (cls (x i)) then 0 else x i
theorem keep_cv [Val] (b : Bool) (i : Nat) : cv (keep b i) = .int .i64 (if b then 0 else Val.I i) := by
  cases b <;> rfl
theorem sound_ans (s : Nat) (hs : s = 3 ∨ s = 4) (x : Nat → Int) : Ans fSound [edgeF x, .int .i64 s] (edgeF (sndI s x)) := by
  have h : soundRun s (cls (x 0)) (cls (x 1)) (cls (x 2)) (cls (x 3)) = true := by
    rcases hs with rfl | rfl
    · exact allB_lt (allB_lt (allB_lt (allB_lt snd3 _ (cls_lt (x 0))) _ (cls_lt (x 1))) _ (cls_lt (x 2))) _ (cls_lt (x 3))
    · exact allB_lt (allB_lt (allB_lt (allB_lt snd4 _ (cls_lt (x 0))) _ (cls_lt (x 1))) _ (cls_lt (x 2))) _ (cls_lt (x 3))
  have := @ans (VE x fun _ => false) noX _ [] noX_true (by
    intro e he
    simp only [List.mem_append] at he
    rcases he with he | he | he | he
    · exact @entC_true (VE x fun _ => false) 0 e he
    · exact @entC_true (VE x fun _ => false) 1 e he
    · exact @entC_true (VE x fun _ => false) 2 e he
    · exact @entC_true (VE x fun _ => false) 3 e he) (by intro e he; cases he) _ _ _ _ _ h
  have e : @cvF (VE x fun _ => false) (.agg [keep (badC s 0 0 (cls (x 0))) 0, keep (badC s 1 (cls (x 0)) (cls (x 1))) 1, keep (badC s 2 (cls (x 1)) (cls (x 2))) 2, keep (badC s 3 (cls (x 2)) (cls (x 3))) 3]) = edgeF (sndI s x) := by
    show Value.agg _ = Value.agg _
    simp only [List.map_cons, List.map_nil, keep_cv]
    rfl
  rw [e] at this
  exact this

/-- An edge that its classes allow: this program's way of telling. -/
def okC (s c0 c1 c2 c3 : Nat) : Bool := (Nat.beq c0 0 || !badC s 0 0 c0) && (Nat.beq c1 0 || !badC s 1 c0 c1) && (Nat.beq c2 0 || !badC s 2 c1 c2) && (Nat.beq c3 0 || !badC s 3 c2 c3)
theorem snd_eq (s : Nat) (x : Nat → Int) (i : Nat) : (x i == sndI s x i) = (Nat.beq (cls (x i)) 0 || !badC s i (pc x i) (cls (x i))) := by
  unfold sndI
  rw [cls0]
  cases badC s i (pc x i) (cls (x i)) <;> simp
end Go.Proofs.Z
