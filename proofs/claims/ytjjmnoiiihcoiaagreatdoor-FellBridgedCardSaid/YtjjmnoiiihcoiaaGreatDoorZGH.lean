/- A part of the proofs that the laws of layer four answer true for every input. -/
import Derived.Test.YtjjmnoiiihcoiaaGreatDoorZGD
namespace Go.Proofs.Z
open Go Go.RowKit Go.Proofs Go.Ri Go.Proofs.Z.Fa
/-! Open gates: runs. -/
abbrev fList : Nat := 71
def tupN (e : Int) : RV := .pl (.tuple #[.slice none 0 0, .int .i64 e])
/-! OpenGates of package fell -/
def gateQ : RV := .agg [sI 3, sI 4, sI 5, sI 6]
/-! on -/
/-! list -/
def bLL : List LNE := [⟨0, 1, sI 1⟩]
/-! ints, of two slices that hold one list -/
noncomputable def inE : Tb := { LL := bLL }
/-! OpenGates of the specification -/
/-! Open -/
/-! YearDay -/
end Go.Proofs.Z

namespace Go.Proofs.Z
open Go Go.RowKit Go.Proofs Go.Ri Go.Proofs.Z.Fa
/-! Open gates: contracts. -/
/-! OpenOn -/
theorem fell_nval1 {V V' : Val} {w : World} {v : Value} (h0 : V.I 0 = V'.I 0) (hi : V.L 0 = V'.L 0) (h : @Go.Ri.NVal V w fellR v) : @Go.Ri.NVal V' w fellR v := by
  cases fell_nval h0 hi (.cons h .nil : All2 (@Go.Ri.NVal V w) [fellR] [v]) with
  | cons h1 _ => exact h1
/-- A named list in a world. -/
theorem lst_nval {V V' : Val} {w : World} {v : Value} {i j s : Nat} (hi : V.L i = V'.L j) (h : @Go.Ri.NVal V w (.slN 0 i s) v) : @Go.Ri.NVal V' w (.slN 0 j s) v := by
  obtain ⟨a, m, cap, k1, k2, k3, k4, k5, k6⟩ := h
  rw [hi] at k2 k4 k6
  exact ⟨a, m, cap, k1, k2, k3, k4, k5, k6⟩
def odP (l : List Value) (d : Int) (k : Nat) : Bool := openM (gtF l k) (gtT l k) d
def ogC (k : Nat) : List Value := [.int .i64 k]
theorem ogC_len (k : Nat) : (ogC k).length = 1 := rfl
theorem ogC_one (k : Nat) : ∀ u, u ∈ ogC k → u.oneCell' = true := fa rfl fz
/-- The names in a loop that gathers. -/
def hnm (G : Int) (l : List Value) (n k : Nat) (x : Nat → Int) (y : Nat → Bool) (p : Nat → Bool) (cells : Nat → List Value) : Nm := gnm G l n k x y (fun i => if i = 9 then gl p cells k else if i = 10 then gl p cells (k + 1) else [])
noncomputable def ogAns (e : Int) (ne : Bool) : RV × RH := if e = 0 then (if ne then (.tup [.slN 0 9 1, lI 0], [some (.lst 9 tInt true)]) else (tupN 0, [])) else (tupN e, [])
section
variable (V : Val) {G : Int} {l : List Value} {n : Nat} {d : Int}
end
end Go.Proofs.Z

namespace Go.Proofs.Z
open Go Go.RowKit Go.Proofs Go.Ri Go.Proofs.Z.Fa
/-! list, ints, OpenGates of the specification. -/
theorem hT_gen (V : Val) {n k : Nat} (h1 : V.I 1 = n) (h2 : V.I 2 = k) (h7 : V.I 7 = k + 1) (hk : k ≤ 1000000000) {b : Bool} (hb : decide (k < n) = b) : ∀ e, e ∈ hT b → @TETrue V e := by
  letI := V
  refine fa (f_lss (k := .i64) (m := V.I 2) (n := V.I 1) rfl rfl ?_) (fa ⟨rfl, .i64, .i64, V.I 2, V.I 1, rfl, rfl, ?_⟩ (fa ?_ fz))
  · rw [h1, h2, ← hb]; exact decide_eq_decide.2 (by omega)
  · rw [h1, h2, ← hb]
    exact congrArg Value.bool (decide_eq_decide.2 (by omega))
  · exact f_add1 (m := V.I 2) rfl (show Value.int .i64 (V.I 7) = Value.int .i64 (V.I 2 + 1) by rw [h7, h2]) rfl (by omega) (by omega)
/-! ints -/
/-! OpenGates of the specification -/
section
variable (V : Val) {G : Int} {l : List Value} {n : Nat} {d : Int}
end
end Go.Proofs.Z

namespace Go.Proofs.Z
open Go Go.RowKit Go.Proofs Go.Ri Go.Proofs.Z.Fa
/-! Open, YearDay, Check of the specification: contracts; FellDays. -/
def saneX (f : FuncId) (vs : List Value) : Option Value := match Nat.beq f fSane with
  | true => match vs with
    | [] => some (.bool true)
    | _ => none
  | false => none
theorem saneX_true : XTrue saneX := by
  intro f vs v h
  unfold saneX at h
  split at h
  · rename_i hf
    split at h
    · obtain rfl := Nat.eq_of_beq_eq_true hf
      cases h
      exact sane_ans
    · cases h
  · cases h
/-! Check of the specification -/
section
variable (V : Val) {G : Int} {l : List Value} {n : Nat} {d : Int}
end
/-! YearDay -/
/-! Open -/
section
variable (V : Val) {G : Int} {l : List Value} {n : Nat} {g d : Int}
end
end Go.Proofs.Z
