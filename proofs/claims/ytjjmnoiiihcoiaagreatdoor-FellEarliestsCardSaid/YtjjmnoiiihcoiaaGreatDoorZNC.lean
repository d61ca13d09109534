/- A part of the proofs that the laws of layer four answer true for every input. -/
import Derived.Test.YtjjmnoiiihcoiaaGreatDoorZGQ
import Derived.Test.YtjjmnoiiihcoiaaGreatDoorZHd
import Derived.Test.YtjjmnoiiihcoiaaGreatDoorZQN
import Derived.Test.YtjjmnoiiihcoiaaGreatDoorZJE
import Derived.Test.YtjjmnoiiihcoiaaGreatDoorZJB
import Derived.Test.YtjjmnoiiihcoiaaGreatDoorZGY
namespace Go.Proofs.Z
/-! Lanes and cuts: flows over gates, in both directions, at most one a gate. -/
section
variable (A B : Nat → Nat)
def ind (p : Bool) : Int := if p then 1 else 0
/-- What leaves v, less what comes to v, by the first k gates. -/
def netF (t : Nat → Int) : Nat → Nat → Int
  | 0, _ => 0
  | k + 1, v => netF t k v + t k * (ind (decide (A k = v)) - ind (decide (B k = v)))
variable {A B}
/-- A flow of k lanes from a to b by the gates of u. -/
structure IsFlow (A B : Nat → Nat) (n : Nat) (u : Nat → Bool) (a b : Nat) (t : Nat → Int) (k : Int) : Prop where
  one : ∀ i, i < n → t i = -1 ∨ t i = 0 ∨ t i = 1
  use : ∀ i, i < n → t i ≠ 0 → u i = true
  net : ∀ v, netF A B t n v = k * (ind (decide (a = v)) - ind (decide (b = v)))
/-- The way of a gate from x: 1 from A to B, -1 from B to A, 0 not at all. -/
def wayF (A B : Nat → Nat) (i x : Nat) : Int := if x = A i then 1 else if x = B i then -1 else 0
/-- The other side of a gate. -/
def othF (A B : Nat → Nat) (i x : Nat) : Nat := if x = A i then B i else A i
/-! One lane more. -/
/-- A tree of ways from a: how each grazing of S was come to. -/
structure Tree (A B : Nat → Nat) (n : Nat) (u : Nat → Bool) (a : Nat) (t : Nat → Int) (S : Nat → Bool) (by_ : Nat → Nat) (r : Nat → Nat) : Prop where
  gate : ∀ y, S y = true → y ≠ a → by_ y < n ∧ u (by_ y) = true ∧ wayF A B (by_ y) y ≠ 0 ∧ t (by_ y) ≠ wayF A B (by_ y) (othF A B (by_ y) y)
  back : ∀ y, S y = true → y ≠ a → S (othF A B (by_ y) y) = true ∧ r (othF A B (by_ y) y) < r y
/-- The way back: y is where it has come to. -/
structure Trace (A B : Nat → Nat) (n : Nat) (u : Nat → Bool) (a b : Nat) (t0 : Nat → Int) (k : Int) (S : Nat → Bool) (by_ r : Nat → Nat) (t : Nat → Int) (y : Nat) : Prop where
  one : ∀ i, i < n → t i = -1 ∨ t i = 0 ∨ t i = 1
  use : ∀ i, i < n → t i ≠ 0 → u i = true
  net : ∀ v, netF A B t n v = k * (ind (decide (a = v)) - ind (decide (b = v))) + (ind (decide (y = v)) - ind (decide (b = v)))
  sy : S y = true
  old : ∀ z, S z = true → z ≠ a → r z ≤ r y → t (by_ z) = t0 (by_ z)
/-! Gates shut one by one. -/
end
end Go.Proofs.Z

namespace Go.Proofs.Z
/-! The search for one lane more: its steps, and what they come to. -/
inductive AS where
  | inn (q x i : Nat) (Q : List Nat) (S : Nat) (bf : Nat → Nat)
  | out (q : Nat) (Q : List Nat) (S : Nat) (bf : Nat → Nat)
  | tr (y : Nat) (t : Nat → Int) (bf : Nat → Nat)
section
variable (A B : Nat → Nat) (n : Nat) (u : Nat → Bool) (a b : Nat) (t0 : Nat → Int)
variable {A B n u a b t0}
variable {k : Nat}
end
end Go.Proofs.Z

namespace Go.Proofs.Z
open Go Go.RowKit Go.Proofs Go.Ri Go.Proofs.Z.Fa
/-! addLane: its contract. -/
theorem f_inb [Val] {a b : RV} {m n : Int} (ha : cv a = .int .i64 m) (hb : cv b = .int .i64 n) (h : 0 ≤ m ∧ m < n) : TETrue ⟨.inb, a, b, bR true⟩ :=
  ⟨rfl, .i64, .i64, m, n, ha, hb, congrArg Value.bool (decide_eq_true h).symm⟩
section
variable {G : Int} {l : List Value} {n a b : Nat} {t0 : Nat → Int}
theorem okLs {V V' : Val} {i j : Nat} (v : List Value) (h1 : V'.L i = v) (h2 : V.L j = v) : okSE V V' (.lst i j) := h1.trans h2.symm
end
end Go.Proofs.Z
