/- A part of the proofs that the laws of layer four answer true for every input. -/
import Derived.Test.YtjjmnoiiihcoiaaGreatDoorZJB
namespace Go.Proofs.Z
open Go Go.RowKit Go.Proofs Go.Ri Go.Proofs.Z.Fa
/-! onePassMore: runs. -/
def rangeR (k : Nat) : Nat → List RV
  | 0 => []
  | n + 1 => rangeR k n ++ [sI (k + n)]
def m16 : List RV := rangeR 40 16
end Go.Proofs.Z

namespace Go.Proofs.Z
open Go Go.RowKit Go.Proofs Go.Ri Go.Proofs.Z.Fa
/-! onePassMore: its contract. -/
def ivl (f : Nat → Int) : Nat → List Value
  | 0 => []
  | n + 1 => ivl f n ++ [.int .i64 (f n)]
theorem ivl_len (f : Nat → Int) : ∀ n, (ivl f n).length = n
  | 0 => rfl
  | n + 1 => by
    show (ivl f n ++ [_]).length = n + 1
    rw [List.length_append, ivl_len f n]
    rfl
theorem ivl_get (f : Nat → Int) : ∀ n j, j < n → (ivl f n)[j]? = some (.int .i64 (f j))
  | n + 1, j, hj => by
    show (ivl f n ++ [_])[j]? = _
    rcases Nat.lt_or_eq_of_le (Nat.le_of_lt_succ hj) with h | rfl
    · rw [List.getElem?_append_left (by rw [ivl_len]; exact h)]
      exact ivl_get f n j h
    · rw [List.getElem?_append_right (by rw [ivl_len]; exact Nat.le_refl _), ivl_len, Nat.sub_self]
      rfl
theorem ivl_congr {f g : Nat → Int} : ∀ n, (∀ j, j < n → f j = g j) → ivl f n = ivl g n
  | 0, _ => rfl
  | n + 1, h => by
    show ivl f n ++ [_] = ivl g n ++ [_]
    rw [ivl_congr n fun j hj => h j (by omega), h n (by omega)]
theorem ivl_row {f : Nat → Int} {n j : Nat} (hj : j < n) : ((ivl f n).drop (j * 1)).take 1 = [.int .i64 (f j)] := by
  rw [row1 j (by rw [ivl_len]; exact hj), List.getD_eq_getElem?_getD, ivl_get f n j hj]
  rfl
theorem rangeR_cv [Val] (k : Nat) : ∀ n, (rangeR k n).map cv = ivl (fun j => Val.I (k + j)) n
  | 0 => rfl
  | n + 1 => by
    show (rangeR k n ++ [sI (k + n)]).map cv = ivl _ n ++ [_]
    rw [List.map_append, rangeR_cv k n]
    rfl
section
variable {G : Int} {l : List Value} {n k : Nat} {x : Nat → Int} {M s : Nat → Int} {z : Nat → List Value}
end
end Go.Proofs.Z
