/- A part of the proofs that the laws of layer four answer true for every input. -/
import Derived.Test.YtjjmnoiiihcoiaaGreatDoorZNM
import Derived.Test.YtjjmnoiiihcoiaaGreatDoorZGY
import Derived.Test.YtjjmnoiiihcoiaaGreatDoorZGH
import Derived.Lib.TrailingZeros
import Derived.Test.YtjjmnoiiihcoiaaGreatDoorZLG
namespace Go.Proofs.Z
open Go Go.RowKit Go.Proofs Go.Ri Go.Proofs.Z.Fa
/-! The law FellMenger, where there is a lane. -/
/-- What is known of the lanes T (each Ln j), of the gates of those before (Us j), and of the shut gates S. -/
structure Men (l : List Value) (n a b K : Nat) (T : List Value) (Ln Us : Nat → List Nat) (S : List Nat) : Prop where
  get : ∀ j, j < K → T[j]? = some (.agg (intsL (Ln j)).toArray)
  tl : T.length = K
  lead : ∀ j, j < K → LeadsL (gA' l) (gB' l) n (usP l) a (Ln j) b
  ll : ∀ j, j < K → (Ln j).length ≤ n
  ne : ∀ j, j < K → 0 < (Ln j).length
  us0 : Us 0 = []
  us : ∀ j, Us (j + 1) = Us j ++ Ln j
  ul : ∀ j, j ≤ K → (Us j).length ≤ j * n
  fresh : ∀ j, j < K → ∀ k, k < (Ln j).length → (Ln j).getD k 0 ∉ Us j ++ (Ln j).take k
  sl : S.length = K
  sn : ∀ x, x ∈ S → x < n
  kn : K ≤ n
  k1 : 1 ≤ K
  no : (clS (wiL l S) n (usP (wiL l S)) (2 ^ a)).testBit b = false
  yes : ∀ i, i < K → (clS (wiL l (S.take i ++ S.drop (i + 1))) n (usP (wiL l (S.take i ++ S.drop (i + 1)))) (2 ^ a)).testBit b = true
section
variable {G : Int} {l : List Value} {n a b K : Nat} {T : List Value} {Ln Us : Nat → List Nat} {S : List Nat}
end
end Go.Proofs.Z
