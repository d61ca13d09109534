/- A part of the proofs that the laws of layer one answer true for every input. -/
import Derived.Test.YtedbdpaioikhgaaDoorZEarOf
import Derived.Test.YtedbdpaioikhgaaDoorZBuild2
namespace Go.Proofs.Z
open Go Go.RowKit Go.Proofs Go.Ri
/-! Neighbours of package ear: the list before it is sorted. -/
noncomputable def setR (l : List RV) (n : Nat) (v : RV) : List RV := List.rec (motive := fun _ => Nat → List RV) (fun _ => []) (fun x l ih n => Nat.rec (motive := fun _ => List RV) (v :: l) (fun m _ => x :: ih m) n) l n
def row20 : List RV := [sI 20, sI 21, sI 22, sI 23, sI 24, sI 25, sI 26, sI 27, sI 28, sI 29, sI 30, sI 31]
def ear20 : List RV := [sI 20, sI 21, sI 22, sI 23, sI 24, sI 25, sI 26, sI 27, sI 28, sB 20, sB 21, sB 22]
def nbE : List RV := [sI 0, sI 1, sI 2, sI 3, sI 4, sI 5, sI 6, sI 7, sI 8, sB 0, sB 1, sB 2]
/-- The row, and the ear, with place k turned to v. -/
noncomputable def rowS (k v : Nat) : List RV := setR row20 k (lI v)
noncomputable def earS (k v : Nat) : List RV := setR ear20 k (if Nat.blt k 9 then lI v else bR (!(Nat.beq v 0)))
noncomputable def npat (k : Nat) (nl : Bool) : St := ⟨patW [(1, .ptr 0 0), (5, if nl then nilR else .slN 1 1 12), (16, shapeR 20), (17, lI k)] 50 0,
  some (.cells nbE 25 false false) :: (if nl then [] else [some (.lst 1 25 true)])⟩
noncomputable def nbStart : Tb := { Y := [⟨fCheck, [earR 0], lI 0⟩, ⟨fShapeOf, [earR 0], shapeR 20⟩] }
def nbIds : List SE := idI [0, 1, 2, 3, 4, 5, 6, 7, 8, 20, 21, 22, 23, 24, 25, 26, 27, 28, 29, 30, 31] ++ idB [0, 1, 2]
set_option maxRecDepth 100000 in
theorem nb_enter : enterT nbStart [] fNeigh [earR 0] nbIds [0] (npat 0 true) = true := by kernel_rfl
def nbit (m v : Nat) : Bool := Nat.beq ((m / 2 ^ v) % 2) 1
/-- The values that make neighbours: p the present one, m which ears are valid. -/
def nbV (k p m : Nat) : List Nat := (rngN5 (vc k)).filter fun v => !(Nat.beq v p) && nbit m v
  where rngN5 : Nat → List Nat
    | 0 => []
    | n + 1 => rngN5 n ++ [n]
noncomputable def nbY (k p m : Nat) : List YE := ⟨fShapeOf, [earR 0], shapeR 20⟩ :: ((nbV.rngN5 (vc k)).filter (fun v => !(Nat.beq v p))).flatMap fun v => [⟨fEar, [.agg (rowS k v)], .agg (earS k v)⟩, ⟨fCheck, [.agg (earS k v)], lI (if nbit m v then 0 else 10)⟩]
noncomputable def laCh (k : Nat) : List Nat → Nat → List LAE
  | [], _ => []
  | v :: vs, i => ⟨i, earS k v, i + 1⟩ :: laCh k vs (i + 1)
noncomputable def nbTb (k p m : Nat) : Tb := { T := (nbV.rngN5 (vc k)).map fun (v : Nat) => ⟨.ieq, lI v, sI (20 + k), bR (Nat.beq v p)⟩, Y := nbY k p m, LA := laCh k (nbV k p m) 1 }
def nbIdx (k p m : Nat) : List Nat → Nat → Nat → Nat
  | [], _, i => i
  | v :: vs, n, i => if !(Nat.beq v p) && nbit m v then nbIdx k p m vs (n + 3) (n + 2) else nbIdx k p m vs (n + 1) i
noncomputable def nbSE (k p m : Nat) (nl : Bool) : List SE := (if nl then (if (nbV k p m).isEmpty then [] else [.new 1 ((nbV k p m).flatMap (earS k))]) else [.lst 1 (1 + (nbV k p m).length)]) ++ nbIds
def nbR (k p m : Nat) (nl : Bool) : List Nat := 0 :: (if nl && (nbV k p m).isEmpty then [] else [nbIdx k p m (nbV.rngN5 (vc k)) (if nl then 1 else 2) 1])
noncomputable def nbAgain (k p m : Nat) (nl : Bool) : Bool := againT (nbTb k p m) [true] (hB nbStart [] fNeigh [earR 0]) (hK nbStart [] fNeigh [earR 0]) (npat k nl) (nbSE k p m nl) (nbR k p m nl) (npat (k + 1) (nl && (nbV k p m).isEmpty))
noncomputable def nbOne (k p m : Nat) : Bool := match Nat.blt p (vc k) && Nat.blt m (2 ^ vc k) && !(nbit m p) with
  | true => all2 fun nl => nbAgain k p m nl
  | false => true
end Go.Proofs.Z
