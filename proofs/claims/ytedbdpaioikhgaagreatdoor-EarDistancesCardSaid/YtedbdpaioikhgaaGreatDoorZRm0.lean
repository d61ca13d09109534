/- A part of the proofs that the laws of layer one answer true for every input. -/
import Derived.Test.YtedbdpaioikhgaaGreatDoorZRn2
namespace Go.Proofs.Z
open Go Go.RowKit Go.Proofs Go.Ri W
/-! The specification's Neighbours: runs. -/
noncomputable def rearS (k v : Nat) : List RV := setR nbE k (if Nat.blt k 9 then lI v else bR (!(Nat.beq v 0)))
noncomputable def rpat (k : Nat) (nl : Bool) : St := ⟨patW [(1, .ptr 0 0), (4, if nl then nilR else .slN 1 1 12), (5, lI k)] 38 0, some (.cells nbE 25 false false) :: (if nl then [] else [some (.lst 1 25 true)])⟩
noncomputable def rStart : Tb := { Y := [⟨fValid, [.agg nbE], bR true⟩] }
def rIds : List SE := idI [0, 1, 2, 3, 4, 5, 6, 7, 8, 20, 21, 22, 23, 24, 25, 26, 27, 28, 29, 30, 31] ++ idB [0, 1, 2]
set_option maxRecDepth 100000 in
theorem r_enter : enterT rStart [] fRNeigh [.agg nbE] rIds [0] (rpat 0 true) = true := by kernel_rfl
noncomputable def rY (k p m : Nat) : List YE := ⟨fGet, [.agg nbE, lI k], sI (20 + k)⟩ :: ((nbV.rngN5 (vc k)).filter (fun v => !(Nat.beq v p))).map fun v => ⟨fValid, [.agg (rearS k v)], bR (nbit m v)⟩
noncomputable def rCh (k : Nat) : List Nat → Nat → List QE
  | [], _ => []
  | v :: vs, i => ⟨fPut, [.slN 0 i 12, .agg (rearS k v)], .slN 0 (i + 1) 12, [some (.lst (i + 1) 25 true)]⟩ :: rCh k vs (i + 1)
/-- The first one put behind nothing stands for list 2. -/
noncomputable def rD (k : Nat) : List Nat → List (Nat × List RV)
  | [] => []
  | v :: _ => [(2, rearS k v)]
noncomputable def rTb (k p m : Nat) (nl : Bool) : Tb := { T := (nbV.rngN5 (vc k)).map fun (v : Nat) => ⟨.ieq, lI v, sI (20 + k), bR (Nat.beq v p)⟩, Y := rY k p m, U := qdU (if nl then rD k (nbV k p m) else []) (rCh k (nbV k p m) 1) }
def rIdx (p m : Nat) : Bool → List Nat → Nat → Nat → Nat
  | _, [], _, i => i
  | f, v :: vs, n, i => if !(Nat.beq v p) && nbit m v then (if f then rIdx p m false vs (n + 4) (n + 3) else rIdx p m false vs (n + 2) (n + 1)) else rIdx p m f vs (n + 1) i
noncomputable def rSE (k p m : Nat) (nl : Bool) : List SE := (if nl then (match nbV k p m with | [] => [] | [v] => [.new 1 (rearS k v)] | l => [.lst 1 (1 + l.length)]) else [.lst 1 (1 + (nbV k p m).length)]) ++ rIds
def rR (k p m : Nat) (nl : Bool) : List Nat := 0 :: (if nl && (nbV k p m).isEmpty then [] else [rIdx p m nl (nbV.rngN5 (vc k)) (if nl then 1 else 2) 1])
noncomputable def rAgain (k p m : Nat) (nl : Bool) : Bool := againT (rTb k p m nl) [true] (hB rStart [] fRNeigh [.agg nbE]) (hK rStart [] fRNeigh [.agg nbE]) (rpat k nl) (rSE k p m nl) (rR k p m nl) (rpat (k + 1) (nl && (nbV k p m).isEmpty))
noncomputable def rOne (k p m : Nat) : Bool := match Nat.blt p (vc k) && Nat.blt m (2 ^ vc k) && !(nbit m p) with
  | true => all2 fun nl => rAgain k p m nl
  | false => true
set_option maxRecDepth 100000 in
theorem r_bad : doneQ { Y := [⟨fValid, [.agg nbE], bR false⟩] } [] fRNeigh [.agg nbE] [] [] (.pl (.tuple #[.slice none 0 0, .int .i64 10])) [] = true := by kernel_rfl
set_option maxRecDepth 100000 in
theorem r_out : outQ {} [] fRNeigh (hB rStart [] fRNeigh [.agg nbE]) (hK rStart [] fRNeigh [.agg nbE]) (rpat 12 false) [.lst 0 1] [1] (.tup [.slN 0 0 12, lI 0]) [some (.lst 0 25 true)] = true := by kernel_rfl
set_option maxRecDepth 100000 in
theorem put_nil : doneQ {} [true, true] fPut [nilR, .agg nbE] [.new 0 nbE] [2] (.slN 0 0 12) [some (.lst 0 25 true)] = true := by kernel_rfl
end Go.Proofs.Z
