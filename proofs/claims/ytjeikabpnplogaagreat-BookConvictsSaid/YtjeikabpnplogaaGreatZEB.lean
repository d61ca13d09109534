/- A part of the proofs that the laws of layer eight answer true for every input. -/
import Derived.Test.YtjeikabpnplogaaGreatZEC
namespace Go.Proofs.Z
open Go Go.RowKit Go.Proofs Go.Ri Go.Proofs.Z.Fa
/-! Convict and CheckProof of both packages: runs. -/
def entK : List RV := [sI 50, sI 51, sU 0, sT 1] ++ (List.range 16).map fun i => sU (300 + i)
def enfK : List RV := [sI 60, sI 61, sU 1, sT 2] ++ (List.range 16).map fun i => sU (320 + i)
def zenK : List RV := [lI 0, lI 0, lU 0, lT []] ++ (List.range 16).map fun _ => lU 0
def prR (a b : List RV) : RV := .agg (a ++ b)
def pairD : List RV := [stkR, entR, en2R]
def pairS : List SE := entS 300 ++ ([.int 60 (sI 60), .int 61 (sI 61), .int 1 (sU 1), .str 2 (sT 2)] ++ (List.range 16).map fun i => .int (320 + i) (sU (320 + i)))
def dgT2 (q : Bool) : List TE := [⟨.ieq, sI 70, sI 71, bR q⟩]
def dgY (f : Nat) : List YE := [⟨f, [entR], sI 70⟩, ⟨f, [en2R], sI 71⟩]
noncomputable def cvN (e : Int) : Tb := { Y := [⟨fChk, pairD, lI e⟩] }
noncomputable def cvA (q g : Bool) : Tb := { T := dgT2 q ++ [⟨.bin .gtr, sI 72, lI 0, bR g⟩], Y := [⟨fChk, pairD, lI 0⟩] ++ (dgY fDigOf ++ [⟨fCmpE, [entR, en2R], sI 72⟩]) }
def cvR (q g : Bool) : RV := if q then .tup [prR zenK zenK, bR false, lI 0] else if g then .tup [prR enfK entK, bR true, lI 0] else .tup [prR entK enfK, bR true, lI 0]
set_option maxRecDepth 100000 in
theorem cv_no : (doneQ (cvN 81) [] fConv pairD [] [] (.tup [prR zenK zenK, bR false, lI 81]) [] && doneQ (cvN 82) [] fConv pairD [] [] (.tup [prR zenK zenK, bR false, lI 82]) []) = true := by kernel_rfl
set_option maxRecDepth 100000 in
theorem cv_ok : (all2 fun q => all2 fun g => doneQ (cvA q g) [] fConv pairD pairS [] (cvR q g) []) = true := by kernel_rfl
def fiY (a b : Bool) : List YE := ⟨fFits, [stkR, entR], bR a⟩ :: if a then [⟨fFits, [stkR, en2R], bR b⟩] else []
noncomputable def rvN (m : Nat) : Tb := { T := paT m, Y := paY m }
noncomputable def rvF (a b : Bool) : Tb := { T := paT 4, Y := paY 4 ++ fiY a b }
noncomputable def rvA (q g : Bool) : Tb := { T := paT 4 ++ dgT2 q, Y := paY 4 ++ (fiY true true ++ (dgY fRDigest0 ++ [⟨fRLess, [en2R, entR], bR g⟩])) }
set_option maxRecDepth 100000 in
theorem rc_no : (allU 4 fun m => doneQ (rvN m) [] fRConv pairD [] [] (.tup [prR zenK zenK, bR false, lI 81]) []) = true := by kernel_rfl
set_option maxRecDepth 100000 in
theorem rc_f : (doneQ (rvF false false) [] fRConv pairD [] [] (.tup [prR zenK zenK, bR false, lI 82]) [] && doneQ (rvF true false) [] fRConv pairD [] [] (.tup [prR zenK zenK, bR false, lI 82]) []) = true := by kernel_rfl
set_option maxRecDepth 100000 in
theorem rc_ok : (all2 fun q => all2 fun g => doneQ (rvA q g) [] fRConv pairD pairS [] (cvR q g) []) = true := by kernel_rfl
/-! CheckProof. -/
def prD : List RV := [stkR, prR entK enfK]
noncomputable def cpA (e : Int) (g q : Bool) : Tb := { T := dgT2 q ++ [⟨.bin .geq, sI 72, lI 0, bR g⟩], Y := [⟨fChk, pairD, lI e⟩] ++ (dgY fDigOf ++ [⟨fCmpE, [entR, en2R], sI 72⟩]) }
set_option maxRecDepth 100000 in
theorem cp_no : doneQ (cvN 81) [] fChP prD [] [] (lI 81) [] = true := by kernel_rfl
set_option maxRecDepth 100000 in
theorem cp_ok : (all2 fun b => all2 fun g => all2 fun q => doneQ (cpA (fitL b) g q) [] fChP prD [] [] (lI (if g then 81 else if q then 81 else fitL b)) []) = true := by kernel_rfl
noncomputable def rpA (l q : Bool) : Tb := { T := paT 4 ++ dgT2 q, Y := paY 4 ++ (⟨fRLess, [entR, en2R], bR l⟩ :: dgY fRDigest0) }
noncomputable def rpF (a b : Bool) : Tb := { T := paT 4 ++ dgT2 false, Y := paY 4 ++ (⟨fRLess, [entR, en2R], bR true⟩ :: (dgY fRDigest0 ++ fiY a b)) }
set_option maxRecDepth 100000 in
theorem rp_no : (allU 4 fun m => doneQ (rvN m) [] fRChP prD [] [] (lI 81) []) = true := by kernel_rfl
set_option maxRecDepth 100000 in
theorem rp_81 : (doneQ (rpA false false) [] fRChP prD [] [] (lI 81) [] && (doneQ (rpA false true) [] fRChP prD [] [] (lI 81) [] && doneQ (rpA true true) [] fRChP prD [] [] (lI 81) [])) = true := by kernel_rfl
set_option maxRecDepth 100000 in
theorem rp_f : (doneQ (rpF false false) [] fRChP prD [] [] (lI 82) [] && (doneQ (rpF true false) [] fRChP prD [] [] (lI 82) [] && doneQ (rpF true true) [] fRChP prD [] [] (lI 0) [])) = true := by kernel_rfl
end Go.Proofs.Z
