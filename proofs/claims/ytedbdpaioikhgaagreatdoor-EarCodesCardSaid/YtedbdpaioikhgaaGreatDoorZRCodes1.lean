/- A part of the proofs that the laws of layer one answer true for every input. -/
import Derived.Test.YtedbdpaioikhgaaGreatDoorZRCodes
namespace Go.Proofs.Z
open Go Go.RowKit Go.Proofs Go.Ri
/-- The cells of the list of edges. -/
noncomputable def flatL (l : List (List Int)) : List RV := List.rec (motive := fun _ => List RV) [] (fun x _ ih => lI (nthI x 0) :: lI (nthI x 1) :: lI (nthI x 2) :: lI (nthI x 3) :: ih) l
noncomputable def edgesD (s : Nat) : List RV := lI (numE s) :: lI 4 :: lI 22 :: flatL (edgesOf s)
noncomputable def rankRun (s k : Nat) : Bool := runOKD noX noF [] [] [] 100000 20 fRank [edgesD s, [litE (edgeAt s k)]] (lI k)
set_option maxRecDepth 100000 in
theorem rank3 : allN (rankRun 3) 19 = true := by kernel_rfl
set_option maxRecDepth 100000 in
theorem rank4 : allN (rankRun 4) 40 = true := by kernel_rfl
theorem cvF_litE [Val] (x : Nat → Int) : cvF (litE x) = edgeF x := rfl
theorem rank_ans [Val] (s : Nat) (hs : s = 3 ∨ s = 4) (k : Nat) (hk : k < numE s) (r : RV) (hr : cvF r = edgeF (edgeAt s k)) : AnsD fRank ([edgesD s, [r]].map fun d => d.map cvF) (intV k) := by
  have h : rankRun s k = true := by
    rcases hs with rfl | rfl
    · exact allN_lt rank3 k hk
    · exact allN_lt rank4 k hk
  have t := ansD noX_true noF_true (T := []) (Y := []) (L := []) (by intro e he; cases he) (by intro e he; cases he) (by intro e he; cases he) h
  simp only [List.map_cons, List.map_nil, hr] at t ⊢
  exact t
end Go.Proofs.Z
