/- A part of the proofs that the laws of layer one answer true for every input. -/
import Derived.Test.YtedbdpaioikhgaaGreatDoorZTkN
namespace Go.Proofs.Z.Ps
open Go Go.RowKit Go.Proofs Go.Ri Go.Proofs.Z
/-! ParseMark of package ear: its runs. -/
abbrev fPM : Nat := 54
def zML : List Value := zEL ++ zEL
def zMb : RH := [some (.cells (zML.map .pl) 27 false false)]
/-- ParseMark as the caller, for the near ear. -/
def cM1 : Cx := ⟨zMb, [none, none, none] ++ zEs 1, [], 100, 1, 1, 0⟩
def nearL : List RV := [sI 100, sI 101, sI 102, sI 103, sI 104, sI 105, sI 106, sI 107, sI 108, sB' 100, sB' 101, sB' 102]
def nearK : List SE := [.int 100 (sI 100), .int 101 (sI 101), .int 102 (sI 102), .int 103 (sI 103), .int 104 (sI 104), .int 105 (sI 105), .int 106 (sI 106), .int 107 (sI 107), .int 108 (sI 108), .bool 100 (sB' 100), .bool 101 (sB' 101), .bool 102 (sB' 102)]
/-- For the far ear. -/
def cM2 : Cx := ⟨zMb, [none, none, none, none, none, some (.cells nearL 25 false false), none, none, none, none] ++ zEs 1, nearK, 200, 70, 70, 71⟩
theorem near_ok (A B : Val) (h : KSame A B) : ∀ e, e ∈ nearK → okSE A B e := by
  intro e he
  simp only [nearK, List.mem_cons, List.not_mem_nil, or_false] at he
  rcases he with rfl | rfl | rfl | rfl | rfl | rfl | rfl | rfl | rfl | rfl | rfl | rfl
  all_goals first
    | exact ⟨.i64, _, rfl, (h.1 _ (by omega) (by omega)).symm⟩
    | exact ⟨_, rfl, (h.2 _ (by omega) (by omega)).symm⟩
def wNear : List UInt8 := [110, 101, 97, 114]
def wFar : List UInt8 := [102, 97, 114]
def wColon : List UInt8 := [58]
def wSemi : List UInt8 := [59]
noncomputable def nxM : List NXE := [⟨lI 0, sT 50, sI 50, sI 51⟩, ⟨sI 51, sT 51, sI 52, sI 53⟩, ⟨sI 53, sT 1, sI 1, sI 0⟩, ⟨sI 113, sT 60, sI 60, sI 61⟩, ⟨sI 61, sT 61, sI 62, sI 63⟩, ⟨sI 63, sT 70, sI 70, sI 71⟩]
end Go.Proofs.Z.Ps

namespace Go.Proofs.Z.Ps
open Go Go.RowKit Go.Proofs Go.Ri Go.Proofs.Z
set_option maxRecDepth 100000 in
theorem y1_runs0 : Runs0 cM1 where
  enter := by kernel_rfl
  bad1 := by kernel_rfl
  badH := by kernel_rfl
  badE := by kernel_rfl
  badS := by kernel_rfl
  whole := by kernel_rfl
  keep := by kernel_rfl
  nodup := by kernel_rfl
  kok := fun _ _ _ e he => by cases he
end Go.Proofs.Z.Ps

namespace Go.Proofs.Z.Ps
open Go Go.RowKit Go.Proofs Go.Ri Go.Proofs.Z
set_option maxRecDepth 100000 in
theorem y2_runs0 : Runs0 cM2 where
  enter := by kernel_rfl
  bad1 := by kernel_rfl
  badH := by kernel_rfl
  badE := by kernel_rfl
  badS := by kernel_rfl
  whole := by kernel_rfl
  keep := by kernel_rfl
  nodup := by kernel_rfl
  kok := near_ok
end Go.Proofs.Z.Ps
