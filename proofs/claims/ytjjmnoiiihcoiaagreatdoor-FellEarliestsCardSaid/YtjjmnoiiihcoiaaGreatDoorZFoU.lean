/- A part of the proofs that the laws of layer four answer true for every input. -/
import Derived.Test.YtjjmnoiiihcoiaaGreatDoorZFoR
namespace Go.Proofs.Z
open Go Go.RowKit Go.Proofs Go.Ri
/-! What sane calls of the package over its fell, the gates by a list's name: runs. -/
noncomputable def uLX : List LEE := [⟨7, 999, [lI 0, lI 1, lI 100, lI 200]⟩, ⟨7, 998, [lI 1, lI 2, lI 150, lI 160]⟩, ⟨7, 997, [lI 1, lI 2, lI 300, lI 20]⟩, ⟨7, 996, [lI 2, lI 3, lI 5, lI 5]⟩]
noncomputable def uT : List TE := [⟨.inb, sI 999, lI 4, bR true⟩, ⟨.inb, sI 998, lI 4, bR true⟩, ⟨.inb, sI 997, lI 4, bR true⟩, ⟨.inb, sI 996, lI 4, bR true⟩]
noncomputable def uTb : Tb := { X := libX, F := libF, T := qT ++ uT, LQ := qLQ, LL := ⟨7, 4, lI 4⟩ :: qLL, LX := uLX ++ qLX, LA := qLA, LP := qLP, IZ := [(999, 0), (998, 1), (997, 2), (996, 3)] }
noncomputable def gA : RV := .agg [lI 4, .slN 0 7 4]
abbrev fOpenGates : Nat := 24
abbrev fReach : Nat := 34
abbrev fEarliest : Nat := 36
abbrev fPath : Nat := 38
abbrev fMeeting : Nat := 43
noncomputable def eOpenGates : QE := ⟨fOpenGates, [gA, lI 150], .tup [.sl 0 0 2 1 none, lI 0], [some (.cells [lI 0, lI 1] 3 true false)]⟩
noncomputable def eReach : QE := ⟨fReach, [gA, lI 0, lI 0, lI 150], .tup [.sl 0 0 3 1 none, lI 0], [some (.cells [lI 0, lI 1, lI 2] 3 true false)]⟩
noncomputable def eEarliest : QE := ⟨fEarliest, [gA, lI 0, lI 2, lI 170], .pl (.tuple #[.int .i64 300, .bool true, .int .i64 0]), []⟩
noncomputable def ePath : QE := ⟨fPath, [gA, lI 0, lI 2, lI 0], .tup [.sl 0 0 2 2 none, bR true, lI 0], [some (.cells [lI 100, lI 0, lI 150, lI 1] 73 true false)]⟩
noncomputable def eMeeting : QE := ⟨fMeeting, [gA, lI 0, lI 2, lI 0, lI 120], .pl (.tuple #[.int .i64 100, .int .i64 0, .bool true, .int .i64 0]), []⟩
noncomputable def uE : List QE := [eOpenGates, eReach, eEarliest, ePath, eMeeting]
noncomputable def uRun (e : QE) (R : List Nat) : Bool := doneQ uTb [true, true, true, true] e.f e.a [] R e.r e.h
set_option maxRecDepth 100000 in
theorem openGates_run : uRun eOpenGates [8] = true := by kernel_rfl
set_option maxRecDepth 100000 in
theorem reach_run : uRun eReach [9] = true := by kernel_rfl
set_option maxRecDepth 100000 in
theorem earliest_run : uRun eEarliest [] = true := by kernel_rfl
set_option maxRecDepth 100000 in
theorem meeting_run : uRun eMeeting [] = true := by kernel_rfl
end Go.Proofs.Z
