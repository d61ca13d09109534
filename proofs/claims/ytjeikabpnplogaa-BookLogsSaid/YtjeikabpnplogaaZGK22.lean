/- A part of the proofs that the laws of layer eight answer true for every input. -/
import Derived.Test.YtjeikabpnplogaaZGN
namespace Go.Proofs.Z
open Go Go.RowKit Go.Proofs Go.Ri Go.Proofs.Z.Fa
/-! The law BookLogs: runs. -/
set_option maxRecDepth 100000 in
theorem bl_dir00 : (allU 3 fun l => allU 2 fun m => doneQ (blA (wlpR 1) (soP 1) l m 41 (lI 0) []) [] fBookLogs (blD (wlpR 1) (lI 0) (sI 632)) [] [] (bR true) []) = true := by kernel_rfl
set_option maxRecDepth 100000 in
theorem bl_ent00 : (allU 3 fun l => atH (entN (blA (wlpR 1) (soP 1) l 2 41 (lI 0) []) [] fBookLogs (blD (wlpR 1) (lI 0) (sI 632))) fBookLogs 0 (blS l (lI 0) [.lst 50 41]) (blR l [blB l + 1]) (blP l true)) = true := by kernel_rfl
end Go.Proofs.Z

namespace Go.Proofs.Z
open Go Go.RowKit Go.Proofs Go.Ri Go.Proofs.Z.Fa
/-! The law BookLogs: runs. -/
set_option maxRecDepth 100000 in
theorem bl_dir10 : (allU 3 fun l => allU 2 fun m => doneQ (blA (wlpR 2) (soP 2) l m 41 (lI 0) []) [] fBookLogs (blD (wlpR 2) (lI 0) (sI 632)) [] [] (bR true) []) = true := by kernel_rfl
set_option maxRecDepth 100000 in
theorem bl_ent10 : (allU 3 fun l => atH (entN (blA (wlpR 2) (soP 2) l 2 41 (lI 0) []) [] fBookLogs (blD (wlpR 2) (lI 0) (sI 632))) fBookLogs 0 (blS l (lI 0) [.lst 50 41]) (blR l [blB l + 1]) (blP l true)) = true := by kernel_rfl
end Go.Proofs.Z

namespace Go.Proofs.Z
open Go Go.RowKit Go.Proofs Go.Ri Go.Proofs.Z.Fa
/-! The law BookLogs: runs. -/
set_option maxRecDepth 100000 in
theorem bl_dir11 : (allU 3 fun l => allU 2 fun m => doneQ (blA (wlpR 2) (soP 2) l m 42 (lI 1) []) [] fBookLogs (blD (wlpR 2) (lI 1) (sI 632)) [] [] (bR true) []) = true := by kernel_rfl
set_option maxRecDepth 100000 in
theorem bl_ent11 : (allU 3 fun l => atH (entN (blA (wlpR 2) (soP 2) l 2 42 (lI 1) []) [] fBookLogs (blD (wlpR 2) (lI 1) (sI 632))) fBookLogs 0 (blS l (lI 1) [.lst 50 42]) (blR l [blB l + 2]) (blP l true)) = true := by kernel_rfl
end Go.Proofs.Z

namespace Go.Proofs.Z
open Go Go.RowKit Go.Proofs Go.Ri Go.Proofs.Z.Fa
/-! The law BookLogs: runs. -/
set_option maxRecDepth 100000 in
theorem bl_dir20 : (allU 3 fun l => allU 2 fun m => doneQ (blA (wlpR 3) (soP 3) l m 41 (lI 0) []) [] fBookLogs (blD (wlpR 3) (lI 0) (sI 632)) [] [] (bR true) []) = true := by kernel_rfl
set_option maxRecDepth 100000 in
theorem bl_ent20 : (allU 3 fun l => atH (entN (blA (wlpR 3) (soP 3) l 2 41 (lI 0) []) [] fBookLogs (blD (wlpR 3) (lI 0) (sI 632))) fBookLogs 0 (blS l (lI 0) [.lst 50 41]) (blR l [blB l + 1]) (blP l true)) = true := by kernel_rfl
end Go.Proofs.Z

namespace Go.Proofs.Z
open Go Go.RowKit Go.Proofs Go.Ri Go.Proofs.Z.Fa
/-! The law BookLogs: runs. -/
set_option maxRecDepth 100000 in
theorem bl_dir21 : (allU 3 fun l => allU 2 fun m => doneQ (blA (wlpR 3) (soP 3) l m 42 (lI 1) []) [] fBookLogs (blD (wlpR 3) (lI 1) (sI 632)) [] [] (bR true) []) = true := by kernel_rfl
set_option maxRecDepth 100000 in
theorem bl_ent21 : (allU 3 fun l => atH (entN (blA (wlpR 3) (soP 3) l 2 42 (lI 1) []) [] fBookLogs (blD (wlpR 3) (lI 1) (sI 632))) fBookLogs 0 (blS l (lI 1) [.lst 50 42]) (blR l [blB l + 2]) (blP l true)) = true := by kernel_rfl
end Go.Proofs.Z

namespace Go.Proofs.Z
open Go Go.RowKit Go.Proofs Go.Ri Go.Proofs.Z.Fa
/-! The law BookLogs: runs. -/
set_option maxRecDepth 100000 in
theorem bl_dir22 : (allU 3 fun l => allU 2 fun m => doneQ (blA (wlpR 3) (soP 3) l m 43 (lI 2) []) [] fBookLogs (blD (wlpR 3) (lI 2) (sI 632)) [] [] (bR true) []) = true := by kernel_rfl
set_option maxRecDepth 100000 in
theorem bl_ent22 : (allU 3 fun l => atH (entN (blA (wlpR 3) (soP 3) l 2 43 (lI 2) []) [] fBookLogs (blD (wlpR 3) (lI 2) (sI 632))) fBookLogs 0 (blS l (lI 2) [.lst 50 43]) (blR l [blB l + 3]) (blP l true)) = true := by kernel_rfl
end Go.Proofs.Z
