/- A part of the proofs that the laws of layer one answer true for every input. -/
import Derived.Test.YtedbdpaioikhgaaGreatDoorZTkL
namespace Go.Proofs.Z.Ps
open Go Go.RowKit Go.Proofs Go.Ri Go.Proofs.Z
/-- ParseWords as the caller. -/
def cW : Cx := ⟨zEs 1, zEs 1, [], 100, 1, 1, 0⟩
set_option maxRecDepth 100000 in
theorem x1_runs0 : Runs0 cW where
  enter := by kernel_rfl
  bad1 := by kernel_rfl
  badH := by kernel_rfl
  badE := by kernel_rfl
  badS := by kernel_rfl
  whole := by kernel_rfl
  keep := by kernel_rfl
  nodup := by kernel_rfl
  kok := fun _ _ _ e he => by cases he
end Go.Proofs.Z.Ps

namespace Go.Proofs.Z.Ps
open Go Go.RowKit Go.Proofs Go.Ri Go.Proofs.Z
open Go.Proofs.Z.W (tfr tto)
/-! ParseWords of package ear: its runs. -/
abbrev fPW : Nat := 50
noncomputable def orU (U1 U2 : CallF) : CallF := fun f args h => match U1 f args h with | some r => some r | none => U2 f args h
theorem orU_ok [Val] {U1 U2 : CallF} (h1 : UOK U1) (h2 : UOK U2) : UOK (orU U1 U2) := by
  intro f args h r h' hu
  unfold orU at hu
  split at hu
  · rename_i r0 hr
    cases hu
    exact h1 f args h r h' hr
  · exact h2 f args h r h' hu
/-- A function without an open loop, to an answer that stands for itself. -/
noncomputable def doneF (t : Tb) (f : FuncId) (ds : List RV) (r0 : RV) : Bool :=
  match Tryz.prog.funcs[f]? with
  | some fn => match stopT t [] f ds with
    | some (.done ex s) => match cDone Tryz.prog (cfgT t) fn (some (ex, s)) with
      | some (r, _) => match flat r with | true => eqTopR r r0 | false => false
      | none => false
    | _ => false
  | none => false
theorem doneF_ok (V : Val) {t : Tb} {f : FuncId} {ds : List RV} {r0 : RV} (ht : @TbOK V t) (h : doneF t f ds r0 = true) : @AnsN V f ds (@cvF V r0) := by
  intro w hr vs hv
  unfold doneF at h
  split at h
  · rename_i fn hf
    split at h
    · rename_i ex s hs
      split at h
      · rename_i r h' hd
        split at h
        · rename_i hfl
          obtain ⟨fn', c, hf', hb, hok, hgo⟩ := stop_fn hs
          rw [hf] at hf'
          cases hf'
          have hX := @xokT V t ht
          have hC := @call_ok V Tryz.prog (cfgT t) hm (cfgT_ok t) hX 4000 14
          refine @callsN_stop V Tryz.prog (cfgT t) (callT t) hm (cfgT_ok t) hC hX f fn c hf hb 4000 4000 [] ds _ hok hgo w hr (ro_pos hr) vs hv _ fun E' a' w' => ?_
          refine fun Sm => ?_
          refine @done_post V Tryz.prog (cfgT t) w.heap.size w fn ex s r h' hd _ E' a' w' Sm fun u hu H => ⟨?_, @HInv.below V _ _ _ _ _ _ H⟩
          rw [← @eqTopR_cv V r r0 h hfl]
          rw [@VRel.fn V E' r u _ hu (@rel_cvF V E' r hfl)]
        · cases h
      · cases h
    · cases h
  · cases h
def earR1 : RV := .agg [sI 100, sI 101, sI 102, sI 103, sI 104, sI 105, sI 106, sI 107, sI 108, sB' 100, sB' 101, sB' 102]
def zER : RV := .pl (.agg zEL.toArray)
noncomputable def nx1 : List NXE := [⟨lI 0, sT 1, sI 1, sI 0⟩]
noncomputable def pwT (big bad : Bool) (tk : Bool) (chk : RV) : Tb :=
  { T := [⟨.len, sT 0, sT 0, sI 90⟩, ⟨.bin .gtr, sI 90, lI 65536, bR big⟩, ⟨.ieq, sI 111, lI 0, bR (!bad)⟩, ⟨.seq, sT 101, lT [], bR tk⟩],
    U := orU (nextU (sT 0) nx1) (ueU [earU cW]), Y := [⟨fCheck, [earR1], chk⟩] }
def pwO (big bad tk ok : Bool) : RV := if big then .tup [zER, lI 0, lI 2] else if bad then .tup [zER, sI 110, sI 111] else if tk then (if ok then .tup [earR1, lI 0, lI 0] else .tup [zER, sI 112, lI 10]) else .tup [zER, sI 112, lI 3]
noncomputable def pwRun (big bad tk ok : Bool) : Bool := doneF (pwT big bad tk (lI (if ok then 0 else 10))) fPW [sT 0] (pwO big bad tk ok)
set_option maxRecDepth 100000 in
theorem pw_run : (all2 fun a => all2 fun b => all2 fun c => all2 fun d => pwRun a b c d) = true := by kernel_rfl
end Go.Proofs.Z.Ps
