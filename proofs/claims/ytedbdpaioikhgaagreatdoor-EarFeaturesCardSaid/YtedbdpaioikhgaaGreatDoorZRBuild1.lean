/- A part of the proofs that the laws of layer one answer true for every input. -/
import Derived.Test.YtedbdpaioikhgaaGreatDoorZBuild2
import Derived.Test.YtedbdpaioikhgaaGreatDoorZRFeat
namespace Go.Proofs.Z
open Go Go.RowKit Go.Proofs Go.Ri
/-! Place and Build of the specification: runs. -/
noncomputable def plcRun (p v : Nat) : Bool := match Nat.ble 1 v && Nat.blt v (vc p) with
  | true => runOK noX [] [] 4000 10 fPlace [.agg (litR p v)] (lI p)
  | false => true
set_option maxRecDepth 100000 in
theorem plc_run : (allU 12 fun p => allU 5 fun v => plcRun p v) = true := by kernel_rfl
noncomputable def plcBad (j : Nat) (up zd : Bool) : Bool := runOK noX (bcT 0 (bc j) up ++ [⟨.ieq, sI 3, lI 0, bR zd⟩]) [] 4000 10 fPlace [.agg (bcR 0 (bc j))] (lI (-1))
set_option maxRecDepth 100000 in
theorem plc_bad : (allU 20 fun j => all2 fun up => all2 fun zd => plcBad j up zd) = true := by kernel_rfl
theorem plc_good (p v : Nat) (hp : p < 12) (h1 : 1 ≤ v) (h2 : v < vc p) : Ans fPlace [.agg (featC p v).toArray] (intV p) := by
  have h := allU_lt (allU_lt plc_run p hp) v (vc5 h2)
  unfold plcRun at h
  rw [show (Nat.ble 1 v && Nat.blt v (vc p)) = true by rw [Nat.ble_eq_true_of_le h1, blt_of h2]; rfl] at h
  have := @ans V0 noX _ [] noX_true (by intro e he; cases he) (by intro e he; cases he) _ _ _ _ _ h
  rw [show [RV.agg (litR p v)].map (@cvF V0) = [.agg (featC p v).toArray] by
    show [Value.agg ((litR p v).map (@cv V0)).toArray] = _
    rw [litR_cv]] at this
  exact this
theorem plc_none (a b c d : Int) (j : Nat) (hj : j < 20) (hq : isBC (bc j) a b c d) : Ans fPlace [f4 a b c d] (intV (-1)) := by
  let V := VE (row4F a b c d) fun _ => false
  obtain ⟨h1, h2⟩ := bc_args V 0 (bc j) a b c d hq rfl rfl rfl rfl
  have hT := @bcT_true V 0 (bc j) (bc_lh j hj) (by rw [Nat.zero_add] at h2 ⊢; rw [h2]; exact hq.2.2)
  have hT2 : ∀ e ∈ bcT 0 (bc j) (decide ((bc j).lo ≤ V.I (0 + (bc j).pre.length))) ++ [⟨.ieq, sI 3, lI 0, bR (d == 0)⟩], @TETrue V e := by
    intro e he
    rcases List.mem_append.1 he with he | he
    · exact hT e he
    · simp only [List.mem_cons, List.not_mem_nil, or_false] at he
      subst he
      exact ⟨rfl, t_ieq .i64 d 0⟩
  have := @ans V noX _ [] noX_true hT2 (by intro e he; cases he) _ _ _ _ _ (all2_all (all2_all (allU_lt plc_bad j hj) _) _)
  rw [h1] at this
  exact this
def earL20 : List RV := [sI 20, sI 21, sI 22, sI 23, sI 24, sI 25, sI 26, sI 27, sI 28, sB 0, sB 1, sB 2]
noncomputable def rbpat (_ : Unit) : St := ⟨patW [(0, .slA 0 0 4), (5, sI 0), (2, .ptr 1 0), (3, lI 0), (4, .ptr 2 0)] 39 0,
  [some (.lstA 0), some (.cells (zEL.map .pl) 25 false false), some (.cells earL20 25 false false)]⟩
def zT (p : Nat) (z : Bool) : TE := if p < 9 then ⟨.ieq, sI (20 + p), lI 0, bR z⟩ else ⟨.truth, sB (p - 9), sB (p - 9), bR (!z)⟩
noncomputable def rbGood (p v : Nat) (z : Bool) : Tb := { LL := [⟨0, 4, sI 1⟩], T := zT p z :: bBase true, LX := [⟨0, 0, litR p v⟩], Y := [⟨fPlace, [.agg (litR p v)], lI p⟩] }
noncomputable def rbBad : Tb := { LL := [⟨0, 4, sI 1⟩], T := bBase true, LX := [⟨0, 0, cell4⟩], Y := [⟨fPlace, [.agg cell4], lI (-1)⟩] }
noncomputable def rbEnd (ok : Bool) : Tb := { LL := [⟨0, 4, sI 1⟩], T := bBase false, Y := [⟨fValid, [.agg earL20], bR ok⟩] }
def rbSet (p v : Nat) : List SE := if p < 9 then .int (20 + p) (lI v) :: (idB [0, 1, 2] ++ idI ([20, 21, 22, 23, 24, 25, 26, 27, 28].filter fun j => !(Nat.beq j (20 + p)))) else .bool (p - 9) (bR true) :: (idI [20, 21, 22, 23, 24, 25, 26, 27, 28] ++ idB ([0, 1, 2].filter fun j => !(Nat.beq j (p - 9))))
def rbIds (p v : Nat) : List SE := .int 0 (sI 6) :: .int 1 (sI 1) :: .lst 0 0 :: rbSet p v
def rbSIds : List SE := .int 0 (lI 0) :: .int 1 (sI 1) :: .lst 0 0 :: ([20, 21, 22, 23, 24, 25, 26, 27, 28].map (fun j => .int j (lI 0)) ++ [0, 1, 2].map fun j => .bool j (bR false))
set_option maxRecDepth 100000 in
theorem rb_enter : enterT bStart [] fRBuild bds rbSIds [0, 1, 2] (rbpat ()) = true := by kernel_rfl
noncomputable def rbAgain (p v : Nat) : Bool := match Nat.ble 1 v && Nat.blt v (vc p) with
  | true => againT (rbGood p v true) [] (hB bStart [] fRBuild bds) (hK bStart [] fRBuild bds) (rbpat ()) (rbIds p v) [0, 1, 2] (rbpat ())
  | false => true
noncomputable def rbTwice (p v : Nat) : Bool := match Nat.ble 1 v && Nat.blt v (vc p) with
  | true => outF (rbGood p v false) [] fRBuild (hB bStart [] fRBuild bds) (hK bStart [] fRBuild bds) (rbpat ()) (errR 11)
  | false => true
set_option maxRecDepth 100000 in
theorem rb_again : (allU 12 fun p => allU 5 fun v => rbAgain p v) = true := by kernel_rfl
set_option maxRecDepth 100000 in
theorem rb_twice : (allU 12 fun p => allU 5 fun v => rbTwice p v) = true := by kernel_rfl
set_option maxRecDepth 100000 in
theorem rb_bad : outF rbBad [] fRBuild (hB bStart [] fRBuild bds) (hK bStart [] fRBuild bds) (rbpat ()) (errR 11) = true := by kernel_rfl
noncomputable def rbOut (ok : Bool) : Bool := outF (rbEnd ok) [] fRBuild (hB bStart [] fRBuild bds) (hK bStart [] fRBuild bds) (rbpat ()) (if ok then .tup [.agg earL20, lI 0] else errR 10)
set_option maxRecDepth 100000 in
theorem rb_out : (all2 rbOut) = true := by kernel_rfl
end Go.Proofs.Z
