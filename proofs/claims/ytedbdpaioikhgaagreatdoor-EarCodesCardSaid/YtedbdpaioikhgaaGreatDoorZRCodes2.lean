/- A part of the proofs that the laws of layer one answer true for every input. -/
import Derived.Test.YtedbdpaioikhgaaGreatDoorZRCodes1
namespace Go.Proofs.Z
open Go Go.RowKit Go.Proofs Go.Ri
noncomputable def manyHook (vs : List Value) : Option Value :=
  match vs with
  | [.int .i64 n] => match n with
    | .ofNat t => match Nat.ble (Nat.succ t) 5 with
      | true => some (.int .i64 (numT t * numT t * 8 : Nat))
      | false => none
    | _ => none
  | _ => none
noncomputable def rX : FuncId → List Value → Option Value := fun f vs => match Nat.beq f fMany with
  | true => manyHook vs
  | false => manyX f vs
theorem rX_true : XTrue rX := by
  intro f vs v h
  unfold rX at h
  split at h
  · rename_i hf
    obtain rfl := Nat.eq_of_beq_eq_true hf
    unfold manyHook at h
    split at h
    · split at h
      · rename_i t
        split at h
        · rename_i hb
          cases h
          exact many_ans t (Nat.le_of_ble_eq_true hb)
        · cases h
      · cases h
    · cases h
  · exact manyX_true f vs v h
def rcodeTs (t : Nat) : List TE := [⟨.bin .mul, sI 50, lI (numT t), sI 53⟩, ⟨.bin .add, sI 53, sI 51, sI 54⟩, ⟨.bin .mul, sI 54, lI 8, sI 55⟩, ⟨.bin .add, lI (baseT t), sI 55, sI 56⟩,
  ⟨.bin .mul, sI 60, lI 4, sI 63⟩, ⟨.bin .add, sI 56, sI 63, sI 64⟩, ⟨.bin .mul, sI 61, lI 2, sI 65⟩, ⟨.bin .add, sI 64, sI 65, sI 66⟩, ⟨.bin .add, sI 66, sI 62, sI 57⟩]
def rcodeYs (t : Nat) : List YE := [⟨fValid, [earT t 0], bR true⟩, ⟨fBit, [sB 0], sI 60⟩, ⟨fBit, [sB 1], sI 61⟩, ⟨fBit, [sB 2], sI 62⟩]
noncomputable def rcodeLs (t : Nat) : List LE := [⟨fRank, [edgesD (slotsT t), [edgeR 1]], sI 50⟩, ⟨fRank, [edgesD (slotsT t), [edgeR 5]], sI 51⟩]
noncomputable def rcodeRun (t : Nat) : Bool := runOKL rX rF (rcodeTs t) (rcodeYs t) (rcodeLs t) 1000 20 fRCode [earT t 0] (.tup [sI 57, lI 0])
set_option maxRecDepth 100000 in
theorem rcode_run : allN rcodeRun 5 = true := by kernel_rfl
theorem rcode_ans {q : Q} (h : q.ok) : Ans fRCode [q.ear] (.tuple #[intV q.code, intV 0]) := by
  have hb := Q.bound h
  have hv := val_ans q.X q.Y
  rw [Q.val h] at hv
  obtain ⟨q1, q2, q3, q4⟩ := h
  let N := numT q.t
  let W : Nat → Int := fun i => if i < 9 then q.X i else if i = 50 then (q.u : Nat) else if i = 51 then (q.l : Nat) else if i = 53 then (q.u * N : Nat) else if i = 54 then (q.u * N + q.l : Nat) else if i = 55 then ((q.u * N + q.l) * 8 : Nat) else if i = 56 then (baseT q.t + (q.u * N + q.l) * 8 : Nat)
    else if i = 60 then bit (q.Y 0) else if i = 61 then bit (q.Y 1) else if i = 62 then bit (q.Y 2) else if i = 63 then bit (q.Y 0) * 4 else if i = 64 then (baseT q.t + (q.u * N + q.l) * 8 : Nat) + bit (q.Y 0) * 4 else if i = 65 then bit (q.Y 1) * 2
    else if i = 66 then (baseT q.t + (q.u * N + q.l) * 8 : Nat) + bit (q.Y 0) * 4 + bit (q.Y 1) * 2 else (q.code : Nat)
  let V := VE W q.Y
  have hN : N = 19 ∨ N = 40 := numT_two q.t
  have hcode : q.code = baseT q.t + (q.u * N + q.l) * 8 + q.h := rfl
  have hbit : ∀ b, 0 ≤ bit b ∧ bit b ≤ 1 := fun b => by cases b <;> decide
  have hhc := hc_hBit q.h q4
  have hhc : 4 * bit (q.Y 0) + 2 * bit (q.Y 1) + bit (q.Y 2) = (q.h : Nat) := hhc
  have b0 := hbit (q.Y 0)
  have b1 := hbit (q.Y 1)
  have b2 := hbit (q.Y 2)
  have hT : ∀ e ∈ rcodeTs q.t, @TETrue V e := by
    intro e he
    simp only [rcodeTs, List.mem_cons, List.not_mem_nil, or_false] at he
    rcases he with rfl | rfl | rfl | rfl | rfl | rfl | rfl | rfl | rfl
    · exact @te_mul V _ _ _ ((q.u : Nat) : Int) ((N : Nat) : Int) ((q.u * N : Nat) : Int) rfl rfl rfl rfl (by simp) (by unfold inI; omega)
    · exact @te_add V _ _ _ ((q.u * N : Nat) : Int) ((q.l : Nat) : Int) ((q.u * N + q.l : Nat) : Int) rfl rfl rfl rfl (by simp) (by unfold inI; omega)
    · exact @te_mul V _ _ _ ((q.u * N + q.l : Nat) : Int) (8 : Int) (((q.u * N + q.l) * 8 : Nat) : Int) rfl rfl rfl rfl (by simp) (by unfold inI; omega)
    · exact @te_add V _ _ _ ((baseT q.t : Nat) : Int) (((q.u * N + q.l) * 8 : Nat) : Int) ((baseT q.t + (q.u * N + q.l) * 8 : Nat) : Int) rfl rfl rfl rfl (by simp) (by unfold inI; omega)
    · exact @te_mul V _ _ _ (bit (q.Y 0)) 4 (bit (q.Y 0) * 4) rfl rfl rfl rfl rfl (by unfold inI; omega)
    · exact @te_add V _ _ _ ((baseT q.t + (q.u * N + q.l) * 8 : Nat) : Int) (bit (q.Y 0) * 4) ((baseT q.t + (q.u * N + q.l) * 8 : Nat) + bit (q.Y 0) * 4) rfl rfl rfl rfl rfl (by unfold inI; omega)
    · exact @te_mul V _ _ _ (bit (q.Y 1)) 2 (bit (q.Y 1) * 2) rfl rfl rfl rfl rfl (by unfold inI; omega)
    · exact @te_add V _ _ _ ((baseT q.t + (q.u * N + q.l) * 8 : Nat) + bit (q.Y 0) * 4) (bit (q.Y 1) * 2) ((baseT q.t + (q.u * N + q.l) * 8 : Nat) + bit (q.Y 0) * 4 + bit (q.Y 1) * 2) rfl rfl rfl rfl rfl (by unfold inI; omega)
    · exact @te_add V _ _ _ ((baseT q.t + (q.u * N + q.l) * 8 : Nat) + bit (q.Y 0) * 4 + bit (q.Y 1) * 2) (bit (q.Y 2)) ((q.code : Nat) : Int) rfl rfl rfl rfl (by omega) (by unfold inI; omega)
  have hY : ∀ e ∈ rcodeYs q.t, Ans e.f (e.a.map (@cvF V)) (@cvF V e.r) := by
    intro e he
    simp only [rcodeYs, List.mem_cons, List.not_mem_nil, or_false] at he
    rcases he with rfl | rfl | rfl | rfl
    · exact hv
    · exact bit_ans (q.Y 0)
    · exact bit_ans (q.Y 1)
    · exact bit_ans (q.Y 2)
  have hL : ∀ e ∈ rcodeLs q.t, AnsD e.f (e.d.map fun d => d.map (@cvF V)) (@cvF V e.r) := by
    intro e he
    simp only [rcodeLs, List.mem_cons, List.not_mem_nil, or_false] at he
    rcases he with rfl | rfl
    · exact @rank_ans V _ (slotsT34 q.t) q.u q2 (edgeR 1) rfl
    · exact @rank_ans V _ (slotsT34 q.t) q.l q3 (edgeR 5) rfl
  exact @ansL V rX rF _ _ _ rX_true rF_true hT hY hL _ _ _ _ _ (allN_lt rcode_run q.t q1)
noncomputable def rcodeNo : Bool := runOK noX [] [⟨fValid, [earR 0], bR false⟩] 1000 20 fRCode [earR 0] (.tup [lI 0, lI 10])
set_option maxRecDepth 100000 in
theorem rcode_no : rcodeNo = true := by kernel_rfl
theorem rcode_no_ans (x : Nat → Int) (y : Nat → Bool) (h : valB x = false) : Ans fRCode [earF x y] (.tuple #[intV 0, intV 10]) := by
  have hc := val_ans x y
  rw [h] at hc
  exact @ans (VE x y) noX _ _ noX_true (by intro e he; cases he) (by
    intro e he
    simp only [List.mem_cons, List.not_mem_nil, or_false] at he
    rcases he with rfl
    exact hc) _ _ _ _ _ rcode_no
noncomputable def countRun : Bool := runOK rX [] [] 1000 20 fRCount [] (lI 44176)
set_option maxRecDepth 100000 in
theorem count_run : countRun = true := by kernel_rfl
theorem rcount_ans : Ans fRCount [] (intV 44176) := @ans V0 rX _ _ rX_true (by intro e he; cases he) (by intro e he; cases he) _ _ _ _ _ count_run
end Go.Proofs.Z
