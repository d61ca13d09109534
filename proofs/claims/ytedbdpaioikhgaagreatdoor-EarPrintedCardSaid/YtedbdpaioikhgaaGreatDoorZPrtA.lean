/- A part of the proofs that the laws of layer one answer true for every input. -/
import Derived.Test.YtedbdpaioikhgaaGreatDoorZWdE
import Derived.Test.YtedbdpaioikhgaaGreatDoorZSane
namespace Go.Proofs.Z.Wd
open Go Go.RowKit Go.Proofs Go.Ri Go.Proofs.Z
open Go.Proofs.Z.Sp (fWords fPrint)
open Go.Proofs.Z.Fa
/-! PrintMark of package ear alone. -/
def wBadR : RV := .pl (.tuple #[.string ⟨#[]⟩, .int .i64 10])
def mk24 (a b : Nat) : List RV := [sI a, sI (a + 1), sI (a + 2), sI (a + 3), sI (a + 4), sI (a + 5), sI (a + 6), sI (a + 7), sI (a + 8), sB a, sB (a + 1), sB (a + 2), sI b, sI (b + 1), sI (b + 2), sI (b + 3), sI (b + 4), sI (b + 5), sI (b + 6), sI (b + 7), sI (b + 8), sB b, sB (b + 1), sB (b + 2)]
def mA : RV := .agg (mk24 0 20)
def nearB : List UInt8 := [110, 101, 97, 114, 58, 32]
def farB : List UInt8 := [59, 32, 102, 97, 114, 58, 32]
def pmTx : List TE := [⟨.bin .add, lT nearB, sT 70, sT 72⟩, ⟨.bin .add, sT 72, lT farB, sT 73⟩, ⟨.bin .add, sT 73, sT 71, sT 74⟩]
def wR (i : Nat) (ok : Bool) : RV := if ok then .tup [sT i, lI 0] else wBadR
noncomputable def prT (p q : Bool) : Tb := { Y := [⟨fWords, [earR 0], wR 70 p⟩, ⟨fWords, [earR 20], wR 71 q⟩], T := if p && q then pmTx else [] }
def prR (p q : Bool) : RV := if p && q then .tup [sT 74, lI 0] else wBadR
noncomputable def prRun (t : Tb) (f : FuncId) (p q : Bool) : Bool := doneQ t [] f [mA] (if p && q then [.str 74 (sT 74)] else []) [] (prR p q) []
set_option maxRecDepth 100000 in
theorem pr_run : (all2 fun p => all2 fun q => prRun (prT p q) fPrint p q) = true := by kernel_rfl
section
variable (x : Nat → Int) (y : Nat → Bool) (x' : Nat → Int) (y' : Nat → Bool)
def wS (x : Nat → Int) (y : Nat → Bool) : List UInt8 := wordsB (ftP x y)
def printB : List UInt8 := nearB ++ wS x y ++ farB ++ wS x' y'
def pnm' : Nm := ⟨fun j => if j < 20 then x j else x' (j - 20), fun j => if j < 20 then y j else y' (j - 20), fun j => if j = 70 then ⟨(wS x y).toArray⟩ else if j = 71 then ⟨(wS x' y').toArray⟩ else if j = 72 then ⟨(nearB ++ wS x y).toArray⟩ else if j = 73 then ⟨(nearB ++ wS x y ++ farB).toArray⟩ else ⟨(printB x y x' y').toArray⟩, fun _ => []⟩
theorem wS_len (hv : valB x = true) : (wS x y).length ≤ 300 := by
  have h12 := ftP_len x y
  have h := jn_len (phA (ftP x y)) (phA_short (ftP x y) (ftP_ok x y hv))
  rw [phA_len] at h
  unfold wS wordsB
  split
  · decide
  · show (jn (phA (ftP x y))).length ≤ _
    omega
theorem pmTx_ok (hv : valB x = true) (hv' : valB x' = true) : ∀ q, q ∈ pmTx → @TETrue ((pnm' x y x' y').val fun _ => undef) q := by
  letI : Val := (pnm' x y x' y').val fun _ => undef
  have l1 := wS_len x y hv
  have l2 := wS_len x' y' hv'
  have n1 : nearB.length = 6 := rfl
  have n2 : farB.length = 7 := rfl
  intro q hq
  simp only [pmTx, List.mem_cons, List.not_mem_nil, or_false] at hq
  rcases hq with rfl | rfl | rfl
  · refine f_sadd (x := ⟨nearB.toArray⟩) (y := ⟨(wS x y).toArray⟩) rfl rfl ?_ rfl ?_
    · rw [ba_app]; rfl
    · show nearB.toArray.size + (wS x y).toArray.size ≤ _
      rw [List.size_toArray, List.size_toArray]; omega
  · refine f_sadd (x := ⟨(nearB ++ wS x y).toArray⟩) (y := ⟨farB.toArray⟩) rfl rfl ?_ rfl ?_
    · rw [ba_app]; rfl
    · show (nearB ++ wS x y).toArray.size + farB.toArray.size ≤ _
      rw [List.size_toArray, List.size_toArray, List.length_append]; omega
  · refine f_sadd (x := ⟨(nearB ++ wS x y ++ farB).toArray⟩) (y := ⟨(wS x' y').toArray⟩) rfl rfl ?_ rfl ?_
    · rw [ba_app]; rfl
    · show (nearB ++ wS x y ++ farB).toArray.size + (wS x' y').toArray.size ≤ _
      rw [List.size_toArray, List.size_toArray, List.length_append, List.length_append]; omega
/-- What PrintMark answers. -/
def printV : Value := if valB x && valB x' then .tuple #[.string ⟨(printB x y x' y').toArray⟩, intV 0] else .tuple #[.string ⟨#[]⟩, intV 10]
theorem wR_ok (f : FuncId) (i : Nat) (o : Nat) (u : Nat → Int) (z : Nat → Bool) (he : @cvF ((pnm' x y x' y').val fun _ => undef) (earR o) = earF u z) (hs : @cv ((pnm' x y x' y').val fun _ => undef) (sT i) = .string ⟨(wS u z).toArray⟩)
    (h1 : valB u = true → Ans f [earF u z] (.tuple #[.string ⟨(wordsB (ftP u z)).toArray⟩, intV 0])) (h2 : valB u = false → Ans f [earF u z] (.tuple #[.string ⟨#[]⟩, intV 10])) : Ans f ([earR o].map (@cvF ((pnm' x y x' y').val fun _ => undef))) (@cvF ((pnm' x y x' y').val fun _ => undef) (wR i (valB u))) := by
  show Ans f [@cvF ((pnm' x y x' y').val fun _ => undef) (earR o)] _
  rw [he]
  cases hv : valB u with
  | true =>
    have := h1 hv
    show Ans f _ (.tuple #[@cv ((pnm' x y x' y').val fun _ => undef) (sT i), intV 0])
    rw [hs]
    exact this
  | false => exact h2 hv
theorem print_gen (f : FuncId) (t : Bool → Bool → Tb) (hrun : (all2 fun p => all2 fun q => prRun (t p q) f p q) = true) (ht : @TbOK ((pnm' x y x' y').val fun _ => undef) (t (valB x) (valB x'))) : Ans f [markF x y x' y'] (printV x y x' y') := by
  have hr := all2_all (all2_all hrun (valB x)) (valB x')
  unfold prRun at hr
  have hd : @AnsQ ((pnm' x y x' y').val fun _ => undef) f [markF x y x' y'] (prR (valB x) (valB x')) [] := fun w hw => done_calls _ _ ht hr (by unfold prR; split <;> rfl) (by
    split
    · exact str1_holds rfl rfl
    · exact noH _ _) w hw _ (@nval_flat ((pnm' x y x' y').val fun _ => undef) w [mA] rfl)
  have h := ans_dqF' hd (by unfold prR; split <;> rfl)
  have e : @cvF ((pnm' x y x' y').val fun _ => undef) (prR (valB x) (valB x')) = printV x y x' y' := by
    unfold prR printV
    split <;> rfl
  rw [e] at h
  exact h
theorem print_ans : Ans fPrint [markF x y x' y'] (printV x y x' y') := by
  refine print_gen x y x' y' fPrint prT pr_run ?_
  letI : Val := (pnm' x y x' y').val fun _ => undef
  refine { T := fun q hq => ?_, Y := fun q hq => ?_ }
  · have hq : q ∈ (if valB x && valB x' then pmTx else []) := hq
    split at hq
    · rename_i hv
      simp only [Bool.and_eq_true] at hv
      exact pmTx_ok x y x' y' hv.1 hv.2 q hq
    · cases hq
  · have hq : q ∈ [(⟨fWords, [earR 0], wR 70 (valB x)⟩ : YE), ⟨fWords, [earR 20], wR 71 (valB x')⟩] := hq
    simp only [List.mem_cons, List.not_mem_nil, or_false] at hq
    rcases hq with rfl | rfl
    · exact wR_ok x y x' y' fWords 70 0 x y rfl rfl (words_ans x y) (fun hv => words_bad x y fWords fFeatures (features_bad x y hv) wb_run)
    · exact wR_ok x y x' y' fWords 71 20 x' y' rfl rfl (words_ans x' y') (fun hv => words_bad x' y' fWords fFeatures (features_bad x' y' hv) wb_run)
end
end Go.Proofs.Z.Wd
