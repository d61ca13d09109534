/- A part of the proofs that the laws of layer one answer true for every input. -/
import Derived.Test.YtedbdpaioikhgaaGreatDoorZShort3
import Derived.Test.YtedbdpaioikhgaaGreatDoorZSane
namespace Go.Proofs.Z
open Go Go.RowKit Go.Proofs Go.Ri
/-! The law EarShorts. -/
theorem sanexS : XTrue saneX := by
  intro f vs v h
  unfold saneX at h
  split at h
  · split at h
    · rename_i hf
      obtain rfl := Nat.eq_of_beq_eq_true hf
      cases h
      exact sane_ans
    · cases h
  · cases h
noncomputable def lsY (ok : Bool) : List YE := let r := if ok then .tup [sS 5, lI 0] else shBad
  [⟨fShort, [earR 0], r⟩, ⟨fRShort, [earR 0], r⟩, ⟨fPShort, [sS 6], .tup [earR 40, sI 49]⟩, ⟨fRPShort, [sS 6], .tup [earR 40, sI 49]⟩]
noncomputable def lsTb (ok : Bool) : Tb := { X := saneX, T := [⟨.seq, sS 5, sS 5, bR true⟩], Y := lsY ok }
set_option maxRecDepth 100000 in
theorem ls_run : (all2 fun ok => doneQ (lsTb ok) [] fEarShorts [earR 0, sS 6] [] [] (bR true) []) = true := by kernel_rfl
theorem psV_ear (b : ByteArray) : ∃ X Y e, psV b = .tuple #[earF X Y, intV e] := by
  unfold psV psO
  split
  · split
    · exact ⟨fun _ => 0, fun _ => false, _, rfl⟩
    · split
      · exact ⟨_, _, _, rfl⟩
      · exact ⟨fun _ => 0, fun _ => false, _, rfl⟩
  · exact ⟨fun _ => 0, fun _ => false, _, rfl⟩
/-- THE LAW. -/
theorem short_law (x : Nat → Int) (y : Nat → Bool) (b : ByteArray) : Ans fEarShorts [earF x y, .string b] (.bool true) := by
  obtain ⟨X, Y, e, hp⟩ := psV_ear b
  let c : Nm := ⟨fun i => if i < 40 then x i else if i < 49 then X (i - 40) else e, fun i => if i < 40 then y i else Y (i - 40), fun i => if i = 5 then shortV (shp x y) else b, fun _ => []⟩
  let V : Val := c.val fun _ => undef
  have e1 : @cvF V (.tup [earR 40, sI 49]) = psV b := hp.symm
  refine @ans_dq V _ _ _ [] fun w hr => done_calls V V (t := lsTb (valB x)) (plan := []) (ds := [earR 0, sS 6]) ?_ (all2_all ls_run _) rfl (noHolds V V) w hr [earF x y, .string b] (@nval_flat V w [earR 0, sS 6] rfl)
  letI : Val := V
  refine { X := sanexS, T := ?_, Y := ?_ }
  · intro q hq
    simp only [lsTb, List.mem_cons, List.not_mem_nil, or_false] at hq
    subst hq
    refine ⟨rfl, shortV (shp x y), shortV (shp x y), rfl, rfl, ?_⟩
    rw [beq_self_eq_true]
    rfl
  · intro q hq
    simp only [lsTb, lsY, List.mem_cons, List.not_mem_nil, or_false] at hq
    have h3 : Ans fPShort ([sS 6].map cvF) (cvF (.tup [earR 40, sI 49])) := by
      rw [e1]
      exact pshort_ans b
    have h4 : Ans fRPShort ([sS 6].map cvF) (cvF (.tup [earR 40, sI 49])) := by
      rw [e1]
      exact rpshort_ans b
    cases hv : valB x with
    | true =>
      rw [hv] at hq
      rcases hq with rfl | rfl | rfl | rfl
      · exact short_ans x y hv
      · exact rshort_ans x y hv
      · exact h3
      · exact h4
    | false =>
      rw [hv] at hq
      rcases hq with rfl | rfl | rfl | rfl
      · exact short_bad x y hv
      · exact rshort_bad x y hv
      · exact h3
      · exact h4
end Go.Proofs.Z
