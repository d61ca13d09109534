/- A part of the proofs that the laws of layer one answer true for every input. -/
import Derived.Test.YtedbdpaioikhgaaGreatDoorZSane
import Derived.Test.YtedbdpaioikhgaaGreatDoorZRCodes4
namespace Go.Proofs.Z
open Go Go.RowKit Go.Proofs Go.Ri
noncomputable def countRun0 : Bool := runOK noX [] [] 1000 20 fCount [] (lI 44176)
set_option maxRecDepth 100000 in
theorem count_run0 : countRun0 = true := by kernel_rfl
theorem count_ans : Ans fCount [] (intV 44176) := @ans V0 noX _ _ noX_true (by intro e he; cases he) (by intro e he; cases he) _ _ _ _ _ count_run0
noncomputable def codesX : FuncId → List Value → Option Value := fun f vs => match vs with
  | [] => match Nat.beq f fSane with
    | true => some (.bool true)
    | false => match Nat.beq f fCount with
      | true => some (.int .i64 44176)
      | false => match Nat.beq f fRCount with
        | true => some (.int .i64 44176)
        | false => none
  | _ => none
theorem codesX_true : XTrue codesX := by
  intro f vs v h
  unfold codesX at h
  split at h
  · split at h
    · rename_i hf
      obtain rfl := Nat.eq_of_beq_eq_true hf
      cases h
      exact sane_ans
    · split at h
      · rename_i hf
        obtain rfl := Nat.eq_of_beq_eq_true hf
        cases h
        exact count_ans
      · split at h
        · rename_i hf
          obtain rfl := Nat.eq_of_beq_eq_true hf
          cases h
          exact rcount_ans
        · cases h
  · cases h
def codesYs : List YE := [⟨fCode, [earR 0], .tup [sI 80, sI 81]⟩, ⟨fRCode, [earR 0], .tup [sI 80, sI 81]⟩, ⟨fFromCode, [sI 82], .tup [earR 20, sI 83]⟩, ⟨fRFromCode, [sI 82], .tup [earR 20, sI 83]⟩, ⟨fNext, [earR 0], .tup [earR 40, sB 80, sI 84]⟩, ⟨fRNext, [earR 0], .tup [earR 40, sB 80, sI 84]⟩]
noncomputable def codesRun : Bool := runOK codesX [] codesYs 1000 20 fCodes [earR 0, sI 82] (bR true)
set_option maxRecDepth 100000 in
theorem codes_run : codesRun = true := by kernel_rfl
theorem codes_ans (x : Nat → Int) (y : Nat → Bool) (n : Int) : Ans fCodes [earF x y, intV n] (.bool true) := by
  obtain ⟨c, d, C1, C2⟩ : ∃ c d : Int, Ans fCode [earF x y] (.tuple #[intV c, intV d]) ∧ Ans fRCode [earF x y] (.tuple #[intV c, intV d]) := by
    cases hv : valB x with
    | true =>
      obtain ⟨q, hq, he⟩ := val_Q x y hv
      rw [he]
      exact ⟨_, _, code_ans hq, rcode_ans hq⟩
    | false => exact ⟨_, _, code_no_ans x y hv, rcode_no_ans x y hv⟩
  have from_both : ∀ n : Int, ∃ (x' : Nat → Int) (y' : Nat → Bool) (e : Int), (e = 0 ∨ e = 1) ∧ Ans fFromCode [intV n] (.tuple #[earF x' y', intV e]) ∧ Ans fRFromCode [intV n] (.tuple #[earF x' y', intV e]) := fun n => by
    by_cases h : 0 ≤ n ∧ n < 44176
    · obtain ⟨q, hq, hc⟩ := num_Q n.toNat (by omega)
      have hn : ((q.code : Nat) : Int) = n := by omega
      have a := from_ans hq
      have b := rfrom_ans hq
      rw [hn] at a b
      exact ⟨_, _, _, .inl rfl, a, b⟩
    · exact ⟨_, _, _, .inr rfl, from_no_ans n (by omega), rfrom_no_ans n (by omega)⟩
  obtain ⟨x1, y1, e1, _, F1, F2⟩ := from_both n
  obtain ⟨x2, y2, b, e2, N1, N2⟩ : ∃ (x2 : Nat → Int) (y2 : Nat → Bool) (b : Bool) (e2 : Int), Ans fNext [earF x y] (.tuple #[earF x2 y2, .bool b, intV e2]) ∧ Ans fRNext [earF x y] (.tuple #[earF x2 y2, .bool b, intV e2]) := by
    cases hv : valB x with
    | true =>
      obtain ⟨q, hq, he⟩ := val_Q x y hv
      rw [he]
      obtain ⟨x', y', e, he2, a1, a2⟩ := from_both (q.code + 1 : Nat)
      rcases he2 with rfl | rfl
      · exact ⟨x', y', true, 0, next_of hq true x' y' a1, rnext_of hq true x' y' a2⟩
      · exact ⟨x', y', false, 0, next_of hq false x' y' a1, rnext_of hq false x' y' a2⟩
    | false => exact ⟨_, _, _, _, next_no_ans x y hv, rnext_no_ans x y hv⟩
  let V := VE (four x x1 x2 zeroX fun i => if i = 0 then c else if i = 1 then d else if i = 2 then n else if i = 3 then e1 else e2) (four y y1 y2 zeroY fun _ => b)
  exact @ans V codesX _ _ codesX_true (by intro e he; cases he) (by
    intro e he
    simp only [codesYs, List.mem_cons, List.not_mem_nil, or_false] at he
    rcases he with rfl | rfl | rfl | rfl | rfl | rfl
    · exact C1
    · exact C2
    · exact F1
    · exact F2
    · exact N1
    · exact N2) _ _ _ _ _ codes_run
end Go.Proofs.Z
