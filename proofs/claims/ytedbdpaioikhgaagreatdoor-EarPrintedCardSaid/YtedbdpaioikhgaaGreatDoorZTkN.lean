/- A part of the proofs that the laws of layer one answer true for every input. -/
import Derived.Test.YtedbdpaioikhgaaGreatDoorZTkM
import Derived.Test.YtedbdpaioikhgaaGreatDoorZTkX1a
import Derived.Test.YtedbdpaioikhgaaGreatDoorZTkX1b
import Derived.Test.YtedbdpaioikhgaaGreatDoorZTkX1c
import Derived.Test.YtedbdpaioikhgaaGreatDoorZChk3
namespace Go.Proofs.Z.Ps
open Go Go.RowKit Go.Proofs Go.Ri Go.Proofs.Z
open Go.Proofs.Z.W (tfr tto)
/-! ParseWords of package ear: its contract. -/
theorem x1_runs : Runs cW := { x1_runs0 with again := x1_again, last := x1_end, twice := x1_twice }
def zE : Value := .agg zEL.toArray
/-- What ParseWords answers, from what its ear answers. -/
def pwR (s : ByteArray) (r : ER) : Value :=
  if 65536 < s.data.toList.length then .tuple #[zE, intV 0, intV 2]
  else if r.err = 0 then
    (if tok s.data.toList r.i = [] then
      (if valB r.e then .tuple #[earF r.e (bitY r.e), intV 0, intV 0] else .tuple #[zE, intV (tfr s.data.toList r.i : Nat), intV 10])
    else .tuple #[zE, intV (tfr s.data.toList r.i : Nat), intV 3])
  else .tuple #[zE, intV r.pos, intV r.err]
noncomputable def pnm (s : ByteArray) (r : ER) : Nm where
  I := fun j => if j = 0 then (tto s.data.toList 0 : Nat) else if j = 1 then (tfr s.data.toList 0 : Nat) else if j = 90 then s.data.toList.length else if j < 109 then r.e (j - 100) else if j = 110 then r.pos else if j = 111 then r.err else if j = 112 then (tfr s.data.toList r.i : Nat) else (tto s.data.toList r.i : Nat)
  B := fun j => bitY r.e (j - 100)
  S := fun j => if j = 0 then s else if j = 1 then tokS' s 0 else tokS' s r.i
  L := fun _ => []
theorem pnm_ans (s : ByteArray) (r : ER) (W : Nat → Value) : AnsV ((pnm s r).val W) 100 s r where
  s0 := rfl
  e := fun j hj => by
    show (if 100 + j = 0 then _ else if 100 + j = 1 then _ else if 100 + j = 90 then _ else if 100 + j < 109 then r.e (100 + j - 100) else _) = _
    rw [if_neg (by omega), if_neg (by omega), if_neg (by omega), if_pos (by omega), Nat.add_sub_cancel_left]
  b := fun j hj => by
    show bitY r.e (100 + j - 100) = _
    rw [Nat.add_sub_cancel_left]
  pos := rfl
  err := rfl
  tk := rfl
  fr := rfl
  to := rfl
theorem ear1_cv {V : Val} {s : ByteArray} {r : ER} (hA : AnsV V 100 s r) : @cvF V earR1 = earF r.e (bitY r.e) := by
  have e0 : V.I 100 = r.e 0 := hA.e 0 (by omega)
  have e1 : V.I 101 = r.e 1 := hA.e 1 (by omega)
  have e2 : V.I 102 = r.e 2 := hA.e 2 (by omega)
  have e3 : V.I 103 = r.e 3 := hA.e 3 (by omega)
  have e4 : V.I 104 = r.e 4 := hA.e 4 (by omega)
  have e5 : V.I 105 = r.e 5 := hA.e 5 (by omega)
  have e6 : V.I 106 = r.e 6 := hA.e 6 (by omega)
  have e7 : V.I 107 = r.e 7 := hA.e 7 (by omega)
  have e8 : V.I 108 = r.e 8 := hA.e 8 (by omega)
  have b0 : V.B 100 = bitY r.e 0 := hA.b 0 (by omega)
  have b1 : V.B 101 = bitY r.e 1 := hA.b 1 (by omega)
  have b2 : V.B 102 = bitY r.e 2 := hA.b 2 (by omega)
  show Value.agg #[.int .i64 (V.I 100), .int .i64 (V.I 101), .int .i64 (V.I 102), .int .i64 (V.I 103), .int .i64 (V.I 104), .int .i64 (V.I 105), .int .i64 (V.I 106), .int .i64 (V.I 107), .int .i64 (V.I 108), .bool (V.B 100), .bool (V.B 101), .bool (V.B 102)] = _
  rw [e0, e1, e2, e3, e4, e5, e6, e7, e8, b0, b1, b2]
  rfl
theorem pwT_ok {s : ByteArray} {r : ER} (hsz : s.size ≤ 1000000000) (hr : earP s.data.toList 0 = r) (W : Nat → Value) {big bad tk ok : Bool} (h1 : decide ((s.data.toList.length : Int) > 65536) = big) (h2 : (r.err == 0) = !bad) (h3 : (tok s.data.toList r.i == []) = tk)
    (h4 : valB r.e = ok) : @TbOK ((pnm s r).val W) (pwT big bad tk (lI (if ok then 0 else 10))) := by
  letI : Val := (pnm s r).val W
  refine { T := ?_, U := ?_, Y := ?_ }
  · intro e he
    simp only [pwT, List.mem_cons, List.not_mem_nil, or_false] at he
    rcases he with rfl | rfl | rfl | rfl
    · exact ⟨rfl, s, rfl, rfl⟩
    · refine ⟨rfl, ?_⟩
      have := t_gtr .i64 (s.data.toList.length : Int) 65536
      rw [h1] at this
      exact this
    · exact ⟨rfl, .i64, r.err, 0, rfl, rfl, by rw [h2]; rfl⟩
    · exact (te_seq (j := 101) (s := tokS' s r.i) (x := []) rfl (by rw [tokS_eq]; exact h3)).1
  rotate_left
  · refine orU_ok (next_ok (sT 0) nx1 fun q hq => ?_) (ueU_ok _ fun e he => ?_)
    · simp only [nx1, List.mem_cons, List.not_mem_nil, or_false] at hq
      subst hq
      exact ⟨s, 0, rfl, hsz, Nat.zero_le _, rfl, rfl, rfl, rfl⟩
    · simp only [List.mem_cons, List.not_mem_nil, or_false] at he
      subst he
      exact ear_ue x1_runs hsz (Nat.zero_le _) hr (pnm_ans s r W) rfl rfl rfl
  · intro e he
    simp only [pwT, List.mem_cons, List.not_mem_nil, or_false] at he
    subst he
    show Ans fCheck [@cvF ((pnm s r).val W) earR1] (intV (if ok then 0 else 10))
    rw [ear1_cv (pnm_ans s r W), ← h4]
    exact chk_ans r.e (bitY r.e)
theorem pw_ans (s : ByteArray) (hsz : s.size ≤ 1000000000) : Ans fPW [.string s] (pwR s (earP s.data.toList 0)) := by
  obtain ⟨r, hr⟩ : ∃ r, earP s.data.toList 0 = r := ⟨_, rfl⟩
  rw [hr]
  letI : Val := (pnm s r).val fun _ => undef
  have hrun := all2_all (all2_all (all2_all (all2_all pw_run (decide ((s.data.toList.length : Int) > 65536))) (!(r.err == 0))) (tok s.data.toList r.i == [])) (valB r.e)
  have h := ansN_flat (doneF_ok _ (pwT_ok hsz hr _ rfl (by rw [Bool.not_not]) rfl rfl) hrun) rfl
  have e1 : cvF (pwO (decide ((s.data.toList.length : Int) > 65536)) (!(r.err == 0)) (tok s.data.toList r.i == []) (valB r.e)) = pwR s r := by
    unfold pwO pwR
    by_cases c1 : 65536 < s.data.toList.length
    · rw [if_pos c1, if_pos (decide_eq_true (by omega : (s.data.toList.length : Int) > 65536))]
      rfl
    · rw [if_neg c1, if_neg (by rw [decide_eq_true_iff]; omega)]
      by_cases c2 : r.err = 0
      · rw [if_pos c2, if_neg (by rw [c2]; decide)]
        by_cases c3 : tok s.data.toList r.i = []
        · rw [if_pos c3, if_pos (by rw [c3]; rfl)]
          cases valB r.e with
          | true =>
            show Value.tuple #[@cvF ((pnm s r).val fun _ => undef) earR1, _, _] = _
            rw [ear1_cv (pnm_ans s r _)]
            rfl
          | false => rfl
        · rw [if_neg c3, if_neg (by simpa using c3)]
          rfl
      · rw [if_neg c2, if_pos (by simpa using c2)]
        rfl
  rw [e1] at h
  exact h
end Go.Proofs.Z.Ps
