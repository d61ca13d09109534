/- A part of the proofs that the laws of layer four answer true for every input. -/
import Derived.Test.YtjjmnoiiihcoiaaGreatDoorZGY
import Derived.Test.YtjjmnoiiihcoiaaGreatDoorZGI
namespace Go.Proofs.Z
open Go Go.RowKit Go.Proofs Go.Ri Go.Proofs.Z.Fa
/-! The law FellReaches. -/
abbrev fFellReaches : Nat := 5
noncomputable def frU (m : Bool) : List QE := if m then [⟨fReach, rcD, .tup [.slN 0 9 1, lI 0], [some (.lst 9 tInt true)]⟩, ⟨fRReach, rcD, .tup [.slN 0 9 1, lI 0], [some (.lst 9 tInt true)]⟩]
  else [⟨fReach, rcD, .tup [nilR, sI 17], []⟩, ⟨fRReach, rcD, .tup [nilR, sI 17], []⟩]
noncomputable def frTb (m : Bool) : Tb := { X := saneX, T := [⟨.bin .gtr, sI 1, lI 200, bR false⟩], LL := hLL, C := (if m then [⟨fInts, [.slN 0 9 1, .slN 0 9 1], bR true⟩] else []), U := qnU (frU m) }
set_option maxRecDepth 100000 in
theorem fr_run : (all2 fun m => doneQ (frTb m) [] fFellReaches rcD [] [] (bR true) []) = true := by kernel_rfl
set_option maxRecDepth 100000 in
theorem fr_big : doneQ bigTb [] fFellReaches rcD [] [] (bR true) [] = true := by kernel_rfl
noncomputable abbrev frNm (G : Int) (l : List Value) (n : Nat) (a fr to : Int) : Nm := ⟨fun i => if i = 0 then G else if i = 1 then (n : Int) else if i = 20 then a else if i = 22 then fr else if i = 23 then to else rcErr G l n a fr to, ny, fun _ => ⟨#[]⟩, fun i => if i = 0 then l else sL (rcSet l n a fr to)⟩
theorem sL_ints (s : Nat) : ints (sL s) := gl_mem (Q := fun v => ∃ n, v = .int .i64 n) (fun k => fa ⟨k, rfl⟩ fz) 16
theorem reaches_law (G : Int) (l : List Value) (n : Nat) (a fr to : Int) (hl : ints l) (hn : l.length = n * 4) (w : World) (hr : RoIn ro w) (vs : List Value) (hv : All2 (@Go.Ri.NVal ((frNm G l n a fr to).val fun _ => undef) w) rcD vs) : Calls Tryz.prog fFellReaches vs.toArray w (fun e w' => e = .returned (.bool true) ∧ Below w.heap.size w w') := by
  by_cases hbig : (n : Int) > 200
  · exact done_flat ((frNm G l n a fr to).val fun _ => undef) (big_tb (l := l) rfl rfl hn hbig) fr_big rfl rfl rfl w hr vs hv
  · have hq1 := reach_q ((frNm G l n a fr to).val fun _ => undef) (G := G) (l := l) (n := n) (a := a) (fr := fr) (to := to) (x := sI 20) (y := sI 22) (z := sI 23) rfl rfl hl hn rfl rfl rfl rfl rfl rfl rfl
    have hq2 := rreach_q ((frNm G l n a fr to).val fun _ => undef) (G := G) (l := l) (n := n) (a := a) (fr := fr) (to := to) (x := sI 20) (y := sI 22) (z := sI 23) rfl rfl hl hn rfl rfl rfl rfl rfl rfl rfl
    have hlen : (sL (rcSet l n a fr to)).length ≤ 1 * 16 := gl_len ogC_len 16
    have tb : ∀ m, (∀ q, q ∈ frU m → @QNTrue ((frNm G l n a fr to).val fun _ => undef) q) → @TbOK ((frNm G l n a fr to).val fun _ => undef) (frTb m) := fun m hU => by
      letI : Val := (frNm G l n a fr to).val fun _ => undef
      refine { X := saneX_true, T := fa (f_gtr (k := .i64) (m := (n : Int)) (n := 200) rfl rfl (decide_eq_false hbig)) fz, LL := fa ⟨rfl, n, Nat.succ_pos 3, hn, rfl⟩ fz, C := ?_, U := qnU_ok _ hU }
      cases m with
      | true => exact fa (ints_ans _ (sL (rcSet l n a fr to)) (sL_ints _) _ rfl (by omega) (i := 9) (show sL (rcSet l n a fr to) = sL (rcSet l n a fr to) from rfl)) fz
      | false => exact fz
    cases hc : decide (rcErr G l n a fr to = 0) && !(sL (rcSet l n a fr to)).isEmpty with
    | true =>
      simp only [Bool.and_eq_true, decide_eq_true_eq] at hc
      rw [hc.1, hc.2] at hq1 hq2
      exact done_flat _ (tb true (fa hq1 (fa hq2 fz))) (all2_all fr_run true) rfl rfl rfl w hr vs hv
    | false =>
      have ea : ogAns (rcErr G l n a fr to) (!(sL (rcSet l n a fr to)).isEmpty) = (tupN (rcErr G l n a fr to), []) := by
        unfold ogAns
        by_cases h0 : rcErr G l n a fr to = 0
        · rw [if_pos h0]
          have : (!(sL (rcSet l n a fr to)).isEmpty) = false := by
            rw [h0] at hc
            simpa using hc
          rw [this, h0]
          rfl
        · rw [if_neg h0]
      rw [ea] at hq1 hq2
      exact done_flat _ (tb false (fa (fun w hr vs hv => (hq1 w hr vs hv).mono fun e w' h => dq_err rfl h) (fa (fun w hr vs hv => (hq2 w hr vs hv).mono fun e w' h => dq_err rfl h) fz))) (all2_all fr_run false) rfl rfl rfl w hr vs hv
end Go.Proofs.Z
