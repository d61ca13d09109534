/- A part of the proofs that the laws of layer four answer true for every input. -/
import Derived.Test.YtjjmnoiiihcoiaaGreatDoorZGH
namespace Go.Proofs.Z
open Go Go.RowKit Go.Proofs Go.Ri Go.Proofs.Z.Fa
/-! The law FellDays. -/
abbrev fFellDays : Nat := 3
def fdD : List RV := [fellR, sI 12, sI 8]
noncomputable def fdU (m : Bool) : List QE := if m then [⟨fOpenGates, [fellR, sI 8], .tup [.slN 0 9 1, lI 0], [some (.lst 9 tInt true)]⟩, ⟨fROpenGates, [fellR, sI 8], .tup [.slN 0 9 1, lI 0], [some (.lst 9 tInt true)]⟩]
  else [⟨fOpenGates, [fellR, sI 8], .tup [nilR, sI 17], []⟩, ⟨fROpenGates, [fellR, sI 8], .tup [nilR, sI 17], []⟩]
noncomputable def fdTb (m : Bool) : Tb := { X := saneX, T := [⟨.bin .gtr, sI 1, lI 200, bR false⟩], LL := hLL, Y := [⟨fYearDay, [sI 8], .tup [sI 13, sI 14]⟩, ⟨fRYearDay, [sI 8], .tup [sI 13, sI 14]⟩], C := [⟨fOpen, [fellR, sI 12, sI 8], .tup [sB 1, sI 15]⟩, ⟨fROpen, [fellR, sI 12, sI 8], .tup [sB 1, sI 15]⟩, ⟨fCheck, [fellR], sI 16⟩, ⟨fRCheck, [fellR], sI 16⟩] ++ (if m then [⟨fInts, [.slN 0 9 1, .slN 0 9 1], bR true⟩] else []), U := qnU (fdU m) }
noncomputable def bigTb : Tb := { X := saneX, T := [⟨.bin .gtr, sI 1, lI 200, bR true⟩], LL := hLL }
set_option maxRecDepth 100000 in
theorem fd_run : (all2 fun m => doneQ (fdTb m) [] fFellDays fdD [] [] (bR true) []) = true := by kernel_rfl
set_option maxRecDepth 100000 in
theorem fd_big : doneQ bigTb [] fFellDays fdD [] [] (bR true) [] = true := by kernel_rfl
abbrev fdV (G : Int) (l : List Value) (n : Nat) (g d : Int) : Val := (⟨fun i => if i = 0 then G else if i = 1 then (n : Int) else if i = 8 then d else if i = 12 then g else if i = 13 then (ydM d).1 else if i = 14 then (ydM d).2 else if i = 15 then (opnM G l n g d).2 else if i = 16 then errM G l n else fdE G l n d, fun _ => (opnM G l n g d).1, fun _ => ⟨#[]⟩, fun i => if i = 0 then l else ogL l n d⟩ : Nm).val fun _ => undef
theorem ogL_ints (l : List Value) (n : Nat) (d : Int) : ints (ogL l n d) := gl_mem (Q := fun v => ∃ n, v = .int .i64 n) (fun k => fa ⟨k, rfl⟩ fz) n
/-- An error is a name's. -/
theorem dq_err {V : Val} {w : World} {x : Ending} {w' : World} {e : Int} {i : Nat} (hi : V.I i = e) (h : DQ V (tupN e) [] w x w') : DQ V (.tup [nilR, sI i]) [] w x w' := by
  obtain ⟨u, E', he, hu, H⟩ := h
  refine ⟨u, E', he, ?_, H⟩
  have : u = @cvF V (.tup [nilR, sI i]) := by
    rw [show u = _ from hu, ← hi]
    rfl
  rw [this]
  exact @rel_cvF V E' (.tup [nilR, sI i]) rfl
theorem big_tb {V : Val} {l : List Value} {n : Nat} (h1 : V.I 1 = n) (hL : V.L 0 = l) (hn : l.length = n * 4) (hb : (n : Int) > 200) : @TbOK V bigTb := by
  letI := V
  refine { X := saneX_true, T := fa (f_gtr (k := .i64) (m := V.I 1) (n := 200) rfl rfl (by rw [h1]; exact decide_eq_true hb)) fz, LL := fa ⟨rfl, n, Nat.succ_pos 3, by rw [hL]; exact hn, ?_⟩ fz }
  show Value.int .i64 (V.I 1) = _
  rw [h1]
theorem days_law (G : Int) (l : List Value) (n : Nat) (g d : Int) (hl : ints l) (hn : l.length = n * 4) (w : World) (hr : RoIn ro w) (vs : List Value) (hv : All2 (@Go.Ri.NVal (fdV G l n g d) w) fdD vs) : Calls Tryz.prog fFellDays vs.toArray w (fun e w' => e = .returned (.bool true) ∧ Below w.heap.size w w') := by
  by_cases hbig : (n : Int) > 200
  · exact done_flat (fdV G l n g d) (big_tb (l := l) rfl rfl hn hbig) fd_big rfl rfl rfl w hr vs hv
  · have hq1 := opengates_q (fdV G l n g d) (G := G) (l := l) (n := n) (d := d) rfl rfl hl hn rfl rfl
    have hq2 := ropengates_q (fdV G l n g d) (G := G) (l := l) (n := n) (d := d) rfl rfl hl hn rfl rfl
    have hlen : (ogL l n d).length ≤ 1 * n := gl_len ogC_len n
    have tb : ∀ m, (∀ q, q ∈ fdU m → @QNTrue (fdV G l n g d) q) → @TbOK (fdV G l n g d) (fdTb m) := fun m hU => by
      letI := fdV G l n g d
      refine { X := saneX_true, T := fa (f_gtr (k := .i64) (m := (n : Int)) (n := 200) rfl rfl (decide_eq_false hbig)) fz, LL := fa ⟨rfl, n, Nat.succ_pos 3, hn, rfl⟩ fz, Y := fa (yearDay_ans true d) (fa (yearDay_ans false d) fz), C := fapp (fa (open_q _ true rfl rfl hl hn rfl rfl rfl rfl) (fa (open_q _ false rfl rfl hl hn rfl rfl rfl rfl) (fa (check_ans _ rfl rfl hl hn) (fa (rcheck_ans _ rfl rfl hl hn) fz)))) ?_, U := qnU_ok _ hU }
      cases m with
      | true => exact fa (ints_ans _ (ogL l n d) (ogL_ints l n d) _ rfl (by omega) rfl) fz
      | false => exact fz
    cases hc : decide (fdE G l n d = 0) && !(ogL l n d).isEmpty with
    | true =>
      simp only [Bool.and_eq_true, decide_eq_true_eq] at hc
      rw [hc.1, hc.2] at hq1 hq2
      exact done_flat _ (tb true (fa hq1 (fa hq2 fz))) (all2_all fd_run true) rfl rfl rfl w hr vs hv
    | false =>
      have ea : ogAns (fdE G l n d) (!(ogL l n d).isEmpty) = (tupN (fdE G l n d), []) := by
        unfold ogAns
        by_cases h0 : fdE G l n d = 0
        · rw [if_pos h0]
          have : (!(ogL l n d).isEmpty) = false := by
            rw [h0] at hc
            simpa using hc
          rw [this, h0]
          rfl
        · rw [if_neg h0]
      rw [ea] at hq1 hq2
      exact done_flat _ (tb false (fa (fun w hr vs hv => (hq1 w hr vs hv).mono fun e w' h => dq_err rfl h) (fa (fun w hr vs hv => (hq2 w hr vs hv).mono fun e w' h => dq_err rfl h) fz))) (all2_all fd_run false) rfl rfl rfl w hr vs hv
end Go.Proofs.Z
