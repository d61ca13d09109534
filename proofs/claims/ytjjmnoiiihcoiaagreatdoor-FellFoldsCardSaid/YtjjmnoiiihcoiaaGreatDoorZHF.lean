/- A part of the proofs that the laws of layer four answer true for every input. -/
import Derived.Test.YtjjmnoiiihcoiaaGreatDoorZHE
namespace Go.Proofs.Z
open Go Go.RowKit Go.Proofs Go.Ri Go.Proofs.Z.Fa
/-! The law FellMeets. -/
abbrev fFellMeets : Nat := 8
def fmR (f : Bool) : RV := .tup [sI 40, sI 41, bR f, sI 43]
noncomputable def fmTb (f : Bool) : Tb := { X := saneX, T := [⟨.bin .gtr, sI 1, lI 200, bR false⟩, ⟨.ieq, sI 40, sI 40, bR true⟩, ⟨.ieq, sI 41, sI 41, bR true⟩, ⟨.ieq, sI 43, sI 43, bR true⟩], LL := hLL, C := [⟨fMeeting, meD, fmR f⟩, ⟨fRMeeting, meD, fmR f⟩] }
set_option maxRecDepth 100000 in
theorem fm_run : (all2 fun f => doneQ (fmTb f) [] fFellMeets meD [] [] (bR true) []) = true := by kernel_rfl
set_option maxRecDepth 100000 in
theorem fm_big : doneQ bigTb [] fFellMeets meD [] [] (bR true) [] = true := by kernel_rfl
def fmNm (G : Int) (l : List Value) (n : Nat) (a b fr to d x e : Int) : Nm := ⟨fun i => if i = 0 then G else if i = 1 then (n : Int) else if i = 20 then a else if i = 21 then b else if i = 22 then fr else if i = 23 then to else if i = 40 then d else if i = 41 then x else e, ny, fun _ => ⟨#[]⟩, fun _ => l⟩
theorem meM_shape (G : Int) (l : List Value) (n : Nat) (a b fr to : Int) : ∃ d x f e, meM G l n a b fr to = meV d x f e := by
  unfold meM
  split
  · split
    · simp only
      split
      · exact ⟨_, _, _, _, rfl⟩
      · exact ⟨_, _, _, _, rfl⟩
    · exact ⟨_, _, _, _, rfl⟩
  · exact ⟨_, _, _, _, rfl⟩
theorem meets_law (G : Int) (l : List Value) (n : Nat) (a b fr to : Int) (hl : ints l) (hn : l.length = n * 4) (w : World) (hr : RoIn ro w) (vs : List Value) (hv : ∀ d x e, All2 (@Go.Ri.NVal ((fmNm G l n a b fr to d x e).val fun _ => undef) w) meD vs) : Calls Tryz.prog fFellMeets vs.toArray w (fun e w' => e = .returned (.bool true) ∧ Below w.heap.size w w') := by
  by_cases hbig : (n : Int) > 200
  · exact done_flat ((fmNm G l n a b fr to 0 0 0).val fun _ => undef) (big_tb (l := l) rfl rfl hn hbig) fm_big rfl rfl rfl w hr vs (hv _ _ _)
  · obtain ⟨d, x, f, e, he⟩ := meM_shape G l n a b fr to
    have hq1 := meeting_ans ((fmNm G l n a b fr to d x e).val fun _ => undef) (G := G) (l := l) (n := n) (a := a) (b := b) (fr := fr) (to := to) (x := sI 20) (y := sI 21) (z := sI 22) (u := sI 23) rfl rfl hl hn rfl rfl rfl rfl rfl rfl rfl rfl
    have hq2 := rmeeting_ans ((fmNm G l n a b fr to d x e).val fun _ => undef) (G := G) (l := l) (n := n) (a := a) (b := b) (fr := fr) (to := to) (x := sI 20) (y := sI 21) (z := sI 22) (u := sI 23) rfl rfl hl hn rfl rfl rfl rfl rfl rfl rfl rfl
    rw [he] at hq1 hq2
    have ht : @TbOK ((fmNm G l n a b fr to d x e).val fun _ => undef) (fmTb f) := by
      letI : Val := (fmNm G l n a b fr to d x e).val fun _ => undef
      exact { X := saneX_true, T := fa (f_gtr (k := .i64) (m := (n : Int)) (n := 200) rfl rfl (decide_eq_false hbig)) (fa (f_ieq (k := .i64) (m := d) (n := d) rfl rfl (by simp)) (fa (f_ieq (k := .i64) (m := x) (n := x) rfl rfl (by simp)) (fa (f_ieq (k := .i64) (m := e) (n := e) rfl rfl (by simp)) fz))), LL := fa ⟨rfl, n, Nat.succ_pos 3, hn, rfl⟩ fz, C := fa hq1 (fa hq2 fz) }
    exact done_flat _ ht (all2_all fm_run f) rfl rfl rfl w hr vs (hv _ _ _)
end Go.Proofs.Z
