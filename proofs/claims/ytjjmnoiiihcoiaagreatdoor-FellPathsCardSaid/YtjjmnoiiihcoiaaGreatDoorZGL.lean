/- A part of the proofs that the laws of layer four answer true for every input. -/
import Derived.Test.YtjjmnoiiihcoiaaGreatDoorZGK
namespace Go.Proofs.Z
open Go Go.RowKit Go.Proofs Go.Ri Go.Proofs.Z.Fa
/-! The law FellPaths. -/
noncomputable def fpTb (b1 b2 : Bool) : Tb := { X := saneX, T := [⟨.bin .gtr, sI 1, lI 200, bR b1⟩, ⟨.bin .gtr, sI 25, lI 200, bR b2⟩], LL := psLL, C := [⟨fCheckPath, cpD, sI 40⟩, ⟨fRCheckPath, cpD, sI 40⟩] }
set_option maxRecDepth 100000 in
theorem fp_run : (all2 fun b1 => all2 fun b2 => doneQ { fpTb b1 b2 with C := if b1 || b2 then [] else (fpTb b1 b2).C } [] fFellPaths cpD [] [] (bR true) []) = true := by kernel_rfl
abbrev fpV (G : Int) (l : List Value) (n : Nat) (q : List Value) (m : Nat) (a b fr to : Int) : Val := (⟨fun j => if j = 40 then cpM G l n q m a b fr to else (pnm G l n q m a b fr to 0).I j, fun _ => false, fun _ => ⟨#[]⟩, fun j => if j = 0 then l else q⟩ : Nm).val fun _ => undef
theorem paths_law (G : Int) (l : List Value) (n : Nat) (q : List Value) (m : Nat) (a b fr to : Int) (hl : ints l) (hn : l.length = n * 4) (hq : ints q) (hm : q.length = m * 2) (w : World) (hr : RoIn ro w) (vs : List Value) (hv : All2 (@Go.Ri.NVal (fpV G l n q m a b fr to) w) cpD vs) :
    Calls Tryz.prog fFellPaths vs.toArray w (fun e w' => e = .returned (.bool true) ∧ Below w.heap.size w w') := by
  have hT : ∀ e, e ∈ (fpTb (decide ((n : Int) > 200)) (decide ((m : Int) > 200))).T → @TETrue (fpV G l n q m a b fr to) e := by
    letI := fpV G l n q m a b fr to
    exact fa (f_gtr (k := .i64) (m := (n : Int)) (n := 200) rfl rfl rfl) (fa (f_gtr (k := .i64) (m := (m : Int)) (n := 200) rfl rfl rfl) fz)
  have hLL : ∀ e, e ∈ psLL → @LLTrue (fpV G l n q m a b fr to) e := fa ⟨rfl, n, Nat.succ_pos 3, hn, rfl⟩ (fa ⟨rfl, m, Nat.succ_pos 1, hm, rfl⟩ fz)
  refine done_flat (fpV G l n q m a b fr to) (t := { fpTb (decide ((n : Int) > 200)) (decide ((m : Int) > 200)) with C := if decide ((n : Int) > 200) || decide ((m : Int) > 200) then [] else (fpTb (decide ((n : Int) > 200)) (decide ((m : Int) > 200))).C }) ?_ (all2_all (all2_all fp_run (decide ((n : Int) > 200))) (decide ((m : Int) > 200))) rfl rfl rfl w hr vs hv
  letI := fpV G l n q m a b fr to
  refine { X := saneX_true, T := hT, LL := hLL, C := ?_ }
  show ∀ e, e ∈ (if (decide ((n : Int) > 200) || decide ((m : Int) > 200)) = true then [] else [(⟨fCheckPath, cpD, sI 40⟩ : YE), ⟨fRCheckPath, cpD, sI 40⟩]) → _
  split
  · exact fz
  · rename_i hb
    simp only [Bool.or_eq_true, decide_eq_true_eq, not_or] at hb
    have key : ∀ c, @AnsN (fpV G l n q m a b fr to) (cpF c) cpD (.int .i64 (cpM G l n q m a b fr to)) := fun c w hr vs hv => by
      refine checkPath_ans c hl hn hq hm (by omega) w hr vs ?_
      cases hv with
      | cons h1 r1 => cases r1 with
        | cons h2 r2 => cases r2 with
          | cons h3 r3 => cases r3 with
            | cons h4 r4 => cases r4 with
              | cons h5 r5 => cases r5 with
                | cons h6 r6 =>
                  cases r6
                  exact .cons (fell_nval1 (V := fpV G l n q m a b fr to) rfl rfl h1) (.cons h2 (.cons h3 (.cons h4 (.cons h5 (.cons (lst_nval (V := fpV G l n q m a b fr to) rfl h6) .nil)))))
    exact fa (key true) (fa (key false) fz)
end Go.Proofs.Z
