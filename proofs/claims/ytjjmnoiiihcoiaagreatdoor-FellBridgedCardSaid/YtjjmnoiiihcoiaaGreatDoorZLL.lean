/- A part of the proofs that the laws of layer four answer true for every input. -/
import Derived.Test.YtjjmnoiiihcoiaaGreatDoorZLG
namespace Go.Proofs.Z
open Go Go.RowKit Go.Proofs Go.Ri Go.Proofs.Z.Fa
/-! Without of the specification; Ever and Folds, of both packages, for all inputs: contracts. -/
section
variable (V : Val) {G : Int} {l : List Value} {n : Nat} {a : Int}
/-! Folds -/
theorem folds_q (hG : V.I 0 = G) (hL : V.L 0 = l) (hl : ints l) (hn : l.length = n * 4) (h20 : V.L 20 = ptG l n (usP l) G.toNat) :
    ∀ w, RoIn ro w → ∀ vs, All2 (@Go.Ri.NVal V w) [fellR] vs → Calls Tryz.prog fFolds vs.toArray w (DQ V (ptAns (errM G l n)).1 (ptAns (errM G l n)).2 w) := by
  intro w hr vs hv
  obtain ⟨P, hP⟩ : ∃ P, P = ptG l n (usP l) G.toNat := ⟨_, rfl⟩
  rw [← hP] at h20
  let V1 : Val := (ptNm G l n 0 P []).val fun _ => undef
  have hv : All2 (@Go.Ri.NVal V1 w) [fellR] vs := by
    cases hv with
    | cons h1 h2 => cases h2; exact .cons (fell_nval1 hG hL h1) .nil
  have hC : @AnsN V1 fCheck [fellR] (.int .i64 (errM G l n)) := check_ans _ rfl rfl hl hn
  have hLL : ∀ q, q ∈ hLL → @LLTrue V1 q := fa ⟨rfl, n, Nat.succ_pos 3, hn, rfl⟩ fz
  unfold errM
  unfold errM at hC
  cases hva : validM G l n with
  | false =>
    rw [hva] at hC
    have ht : @TbOK V1 { LL := Z.hLL, C := [⟨fCheck, [fellR], lI 40⟩] } := by
      letI : Val := V1
      exact { LL := hLL, C := fa hC fz }
    exact done_calls V1 V ht fds_err40 rfl (holds_all fz) w hr vs hv
  | true =>
    rw [hva] at hC
    have hsp := split_q V1 (G := G) (l := l) (n := n) (d := 0) false rfl rfl hl hn hva rfl (fun h => by cases h) (by rw [srv_false]; exact hP)
    have ht : @TbOK V1 fdTb' := by
      letI : Val := V1
      exact { LL := hLL, C := fa hC fz, U := qnU_ok _ (fa hsp fz) }
    exact done_calls V1 V ht fds_good rfl (holds_all (fa h20 fz)) w hr vs hv
end
end Go.Proofs.Z

namespace Go.Proofs.Z
open Go Go.RowKit Go.Proofs Go.Ri Go.Proofs.Z.Fa
/-! Ever, of both packages, for all inputs. -/
section
variable (V : Val) {G : Int} {l : List Value} {n : Nat} {a : Int}
theorem ev_args {V' : Val} {w : World} {vs : List Value} (hG : V.I 0 = G) (hL : V.L 0 = l) (hx : V.I 20 = a) (e0 : V'.I 0 = G) (e1 : V'.L 0 = l) (e2 : V'.I 20 = a) (hv : All2 (@Go.Ri.NVal V w) [fellR, sI 20] vs) : All2 (@Go.Ri.NVal V' w) [fellR, sI 20] vs := by
  cases hv with
  | cons h1 h2 => cases h2 with
    | cons h2 h3 =>
      cases h3
      exact .cons (fell_nval1 (hG.trans e0.symm) (hL.trans e1.symm) h1) (.cons (nval_re (V := V) (x := sI 20) rfl rfl (congrArg (Value.int .i64) hx) (congrArg (Value.int .i64) e2) h2) .nil)
end
end Go.Proofs.Z
