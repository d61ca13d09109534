/- A part of the proofs that the laws of layer three answer true for every input. -/
import Derived.Test.YtbacimjjelkfbaaGreatDoorZKJ
import Derived.Test.YtbacimjjelkfbaaGreatDoorZKT
namespace Go.Proofs.Z
open Go Go.RowKit Go.Proofs Go.Ri Go.Proofs.Z.Fa
/-! The law KnifeApplies. 50, 51 the budget; 60 to 68 the ear that both answer, 70, 71 their numbers, 72 what is said of the budget. -/
abbrev fKnifeApplies : Nat := 4
def kaD : List RV := alD ++ [.agg [sI 50, sI 51]]
def kaR : RV := .tup [earR 60, sI 70, sI 71]
noncomputable def kaT : Tb := { X := hookS, C := [⟨fAll, alD, kaR⟩, ⟨fRAll, alD, kaR⟩], Y := [⟨fBud, [.agg [sI 50, sI 51]], sI 72⟩, ⟨fRBud, [.agg [sI 50, sI 51]], sI 72⟩] }
set_option maxRecDepth 100000 in
theorem ka_run : doneQ kaT [] fKnifeApplies kaD [] [] (bR true) [] = true := by kernel_rfl
noncomputable def kaNm (l : List Value) (n : Nat) (x : Nat → Int) (y : Nat → Bool) (b c : Int) : Nm :=
  ⟨fun i => if i < 9 then x i else if i = 20 then (n : Int) else if i = 50 then b else if i = 51 then c else if i < 69 then (alV l n x y).1.x (i - 60) else if i = 70 then (alV l n x y).2 else if i = 71 then (alV l n x y).1.n else (if buOK b c then 0 else 31),
    fun i => if i < 3 then y i else (alV l n x y).1.y (i - 60), fun _ => ⟨#[]⟩, fun _ => l⟩
theorem knifeApplies_ans {l : List Value} {n : Nat} (x : Nat → Int) (y : Nat → Bool) (b c : Int) (hl : ints l) (hn : l.length = n * 4) (h63 : n ≤ 9223372036854775807) (hb : -9223372036854775808 ≤ b ∧ b ≤ 9223372036854775807) :
    @AnsN ((kaNm l n x y b c).val (fun _ => undef)) fKnifeApplies kaD (.bool true) := by
  letI V : Val := (kaNm l n x y b c).val (fun _ => undef)
  have hC : ∀ r, AnsN (alF r) alD (cvF kaR) := fun r =>
    al_ans x y r hl hn h63 (kaNm l n x y b c) (fun _ => undef) (fun i hi => if_pos hi) (fun i hi => if_pos hi) rfl rfl
  have ht : TbOK kaT := { X := hookS_true, C := fa (hC false) (fa (hC true) fz), Y := fa (bu_ans false b c hb) (fa (bu_ans true b c hb) fz) }
  intro w hr vs hv
  exact done_flat V ht ka_run rfl rfl rfl w hr vs hv
end Go.Proofs.Z
