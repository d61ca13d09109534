/- A part of the proofs that the laws of layer four answer true for every input. -/
import Derived.Test.YtjjmnoiiihcoiaaGreatDoorZGQ
import Derived.Test.YtjjmnoiiihcoiaaGreatDoorZGK
import Derived.Test.YtjjmnoiiihcoiaaGreatDoorZGY
import Derived.Test.YtjjmnoiiihcoiaaGreatDoorZGH
import Derived.Lib.TrailingZeros
namespace Go.Proofs.Z
open Go Go.RowKit Go.Proofs Go.Ri Go.Proofs.Z.Fa
/-! without, same: runs. 40 the indices, 45 how many, 2 the place, 7 the next one, 32 the index, 33 to 36 the gate; lists: 0 as it came, 41 so far, 42 then. -/
abbrev fSame : Nat := 53
def woR : RV := .agg [sI 0, .slN 0 41 4]
/-! same, of two fells that hold one list -/
def saD : List RV := [woR, woR]
noncomputable def saLL : List LNE := [⟨41, 4, sI 1⟩]
noncomputable def saE : Tb := { T := [⟨.ieq, sI 0, sI 0, bR true⟩, ⟨.ieq, sI 1, sI 1, bR true⟩], LL := saLL }
noncomputable def saP : St := ⟨patW [(2, .ptr 2 0), (3, .ptr 3 0), (5, sI 2)] 38 0, [some (.lstA 41), some (.lstA 41), some (.cells [sI 0, .slA 0 41 4] tFell false false), some (.cells [sI 0, .slA 1 41 4] tFell false false)]⟩
def saS (r : RV) : List SE := [.int 2 r, .int 0 (sI 0), .int 1 (sI 1), .lst 41 41]
noncomputable def saB : Code := hB saE [] fSame saD
noncomputable def saK : List Fr := hK saE [] fSame saD
set_option maxRecDepth 100000 in
theorem sa_enter : enterT saE [] fSame saD (saS (lI 0)) [0, 1, 2, 3] saP = true := by kernel_rfl
set_option maxRecDepth 100000 in
theorem sa_again : againT { T := hT true, LL := saLL, LX := [⟨41, 2, [sI 3, sI 4, sI 5, sI 6]⟩] } [] saB saK saP (saS (sI 7)) [0, 1, 2, 3] saP = true := by kernel_rfl
set_option maxRecDepth 100000 in
theorem sa_out : outF { T := hT false, LL := saLL } [] fSame saB saK saP (bR true) = true := by kernel_rfl
end Go.Proofs.Z

namespace Go.Proofs.Z
open Go Go.RowKit Go.Proofs Go.Ri Go.Proofs.Z.Fa
/-! Gates that are never open: the lists; contracts of without and same. -/
theorem fell_nvalG {V V' : Val} {w : World} {v : Value} {i j : Nat} (h0 : V.I 0 = V'.I 0) (hi : V.L i = V'.L j) (h : @Go.Ri.NVal V w (.agg [sI 0, .slN 0 i 4]) v) : @Go.Ri.NVal V' w (.agg [sI 0, .slN 0 j 4]) v := by
  obtain ⟨us, e, h3⟩ := h
  refine ⟨us, e, ?_⟩
  generalize us.toList = ul at h3
  cases h3 with
  | cons g1 g2 => cases g2 with
    | cons g2 g3 =>
      cases g3
      have g1 : _ = Value.int .i64 (V.I 0) := g1
      obtain ⟨a, m, cap, k1, k2, k3, k4, k5, k6⟩ := g2
      rw [hi] at k2 k4 k6
      refine .cons ?_ (.cons ⟨a, m, cap, k1, k2, k3, k4, k5, k6⟩ .nil)
      rw [g1, h0]
      rfl
section
variable (V : Val) {G : Int} {l : List Value} {n : Nat}
/-! same -/
def sanm (G : Int) (l : List Value) (n k : Nat) : Nm := ⟨fun i => if i = 0 then G else if i = 1 then (n : Int) else if i = 2 then (k : Int) else if i = 3 then gtA l k else if i = 4 then gtB l k else if i = 5 then gtF l k else if i = 6 then gtT l k else (k : Int) + 1, ny, fun _ => ⟨#[]⟩, fun _ => l⟩
theorem same_ans (hG : V.I 0 = G) (hL : V.L 41 = l) (hl : ints l) (hn : l.length = n * 4) (hb : n ≤ 60000) : @AnsN V fSame saD (.bool true) := by
  intro w hr vs hv
  have hv : All2 (@Go.Ri.NVal ((sanm G l n 0).val fun _ => undef) w) saD vs := by
    cases hv with
    | cons h1 h2 => cases h2 with
      | cons h2 h3 =>
        cases h3
        exact .cons (fell_nvalG (V' := (sanm G l n 0).val fun _ => undef) hG hL h1) (.cons (fell_nvalG (V' := (sanm G l n 0).val fun _ => undef) hG hL h2) .nil)
  have hLL : ∀ k W, ∀ e, e ∈ saLL → @LLTrue ((sanm G l n k).val W) e := fun k W => fa ⟨rfl, n, Nat.succ_pos 3, hn, rfl⟩ fz
  refine scan2 fSame saD saE [] saP (saS (lI 0)) [0, 1, 2, 3] (sanm G l n 0) (fun _ => undef) (fun k => sanm G l n k) n _ (fun _ => True) sa_enter ?_ (fun W' => fa ⟨.i64, 0, rfl, rfl⟩ (fa ⟨.i64, G, rfl, rfl⟩ (fa ⟨.i64, (n : Int), rfl, rfl⟩ (fa rfl fz)))) trivial ?_ w hr vs hv
  · letI : Val := (sanm G l n 0).val fun _ => undef
    exact { T := fa (f_ieq (k := .i64) (m := G) (n := G) rfl rfl (by simp)) (fa (f_ieq (k := .i64) (m := (n : Int)) (n := (n : Int)) rfl rfl (by simp)) fz), LL := hLL 0 _ }
  · intro k hk _ W
    letI : Val := (sanm G l n k).val W
    rcases Nat.lt_or_ge k n with hlt | hge
    · have hlx : ∀ e, e ∈ ([⟨41, 2, [sI 3, sI 4, sI 5, sI 6]⟩] : List LEE) → LXTrue e := by
        refine fa ⟨rfl, ?_, ?_⟩ fz
        · show ((k : Int)).toNat * 4 + 4 ≤ l.length
          rw [Int.toNat_natCast]
          omega
        · show (l.drop (((k : Int)).toNat * 4)).take 4 = _
          rw [Int.toNat_natCast, row4 hl k (by omega)]
          rfl
      exact .inr ⟨hlt, trivial, _, _, _, { T := hT_gen _ rfl rfl rfl (by omega) (by simp [hlt]), LL := hLL k W, LX := hlx }, sa_again, fun W' => fa ⟨.i64, (k : Int) + 1, rfl, rfl⟩ (fa ⟨.i64, G, rfl, rfl⟩ (fa ⟨.i64, (n : Int), rfl, rfl⟩ (fa rfl fz)))⟩
    · obtain rfl : k = n := by omega
      exact .inl ⟨_, bR true, { T := hT_gen _ rfl rfl rfl (by omega) (by simp), LL := hLL k W }, sa_out, rfl⟩
end
end Go.Proofs.Z
