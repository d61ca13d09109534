/- A part of the proofs that the laws of layer four answer true for every input. -/
import Derived.Test.YtjjmnoiiihcoiaaGreatDoorZGW
import Derived.Test.YtjjmnoiiihcoiaaGreatDoorZGK
namespace Go.Proofs.Z
open Go Go.RowKit Go.Proofs Go.Ri Go.Proofs.Z.Fa
/-! Reach of package fell. -/
noncomputable def rcE (e : Int) (c : Nat) (s : Bool) : Tb := { T := agN c 8 ++ agX c s, LL := hLL, C := [⟨fCheck, [fellR], lI e⟩, ⟨fValid, [fellR], bR (vld e)⟩] }
def agN1 : RV → Bool
  | .pl _ => true
  | .sym (.int .i64) i => i == 0 || i == 20 || i == 21 || i == 22 || i == 23
  | _ => false
def agNames (e : TE) : Bool := agN1 e.x && agN1 e.y && agN1 e.r
theorem agNames_all (c : Nat) (h : c ≤ 0 + 8) (s : Bool) : (agN c 8 ++ agX c s).all agNames = true := by
  have : (allU 9 fun c => all2 fun s => (agN c 8 ++ agX c s).all agNames) = true := by kernel_rfl
  exact all2_all (allU_lt this c (by omega)) s
theorem agT_gen (V : Val) {G a b fr to : Int} (h0 : V.I 0 = G) (h20 : V.I 20 = a) (h21 : V.I 21 = b) (h22 : V.I 22 = fr) (h23 : V.I 23 = to) : ∀ e, e ∈ agN (agCls G a b fr to) 8 ++ agX (agCls G a b fr to) (decide (0 ≤ to)) → @TETrue V e := by
  intro e he
  have key : ∀ W, ∀ e, e ∈ agN (agCls G a b fr to) 8 ++ agX (agCls G a b fr to) (decide (0 ≤ to)) → @TETrue ((pnm G [] 0 [] 0 a b fr to 0).val W) e := fun W => fapp (agN_ok 0 _ _ 8 (fun i hi _ => firstBad_pass _ 8 0 i (Nat.zero_le _) hi) (fun h => firstBad_fail _ 8 0 h)) (agX_ok 0 _)
  have hn : ∀ e, e ∈ agN (agCls G a b fr to) 8 ++ agX (agCls G a b fr to) (decide (0 ≤ to)) → agNames e = true := fun e he => List.all_eq_true.1 (agNames_all (agCls G a b fr to) (firstBad_le _ 8 0) (decide (0 ≤ to))) e he
  have h1 := key (fun _ => undef) e he
  have h2 := hn e he
  have cvE : ∀ r, agN1 r = true → @cv V r = @cv ((pnm G [] 0 [] 0 a b fr to 0).val fun _ => undef) r := fun r hr => by
    unfold agN1 at hr
    split at hr
    · rfl
    · rename_i i
      simp only [Bool.or_eq_true, beq_iff_eq] at hr
      rcases hr with (((rfl | rfl) | rfl) | rfl) | rfl
      · show Value.int .i64 (V.I 0) = _; rw [h0]; rfl
      · show Value.int .i64 (V.I 20) = _; rw [h20]; rfl
      · show Value.int .i64 (V.I 21) = _; rw [h21]; rfl
      · show Value.int .i64 (V.I 22) = _; rw [h22]; rfl
      · show Value.int .i64 (V.I 23) = _; rw [h23]; rfl
    · cases hr
  unfold agNames at h2
  simp only [Bool.and_eq_true] at h2
  obtain ⟨f, h3⟩ := h1
  refine ⟨f, ?_⟩
  rw [cvE _ h2.1.1, cvE _ h2.1.2, cvE _ h2.2]
  exact h3
theorem agCls_fail {G a b fr to : Int} {c : Nat} (h : agCls G a b fr to = c) (hc : c < 8) : agTest G a b fr to c = false := by
  have := firstBad_fail (agTest G a b fr to) 8 0 (by show agCls G a b fr to < 8; omega)
  rw [show firstBad (agTest G a b fr to) 8 0 = c from h] at this
  exact this
end Go.Proofs.Z
