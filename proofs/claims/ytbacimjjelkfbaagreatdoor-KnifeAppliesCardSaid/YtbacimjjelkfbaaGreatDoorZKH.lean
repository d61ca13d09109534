/- A part of the proofs that the laws of layer three answer true for every input. -/
import Derived.Test.YtbacimjjelkfbaaGreatDoorZKB
import Derived.Test.YtbacimjjelkfbaaGreatDoorZLoop3
import Derived.Test.YtbacimjjelkfbaaGreatDoorRiE
namespace Go.Proofs.Z
open Go Go.RowKit Go.Proofs Go.Ri
/-! Closed answers by the contracts. -/
def decE : List Value → Option ((Nat → Int) × (Nat → Bool))
  | [.int .i64 a0, .int .i64 a1, .int .i64 a2, .int .i64 a3, .int .i64 a4, .int .i64 a5, .int .i64 a6, .int .i64 a7, .int .i64 a8, .bool b0, .bool b1, .bool b2] =>
    some (fun i => match i with | 0 => a0 | 1 => a1 | 2 => a2 | 3 => a3 | 4 => a4 | 5 => a5 | 6 => a6 | 7 => a7 | _ => a8, fun i => match i with | 0 => b0 | 1 => b1 | _ => b2)
  | _ => none
theorem decE_some {l : List Value} {x : Nat → Int} {y : Nat → Bool} (h : decE l = some (x, y)) : .agg l.toArray = earF x y := by
  unfold decE at h
  split at h
  · cases h; rfl
  · cases h
noncomputable def chkHook (vs : List Value) : Option Value :=
  match vs with
  | [.agg a] => match decE a.toList with
    | some (x, _) => some (.int .i64 (if valB x then 0 else 10))
    | none => none
  | _ => none
theorem chkHook_ok {vs : List Value} {v : Value} (h : chkHook vs = some v) : Ans fCheck vs v := by
  unfold chkHook at h
  split at h
  · rename_i a
    split at h
    · rename_i x y hk
      cases h
      have e := decE_some hk
      rw [show (Value.agg a.toList.toArray) = .agg a by simp] at e
      rw [e]
      exact chk_ans x y
    · cases h
  · cases h
noncomputable def hookX : FuncId → List Value → Option Value := fun f vs => match Nat.beq f fCheck with
  | true => chkHook vs
  | false => none
theorem hookX_true : XTrue hookX := by
  intro f vs v h
  unfold hookX at h
  split at h
  · rename_i hf
    obtain rfl := Nat.eq_of_beq_eq_true hf
    exact chkHook_ok h
  · cases h
theorem tab_ans {X : FuncId → List Value → Option Value} {T : List Ent} {m n : Nat} (h : tabOK Tryz.prog (cfg X [] []) m n T = true) (hX : XTrue X := by exact hookX_true) : ∀ e, e ∈ T → Ans e.f e.a e.r :=
  fun e he w hr => tab_true hm (cfg_ok X [] []) (@xok V0 X [] [] hX (by intro e he; cases he) (by intro e he; cases he)) h e he w hr
end Go.Proofs.Z
