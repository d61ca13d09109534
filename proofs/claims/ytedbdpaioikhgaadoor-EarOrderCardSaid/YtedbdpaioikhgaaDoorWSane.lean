/- A part of the proof that EarOrder answers true for every three ears. -/
import Derived.Test.YtedbdpaioikhgaaDoorWTabA
import Derived.Test.YtedbdpaioikhgaaDoorWTabB
import Derived.Test.YtedbdpaioikhgaaDoorWTabC
import Derived.Test.YtedbdpaioikhgaaDoorWTabD
import Derived.Test.YtedbdpaioikhgaaDoorWTabE
import Derived.Test.YtedbdpaioikhgaaDoorWTabF
namespace Go.Proofs.W
open Go Go.RowKit Go.Proofs Go.Ri
def dec : List Value → Option (List Int)
  | [.int .i64 t, .int .i64 u0, .int .i64 u1, .int .i64 u2, .int .i64 u3, .int .i64 l0, .int .i64 l1, .int .i64 l2, .int .i64 l3, .bool h0, .bool h1, .bool h2] => some (keys t u0 u1 u2 u3 l0 l1 l2 l3 h0 h1 h2)
  | _ => none
theorem dec_some {l : List Value} {k : List Int} (h : dec l = some k) : ∃ t u0 u1 u2 u3 l0 l1 l2 l3 h0 h1 h2, l = [.int .i64 t, .int .i64 u0, .int .i64 u1, .int .i64 u2, .int .i64 u3, .int .i64 l0, .int .i64 l1, .int .i64 l2, .int .i64 l3, .bool h0, .bool h1, .bool h2] ∧ k = keys t u0 u1 u2 u3 l0 l1 l2 l3 h0 h1 h2 := by
  unfold dec at h
  split at h
  · cases h
    exact ⟨_, _, _, _, _, _, _, _, _, _, _, _, rfl, rfl⟩
  · cases h
noncomputable def cmpHook (vs : List Value) : Option Value :=
  match vs with
  | [.agg a, .agg b] => match dec a.toList with
    | some k => match dec b.toList with
      | some m => some (.int .i64 (lexI k m))
      | none => none
    | none => none
  | _ => none
noncomputable def cfg2 : Cfg := { ro := [(0, roCells)], ne := [88], mz := [(100, 5)], X := fun f vs => match Nat.beq f 15 with | true => cmpHook vs | false => Ri.look (tabC ++ (tabD ++ (tabE ++ (tabF ++ (tabB ++ tabA))))) f vs }
theorem cmpHook_ok {vs : List Value} {v : Value} (h : cmpHook vs = some v) (w : World) : Calls Tryd.prog 15 vs.toArray w (fun e w' => e = .returned v ∧ Below w.heap.size w w') := by
  unfold cmpHook at h
  split at h
  · rename_i a b
    split at h
    · rename_i k hk
      split at h
      · rename_i m hm'
        cases h
        obtain ⟨t, u0, u1, u2, u3, l0, l1, l2, l3, h0, h1, h2, ha, rfl⟩ := dec_some hk
        obtain ⟨t', u0', u1', u2', u3', l0', l1', l2', l3', h0', h1', h2', hb, rfl⟩ := dec_some hm'
        have ea : a = #[.int .i64 t, .int .i64 u0, .int .i64 u1, .int .i64 u2, .int .i64 u3, .int .i64 l0, .int .i64 l1, .int .i64 l2, .int .i64 l3, .bool h0, .bool h1, .bool h2] := Array.ext' ha
        have eb : b = #[.int .i64 t', .int .i64 u0', .int .i64 u1', .int .i64 u2', .int .i64 u3', .int .i64 l0', .int .i64 l1', .int .i64 l2', .int .i64 l3', .bool h0', .bool h1', .bool h2'] := Array.ext' hb
        subst ea eb
        exact compare_all t u0 u1 u2 u3 l0 l1 l2 l3 t' u0' u1' u2' u3' l0' l1' l2' l3' h0 h1 h2 h0' h1' h2' w
      · cases h
    · cases h
  · cases h
theorem x2_ok : XOK Tryd.prog cfg2 := by
  intro f vs v hx w hr
  have hx : (match Nat.beq f 15 with | true => cmpHook vs | false => Ri.look (tabC ++ (tabD ++ (tabE ++ (tabF ++ (tabB ++ tabA))))) f vs) = some v := hx
  split at hx
  · rename_i h
    obtain rfl : f = 15 := Nat.eq_of_beq_eq_true h
    exact cmpHook_ok hx w
  · obtain ⟨e, he, rfl, rfl, rfl⟩ := Ri.look_mem _ f vs v hx
    simp only [List.mem_append] at he
    rcases he with he | he | he | he | he | he
    · exact tabC_true e he w hr
    · exact tabD_true e he w hr
    · exact tabE_true e he w hr
    · exact tabF_true e he w hr
    · exact tabB_true e he w hr
    · exact tabA_true e he w hr
theorem cfg2_ok : CfgOK Tryd.prog cfg2 := cfg_ok cfg2 rfl rfl
def tabS : List Ent := [⟨10, [], .bool true⟩]
set_option maxRecDepth 100000 in
theorem tabS_ok : tabOK Tryd.prog cfg2 100000 200 tabS = true := by kernel_rfl
theorem sane_ok (w : World) (hr : RoIn [(0, roCells)] w) : Calls Tryd.prog 10 #[] w (fun e w' => e = .returned (.bool true) ∧ Below w.heap.size w w') :=
  tab_true hm cfg2_ok x2_ok tabS_ok ⟨10, [], .bool true⟩ (List.mem_singleton.mpr rfl) w hr
end Go.Proofs.W
