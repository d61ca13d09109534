/- A part of the proof that EarOrder answers true for every three ears. -/
import Derived.Test.YtedbdpaioikhgaaDoorWCmpD
import Derived.Test.YtedbdpaioikhgaaDoorWTab
import Derived.Laws.Externs
namespace Go.Proofs.W
open Go Go.RowKit Go.Proofs Go.Ri
def roCells : List Value := [.int .i64 1, .int .i64 4, .int .i64 7, .int .i64 19, .int .i64 40]
def cfg1 : Cfg := { ro := [(0, roCells)], ne := [88], mz := [(100, 5)], X := fun _ _ => none }
set_option maxRecDepth 100000 in
theorem ne88 (x : Value) (w : World) : (callFunc 88 #[x]).run Tryd.prog w = .ok (.value x) w :=
  run_callFunc_extern (P := Tryd.prog) (f := 88) (fn := Tryd.f88) (e := Extern.AbiNoEscape.same) (by kernel_rfl) (by kernel_rfl) (by kernel_rfl) (by kernel_rfl) (by kernel_rfl) #[x] w
set_option maxRecDepth 100000 in
theorem mz100 (n : Int) (w : World) (h0 : 0 ≤ n) (h1 : n ≤ 1000000000) : ∃ (cs : Array Value) (k : Nat),
    (callFunc 100 #[.int .i64 n]).run Tryd.prog w = .ok (.value (.slice (some ⟨w.heap.size, 0, none⟩) n.toNat cs.size)) ((w.drewN k).alloc (.cells cs 5)) ∧ n.toNat ≤ cs.size := by
  obtain ⟨m, rfl⟩ : ∃ m : Nat, n = m := ⟨n.toNat, by omega⟩
  obtain ⟨cs, h, hc, _⟩ := Lib.run_makeNoZero (P := Tryd.prog) w Tryd.f100.params (Tryd.f100.resultTypes[0]?.getD 0) 5 (by kernel_rfl) m (by omega)
  refine ⟨cs, 2, ?_, by simpa using hc⟩
  rw [run_callFunc_extern (P := Tryd.prog) (f := 100) (fn := Tryd.f100) (e := Extern.BytealgMakeNoZero.makeNoZero Tryd.f100.params #[(Tryd.f100.resultTypes[0]?.getD 0)]) (by kernel_rfl) (by kernel_rfl) (by kernel_rfl) (by kernel_rfl) (by kernel_rfl), h]
  rfl
theorem hm : Tryd.prog.follows .mixedOrders = true := by kernel_rfl
theorem cfg_ok (g : Cfg) (hn : g.ne = [88]) (hz : g.mz = [(100, 5)]) : CfgOK Tryd.prog g where
  ne := by
    intro f hf x w
    rw [hn] at hf
    have : f = 88 := by simpa using hf
    subst this
    exact ne88 x w
  mz := by
    intro f e hf n w h0 h1
    rw [hz] at hf
    have : f = 100 ∧ e = 5 := by
      simp only [List.lookup] at hf
      split at hf
      · rename_i hb; cases hf; exact ⟨by simpa using hb, rfl⟩
      · cases hf
    obtain ⟨rfl, rfl⟩ := this
    exact mz100 n w h0 h1
theorem cfg1_ok : CfgOK Tryd.prog cfg1 := cfg_ok cfg1 rfl rfl
theorem x1_ok : XOK Tryd.prog cfg1 := xok_none rfl
end Go.Proofs.W
