/- A part of the proofs that the laws of layer eight answer true for every input. -/
import Derived.Test.YtjeikabpnplogaaZCE
import Derived.Test.YtjeikabpnplogaaZBR
namespace Go.Proofs.Z
open Go Go.RowKit Go.Proofs Go.Ri Go.Proofs.Z.Fa
/-! An entry whose cells go by any names. -/
theorem entG_of [Val] {a0 a1 a2 a3 : RV} {b : Nat} {p n x : Int} {s : ByteArray} {f : Nat → Int} (h0 : cv a0 = .int .i64 p) (h1 : cv a1 = .int .i64 n) (h2 : cv a2 = .int .u64 x) (h3 : cv a3 = .string s) (hb : ∀ i, i < 16 → Val.I (b + i) = f i) : cv1 (.agg ([a0, a1, a2, a3] ++ (List.range 16).map fun i => sU (b + i))) = entVal p n x s f := by
  show Value.agg ((([a0, a1, a2, a3] : List RV) ++ (List.range 16).map fun i => sU (b + i)).map cv).toArray = _
  rw [List.map_append, List.map_map]
  unfold entVal
  have hm : (List.range 16).map (cv ∘ fun i => sU (b + i)) = (List.range 16).map fun i => Value.int .u64 (f i) := List.map_congr_left fun i hi => by
    show Value.int .u64 (Val.I (b + i)) = _
    rw [hb i (List.mem_range.1 hi)]
  have h4 : ([a0, a1, a2, a3] : List RV).map cv = [.int .i64 p, .int .i64 n, .int .u64 x, .string s] := by
    show [cv a0, cv a1, cv a2, cv a3] = _
    rw [h0, h1, h2, h3]
  rw [hm, h4]
end Go.Proofs.Z

namespace Go.Proofs.Z
open Go Go.RowKit Go.Proofs Go.Ri Go.Proofs.Z.Fa
/-! A fact of an operation with two arguments. -/
theorem f_binop [Val] {a b c : RV} {op : BinOp} {u v z : Value} (ha : cv a = u) (hb : cv b = v) (hc : cv c = z) (hf : flat0 c = true) (h : TCTrue (.bin op) u v z) : TETrue ⟨.bin op, a, b, c⟩ := by
  refine ⟨hf, ?_⟩
  show TCTrue _ (cv a) (cv b) (cv c)
  rw [ha, hb, hc]
  exact h
end Go.Proofs.Z
