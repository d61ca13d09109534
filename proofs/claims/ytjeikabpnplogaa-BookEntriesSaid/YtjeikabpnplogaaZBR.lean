/- A part of the proofs that the laws of layer eight answer true for every input. -/
import Derived.Test.YtjeikabpnplogaaZBO
namespace Go.Proofs.Z
open Go Go.RowKit Go.Proofs Go.Ri Go.Proofs.Z.Fa
/-! Seal of both packages: runs. 600 the seed, 400 the digest, by half less each to 415; 420 to 435 its bits; 500 to 515 the secrets. -/
def bitT : List TE := (List.range 16).flatMap fun (i : Nat) => [⟨.bin .shr, sI 400, lI ((i : Nat) : Int), sI (400 + i)⟩, ⟨.bin .and, sI (400 + i), lI 1, sI (420 + i)⟩, ⟨.bin .quo, sI (400 + i), lI 2, sI (401 + i)⟩, ⟨.bin .rem, sI (400 + i), lI 2, sI (420 + i)⟩]
def secY (f : Nat) (own : Bool) : List YE := (List.range 16).map fun i => ⟨f, [sU 600, sI 50, sI 51, lI ((i : Nat) : Int), sI (420 + i)], if own then .tup [sU (500 + i), lI 0] else sU (500 + i)⟩
def zenR : RV := .agg ([lI 0, lI 0, lU 0, lT []] ++ (List.range 16).map fun _ => lU 0)
noncomputable def slA : Tb := { T := bitT, Y := ⟨fDigest, [entR], .tup [sI 400, lI 0]⟩ :: secY fSec true }
end Go.Proofs.Z

namespace Go.Proofs.Z
open Go Go.RowKit Go.Proofs Go.Ri Go.Proofs.Z.Fa
/-! Seal of both packages: contracts. -/
/-- A number without its last bits. -/
def hd2 (d : Int) : Nat → Int
  | 0 => d
  | k + 1 => hd2 d k / 2
def snI (sd p n x : Int) (m : Nat) (se se2 : Nat → Int) (d : Int) (k : Nat) : Int :=
  if k = 0 then x else if k = 50 then p else if k = 51 then n else if k = 54 then (m : Int) else if k < 400 then se (k - 300) else if k < 417 then hd2 d (k - 400) else if k < 500 then hd2 d (k - 420) % 2 else if k < 600 then se2 (k - 500) else sd
section
variable {sd p n x : Int} {s : ByteArray} {se se2 : Nat → Int} {d : Int}
end
end Go.Proofs.Z

namespace Go.Proofs.Z
open Go Go.RowKit Go.Proofs Go.Ri Go.Proofs.Z.Fa
/-! Seal of both packages: its contract. -/
def zenVal : Value := entVal 0 0 0 ⟨#[]⟩ fun _ => 0
theorem zen_cv [Val] : cv1 zenR = zenVal := by
  show Value.agg ((([lI 0, lI 0, lU 0, lT []] : List RV) ++ (List.range 16).map fun _ => lU 0).map cv).toArray = Value.agg (([.int .i64 0, .int .i64 0, .int .u64 0, .string ⟨#[]⟩] : List Value) ++ (List.range 16).map fun _ => Value.int .u64 0).toArray
  rw [List.map_append, List.map_map]
  rfl
end Go.Proofs.Z
