/- A part of the proofs that the laws of layer eight answer true for every input. -/
import Derived.Test.YtjeikabpnplogaaZSB
import Derived.Test.YtjeikabpnplogaaZSC
import Derived.Test.YtjeikabpnplogaaZSD
import Derived.Test.YtjeikabpnplogaaZSE
import Derived.Test.YtjeikabpnplogaaZSF
import Derived.Test.YtjeikabpnplogaaZSG
import Derived.Test.YtjeikabpnplogaaZSH
import Derived.Test.YtjeikabpnplogaaZSI
import Derived.Test.YtjeikabpnplogaaZSN
import Derived.Test.YtjeikabpnplogaaZSK
import Derived.Test.YtjeikabpnplogaaZSP
import Derived.Test.YtjeikabpnplogaaZSQ
import Derived.Test.YtjeikabpnplogaaZQN
namespace Go.Proofs.Z
open Go Go.RowKit Go.Proofs Go.Ri Go.Proofs.Z.Fa
/-! sane of layer eight answers true. -/
theorem ent_of {X : FuncId → List Value → Option Value} (hX : XTrue X) {T : List Ent} (h : tabOK Try.prog (cfgT { X := X }) 4000 14 T = true) : ∀ e, e ∈ T → EntTrue Try.prog ro e := by
  have ht : @TbOK V0 { X := X } := by
    letI : Val := V0
    exact { X := hX }
  exact fun e he => tab_true hm (cfgT_ok { X := X }) (@xokT V0 { X := X } ht) h e he
theorem look_true {T : List Ent} (hT : ∀ e, e ∈ T → EntTrue Try.prog ro e) {f : FuncId} {vs : List Value} {v : Value} (h : Go.Ri.look T f vs = some v) : Ans f vs v := by
  obtain ⟨e, he, rfl, rfl, rfl⟩ := look_mem T f vs v h
  exact hT e he
theorem libT0_true : ∀ e, e ∈ libT0 → EntTrue Try.prog ro e := fapp (ent_of noX_true dgT0_ok) (fapp (ent_of noX_true dgT1_ok) (fapp (ent_of noX_true enT1_ok) (ent_of noX_true enT2_ok)))
theorem libX0_true : XTrue libX0 := by
  intro f vs v h
  unfold libX0 at h
  split at h
  · exact look_true (ent_of noX_true imT_ok) h
  · split at h
    · exact look_true (ent_of noX_true seT_ok) h
    · split at h
      · exact look_true libT0_true h
      · cases h
theorem libT1_true : ∀ e, e ∈ libT1 → EntTrue Try.prog ro e := fapp (ent_of noX_true byT1_ok) (fapp (ent_of noX_true byT2_ok) (fapp (ent_of noX_true deT1_ok) (fapp (ent_of noX_true deT2_ok) (fapp (ent_of libX0_true mkT_ok) (fapp (ent_of libX0_true slT_ok) (ent_of libX0_true vfT_ok))))))
theorem libX1_true : XTrue libX1 := by
  intro f vs v h
  unfold libX1 at h
  split at h
  · exact look_true libT1_true h
  · exact libX0_true f vs v h
theorem sane_ans : Ans fSane [] (.bool true) :=
  cut_call libX1_true (f := fSane) Try.func9 rfl sane_a sane_b
end Go.Proofs.Z

namespace Go.Proofs.Z
open Go Go.RowKit Go.Proofs Go.Ri Go.Proofs.Z.Fa
/-! sane, as a closed answer. -/
def saneX (f : FuncId) (vs : List Value) : Option Value := match Nat.beq f fSane with
  | true => match vs with
    | [] => some (.bool true)
    | _ => none
  | false => none
theorem saneX_true : XTrue saneX := by
  intro f vs v h
  unfold saneX at h
  split at h
  · rename_i hb
    split at h
    · cases h
      rw [Nat.eq_of_beq_eq_true hb]
      exact sane_ans
    · cases h
  · cases h
end Go.Proofs.Z
