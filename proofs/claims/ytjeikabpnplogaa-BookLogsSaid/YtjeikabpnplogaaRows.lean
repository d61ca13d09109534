/-
  No cell of these rows narrows 'for every input' (looked for: loops, veiled, ifaces, maps, wideKeys, modest, calm, conditions, laid).
  DERIVED. THE GIVEN ROWS OF THIS SEAT. 6 by the template 'for every input the law returns true; each argument reads behind the call as it read before'; 0 by the template 'total and deterministic' (their statements: YtjeikabpnplogaaTotals.lean).
  GIVEN WITH THE SEED: the statements are not yours to turn. If you find one false, say at which input.
  Laid BY PROGRAM, IN A SANDBOX (cutbox-rows.mjs): the forced cells as the released guide's own fill.sh prints them over the translation bdd40f865607cae5… (all of the seat's roots in one cut). By AI agents, Wed Nov 11 2026. No macro, syntax, notation, axiom, sorry.
-/
import Derived.Test.YtjeikabpnplogaaChecked
import GoSem.Claim
import GoSem.ClaimJoined
import GoSem.ClaimMapViews
import Derived.JoinedTies
import Derived.KernelRfl
namespace Go.Proofs.Ytjeikabpnplogaa
/- THE CELL 'sum', in the pinned program and in every row, IS THE sha256 OF THE DUMP (.gsa) THAT YtjeikabpnplogaaProg.lean LOADS. Nothing in Lean hashes anything: it is a label: what it is worth is what the hold of that sum in a sandbox is worth. -/
noncomputable def Try.pinned : Pinned := { name := "ytjeikabpnplogaa", sum := "bdd40f865607cae516de6930ac0ec89ed84695904b9f6ab38d98ef3b69ed743e", checked := Try.checked }
namespace Rows
def none {H : Type} : Left H := { results := [], args := [] }

/-- 'earmarklaw08.BookHashes': WHATEVER THE INPUT: true; the input reads as it did. -/
def bookHashesSpec : ChangeSpec := { name := "bookHashes", fn := fun _ => fun
  | [d1, d2, d3, d4, d5, d6, d7] => { results := [.lit (.bool true)], args := [d1, d2, d3, d4, d5, d6, d7] }
  | _ => none }
def bookHashesRow : OpenClaim := { program := "ytjeikabpnplogaa", sum := "bdd40f865607cae516de6930ac0ec89ed84695904b9f6ab38d98ef3b69ed743e", func := "earmark/earmarklaw08.BookHashes", spec := "bookHashes", inPlace := ["internal/bytealg.abigen_runtime_cmpstring"], unfollowed := true, recurses := true, apart := false }
def BookHashesSaid : Prop := bookHashesRow.holds Try.pinned (OpenSpec.ofChange bookHashesSpec)

/-- ITS FALSE NEIGHBOUR: 'it returns false'. Refute it at one input. -/
def bookHashesWrong : ChangeSpec := { name := "bookHashes", fn := fun _ => fun
  | [d1, d2, d3, d4, d5, d6, d7] => { results := [.lit (.bool false)], args := [d1, d2, d3, d4, d5, d6, d7] }
  | _ => none }
def BookHashesWrongFalsely : Prop := bookHashesRow.holds Try.pinned (OpenSpec.ofChange bookHashesWrong)

/-- 'earmarklaw08.BookEntries': WHATEVER THE INPUT: true; the input reads as it did. -/
def bookEntriesSpec : ChangeSpec := { name := "bookEntries", fn := fun _ => fun
  | [d1, d2] => { results := [.lit (.bool true)], args := [d1, d2] }
  | _ => none }
def bookEntriesRow : OpenClaim := { program := "ytjeikabpnplogaa", sum := "bdd40f865607cae516de6930ac0ec89ed84695904b9f6ab38d98ef3b69ed743e", func := "earmark/earmarklaw08.BookEntries", spec := "bookEntries", inPlace := ["internal/bytealg.abigen_runtime_cmpstring"], unfollowed := true, recurses := true, apart := false }
def BookEntriesSaid : Prop := bookEntriesRow.holds Try.pinned (OpenSpec.ofChange bookEntriesSpec)

/-- ITS FALSE NEIGHBOUR: 'it returns false'. Refute it at one input. -/
def bookEntriesWrong : ChangeSpec := { name := "bookEntries", fn := fun _ => fun
  | [d1, d2] => { results := [.lit (.bool false)], args := [d1, d2] }
  | _ => none }
def BookEntriesWrongFalsely : Prop := bookEntriesRow.holds Try.pinned (OpenSpec.ofChange bookEntriesWrong)

/-- 'earmarklaw08.BookSeals': WHATEVER THE INPUT: true; the input reads as it did. -/
def bookSealsSpec : ChangeSpec := { name := "bookSeals", fn := fun _ => fun
  | [d1, d2, d3, d4] => { results := [.lit (.bool true)], args := [d1, d2, d3, d4] }
  | _ => none }
def bookSealsRow : OpenClaim := { program := "ytjeikabpnplogaa", sum := "bdd40f865607cae516de6930ac0ec89ed84695904b9f6ab38d98ef3b69ed743e", func := "earmark/earmarklaw08.BookSeals", spec := "bookSeals", inPlace := ["internal/bytealg.abigen_runtime_cmpstring"], unfollowed := true, recurses := true, apart := false }
def BookSealsSaid : Prop := bookSealsRow.holds Try.pinned (OpenSpec.ofChange bookSealsSpec)

/-- ITS FALSE NEIGHBOUR: 'it returns false'. Refute it at one input. -/
def bookSealsWrong : ChangeSpec := { name := "bookSeals", fn := fun _ => fun
  | [d1, d2, d3, d4] => { results := [.lit (.bool false)], args := [d1, d2, d3, d4] }
  | _ => none }
def BookSealsWrongFalsely : Prop := bookSealsRow.holds Try.pinned (OpenSpec.ofChange bookSealsWrong)

/-- 'earmarklaw08.BookLogs': WHATEVER THE INPUT: true; the input reads as it did. -/
def bookLogsSpec : ChangeSpec := { name := "bookLogs", fn := fun _ => fun
  | [d1, d2, d3, d4] => { results := [.lit (.bool true)], args := [d1, d2, d3, d4] }
  | _ => none }
def bookLogsRow : OpenClaim := { program := "ytjeikabpnplogaa", sum := "bdd40f865607cae516de6930ac0ec89ed84695904b9f6ab38d98ef3b69ed743e", func := "earmark/earmarklaw08.BookLogs", spec := "bookLogs", inPlace := ["internal/bytealg.abigen_runtime_cmpstring"], unfollowed := true, recurses := true, apart := false }
def BookLogsSaid : Prop := bookLogsRow.holds Try.pinned (OpenSpec.ofChange bookLogsSpec)

/-- ITS FALSE NEIGHBOUR: 'it returns false'. Refute it at one input. -/
def bookLogsWrong : ChangeSpec := { name := "bookLogs", fn := fun _ => fun
  | [d1, d2, d3, d4] => { results := [.lit (.bool false)], args := [d1, d2, d3, d4] }
  | _ => none }
def BookLogsWrongFalsely : Prop := bookLogsRow.holds Try.pinned (OpenSpec.ofChange bookLogsWrong)

/-- 'earmarklaw08.BookDisks': WHATEVER THE INPUT: true; the input reads as it did. -/
def bookDisksSpec : ChangeSpec := { name := "bookDisks", fn := fun _ => fun
  | [d1, d2] => { results := [.lit (.bool true)], args := [d1, d2] }
  | _ => none }
def bookDisksRow : OpenClaim := { program := "ytjeikabpnplogaa", sum := "bdd40f865607cae516de6930ac0ec89ed84695904b9f6ab38d98ef3b69ed743e", func := "earmark/earmarklaw08.BookDisks", spec := "bookDisks", inPlace := ["internal/bytealg.abigen_runtime_cmpstring"], unfollowed := true, recurses := true, apart := false }
def BookDisksSaid : Prop := bookDisksRow.holds Try.pinned (OpenSpec.ofChange bookDisksSpec)

/-- ITS FALSE NEIGHBOUR: 'it returns false'. Refute it at one input. -/
def bookDisksWrong : ChangeSpec := { name := "bookDisks", fn := fun _ => fun
  | [d1, d2] => { results := [.lit (.bool false)], args := [d1, d2] }
  | _ => none }
def BookDisksWrongFalsely : Prop := bookDisksRow.holds Try.pinned (OpenSpec.ofChange bookDisksWrong)

/-- 'earmarklaw08.BookBack': WHATEVER THE INPUT: true; the input reads as it did. -/
def bookBackSpec : ChangeSpec := { name := "bookBack", fn := fun _ => fun
  | [d1, d2] => { results := [.lit (.bool true)], args := [d1, d2] }
  | _ => none }
def bookBackRow : OpenClaim := { program := "ytjeikabpnplogaa", sum := "bdd40f865607cae516de6930ac0ec89ed84695904b9f6ab38d98ef3b69ed743e", func := "earmark/earmarklaw08.BookBack", spec := "bookBack", inPlace := ["internal/bytealg.abigen_runtime_cmpstring"], unfollowed := true, recurses := true, apart := false }
def BookBackSaid : Prop := bookBackRow.holds Try.pinned (OpenSpec.ofChange bookBackSpec)

/-- ITS FALSE NEIGHBOUR: 'it returns false'. Refute it at one input. -/
def bookBackWrong : ChangeSpec := { name := "bookBack", fn := fun _ => fun
  | [d1, d2] => { results := [.lit (.bool false)], args := [d1, d2] }
  | _ => none }
def BookBackWrongFalsely : Prop := bookBackRow.holds Try.pinned (OpenSpec.ofChange bookBackWrong)

/- THE SECOND FORM. 'bulk': how many values and letters a reading holds, each counted each time it is reached (what is shared counts as often as it is met; a slice's spare places count too). A statement '..UptoSaid' is the law's where the arguments, and the package variables that the reading takes, are together of bulk at most 1048576: NARROWER than '..Said'. Prove '..Said' where nothing that the law and all that it calls make is longer than what came in: it says more and counts as full. Else prove '..UptoSaid'. A law counts once. -/
mutual
def uptoBulk {H : Type} : DataW H → Nat
  | .lit (.string bytes) => bytes.length + 1
  | .lit _ => 1
  | .nil => 1
  | .ptr d => uptoBulk d + 1
  | .slice elems spare => uptoBulkAll elems + uptoBulkAll spare + 1
  | .agg parts => uptoBulkAll parts + 1
  | .iface _ d => uptoBulk d + 1
  | .map entries => uptoBulkEntries entries + 1
  | .held _ => 1
def uptoBulkAll {H : Type} : List (DataW H) → Nat
  | [] => 0
  | d :: r => uptoBulk d + uptoBulkAll r
def uptoBulkEntries {H : Type} : List (Lit × DataW H) → Nat
  | [] => 0
  | x :: r => uptoBulkEntry x + uptoBulkEntries r
def uptoBulkEntry {H : Type} : Lit × DataW H → Nat
  | (.string bytes, d) => bytes.length + uptoBulk d + 1
  | (_, d) => uptoBulk d + 1
 end
def uptoSmall : (H : Type) → List (DataW H) → Bool := fun _ ds => decide (uptoBulkAll ds ≤ 1048576)
def OpenSpec.upto (s : _root_.Go.ChangeSpec) : _root_.Go.OpenSpec := { _root_.Go.OpenSpec.ofChange s with cond := some uptoSmall }

/-- 'earmarklaw08.BookHashes', WHERE WHAT IT READS IS OF BULK AT MOST 1048576: true; the input reads as it did. -/
def bookHashesUptoRow : OpenClaim := { program := "ytjeikabpnplogaa", sum := "bdd40f865607cae516de6930ac0ec89ed84695904b9f6ab38d98ef3b69ed743e", func := "earmark/earmarklaw08.BookHashes", spec := "bookHashes", inPlace := ["internal/bytealg.abigen_runtime_cmpstring"], unfollowed := true, recurses := true, apart := false, narrowed := true }
def BookHashesUptoSaid : Prop := bookHashesUptoRow.holds Try.pinned (OpenSpec.upto bookHashesSpec)

/-- 'earmarklaw08.BookEntries', WHERE WHAT IT READS IS OF BULK AT MOST 1048576: true; the input reads as it did. -/
def bookEntriesUptoRow : OpenClaim := { program := "ytjeikabpnplogaa", sum := "bdd40f865607cae516de6930ac0ec89ed84695904b9f6ab38d98ef3b69ed743e", func := "earmark/earmarklaw08.BookEntries", spec := "bookEntries", inPlace := ["internal/bytealg.abigen_runtime_cmpstring"], unfollowed := true, recurses := true, apart := false, narrowed := true }
def BookEntriesUptoSaid : Prop := bookEntriesUptoRow.holds Try.pinned (OpenSpec.upto bookEntriesSpec)

/-- 'earmarklaw08.BookSeals', WHERE WHAT IT READS IS OF BULK AT MOST 1048576: true; the input reads as it did. -/
def bookSealsUptoRow : OpenClaim := { program := "ytjeikabpnplogaa", sum := "bdd40f865607cae516de6930ac0ec89ed84695904b9f6ab38d98ef3b69ed743e", func := "earmark/earmarklaw08.BookSeals", spec := "bookSeals", inPlace := ["internal/bytealg.abigen_runtime_cmpstring"], unfollowed := true, recurses := true, apart := false, narrowed := true }
def BookSealsUptoSaid : Prop := bookSealsUptoRow.holds Try.pinned (OpenSpec.upto bookSealsSpec)

/-- 'earmarklaw08.BookLogs', WHERE WHAT IT READS IS OF BULK AT MOST 1048576: true; the input reads as it did. -/
def bookLogsUptoRow : OpenClaim := { program := "ytjeikabpnplogaa", sum := "bdd40f865607cae516de6930ac0ec89ed84695904b9f6ab38d98ef3b69ed743e", func := "earmark/earmarklaw08.BookLogs", spec := "bookLogs", inPlace := ["internal/bytealg.abigen_runtime_cmpstring"], unfollowed := true, recurses := true, apart := false, narrowed := true }
def BookLogsUptoSaid : Prop := bookLogsUptoRow.holds Try.pinned (OpenSpec.upto bookLogsSpec)

/-- 'earmarklaw08.BookDisks', WHERE WHAT IT READS IS OF BULK AT MOST 1048576: true; the input reads as it did. -/
def bookDisksUptoRow : OpenClaim := { program := "ytjeikabpnplogaa", sum := "bdd40f865607cae516de6930ac0ec89ed84695904b9f6ab38d98ef3b69ed743e", func := "earmark/earmarklaw08.BookDisks", spec := "bookDisks", inPlace := ["internal/bytealg.abigen_runtime_cmpstring"], unfollowed := true, recurses := true, apart := false, narrowed := true }
def BookDisksUptoSaid : Prop := bookDisksUptoRow.holds Try.pinned (OpenSpec.upto bookDisksSpec)

/-- 'earmarklaw08.BookBack', WHERE WHAT IT READS IS OF BULK AT MOST 1048576: true; the input reads as it did. -/
def bookBackUptoRow : OpenClaim := { program := "ytjeikabpnplogaa", sum := "bdd40f865607cae516de6930ac0ec89ed84695904b9f6ab38d98ef3b69ed743e", func := "earmark/earmarklaw08.BookBack", spec := "bookBack", inPlace := ["internal/bytealg.abigen_runtime_cmpstring"], unfollowed := true, recurses := true, apart := false, narrowed := true }
def BookBackUptoSaid : Prop := bookBackUptoRow.holds Try.pinned (OpenSpec.upto bookBackSpec)

end Rows
end Go.Proofs.Ytjeikabpnplogaa
