/- A part of the proofs that the laws of layer one answer true for every input. -/
import Derived.Test.YtedbdpaioikhgaaDoorZTkLay
import Derived.WalkKit
import Derived.BigQuiet
import Derived.Deep.QuietTactic
import Derived.Deep.RegionWith
import Derived.KernelRfl
import Derived.Lib.Hide
import Derived.Handy
import Derived.Deep.RegionHeld3
import Derived.Laws.Cover1
namespace Go.Proofs.Z.W
open Go Go.RowKit Go.Proofs Go.Lib
/-! How long the first token is: walked. -/
def inR (a b : Int) (r : Nat) : Bool := decide (a ≤ (r : Int)) && decide ((r : Int) ≤ b)
set_option maxRecDepth 100000 in
set_option maxHeartbeats 1000000 in
theorem pred_at (a b : Int) (b1 b2 : Nat) (w : World) (h1 : w.cell? ⟨b1, 0, none⟩ = some (.int .i32 a)) (h2 : w.cell? ⟨b2, 0, none⟩ = some (.int .i32 b)) (k1 : b1 < w.heap.size) (k2 : b2 < w.heap.size) :
    PredAt Tryd.prog 98 #[.pointer (some ⟨b1, 0, none⟩), .pointer (some ⟨b2, 0, none⟩)] encR (inR a b) w := by
  intro W r hb
  have c1 : W.cell? ⟨b1, 0, none⟩ = some (.int .i32 a) := (hb.cell k1).trans h1
  have c2 : W.cell? ⟨b2, 0, none⟩ = some (.int .i32 b) := (hb.cell k2).trans h2
  clear h1 h2 hb k1 k2
  unfold FnGives
  show Calls Tryd.prog 98 #[.int .i32 (r : Int), .pointer (some ⟨b1, 0, none⟩), .pointer (some ⟨b2, 0, none⟩)] W _
  by_cases g1 : a ≤ (r : Int)
  · by_cases g2 : (r : Int) ≤ b
    · have e : inR a b r = true := by unfold inR; simp [g1, g2]
      rw [e]
      go_enter Tryd.func98, Tryd.ntmps98
      go_wp2
      all_goals (go_ret; exact ⟨rfl, by first | exact ⟨0, rfl⟩ | exact ⟨1, rfl⟩ | exact ⟨2, rfl⟩⟩)
    · have e : inR a b r = false := by unfold inR; simp [g2]
      rw [e]
      go_enter Tryd.func98, Tryd.ntmps98
      go_wp2
      all_goals (go_ret; exact ⟨rfl, by first | exact ⟨0, rfl⟩ | exact ⟨1, rfl⟩ | exact ⟨2, rfl⟩⟩)
  · have e : inR a b r = false := by unfold inR; simp [g1]
    rw [e]
    go_enter Tryd.func98, Tryd.ntmps98
    go_wp2
    all_goals (go_ret; exact ⟨rfl, by first | exact ⟨0, rfl⟩ | exact ⟨1, rfl⟩ | exact ⟨2, rfl⟩⟩)
end Go.Proofs.Z.W

namespace Go.Proofs.Z.W
open Go Go.RowKit Go.Proofs Go.Lib
theorem alloc_cell (w : World) (c : Array Value) (t : TypeId) (v : Value) (h : c[0]? = some v) : (w.alloc (.cells c t)).cell? ⟨w.heap.size, 0, none⟩ = some v := by
  have h1 : (w.alloc (.cells c t)).heap[w.heap.size]? = some (.cells c t) := by
    show (w.heap.push _)[_]? = _
    exact Array.getElem?_push_size
  simp only [World.cell?, h1]
  exact h
theorem alloc_old (w : World) (o : Obj) (a : Addr) (h : a.block < w.heap.size) : (w.alloc o).cell? a = w.cell? a :=
  World.cell?_of_block (w := w) (Below.heap_alloc w o a.block h)
theorem enters_pred : ∀ args w, (callFunc 98 args).run Tryd.prog w = .ok (.enter 98 args) w := enters_of Tryd.func98 (by kernel_rfl) rfl
/-- Bytes that a run of a range takes. -/
def runN (a b : Int) (s : ByteArray) : Int := (s.size : Int) - ((Lib.trimLeftF (inR a b) s).size : Int)
theorem two_size (w : World) (A B : Obj) : ((w.alloc A).alloc B).heap.size = w.heap.size + 2 := by
  show ((w.heap.push _).push _).size = _
  simp
set_option maxRecDepth 100000 in
set_option maxHeartbeats 1000000 in
theorem run_any (a b : Int) (bs : Nat) (s : ByteArray) (w : World) (hs : w.cell? ⟨bs, 0, none⟩ = some (.string s)) (hbs : bs < w.heap.size) (hlen : s.size ≤ 1000000000) :
    Calls Tryd.prog 96 #[.int .i32 a, .int .i32 b, .pointer (some ⟨bs, 0, none⟩)] w fun e w' => e = .returned (.int .i64 (runN a b s)) ∧ Below w.heap.size w w' := by
  let W2 := (w.alloc (.cells #[.int .i32 a] 21)).alloc (.cells #[.int .i32 b] 21)
  have e1 : (w.alloc (.cells #[.int .i32 a] 21)).heap.size = w.heap.size + 1 := by
    show (w.heap.push _).size = _
    simp
  have hcon := Any.strings_TrimLeftFunc trim_lay 98 #[.pointer (some ⟨w.heap.size, 0, none⟩), .pointer (some ⟨w.heap.size + 1, 0, none⟩)] enters_pred (inR a b) s ((w.alloc (.cells #[.int .i32 a] 21)).alloc (.cells #[.int .i32 b] 21)) (pred_at a b w.heap.size (w.heap.size + 1) _ (by
      rw [alloc_old _ _ _ (by rw [e1]; exact Nat.lt_succ_self _)]
      exact alloc_cell w _ _ _ rfl) (by
      rw [← e1]
      exact alloc_cell _ _ _ _ rfl) (by rw [two_size]; omega) (by rw [two_size]; omega))
  change Calls Tryd.prog 97 _ _ _ at hcon
  have hle : (Lib.trimLeftF (inR a b) s).size ≤ s.size := by
    unfold Lib.trimLeftF
    split
    · exact Nat.zero_le _
    · rw [ByteArray.size_extract]
      omega
  have hs2 : ∀ w', Below ((w.alloc (.cells #[.int .i32 a] 21)).alloc (.cells #[.int .i32 b] 21)).heap.size ((w.alloc (.cells #[.int .i32 a] 21)).alloc (.cells #[.int .i32 b] 21)) w' → w'.cell? ⟨bs, 0, none⟩ = some (.string s) := fun w' hg => by
    rw [hg.cell (by rw [two_size]; show bs < _; omega), alloc_old _ _ _ (by rw [e1]; show bs < _; omega), alloc_old _ _ _ hbs]
    exact hs
  have hs0 : ((w.alloc (.cells #[.int .i32 a] 21)).alloc (.cells #[.int .i32 b] 21)).cell? ⟨bs, 0, none⟩ = some (.string s) := hs2 _ (Below.refl _ _)
  have hw : IntKind.i64.wrap ((s.size : Int) - ((Lib.trimLeftF (inR a b) s).size : Int)) = runN a b s := IntWalk.i64_in _ (by omega)
  have hfin : ∀ w', Below ((w.alloc (.cells #[.int .i32 a] 21)).alloc (.cells #[.int .i32 b] 21)).heap.size ((w.alloc (.cells #[.int .i32 a] 21)).alloc (.cells #[.int .i32 b] 21)) w' → Below w.heap.size w w' := fun w' hg =>
    Below.trans (Below.alloc (Below.alloc (Below.refl _ _) (Nat.le_refl _) _) (by rw [e1]; omega) _) (hg.mono (by rw [two_size]; omega))
  generalize Lib.trimLeftF (inR a b) s = rest at hcon hle hw
  clear hs hle
  go_enter Tryd.func96, Tryd.ntmps96
  go_wp2_with (go_at_call 97; go_fit hcon; rintro e w' ⟨rfl, hg⟩; have hsw := hs2 w' hg; replace hg := Lib.hid hg)
  all_goals (go_ret; exact ⟨by rw [← hw]; rfl, hfin _ hg.out⟩)
end Go.Proofs.Z.W

namespace Go.Proofs.Z.W
open Go Go.RowKit Go.Proofs Go.Lib
/-- How many bytes the first token takes. -/
def tokN (s : ByteArray) : Int := max (max (runN 97 122 s) (runN 48 57 s)) (min (s.size : Int) 1)
set_option maxRecDepth 100000 in
set_option maxHeartbeats 2000000 in
theorem tok_any (s : ByteArray) (w : World) (hlen : s.size ≤ 1000000000) :
    Calls Tryd.prog 85 #[.string s] w fun e w' => e = .returned (.int .i64 (tokN s)) ∧ Below w.heap.size w w' := by
  have e1 : (w.alloc (.cells #[.string s] 9)).heap.size = w.heap.size + 1 := by
    show (w.heap.push _).size = _
    simp
  have hc : ∀ W, Below (w.heap.size + 1) (w.alloc (.cells #[.string s] 9)) W → W.cell? ⟨w.heap.size, 0, none⟩ = some (.string s) := fun W hb => by
    rw [hb.cell (Nat.lt_succ_self _)]
    exact alloc_cell w _ _ _ rfl
  have hR : ∀ (a b : Int) W, Below (w.heap.size + 1) (w.alloc (.cells #[.string s] 9)) W → Calls Tryd.prog 96 #[.int .i32 a, .int .i32 b, .pointer (some ⟨w.heap.size, 0, none⟩)] W fun e w' => e = .returned (.int .i64 (runN a b s)) ∧ Below (w.heap.size + 1) (w.alloc (.cells #[.string s] 9)) w' := fun a b W hb => by
    have hsz : w.heap.size + 1 ≤ W.heap.size := by rw [← e1]; exact hb.size
    refine (run_any a b w.heap.size s W (hc W hb) (by omega) hlen).mono fun e w' ⟨he, hg⟩ => ⟨he, hb.trans (hg.mono hsz)⟩
  have hA := hR 97 122
  have hB := hR 48 57
  have h0 : Below (w.heap.size + 1) (w.alloc (.cells #[.string s] 9)) (w.alloc (.cells #[.string s] 9)) := Below.refl _ _
  have hfin : ∀ w', Below (w.heap.size + 1) (w.alloc (.cells #[.string s] 9)) w' → Below w.heap.size w w' := fun w' hg =>
    Below.trans (Below.alloc (Below.refl _ _) (Nat.le_refl _) _) (hg.mono (Nat.le_succ _))
  have hT : (if (if runN 97 122 s < runN 48 57 s then runN 48 57 s else runN 97 122 s) < min (s.size : Int) 1 then min (s.size : Int) 1 else if runN 97 122 s < runN 48 57 s then runN 48 57 s else runN 97 122 s) = tokN s := by
    unfold tokN
    generalize runN 97 122 s = a
    generalize runN 48 57 s = b
    generalize min (s.size : Int) 1 = c
    split <;> split at * <;> omega
  generalize tokN s = tn at hT ⊢
  generalize runN 97 122 s = r1 at hA hT
  generalize runN 48 57 s = r2 at hB hT
  have hs0 := hc _ h0
  have hs0d := hc _ h0.drew
  clear hR e1 hlen
  replace hA := Lib.hid hA
  replace hB := Lib.hid hB
  replace hc := Lib.hid hc
  replace h0 := Lib.hid h0
  replace hfin := Lib.hid hfin
  replace hT := Lib.hid hT
  go_enter Tryd.func85, Tryd.ntmps85
  go_wp2
  go_region_held3 (fun W => Below (w.heap.size + 1) (w.alloc (.cells #[.string s] 9)) W ∧ W.cell? ⟨w.heap.size, 0, none⟩ = some (.string s)) (first | exact ⟨h0.out.drew, hs0d⟩ | exact ⟨hg1.out, hs1⟩ | exact ⟨hg2.out, hs2⟩) (first
    | (go_at_call 96; with_reducible refine Calls.mono (hA.out _ (by first | exact h0.out.drew | exact h0.out)) ?_; rintro e w1 ⟨rfl, hg1⟩; have hs1 := hc.out w1 hg1; replace hg1 := Lib.hid hg1)
    | (go_at_call 96; with_reducible refine Calls.mono (hB.out _ (by exact hg1.out)) ?_; rintro e w2 ⟨rfl, hg2⟩; have hs2 := hc.out w2 hg2; replace hg2 := Lib.hid hg2))
  all_goals (rw [hT.out]; go_wp2)
  all_goals (go_ret; exact ⟨rfl, hfin.out _ hg2.out⟩)
end Go.Proofs.Z.W
