/- A part of the proofs that the laws of layer one answer true for every input. -/
import Derived.Test.YtedbdpaioikhgaaGreatDoorZJnLay
import Derived.WalkKit
import Derived.BigQuiet
import Derived.Deep.QuietTactic
import Derived.Deep.RegionWith
import Derived.KernelRfl
import Derived.Lib.Hide
import Derived.Handy
import Derived.Deep.RegionHeld3
import Derived.Laws.Cover1
import Derived.Laws.RangeString
import Derived.Laws.RangeAny
import Derived.Test.YtedbdpaioikhgaaGreatDoorZLoop5
namespace Go.Proofs.Z.W
open Go Go.RowKit Go.Proofs Go.Lib
/-! How long the first token is: walked. -/
def inR (a b : Int) (r : Nat) : Bool := decide (a ≤ (r : Int)) && decide ((r : Int) ≤ b)
set_option maxRecDepth 100000 in
set_option maxHeartbeats 1000000 in
theorem pred_at (a b : Int) (b1 b2 : Nat) (w : World) (h1 : w.cell? ⟨b1, 0, none⟩ = some (.int .i32 a)) (h2 : w.cell? ⟨b2, 0, none⟩ = some (.int .i32 b)) (k1 : b1 < w.heap.size) (k2 : b2 < w.heap.size) :
    PredAt Tryz.prog 159 #[.pointer (some ⟨b1, 0, none⟩), .pointer (some ⟨b2, 0, none⟩)] encR (inR a b) w := by
  intro W r hb
  have c1 : W.cell? ⟨b1, 0, none⟩ = some (.int .i32 a) := (hb.cell k1).trans h1
  have c2 : W.cell? ⟨b2, 0, none⟩ = some (.int .i32 b) := (hb.cell k2).trans h2
  clear h1 h2 hb k1 k2
  unfold FnGives
  show Calls Tryz.prog 159 #[.int .i32 (r : Int), .pointer (some ⟨b1, 0, none⟩), .pointer (some ⟨b2, 0, none⟩)] W _
  by_cases g1 : a ≤ (r : Int)
  · by_cases g2 : (r : Int) ≤ b
    · have e : inR a b r = true := by unfold inR; simp [g1, g2]
      rw [e]
      go_enter Tryz.func159, Tryz.ntmps159
      go_wp2
      all_goals (go_ret; exact ⟨rfl, by first | exact ⟨0, rfl⟩ | exact ⟨1, rfl⟩ | exact ⟨2, rfl⟩⟩)
    · have e : inR a b r = false := by unfold inR; simp [g2]
      rw [e]
      go_enter Tryz.func159, Tryz.ntmps159
      go_wp2
      all_goals (go_ret; exact ⟨rfl, by first | exact ⟨0, rfl⟩ | exact ⟨1, rfl⟩ | exact ⟨2, rfl⟩⟩)
  · have e : inR a b r = false := by unfold inR; simp [g1]
    rw [e]
    go_enter Tryz.func159, Tryz.ntmps159
    go_wp2
    all_goals (go_ret; exact ⟨rfl, by first | exact ⟨0, rfl⟩ | exact ⟨1, rfl⟩ | exact ⟨2, rfl⟩⟩)
end Go.Proofs.Z.W

namespace Go.Proofs.Z.W
open Go Go.RowKit Go.Proofs Go.Lib
theorem alloc_cell (w : World) (c : Array Value) (t : TypeId) (v : Value) (h : c[0]? = some v) : (w.alloc (.cells c t)).cell? ⟨w.heap.size, 0, none⟩ = some v := by
  have h1 : (w.alloc (.cells c t)).heap[w.heap.size]? = some (.cells c t) := by
    show (w.heap.push _)[_]? = _
    exact Array.getElem?_push_size
  simp only [World.cell?, h1]
  exact h
theorem alloc_old (w : World) (o : Obj) (a : Addr) (h : a.block < w.heap.size) : (w.alloc o).cell? a = w.cell? a :=
  World.cell?_of_block (w := w) (Below.heap_alloc w o a.block h)
theorem enters_pred : ∀ args w, (callFunc 159 args).run Tryz.prog w = .ok (.enter 159 args) w := enters_of Tryz.func159 (by kernel_rfl) rfl
/-- Bytes that a run of a range takes. -/
def runN (a b : Int) (s : ByteArray) : Int := (s.size : Int) - ((Lib.trimLeftF (inR a b) s).size : Int)
theorem two_size (w : World) (A B : Obj) : ((w.alloc A).alloc B).heap.size = w.heap.size + 2 := by
  show ((w.heap.push _).push _).size = _
  simp
set_option maxRecDepth 100000 in
set_option maxHeartbeats 1000000 in
theorem run_any (a b : Int) (bs : Nat) (s : ByteArray) (w : World) (hs : w.cell? ⟨bs, 0, none⟩ = some (.string s)) (hbs : bs < w.heap.size) (hlen : s.size ≤ 1000000000) :
    Calls Tryz.prog 157 #[.int .i32 a, .int .i32 b, .pointer (some ⟨bs, 0, none⟩)] w fun e w' => e = .returned (.int .i64 (runN a b s)) ∧ Below w.heap.size w w' := by
  let W2 := (w.alloc (.cells #[.int .i32 a] 21)).alloc (.cells #[.int .i32 b] 21)
  have e1 : (w.alloc (.cells #[.int .i32 a] 21)).heap.size = w.heap.size + 1 := by
    show (w.heap.push _).size = _
    simp
  have hcon := Any.strings_TrimLeftFunc trim_lay 159 #[.pointer (some ⟨w.heap.size, 0, none⟩), .pointer (some ⟨w.heap.size + 1, 0, none⟩)] enters_pred (inR a b) s ((w.alloc (.cells #[.int .i32 a] 21)).alloc (.cells #[.int .i32 b] 21)) (pred_at a b w.heap.size (w.heap.size + 1) _ (by
      rw [alloc_old _ _ _ (by rw [e1]; exact Nat.lt_succ_self _)]
      exact alloc_cell w _ _ _ rfl) (by
      rw [← e1]
      exact alloc_cell _ _ _ _ rfl) (by rw [two_size]; omega) (by rw [two_size]; omega))
  change Calls Tryz.prog 158 _ _ _ at hcon
  have hle : (Lib.trimLeftF (inR a b) s).size ≤ s.size := by
    unfold Lib.trimLeftF
    split
    · exact Nat.zero_le _
    · rw [ByteArray.size_extract]
      omega
  have hs2 : ∀ w', Below ((w.alloc (.cells #[.int .i32 a] 21)).alloc (.cells #[.int .i32 b] 21)).heap.size ((w.alloc (.cells #[.int .i32 a] 21)).alloc (.cells #[.int .i32 b] 21)) w' → w'.cell? ⟨bs, 0, none⟩ = some (.string s) := fun w' hg => by
    rw [hg.cell (by rw [two_size]; show bs < _; omega), alloc_old _ _ _ (by rw [e1]; show bs < _; omega), alloc_old _ _ _ hbs]
    exact hs
  have hs0 : ((w.alloc (.cells #[.int .i32 a] 21)).alloc (.cells #[.int .i32 b] 21)).cell? ⟨bs, 0, none⟩ = some (.string s) := hs2 _ (Below.refl _ _)
  have hw : IntKind.i64.wrap ((s.size : Int) - ((Lib.trimLeftF (inR a b) s).size : Int)) = runN a b s := IntWalk.i64_in _ (by omega)
  have hfin : ∀ w', Below ((w.alloc (.cells #[.int .i32 a] 21)).alloc (.cells #[.int .i32 b] 21)).heap.size ((w.alloc (.cells #[.int .i32 a] 21)).alloc (.cells #[.int .i32 b] 21)) w' → Below w.heap.size w w' := fun w' hg =>
    Below.trans (Below.alloc (Below.alloc (Below.refl _ _) (Nat.le_refl _) _) (by rw [e1]; omega) _) (hg.mono (by rw [two_size]; omega))
  generalize Lib.trimLeftF (inR a b) s = rest at hcon hle hw
  clear hs hle
  go_enter Tryz.func157, Tryz.ntmps157
  go_wp2_with (go_at_call 158; go_fit hcon; rintro e w' ⟨rfl, hg⟩; have hsw := hs2 w' hg; replace hg := Lib.hid hg)
  all_goals (go_ret; exact ⟨by rw [← hw]; rfl, hfin _ hg.out⟩)
end Go.Proofs.Z.W

namespace Go.Proofs.Z.W
open Go Go.RowKit Go.Proofs Go.Lib
/-- How many bytes the first token takes. -/
def tokN (s : ByteArray) : Int := max (max (runN 97 122 s) (runN 48 57 s)) (min (s.size : Int) 1)
set_option maxRecDepth 100000 in
set_option maxHeartbeats 2000000 in
theorem tok_any (s : ByteArray) (w : World) (hlen : s.size ≤ 1000000000) :
    Calls Tryz.prog 146 #[.string s] w fun e w' => e = .returned (.int .i64 (tokN s)) ∧ Below w.heap.size w w' := by
  have e1 : (w.alloc (.cells #[.string s] 9)).heap.size = w.heap.size + 1 := by
    show (w.heap.push _).size = _
    simp
  have hc : ∀ W, Below (w.heap.size + 1) (w.alloc (.cells #[.string s] 9)) W → W.cell? ⟨w.heap.size, 0, none⟩ = some (.string s) := fun W hb => by
    rw [hb.cell (Nat.lt_succ_self _)]
    exact alloc_cell w _ _ _ rfl
  have hR : ∀ (a b : Int) W, Below (w.heap.size + 1) (w.alloc (.cells #[.string s] 9)) W → Calls Tryz.prog 157 #[.int .i32 a, .int .i32 b, .pointer (some ⟨w.heap.size, 0, none⟩)] W fun e w' => e = .returned (.int .i64 (runN a b s)) ∧ Below (w.heap.size + 1) (w.alloc (.cells #[.string s] 9)) w' := fun a b W hb => by
    have hsz : w.heap.size + 1 ≤ W.heap.size := by rw [← e1]; exact hb.size
    refine (run_any a b w.heap.size s W (hc W hb) (by omega) hlen).mono fun e w' ⟨he, hg⟩ => ⟨he, hb.trans (hg.mono hsz)⟩
  have hA := hR 97 122
  have hB := hR 48 57
  have h0 : Below (w.heap.size + 1) (w.alloc (.cells #[.string s] 9)) (w.alloc (.cells #[.string s] 9)) := Below.refl _ _
  have hfin : ∀ w', Below (w.heap.size + 1) (w.alloc (.cells #[.string s] 9)) w' → Below w.heap.size w w' := fun w' hg =>
    Below.trans (Below.alloc (Below.refl _ _) (Nat.le_refl _) _) (hg.mono (Nat.le_succ _))
  have hT : (if (if runN 97 122 s < runN 48 57 s then runN 48 57 s else runN 97 122 s) < min (s.size : Int) 1 then min (s.size : Int) 1 else if runN 97 122 s < runN 48 57 s then runN 48 57 s else runN 97 122 s) = tokN s := by
    unfold tokN
    generalize runN 97 122 s = a
    generalize runN 48 57 s = b
    generalize min (s.size : Int) 1 = c
    split <;> split at * <;> omega
  generalize tokN s = tn at hT ⊢
  generalize runN 97 122 s = r1 at hA hT
  generalize runN 48 57 s = r2 at hB hT
  have hs0 := hc _ h0
  have hs0d := hc _ h0.drew
  clear hR e1 hlen
  replace hA := Lib.hid hA
  replace hB := Lib.hid hB
  replace hc := Lib.hid hc
  replace h0 := Lib.hid h0
  replace hfin := Lib.hid hfin
  replace hT := Lib.hid hT
  go_enter Tryz.func146, Tryz.ntmps146
  go_wp2
  go_region_held3 (fun W => Below (w.heap.size + 1) (w.alloc (.cells #[.string s] 9)) W ∧ W.cell? ⟨w.heap.size, 0, none⟩ = some (.string s)) (first | exact ⟨h0.out.drew, hs0d⟩ | exact ⟨hg1.out, hs1⟩ | exact ⟨hg2.out, hs2⟩) (first
    | (go_at_call 157; with_reducible refine Calls.mono (hA.out _ (by first | exact h0.out.drew | exact h0.out)) ?_; rintro e w1 ⟨rfl, hg1⟩; have hs1 := hc.out w1 hg1; replace hg1 := Lib.hid hg1)
    | (go_at_call 157; with_reducible refine Calls.mono (hB.out _ (by exact hg1.out)) ?_; rintro e w2 ⟨rfl, hg2⟩; have hs2 := hc.out w2 hg2; replace hg2 := Lib.hid hg2))
  all_goals (rw [hT.out]; go_wp2)
  all_goals (go_ret; exact ⟨rfl, hfin.out _ hg2.out⟩)
end Go.Proofs.Z.W

namespace Go.Proofs.Z.W
open Go Go.RowKit Go.Proofs Go.Lib
/-! What tokenLength answers, said of bytes. -/
def byteIn (a b : Nat) (c : UInt8) : Bool := decide (a ≤ c.toNat) && decide (c.toNat ≤ b)
theorem in_byte (a b : Nat) (s : ByteArray) (pos : Nat) (h : pos < s.size) (hb : b < 128) : inR a b (Utf8.decode s pos).1 = byteIn a b s[pos] ∧ (byteIn a b s[pos] = true → (Utf8.decode s pos).2 = 1) := by
  unfold inR byteIn
  by_cases ha : (s[pos]).toNat < 128
  · rw [decode_ascii s pos h ha]
    refine ⟨?_, fun _ => rfl⟩
    congr 1 <;> (rw [decide_eq_decide]; omega)
  · have hh := (decode_high s pos h (by omega)).1
    have e1 : decide (((Utf8.decode s pos).1 : Int) ≤ (b : Int)) = false := decide_eq_false (by omega)
    have e2 : decide ((s[pos]).toNat ≤ b) = false := decide_eq_false (by omega)
    rw [e1, e2, Bool.and_false, Bool.and_false]
    exact ⟨rfl, fun h => by cases h⟩
theorem getElem_list (s : ByteArray) (pos : Nat) (h : pos < s.size) : s.data.toList.drop pos = s[pos] :: s.data.toList.drop (pos + 1) := by
  have h2 : pos < s.data.toList.length := by simpa using h
  rw [List.drop_eq_getElem_cons h2]
  rfl
theorem idx_take (a b : Nat) (s : ByteArray) (hb : b < 128) : ∀ (f pos : Nat), s.size - pos ≤ f → pos ≤ s.size → Lib.idxFuncFrom (inR a b) false s f pos = if pos + ((s.data.toList.drop pos).takeWhile (byteIn a b)).length < s.size then ((pos + ((s.data.toList.drop pos).takeWhile (byteIn a b)).length : Nat) : Int) else -1
  | 0, pos, hf, hp => by
    have e : pos = s.size := by omega
    subst e
    rw [if_neg (by omega)]
    rfl
  | f + 1, pos, hf, hp => by
    unfold Lib.idxFuncFrom
    by_cases hlt : pos < s.size
    · rw [if_pos hlt, getElem_list s pos hlt]
      obtain ⟨e1, e2⟩ := in_byte a b s pos hlt hb
      rw [e1]
      by_cases hc : byteIn a b s[pos] = true
      · rw [if_neg (by rw [hc]; decide), e2 hc, idx_take a b s hb f (pos + 1) (by omega) (by omega), List.takeWhile_cons_of_pos hc, List.length_cons]
        rw [show pos + 1 + ((s.data.toList.drop (pos + 1)).takeWhile (byteIn a b)).length = pos + (((s.data.toList.drop (pos + 1)).takeWhile (byteIn a b)).length + 1) by omega]
      · rw [if_pos (by simpa using hc), List.takeWhile_cons_of_neg hc]
        rw [if_pos (by simpa using hlt)]
        rfl
    · rw [if_neg hlt, if_neg (by omega)]
def runL (a b : Nat) (l : List UInt8) : Nat := (l.takeWhile (byteIn a b)).length
theorem runL_le (a b : Nat) : ∀ l, runL a b l ≤ l.length := fun _ => (List.takeWhile_sublist _).length_le
theorem runN_eq (a b : Nat) (s : ByteArray) (hb : b < 128) : runN a b s = (runL a b s.data.toList : Nat) := by
  have h := idx_take a b s hb s.size 0 (by omega) (Nat.zero_le _)
  rw [List.drop_zero, Nat.zero_add] at h
  have hle := runL_le a b s.data.toList
  have hsz : s.data.toList.length = s.size := by simp
  have h' : Lib.idxFunc (inR a b) false s = if runL a b s.data.toList < s.size then ((runL a b s.data.toList : Nat) : Int) else -1 := h
  unfold runN Lib.trimLeftF
  rw [h']
  by_cases hlt : runL a b s.data.toList < s.size
  · rw [if_pos hlt, if_neg (by omega), ByteArray.size_extract, Int.toNat_natCast]
    omega
  · rw [if_neg hlt, if_pos rfl]
    show (s.size : Int) - 0 = _
    omega
/-- How many bytes the first token of these takes. -/
def tlen (l : List UInt8) : Nat := max (max (runL 97 122 l) (runL 48 57 l)) (min l.length 1)
theorem tokN_eq (s : ByteArray) : tokN s = (tlen s.data.toList : Nat) := by
  have e1 : runN ((97 : Nat) : Int) ((122 : Nat) : Int) s = _ := runN_eq 97 122 s (by decide)
  have e2 : runN ((48 : Nat) : Int) ((57 : Nat) : Int) s = _ := runN_eq 48 57 s (by decide)
  have hsz : s.data.toList.length = s.size := by simp
  unfold tokN tlen
  rw [show runN 97 122 s = _ from e1, show runN 48 57 s = _ from e2, hsz]
  omega
theorem tlen_le (l : List UInt8) : tlen l ≤ l.length := by
  have := runL_le 97 122 l
  have := runL_le 48 57 l
  unfold tlen
  omega
end Go.Proofs.Z.W

namespace Go.Proofs.Z.W
open Go Go.RowKit Go.Proofs Go.Lib
/-! The next token: walked. -/
/-- All that lay in w lies, but block b. -/
structure Keeps (b : Nat) (w w' : World) : Prop where
  os : w'.os = w.os
  tape : w'.tape = w.tape
  output : w'.output = w.output
  size : w.heap.size ≤ w'.heap.size
  block : ∀ k, k < w.heap.size → k ≠ b → w'.heap[k]? = w.heap[k]?
theorem Keeps.refl (b : Nat) (w : World) : Keeps b w w := ⟨rfl, rfl, rfl, Nat.le_refl _, fun _ _ _ => rfl⟩
theorem Keeps.drew {b : Nat} {w w' : World} (h : Keeps b w w') : Keeps b w w'.drew := ⟨h.os, h.tape, h.output, h.size, h.block⟩
theorem Keeps.set {b : Nat} {w w' : World} (h : Keeps b w w') (o : Nat) (v : Value) : Keeps b w (w'.setCell ⟨b, o, none⟩ v) :=
  ⟨h.os, h.tape, h.output, by simp only [World.setCell, Array.size_modify]; exact h.size, fun k hk hne => (Below.heap_setCell _ _ _ _ hne).trans (h.block k hk hne)⟩
theorem Keeps.below {b : Nat} {w w' w'' : World} (h : Keeps b w w') (hb : Below w'.heap.size w' w'') : Keeps b w w'' :=
  ⟨hb.os.trans h.os, hb.tape.trans h.tape, hb.output.trans h.output, Nat.le_trans h.size hb.size, fun k hk hne => (hb.block k (Nat.lt_of_lt_of_le hk h.size)).trans (h.block k hk hne)⟩
/-- The one cell of block b. -/
def OneCell (b : Nat) (t : TypeId) (w : World) (v : Value) : Prop := w.heap[b]? = some (.cells #[v] t (0, 0))
theorem OneCell.cell {b : Nat} {t : TypeId} {w : World} {v : Value} (h : OneCell b t w v) : w.cell? ⟨b, 0, none⟩ = some v := by
  unfold OneCell at h
  simp only [World.cell?, h]
  rfl
theorem OneCell.lt {b : Nat} {t : TypeId} {w : World} {v : Value} (h : OneCell b t w v) : b < w.heap.size := (Array.getElem?_eq_some_iff.1 h).1
theorem OneCell.free {b : Nat} {t : TypeId} {w : World} {v : Value} (h : OneCell b t w v) : w.frozen? ⟨b, 0, none⟩ = false := by
  unfold OneCell at h
  simp only [World.frozen?, h]
  rfl
theorem OneCell.set {b : Nat} {t : TypeId} {w : World} {v : Value} (h : OneCell b t w v) (u : Value) : OneCell b t (w.setCell ⟨b, 0, none⟩ u) u := by
  unfold OneCell at h ⊢
  simp only [World.setCell, Array.getElem?_modify, if_true, h, Option.map_some]
  rfl
theorem OneCell.keep {b c : Nat} {t : TypeId} {w w' : World} {v : Value} (h : OneCell c t w v) (hk : Keeps b w w') (hne : c ≠ b) : OneCell c t w' v := (hk.block c h.lt hne).trans h
theorem OneCell.below {b : Nat} {t : TypeId} {w w' : World} {v : Value} (h : OneCell b t w v) (hb : Below w.heap.size w w') : OneCell b t w' v := (hb.block b h.lt).trans h
theorem OneCell.drew {b : Nat} {t : TypeId} {w : World} {v : Value} (h : OneCell b t w v) : OneCell b t w.drew v := h
/-- Behind blanks. -/
def skp (l : List UInt8) (i : Nat) : Nat := i + ((l.drop i).takeWhile fun c => c == 32).length
theorem skp_blank {l : List UInt8} {i : Nat} (h : i < l.length) (hc : l[i] = 32) : skp l (i + 1) = skp l i := by
  unfold skp
  rw [List.drop_eq_getElem_cons h, List.takeWhile_cons_of_pos (by rw [hc]; rfl), List.length_cons]
  omega
theorem skp_stop {l : List UInt8} {i : Nat} (h : ∀ h : i < l.length, l[i] ≠ 32) : skp l i = i := by
  unfold skp
  by_cases hl : i < l.length
  · rw [List.drop_eq_getElem_cons hl, List.takeWhile_cons_of_neg (by simpa using h hl)]
    rfl
  · rw [List.drop_of_length_le (by omega)]
    rfl
theorem skp_le (l : List UInt8) (i : Nat) (h : i ≤ l.length) : skp l i ≤ l.length := by
  have := (List.takeWhile_sublist (l := l.drop i) fun c => c == 32).length_le
  rw [List.length_drop] at this
  unfold skp
  omega
def posOf (b : Nat) (w : World) : Nat := match w.cell? ⟨b, 0, none⟩ with
  | some (.int _ n) => n.toNat
  | _ => 0
theorem OneCell.behind {b : Nat} {t : TypeId} {w w' : World} {v : Value} (h : OneCell b t w v) (hb : Below w.drew.heap.size w.drew w') : OneCell b t w' v := (hb.block b h.lt).trans h
theorem Keeps.behind {b : Nat} {w w' w'' : World} (h : Keeps b w w') (hb : Below w'.drew.heap.size w'.drew w'') : Keeps b w w'' := h.drew.below hb
theorem posOf_one {b : Nat} {t : TypeId} {w : World} {k : IntKind} {n : Int} (h : OneCell b t w (.int k n)) : posOf b w = n.toNat := by
  unfold posOf
  rw [h.cell]
/-- The next token from place i on: its first byte and what is behind it. -/
def tfr (l : List UInt8) (i : Nat) : Nat := skp l i
def tto (l : List UInt8) (i : Nat) : Nat := skp l i + tlen (l.drop (skp l i))
set_option maxRecDepth 100000 in
set_option maxHeartbeats 2000000 in
theorem next_any (ba bs : Nat) (ta ts : TypeId) (i : Nat) (s : ByteArray) (w : World) (hne : ba ≠ bs) (ha : OneCell ba ta w (.int .i64 i)) (hs : OneCell bs ts w (.string s)) (hi : i ≤ s.size) (hlen : s.size ≤ 1000000000) :
    Calls Tryz.prog 145 #[.pointer (some ⟨ba, 0, none⟩), .pointer (some ⟨bs, 0, none⟩)] w fun e w' =>
      e = .returned (.tuple #[.string (s.extract (tfr s.data.toList i) (tto s.data.toList i)), .int .i64 (tfr s.data.toList i : Nat)]) ∧ Keeps ba w w' ∧ OneCell ba ta w' (.int .i64 (tto s.data.toList i : Nat)) := by
  have HA := Lib.hid ha
  have HS := Lib.hid hs
  have HN := Lib.hid hne
  have HN2 := Lib.hid (Ne.symm hne)
  have HI := Lib.hid hi
  have HL := Lib.hid hlen
  have c1 := ha.cell
  have c2 := hs.cell
  have c3 := ha.free
  clear ha hs hne hi hlen
  go_enter Tryz.func145, Tryz.ntmps145
  go_wp2
  go_loopw [] (fun wr => ∃ k : Nat, k ≤ s.size ∧ Hid (skp s.data.toList k = skp s.data.toList i) ∧ Hid (Keeps ba w wr) ∧ Hid (OneCell ba ta wr (.int .i64 k))) (fun wr => s.size - posOf ba wr)
  case atStart => exact ⟨i, HI.out, rfl, Keeps.refl _ _, HA.out⟩
  case round =>
    obtain ⟨k, hk, hsk, hkeep, hone⟩ := hrel
    have d1 := hone.out.cell
    have d2 := (HS.out.keep hkeep.out (fun e => HN.out e.symm)).cell
    have d3 := hone.out.free
    replace hk := Lib.hid hk
    by_cases hlt : k < s.size
    · have hz : (k : Int) < (s.size : Int) := by omega
      have hidx : ∀ W, (Instr.index 9 (.string s) (.int .i64 (k : Int))).run Tryz.prog W = .ok (.int .u8 ((s[k]).toNat : Nat)) W := fun W => by
        rw [run_index_string (P := Tryz.prog) (w := W) 9 s .i64 k Tryz.underlying9, dif_pos ⟨by omega, hz⟩]
        rfl
      by_cases hc : (s[k]).toNat = 32
      · rw [hc] at hidx
        have hw : IntKind.i64.wrap ((k : Int) + 1) = ((k + 1 : Nat) : Int) := by have := HL.out; rw [IntWalk.i64_in _ (by omega)]; omega
        go_wp2
        go_roundw
        case rel =>
          refine ⟨k + 1, by omega, ?_, ?_, ?_⟩
          · exact (skp_blank (l := s.data.toList) (i := k) (by simpa using hlt) (UInt8.toNat_inj.1 hc)).trans hsk
          · exact Keeps.set hkeep.out _ _
          · have := hone.out.set (.int .i64 ((k + 1 : Nat) : Int))
            first | exact this | (rw [← hw] at this; exact this)
        case measure =>
          have e1 := posOf_one hone.out
          have e2 := posOf_one (hone.out.set (.int .i64 ((k : Int) + 1)))
          rw [e1, e2]
          omega
      · have hstop : skp s.data.toList k = k := skp_stop fun h e => hc (by
          have e : s[k] = 32 := e
          rw [e]
          rfl)
        have hc' : (((s[k]).toNat : Nat) : Int) ≠ 32 := by omega
        generalize ((s[k]).toNat : Int) = cc at hidx hc'
        have hle3 := tlen_le (s.data.toList.drop k)
        have hdl : (s.data.toList.drop k).length = s.size - k := by rw [List.length_drop]; simp
        have hfr : tfr s.data.toList i = k := by unfold tfr; rw [← hsk, hstop]
        have hto : tto s.data.toList i = k + tlen (s.data.toList.drop k) := by unfold tto; rw [← hsk, hstop]
        have hT := fun W => tok_any (s.extract k s.size) W (by rw [ByteArray.size_extract]; have := HL.out; omega)
        rw [tokN_eq, show (s.extract k s.size).data.toList = s.data.toList.drop k by rw [Lib.extract_data, List.take_of_length_le (by rw [List.length_drop]; simp)]] at hT
        generalize tlen (s.data.toList.drop k) = m at hT hle3 hto
        have hb1 : (k : Int) ≤ (s.size : Int) := by have := hk.out; omega
        have hb2 : ((k + m : Nat) : Int) ≤ (s.size : Int) := by have := hk.out; omega
        have hb4 : (k : Int) + (m : Int) ≤ 1000000000 := by have := HL.out; have := hk.out; omega
        have HS2 := Lib.hid (HS.out.keep hkeep.out (fun e => HN.out e.symm))
        have hsl : ∀ W, (Instr.slice 9 (.string s) (some (.int .i64 (k : Int))) (some (.int .i64 ((k : Int) + (m : Int)))) none).run Tryz.prog W = .ok (.string (s.extract k (k + m))) W := fun W =>
          run_slice_string (P := Tryz.prog) (w := W) 9 s .i64 .i64 (k : Int) ((k : Int) + (m : Int)) Tryz.underlying9 (by omega) (by omega) (by omega)
        have hti : s.extract (tfr s.data.toList i) (tto s.data.toList i) = s.extract k (k + m) := by rw [hfr, hto]
        replace hti := Lib.hid hti
        replace hT := Lib.hid hT
        replace hfr := Lib.hid hfr
        replace hto := Lib.hid hto
        clear hle3 hdl hstop
        go_wp2
        go_region_with ((go_at_call 146; with_reducible refine Calls.mono (hT.out _) ?_; rintro e w1 ⟨rfl, hg⟩; have q1 := hone.out.behind hg; have q2 := HS2.out.behind hg; have q3 := hkeep.out.behind hg; have r1 := q1.cell; have r2 := q2.cell; have r3 := q1.free; have q4 := q1.set (.int .i64 ((k : Int) + (m : Int))); have q5 := q2.keep ((Keeps.refl ba w1).set 0 (.int .i64 ((k : Int) + (m : Int)))) HN2.out; have q6 := q3.set 0 (.int .i64 ((k : Int) + (m : Int))); have r4 := q4.cell; have r5 := q5.cell; have r6 := (q1.set (.int .i64 (IntKind.i64.wrap ((k : Int) + (m : Int))))).cell; have r7 := (q2.keep ((Keeps.refl ba w1).set 0 (.int .i64 (IntKind.i64.wrap ((k : Int) + (m : Int))))) HN2.out).cell; clear q1 q2 q3; replace q4 := Lib.hid q4; replace q5 := Lib.hid q5; replace q6 := Lib.hid q6; clear hg))
        all_goals go_wp2
        all_goals (go_ret2; exact ⟨by rw [hti.out, hfr.out]; rfl, q6.out, by rw [hto.out, Int.natCast_add]; exact q4.out⟩)
    · have hke : k = s.size := by have := hk.out; omega
      have hz : ¬ ((k : Int) < (s.size : Int)) := by omega
      have hstop : skp s.data.toList k = k := skp_stop fun h => absurd h (by simpa using hlt)
      clear hke
      have hle3 := tlen_le (s.data.toList.drop k)
      have hdl : (s.data.toList.drop k).length = s.size - k := by rw [List.length_drop]; simp
      have hfr : tfr s.data.toList i = k := by unfold tfr; rw [← hsk, hstop]
      have hto : tto s.data.toList i = k + tlen (s.data.toList.drop k) := by unfold tto; rw [← hsk, hstop]
      have hT := fun W => tok_any (s.extract k s.size) W (by rw [ByteArray.size_extract]; have := HL.out; omega)
      rw [tokN_eq, show (s.extract k s.size).data.toList = s.data.toList.drop k by rw [Lib.extract_data, List.take_of_length_le (by rw [List.length_drop]; simp)]] at hT
      generalize tlen (s.data.toList.drop k) = m at hT hle3 hto
      have hb1 : (k : Int) ≤ (s.size : Int) := by have := hk.out; omega
      have hb2 : ((k + m : Nat) : Int) ≤ (s.size : Int) := by have := hk.out; omega
      have hb4 : (k : Int) + (m : Int) ≤ 1000000000 := by have := HL.out; have := hk.out; omega
      have HS2 := Lib.hid (HS.out.keep hkeep.out (fun e => HN.out e.symm))
      have hsl : ∀ W, (Instr.slice 9 (.string s) (some (.int .i64 (k : Int))) (some (.int .i64 ((k : Int) + (m : Int)))) none).run Tryz.prog W = .ok (.string (s.extract k (k + m))) W := fun W =>
        run_slice_string (P := Tryz.prog) (w := W) 9 s .i64 .i64 (k : Int) ((k : Int) + (m : Int)) Tryz.underlying9 (by omega) (by omega) (by omega)
      have hti : s.extract (tfr s.data.toList i) (tto s.data.toList i) = s.extract k (k + m) := by rw [hfr, hto]
      replace hti := Lib.hid hti
      replace hT := Lib.hid hT
      replace hfr := Lib.hid hfr
      replace hto := Lib.hid hto
      clear hle3 hdl hstop
      go_wp2
      go_region_with ((go_at_call 146; with_reducible refine Calls.mono (hT.out _) ?_; rintro e w1 ⟨rfl, hg⟩; have q1 := hone.out.behind hg; have q2 := HS2.out.behind hg; have q3 := hkeep.out.behind hg; have r1 := q1.cell; have r2 := q2.cell; have r3 := q1.free; have q4 := q1.set (.int .i64 ((k : Int) + (m : Int))); have q5 := q2.keep ((Keeps.refl ba w1).set 0 (.int .i64 ((k : Int) + (m : Int)))) HN2.out; have q6 := q3.set 0 (.int .i64 ((k : Int) + (m : Int))); have r4 := q4.cell; have r5 := q5.cell; have r6 := (q1.set (.int .i64 (IntKind.i64.wrap ((k : Int) + (m : Int))))).cell; have r7 := (q2.keep ((Keeps.refl ba w1).set 0 (.int .i64 (IntKind.i64.wrap ((k : Int) + (m : Int))))) HN2.out).cell; clear q1 q2 q3; replace q4 := Lib.hid q4; replace q5 := Lib.hid q5; replace q6 := Lib.hid q6; clear hg))
      all_goals go_wp2
      all_goals (go_ret2; exact ⟨by rw [hti.out, hfr.out]; rfl, q6.out, by rw [hto.out, Int.natCast_add]; exact q4.out⟩)
end Go.Proofs.Z.W

namespace Go.Proofs.Z
open Go Go.RowKit Go.Proofs Go.Ri
/-! The scanner's closure as a call that changes one cell. -/
/-- From a place: the next token, where it begins, the place behind it. -/
structure NXE where
  p : RV
  t : RV
  fr : RV
  to : RV
abbrev fScan : Nat := 145
noncomputable def nxlook (T : List NXE) (p : RV) : Option NXE :=
  List.rec (motive := fun _ => Option NXE) none (fun e _ ih => match eqS e.p p with | true => some e | false => ih) T
noncomputable def nextU (s : RV) (T : List NXE) : CallF := fun f args h =>
  match Nat.beq f fScan, args with
  | true, [.ptr b o, .ptr c o2] =>
    match lkp h b, lkp h c with
    | some (.cells [p] e false false), some (.cells [s'] _ false false) =>
      match Nat.beq o 0 && Nat.beq o2 0 && not (Nat.beq b c) && eqS s s', nxlook T p with
      | true, some q => match flat0 q.t && flat0 q.fr && flat0 q.to with
        | true => some (.tup [q.t, q.fr], h.set b (some (.cells [q.to] e false false)))
        | false => none
      | _, _ => none
    | _, _ => none
  | _, _ => none
theorem nxlook_mem : ∀ (T : List NXE) (p : RV) (q : NXE), nxlook T p = some q → q ∈ T ∧ eqS q.p p = true
  | [], _, _, h => by cases h
  | e :: T, p, q, h => by
    have h : (match eqS e.p p with | true => some e | false => nxlook T p) = some q := h
    split at h
    · rename_i h1
      cases h
      exact ⟨List.mem_cons_self, h1⟩
    · obtain ⟨h1, h2⟩ := nxlook_mem T p q h
      exact ⟨List.mem_cons_of_mem _ h1, h2⟩
section
variable [Val]
def NXTrue (s : RV) (q : NXE) : Prop := ∃ (str : ByteArray) (i : Nat), cv s = .string str ∧ str.size ≤ 1000000000 ∧ i ≤ str.size ∧ cv q.p = .int .i64 i ∧
  cv q.t = .string (str.extract (W.tfr str.data.toList i) (W.tto str.data.toList i)) ∧ cv q.fr = .int .i64 (W.tfr str.data.toList i : Nat) ∧ cv q.to = .int .i64 (W.tto str.data.toList i : Nat)
theorem one_cell {E : Env} {p : EP} {w : World} {r : RV} {e : TypeId} (h : BRel E p w (.cells [r] e false false)) (hf : flat0 r = true) : W.OneCell p.1 e w (cv r) := by
  obtain ⟨cur, fr, hheap, hcs, hall, hroom, hfr⟩ := h
  obtain rfl := hfr rfl
  have hsz : cur.size = 1 := hcs.trans (hroom rfl).symm
  obtain ⟨cur⟩ := cur
  match cur, hsz with
  | [v], _ =>
  cases hall with
  | cons h1 _ =>
    have e1 := cv_rel hf h1
    unfold W.OneCell
    rw [hheap, e1]
theorem cell_one {E : Env} {p : EP} {w : World} {r : RV} {e : TypeId} (h : W.OneCell p.1 e w (cv r)) (hf : flat0 r = true) (hp : p.2 = 1) : BRel E p w (.cells [r] e false false) :=
  ⟨#[cv r], (0, 0), h, hp.symm, .cons (rel_cv hf) .nil, fun _ => hp.symm, fun _ => rfl⟩
theorem next_ok (s : RV) (T : List NXE) (hT : ∀ q, q ∈ T → NXTrue s q) : UOK (nextU s T) := by
  intro f args h r h' hu base w0 E w vs H ha
  unfold nextU at hu
  split at hu
  case h_2 => cases hu
  rename_i b o c o2 hf
  split at hu
  case h_2 => cases hu
  rename_i p e s' e2 hl1 hl2
  split at hu
  case h_2 => cases hu
  rename_i q hc hq
  split at hu
  case h_2 => cases hu
  rename_i hfl
  cases hu
  simp only [Bool.and_eq_true, Bool.not_eq_true'] at hc hfl
  obtain ⟨⟨⟨g1, g2⟩, g3⟩, g4⟩ := hc
  obtain ⟨⟨f1, f2⟩, f3⟩ := hfl
  obtain rfl := Nat.eq_of_beq_eq_true hf
  obtain rfl := Nat.eq_of_beq_eq_true g1
  obtain rfl := Nat.eq_of_beq_eq_true g2
  have hbc : b ≠ c := fun e => by rw [e, Nat.beq_refl] at g3; cases g3
  obtain ⟨hmem, hqp⟩ := nxlook_mem T p q hq
  obtain ⟨str, i, t1, t2, t3, t4, t5, t6, t7⟩ := hT q hmem
  have hfp : flat0 p = true := by rw [← eqS_eq hqp]; exact eqS_flat hqp
  have hfs : flat0 s' = true := by rw [← eqS_eq g4]; exact eqS_flat g4
  have ep : cv p = .int .i64 i := by rw [← eqS_eq hqp]; exact t4
  have es : cv s' = .string str := by rw [← eqS_eq g4]; exact t1
  have hb : at? h b = some (.cells [p] e false false) := by rw [lkp_eq] at hl1; exact hl1
  have hc : at? h c = some (.cells [s'] e2 false false) := by rw [lkp_eq] at hl2; exact hl2
  obtain ⟨p1, hp1, hbase1, hr1⟩ := H.blk1 b _ hb rfl
  obtain ⟨p2, hp2, hbase2, hr2⟩ := H.blk1 c _ hc rfl
  have hne : p1.1 ≠ p2.1 := fun e => hbc (H.inj b c _ _ p1 p2 hb hc rfl rfl hp1 hp2 e)
  have hsz : p1.2 = 1 := by
    obtain ⟨_, _, _, _, _, hroom, _⟩ := hr1
    exact (hroom rfl).symm
  have o1 := one_cell hr1 hfp
  have o2 := one_cell hr2 hfs
  rw [ep] at o1
  rw [es] at o2
  cases ha with
  | cons h1 h2 =>
  cases h2 with
  | cons h3 h4 =>
  cases h4
  obtain ⟨p1', k1, rfl⟩ := h1
  obtain ⟨p2', k2, rfl⟩ := h3
  rw [hp1] at k1
  cases k1
  rw [hp2] at k2
  cases k2
  refine Calls.mono (W.next_any p1.1 p2.1 e e2 i str w hne o1 o2 t3 t2) ?_
  rintro x w' ⟨rfl, hk, ho⟩
  refine ⟨_, E, rfl, List.prefix_refl E, ?_, ?_⟩
  · exact ⟨_, rfl, _, _, rfl, by rw [← t5]; exact rel_cv f1, _, _, rfl, by rw [← t6]; exact rel_cv f2, rfl⟩
  · refine H.write hb hp1 rfl rfl _ ⟨hk.os, hk.tape, hk.output, hk.size, fun k hlt => hk.block k (by have := H.size; have := H.lb; omega) (by omega)⟩ (fun k hk' hlt => hk.block k hlt hk') (cell_one (by rw [t7]; exact ho) f3 hsz)
end
end Go.Proofs.Z
