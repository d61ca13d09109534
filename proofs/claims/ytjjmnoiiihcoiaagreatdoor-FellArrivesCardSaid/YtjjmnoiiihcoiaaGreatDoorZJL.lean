/- A part of the proofs that the laws of layer four answer true for every input. -/
import Derived.Test.YtjjmnoiiihcoiaaGreatDoorZJJ
namespace Go.Proofs.Z
open Go Go.RowKit Go.Proofs Go.Ri Go.Proofs.Z.Fa
/-! The law FellArrives: mathematics. -/
theorem sfx_shift (u v : Value) (q : List Value) : ∀ k i, sfx (u :: v :: q) (i + 1) k = sfx q i k
  | 0, _ => rfl
  | k + 1, i => by
    show (psD (u :: v :: q) (i + 1), (psG (u :: v :: q) (i + 1)).toNat) :: sfx (u :: v :: q) (i + 1 + 1) k = (psD q i, (psG q i).toNat) :: sfx q (i + 1) k
    rw [sfx_shift u v q k (i + 1)]
    have e1 : psD (u :: v :: q) (i + 1) = psD q i := by
      unfold psD
      rw [show (i + 1) * 2 = i * 2 + 1 + 1 by omega]
      rfl
    have e2 : psG (u :: v :: q) (i + 1) = psG q i := by
      unfold psG
      rw [show (i + 1) * 2 + 1 = i * 2 + 1 + 1 + 1 by omega]
      rfl
    rw [e1, e2]
theorem sfx_cells : ∀ L : List (Int × Nat), sfx (cellsP L) 0 L.length = L
  | [] => rfl
  | (D, g) :: L => by
    show (D, ((g : Int)).toNat) :: sfx (.int .i64 D :: .int .i64 g :: cellsP L) (0 + 1) L.length = (D, g) :: L
    rw [sfx_shift, sfx_cells L, Int.toNat_natCast]
theorem psG_cells : ∀ (L : List (Int × Nat)) (i : Nat), 0 ≤ psG (cellsP L) i
  | [], i => by
    unfold psG
    show 0 ≤ intOf (([] : List Value).getD _ undef)
    rw [List.getD_nil]
    exact Int.le_refl _
  | (D, g) :: L, 0 => Int.natCast_nonneg g
  | (D, g) :: L, i + 1 => by
    have e2 : psG (cellsP ((D, g) :: L)) (i + 1) = psG (cellsP L) i := by
      unfold psG
      rw [show (i + 1) * 2 + 1 = i * 2 + 1 + 1 + 1 by omega]
      rfl
    rw [e2]
    exact psG_cells L i
theorem cells_ints : ∀ L : List (Int × Nat), ints (cellsP L)
  | [] => by intro v hv; cases hv
  | (_, _) :: L => fa ⟨_, rfl⟩ (fa ⟨_, rfl⟩ (cells_ints L))
section
variable {G : Int} {l : List Value} {n : Nat} {q : List Value} {m : Nat} {a b fr to : Int}
theorem cp0_iff : cpM G l n q m a b fr to = 0 ↔ validM G l n = true ∧ agCls G a b fr to = 8 ∧ okP l n q to a fr m = true ∧ (pst l q a fr m).1 = b := by
  unfold cpM
  constructor
  · intro h
    cases hva : validM G l n with
    | false => rw [hva, if_neg (by decide)] at h; cases h
    | true =>
      rw [hva, if_pos rfl] at h
      by_cases hc : agCls G a b fr to = 8
      · rw [if_pos hc] at h
        refine ⟨rfl, hc, ?_⟩
        cases ho : okP l n q to a fr m with
        | false => rw [ho] at h; cases h
        | true =>
          rw [ho] at h
          by_cases hb : (pst l q a fr m).1 = b
          · exact ⟨rfl, hb⟩
          · rw [decide_eq_false hb] at h; cases h
      · rw [if_neg hc] at h; cases h
  · rintro ⟨h1, h2, h3, h4⟩
    rw [h1, if_pos rfl, if_pos h2, h3, decide_eq_true h4]
    rfl
theorem ag8_iff : agCls G a b fr to = 8 ↔ 0 ≤ a ∧ a < G ∧ 0 ≤ b ∧ b < G ∧ 0 ≤ fr ∧ fr ≤ 1048576 ∧ fr ≤ to ∧ to ≤ 1048576 := by
  constructor
  · intro h
    have p := fun j (hj : j < 8) => agTest_pass (G := G) (a := a) (b := b) (fr := fr) (to := to) (j := j) (by omega)
    exact ⟨of_decide_eq_true (p 0 (by omega)), of_decide_eq_true (p 1 (by omega)), of_decide_eq_true (p 2 (by omega)), of_decide_eq_true (p 3 (by omega)), of_decide_eq_true (p 4 (by omega)), of_decide_eq_true (p 5 (by omega)), of_decide_eq_true (p 6 (by omega)), of_decide_eq_true (p 7 (by omega))⟩
  · rintro ⟨h0, h1, h2, h3, h4, h5, h6, h7⟩
    exact agCls_ok h0 h1 h2 h3 h4 h5 h6 h7
theorem cp0_leads (h : cpM G l n q m a b fr to = 0) : Leads l n to (sfx q 0 m) a fr b := by
  obtain ⟨h1, h2, h3, h4⟩ := cp0_iff.1 h
  have := okP_leads h3 m 0 (by omega)
  rw [h4] at this
  exact this
/-- What Earliest answers, in words. -/
theorem eq_cases (G : Int) (l : List Value) (n : Nat) (a b fr : Int) : (∃ e, eqM G l n a b fr = eqV 0 false e ∧ ∀ q m to, cpM G l n q m a b fr to ≠ 0) ∨
    (∃ (an bn : Nat) (day : Int), validM G l n = true ∧ a = an ∧ b = bn ∧ an < 16 ∧ bn < 16 ∧ (an : Int) < G ∧ (bn : Int) < G ∧ 0 ≤ fr ∧ fr ≤ day ∧ day ≤ 1048576 ∧ eqM G l n a b fr = eqV day true 0 ∧ (∃ L, Leads l n day L an fr bn) ∧ ∀ to L, fr ≤ to → Leads l n to L an fr bn → day ≤ to) := by
  unfold eqM
  cases hva : validM G l n with
  | false =>
    refine .inl ⟨40, if_neg (by decide), fun q m to h => ?_⟩
    have := (cp0_iff.1 h).1
    rw [hva] at this
    cases this
  | true =>
    rw [if_pos rfl]
    by_cases hc : agCls G a b fr fr = 8
    · rw [if_pos hc]
      obtain ⟨h0, h1, h2, h3, h4, h5, _, _⟩ := ag8_iff.1 hc
      have hG16 := ((validM_iff _ _ _).1 hva).2.1
      have ha16 : a.toNat < 16 := by omega
      have hS : 2 ^ a.toNat < 65536 := pow_lt16 ha16
      have hstart : ∀ to L, fr ≤ to → to ≤ 1048576 → Leads l n to L a fr b → eaK l n (2 ^ a.toNat) b.toNat fr ≤ (to + 1 - fr).toNat := by
        intro to L h6 h7 hL
        have hbit := leads_set (fr := fr) hva hS L a fr b (Int.le_refl _) h6 (by
          rw [show (fr + 1 - fr).toNat = 0 + 1 by omega]
          refine runS_sub hva hS 0 1 _ ?_
          show (2 ^ a.toNat).testBit a.toNat = true
          rw [Nat.testBit_two_pow_self]) hL
        rcases Nat.lt_or_ge (to + 1 - fr).toNat (eaK l n (2 ^ a.toNat) b.toNat fr) with h | h
        · have := firstBad_pass (fun j => !(runS l n (2 ^ a.toNat) fr j).testBit b.toNat) ((1048577 - fr).toNat + 1) 0 (to + 1 - fr).toNat (Nat.zero_le _) h
          rw [hbit] at this
          cases this
        · exact h
      have hle := firstBad_le (fun j => !(runS l n (2 ^ a.toNat) fr j).testBit b.toNat) ((1048577 - fr).toNat + 1) 0
      unfold eaM
      by_cases hk : eaK l n (2 ^ a.toNat) b.toNat fr < (1048577 - fr).toNat + 1
      · rw [if_pos hk]
        have hbit := firstBad_fail (fun j => !(runS l n (2 ^ a.toNat) fr j).testBit b.toNat) ((1048577 - fr).toNat + 1) 0 (by show eaK l n (2 ^ a.toNat) b.toNat fr < 0 + _; omega)
        have hbit : (runS l n (2 ^ a.toNat) fr (eaK l n (2 ^ a.toNat) b.toNat fr)).testBit b.toNat = true := by
          cases hh : (runS l n (2 ^ a.toNat) fr (eaK l n (2 ^ a.toNat) b.toNat fr)).testBit b.toNat with
          | true => rfl
          | false =>
            have h9 : (!(runS l n (2 ^ a.toNat) fr (eaK l n (2 ^ a.toNat) b.toNat fr)).testBit b.toNat) = false := hbit
            rw [hh] at h9
            cases h9
        obtain ⟨L, hL⟩ := set_leads hva ha16 _ _ hbit
        refine .inr ⟨a.toNat, b.toNat, if eaK l n (2 ^ a.toNat) b.toNat fr = 0 then fr else fr + eaK l n (2 ^ a.toNat) b.toNat fr - 1, rfl, by omega, by omega, ha16, by omega, by omega, by omega, h4, ?_, ?_, rfl, ⟨L, leads_mono ?_ hL⟩, fun to L h6 hL => ?_⟩
        · split <;> omega
        · split <;> omega
        · split <;> omega
        · rw [show ((a.toNat : Nat) : Int) = a by omega, show ((b.toNat : Nat) : Int) = b by omega] at hL
          rcases Int.lt_or_le 1048576 to with h7 | h7
          · split <;> omega
          · have := hstart to L h6 h7 hL
            split <;> omega
      · rw [if_neg hk]
        refine .inl ⟨0, rfl, fun q m to h => ?_⟩
        obtain ⟨g1, g2, g3, g4⟩ := cp0_iff.1 h
        obtain ⟨_, _, _, _, _, _, h6, h7⟩ := ag8_iff.1 g2
        have := hstart to _ h6 h7 (cp0_leads h)
        omega
    · rw [if_neg hc]
      refine .inl ⟨1, rfl, fun q m to h => ?_⟩
      obtain ⟨g1, g2, g3, g4⟩ := cp0_iff.1 h
      obtain ⟨h0, h1, h2, h3, h4, h5, h6, h7⟩ := ag8_iff.1 g2
      exact hc (ag8_iff.2 ⟨h0, h1, h2, h3, h4, h5, Int.le_refl _, h5⟩)
end
/-- The path, as CheckPath sees it. -/
theorem path_check {G : Int} {l : List Value} {n an bn : Nat} {fr day : Int} (hva : validM G l n = true) (ha : an < 16) (h1 : (an : Int) < G) (h2 : (bn : Int) < G) (h3 : 0 ≤ fr) (h4 : fr ≤ day) (h5 : day ≤ 1048576) (hp : ∃ L, Leads l n day L an fr bn) :
    cpM G l n (cellsP (pathL l n bn day (stK l n an bn fr day) an fr)) (stK l n an bn fr day) an bn fr day = 0 := by
  obtain ⟨k15, kok, klt⟩ := stK_ok hva ha h3 h4 hp
  have hL := pathL_leads (b := bn) hva (by omega) h5 (stK l n an bn fr day) an fr h3 kok
  have hs := sfx_cells (pathL l n bn day (stK l n an bn fr day) an fr)
  rw [pathL_len] at hs
  rw [← hs] at hL
  have := leads_okP (q := cellsP (pathL l n bn day (stK l n an bn fr day) an fr)) (m := stK l n an bn fr day) (x := (an : Int)) (d := fr) (fun i _ => psG_cells _ i) (stK l n an bn fr day) 0 (by omega) rfl hL
  exact cp0_iff.2 ⟨hva, ag8_iff.2 ⟨by omega, h1, by omega, h2, h3, by omega, h4, h5⟩, this.1, this.2⟩
/-- No list of passes is shorter; one as long doesn't come before it. -/
theorem path_least {G : Int} {l : List Value} {n an bn : Nat} {fr day : Int} (hva : validM G l n = true) (ha : an < 16) (h3 : 0 ≤ fr) (h4 : fr ≤ day) (h5 : day ≤ 1048576) (hp : ∃ L, Leads l n day L an fr bn) {q : List Value} {m : Nat} (h : Leads l n day (sfx q 0 m) an fr bn) :
    stK l n an bn fr day ≤ m ∧ (m = stK l n an bn fr day → lexGe (sfx q 0 m) (sfx (cellsP (pathL l n bn day (stK l n an bn fr day) an fr)) 0 m)) := by
  obtain ⟨k15, kok, klt⟩ := stK_ok hva ha h3 h4 hp
  have hst := (stN_iff hva (by omega) m an fr h3 h4).1 ⟨_, sfx_len q m 0, h⟩
  refine ⟨?_, fun e => ?_⟩
  · rcases Nat.lt_or_ge m (stK l n an bn fr day) with h | h
    · have := klt m h
      omega
    · exact h
  · have := pathL_first (b := bn) hva (by omega) h5 (sfx q 0 m) an fr h3 h
    rw [sfx_len] at this
    have hs := sfx_cells (pathL l n bn day (stK l n an bn fr day) an fr)
    rw [pathL_len] at hs
    rw [← e] at hs ⊢
    rw [hs]
    exact this
end Go.Proofs.Z

namespace Go.Proofs.Z
open Go Go.RowKit Go.Proofs Go.Ri Go.Proofs.Z.Fa
/-! The law FellArrives: runs. -/
abbrev fFellArrives : Nat := 14
def avD : List RV := [fellR, sI 20, sI 21, sI 22, sI 27, .slN 0 1 2]
def avLL (ne : Bool) : List LNE := [⟨0, 4, sI 1⟩, ⟨1, 2, sI 25⟩] ++ if ne then [⟨9, 2, sI 28⟩] else []
noncomputable def avBig (b1 b2 : Bool) : Tb := { X := saneX, T := [⟨.bin .gtr, sI 1, lI 200, bR b1⟩, ⟨.bin .gtr, sI 25, lI 200, bR b2⟩], LL := psLL }
set_option maxRecDepth 100000 in
theorem av_big : (all2 fun b => doneQ (avBig true b) [] fFellArrives avD [] [] (bR true) []) = true := by kernel_rfl
set_option maxRecDepth 100000 in
theorem av_big2 : doneQ (avBig false true) [] fFellArrives avD [] [] (bR true) [] = true := by kernel_rfl
def cpA (to l : RV) : List RV := [fellR, sI 20, sI 21, sI 22, to, l]
noncomputable def avNo (b : Bool) : Tb := { avBig false false with T := (avBig false false).T ++ [⟨.ieq, sI 41, lI 0, bR false⟩, ⟨.ieq, sI 40, lI 0, bR b⟩], C := [⟨fEarliest, eaD, .tup [lI 0, bR false, sI 40]⟩, ⟨fCheckPath, cpA (sI 27) (.slN 0 1 2), sI 41⟩], U := qnU [⟨fPath, eaD, .tup [nilR, bR false, sI 40], []⟩] }
set_option maxRecDepth 100000 in
theorem av_no : (all2 fun b => doneQ (avNo b) [] fFellArrives avD [] [] (bR true) []) = true := by kernel_rfl
/-- The path: its list, or nil. -/
def avP (ne : Bool) : RV := if ne then .slN 0 9 2 else nilR
noncomputable def avC (ne g : Bool) : List YE := [⟨fEarliest, eaD, .tup [sI 23, bR true, lI 0]⟩, ⟨fCheckPath, cpA (sI 27) (.slN 0 1 2), sI 41⟩, ⟨fCheckPath, cpA (sI 23) (avP ne), lI 0⟩, ⟨fCheckPath, cpA (sI 23) (.slN 0 1 2), sI 44⟩] ++ if g then [⟨fCheckPath, cpA (sI 24) (avP ne), sI 43⟩] else []
noncomputable def avT (g : Bool) : List TE := (avBig false false).T ++ ([⟨.bin .lss, sI 23, sI 22, bR false⟩, ⟨.bin .gtr, sI 23, sI 22, bR g⟩] ++ if g then [⟨.bin .sub, sI 23, lI 1, sI 24⟩, ⟨.ieq, sI 43, lI 0, bR false⟩] else [])
noncomputable def avQ (ne : Bool) : QE := ⟨fPath, eaD, (ptQ.er ne).1, (ptQ.er ne).2⟩
noncomputable def avTb (ne g : Bool) (T : List TE) : Tb := { X := saneX, T := avT g ++ T, LL := avLL ne, C := avC ne g, U := qnU [avQ ne] }
/-- The list isn't accepted; or not by the earliest day; or it is longer. -/
noncomputable def avK (ne : Bool) (c : Nat) : List TE := if c = 0 then [⟨.ieq, sI 41, lI 0, bR false⟩] else [⟨.ieq, sI 41, lI 0, bR true⟩, ⟨.bin .lss, sI 27, sI 23, bR false⟩] ++ if c = 1 then [⟨.ieq, sI 44, lI 0, bR false⟩] else [⟨.ieq, sI 44, lI 0, bR true⟩] ++ if ne then [⟨.ieq, sI 25, sI 28, bR (c == 3)⟩, ⟨.bin .gtr, sI 25, sI 28, bR (!(c == 3))⟩] else [⟨.ieq, sI 25, lI 0, bR (c == 3)⟩, ⟨.bin .gtr, sI 25, lI 0, bR (!(c == 3))⟩]
set_option maxRecDepth 100000 in
theorem av_yes : (all2 fun ne => all2 fun g => allU 3 fun c => doneQ (avTb ne g (avK ne c)) [] fFellArrives avD [] [] (bR true) []) = true := by kernel_rfl
noncomputable def avH (ne : Bool) : St := ⟨patW [(5, .slA 1 1 2), (16, if ne then .slN 3 9 2 else nilR), (20, sI 26)] 181 0, [some (.lstA 0), some (.lstA 1), some (.cells [sI 0, .slA 0 0 4] tFell false false)] ++ if ne then [some (.lst 9 tPass true)] else []⟩
def avS (i : RV) (ne : Bool) : List SE := .int 26 i :: .lst 0 0 :: .lst 1 1 :: (idI [0, 25, 28] ++ if ne then [.lst 9 9] else [])
def avR (ne : Bool) : List Nat := [0, 1, 2] ++ if ne then [3] else []
set_option maxRecDepth 100000 in
theorem av_enter : (all2 fun ne => all2 fun g => enterT (avTb ne g (avK ne 3)) [] fFellArrives avD (avS (lI 0) ne) (avR ne) (avH ne)) = true := by kernel_rfl
noncomputable def avB (ne g : Bool) : Code := hB (avTb ne g (avK ne 3)) [] fFellArrives avD
noncomputable def avKK (ne g : Bool) : List Fr := hK (avTb ne g (avK ne 3)) [] fFellArrives avD
def avHd (b : Bool) : List TE := [⟨.bin .lss, sI 26, sI 25, bR b⟩, ⟨.inb, sI 26, sI 25, bR b⟩, ⟨.inb, sI 26, sI 28, bR b⟩, ⟨.bin .add, sI 26, lI 1, sI 29⟩]
def avEq (p q : Bool) : List TE := [⟨.ieq, sI 32, sI 34, bR p⟩, ⟨.ieq, sI 33, sI 35, bR q⟩]
noncomputable def avL (T : List TE) : Tb := { T := avHd true ++ T, LL := avLL true, LX := [⟨1, 26, [sI 32, sI 33]⟩, ⟨9, 26, [sI 34, sI 35]⟩] }
set_option maxRecDepth 100000 in
theorem av_again : (all2 fun g => againT (avL (avEq true true)) [] (avB true g) (avKK true g) (avH true) (avS (sI 29) true) (avR true) (avH true)) = true := by kernel_rfl
set_option maxRecDepth 100000 in
theorem av_day : (all2 fun g => all2 fun q => outF (avL (⟨.bin .gtr, sI 32, sI 34, bR true⟩ :: avEq false q)) [] fFellArrives (avB true g) (avKK true g) (avH true) (bR true)) = true := by kernel_rfl
set_option maxRecDepth 100000 in
theorem av_gate : (all2 fun g => outF (avL (⟨.bin .gtr, sI 32, sI 34, bR false⟩ :: ⟨.bin .gtr, sI 33, sI 35, bR true⟩ :: avEq true false)) [] fFellArrives (avB true g) (avKK true g) (avH true) (bR true)) = true := by kernel_rfl
set_option maxRecDepth 100000 in
theorem av_end : (all2 fun ne => all2 fun g => outF { T := [⟨.bin .lss, sI 26, sI 25, bR false⟩], LL := avLL ne } [] fFellArrives (avB ne g) (avKK ne g) (avH ne) (bR true)) = true := by kernel_rfl
end Go.Proofs.Z
