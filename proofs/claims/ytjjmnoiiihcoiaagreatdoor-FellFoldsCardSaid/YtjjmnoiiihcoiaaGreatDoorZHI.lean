/- A part of the proofs that the laws of layer four answer true for every input. -/
import Derived.Test.YtjjmnoiiihcoiaaGreatDoorZHH
namespace Go.Proofs.Z
open Go Go.RowKit Go.Proofs Go.Ri Go.Proofs.Z.Fa
/-! What is reached within sixteen years; the law FellEvers. -/
theorem fb_le {f : Nat → Bool} {M k : Nat} (hf : f k = false) : firstBad f M 0 ≤ k := by
  rcases Nat.lt_or_ge k (firstBad f M 0) with h | h
  · have := firstBad_pass f M 0 k (Nat.zero_le _) h
    rw [hf] at this
    cases this
  · exact h
theorem agCls_ok {G a b fr to : Int} (p0 : 0 ≤ a) (p1 : a < G) (p2 : 0 ≤ b) (p3 : b < G) (p4 : 0 ≤ fr) (p5 : fr ≤ 1048576) (p6 : fr ≤ to) (p7 : to ≤ 1048576) : agCls G a b fr to = 8 := fb_end fun j _ => by
  unfold agTest
  repeat' split
  all_goals exact decide_eq_true (by omega)
section
variable {G : Int} {l : List Value} {n S a b : Nat} {fr : Int}
theorem runS_sub_cl (hva : validM G l n = true) (hS : S < 65536) : ∀ i x, (runS l n S fr i).testBit x = true → (clS l n (usP l) S).testBit x = true
  | 0, _, h => clS_sub hva hS h
  | i + 1, x, h => by
    have h : (clS l n (odP l (fr + i)) (runS l n S fr i)).testBit x = true := h
    rw [clS_bit hva (runS_lt hS i)] at h
    refine clo_min (u := fun x => (clS l n (usP l) S).testBit x) (fun y hy => runS_sub_cl hva hS i y hy) (fun k hk ho => ?_) h
    have hu : usP l k = true := by
      unfold usP
      simpa using open_us ho
    have := clS_cl hva hS hk hu
    unfold ldP at this
    simpa using this
theorem ever_set (hva : validM G l n = true) (ha : a < 16) (h0 : 0 ≤ fr) {j : Nat} (hj : 5760 ≤ j) : runS l n (2 ^ a) fr j = clS l n (usP l) (2 ^ a) := by
  have hS := pow_lt16 ha
  rcases year_count (l := l) (n := n) (S := 2 ^ a) (fr := fr) hva hS (cnt_pow ha) 16 with ⟨m, hm, he⟩ | hc
  · have e := year_stay hva hS h0 he (j - 360 * m)
    rw [show 360 * m + (j - 360 * m) = j by omega] at e
    rw [e]
    refine bits_anti (fun x hx => runS_sub_cl hva hS _ x hx) fun x hx => ?_
    rw [clS_bit hva hS] at hx
    refine clo_min (u := fun x => (runS l n (2 ^ a) fr (360 * m)).testBit x) (fun y hy => ?_) (fun k hk hu => ?_) hx
    · have := runS_sub hva hS (fr := fr) 0 (360 * m) y hy
      rwa [Nat.zero_add] at this
    · have := year_closed hva hS h0 he hk hu
      unfold ldP at this
      simpa using this
  · have := cnt_le (fun x => (runS l n (2 ^ a) fr (360 * 16)).testBit x) 16
    omega
theorem cl_apart (hva : validM G l n = true) (ha : a < 16) (hb : b < 16) {x : Nat} (h1 : (clS l n (usP l) (2 ^ a)).testBit x = true) (h2 : (clS l n (usP l) (2 ^ b)).testBit x = true) : (clS l n (usP l) (2 ^ a)).testBit b = true := by
  cases hn : (clS l n (usP l) (2 ^ a)).testBit b with
  | true => rfl
  | false =>
    rw [clS_bit hva (pow_lt16 hb)] at h2
    have := clo_min (u := fun y => !(clS l n (usP l) (2 ^ a)).testBit y) (fun y hy => by
      have hy : (2 ^ b).testBit y = true := hy
      rw [Nat.testBit_two_pow] at hy
      have := of_decide_eq_true hy
      subst this
      show (!(clS l n (usP l) (2 ^ a)).testBit b) = true
      rw [hn]
      rfl) (fun k hk hu => by
      have := clS_cl hva (pow_lt16 ha) hk hu
      unfold ldP at this
      have e : (clS l n (usP l) (2 ^ a)).testBit (gA' l k) = (clS l n (usP l) (2 ^ a)).testBit (gB' l k) := by simpa using this
      show (!(clS l n (usP l) (2 ^ a)).testBit (gA' l k)) = !(clS l n (usP l) (2 ^ a)).testBit (gB' l k)
      rw [e]) h2
    have this : (!(clS l n (usP l) (2 ^ a)).testBit x) = true := this
    rw [h1] at this
    cases this
theorem runS_self (hva : validM G l n = true) (ha : a < 16) (i : Nat) : (runS l n (2 ^ a) fr i).testBit a = true := by
  have := runS_sub hva (pow_lt16 ha) (fr := fr) 0 i a Nat.testBit_two_pow_self
  rwa [Nat.zero_add] at this
theorem meB_ne {T : Nat} {j x : Nat} (h1 : (runS l n S fr (j + 1)).testBit x = true) (h2 : (runS l n T fr (j + 1)).testBit x = true) : meB l n S T fr j ≠ 0 := fun h => by
  have : (meB l n S T fr j).testBit x = true := by
    unfold meB
    rw [Nat.testBit_and, h1, h2]
    rfl
  rw [h] at this
  simp at this
theorem evers_math (hva : validM G l n = true) (ha : (a : Int) < G) (hb : (b : Int) < G) (p4 : 0 ≤ fr) (p5 : fr ≤ 1042816) :
    ∃ d x wd, meM G l n a b fr (fr + 5760) = meV d x ((clS l n (usP l) (2 ^ a)).testBit b) 0 ∧ meM G l n b a fr (fr + 5760) = meV d x ((clS l n (usP l) (2 ^ a)).testBit b) 0 ∧ eaM l n (2 ^ a) b fr = eaV wd ((clS l n (usP l) (2 ^ a)).testBit b) ∧
      ((clS l n (usP l) (2 ^ a)).testBit b = true → d ≤ wd ∧ fr ≤ d ∧ Value.int .i64 x ∈ sL (clS l n (usP l) (2 ^ a))) := by
  have hG16 := ((validM_iff _ _ _).1 hva).2.1
  have ha16 : a < 16 := by omega
  have hb16 : b < 16 := by omega
  have hS := pow_lt16 ha16
  have hT := pow_lt16 hb16
  have hM : (fr + 5760 + 1 - fr).toNat = 5761 := by omega
  have hcomm : meK l n (2 ^ b) (2 ^ a) fr 5761 = meK l n (2 ^ a) (2 ^ b) fr 5761 := by
    unfold meK
    rw [show (fun j => decide (meB l n (2 ^ b) (2 ^ a) fr j = 0)) = fun j => decide (meB l n (2 ^ a) (2 ^ b) fr j = 0) from funext fun j => by unfold meB; rw [Nat.and_comm]]
  have hcomm2 : ∀ j, meB l n (2 ^ b) (2 ^ a) fr j = meB l n (2 ^ a) (2 ^ b) fr j := fun j => by unfold meB; rw [Nat.and_comm]
  have e1 : meM G l n a b fr (fr + 5760) = if meK l n (2 ^ a) (2 ^ b) fr 5761 < 5761 then meV (fr + meK l n (2 ^ a) (2 ^ b) fr 5761) (Lib.ctz 16 (meB l n (2 ^ a) (2 ^ b) fr (meK l n (2 ^ a) (2 ^ b) fr 5761)) : Nat) true 0 else meV 0 0 false 0 := by
    unfold meM
    rw [if_pos hva, if_pos (agCls_ok (by omega) ha (by omega) hb p4 (by omega) (by omega) (by omega)), Int.toNat_natCast, Int.toNat_natCast, hM]
  have e2 : meM G l n b a fr (fr + 5760) = if meK l n (2 ^ a) (2 ^ b) fr 5761 < 5761 then meV (fr + meK l n (2 ^ a) (2 ^ b) fr 5761) (Lib.ctz 16 (meB l n (2 ^ a) (2 ^ b) fr (meK l n (2 ^ a) (2 ^ b) fr 5761)) : Nat) true 0 else meV 0 0 false 0 := by
    unfold meM
    rw [if_pos hva, if_pos (agCls_ok (by omega) hb (by omega) ha p4 (by omega) (by omega) (by omega)), Int.toNat_natCast, Int.toNat_natCast, hM]
    simp only [hcomm, hcomm2]
  rw [e1, e2]
  unfold eaM
  cases hE : (clS l n (usP l) (2 ^ a)).testBit b with
  | true =>
    have hbS : ∀ j, 5760 ≤ j → (runS l n (2 ^ a) fr j).testBit b = true := fun j hj => by rw [ever_set hva ha16 p4 hj]; exact hE
    have hk : meK l n (2 ^ a) (2 ^ b) fr 5761 ≤ 5760 := fb_le (decide_eq_false (meB_ne (hbS 5761 (by omega)) (runS_self hva hb16 _)))
    have hek : eaK l n (2 ^ a) b fr ≤ 5761 := fb_le (by rw [hbS 5761 (by omega)]; rfl)
    have hne : meB l n (2 ^ a) (2 ^ b) fr (meK l n (2 ^ a) (2 ^ b) fr 5761) ≠ 0 := of_decide_eq_false (firstBad_fail (fun j => decide (meB l n (2 ^ a) (2 ^ b) fr j = 0)) 5761 0 (by show meK l n (2 ^ a) (2 ^ b) fr 5761 < _; omega))
    have hlt16 : meB l n (2 ^ a) (2 ^ b) fr (meK l n (2 ^ a) (2 ^ b) fr 5761) < 65536 := Nat.lt_of_le_of_lt Nat.and_le_left (runS_lt hS _)
    obtain ⟨c1, c2, _⟩ := ctz_bit hne hlt16
    have hat : (runS l n (2 ^ a) fr (eaK l n (2 ^ a) b fr)).testBit b = true := by
      have : (!(runS l n (2 ^ a) fr (eaK l n (2 ^ a) b fr)).testBit b) = false := firstBad_fail (fun j => !(runS l n (2 ^ a) fr j).testBit b) ((1048577 - fr).toNat + 1) 0 (by show eaK l n (2 ^ a) b fr < _; omega)
      simpa using this
    rw [if_pos (by omega), if_pos (by omega)]
    refine ⟨_, _, _, rfl, rfl, rfl, fun _ => ⟨?_, by omega, ?_⟩⟩
    · by_cases h0 : eaK l n (2 ^ a) b fr = 0
      · rw [if_pos h0]
        rw [h0] at hat
        have : meK l n (2 ^ a) (2 ^ b) fr 5761 ≤ 0 := fb_le (decide_eq_false (meB_ne (by
          have := runS_sub hva hS (fr := fr) 0 1 b hat
          rwa [Nat.zero_add] at this) (runS_self hva hb16 _)))
        omega
      · rw [if_neg h0]
        obtain ⟨e, he⟩ : ∃ e, eaK l n (2 ^ a) b fr = e + 1 := ⟨eaK l n (2 ^ a) b fr - 1, by omega⟩
        rw [he] at hat ⊢
        have : meK l n (2 ^ a) (2 ^ b) fr 5761 ≤ e := fb_le (decide_eq_false (meB_ne hat (runS_self hva hb16 _)))
        omega
    · refine sL_mem.2 ⟨by omega, by omega, ?_⟩
      rw [Int.toNat_natCast]
      unfold meB at c1
      rw [Nat.testBit_and, Bool.and_eq_true] at c1
      exact runS_sub_cl hva hS _ _ c1.1
  | false =>
    have hz : ∀ j, meB l n (2 ^ a) (2 ^ b) fr j = 0 := fun j => by
      apply Classical.byContradiction
      intro hne
      obtain ⟨c1, _, _⟩ := ctz_bit hne (Nat.lt_of_le_of_lt Nat.and_le_left (runS_lt hS _))
      unfold meB at c1
      rw [Nat.testBit_and, Bool.and_eq_true] at c1
      have := cl_apart hva ha16 hb16 (runS_sub_cl hva hS _ _ c1.1) (runS_sub_cl hva hT _ _ c1.2)
      rw [hE] at this
      cases this
    have hk : meK l n (2 ^ a) (2 ^ b) fr 5761 = 5761 := fb_end fun j _ => decide_eq_true (hz j)
    have hek : eaK l n (2 ^ a) b fr = (1048577 - fr).toNat + 1 := fb_end fun j _ => by
      cases h : (runS l n (2 ^ a) fr j).testBit b with
      | false => rfl
      | true =>
        have := runS_sub_cl hva hS _ _ h
        rw [hE] at this
        cases this
    rw [hk, hek, if_neg (Nat.lt_irrefl _), if_neg (Nat.lt_irrefl _)]
    exact ⟨0, 0, 0, rfl, rfl, rfl, fun h => by cases h⟩
end
abbrev fFellEvers : Nat := 15
def fvA : TE := ⟨.bin .add, sI 22, lI 5760, sI 23⟩
noncomputable def fvBig : Tb := { X := saneX, T := [⟨.bin .gtr, sI 1, lI 200, bR true⟩, fvA], LL := hLL }
set_option maxRecDepth 100000 in
theorem fv_big : doneQ fvBig [] fFellEvers eaD [] [] (bR true) [] = true := by kernel_rfl
noncomputable def fvInv : Tb := { X := saneX, T := [⟨.bin .gtr, sI 1, lI 200, bR false⟩, fvA], LL := hLL, C := [⟨fCheck, [fellR], lI 40⟩] }
set_option maxRecDepth 100000 in
theorem fv_inv : doneQ fvInv [] fFellEvers eaD [] [] (bR true) [] = true := by kernel_rfl
def fvT (i : Nat) (p : Bool) : List TE :=
  if i = 0 then [⟨.bin .lss, sI 20, lI 0, bR (!p)⟩] else if i = 1 then [⟨.bin .geq, sI 20, sI 0, bR (!p)⟩] else if i = 2 then [⟨.bin .lss, sI 21, lI 0, bR (!p)⟩] else if i = 3 then [⟨.bin .geq, sI 21, sI 0, bR (!p)⟩]
  else if i = 4 then [⟨.bin .lss, sI 22, lI 0, bR (!p)⟩] else [⟨.bin .gtr, sI 22, lI 1042816, bR (!p)⟩]
def fvN (c : Nat) : Nat → List TE
  | 0 => []
  | j + 1 => fvN c j ++ if j < c then fvT j true else if j = c then fvT j false else []
noncomputable def fvE (c : Nat) : Tb := { X := saneX, T := [⟨.bin .gtr, sI 1, lI 200, bR false⟩, fvA] ++ fvN c 6, LL := hLL, C := [⟨fCheck, [fellR], lI 0⟩] }
set_option maxRecDepth 100000 in
theorem fv_err : (allU 6 fun c => doneQ (fvE c) [] fFellEvers eaD [] [] (bR true) []) = true := by kernel_rfl
def fvM (f : Bool) : RV := .tup [sI 40, sI 41, bR f, lI 0]
noncomputable def fvU : List QE := [⟨fEver, [fellR, sI 20], .tup [.slN 0 9 1, lI 0], [some (.lst 9 tInt true)]⟩, ⟨fReach, rcD, .tup [.slN 0 9 1, lI 0], [some (.lst 9 tInt true)]⟩]
noncomputable def fvG (f : Bool) : Tb := { X := saneX, T := ([⟨.bin .gtr, sI 1, lI 200, bR false⟩, fvA] ++ fvN 6 6) ++ ([⟨.ieq, sI 40, sI 40, bR true⟩, ⟨.ieq, sI 41, sI 41, bR true⟩] ++ if f then [⟨.bin .leq, sI 40, sI 42, bR true⟩, ⟨.bin .geq, sI 40, sI 22, bR true⟩] else []), LL := hLL, C := [⟨fCheck, [fellR], lI 0⟩, ⟨fInts, [.slN 0 9 1, .slN 0 9 1], bR true⟩, ⟨fMeeting, meD, fvM f⟩, ⟨fMeeting, [fellR, sI 21, sI 20, sI 22, sI 23], fvM f⟩, ⟨fEarliest, eaD, .tup [sI 42, bR f, lI 0]⟩, ⟨fIn, [.slN 0 9 1, sI 21], bR f⟩] ++ (if f then [⟨fIn, [.slN 0 9 1, sI 41], bR true⟩] else []), U := qnU fvU }
set_option maxRecDepth 100000 in
theorem fv_run : (all2 fun f => doneQ (fvG f) [] fFellEvers eaD [] [] (bR true) []) = true := by kernel_rfl
end Go.Proofs.Z
