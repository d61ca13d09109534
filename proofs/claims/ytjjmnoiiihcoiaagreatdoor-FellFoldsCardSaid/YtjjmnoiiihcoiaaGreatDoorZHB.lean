/- A part of the proofs that the laws of layer four answer true for every input. -/
import Derived.Test.YtjjmnoiiihcoiaaGreatDoorZGZ
import Derived.Lib.TrailingZeros
namespace Go.Proofs.Z
open Go Go.RowKit Go.Proofs Go.Ri Go.Proofs.Z.Fa
/-! The least grazing of a set; meetings. -/
abbrev fLeast : Nat := 93
theorem ctz_bit {s : Nat} (h0 : s ≠ 0) (hs : s < 65536) : s.testBit (Lib.ctz 16 s) = true ∧ Lib.ctz 16 s < 16 ∧ ∀ j, j < Lib.ctz 16 s → s.testBit j = false := by
  obtain ⟨hlow, hk⟩ := Lib.lowest_bit 16 s h0 hs
  refine ⟨?_, hk, fun j hj => ?_⟩
  · have := congrArg (fun x => x.testBit (Lib.ctz 16 s)) hlow
    simp only [Nat.testBit_and, Nat.testBit_two_pow_self, Bool.and_eq_true] at this
    exact this.1
  · obtain ⟨m, hm, _⟩ := Lib.ctzFrom_spec 16 s (Nat.pos_of_ne_zero h0) hs
    have e : Lib.ctz 16 s = Lib.ctzFrom 16 s := by
      unfold Lib.ctz
      rw [if_neg h0]
    have h2 : s.testBit j = (2 ^ Lib.ctzFrom 16 s * (2 * m + 1)).testBit j := congrArg (fun x => x.testBit j) hm
    rw [h2, Nat.testBit_two_pow_mul, decide_eq_false (show ¬ j ≥ Lib.ctzFrom 16 s by omega)]
    rfl
theorem t_neg16 {s : Nat} (h0 : s ≠ 0) (hs : s < 65536) : TCTrue (.bin .sub) (.int .u16 0) (.int .u16 s) (.int .u16 (65536 - s : Nat)) := by
  have := t_sub .u16 0 (s : Int)
  have e : IntKind.u16.wrap (0 - (s : Int)) = ((65536 - s : Nat) : Int) := by
    simp only [IntKind.wrap, IntKind.bits, IntKind.signed]
    simp
    omega
  rw [e] at this
  exact this
noncomputable def leRun (k : Nat) : Bool := runOK noX [⟨.ieq, sU 1, lU 0, bR false⟩, ⟨.bin .sub, lU 0, sU 1, sU 2⟩, ⟨.bin .and, sU 1, sU 2, lU (2 ^ k : Nat)⟩] [] 1000 20 fLeast [sU 1] (lI k)
set_option maxRecDepth 100000 in
theorem le_run : (allU 16 leRun) = true := by kernel_rfl
theorem least_ans {s : Nat} (h0 : s ≠ 0) (hs : s < 65536) : Ans fLeast [.int .u16 s] (.int .i64 (Lib.ctz 16 s : Nat)) := by
  obtain ⟨hlow, hk⟩ := Lib.lowest_bit 16 s h0 hs
  letI V : Val := VE (fun i => if i = 1 then (s : Int) else ((65536 - s : Nat) : Int)) (fun _ => false)
  have ha := t_and16 hs (show 65536 - s < 65536 by omega)
  rw [show s &&& (65536 - s) = 2 ^ Lib.ctz 16 s from hlow] at ha
  exact @ans V noX _ _ noX_true (fa (f_ieq (k := .u16) (m := (s : Int)) (n := 0) rfl rfl (by
    rw [beq_eq_false_iff_ne]
    omega)) (fa (f_bin rfl rfl rfl rfl (t_neg16 h0 hs)) (fa (f_bin rfl rfl rfl rfl ha) fz))) fz _ _ _ _ _ (allU_lt le_run _ hk)
/-- Where both can be, at the end of the day j days behind the first one. -/
noncomputable def meB (l : List Value) (n : Nat) (S T : Nat) (fr : Int) (j : Nat) : Nat := runS l n S fr (j + 1) &&& runS l n T fr (j + 1)
noncomputable def meK (l : List Value) (n : Nat) (S T : Nat) (fr : Int) (M : Nat) : Nat := firstBad (fun j => decide (meB l n S T fr j = 0)) M 0
theorem fb_eq {f : Nat → Bool} {M k : Nat} (h : ∀ j, j < k → f j = true) (hk : k < M) (hf : f k = false) : firstBad f M 0 = k := by
  rcases Nat.lt_trichotomy (firstBad f M 0) k with h1 | h1 | h1
  · have := firstBad_fail f M 0 (by omega)
    rw [h _ h1] at this
    cases this
  · exact h1
  · have := firstBad_pass f M 0 k (Nat.zero_le _) h1
    rw [hf] at this
    cases this
theorem fb_end {f : Nat → Bool} {M : Nat} (h : ∀ j, j < M → f j = true) : firstBad f M 0 = M := by
  have h1 := firstBad_le f M 0
  rcases Nat.lt_or_ge (firstBad f M 0) M with h2 | h2
  · have := firstBad_fail f M 0 (by omega)
    rw [h _ h2] at this
    cases this
  · omega
/-- What holds at the head of Meeting's loop. -/
def MeetI (l : List Value) (n : Nat) (S0 T0 : Nat) (fr to : Int) (s t : Nat) (D : Int) (fresh : Bool) : Prop :=
  ∃ i : Nat, s = runS l n S0 fr i ∧ t = runS l n T0 fr i ∧ fr + i ≤ to + 1 ∧ (∀ j, j < i → meB l n S0 T0 fr j = 0) ∧ (∀ e, fr + i ≤ e → e < D → dayS l n s e = s ∧ dayS l n t e = t) ∧
    (fresh = true → i = 0 ∧ D = fr) ∧ (fresh = false → 1 ≤ i ∧ (D ≤ 1048576 → fr + i ≤ D ∧ ∃ k, k < n ∧ (ldP l s k || ldP l t k) = true ∧ odP l D k = true))
section
variable {G : Int} {l : List Value} {n S0 T0 s t : Nat} {fr to D : Int} {fresh : Bool}
theorem meet_zero {i j : Nat} (hi : 1 ≤ i) (hz : ∀ j, j < i → meB l n S0 T0 fr j = 0) (hst : ∀ e, fr + i ≤ e → e < D → dayS l n (runS l n S0 fr i) e = runS l n S0 fr i ∧ dayS l n (runS l n T0 fr i) e = runS l n T0 fr i) (hj : fr + (j + 1 : Nat) ≤ D) : meB l n S0 T0 fr j = 0 := by
  rcases Nat.lt_or_ge j i with h | h
  · exact hz j h
  · have e1 := runS_stay (l := l) (n := n) (S := S0) (fr := fr) (i := i) (E := D) (fun e h1 h2 => (hst e h1 h2).1) (j + 1 - i) (by omega)
    have e2 := runS_stay (l := l) (n := n) (S := T0) (fr := fr) (i := i) (E := D) (fun e h1 h2 => (hst e h1 h2).2) (j + 1 - i) (by omega)
    rw [show i + (j + 1 - i) = j + 1 by omega] at e1 e2
    have e3 := hz (i - 1) (by omega)
    unfold meB at e3 ⊢
    rw [show i - 1 + 1 = i by omega] at e3
    rw [e1, e2, e3]
theorem meet_step (hva : validM G l n = true) (hS : S0 < 65536) (hT : T0 < 65536) (hto : to ≤ 1048576) (hD : D ≤ to) (h : MeetI l n S0 T0 fr to s t D fresh) :
    fr ≤ D ∧ (∀ j, j < (D - fr).toNat → meB l n S0 T0 fr j = 0) ∧ dayS l n s D = runS l n S0 fr ((D - fr).toNat + 1) ∧ dayS l n t D = runS l n T0 fr ((D - fr).toNat + 1) ∧
      (fresh = false → cnt (fun x => s.testBit x) 16 + cnt (fun x => t.testBit x) 16 < cnt (fun x => (dayS l n s D).testBit x) 16 + cnt (fun x => (dayS l n t D).testBit x) 16) := by
  obtain ⟨i, rfl, rfl, hi, hz, hst, hf1, hf2⟩ := h
  have hiD : fr + i ≤ D := by
    cases fresh with
    | true =>
      have := hf1 rfl
      omega
    | false => exact ((hf2 rfl).2 (by omega)).1
  have e1 := runS_stay (l := l) (n := n) (S := S0) (fr := fr) (i := i) (E := D) (fun e h1 h2 => (hst e h1 h2).1) ((D - fr).toNat - i) (by omega)
  have e2 := runS_stay (l := l) (n := n) (S := T0) (fr := fr) (i := i) (E := D) (fun e h1 h2 => (hst e h1 h2).2) ((D - fr).toNat - i) (by omega)
  rw [show i + ((D - fr).toNat - i) = (D - fr).toNat by omega] at e1 e2
  have hs := runS_lt (l := l) (n := n) (fr := fr) hS i
  have ht := runS_lt (l := l) (n := n) (fr := fr) hT i
  refine ⟨by omega, fun j hj => ?_, ?_, ?_, fun hf => ?_⟩
  · cases fresh with
    | true =>
      have := hf1 rfl
      omega
    | false => exact meet_zero (hf2 rfl).1 hz hst (by omega)
  · show _ = dayS l n (runS l n S0 fr (D - fr).toNat) (fr + (D - fr).toNat)
    rw [e1, show fr + ((D - fr).toNat : Int) = D by omega]
  · show _ = dayS l n (runS l n T0 fr (D - fr).toNat) (fr + (D - fr).toNat)
    rw [e2, show fr + ((D - fr).toNat : Int) = D by omega]
  · obtain ⟨_, k, hk, hl, ho⟩ := (hf2 hf).2 (by omega)
    have m1 := cnt_mono (S := fun x => (runS l n S0 fr i).testBit x) (T := fun x => (dayS l n (runS l n S0 fr i) D).testBit x) (fun x h => clS_sub hva hs h) 16
    have m2 := cnt_mono (S := fun x => (runS l n T0 fr i).testBit x) (T := fun x => (dayS l n (runS l n T0 fr i) D).testBit x) (fun x h => clS_sub hva ht h) 16
    rw [Bool.or_eq_true] at hl
    rcases hl with hl | hl
    · have : cnt (fun x => (runS l n S0 fr i).testBit x) 16 < cnt (fun x => (dayS l n (runS l n S0 fr i) D).testBit x) 16 := clS_grow hva hs hk ho hl
      omega
    · have : cnt (fun x => (runS l n T0 fr i).testBit x) 16 < cnt (fun x => (dayS l n (runS l n T0 fr i) D).testBit x) 16 := clS_grow hva ht hk ho hl
      omega
theorem lv_next (hva : validM G l n = true) {d : Int} (hd : 0 ≤ d) (S : Nat) (hS : S < 65536) (hm : lvM l (dayS l n S d) d n ≤ 1048576) : d + 1 ≤ lvM l (dayS l n S d) d n ∧ ∃ k, k < n ∧ ldP l (dayS l n S d) k = true ∧ odP l (lvM l (dayS l n S d) d n) k = true := by
  obtain ⟨h1, k', hk', hl', ho'⟩ := lv_open (S := dayS l n S d) hva hd hm
  refine ⟨?_, k', hk', hl', ho'⟩
  have hne : lvM l (dayS l n S d) d n ≠ d := by
    intro he
    rw [he] at ho'
    have := clS_cl (e := odP l d) hva hS hk' ho'
    unfold dayS at hl'
    rw [this] at hl'
    cases hl'
  omega
theorem meet_next (hva : validM G l n = true) (hS : S0 < 65536) (hT : T0 < 65536) (hs : s < 65536) (ht : t < 65536) (h0 : 0 ≤ fr) (hto : to ≤ 1048576) (hD : D ≤ to) (h : MeetI l n S0 T0 fr to s t D fresh) (hb : dayS l n s D &&& dayS l n t D = 0) {E : Int}
    (h1 : E ≤ lvM l (dayS l n s D) D n) (h2 : E ≤ lvM l (dayS l n t D) D n) (h3 : E = lvM l (dayS l n s D) D n ∨ E = lvM l (dayS l n t D) D n) : MeetI l n S0 T0 fr to (dayS l n s D) (dayS l n t D) E false := by
  obtain ⟨hfD, hz, es, et, _⟩ := meet_step hva hS hT hto hD h
  have hs' : dayS l n s D < 65536 := clS_lt _ _ _ _
  have ht' : dayS l n t D < 65536 := clS_lt _ _ _ _
  refine ⟨(D - fr).toNat + 1, es, et, by omega, fun j hj => ?_, fun e he1 he2 => ⟨lv_stay hva hs' (by omega) (by omega : D ≤ e) (by omega), lv_stay hva ht' (by omega) (by omega : D ≤ e) (by omega)⟩, (fun h => by cases h), fun _ => ⟨by omega, fun hm => ?_⟩⟩
  · rcases Nat.lt_or_eq_of_le (Nat.le_of_lt_succ hj) with h | rfl
    · exact hz j h
    · unfold meB
      rw [← es, ← et]
      exact hb
  · rcases h3 with rfl | rfl
    · obtain ⟨a, k, hk, hl, ho⟩ := lv_next hva (by omega) s hs hm
      exact ⟨by omega, k, hk, by rw [hl]; rfl, ho⟩
    · obtain ⟨a, k, hk, hl, ho⟩ := lv_next hva (by omega) t ht hm
      exact ⟨by omega, k, hk, by rw [hl, Bool.or_true], ho⟩
theorem meet_end (hft : fr ≤ to) (hD : to < D) (h : MeetI l n S0 T0 fr to s t D fresh) : ∀ j, j < (to + 1 - fr).toNat → meB l n S0 T0 fr j = 0 := by
  obtain ⟨i, rfl, rfl, hi, hz, hst, hf1, hf2⟩ := h
  intro j hj
  cases fresh with
  | true =>
    have := hf1 rfl
    omega
  | false => exact meet_zero (hf2 rfl).1 hz hst (by omega)
theorem meet_start (hft : fr ≤ to) : MeetI l n S0 T0 fr to S0 T0 fr true :=
  ⟨0, rfl, rfl, by omega, fun j hj => absurd hj (Nat.not_lt_zero _), fun e h1 h2 => by omega, fun _ => ⟨rfl, rfl⟩, fun h => by cases h⟩
end
end Go.Proofs.Z

namespace Go.Proofs.Z
open Go Go.RowKit Go.Proofs Go.Ri Go.Proofs.Z.Fa
/-! Meeting of package fell: runs. -/
abbrev fRMeeting : Nat := 44
def tup4 (e : Int) : RV := .pl (.tuple #[.int .i64 0, .int .i64 0, .bool false, .int .i64 e])
def meD : List RV := [fellR, sI 20, sI 21, sI 22, sI 23]
noncomputable def meE8 : Tb := { rcE 0 8 true with C := [⟨fCheck, [fellR], lI 0⟩], Y := [⟨fOnly, [sI 20], sU 10⟩, ⟨fOnly, [sI 21], sU 12⟩] }
noncomputable def meP : St := ⟨patW [(5, .ptr 1 0), (4, sI 23), (15, sU 10), (16, sU 12), (17, sI 24)] 64 0, fellB⟩
def meS (u v D : RV) : List SE := .int 10 u :: .int 12 v :: .int 24 D :: (idI [0, 1, 20, 21, 22, 23] ++ [.lst 0 0])
noncomputable def meLB : Code := hB meE8 [] fMeeting meD
noncomputable def meLK : List Fr := hK meE8 [] fMeeting meD
set_option maxRecDepth 100000 in
theorem me_enter : enterT meE8 [] fMeeting meD (meS (sU 10) (sU 12) (sI 22)) [0, 1] meP = true := by kernel_rfl
set_option maxRecDepth 100000 in
theorem me_err : (allU 8 fun k => all2 fun s => doneQ (rcE 0 k s) [] fMeeting meD [] [] (tup4 1) []) = true := by kernel_rfl
set_option maxRecDepth 100000 in
theorem me_err40 : doneQ { LL := hLL, C := [⟨fCheck, [fellR], lI 40⟩] } [] fMeeting meD [] [] (tup4 40) [] = true := by kernel_rfl
noncomputable def meC (z : Bool) : List YE := [⟨fEndOf, [fellR, sU 10, sI 24], sU 11⟩, ⟨fEndOf, [fellR, sU 12, sI 24], sU 13⟩] ++ if z then [⟨fLeaving, [fellR, sU 11, sI 24], sI 25⟩, ⟨fLeaving, [fellR, sU 13, sI 24], sI 26⟩] else []
def meT0 (z : Bool) : List TE := [⟨.bin .leq, sI 24, sI 23, bR true⟩, ⟨.bin .and, sU 11, sU 13, sU 14⟩, ⟨.ieq, sU 14, lU 0, bR z⟩]
def meMin (c : Bool) : RV := if c then sI 25 else lI 1048577
def meR (c1 c2 : Bool) : RV := if c2 then sI 26 else meMin c1
noncomputable def meT (c1 c2 : Bool) : Tb := { T := meT0 true ++ [⟨.bin .lss, sI 25, lI 1048577, bR c1⟩, ⟨.bin .lss, sI 26, meMin c1, bR c2⟩], C := meC true }
set_option maxRecDepth 100000 in
theorem me_again : (all2 fun c1 => all2 fun c2 => againT (meT c1 c2) [] meLB meLK meP (meS (sU 11) (sU 13) (meR c1 c2)) [0, 1] meP) = true := by kernel_rfl
noncomputable def meTF : Tb := { T := meT0 false, C := meC false, Y := [⟨fLeast, [sU 14], sI 27⟩] }
set_option maxRecDepth 100000 in
theorem me_found : outF meTF [] fMeeting meLB meLK meP (.tup [sI 24, sI 27, bR true, lI 0]) = true := by kernel_rfl
set_option maxRecDepth 100000 in
theorem me_out : outF { T := [⟨.bin .leq, sI 24, sI 23, bR false⟩] } [] fMeeting meLB meLK meP (tup4 0) = true := by kernel_rfl
end Go.Proofs.Z
