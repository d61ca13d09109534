/- A part of the proofs that the laws of layer four answer true for every input. -/
import Derived.Test.YtjjmnoiiihcoiaaGreatDoorZGH
import Derived.Test.YtjjmnoiiihcoiaaGreatDoorZLoop6
namespace Go.Proofs.Z
open Go Go.RowKit Go.Proofs Go.Ri Go.Proofs.Z.Fa
/-! Sets of grazings: as bits; only, has, leads, usable. -/
def sU (i : Nat) : RV := .sym (.int .u16) i
def lU (n : Int) : RV := .pl (.int .u16 n)
theorem wrap16 {n : Nat} (h : n < 65536) : IntKind.u16.wrap (n : Int) = n := by
  simp only [IntKind.wrap, IntKind.bits, IntKind.signed]
  simp
  omega
theorem bv16 {n : Nat} (h : n < 65536) : (BitVec.ofInt 16 (n : Int)).toNat = n := by
  rw [BitVec.toNat_ofInt]
  simp
  omega
theorem t_and16 {m n : Nat} (hm : m < 65536) (hn : n < 65536) : TCTrue (.bin .and) (.int .u16 m) (.int .u16 n) (.int .u16 (m &&& n : Nat)) := fun P ty a b w => by
  have e : ((BitVec.ofInt IntKind.u16.bits (m : Int)) &&& (BitVec.ofInt IntKind.u16.bits (n : Int))).toNat = m &&& n := by
    rw [BitVec.toNat_and]
    show (BitVec.ofInt 16 (m : Int)).toNat &&& (BitVec.ofInt 16 (n : Int)).toNat = _
    rw [bv16 hm, bv16 hn]
  have hlt : m &&& n < 65536 := Nat.lt_of_le_of_lt Nat.and_le_left hm
  simp only [int_guard, binOp, Op.intBits, Sem.run_bind, Result.andThen_ok, ne_eq, not_true_eq_false, if_false, e, wrap16 hlt]
  rfl
theorem t_or16 {m n : Nat} (hm : m < 65536) (hn : n < 65536) : TCTrue (.bin .or) (.int .u16 m) (.int .u16 n) (.int .u16 (m ||| n : Nat)) := fun P ty a b w => by
  have e : ((BitVec.ofInt IntKind.u16.bits (m : Int)) ||| (BitVec.ofInt IntKind.u16.bits (n : Int))).toNat = m ||| n := by
    rw [BitVec.toNat_or]
    show (BitVec.ofInt 16 (m : Int)).toNat ||| (BitVec.ofInt 16 (n : Int)).toNat = _
    rw [bv16 hm, bv16 hn]
  have hlt : m ||| n < 65536 := Nat.or_lt_two_pow (n := 16) hm hn
  simp only [int_guard, binOp, Op.intBits, Sem.run_bind, Result.andThen_ok, ne_eq, not_true_eq_false, if_false, e, wrap16 hlt]
  rfl
theorem t_shl16 {a : Nat} (ha : a < 16) : TCTrue (.bin .shl) (.int .u16 1) (.int .i64 a) (.int .u16 (2 ^ a : Nat)) := fun P ty x y w => by
  have hlt : 2 ^ a < 65536 := by
    have := Nat.pow_lt_pow_right (a := 2) (by decide) ha
    simpa using this
  have e : (1 : Int) * 2 ^ (min ((a : Int)).toNat IntKind.u16.bits) = ((2 ^ a : Nat) : Int) := by
    rw [Int.toNat_natCast, show min a IntKind.u16.bits = a from Nat.min_eq_left (by show a ≤ 16; omega)]
    simp
  have h0 : ¬ ((a : Int) < 0) := by omega
  simp only [int_guard, binOp, Op.shift, Sem.run_bind, Result.andThen_ok, if_neg h0, e, wrap16 hlt]
  rfl
section
variable [Val] {a b c : RV}
theorem f_bin {op : BinOp} {u v z : Value} (ha : cv a = u) (hb : cv b = v) (hc : cv c = z) (hf : flat0 c = true) (h : TCTrue (.bin op) u v z) : TETrue ⟨.bin op, a, b, c⟩ := by
  refine ⟨hf, ?_⟩
  show TCTrue _ (cv a) (cv b) (cv c)
  rw [ha, hb, hc]
  exact h
end
abbrev fOnly : Nat := 78
abbrev fHas : Nat := 79
abbrev fLeads : Nat := 114
abbrev fUsable : Nat := 97
/-! only -/
noncomputable def onlyRun : Bool := runOK noX [⟨.bin .shl, lU 1, sI 0, sU 1⟩] [] 1000 20 fOnly [sI 0] (sU 1)
set_option maxRecDepth 100000 in
theorem only_run : onlyRun = true := by kernel_rfl
theorem only_ans {a : Nat} (h : a < 16) : Ans fOnly [.int .i64 a] (.int .u16 (2 ^ a : Nat)) := by
  letI V : Val := VE (fun i => if i = 0 then (a : Int) else ((2 ^ a : Nat) : Int)) (fun _ => false)
  exact @ans V noX _ _ noX_true (fa (f_bin rfl rfl rfl rfl (t_shl16 h)) fz) fz _ _ _ _ _ only_run
/-! has -/
theorem and_pow (s a : Nat) : s &&& 2 ^ a = if s.testBit a then 2 ^ a else 0 := by
  apply Nat.eq_of_testBit_eq
  intro i
  rw [Nat.testBit_and, Nat.testBit_two_pow]
  by_cases h : a = i
  · subst h
    cases hs : s.testBit a <;> simp
  · cases hs : s.testBit a <;> simp [h]
noncomputable def hasRun (q : Bool) : Bool := runOK noX [⟨.bin .and, sU 1, sU 2, sU 3⟩, ⟨.ieq, sU 3, lU 0, bR (!q)⟩] [⟨fOnly, [sI 0], sU 2⟩] 1000 20 fHas [sU 1, sI 0] (bR q)
set_option maxRecDepth 100000 in
theorem has_run : (all2 hasRun) = true := by kernel_rfl
theorem has_ans {s a : Nat} (hs : s < 65536) (h : a < 16) : Ans fHas [.int .u16 s, .int .i64 a] (.bool (s.testBit a)) := by
  letI V : Val := VE (fun i => if i = 0 then (a : Int) else if i = 1 then (s : Int) else if i = 2 then ((2 ^ a : Nat) : Int) else ((s &&& 2 ^ a : Nat) : Int)) (fun _ => false)
  have hlt : 2 ^ a < 65536 := by
    have := Nat.pow_lt_pow_right (a := 2) (by decide) h
    simpa using this
  exact @ans V noX _ _ noX_true (fa (f_bin rfl rfl rfl rfl (t_and16 hs hlt)) (fa (f_ieq (k := .u16) (m := ((s &&& 2 ^ a : Nat) : Int)) (n := 0) rfl rfl (by
    rw [and_pow]
    cases s.testBit a
    · rfl
    · have : 2 ^ a ≠ 0 := Nat.ne_of_gt (Nat.two_pow_pos a)
      show (((2 ^ a : Nat) : Int) == 0) = false
      rw [beq_eq_false_iff_ne]
      omega)) fz)) (fa (only_ans h) fz) _ _ _ _ _ (all2_all has_run (s.testBit a))
/-! leads -/
noncomputable def leadsRun (p q : Bool) : Bool := runOK noX [] [⟨fHas, [sU 8, sI 3], bR p⟩, ⟨fHas, [sU 8, sI 4], bR q⟩] 1000 20 fLeads [sU 8, .agg [sI 3, sI 4, sI 5, sI 6]] (bR (p != q))
set_option maxRecDepth 100000 in
theorem leads_run : (all2 fun p => all2 fun q => leadsRun p q) = true := by kernel_rfl
theorem leads_ans {s : Nat} {a b : Int} (fr to : Int) (hs : s < 65536) (ha : 0 ≤ a) (ha2 : a < 16) (hb : 0 ≤ b) (hb2 : b < 16) : Ans fLeads [.int .u16 s, gateV a b fr to] (.bool (s.testBit a.toNat != s.testBit b.toNat)) := by
  letI V : Val := VE (fun i => if i = 8 then (s : Int) else if i = 3 then a else if i = 4 then b else if i = 5 then fr else to) (fun _ => false)
  have h1 := has_ans hs (a := a.toNat) (by omega)
  have h2 := has_ans hs (a := b.toNat) (by omega)
  rw [show ((a.toNat : Nat) : Int) = a by omega] at h1
  rw [show ((b.toNat : Nat) : Int) = b by omega] at h2
  exact @ans V noX _ _ noX_true fz (fa h1 (fa h2 fz)) _ _ _ _ _ (all2_all (all2_all leads_run (s.testBit a.toNat)) (s.testBit b.toNat))
/-! usable -/
noncomputable def usRun (q : Bool) : Bool := runOK noX [⟨.ieq, sI 5, sI 6, bR (!q)⟩] [] 1000 20 fUsable [.agg [sI 3, sI 4, sI 5, sI 6]] (bR q)
set_option maxRecDepth 100000 in
theorem us_run : (all2 usRun) = true := by kernel_rfl
theorem usable_ans (a b fr to : Int) : Ans fUsable [gateV a b fr to] (.bool (!(fr == to))) := by
  letI V : Val := VE (fun i => if i = 3 then a else if i = 4 then b else if i = 5 then fr else to) (fun _ => false)
  have := @ans V noX _ _ noX_true (fa (f_ieq (k := .i64) (m := fr) (n := to) (q := !(!(fr == to))) rfl rfl (by simp)) fz) fz _ _ _ _ _ (all2_all us_run (!(fr == to)))
  exact this
/-! Sets as bits. -/
def setN (S : Nat → Bool) : Nat → Nat
  | 0 => 0
  | k + 1 => setN S k ||| (if S k then 2 ^ k else 0)
theorem setN_bit (S : Nat → Bool) : ∀ k i, (setN S k).testBit i = (decide (i < k) && S i)
  | 0, i => by simp [setN]
  | k + 1, i => by
    unfold setN
    rw [Nat.testBit_or, setN_bit S k i]
    by_cases h : i = k
    · subst h
      cases S i <;> simp
    · have h1 : decide (i < k + 1) = decide (i < k) := decide_eq_decide.2 (by omega)
      rw [h1]
      cases S k
      · simp
      · have h2 : ¬ k = i := fun e => h e.symm
        simp [h2]
theorem setN_lt (S : Nat → Bool) : setN S 16 < 65536 := Nat.lt_pow_two_of_testBit (n := 16) _ fun i hi => by
  rw [setN_bit]
  simp
  omega
theorem bits_ext {s : Nat} (hs : s < 65536) {S : Nat → Bool} (h : ∀ i, i < 16 → s.testBit i = S i) : s = setN S 16 := by
  apply Nat.eq_of_testBit_eq
  intro i
  rw [setN_bit]
  by_cases hi : i < 16
  · rw [h i hi]
    simp [hi]
  · have : s.testBit i = false := Nat.testBit_lt_two_pow (Nat.lt_of_lt_of_le hs (by
      have := Nat.pow_le_pow_right (n := 2) (by decide) (show 16 ≤ i by omega)
      simpa using this))
    rw [this]
    simp [hi]
/-! Closures. -/
open Classical in
/-- What is reached from s by the gates that serve. -/
noncomputable def clo (n : Nat) (A B : Nat → Nat) (e : Nat → Bool) (s : Nat → Bool) (x : Nat) : Bool :=
  decide (∀ u : Nat → Bool, (∀ x, s x = true → u x = true) → (∀ k, k < n → e k = true → u (A k) = u (B k)) → u x = true)
open Classical in
theorem clo_iff {n : Nat} {A B : Nat → Nat} {e s : Nat → Bool} {x : Nat} : clo n A B e s x = true ↔ ∀ u : Nat → Bool, (∀ x, s x = true → u x = true) → (∀ k, k < n → e k = true → u (A k) = u (B k)) → u x = true := by
  unfold clo
  exact decide_eq_true_iff
section
variable {n : Nat} {A B : Nat → Nat} {e s : Nat → Bool}
theorem clo_sub {x : Nat} (h : s x = true) : clo n A B e s x = true := clo_iff.2 fun _ hs _ => hs x h
theorem clo_cl {k : Nat} (hk : k < n) (he : e k = true) : clo n A B e s (A k) = clo n A B e s (B k) := by
  rw [Bool.eq_iff_iff, clo_iff, clo_iff]
  exact ⟨fun h u hs hc => (hc k hk he) ▸ h u hs hc, fun h u hs hc => (hc k hk he) ▸ h u hs hc⟩
theorem clo_min {u : Nat → Bool} (hs : ∀ x, s x = true → u x = true) (hc : ∀ k, k < n → e k = true → u (A k) = u (B k)) {x : Nat} (h : clo n A B e s x = true) : u x = true := clo_iff.1 h u hs hc
/-- What lies between, and is closed, is the closure. -/
theorem clo_eq {t : Nat → Bool} (h1 : ∀ x, s x = true → t x = true) (h2 : ∀ x, t x = true → clo n A B e s x = true) (h3 : ∀ k, k < n → e k = true → t (A k) = t (B k)) (x : Nat) : t x = clo n A B e s x := by
  rw [Bool.eq_iff_iff]
  exact ⟨h2 x, fun h => clo_min h1 h3 h⟩
end
end Go.Proofs.Z

namespace Go.Proofs.Z
open Go Go.RowKit Go.Proofs Go.Ri Go.Proofs.Z.Fa
/-! spread: runs. -/
abbrev fSpread : Nat := 112
abbrev fOpenOn1 : Nat := 113
/-- Out of both loops, to an answer that stands for itself. -/
noncomputable def outIF (t : Tb) (plan plan2 : List Bool) (f : FuncId) (B : Code) (K K0 : List Fr) (s : St) (r0 : RV) : Bool :=
  match outI t plan plan2 f B K K0 s with
  | some (r, _) => match flat r with | true => eqTopR r r0 | false => false
  | none => false
theorem step_outIF {κ κ0 : Type} {f : FuncId} {B : Code} {K K0 : List Fr} {pat : κ → St} {pat0 : κ0 → St} {w0 : World} {v : Value} {nx : κ → Nm → Prop} {nx0 : κ0 → Nm → Prop} {k : κ} {c : Nm} {W : Nat → Value} (t : Tb) (plan plan2 : List Bool) (ht : @TbOK (c.val W) t)
    (r0 : RV) (h : outIF t plan plan2 f B K K0 (pat k) r0 = true) (hv : @cvF (c.val W) r0 = v) : StepI3 f B K K0 pat pat0 w0.heap.size w0 (DF v w0) nx nx0 k c W := by
  unfold outIF at h
  split at h
  · rename_i r h' hr
    split at h
    · rename_i hfl
      refine ⟨t, plan, ht, .inr (.inr ⟨plan2, r, h', hr, fun E u w' hu H => ⟨?_, @HInv.below (c.val W) _ _ _ _ _ _ H⟩⟩)⟩
      rw [← hv, ← @eqTopR_cv (c.val W) r r0 h hfl]
      rw [@VRel.fn (c.val W) E r u _ hu (@rel_cvF (c.val W) E r hfl)]
    · cases h
  · cases h
noncomputable def fnA (c : Bool) : RV := if c then .fn (.func fOpenOn1) [lI 3] [sI 8] else .pl (.func (.func fUsable) #[] #[])
noncomputable def fnP (c : Bool) : RV := if c then .fn (.func fOpenOn1) [] [.ptr 1 0] else .pl (.func (.func fUsable) #[] #[])
noncomputable def spH (c : Bool) : RH := if c then [some (.lstA 0), some (.lent [sI 8] tInt), some (.cells [sI 0, .slA 0 0 4] tFell false false)] else fellB
noncomputable def spR (c : Bool) : RV := .ptr (if c then 2 else 1) 0
noncomputable def spO (c : Bool) : St := ⟨patW [(1, sU 10), (2, fnP c), (3, spR c)] 35 0, spH c⟩
noncomputable def spI (c : Bool) : St := ⟨patW [(1, sU 10), (2, fnP c), (3, spR c), (10, .slA 0 0 4), (11, sI 1), (12, sI 2)] 35 0, spH c⟩
noncomputable def spD (c : Bool) : List RV := [fellR, sU 10, fnA c]
noncomputable def spN (c : Bool) : List Nat := if c then [0, 1, 2] else [0, 1]
def spS0 (u : RV) : List SE := [.int 10 u, .int 0 (sI 0), .int 1 (sI 1), .int 8 (sI 8), .lst 0 0]
def spS (r : RV) : List SE := .int 2 r :: spS0 (sU 10)
noncomputable def spE : Tb := { LL := hLL }
noncomputable def spB (c : Bool) : Code := hB spE [] fSpread (spD c)
noncomputable def spK (c : Bool) : List Fr := hK spE [] fSpread (spD c)
set_option maxRecDepth 100000 in
theorem sp_enter : (all2 fun c => enterT spE [] fSpread (spD c) (spS0 (sU 10)) (spN c) (spO c)) = true := by kernel_rfl
noncomputable def spG (c : Bool) : Option Stop := bodT spE [] (spB c) (spO c)
set_option maxRecDepth 100000 in
theorem sp_in : (all2 fun c => enterH (spG c) (spS (lI 0)) (spN c) (spI c)) = true := by kernel_rfl
noncomputable def spIB (c : Bool) : Code := hbB (spG c)
noncomputable def spIK (c : Bool) : List Fr := hbK (spG c)
noncomputable def spT (p q : Bool) : Tb := { T := hT true ++ [⟨.bin .or, sU 12, sU 13, sU 14⟩, ⟨.bin .or, sU 10, sU 14, sU 11⟩], LL := hLL, LX := hLX true, Y := [⟨fLeads, [sU 10, gateQ], bR p⟩, ⟨fIsOpen, [gateQ, sI 8], bR q⟩, ⟨fUsable, [gateQ], bR q⟩, ⟨fOnly, [sI 3], sU 12⟩, ⟨fOnly, [sI 4], sU 13⟩] }
noncomputable def spY (c p q : Bool) : List YE := [⟨fLeads, [sU 10, gateQ], bR p⟩, ⟨fOnly, [sI 3], sU 12⟩, ⟨fOnly, [sI 4], sU 13⟩] ++ if p = true then (if c then [⟨fIsOpen, [gateQ, sI 8], bR q⟩] else [⟨fUsable, [gateQ], bR q⟩]) else []
noncomputable def spTc (c p q : Bool) : Tb := { spT p q with Y := spY c p q }
set_option maxRecDepth 100000 in
theorem sp_again' : (all2 fun c => againT (spTc c false true) [] (spIB c) (spIK c) (spI c) (spS (sI 7)) (spN c) (spI c)) = true := by kernel_rfl
set_option maxRecDepth 100000 in
theorem sp_again2' : (all2 fun c => againT (spTc c true false) [] (spIB c) (spIK c) (spI c) (spS (sI 7)) (spN c) (spI c)) = true := by kernel_rfl
set_option maxRecDepth 100000 in
theorem sp_back' : (all2 fun c => backT (spTc c true true) [] (spIB c) (spIK c) (spI c) (spS0 (sU 11)) (spN c) (spO c)) = true := by kernel_rfl
set_option maxRecDepth 100000 in
theorem sp_out : (all2 fun c => outIF hEnd [] [] fSpread (spIB c) (spIK c) (spK c) (spI c) (sU 10)) = true := by kernel_rfl
end Go.Proofs.Z
