/- A part of the proofs that the laws of layer four answer true for every input. -/
import Derived.Test.YtjjmnoiiihcoiaaGreatDoorZGH
import Derived.Test.YtjjmnoiiihcoiaaGreatDoorZLoop5
namespace Go.Proofs.Z
open Go Go.RowKit Go.Proofs Go.Ri Go.Proofs.Z.Fa
/-! Sets of grazings: as bits; only, has, leads, usable. -/
def sU (i : Nat) : RV := .sym (.int .u16) i
def lU (n : Int) : RV := .pl (.int .u16 n)
theorem wrap16 {n : Nat} (h : n < 65536) : IntKind.u16.wrap (n : Int) = n := by
  simp only [IntKind.wrap, IntKind.bits, IntKind.signed]
  simp
  omega
theorem bv16 {n : Nat} (h : n < 65536) : (BitVec.ofInt 16 (n : Int)).toNat = n := by
  rw [BitVec.toNat_ofInt]
  simp
  omega
theorem t_and16 {m n : Nat} (hm : m < 65536) (hn : n < 65536) : TCTrue (.bin .and) (.int .u16 m) (.int .u16 n) (.int .u16 (m &&& n : Nat)) := fun P ty a b w => by
  have e : ((BitVec.ofInt IntKind.u16.bits (m : Int)) &&& (BitVec.ofInt IntKind.u16.bits (n : Int))).toNat = m &&& n := by
    rw [BitVec.toNat_and]
    show (BitVec.ofInt 16 (m : Int)).toNat &&& (BitVec.ofInt 16 (n : Int)).toNat = _
    rw [bv16 hm, bv16 hn]
  have hlt : m &&& n < 65536 := Nat.lt_of_le_of_lt Nat.and_le_left hm
  simp only [int_guard, binOp, Op.intBits, Sem.run_bind, Result.andThen_ok, ne_eq, not_true_eq_false, if_false, e, wrap16 hlt]
  rfl
theorem t_or16 {m n : Nat} (hm : m < 65536) (hn : n < 65536) : TCTrue (.bin .or) (.int .u16 m) (.int .u16 n) (.int .u16 (m ||| n : Nat)) := fun P ty a b w => by
  have e : ((BitVec.ofInt IntKind.u16.bits (m : Int)) ||| (BitVec.ofInt IntKind.u16.bits (n : Int))).toNat = m ||| n := by
    rw [BitVec.toNat_or]
    show (BitVec.ofInt 16 (m : Int)).toNat ||| (BitVec.ofInt 16 (n : Int)).toNat = _
    rw [bv16 hm, bv16 hn]
  have hlt : m ||| n < 65536 := Nat.or_lt_two_pow (n := 16) hm hn
  simp only [int_guard, binOp, Op.intBits, Sem.run_bind, Result.andThen_ok, ne_eq, not_true_eq_false, if_false, e, wrap16 hlt]
  rfl
theorem t_shl16 {a : Nat} (ha : a < 16) : TCTrue (.bin .shl) (.int .u16 1) (.int .i64 a) (.int .u16 (2 ^ a : Nat)) := fun P ty x y w => by
  have hlt : 2 ^ a < 65536 := by
    have := Nat.pow_lt_pow_right (a := 2) (by decide) ha
    simpa using this
  have e : (1 : Int) * 2 ^ (min ((a : Int)).toNat IntKind.u16.bits) = ((2 ^ a : Nat) : Int) := by
    rw [Int.toNat_natCast, show min a IntKind.u16.bits = a from Nat.min_eq_left (by show a ≤ 16; omega)]
    simp
  have h0 : ¬ ((a : Int) < 0) := by omega
  simp only [int_guard, binOp, Op.shift, Sem.run_bind, Result.andThen_ok, if_neg h0, e, wrap16 hlt]
  rfl
section
variable [Val] {a b c : RV}
theorem f_bin {op : BinOp} {u v z : Value} (ha : cv a = u) (hb : cv b = v) (hc : cv c = z) (hf : flat0 c = true) (h : TCTrue (.bin op) u v z) : TETrue ⟨.bin op, a, b, c⟩ := by
  refine ⟨hf, ?_⟩
  show TCTrue _ (cv a) (cv b) (cv c)
  rw [ha, hb, hc]
  exact h
end
abbrev fOnly : Nat := 78
abbrev fHas : Nat := 79
abbrev fUsable : Nat := 97
/-! only -/
noncomputable def onlyRun : Bool := runOK noX [⟨.bin .shl, lU 1, sI 0, sU 1⟩] [] 1000 20 fOnly [sI 0] (sU 1)
set_option maxRecDepth 100000 in
theorem only_run : onlyRun = true := by kernel_rfl
theorem only_ans {a : Nat} (h : a < 16) : Ans fOnly [.int .i64 a] (.int .u16 (2 ^ a : Nat)) := by
  letI V : Val := VE (fun i => if i = 0 then (a : Int) else ((2 ^ a : Nat) : Int)) (fun _ => false)
  exact @ans V noX _ _ noX_true (fa (f_bin rfl rfl rfl rfl (t_shl16 h)) fz) fz _ _ _ _ _ only_run
/-! has -/
theorem and_pow (s a : Nat) : s &&& 2 ^ a = if s.testBit a then 2 ^ a else 0 := by
  apply Nat.eq_of_testBit_eq
  intro i
  rw [Nat.testBit_and, Nat.testBit_two_pow]
  by_cases h : a = i
  · subst h
    cases hs : s.testBit a <;> simp
  · cases hs : s.testBit a <;> simp [h]
noncomputable def hasRun (q : Bool) : Bool := runOK noX [⟨.bin .and, sU 1, sU 2, sU 3⟩, ⟨.ieq, sU 3, lU 0, bR (!q)⟩] [⟨fOnly, [sI 0], sU 2⟩] 1000 20 fHas [sU 1, sI 0] (bR q)
set_option maxRecDepth 100000 in
theorem has_run : (all2 hasRun) = true := by kernel_rfl
theorem has_ans {s a : Nat} (hs : s < 65536) (h : a < 16) : Ans fHas [.int .u16 s, .int .i64 a] (.bool (s.testBit a)) := by
  letI V : Val := VE (fun i => if i = 0 then (a : Int) else if i = 1 then (s : Int) else if i = 2 then ((2 ^ a : Nat) : Int) else ((s &&& 2 ^ a : Nat) : Int)) (fun _ => false)
  have hlt : 2 ^ a < 65536 := by
    have := Nat.pow_lt_pow_right (a := 2) (by decide) h
    simpa using this
  exact @ans V noX _ _ noX_true (fa (f_bin rfl rfl rfl rfl (t_and16 hs hlt)) (fa (f_ieq (k := .u16) (m := ((s &&& 2 ^ a : Nat) : Int)) (n := 0) rfl rfl (by
    rw [and_pow]
    cases s.testBit a
    · rfl
    · have : 2 ^ a ≠ 0 := Nat.ne_of_gt (Nat.two_pow_pos a)
      show (((2 ^ a : Nat) : Int) == 0) = false
      rw [beq_eq_false_iff_ne]
      omega)) fz)) (fa (only_ans h) fz) _ _ _ _ _ (all2_all has_run (s.testBit a))
/-! leads -/
/-! usable -/
noncomputable def usRun (q : Bool) : Bool := runOK noX [⟨.ieq, sI 5, sI 6, bR (!q)⟩] [] 1000 20 fUsable [.agg [sI 3, sI 4, sI 5, sI 6]] (bR q)
set_option maxRecDepth 100000 in
theorem us_run : (all2 usRun) = true := by kernel_rfl
theorem usable_ans (a b fr to : Int) : Ans fUsable [gateV a b fr to] (.bool (!(fr == to))) := by
  letI V : Val := VE (fun i => if i = 3 then a else if i = 4 then b else if i = 5 then fr else to) (fun _ => false)
  have := @ans V noX _ _ noX_true (fa (f_ieq (k := .i64) (m := fr) (n := to) (q := !(!(fr == to))) rfl rfl (by simp)) fz) fz _ _ _ _ _ (all2_all us_run (!(fr == to)))
  exact this
/-! Sets as bits. -/
def setN (S : Nat → Bool) : Nat → Nat
  | 0 => 0
  | k + 1 => setN S k ||| (if S k then 2 ^ k else 0)
/-! Closures. -/
open Classical in
/-- What is reached from s by the gates that serve. -/
noncomputable def clo (n : Nat) (A B : Nat → Nat) (e : Nat → Bool) (s : Nat → Bool) (x : Nat) : Bool :=
  decide (∀ u : Nat → Bool, (∀ x, s x = true → u x = true) → (∀ k, k < n → e k = true → u (A k) = u (B k)) → u x = true)
section
variable {n : Nat} {A B : Nat → Nat} {e s : Nat → Bool}
end
end Go.Proofs.Z
