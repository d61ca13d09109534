/- A part of the proofs that the laws of layer four answer true for every input. -/
import Derived.Test.YtjjmnoiiihcoiaaGreatDoorZPC
import Derived.Test.YtjjmnoiiihcoiaaGreatDoorZGQ
import Derived.Test.YtjjmnoiiihcoiaaGreatDoorZGK
import Derived.Test.YtjjmnoiiihcoiaaGreatDoorZGH
import Derived.Lib.TrailingZeros
namespace Go.Proofs.Z
open Go Go.RowKit Go.Proofs Go.Ri Go.Proofs.Z.Fa
/-! The specification's Digits. -/
abbrev fDigits : Nat := 107
abbrev sS (i : Nat) : RV := .sym .str i
/-- A text of bytes. -/
def bs (l : List UInt8) : ByteArray := ⟨l.toArray⟩
theorem ba_ext {x y : ByteArray} (h : x.data.toList = y.data.toList) : x = y := by
  cases x with
  | mk a => cases y with
    | mk b =>
      have h : a.toList = b.toList := h
      rw [Array.toList_inj.1 h]
theorem bs_app (a b : List UInt8) : bs a ++ bs b = bs (a ++ b) := ba_ext (by simp [bs])
theorem bs_size (a : List UInt8) : (bs a).size = a.length := by show a.toArray.size = _; simp
theorem bs_of (x : ByteArray) : x = bs x.data.toList := rfl
def strB (l : List UInt8) : Value := .string (bs l)
def lB (l : List UInt8) : RV := .pl (.string (bs l))
def dgs : List UInt8 := [48, 49, 50, 51, 52, 53, 54, 55, 56, 57]
def dgT (c : Nat) : List TE :=
  [⟨.bin .gtr, sI 0, lI 9, bR (!(Nat.beq c 1))⟩, ⟨.bin .rem, sI 0, lI 10, sI 10⟩, ⟨.bin .add, sI 10, lI 1, sI 11⟩, ⟨.bin .add, sS 20, lB [], sS 30⟩] ++
  (if Nat.beq c 1 then [⟨.bin .quo, sI 0, lI 10, lI 0⟩] else [⟨.bin .quo, sI 0, lI 10, sI 1⟩, ⟨.ieq, sI 1, lI 0, bR false⟩, ⟨.bin .gtr, sI 1, lI 9, bR (Nat.beq c 3)⟩] ++
    (if Nat.beq c 2 then [⟨.seq, sS 30, lB [], bR false⟩, ⟨.bin .add, sI 1, lI 1, sI 12⟩, ⟨.bin .add, sS 21, sS 30, sS 31⟩] else [⟨.bin .rem, sI 1, lI 10, sI 13⟩, ⟨.bin .add, sI 13, lI 1, sI 14⟩, ⟨.bin .add, sS 22, sS 30, sS 32⟩, ⟨.bin .quo, sI 1, lI 10, sI 2⟩, ⟨.ieq, sI 2, lI 0, bR false⟩, ⟨.bin .gtr, sI 2, lI 9, bR false⟩, ⟨.seq, sS 32, lB [], bR false⟩, ⟨.bin .add, sI 2, lI 1, sI 15⟩, ⟨.bin .add, sS 23, sS 32, sS 33⟩]))
noncomputable def dgTb (c : Nat) : Tb := { T := dgT c, SS := ⟨lB dgs, sI 10, sI 11, sS 20⟩ :: (if Nat.beq c 1 then [] else if Nat.beq c 2 then [⟨lB dgs, sI 1, sI 12, sS 21⟩] else [⟨lB dgs, sI 13, sI 14, sS 22⟩, ⟨lB dgs, sI 2, sI 15, sS 23⟩]) }
def dgR (c : Nat) : RV := if Nat.beq c 1 then sS 30 else if Nat.beq c 2 then sS 31 else sS 33
set_option maxRecDepth 100000 in
theorem dg_run : (allU 4 fun c => Nat.beq c 0 || doneQ (dgTb c) [true] fDigits [sI 0] [.str 30 (sS 30), .str 31 (sS 31), .str 33 (sS 33)] [] (dgR c) []) = true := by kernel_rfl
def dC (k : Nat) : UInt8 := UInt8.ofNat (48 + k)
theorem dgs_fin : ∀ d : Fin 10, ((bs dgs).extract d.val (d.val + 1)).data.toList = [dC d.val] := by decide +kernel
theorem dgs_ext {d : Nat} (h : d < 10) : (bs dgs).extract d (d + 1) = bs [dC d] := ba_ext (dgs_fin ⟨d, h⟩)
theorem f_quo [Val] {a b c : RV} {m n r : Int} (ha : cv a = .int .i64 m) (hb : cv b = .int .i64 n) (hc : cv c = .int .i64 r) (hf : flat0 c = true) (h0 : 0 ≤ m) (hm : m ≤ 9000000000000000000) (h1 : 0 < n) (h : m / n = r) : TETrue ⟨.bin .quo, a, b, c⟩ := by
  refine ⟨hf, ?_⟩
  show TCTrue _ (cv a) (cv b) (cv c)
  rw [ha, hb, hc]
  have := t_quo .i64 m n (by omega)
  have hr0 : 0 ≤ m / n := Int.ediv_nonneg h0 (by omega)
  have hr1 : m / n ≤ m := Int.ediv_le_self n h0
  rw [Int.tdiv_eq_ediv_of_nonneg h0, IntWalk.i64_in _ (by omega), h] at this
  exact this
theorem dig_ss [Val] {x y z : RV} {d : Nat} (hd : d < 10) (hx : cv x = .int .i64 d) (hy : cv y = .int .i64 (d + 1 : Nat)) (hz : cv z = strB [dC d]) (hf : flat0 z = true) : SSTrue ⟨lB dgs, x, y, z⟩ :=
  ⟨hf, bs dgs, .i64, .i64, d, d + 1, rfl, hx, hy, by omega, by show d + 1 ≤ 10; omega, by rw [dgs_ext hd]; exact hz⟩
def dgI (n i : Nat) : Nat := if i = 0 then n else if i = 10 then n % 10 else if i = 11 then n % 10 + 1 else if i = 1 then n / 10 else if i = 12 then n / 10 + 1 else if i = 13 then n / 10 % 10 else if i = 14 then n / 10 % 10 + 1 else if i = 2 then n / 10 / 10 else n / 10 / 10 + 1
def dgS (n i : Nat) : List UInt8 := if i = 20 ∨ i = 30 then [dC (n % 10)] else if i = 21 then [dC (n / 10)] else if i = 31 then [dC (n / 10), dC (n % 10)] else if i = 22 then [dC (n / 10 % 10)] else if i = 32 then [dC (n / 10 % 10), dC (n % 10)] else if i = 23 then [dC (n / 10 / 10)] else [dC (n / 10 / 10), dC (n / 10 % 10), dC (n % 10)]
def dgNm (n : Nat) : Nm := ⟨fun i => (dgI n i : Int), ny, fun i => bs (dgS n i), fun _ => []⟩
theorem f_seq [Val] {a b : RV} {x y : List UInt8} {q : Bool} (ha : cv a = strB x) (hb : cv b = strB y) (h : decide (x = y) = q) : TETrue ⟨.seq, a, b, bR q⟩ := by
  refine ⟨rfl, bs x, bs y, ha, hb, ?_⟩
  show Value.bool q = _
  rw [ByteArray.toList_eq, ByteArray.toList_eq, ← h]
  show Value.bool (decide (x = y)) = .bool (x.toArray.toList == y.toArray.toList)
  congr 1
  by_cases e : x = y
  · subst e
    simp
  · rw [decide_eq_false e]
    simp [e]
set_option maxRecDepth 10000 in
theorem digits_ans (n : Nat) (h : n < 1000) : Ans fDigits [.int .i64 n] (strB (Lib.itoa n)) := by
  let V1 : Val := (dgNm n).val fun _ => undef
  have hadd : ∀ (i j : Nat) (x : Nat), V1.I i = (x : Int) → V1.I j = ((x + 1 : Nat) : Int) → x ≤ 1000 → @TETrue V1 ⟨.bin .add, sI i, lI 1, sI j⟩ := fun i j x h1 h2 h3 => by
    letI := V1
    exact f_add (m := (x : Int)) (n := 1) (r := ((x + 1 : Nat) : Int)) (congrArg _ h1) rfl (congrArg _ h2) rfl (by omega) (by omega) (by omega)
  have hcat : ∀ (i j k : Nat) (x y : List UInt8), V1.S i = bs x → V1.S j = bs y → V1.S k = bs (x ++ y) → x.length + y.length ≤ 10 → @TETrue V1 ⟨.bin .add, sS i, sS j, sS k⟩ := fun i j k x y h1 h2 h3 h4 => by
    letI := V1
    exact f_sadd (x := bs x) (y := bs y) (congrArg _ h1) (congrArg _ h2) (by rw [bs_app]; exact congrArg _ h3) rfl (by rw [bs_size, bs_size]; omega)
  have hc0 : @TETrue V1 ⟨.bin .add, sS 20, lB [], sS 30⟩ := by
    letI := V1
    exact f_sadd (x := bs [dC (n % 10)]) (y := bs []) rfl rfl (by rw [bs_app]; rfl) rfl (by rw [bs_size, bs_size]; simp)
  have hh : ∀ q, decide ((n : Int) > 9) = q → ∀ e, e ∈ [(⟨.bin .gtr, sI 0, lI 9, bR q⟩ : TE), ⟨.bin .rem, sI 0, lI 10, sI 10⟩, ⟨.bin .add, sI 10, lI 1, sI 11⟩, ⟨.bin .add, sS 20, lB [], sS 30⟩] → @TETrue V1 e := fun q hq => by
    letI := V1
    exact fa (f_gtr (k := .i64) (m := (n : Int)) (n := 9) rfl rfl hq) (fa (f_rem (k := .i64) (m := (n : Int)) (n := 10) (r := ((n % 10 : Nat) : Int)) rfl rfl rfl rfl (by omega) (by decide) (by omega)) (fa (hadd 10 11 (n % 10) rfl rfl (by omega)) (fa hc0 fz)))
  have hquo : ∀ (i j x : Nat), V1.I i = (x : Int) → V1.I j = ((x / 10 : Nat) : Int) → x ≤ 1000 → @TETrue V1 ⟨.bin .quo, sI i, lI 10, sI j⟩ := fun i j x h1 h2 h3 => by
    letI := V1
    exact f_quo (m := (x : Int)) (n := 10) (r := ((x / 10 : Nat) : Int)) (congrArg _ h1) rfl (congrArg _ h2) rfl (by omega) (by omega) (by decide) (by omega)
  have hss0 : @Go.Ri.SSTrue V1 ⟨lB dgs, sI 10, sI 11, sS 20⟩ := @dig_ss V1 _ _ _ (n % 10) (by omega) rfl rfl rfl rfl
  have hne : ∀ (i : Nat) (x : UInt8) (l : List UInt8), V1.S i = bs (x :: l) → @TETrue V1 ⟨.seq, sS i, lB [], bR false⟩ := fun i x l h1 => by
    letI := V1
    exact f_seq (x := x :: l) (y := []) (congrArg _ h1) rfl (decide_eq_false (by simp))
  have key : ∀ c r, c < 4 → c ≠ 0 → @TbOK V1 (dgTb c) → dgR c = .sym .str r → V1.S r = bs (Lib.itoa n) → Ans fDigits [.int .i64 n] (strB (Lib.itoa n)) := fun c r h4 h0 ht hr hS w hrw => by
    have hrun := allU_lt dg_run c h4
    rw [show Nat.beq c 0 = false from by cases c with | zero => exact absurd rfl h0 | succ _ => rfl, Bool.false_or] at hrun
    refine (done_calls V1 V1 ht hrun (by rw [hr]; rfl) (holds_all (fa ⟨_, rfl, rfl⟩ (fa ⟨_, rfl, rfl⟩ (fa ⟨_, rfl, rfl⟩ fz)))) w hrw [.int .i64 n] (.cons rfl .nil)).mono fun e w' ⟨u, E', he, hu, H⟩ => ⟨?_, @HInv.below V1 _ _ _ _ _ _ H⟩
    rw [he, hr] at *
    have := @VRel.fn V1 E' (.sym .str r) u _ hu (@rel_cvF V1 E' (.sym .str r) rfl)
    rw [this]
    exact congrArg (fun x => Ending.returned (.string x)) hS
  have hit : Lib.itoa n = Lib.decDigits n := Lib.itoa_nonneg n
  by_cases h1 : n < 10
  · refine key 1 30 (by decide) (by decide) ?_ rfl ?_
    · letI := V1
      exact { T := fapp (hh false (decide_eq_false (by omega))) (fa (f_quo (m := (n : Int)) (n := 10) (r := 0) rfl rfl rfl rfl (by omega) (by omega) (by decide) (by omega)) fz), SS := fa hss0 fz }
    · rw [hit, Lib.decDigits_one h1]
      show bs [dC (n % 10)] = _
      rw [Nat.mod_eq_of_lt h1]
      rfl
  · by_cases h2 : n < 100
    · refine key 2 31 (by decide) (by decide) ?_ rfl ?_
      · letI := V1
        exact { T := fapp (hh true (decide_eq_true (by omega))) (fapp (fa (hquo 0 1 n rfl rfl (by omega)) (fa (f_ieq (k := .i64) (m := ((n / 10 : Nat) : Int)) (n := 0) rfl rfl (by rw [eqdec]; exact decide_eq_false (by omega))) (fa (f_gtr (k := .i64) (m := ((n / 10 : Nat) : Int)) (n := 9) rfl rfl (decide_eq_false (by omega))) fz))) (fa (hne 30 _ _ rfl) (fa (hadd 1 12 (n / 10) rfl rfl (by omega)) (fa (hcat 21 30 31 [dC (n / 10)] [dC (n % 10)] rfl rfl rfl (by simp)) fz)))), SS := fa hss0 (fa (dig_ss (d := n / 10) (by omega) rfl rfl rfl rfl) fz) }
      · rw [hit, Lib.decDigits_two h1 h2]
        rfl
    · refine key 3 33 (by decide) (by decide) ?_ rfl ?_
      · letI := V1
        exact { T := fapp (hh true (decide_eq_true (by omega))) (fapp (fa (hquo 0 1 n rfl rfl (by omega)) (fa (f_ieq (k := .i64) (m := ((n / 10 : Nat) : Int)) (n := 0) rfl rfl (by rw [eqdec]; exact decide_eq_false (by omega))) (fa (f_gtr (k := .i64) (m := ((n / 10 : Nat) : Int)) (n := 9) rfl rfl (decide_eq_true (by omega))) fz))) (fa (f_rem (k := .i64) (m := ((n / 10 : Nat) : Int)) (n := 10) (r := ((n / 10 % 10 : Nat) : Int)) rfl rfl rfl rfl (by omega) (by decide) (by omega)) (fa (hadd 13 14 (n / 10 % 10) rfl rfl (by omega)) (fa (hcat 22 30 32 [dC (n / 10 % 10)] [dC (n % 10)] rfl rfl rfl (by simp)) (fa (hquo 1 2 (n / 10) rfl rfl (by omega)) (fa (f_ieq (k := .i64) (m := ((n / 10 / 10 : Nat) : Int)) (n := 0) rfl rfl (by rw [eqdec]; exact decide_eq_false (by omega))) (fa (f_gtr (k := .i64) (m := ((n / 10 / 10 : Nat) : Int)) (n := 9) rfl rfl (decide_eq_false (by omega))) (fa (hne 32 _ _ rfl) (fa (hadd 2 15 (n / 10 / 10) rfl rfl (by omega)) (fa (hcat 23 32 33 [dC (n / 10 / 10)] [dC (n / 10 % 10), dC (n % 10)] rfl rfl rfl (by simp)) fz)))))))))), SS := fa hss0 (fa (dig_ss (d := n / 10 % 10) (by omega) rfl rfl rfl rfl) (fa (dig_ss (d := n / 10 / 10) (by omega) rfl rfl rfl rfl) fz)) }
      · rw [hit, Lib.decDigits, dif_neg h1, Lib.decDigits_two (by omega) (by omega)]
        rfl
end Go.Proofs.Z
