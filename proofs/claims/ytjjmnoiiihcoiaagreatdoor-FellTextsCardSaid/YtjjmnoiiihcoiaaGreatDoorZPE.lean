/- A part of the proofs that the laws of layer four answer true for every input. -/
import Derived.Test.YtjjmnoiiihcoiaaGreatDoorZPC
import Derived.Test.YtjjmnoiiihcoiaaGreatDoorZGY
import Derived.Test.YtjjmnoiiihcoiaaGreatDoorZGH
import Derived.Lib.TrailingZeros
import Derived.Test.YtjjmnoiiihcoiaaGreatDoorZHd
namespace Go.Proofs.Z
open Go Go.RowKit Go.Proofs Go.Ri Go.Proofs.Z.Fa
/-! The specification's Digits. -/
abbrev fDigits : Nat := 107
abbrev sS (i : Nat) : RV := .sym .str i
/-- A text of bytes. -/
def bs (l : List UInt8) : ByteArray := ⟨l.toArray⟩
theorem ba_ext {x y : ByteArray} (h : x.data.toList = y.data.toList) : x = y := by
  cases x with
  | mk a => cases y with
    | mk b =>
      have h : a.toList = b.toList := h
      rw [Array.toList_inj.1 h]
theorem bs_app (a b : List UInt8) : bs a ++ bs b = bs (a ++ b) := ba_ext (by simp [bs])
theorem bs_size (a : List UInt8) : (bs a).size = a.length := by show a.toArray.size = _; simp
theorem bs_of (x : ByteArray) : x = bs x.data.toList := rfl
def strB (l : List UInt8) : Value := .string (bs l)
def lB (l : List UInt8) : RV := .pl (.string (bs l))
def dgs : List UInt8 := [48, 49, 50, 51, 52, 53, 54, 55, 56, 57]
def dgT (c : Nat) : List TE :=
  [⟨.bin .gtr, sI 0, lI 9, bR (!(Nat.beq c 1))⟩, ⟨.bin .rem, sI 0, lI 10, sI 10⟩, ⟨.bin .add, sI 10, lI 1, sI 11⟩, ⟨.bin .add, sS 20, lB [], sS 30⟩] ++
  (if Nat.beq c 1 then [⟨.bin .quo, sI 0, lI 10, lI 0⟩] else [⟨.bin .quo, sI 0, lI 10, sI 1⟩, ⟨.ieq, sI 1, lI 0, bR false⟩, ⟨.bin .gtr, sI 1, lI 9, bR (Nat.beq c 3)⟩] ++
    (if Nat.beq c 2 then [⟨.seq, sS 30, lB [], bR false⟩, ⟨.bin .add, sI 1, lI 1, sI 12⟩, ⟨.bin .add, sS 21, sS 30, sS 31⟩] else [⟨.bin .rem, sI 1, lI 10, sI 13⟩, ⟨.bin .add, sI 13, lI 1, sI 14⟩, ⟨.bin .add, sS 22, sS 30, sS 32⟩, ⟨.bin .quo, sI 1, lI 10, sI 2⟩, ⟨.ieq, sI 2, lI 0, bR false⟩, ⟨.bin .gtr, sI 2, lI 9, bR false⟩, ⟨.seq, sS 32, lB [], bR false⟩, ⟨.bin .add, sI 2, lI 1, sI 15⟩, ⟨.bin .add, sS 23, sS 32, sS 33⟩]))
noncomputable def dgTb (c : Nat) : Tb := { T := dgT c, SS := ⟨lB dgs, sI 10, sI 11, sS 20⟩ :: (if Nat.beq c 1 then [] else if Nat.beq c 2 then [⟨lB dgs, sI 1, sI 12, sS 21⟩] else [⟨lB dgs, sI 13, sI 14, sS 22⟩, ⟨lB dgs, sI 2, sI 15, sS 23⟩]) }
def dgR (c : Nat) : RV := if Nat.beq c 1 then sS 30 else if Nat.beq c 2 then sS 31 else sS 33
set_option maxRecDepth 100000 in
theorem dg_run : (allU 4 fun c => Nat.beq c 0 || doneQ (dgTb c) [true] fDigits [sI 0] [.str 30 (sS 30), .str 31 (sS 31), .str 33 (sS 33)] [] (dgR c) []) = true := by kernel_rfl
def dC (k : Nat) : UInt8 := UInt8.ofNat (48 + k)
theorem dgs_fin : ∀ d : Fin 10, ((bs dgs).extract d.val (d.val + 1)).data.toList = [dC d.val] := by decide +kernel
theorem dgs_ext {d : Nat} (h : d < 10) : (bs dgs).extract d (d + 1) = bs [dC d] := ba_ext (dgs_fin ⟨d, h⟩)
theorem f_quo [Val] {a b c : RV} {m n r : Int} (ha : cv a = .int .i64 m) (hb : cv b = .int .i64 n) (hc : cv c = .int .i64 r) (hf : flat0 c = true) (h0 : 0 ≤ m) (hm : m ≤ 9000000000000000000) (h1 : 0 < n) (h : m / n = r) : TETrue ⟨.bin .quo, a, b, c⟩ := by
  refine ⟨hf, ?_⟩
  show TCTrue _ (cv a) (cv b) (cv c)
  rw [ha, hb, hc]
  have := t_quo .i64 m n (by omega)
  have hr0 : 0 ≤ m / n := Int.ediv_nonneg h0 (by omega)
  have hr1 : m / n ≤ m := Int.ediv_le_self n h0
  rw [Int.tdiv_eq_ediv_of_nonneg h0, IntWalk.i64_in _ (by omega), h] at this
  exact this
theorem dig_ss [Val] {x y z : RV} {d : Nat} (hd : d < 10) (hx : cv x = .int .i64 d) (hy : cv y = .int .i64 (d + 1 : Nat)) (hz : cv z = strB [dC d]) (hf : flat0 z = true) : SSTrue ⟨lB dgs, x, y, z⟩ :=
  ⟨hf, bs dgs, .i64, .i64, d, d + 1, rfl, hx, hy, by omega, by show d + 1 ≤ 10; omega, by rw [dgs_ext hd]; exact hz⟩
def dgI (n i : Nat) : Nat := if i = 0 then n else if i = 10 then n % 10 else if i = 11 then n % 10 + 1 else if i = 1 then n / 10 else if i = 12 then n / 10 + 1 else if i = 13 then n / 10 % 10 else if i = 14 then n / 10 % 10 + 1 else if i = 2 then n / 10 / 10 else n / 10 / 10 + 1
def dgS (n i : Nat) : List UInt8 := if i = 20 ∨ i = 30 then [dC (n % 10)] else if i = 21 then [dC (n / 10)] else if i = 31 then [dC (n / 10), dC (n % 10)] else if i = 22 then [dC (n / 10 % 10)] else if i = 32 then [dC (n / 10 % 10), dC (n % 10)] else if i = 23 then [dC (n / 10 / 10)] else [dC (n / 10 / 10), dC (n / 10 % 10), dC (n % 10)]
def dgNm (n : Nat) : Nm := ⟨fun i => (dgI n i : Int), ny, fun i => bs (dgS n i), fun _ => []⟩
theorem f_seq [Val] {a b : RV} {x y : List UInt8} {q : Bool} (ha : cv a = strB x) (hb : cv b = strB y) (h : decide (x = y) = q) : TETrue ⟨.seq, a, b, bR q⟩ := by
  refine ⟨rfl, bs x, bs y, ha, hb, ?_⟩
  show Value.bool q = _
  rw [ByteArray.toList_eq, ByteArray.toList_eq, ← h]
  show Value.bool (decide (x = y)) = .bool (x.toArray.toList == y.toArray.toList)
  congr 1
  by_cases e : x = y
  · subst e
    simp
  · rw [decide_eq_false e]
    simp [e]
set_option maxRecDepth 10000 in
theorem digits_ans (n : Nat) (h : n < 1000) : Ans fDigits [.int .i64 n] (strB (Lib.itoa n)) := by
  let V1 : Val := (dgNm n).val fun _ => undef
  have hadd : ∀ (i j : Nat) (x : Nat), V1.I i = (x : Int) → V1.I j = ((x + 1 : Nat) : Int) → x ≤ 1000 → @TETrue V1 ⟨.bin .add, sI i, lI 1, sI j⟩ := fun i j x h1 h2 h3 => by
    letI := V1
    exact f_add (m := (x : Int)) (n := 1) (r := ((x + 1 : Nat) : Int)) (congrArg _ h1) rfl (congrArg _ h2) rfl (by omega) (by omega) (by omega)
  have hcat : ∀ (i j k : Nat) (x y : List UInt8), V1.S i = bs x → V1.S j = bs y → V1.S k = bs (x ++ y) → x.length + y.length ≤ 10 → @TETrue V1 ⟨.bin .add, sS i, sS j, sS k⟩ := fun i j k x y h1 h2 h3 h4 => by
    letI := V1
    exact f_sadd (x := bs x) (y := bs y) (congrArg _ h1) (congrArg _ h2) (by rw [bs_app]; exact congrArg _ h3) rfl (by rw [bs_size, bs_size]; omega)
  have hc0 : @TETrue V1 ⟨.bin .add, sS 20, lB [], sS 30⟩ := by
    letI := V1
    exact f_sadd (x := bs [dC (n % 10)]) (y := bs []) rfl rfl (by rw [bs_app]; rfl) rfl (by rw [bs_size, bs_size]; simp)
  have hh : ∀ q, decide ((n : Int) > 9) = q → ∀ e, e ∈ [(⟨.bin .gtr, sI 0, lI 9, bR q⟩ : TE), ⟨.bin .rem, sI 0, lI 10, sI 10⟩, ⟨.bin .add, sI 10, lI 1, sI 11⟩, ⟨.bin .add, sS 20, lB [], sS 30⟩] → @TETrue V1 e := fun q hq => by
    letI := V1
    exact fa (f_gtr (k := .i64) (m := (n : Int)) (n := 9) rfl rfl hq) (fa (f_rem (k := .i64) (m := (n : Int)) (n := 10) (r := ((n % 10 : Nat) : Int)) rfl rfl rfl rfl (by omega) (by decide) (by omega)) (fa (hadd 10 11 (n % 10) rfl rfl (by omega)) (fa hc0 fz)))
  have hquo : ∀ (i j x : Nat), V1.I i = (x : Int) → V1.I j = ((x / 10 : Nat) : Int) → x ≤ 1000 → @TETrue V1 ⟨.bin .quo, sI i, lI 10, sI j⟩ := fun i j x h1 h2 h3 => by
    letI := V1
    exact f_quo (m := (x : Int)) (n := 10) (r := ((x / 10 : Nat) : Int)) (congrArg _ h1) rfl (congrArg _ h2) rfl (by omega) (by omega) (by decide) (by omega)
  have hss0 : @Go.Ri.SSTrue V1 ⟨lB dgs, sI 10, sI 11, sS 20⟩ := @dig_ss V1 _ _ _ (n % 10) (by omega) rfl rfl rfl rfl
  have hne : ∀ (i : Nat) (x : UInt8) (l : List UInt8), V1.S i = bs (x :: l) → @TETrue V1 ⟨.seq, sS i, lB [], bR false⟩ := fun i x l h1 => by
    letI := V1
    exact f_seq (x := x :: l) (y := []) (congrArg _ h1) rfl (decide_eq_false (by simp))
  have key : ∀ c r, c < 4 → c ≠ 0 → @TbOK V1 (dgTb c) → dgR c = .sym .str r → V1.S r = bs (Lib.itoa n) → Ans fDigits [.int .i64 n] (strB (Lib.itoa n)) := fun c r h4 h0 ht hr hS w hrw => by
    have hrun := allU_lt dg_run c h4
    rw [show Nat.beq c 0 = false from by cases c with | zero => exact absurd rfl h0 | succ _ => rfl, Bool.false_or] at hrun
    refine (done_calls V1 V1 ht hrun (by rw [hr]; rfl) (holds_all (fa ⟨_, rfl, rfl⟩ (fa ⟨_, rfl, rfl⟩ (fa ⟨_, rfl, rfl⟩ fz)))) w hrw [.int .i64 n] (.cons rfl .nil)).mono fun e w' ⟨u, E', he, hu, H⟩ => ⟨?_, @HInv.below V1 _ _ _ _ _ _ H⟩
    rw [he, hr] at *
    have := @VRel.fn V1 E' (.sym .str r) u _ hu (@rel_cvF V1 E' (.sym .str r) rfl)
    rw [this]
    exact congrArg (fun x => Ending.returned (.string x)) hS
  have hit : Lib.itoa n = Lib.decDigits n := Lib.itoa_nonneg n
  by_cases h1 : n < 10
  · refine key 1 30 (by decide) (by decide) ?_ rfl ?_
    · letI := V1
      exact { T := fapp (hh false (decide_eq_false (by omega))) (fa (f_quo (m := (n : Int)) (n := 10) (r := 0) rfl rfl rfl rfl (by omega) (by omega) (by decide) (by omega)) fz), SS := fa hss0 fz }
    · rw [hit, Lib.decDigits_one h1]
      show bs [dC (n % 10)] = _
      rw [Nat.mod_eq_of_lt h1]
      rfl
  · by_cases h2 : n < 100
    · refine key 2 31 (by decide) (by decide) ?_ rfl ?_
      · letI := V1
        exact { T := fapp (hh true (decide_eq_true (by omega))) (fapp (fa (hquo 0 1 n rfl rfl (by omega)) (fa (f_ieq (k := .i64) (m := ((n / 10 : Nat) : Int)) (n := 0) rfl rfl (by rw [eqdec]; exact decide_eq_false (by omega))) (fa (f_gtr (k := .i64) (m := ((n / 10 : Nat) : Int)) (n := 9) rfl rfl (decide_eq_false (by omega))) fz))) (fa (hne 30 _ _ rfl) (fa (hadd 1 12 (n / 10) rfl rfl (by omega)) (fa (hcat 21 30 31 [dC (n / 10)] [dC (n % 10)] rfl rfl rfl (by simp)) fz)))), SS := fa hss0 (fa (dig_ss (d := n / 10) (by omega) rfl rfl rfl rfl) fz) }
      · rw [hit, Lib.decDigits_two h1 h2]
        rfl
    · refine key 3 33 (by decide) (by decide) ?_ rfl ?_
      · letI := V1
        exact { T := fapp (hh true (decide_eq_true (by omega))) (fapp (fa (hquo 0 1 n rfl rfl (by omega)) (fa (f_ieq (k := .i64) (m := ((n / 10 : Nat) : Int)) (n := 0) rfl rfl (by rw [eqdec]; exact decide_eq_false (by omega))) (fa (f_gtr (k := .i64) (m := ((n / 10 : Nat) : Int)) (n := 9) rfl rfl (decide_eq_true (by omega))) fz))) (fa (f_rem (k := .i64) (m := ((n / 10 : Nat) : Int)) (n := 10) (r := ((n / 10 % 10 : Nat) : Int)) rfl rfl rfl rfl (by omega) (by decide) (by omega)) (fa (hadd 13 14 (n / 10 % 10) rfl rfl (by omega)) (fa (hcat 22 30 32 [dC (n / 10 % 10)] [dC (n % 10)] rfl rfl rfl (by simp)) (fa (hquo 1 2 (n / 10) rfl rfl (by omega)) (fa (f_ieq (k := .i64) (m := ((n / 10 / 10 : Nat) : Int)) (n := 0) rfl rfl (by rw [eqdec]; exact decide_eq_false (by omega))) (fa (f_gtr (k := .i64) (m := ((n / 10 / 10 : Nat) : Int)) (n := 9) rfl rfl (decide_eq_false (by omega))) (fa (hne 32 _ _ rfl) (fa (hadd 2 15 (n / 10 / 10) rfl rfl (by omega)) (fa (hcat 23 32 33 [dC (n / 10 / 10)] [dC (n / 10 % 10), dC (n % 10)] rfl rfl rfl (by simp)) fz)))))))))), SS := fa hss0 (fa (dig_ss (d := n / 10 % 10) (by omega) rfl rfl rfl rfl) (fa (dig_ss (d := n / 10 / 10) (by omega) rfl rfl rfl rfl) fz)) }
      · rw [hit, Lib.decDigits, dif_neg h1, Lib.decDigits_two (by omega) (by omega)]
        rfl
end Go.Proofs.Z

namespace Go.Proofs.Z
open Go Go.RowKit Go.Proofs Go.Ri Go.Proofs.Z.Fa
/-! The specification's Number. -/
abbrev fNumber : Nat := 125
abbrev sU8 (i : Nat) : RV := .sym (.int .u8) i
def lU8 (n : Int) : RV := .pl (.int .u8 n)
/-- z: no byte; b: too many; m: more than one; o: the first one is 0. -/
def nuT (z b m o : Bool) : List TE := [⟨.len, sS 0, sS 0, sI 1⟩, ⟨.ieq, sI 1, lI 0, bR z⟩, ⟨.bin .gtr, sI 1, lI 7, bR b⟩, ⟨.bin .gtr, sI 1, lI 1, bR m⟩, ⟨.idx, sS 0, lI 0, sU8 15⟩, ⟨.ieq, sU8 15, lU8 48, bR o⟩]
noncomputable def nuE (m o : Bool) : Tb := { T := nuT false false m o }
noncomputable def nuP : St := ⟨patW [(0, sS 0), (3, sI 3), (4, sI 2)] 48 0, []⟩
def nuS (n i : RV) : List SE := [.str 0 (sS 0), .int 1 (sI 1), .int 3 n, .int 2 i]
set_option maxRecDepth 100000 in
theorem nu_enter : (all2 fun m => all2 fun o => (m && o) || atH (entN (nuE m o) [] fNumber [sS 0]) fNumber 0 (nuS (lI 0) (lI 0)) [] nuP) = true := by kernel_rfl
def nuB (c : Nat) : List TE := if Nat.beq c 0 then [⟨.len, sS 0, sS 0, sI 1⟩, ⟨.ieq, sI 1, lI 0, bR true⟩] else if Nat.beq c 1 then [⟨.len, sS 0, sS 0, sI 1⟩, ⟨.ieq, sI 1, lI 0, bR false⟩, ⟨.bin .gtr, sI 1, lI 7, bR true⟩] else nuT false false true true
set_option maxRecDepth 100000 in
theorem nu_bad : (allU 3 fun c => doneQ { T := nuB c } [] fNumber [sS 0] [] [] (lI (-1)) []) = true := by kernel_rfl
def nuH (c : Bool) : List TE := [⟨.len, sS 0, sS 0, sI 1⟩, ⟨.bin .lss, sI 2, sI 1, bR c⟩]
/-- p: the byte is less than 0; q: it is greater than 9. -/
noncomputable def nuTb (p q : Bool) : Tb := { T := nuH true ++ [⟨.idx, sS 0, sI 2, sU8 5⟩, ⟨.bin .lss, sU8 5, lU8 48, bR p⟩, ⟨.bin .gtr, sU8 5, lU8 57, bR q⟩, ⟨.bin .mul, sI 3, lI 10, sI 7⟩, ⟨.conv .i64, sU8 5, sU8 5, sI 6⟩, ⟨.bin .add, sI 7, sI 6, sI 8⟩, ⟨.bin .sub, sI 8, lI 48, sI 9⟩, ⟨.bin .add, sI 2, lI 1, sI 4⟩] }
set_option maxRecDepth 100000 in
theorem nu_again : atH (fromH (nuTb false false) [] fNumber 0 nuP) fNumber 0 (nuS (sI 9) (sI 4)) [] nuP = true := by kernel_rfl
set_option maxRecDepth 100000 in
theorem nu_not : (all2 fun p => endF (nuTb p (!p)) fNumber (fromH (nuTb p (!p)) [] fNumber 0 nuP) (lI (-1))) = true := by kernel_rfl
set_option maxRecDepth 100000 in
theorem nu_end : endF { T := nuH false } fNumber (fromH { T := nuH false } [] fNumber 0 nuP) (sI 3) = true := by kernel_rfl
theorem f_mul [Val] {a b c : RV} {m n r : Int} (ha : cv a = .int .i64 m) (hb : cv b = .int .i64 n) (hc : cv c = .int .i64 r) (hf : flat0 c = true) (hr : r = m * n) (h0 : -9000000000000000000 ≤ r) (h1 : r ≤ 9000000000000000000) : TETrue ⟨.bin .mul, a, b, c⟩ := by
  refine ⟨hf, ?_⟩
  show TCTrue _ (cv a) (cv b) (cv c)
  rw [ha, hb, hc]
  have := t_mul .i64 m n
  rw [← hr, IntWalk.i64_in _ (by omega)] at this
  exact this
theorem f_conv [Val] {k : IntKind} {a c : RV} {m : Int} (ha : cv a = .int k m) (hc : cv c = .int .i64 m) (hf : flat0 c = true) (h0 : -9000000000000000000 ≤ m) (h1 : m ≤ 9000000000000000000) : TETrue ⟨.conv .i64, a, a, c⟩ := by
  refine ⟨hf, ?_⟩
  show TCTrue _ (cv a) (cv a) (cv c)
  have := t_conv k m .i64 (cv a)
  rw [IntWalk.i64_in _ (by omega)] at this
  rw [ha] at this ⊢
  rw [hc]
  exact this
def nuI (l : List UInt8) (i k : Nat) (j : Nat) : Int := if j = 1 then (l.length : Nat) else if j = 2 then (i : Nat) else if j = 3 then (k : Nat) else if j = 4 then (i : Nat) + 1 else if j = 5 ∨ j = 6 then (l.getD i 0).toNat else if j = 7 then (k : Int) * 10 else if j = 8 then (k : Int) * 10 + (l.getD i 0).toNat else if j = 9 then (k : Int) * 10 + (l.getD i 0).toNat - 48 else (l.getD 0 0).toNat
def nuNm (l : List UInt8) (i k : Nat) : Nm := ⟨nuI l i k, ny, fun _ => bs l, fun _ => []⟩
theorem len_te (l : List UInt8) (i k : Nat) (W : Nat → Value) : @TETrue ((nuNm l i k).val W) ⟨.len, sS 0, sS 0, sI 1⟩ := by
  letI : Val := (nuNm l i k).val W
  exact f_len (s := bs l) rfl (by show Value.int .i64 ((l.length : Nat) : Int) = .int .i64 ((l.toArray.toList.length : Nat) : Int); simp) rfl
theorem idx_te (l : List UInt8) (i k : Nat) (W : Nat → Value) {x : RV} {j u : Nat} (hx : @cv ((nuNm l i k).val W) x = .int .i64 (j : Nat)) (hu : nuI l i k u = (l.getD j 0).toNat) (hj : j < l.length) : @TETrue ((nuNm l i k).val W) ⟨.idx, sS 0, x, sU8 u⟩ := by
  letI : Val := (nuNm l i k).val W
  have e : (bs l).data.toList = l := by show l.toArray.toList = l; simp
  exact f_idx (s := bs l) (j := j) rfl hx (by rw [e]; exact congrArg _ hu) rfl (by rw [e]; exact hj)
theorem nu_ids (l : List UInt8) (i k i' k' : Nat) (W W' : Nat → Value) (n x : RV) (hn : @cv ((nuNm l i k).val W) n = .int .i64 (k' : Nat)) (hx : @cv ((nuNm l i k).val W) x = .int .i64 (i' : Nat)) : ∀ q, q ∈ nuS n x → okSE ((nuNm l i k).val W) ((nuNm l i' k').val W') q :=
  fa ⟨bs l, rfl, rfl⟩ (fa ⟨.i64, (l.length : Nat), rfl, rfl⟩ (fa ⟨.i64, (k' : Nat), hn, rfl⟩ (fa ⟨.i64, (i' : Nat), hx, rfl⟩ fz)))
theorem tb_T (V : Val) {T : List TE} (h : ∀ e, e ∈ T → @TETrue V e) : @TbOK V { T := T } := by
  letI := V
  exact { T := h }
theorem number_ans (l : List UInt8) (hl : l.length ≤ 100000) : Ans fNumber [strB l] (iZ (numS l)) := by
  intro w hr
  have hv : All2 (@Go.Ri.NVal ((nuNm l 0 0).val fun _ => undef) w) [sS 0] [strB l] := .cons rfl .nil
  have hieq : ∀ (x : Int) q, decide ((l.length : Int) = x) = q → @TETrue ((nuNm l 0 0).val fun _ => undef) ⟨.ieq, sI 1, lI x, bR q⟩ := fun x q h => by
    letI : Val := (nuNm l 0 0).val fun _ => undef
    exact f_ieq (k := .i64) (m := (l.length : Int)) (n := x) rfl rfl (by rw [eqdec]; exact h)
  have hgtr : ∀ (x : Int) q, decide ((l.length : Int) > x) = q → @TETrue ((nuNm l 0 0).val fun _ => undef) ⟨.bin .gtr, sI 1, lI x, bR q⟩ := fun x q h => by
    letI : Val := (nuNm l 0 0).val fun _ => undef
    exact f_gtr (k := .i64) (m := (l.length : Int)) (n := x) rfl rfl h
  have hb : l ≠ [] → ∃ c r, l = c :: r := fun h => by
    cases l with
    | nil => exact absurd rfl h
    | cons c r => exact ⟨c, r, rfl⟩
  by_cases h0 : l.length = 0
  · have hn : numS l = -1 := by
      unfold numS
      rw [if_pos (.inl h0)]
    rw [hn]
    exact done_flat ((nuNm l 0 0).val fun _ => undef) (tb_T _ (fa (len_te l 0 0 _) (fa (hieq 0 true (decide_eq_true (by omega))) fz))) (allU_lt nu_bad 0 (by decide)) rfl rfl rfl w hr [strB l] hv
  · by_cases h7 : 7 < l.length
    · have hn : numS l = -1 := by
        unfold numS
        rw [if_pos (.inr (.inl h7))]
      rw [hn]
      exact done_flat ((nuNm l 0 0).val fun _ => undef) (tb_T _ (fa (len_te l 0 0 _) (fa (hieq 0 false (decide_eq_false (by omega))) (fa (hgtr 7 true (decide_eq_true (by omega))) fz)))) (allU_lt nu_bad 1 (by decide)) rfl rfl rfl w hr [strB l] hv
    · obtain ⟨o, ho⟩ : ∃ o, o = decide (((l.getD 0 0).toNat : Int) = 48) := ⟨_, rfl⟩
      have hT : ∀ m, m = decide ((l.length : Int) > 1) → ∀ e, e ∈ nuT false false m o → @TETrue ((nuNm l 0 0).val fun _ => undef) e := fun m hm => by
        letI : Val := (nuNm l 0 0).val fun _ => undef
        exact fa (len_te l 0 0 _) (fa (hieq 0 false (decide_eq_false (by omega))) (fa (hgtr 7 false (decide_eq_false (by omega))) (fa (hgtr 1 m hm.symm) (fa (idx_te l 0 0 _ (j := 0) rfl rfl (by omega)) (fa (f_ieq (k := .u8) (m := ((l.getD 0 0).toNat : Int)) (n := 48) rfl rfl (by rw [eqdec]; exact ho.symm)) fz)))))
      have hhead : o = true ↔ l.head? = some 48 := by
        obtain ⟨c, r, rfl⟩ := hb (fun e => h0 (by rw [e]; rfl))
        rw [ho, decide_eq_true_iff]
        show ((c.toNat : Nat) : Int) = 48 ↔ some c = some 48
        constructor
        · intro h
          congr 1
          rw [← UInt8.toNat_inj]
          show c.toNat = 48
          omega
        · intro h
          rw [Option.some.inj h]
          rfl
      by_cases hz : 1 < l.length ∧ o = true
      · have hn : numS l = -1 := by
          unfold numS
          rw [if_pos (.inr (.inr ⟨hz.1, hhead.1 hz.2⟩))]
        rw [hn]
        have := hT true (decide_eq_true (by omega)).symm
        rw [hz.2] at this
        exact done_flat ((nuNm l 0 0).val fun _ => undef) (tb_T _ (this)) (allU_lt nu_bad 2 (by decide)) rfl rfl rfl w hr [strB l] hv
      · have hn : numS l = numF 0 l := by
          unfold numS
          rw [if_neg]
          rintro (h | h | ⟨h, h'⟩)
          · exact h0 h
          · exact h7 h
          · exact hz ⟨h, hhead.2 h'⟩
        rw [hn]
        obtain ⟨m, hm⟩ : ∃ m, m = decide ((l.length : Int) > 1) := ⟨_, rfl⟩
        have hmo : (m && o) = false := by
          rw [← Bool.not_eq_true, Bool.and_eq_true]
          exact fun h => hz ⟨by have := h.1; rw [hm, decide_eq_true_iff] at this; omega, h.2⟩
        have hent := all2_all (all2_all nu_enter m) o
        rw [hmo, Bool.false_or] at hent
        have hmod : ∀ i k : Nat, i ≤ l.length → numF k (l.drop i) = numF 0 l → k < 10 ^ i → k < 10000000 := fun i k hi _ hk => Nat.lt_of_lt_of_le hk (Nat.le_trans (Nat.pow_le_pow_right (by decide) (show i ≤ 7 by omega)) (by decide))
        refine fn_headsN (κ := Unit) (nuNm l 0 0) (fun _ => undef) (nuE m o) [] fNumber [sS 0] (fun _ => 0) (fun _ => nuP) (fun q _ c => ∃ i k : Nat, i ≤ l.length ∧ numF k (l.drop i) = numF 0 l ∧ k < 10 ^ i ∧ q = l.length - i ∧ c = nuNm l i k) (tb_T _ (hT m hm)) (nuS (lI 0) (lI 0)) [] () l.length hent (nuNm l 0 0) (fun W' => holds_all (nu_ids l 0 0 0 0 _ W' (lI 0) (lI 0) rfl rfl)) ⟨0, 0, Nat.zero_le _, rfl, by decide, rfl, rfl⟩ (DF (iZ (numF 0 l))) ?_ w hr [strB l] hv
        rintro w q _ c ⟨i, k, hi, hf, hk, rfl, rfl⟩ W
        have hk7 := hmod i k hi hf hk
        have hlss : ∀ q, decide (i < l.length) = q → ∀ e, e ∈ nuH q → @TETrue ((nuNm l i k).val W) e := fun q hq => by
          letI : Val := (nuNm l i k).val W
          exact fa (len_te l i k W) (fa (f_lss (k := .i64) (m := (i : Int)) (n := (l.length : Int)) rfl rfl (by rw [← hq]; exact decide_eq_decide.2 (by omega))) fz)
        rcases Nat.lt_or_ge i l.length with hlt | hge
        · have hd : l.drop i = l.getD i 0 :: l.drop (i + 1) := by
            rw [List.drop_eq_getElem_cons hlt, List.getD_eq_getElem?_getD, List.getElem?_eq_getElem hlt]
            rfl
          obtain ⟨b, hb0⟩ : ∃ b, b = l.getD i 0 := ⟨_, rfl⟩
          have hb255 : b.toNat < 256 := b.toNat_lt
          have ht : ∀ p q, p = decide ((b.toNat : Int) < 48) → q = decide ((b.toNat : Int) > 57) → @TbOK ((nuNm l i k).val W) (nuTb p q) := fun p q hp hq => by
            letI : Val := (nuNm l i k).val W
            have e5 : nuI l i k 5 = (b.toNat : Int) := by rw [hb0]; rfl
            have e8 : nuI l i k 8 = (k : Int) * 10 + (b.toNat : Int) := by rw [hb0]; rfl
            exact { T := fapp (hlss true (decide_eq_true hlt)) (fa (idx_te l i k W (j := i) rfl rfl hlt) (fa (f_lss (k := .u8) (m := (b.toNat : Int)) (n := 48) (congrArg (Value.int .u8) e5) rfl hp.symm) (fa (f_gtr (k := .u8) (m := (b.toNat : Int)) (n := 57) (congrArg (Value.int .u8) e5) rfl hq.symm) (fa (f_mul (m := (k : Int)) (n := 10) (r := (k : Int) * 10) rfl rfl rfl rfl rfl (by omega) (by omega)) (fa (f_conv (k := .u8) (m := (b.toNat : Int)) (congrArg (Value.int .u8) e5) (congrArg (Value.int .i64) e5) rfl (by omega) (by omega)) (fa (f_add (m := (k : Int) * 10) (n := (b.toNat : Int)) (r := (k : Int) * 10 + (b.toNat : Int)) rfl (congrArg (Value.int .i64) e5) (congrArg (Value.int .i64) e8) rfl rfl (by omega) (by omega)) (fa (f_sub (m := (k : Int) * 10 + (b.toNat : Int)) (n := 48) (r := (k : Int) * 10 + (b.toNat : Int) - 48) (congrArg (Value.int .i64) e8) rfl (by rw [hb0]; rfl) rfl rfl (by omega) (by omega)) (fa (f_add1 (m := (i : Int)) rfl rfl rfl (by omega) (by omega)) fz)))))))) }
          rw [hd, ← hb0] at hf
          by_cases hdig : isDig b = true
          · have hdig' := hdig
            unfold isDig at hdig'
            simp only [Bool.and_eq_true, decide_eq_true_eq] at hdig'
            have hf2 : numF (k * 10 + (b.toNat - 48)) (l.drop (i + 1)) = numF 0 l := by
              rw [← hf]
              show _ = if isDig b then _ else _
              rw [if_pos hdig]
            refine stepH_to (nuTb false false) [] (ht false false (decide_eq_false (by omega)).symm (decide_eq_false (by omega)).symm) (nuS (sI 9) (sI 4)) [] rfl () (nuNm l (i + 1) (k * 10 + (b.toNat - 48))) nu_again (fun W' => holds_all (nu_ids l i k (i + 1) (k * 10 + (b.toNat - 48)) W W' (sI 9) (sI 4) ?_ rfl)) ⟨l.length - (i + 1), by omega, i + 1, _, hlt, hf2, ?_, rfl, rfl⟩
            · show Value.int .i64 ((k : Int) * 10 + ((l.getD i 0).toNat : Int) - 48) = _
              rw [← hb0, show (k : Int) * 10 + (b.toNat : Int) - 48 = ((k * 10 + (b.toNat - 48) : Nat) : Int) by omega]
            · rw [Nat.pow_succ]
              clear hmod hk7 ht hlss hent
              generalize 10 ^ i = P at hk ⊢
              omega
          · have hv1 : numF 0 l = -1 := by
              rw [← hf]
              show (if isDig b then _ else _) = _
              rw [if_neg hdig]
            have hp : decide ((b.toNat : Int) > 57) = !decide ((b.toNat : Int) < 48) := by
              unfold isDig at hdig
              simp only [Bool.and_eq_true, decide_eq_true_eq] at hdig
              rw [← decide_not]
              exact decide_eq_decide.2 (by omega)
            exact stepH_outF _ [] (ht _ _ rfl hp.symm) (lI (-1)) (all2_all nu_not _) (by rw [hv1]; rfl)
        · obtain rfl : i = l.length := by omega
          rw [List.drop_of_length_le (Nat.le_refl _)] at hf
          exact stepH_outF { T := nuH false } [] (tb_T _ (hlss false (decide_eq_false (Nat.lt_irrefl _)))) (sI 3) nu_end (by rw [← hf]; rfl)
end Go.Proofs.Z
