/- A part of the proofs that the laws of layer eight answer true for every input. -/
import Derived.Test.YtjeikabpnplogaaZCC
import Derived.Test.YtjeikabpnplogaaZCB
namespace Go.Proofs.Z
open Go Go.RowKit Go.Proofs Go.Ri Go.Proofs.Z.Fa
/-! numberOf of the program and Number of the specification: contracts. -/
def numL : List UInt8 → Nat
  | [] => 0
  | b :: r => b.toNat + 256 * numL r
theorem numL_lt : ∀ l : List UInt8, numL l < 256 ^ l.length
  | [] => by simp [numL]
  | b :: r => by
    have h := numL_lt r
    have hb := b.toNat_lt
    show b.toNat + 256 * numL r < 256 ^ (r.length + 1)
    rw [Nat.pow_succ]
    omega
theorem numL_snoc : ∀ (l : List UInt8) (b : UInt8), numL (l ++ [b]) = numL l + b.toNat * 256 ^ l.length
  | [], b => by simp [numL]
  | a :: r, b => by
    have h := numL_snoc r b
    show a.toNat + 256 * numL (r ++ [b]) = a.toNat + 256 * numL r + b.toNat * 256 ^ (r.length + 1)
    rw [h, Nat.pow_succ, Nat.mul_add, Nat.add_assoc, show 256 * (b.toNat * 256 ^ r.length) = b.toNat * (256 ^ r.length * 256) by rw [Nat.mul_comm, Nat.mul_assoc]]
theorem pow_le {n : Nat} (h : n ≤ 8) : 256 ^ n ≤ 18446744073709551616 := by
  have := Nat.pow_le_pow_right (n := 256) (by omega) h
  exact Nat.le_trans this (by omega)
theorem numL_in {l : List UInt8} (h : l.length ≤ 8) : numL l < 18446744073709551616 := Nat.lt_of_lt_of_le (numL_lt l) (pow_le h)
theorem t_or64 {m n : Nat} (hm : m < 18446744073709551616) (hn : n < 18446744073709551616) : TCTrue (.bin .or) (.int .u64 m) (.int .u64 n) (.int .u64 (m ||| n : Nat)) := fun P ty a b w => by
  have e : ((BitVec.ofInt IntKind.u64.bits (m : Int)) ||| (BitVec.ofInt IntKind.u64.bits (n : Int))).toNat = m ||| n := by
    rw [BitVec.toNat_or]
    show (BitVec.ofInt 64 (m : Int)).toNat ||| (BitVec.ofInt 64 (n : Int)).toNat = _
    rw [BitVec.ofInt_natCast, BitVec.ofInt_natCast, BitVec.toNat_ofNat, BitVec.toNat_ofNat, Nat.mod_eq_of_lt (by omega), Nat.mod_eq_of_lt (by omega)]
  have hlt : m ||| n < 2 ^ 64 := Nat.or_lt_two_pow (n := 64) (by omega) (by omega)
  have hw : IntKind.u64.wrap ((m ||| n : Nat) : Int) = ((m ||| n : Nat) : Int) := w_in (by omega)
  simp only [int_guard, binOp, Op.intBits, Sem.run_bind, Result.andThen_ok, ne_eq, not_true_eq_false, if_false, e, hw]
  rfl
theorem t_shl64 {m k : Nat} (hk : k ≤ 64) (h : m * 2 ^ k < 18446744073709551616) : TCTrue (.bin .shl) (.int .u64 m) (.int .i64 k) (.int .u64 (m * 2 ^ k : Nat)) := fun P ty x y w => by
  have e : (m : Int) * 2 ^ (min ((k : Int)).toNat IntKind.u64.bits) = ((m * 2 ^ k : Nat) : Int) := by
    rw [Int.toNat_natCast, show min k IntKind.u64.bits = k from Nat.min_eq_left hk]
    simp
  have h0 : ¬ ((k : Int) < 0) := by omega
  have hw : IntKind.u64.wrap ((m * 2 ^ k : Nat) : Int) = ((m * 2 ^ k : Nat) : Int) := w_in (by omega)
  simp only [int_guard, binOp, Op.shift, Sem.run_bind, Result.andThen_ok, if_neg h0, e, hw]
  rfl
theorem f_binop [Val] {a b c : RV} {op : BinOp} {u v z : Value} (ha : cv a = u) (hb : cv b = v) (hc : cv c = z) (hf : flat0 c = true) (h : TCTrue (.bin op) u v z) : TETrue ⟨.bin op, a, b, c⟩ := by
  refine ⟨hf, ?_⟩
  show TCTrue _ (cv a) (cv b) (cv c)
  rw [ha, hb, hc]
  exact h
theorem pow_bits (i : Nat) : 2 ^ (8 * i) = 256 ^ i := by
  rw [Nat.pow_mul]
def bAt (l : List UInt8) (i : Nat) : Nat := (l.getD i 0).toNat
theorem bAt_get {l : List UInt8} {i : Nat} (h : i < l.length) : l[i]? = some (l.getD i 0) := by
  rw [List.getD_eq_getElem?_getD, List.getElem?_eq_getElem h]
  rfl
theorem numL_take {l : List UInt8} {i : Nat} (h : i < l.length) : numL (l.take (i + 1)) = numL (l.take i) + bAt l i * 256 ^ i := by
  rw [List.take_add_one, bAt_get h, Option.toList_some, numL_snoc, List.length_take, Nat.min_eq_left (by omega)]
  rfl
theorem numL_drop {l : List UInt8} {i : Nat} (h : i < l.length) : numL (l.drop i) = bAt l i + 256 * numL (l.drop (i + 1)) := by
  rw [List.drop_eq_getElem_cons h]
  show l[i].toNat + _ = _
  unfold bAt
  rw [List.getD_eq_getElem?_getD, List.getElem?_eq_getElem h]
  rfl
theorem bAt_lt (l : List UInt8) (i : Nat) : bAt l i < 256 := UInt8.toNat_lt _
def nbI (l : List UInt8) (k : Nat) : Int := if k < 30 then (bAt l (k - 20) : Int) else if k < 40 then (bAt l (k - 30) : Int) else if k < 50 then ((bAt l (k - 40) * 2 ^ (8 * (k - 40)) : Nat) : Int) else (numL (l.take (k - 50)) : Int)
def nbNm (l : List UInt8) : Nm := ⟨nbI l, fun _ => false, fun _ => ba l, fun _ => []⟩
theorem nbV_cv {l : List UInt8} {i : Nat} (hi : i ≤ 8) : @cv ((nbNm l).val fun _ => undef) (nmV i) = .int .u64 (numL (l.take i) : Nat) := by
  unfold nmV
  split
  · rename_i h0
    subst h0
    rfl
  · refine congrArg (Value.int .u64) (show nbI l (50 + i) = _ from ?_)
    unfold nbI
    rw [if_neg (by omega), if_neg (by omega), if_neg (by omega), Nat.add_sub_cancel_left]
theorem nb_or {l : List UInt8} {i : Nat} (h : i < l.length) : numL (l.take i) ||| bAt l i * 2 ^ (8 * i) = numL (l.take (i + 1)) := by
  rw [numL_take h, ← pow_bits]
  have hlt : numL (l.take i) < 2 ^ (8 * i) := by
    rw [pow_bits]
    have := numL_lt (l.take i)
    rwa [List.length_take, Nat.min_eq_left (by omega)] at this
  rw [Nat.or_comm, Nat.mul_comm, ← Nat.two_pow_add_eq_or_of_lt hlt, Nat.add_comm]
theorem nbE_true {l : List UInt8} (hl : l.length ≤ 8) {i : Nat} (h : i < l.length) : ∀ e, e ∈ nbE i → @TETrue ((nbNm l).val fun _ => undef) e := by
  have e2 : @cv ((nbNm l).val fun _ => undef) (s8 (20 + i)) = .int .u8 (bAt l i : Nat) := congrArg (Value.int .u8) (show nbI l (20 + i) = _ by unfold nbI; rw [if_pos (by omega), Nat.add_sub_cancel_left])
  have e3 : @cv ((nbNm l).val fun _ => undef) (sU (30 + i)) = .int .u64 (bAt l i : Nat) := congrArg (Value.int .u64) (show nbI l (30 + i) = _ by unfold nbI; rw [if_neg (by omega), if_pos (by omega), Nat.add_sub_cancel_left])
  have e4 : @cv ((nbNm l).val fun _ => undef) (sU (40 + i)) = .int .u64 (bAt l i * 2 ^ (8 * i) : Nat) := congrArg (Value.int .u64) (show nbI l (40 + i) = _ by unfold nbI; rw [if_neg (by omega), if_neg (by omega), if_pos (by omega), Nat.add_sub_cancel_left])
  have e5 := nbV_cv (l := l) (i := i) (by omega)
  have e6 := nbV_cv (l := l) (i := i + 1) (by omega)
  have h1 : numL (l.take (i + 1)) < 18446744073709551616 := numL_in (by rw [List.length_take]; omega)
  have h2 : numL (l.take i) < 18446744073709551616 := numL_in (by rw [List.length_take]; omega)
  have h3 : bAt l i * 2 ^ (8 * i) < 18446744073709551616 := by
    rw [numL_take h, ← pow_bits] at h1
    omega
  letI : Val := (nbNm l).val fun _ => undef
  refine fa (f_idx (s := ba l) (i := i) (x := l.getD i 0) rfl rfl (bAt_get h) e2 rfl) (fa (f_conv (k := .u8) (m := (bAt l i : Nat)) e2 ?_ rfl) (fa (f_binop e3 rfl e4 rfl (t_shl64 (by omega) h3)) (fa (f_binop e5 e4 ?_ rfl (t_or64 h2 h3)) fz)))
  · rw [e3]
    exact congrArg (Value.int .u64) (w64_byte (l.getD i 0)).symm
  · rw [e6, nb_or h]
theorem num_ans (q : Bool) {l : List UInt8} (hl : l.length = nuC q) : Ans fNum [.string (ba l)] (.int .u64 (numL l : Nat)) := by
  have h8 : nuC q ≤ 8 := by cases q <;> decide
  have ht : @TbOK ((nbNm l).val fun _ => undef) (nbA (nuC q)) := by
    have hT : ∀ e, e ∈ (List.range (nuC q)).flatMap nbE → @TETrue ((nbNm l).val fun _ => undef) e := by
      intro e he
      obtain ⟨i, hi, he⟩ := List.mem_flatMap.1 he
      have hi := List.mem_range.1 hi
      exact nbE_true (by omega) (by omega) e he
    letI : Val := (nbNm l).val fun _ => undef
    exact { T := fa (f_len (s := ba l) rfl (congrArg (Value.int .i64) (by rw [ba_size, hl])) rfl) hT }
  have h0 : nuC q ≠ 0 := by cases q <;> decide
  have hv : nbI l (50 + nuC q) = (numL l : Int) := by
    unfold nbI
    rw [if_neg (by omega), if_neg (by omega), if_neg (by omega), Nat.add_sub_cancel_left, ← hl, List.take_length]
  exact done_val _ ht (all2_all nb_run q) rfl (holds_all (fa ⟨.u64, _, congrArg (Value.int .u64) hv, hv⟩ fz)) rfl (congrArg (Value.int .u64) hv) (fun w => .cons rfl .nil)
def rbI (l : List UInt8) (at' k : Nat) : Int := if k = 1 then (at' : Int) else if k < 20 then ((at' + (k - 10) : Nat) : Int) else if k < 30 then (bAt l (k - 20) : Int) else if k < 40 then (bAt l (k - 30) : Int) else if k < 60 then (numL (l.drop (k - 50)) : Int) else ((256 * numL (l.drop (k - 60 + 1)) : Nat) : Int)
def rbNm (s : ByteArray) (l : List UInt8) (at' : Nat) : Nm := ⟨rbI l at', fun _ => false, fun _ => s, fun _ => []⟩
section
variable {s : ByteArray} {l : List UInt8} {at' : Nat}
theorem rm_cv {i : Nat} (hi : i ≤ 8) (hl : i ≤ l.length) : @cv ((rbNm s l at').val fun _ => undef) (rmV l.length i) = .int .u64 (numL (l.drop i) : Nat) := by
  unfold rmV
  split
  · rename_i h0
    subst h0
    rw [List.drop_length]
    rfl
  · refine congrArg (Value.int .u64) (show rbI l at' (50 + i) = _ from ?_)
    unfold rbI
    rw [if_neg (by omega), if_neg (by omega), if_neg (by omega), if_neg (by omega), if_pos (by omega), Nat.add_sub_cancel_left]
theorem rp_cv {i : Nat} (hi : i < 8) : @cv ((rbNm s l at').val fun _ => undef) (rpV l.length i) = .int .u64 (256 * numL (l.drop (i + 1)) : Nat) := by
  unfold rpV
  split
  · rename_i h0
    rw [h0, List.drop_length]
    rfl
  · refine congrArg (Value.int .u64) (show rbI l at' (60 + i) = _ from ?_)
    unfold rbI
    rw [if_neg (by omega), if_neg (by omega), if_neg (by omega), if_neg (by omega), if_neg (by omega), Nat.add_sub_cancel_left]
theorem t_u64 {op : BinOp} {m n r : Nat} (h : TCTrue (.bin op) (.int .u64 m) (.int .u64 n) (.int .u64 (IntKind.u64.wrap (r : Int)))) (hr : r < 18446744073709551616) : TCTrue (.bin op) (.int .u64 m) (.int .u64 n) (.int .u64 (r : Nat)) := by
  rw [w_in (m := (r : Int)) (by omega)] at h
  exact h
theorem rbE_true (hl : l.length ≤ 8) (hb : at' ≤ 999999000) (hg : ∀ i, i < l.length → s.data.toList[at' + i]? = l[i]?) {i : Nat} (h : i < l.length) : ∀ e, e ∈ rbE l.length i → @TETrue ((rbNm s l at').val fun _ => undef) e := by
  have e1 : @cv ((rbNm s l at').val fun _ => undef) (sI 1) = .int .i64 (at' : Nat) := congrArg (Value.int .i64) (show rbI l at' 1 = _ by simp [rbI])
  have e0 : @cv ((rbNm s l at').val fun _ => undef) (sI (10 + i)) = .int .i64 (at' + i : Nat) := congrArg (Value.int .i64) (show rbI l at' (10 + i) = _ by unfold rbI; rw [if_neg (by omega), if_pos (by omega), Nat.add_sub_cancel_left])
  have e2 : @cv ((rbNm s l at').val fun _ => undef) (s8 (20 + i)) = .int .u8 (bAt l i : Nat) := congrArg (Value.int .u8) (show rbI l at' (20 + i) = _ by unfold rbI; rw [if_neg (by omega), if_neg (by omega), if_pos (by omega), Nat.add_sub_cancel_left])
  have e3 : @cv ((rbNm s l at').val fun _ => undef) (sU (30 + i)) = .int .u64 (bAt l i : Nat) := congrArg (Value.int .u64) (show rbI l at' (30 + i) = _ by unfold rbI; rw [if_neg (by omega), if_neg (by omega), if_neg (by omega), if_pos (by omega), Nat.add_sub_cancel_left])
  have e4 := rm_cv (s := s) (l := l) (at' := at') (i := i + 1) (by omega) (by omega)
  have e5 := rp_cv (s := s) (l := l) (at' := at') (i := i) (by omega)
  have e6 := rm_cv (s := s) (l := l) (at' := at') (i := i) (by omega) (by omega)
  have hd := numL_drop h
  have h1 : numL (l.drop i) < 18446744073709551616 := numL_in (by rw [List.length_drop]; omega)
  letI : Val := (rbNm s l at').val fun _ => undef
  refine fa (f_addi (m := (at' : Int)) (n := (i : Int)) e1 rfl (by rw [e0]; congr 1) rfl (by omega) (by omega)) (fa (f_idx (s := s) (i := at' + i) (x := l.getD i 0) rfl e0 ((hg i h).trans (bAt_get h)) e2 rfl) (fa (f_conv (k := .u8) (m := (bAt l i : Nat)) e2 ?_ rfl) (fa (f_binop e4 rfl e5 ?_ ?_) (fa (f_binop e5 e3 e6 ?_ ?_) fz))))
  · rw [e3]
    exact congrArg (Value.int .u64) (w64_byte (l.getD i 0)).symm
  · unfold rpV
    split <;> rfl
  · refine t_u64 (m := numL (l.drop (i + 1))) (n := 256) ?_ (by omega)
    have := t_mul .u64 (numL (l.drop (i + 1)) : Nat) 256
    rw [show ((numL (l.drop (i + 1)) : Nat) : Int) * 256 = ((256 * numL (l.drop (i + 1)) : Nat) : Int) by omega] at this
    exact this
  · unfold rmV
    split <;> rfl
  · refine t_u64 ?_ h1
    have := t_add .u64 (256 * numL (l.drop (i + 1)) : Nat) (bAt l i : Nat)
    rw [show ((256 * numL (l.drop (i + 1)) : Nat) : Int) + (bAt l i : Nat) = ((numL (l.drop i) : Nat) : Int) by omega] at this
    exact this
end
theorem rnum_ans (q : Bool) {s : ByteArray} {l : List UInt8} {at' : Nat} (hl : l.length = nuC q) (hb : at' ≤ 999999000) (hg : ∀ i, i < l.length → s.data.toList[at' + i]? = l[i]?) : Ans fRNum [.string s, .int .i64 (at' : Nat), .int .i64 (nuC q : Nat)] (.int .u64 (numL l : Nat)) := by
  have h8 : nuC q ≤ 8 := by cases q <;> decide
  have h0 : nuC q ≠ 0 := by cases q <;> decide
  have ht : @TbOK ((rbNm s l at').val fun _ => undef) (rbA (nuC q)) := by
    have hT : ∀ e, e ∈ (List.range (nuC q)).flatMap (rbE (nuC q)) → @TETrue ((rbNm s l at').val fun _ => undef) e := by
      intro e he
      obtain ⟨i, hi, he⟩ := List.mem_flatMap.1 he
      have hi := List.mem_range.1 hi
      rw [← hl] at he hi
      exact rbE_true (by omega) hb hg hi e he
    letI : Val := (rbNm s l at').val fun _ => undef
    exact { T := hT }
  have hv : rbI l at' 50 = (numL l : Int) := by
    simp [rbI]
  have ha : rbI l at' 1 = (at' : Int) := by simp [rbI]
  refine done_val _ ht (all2_all rb_run q) rfl (holds_all (fa ⟨.u64, _, congrArg (Value.int .u64) hv, hv⟩ fz)) rfl (congrArg (Value.int .u64) hv) (fun w => .cons rfl (.cons ?_ (.cons rfl .nil)))
  exact congrArg (Value.int .i64) ha.symm
end Go.Proofs.Z

namespace Go.Proofs.Z
open Go Go.RowKit Go.Proofs Go.Ri Go.Proofs.Z.Fa
/-! Encode of both packages: contracts. -/
def seB (se : Nat → Int) (k : Nat) : List UInt8 := (List.range k).flatMap fun i => numBs (se i)
theorem seB_succ (se : Nat → Int) (k : Nat) : seB se (k + 1) = seB se k ++ numBs (se k) := by
  unfold seB
  rw [List.range_succ, List.flatMap_append]
  simp
theorem seB_len (se : Nat → Int) : ∀ k, (seB se k).length = 8 * k
  | 0 => rfl
  | k + 1 => by
    rw [seB_succ, List.length_append, seB_len se k, numBs_len]
    omega
theorem numBs_get (x : Int) {j : Nat} (hj : j < 8) : (numBs x)[j]? = some (byB (qd x j)) := by
  unfold numBs
  rw [List.getElem?_map, List.getElem?_range hj]
  rfl
theorem seB_get (se : Nat → Int) : ∀ N k, k < 8 * N → (seB se N)[k]? = some (byB (qd (se (k / 8)) (k % 8)))
  | 0, k, h => by omega
  | N + 1, k, h => by
    rw [seB_succ]
    rcases Nat.lt_or_ge k (8 * N) with h1 | h1
    · rw [List.getElem?_append_left (by rw [seB_len]; exact h1)]
      exact seB_get se N k h1
    · rw [List.getElem?_append_right (by rw [seB_len]; exact h1), seB_len, numBs_get _ (by omega), show k / 8 = N by omega, show k - 8 * N = k % 8 by omega]
def coreL (p n x : Int) (s : ByteArray) : List UInt8 := preL p n x s.size ++ s.data.toList
def encL (p n x : Int) (s : ByteArray) (se : Nat → Int) : List UInt8 := coreL p n x s ++ seB se 16
theorem coreL_len (p n x : Int) (s : ByteArray) : (coreL p n x s).length = 12 + s.size := by
  have hlen : s.data.toList.length = s.size := rfl
  unfold coreL
  rw [List.length_append, preL_len, hlen]
theorem encL_len (p n x : Int) (s : ByteArray) (se : Nat → Int) : (encL p n x s se).length = 12 + s.size + 128 := by
  unfold encL
  rw [List.length_append, coreL_len, seB_len]
def ecI (p n x : Int) (m : Nat) (se : Nat → Int) (k : Nat) : Int := if k = 0 then x else if k = 50 then p else if k = 51 then n else if k = 54 then (m : Int) else if k < 1000 then se (k - 300) else if k < 2000 then qd (se ((k - 1000) / 8)) ((k - 1000) % 8) % 256 else qd (se ((k - 2000) / 16)) ((k - 2000) % 16)
def ecS (p n x : Int) (s : ByteArray) (se : Nat → Int) (k : Nat) : ByteArray := if k = 1 then s else if k = 2 then ba (coreL p n x s) else if k = 4 then ba (encL p n x s se) else if k < 40 then ba (numBs (se (k - 20))) else ba (coreL p n x s ++ seB se (k - 40))
def ecL (p n x : Int) (s : ByteArray) (se : Nat → Int) (k : Nat) : List Value := if k < 500 then vals (coreL p n x s) else vals (coreL p n x s ++ (seB se 16).take (k - 500))
def ecNm (p n x : Int) (s : ByteArray) (se : Nat → Int) : Nm := ⟨ecI p n x s.size se, fun _ => false, ecS p n x s se, ecL p n x s se⟩
abbrev ecV (p n x : Int) (s : ByteArray) (se : Nat → Int) : Val := (ecNm p n x s se).val fun _ => undef
theorem vals_one {l : List UInt8} {v : Value} (h : v ∈ vals l) : v.oneCell' = true := by
  obtain ⟨y, _, rfl⟩ := List.mem_map.1 h
  rfl
/-- Tests of an entry, under any names. -/
theorem ecX_true [Val] {p n : Int} {s : ByteArray} {c : Nat} (e50 : cv (sI 50) = .int .i64 p) (e51 : cv (sI 51) = .int .i64 n) (e54 : cv (sI 54) = .int .i64 (s.size : Nat)) (hS : cv (sT 1) = .string s) (hc : eCls p n s.size = c) : ∀ e, e ∈ ecT c → TETrue e := by
  intro e he
  obtain ⟨i, hi, he⟩ := List.mem_flatMap.1 he
  subst hc
  have hi : i < Nat.min (eCls p n s.size + 1) 5 := List.mem_range.1 hi
  have h1 : i < eCls p n s.size + 1 := Nat.lt_of_lt_of_le hi (Nat.min_le_left _ _)
  have h2 : i < 5 := Nat.lt_of_lt_of_le hi (Nat.min_le_right _ _)
  have hq : Nat.blt i (eCls p n s.size) = eTest p n s.size i := by
    rcases Nat.lt_or_ge i (eCls p n s.size) with hl | hl
    · rw [firstBad_pass (eTest p n s.size) 5 0 i (Nat.zero_le _) hl]
      exact Nat.ble_eq_true_of_le hl
    · obtain rfl : i = eCls p n s.size := by omega
      rw [show eTest p n s.size (eCls p n s.size) = false from firstBad_fail (eTest p n s.size) 5 0 (by show eCls p n s.size < 0 + 5; omega)]
      have := Nat.lt_irrefl (eCls p n s.size)
      exact Bool.eq_false_iff.2 fun hc => this (Nat.le_of_ble_eq_true hc)
  rw [hq] at he
  have key : ∀ e, e ∈ ect i (eTest p n s.size i) → TETrue e := by
    match i, h2 with
    | 0, _ => exact fa (f_geq e50 rfl rfl) fz
    | 1, _ => exact fa (f_leq e50 rfl rfl) (fa (f_lss e50 rfl (decide_eq_decide.2 (by show p < 8 ↔ p ≤ 7; omega))) fz)
    | 2, _ => exact fa (f_geq e51 rfl rfl) fz
    | 3, _ => exact fa (f_leq e51 rfl rfl) (fa (f_lss e51 rfl (decide_eq_decide.2 (by show n < 64 ↔ n ≤ 63; omega))) fz)
    | 4, _ => exact fa (f_len (s := s) hS e54 rfl) (fa (f_leq e54 rfl (decide_eq_decide.2 (by show (s.size : Int) ≤ 4096 ↔ s.size ≤ 4096; omega))) (fa (f_gtr e54 rfl (by show decide ((s.size : Int) > 4096) = !decide (s.size ≤ 4096); rw [← decide_not]; exact decide_eq_decide.2 (by omega))) fz))
  exact key e he
section
variable {p n x : Int} {s : ByteArray} {se : Nat → Int}
theorem core_ansV (q : Bool) (V0 : Val) (hL : V0.L (coL q) = vals (coreL p n x s)) (hq : q = s.data.toList.isEmpty) (hs : s.size ≤ 4096) : @AnsQ V0 fCore [entVal p n x s se] (.slN 0 (coL q) 1) (coH q) := by
  have ht := coA_ok (p := p) (n := n) (x := x) (se := se) (h := 0) (d := 0) q hq hs
  have hE := ent_cv (p := p) (n := n) (x := x) (s := s) (se := se) (h := 0) (d := 0)
  intro w hr
  have hA := @nval_flat (enV p n x s se 0 0) w [entR] rfl
  rw [show [entR].map (@cvF (enV p n x s se 0 0)) = [entVal p n x s se] from congrArg (fun z => [z]) hE] at hA
  cases q
  · exact done_calls _ V0 ht core_b rfl (holds_all (fa hL fz)) w hr _ hA
  · refine done_calls _ V0 ht core_a rfl (holds_all (fa ?_ fz)) w hr _ hA
    have h0 : s.data.toList = [] := List.isEmpty_iff.1 hq.symm
    show V0.L 110 = enL p n x s 110
    rw [show V0.L 110 = _ from hL, enL_110]
    unfold coreL
    rw [h0, List.append_nil]
theorem ecI_se (i : Nat) (hi : i < 16) : ecI p n x s.size se (300 + i) = se i := by
  unfold ecI
  rw [if_neg (by omega), if_neg (by omega), if_neg (by omega), if_neg (by omega), if_pos (by omega), Nat.add_sub_cancel_left]
theorem ec_cv : @cvF (ecV p n x s se) entR = entVal p n x s se := by
  show Value.agg ((([sI 50, sI 51, sU 0, sT 1] : List RV) ++ (List.range 16).map fun i => sU (300 + i)).map (@cv (ecV p n x s se))).toArray = _
  rw [List.map_append, List.map_map]
  unfold entVal
  have hm : (List.range 16).map ((@cv (ecV p n x s se)) ∘ fun i => sU (300 + i)) = (List.range 16).map fun i => Value.int .u64 (se i) := List.map_congr_left fun i hi => by
    show Value.int .u64 (ecI p n x s.size se (300 + i)) = _
    rw [ecI_se i (List.mem_range.1 hi)]
  rw [hm]
  rfl
theorem seN_cv {i j : Nat} (hi : i < 16) (hj : j ≤ 8) : @cv (ecV p n x s se) (seN i j) = .int .u64 (qd (se i) j) := by
  unfold seN
  split
  · rename_i h0
    subst h0
    exact congrArg (Value.int .u64) (show ecI p n x s.size se (300 + i) = se i from ecI_se i hi)
  · refine congrArg (Value.int .u64) (show ecI p n x s.size se (2000 + 16 * i + j) = qd (se i) j from ?_)
    unfold ecI
    rw [if_neg (by omega), if_neg (by omega), if_neg (by omega), if_neg (by omega), if_neg (by omega), if_neg (by omega), show (2000 + 16 * i + j - 2000) / 16 = i by omega, show (2000 + 16 * i + j - 2000) % 16 = j by omega]
theorem seb_cv {k : Nat} (hk : k < 128) : @cv (ecV p n x s se) (s8 (1000 + k)) = .int .u8 (qd (se (k / 8)) (k % 8) % 256) := by
  refine congrArg (Value.int .u8) (show ecI p n x s.size se (1000 + k) = _ from ?_)
  unfold ecI
  rw [if_neg (by omega), if_neg (by omega), if_neg (by omega), if_neg (by omega), if_neg (by omega), if_pos (by omega), Nat.add_sub_cancel_left]
theorem sxT_true : ∀ e, e ∈ sxT → @TETrue (ecV p n x s se) e := by
  intro e he
  obtain ⟨i, hi, he⟩ := List.mem_flatMap.1 he
  obtain ⟨j, hj, he⟩ := List.mem_flatMap.1 he
  have hi := List.mem_range.1 hi
  have hj := List.mem_range.1 hj
  have e0 := seN_cv (p := p) (n := n) (x := x) (s := s) (se := se) (i := i) (j := j) hi (by omega)
  have e1 := seN_cv (p := p) (n := n) (x := x) (s := s) (se := se) (i := i) (j := j + 1) hi (by omega)
  have e2 := seb_cv (p := p) (n := n) (x := x) (s := s) (se := se) (k := 8 * i + j) (by omega)
  rw [show (8 * i + j) / 8 = i by omega, show (8 * i + j) % 8 = j by omega] at e2
  letI : Val := ecV p n x s se
  refine (fa (f_conv e0 e2 rfl) (fa (f_shr (k := 8) e0 (by omega) ?_ ?_) fz)) e he
  · rw [e1, Int.fdiv_eq_ediv_of_nonneg _ (by omega)]
    rfl
  · show flat0 (seN i (j + 1)) = true
    unfold seN
    rw [if_neg (by omega)]
    rfl
theorem ecL_at (k : Nat) : ecL p n x s se (500 + k) = vals (coreL p n x s ++ (seB se 16).take k) := by
  unfold ecL
  rw [if_neg (by omega), Nat.add_sub_cancel_left]
theorem sxLA_true (q : Bool) (hs : s.size ≤ 4096) : ∀ e, e ∈ sxLA (coL q) → @LATrue (ecV p n x s se) e := by
  intro e he
  obtain ⟨k, hk, rfl⟩ := List.mem_map.1 he
  have hk := List.mem_range.1 hk
  have h0 : ecL p n x s se (if k = 0 then coL q else 500 + k) = vals (coreL p n x s ++ (seB se 16).take k) := by
    split
    · rename_i h0
      subst h0
      rw [List.take_zero, List.append_nil]
      cases q <;> rfl
    · exact ecL_at k
  have h1 : ecL p n x s se (500 + (k + 1)) = vals (coreL p n x s ++ (seB se 16).take k) ++ [@cv (ecV p n x s se) (s8 (1000 + k))] := by
    rw [ecL_at, List.take_add_one, seB_get se 16 k (by omega), seb_cv hk, ← byB_is, ← List.append_assoc, vals_app]
    rfl
  refine ⟨?_, ?_, ?_⟩
  · show ecL p n x s se (500 + (k + 1)) = ecL p n x s se (if k = 0 then coL q else 500 + k) ++ [@cv (ecV p n x s se) (s8 (1000 + k))]
    rw [h1, h0]
  · show (ecL p n x s se (500 + (k + 1))).length ≤ 1000000
    rw [ecL_at]
    unfold vals
    rw [List.length_map, List.length_append, coreL_len, List.length_take]
    omega
  · intro v hv
    have hv : v ∈ ecL p n x s se (if k = 0 then coL q else 500 + k) := hv
    rw [h0] at hv
    exact vals_one hv
theorem encOf_a (hs : s.size ≤ 4096) : Ans fEncOf [entVal p n x s se] (.string (ba (encL p n x s se))) := by
  have ht : @TbOK (ecV p n x s se) (ecA s.data.toList.isEmpty) := by
    have hQ : @AnsQ (ecV p n x s se) fCore ([entR].map (@cvF (ecV p n x s se))) (.slN 0 (coL s.data.toList.isEmpty) 1) (coH s.data.toList.isEmpty) := by
      rw [show [entR].map (@cvF (ecV p n x s se)) = [entVal p n x s se] from congrArg (fun z => [z]) ec_cv]
      refine core_ansV _ _ ?_ rfl hs
      cases s.data.toList.isEmpty <;> rfl
    have hB : @BSTrue (ecV p n x s se) (4, 628) := by
      show ecL p n x s se 628 = vals (encL p n x s se)
      rw [show (628 : Nat) = 500 + 128 from rfl, ecL_at, List.take_of_length_le (by rw [seB_len]; omega)]
      rfl
    have hT := sxT_true (p := p) (n := n) (x := x) (s := s) (se := se)
    have hA := sxLA_true (p := p) (n := n) (x := x) (s := s) (se := se) s.data.toList.isEmpty hs
    letI : Val := ecV p n x s se
    exact { T := hT, Q := fa hQ fz, LA := hA, BS := fa hB fz }
  refine done_val _ ht (all2_all ec_a _) rfl (holds_all (fa ⟨_, rfl, rfl⟩ fz)) rfl rfl fun w => ?_
  have h := @nval_flat (ecV p n x s se) w [entR] rfl
  rw [show [entR].map (@cvF (ecV p n x s se)) = [entVal p n x s se] from congrArg (fun z => [z]) ec_cv] at h
  exact h
end
/-- Eight bytes of a number. -/
theorem bytes_ans {x : Int} (h0 : 0 ≤ x) (h1 : x < 18446744073709551616) : Ans fByts [.int .u64 x, .int .i64 8] (.string (ba (numBs x))) := by
  have hN := @numT_true ((imNm x 0).val fun _ => undef) x hI_q hI_b h0 h1
  have hB := @numB_cv ((imNm x 0).val fun _ => undef) x hI_b
  have ht : @TbOK ((imNm x 0).val fun _ => undef) byA := by
    letI : Val := (imNm x 0).val fun _ => undef
    exact { T := hN, MS := fa (ms_is hB (by kernel_rfl) rfl) fz }
  exact done_val _ ht by_run rfl (holds_all (fa ⟨_, rfl, rfl⟩ fz)) rfl rfl (fun w => .cons rfl (.cons rfl .nil))
section
variable {p n x : Int} {s : ByteArray} {se : Nat → Int}
theorem soN_cv {i : Nat} (hi : i ≤ 16) : @cv (ecV p n x s se) (soN i) = .string (ba (coreL p n x s ++ seB se i)) := by
  unfold soN
  split
  · rename_i h0
    subst h0
    show Value.string (ba (coreL p n x s)) = Value.string (ba (coreL p n x s ++ []))
    rw [List.append_nil]
  · split
    · rename_i h1
      subst h1
      rfl
    · refine congrArg Value.string (show ecS p n x s se (40 + i) = _ from ?_)
      unfold ecS
      rw [if_neg (by omega), if_neg (by omega), if_neg (by omega), if_neg (by omega), Nat.add_sub_cancel_left]
theorem encode_b (hp : 0 ≤ p ∧ p ≤ 7) (hn : 0 ≤ n ∧ n ≤ 63) (hx : 0 ≤ x ∧ x < 18446744073709551616) (hse : ∀ i, i < 16 → 0 ≤ se i ∧ se i < 18446744073709551616) (hs : s.size ≤ 4096) : Ans fREnc0 [entVal p n x s se] (.string (ba (encL p n x s se))) := by
  have hc := rcore_ans (p := p) (n := n) (x := x) (s := s) (se := se) (h := 0) (d := 0) ⟨hp.1, by omega⟩ ⟨hn.1, by omega⟩ hx hs
  rw [show [entR].map (@cvF (enV p n x s se 0 0)) = [entVal p n x s se] from congrArg (fun z => [z]) ent_cv] at hc
  have b20 : ∀ i, i < 16 → @cv (ecV p n x s se) (sT (20 + i)) = .string (ba (numBs (se i))) := fun i hi => by
    refine congrArg Value.string (show ecS p n x s se (20 + i) = _ from ?_)
    unfold ecS
    rw [if_neg (by omega), if_neg (by omega), if_neg (by omega), if_pos (by omega), Nat.add_sub_cancel_left]
  have ht : @TbOK (ecV p n x s se) ecB := by
    have y0 : Ans fRCore ([entR].map (@cvF (ecV p n x s se))) (@cvF (ecV p n x s se) (sT 2)) := by
      rw [show [entR].map (@cvF (ecV p n x s se)) = [entVal p n x s se] from congrArg (fun z => [z]) ec_cv]
      exact hc
    have y1 : ∀ e, e ∈ ((List.range 16).map fun i => (⟨fByts, [sU (300 + i), lI 8], sT (20 + i)⟩ : YE)) → Ans e.f (e.a.map (@cvF (ecV p n x s se))) (@cvF (ecV p n x s se) e.r) := by
      intro e he
      obtain ⟨i, hi, rfl⟩ := List.mem_map.1 he
      have hi := List.mem_range.1 hi
      show Ans fByts [Value.int .u64 (ecI p n x s.size se (300 + i)), .int .i64 8] (@cv (ecV p n x s se) (sT (20 + i)))
      rw [ecI_se i hi, b20 i hi]
      exact bytes_ans (hse i hi).1 (hse i hi).2
    have t1 : ∀ e, e ∈ ((List.range 16).map fun i => (⟨.bin .add, soN i, sT (20 + i), soN (i + 1)⟩ : TE)) → @TETrue (ecV p n x s se) e := by
      intro e he
      obtain ⟨i, hi, rfl⟩ := List.mem_map.1 he
      have hi := List.mem_range.1 hi
      refine @f_app (ecV p n x s se) _ _ _ _ _ _ (soN_cv (i := i) (by omega)) (b20 i hi) (soN_cv (i := i + 1) (by omega)) ?_ (by rw [seB_succ, List.append_assoc]) ?_
      · unfold soN
        split
        · rfl
        · split <;> rfl
      · rw [List.length_append, coreL_len, seB_len, numBs_len]
        omega
    letI : Val := ecV p n x s se
    exact { T := t1, Y := fa y0 y1 }
  refine done_val _ ht ec_b rfl (holds_all (fa ⟨_, rfl, rfl⟩ fz)) rfl rfl fun w => ?_
  have h := @nval_flat (ecV p n x s se) w [entR] rfl
  rw [show [entR].map (@cvF (ecV p n x s se)) = [entVal p n x s se] from congrArg (fun z => [z]) ec_cv] at h
  exact h
def e0F (q : Bool) : Nat := if q then fEncOf else fREnc0
def enF (q : Bool) : Nat := if q then fEnc else fREnc
theorem enc0_ans (q : Bool) (hc : eCls p n s.size = 5) (hx : 0 ≤ x ∧ x < 18446744073709551616) (hse : ∀ i, i < 16 → 0 ≤ se i ∧ se i < 18446744073709551616) : Ans (e0F q) [entVal p n x s se] (.string (ba (encL p n x s se))) := by
  obtain ⟨a, b, c, e, f⟩ := eCls_in hc
  cases q
  · exact encode_b ⟨a, b⟩ ⟨c, e⟩ hx hse f
  · exact encOf_a f
def encV (p n x : Int) (s : ByteArray) (se : Nat → Int) : ByteArray := if eCls p n s.size < 5 then ⟨#[]⟩ else ba (encL p n x s se)
theorem enc_ans (q : Bool) (hx : 0 ≤ x ∧ x < 18446744073709551616) (hse : ∀ i, i < 16 → 0 ≤ se i ∧ se i < 18446744073709551616) : Ans (enF q) [entVal p n x s se] (tup2 (.string (encV p n x s se)) (.int .i64 (digE p n s.size))) := by
  have hA : ∀ w, All2 (@Go.Ri.NVal (ecV p n x s se) w) [entR] [entVal p n x s se] := fun w => by
    have h := @nval_flat (ecV p n x s se) w [entR] rfl
    rw [show [entR].map (@cvF (ecV p n x s se)) = [entVal p n x s se] from congrArg (fun z => [z]) ec_cv] at h
    exact h
  have hT := @ecX_true (ecV p n x s se) p n s (eCls p n s.size) rfl rfl rfl rfl rfl
  unfold encV digE
  by_cases hc : eCls p n s.size < 5
  · rw [if_pos hc, if_pos hc]
    have ht : @TbOK (ecV p n x s se) { T := ecT (eCls p n s.size) } := by
      letI : Val := ecV p n x s se
      exact { T := hT }
    have hd := allU_lt ek_no _ hc
    simp only [Bool.and_eq_true] at hd
    cases q
    · exact done_val _ ht hd.2 rfl (holds_all fz) rfl rfl hA
    · exact done_val _ ht hd.1 rfl (holds_all fz) rfl rfl hA
  · rw [if_neg hc, if_neg hc]
    have h5 : eCls p n s.size = 5 := by
      have := eCls_le p n s.size
      omega
    rw [h5] at hT
    have y : ∀ q, Ans (e0F q) ([entR].map (@cvF (ecV p n x s se))) (@cvF (ecV p n x s se) (sT 4)) := fun q => by
      rw [show [entR].map (@cvF (ecV p n x s se)) = [entVal p n x s se] from congrArg (fun z => [z]) ec_cv]
      exact enc0_ans q h5 hx hse
    have ht : @TbOK (ecV p n x s se) ekA := by
      letI : Val := ecV p n x s se
      exact { T := hT, Y := fa (y true) (fa (y false) fz) }
    have hk := ek_ok
    simp only [Bool.and_eq_true] at hk
    cases q
    · exact done_val _ ht hk.2 rfl (holds_all (fa ⟨_, rfl, rfl⟩ fz)) rfl rfl hA
    · exact done_val _ ht hk.1 rfl (holds_all (fa ⟨_, rfl, rfl⟩ fz)) rfl rfl hA
end
end Go.Proofs.Z
