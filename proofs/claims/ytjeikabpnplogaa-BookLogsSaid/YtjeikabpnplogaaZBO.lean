/- A part of the proofs that the laws of layer eight answer true for every input. -/
import Derived.Test.YtjeikabpnplogaaZBJ
import Derived.Test.YtjeikabpnplogaaZBK
namespace Go.Proofs.Z
open Go Go.RowKit Go.Proofs Go.Ri Go.Proofs.Z.Fa
/-! Digest of both packages: contracts. -/
def vals (l : List UInt8) : List Value := l.map fun b => .int .u8 b.toNat
def preL (p n x : Int) (m : Nat) : List UInt8 := byB p :: byB n :: (numBs x ++ [byB (m : Nat), byB ((m : Int) / 256)])
def enI (p n x : Int) (m : Nat) (se : Nat → Int) (h d : Int) (k : Nat) : Int :=
  if k ≤ 8 then qd x k else if k < 20 then 0 else if k < 28 then qd x (k - 20) % 256 else if k = 30 then p % 256 else if k = 31 then n % 256 else if k = 32 then (m : Int) % 256 else if k = 33 then ((m : Int) / 256) % 256 else if k = 40 then h else if k = 41 then d else if k = 42 then d else if k = 50 then p else if k = 51 then n
  else if k = 54 then (m : Int) else if k = 55 then 12 + (m : Int) else if k = 56 then 12 + (m : Int) + 128 else if k = 57 then (m : Int) else if k = 58 then (m : Int) / 256 else if k = 59 then (m : Int) / 256 / 256 else if k = 60 then p else if k = 61 then n else if k < 300 then 0 else se (k - 300)
def enS (p n x : Int) (s : ByteArray) (k : Nat) : ByteArray :=
  if k = 1 then s else if k = 2 then ba (preL p n x s.size ++ s.data.toList) else if k = 10 then ba [byB p] else if k = 11 then ba [byB n] else if k = 12 then ba (numBs x) else if k = 13 then ba [byB (s.size : Nat), byB ((s.size : Int) / 256)] else if k = 5 then ba ([byB p] ++ [byB n]) else if k = 6 then ba ([byB p] ++ [byB n] ++ numBs x) else ba ([byB p] ++ [byB n] ++ numBs x ++ [byB (s.size : Nat), byB ((s.size : Int) / 256)])
def enL (p n x : Int) (s : ByteArray) (k : Nat) : List Value :=
  if k = 30 then [] else if k = 40 then vals s.data.toList else if k = 41 then vals (preL p n x s.size ++ s.data.toList) else if k = 29 then List.replicate (12 + s.size + 128) (.int .u8 0) else vals ((preL p n x s.size).take (k - 98))
def enNm (p n x : Int) (s : ByteArray) (se : Nat → Int) (h d : Int) : Nm := ⟨enI p n x s.size se h d, fun _ => false, enS p n x s, enL p n x s⟩
abbrev enV (p n x : Int) (s : ByteArray) (se : Nat → Int) (h d : Int) : Val := (enNm p n x s se h d).val fun _ => undef
theorem f_addi [Val] {a b c : RV} {m n : Int} (ha : cv a = .int .i64 m) (hb : cv b = .int .i64 n) (hc : cv c = .int .i64 (m + n)) (hf : flat0 c = true) (h0 : 0 ≤ m + n) (h1 : m + n ≤ 1000000000) : TETrue ⟨.bin .add, a, b, c⟩ := by
  refine ⟨hf, ?_⟩
  show TCTrue _ (cv a) (cv b) (cv c)
  rw [ha, hb, hc]
  have := t_add .i64 m n
  rw [IntWalk.i64_in (m + n) (by omega)] at this
  exact this
theorem numU_true [Val] {x : Int} (h : ∀ i, i ≤ 8 → Val.I i = qd x i) (hb : ∀ i, i < 8 → Val.I (20 + i) = qd x i % 256) : ∀ e, e ∈ numU → TETrue e := by
  intro e he
  obtain ⟨i, hi, he⟩ := List.mem_flatMap.1 he
  have hi := List.mem_range.1 hi
  have e0 : cv (sU i) = .int .u64 (qd x i) := congrArg (Value.int .u64) (h i (by omega))
  have e1 : cv (sU (i + 1)) = .int .u64 (qd x i / 256) := congrArg (Value.int .u64) (h (i + 1) (by omega))
  refine (fa ?_ (fa ?_ fz)) e he
  · exact f_conv e0 (congrArg (Value.int .u8) (hb i hi)) rfl
  · refine f_shr (k := 8) e0 (by omega) ?_ rfl
    rw [e1, Int.fdiv_eq_ediv_of_nonneg _ (by omega)]
    rfl
section
variable {p n x : Int} {s : ByteArray} {se : Nat → Int} {h d : Int}
theorem enI_q : ∀ i, i ≤ 8 → enI p n x s.size se h d i = qd x i := fun i hi => by
  unfold enI
  rw [if_pos hi]
theorem enI_b : ∀ i, i < 8 → enI p n x s.size se h d (20 + i) = qd x i % 256 := fun i hi => by
  unfold enI
  rw [if_neg (by omega), if_neg (by omega), if_pos (by omega), Nat.add_sub_cancel_left]
theorem e30 : @cv (enV p n x s se h d) (s8 30) = .int .u8 (p % 256) := congrArg (Value.int .u8) (show enI p n x s.size se h d 30 = (p % 256) by simp [enI])
theorem e31 : @cv (enV p n x s se h d) (s8 31) = .int .u8 (n % 256) := congrArg (Value.int .u8) (show enI p n x s.size se h d 31 = (n % 256) by simp [enI])
theorem e32 : @cv (enV p n x s se h d) (s8 32) = .int .u8 ((s.size : Int) % 256) := congrArg (Value.int .u8) (show enI p n x s.size se h d 32 = ((s.size : Int) % 256) by simp [enI])
theorem e33 : @cv (enV p n x s se h d) (s8 33) = .int .u8 (((s.size : Int) / 256) % 256) := congrArg (Value.int .u8) (show enI p n x s.size se h d 33 = (((s.size : Int) / 256) % 256) by simp [enI])
theorem e40 : @cv (enV p n x s se h d) (sU 40) = .int .u64 h := congrArg (Value.int .u64) (show enI p n x s.size se h d 40 = h by simp [enI])
theorem e41 : @cv (enV p n x s se h d) (sU 41) = .int .u64 d := congrArg (Value.int .u64) (show enI p n x s.size se h d 41 = d by simp [enI])
theorem e42 : @cv (enV p n x s se h d) (sI 42) = .int .i64 d := congrArg (Value.int .i64) (show enI p n x s.size se h d 42 = d by simp [enI])
theorem e50 : @cv (enV p n x s se h d) (sI 50) = .int .i64 p := congrArg (Value.int .i64) (show enI p n x s.size se h d 50 = p by simp [enI])
theorem e51 : @cv (enV p n x s se h d) (sI 51) = .int .i64 n := congrArg (Value.int .i64) (show enI p n x s.size se h d 51 = n by simp [enI])
theorem e54 : @cv (enV p n x s se h d) (sI 54) = .int .i64 (s.size : Int) := congrArg (Value.int .i64) (show enI p n x s.size se h d 54 = (s.size : Int) by simp [enI])
theorem e55 : @cv (enV p n x s se h d) (sI 55) = .int .i64 (12 + (s.size : Int)) := congrArg (Value.int .i64) (show enI p n x s.size se h d 55 = (12 + (s.size : Int)) by simp [enI])
theorem e56 : @cv (enV p n x s se h d) (sI 56) = .int .i64 (12 + (s.size : Int) + 128) := congrArg (Value.int .i64) (show enI p n x s.size se h d 56 = (12 + (s.size : Int) + 128) by simp [enI])
theorem e57 : @cv (enV p n x s se h d) (sU 57) = .int .u64 (s.size : Int) := congrArg (Value.int .u64) (show enI p n x s.size se h d 57 = (s.size : Int) by simp [enI])
theorem e58 : @cv (enV p n x s se h d) (sU 58) = .int .u64 ((s.size : Int) / 256) := congrArg (Value.int .u64) (show enI p n x s.size se h d 58 = ((s.size : Int) / 256) by simp [enI])
theorem e59 : @cv (enV p n x s se h d) (sU 59) = .int .u64 ((s.size : Int) / 256 / 256) := congrArg (Value.int .u64) (show enI p n x s.size se h d 59 = ((s.size : Int) / 256 / 256) by simp [enI])
theorem coT_true (hs : s.size ≤ 4096) : ∀ e, e ∈ coT → @TETrue (enV p n x s se h d) e := by
  letI : Val := enV p n x s se h d
  refine fa (f_len (s := s) rfl e54 rfl) (fa (f_addi rfl e54 e55 rfl (by omega) (by omega)) (fa (f_addi e55 rfl e56 rfl (by omega) (by omega)) (fa (f_conv e50 e30 rfl) (fa (f_conv e51 e31 rfl) (fa (f_conv e54 ?_ rfl) (fa (f_conv e57 e32 rfl) (fa (f_shr (k := 8) e57 (by omega) ?_ rfl) (fa (f_conv e58 e33 rfl) (fa (f_shr (k := 8) e58 (by omega) ?_ rfl) fz)))))))))
  · rw [e57]
    congr 1
    show _ = (s.size : Int) % 18446744073709551616
    omega
  · rw [e58, Int.fdiv_eq_ediv_of_nonneg _ (by omega)]
    rfl
  · rw [e59, Int.fdiv_eq_ediv_of_nonneg _ (by omega)]
    rfl
theorem vals_app (a b : List UInt8) : vals (a ++ b) = vals a ++ vals b := List.map_append
theorem preL_len : (preL p n x s.size).length = 12 := by
  unfold preL
  rw [List.length_cons, List.length_cons, List.length_append, numBs_len]
  rfl
theorem la_step {k : Nat} {c : RV} {b : UInt8} (hk : k < 10) (hb : (preL p n x s.size)[2 + k]? = some b) (hc : @cv (enV p n x s se h d) c = .int .u8 b.toNat) : @LATrue (enV p n x s se h d) ⟨100 + k, [c], 101 + k⟩ := by
  have L : ∀ j, j < 11 → enL p n x s (100 + j) = vals ((preL p n x s.size).take (2 + j)) := fun j hj => by
    unfold enL
    rw [if_neg (by omega), if_neg (by omega), if_neg (by omega), if_neg (by omega), show 100 + j - 98 = 2 + j by omega]
  have h1 : enL p n x s (101 + k) = vals ((preL p n x s.size).take (2 + k)) ++ [.int .u8 b.toNat] := by
    rw [show 101 + k = 100 + (k + 1) by omega, L (k + 1) (by omega), show 2 + (k + 1) = 2 + k + 1 by omega, List.take_add_one, hb, vals_app]
    rfl
  refine ⟨?_, ?_, ?_⟩
  · show enL p n x s (101 + k) = enL p n x s (100 + k) ++ [@cv (enV p n x s se h d) c]
    rw [h1, L k (by omega), hc]
  · show (enL p n x s (101 + k)).length ≤ 1000000
    rw [h1, List.length_append]
    have : (vals ((preL p n x s.size).take (2 + k))).length ≤ 12 := by
      unfold vals
      rw [List.length_map]
      have := List.length_take_le (2 + k) (preL p n x s.size)
      have h2 := List.length_take (i := 2 + k) (l := preL p n x s.size)
      rw [preL_len] at h2
      omega
    have : [Value.int .u8 (b.toNat : Int)].length = 1 := rfl
    omega
  · intro v hv
    have hv : v ∈ enL p n x s (100 + k) := hv
    rw [L k (by omega)] at hv
    obtain ⟨y, _, rfl⟩ := List.mem_map.1 hv
    rfl
end
end Go.Proofs.Z

namespace Go.Proofs.Z
open Go Go.RowKit Go.Proofs Go.Ri Go.Proofs.Z.Fa
/-! core, digestOf and Digest: contracts. -/
theorem f_rem [Val] {a b c : RV} {k : IntKind} {m n : Int} (ha : cv a = .int k m) (hb : cv b = .int k n) (hn : n ≠ 0) (hc : cv c = .int k (m.tmod n)) (hf : flat0 c = true) : TETrue ⟨.bin .rem, a, b, c⟩ := by
  refine ⟨hf, ?_⟩
  show TCTrue _ (cv a) (cv b) (cv c)
  rw [ha, hb, hc]
  exact t_rem k m n hn
section
variable {p n x : Int} {s : ByteArray} {se : Nat → Int} {h d : Int}
theorem preL_num {i : Nat} (hi : i < 8) : (preL p n x s.size)[2 + i]? = some (byB (qd x i)) := by
  show (byB p :: byB n :: (numBs x ++ [byB (s.size : Nat), byB ((s.size : Int) / 256)]))[2 + i]? = _
  rw [show 2 + i = i + 1 + 1 by omega, List.getElem?_cons_succ, List.getElem?_cons_succ, List.getElem?_append_left (by rw [numBs_len]; exact hi)]
  unfold numBs
  rw [List.getElem?_map, List.getElem?_range hi]
  rfl
theorem preL_8 : (preL p n x s.size)[2 + 8]? = some (byB (s.size : Nat)) := by
  show (byB p :: byB n :: (numBs x ++ [byB (s.size : Nat), byB ((s.size : Int) / 256)]))[2 + 8]? = _
  rw [show 2 + 8 = 8 + 1 + 1 by omega, List.getElem?_cons_succ, List.getElem?_cons_succ, List.getElem?_append_right (by rw [numBs_len]; omega), numBs_len]
  rfl
theorem preL_9 : (preL p n x s.size)[2 + 9]? = some (byB ((s.size : Int) / 256)) := by
  show (byB p :: byB n :: (numBs x ++ [byB (s.size : Nat), byB ((s.size : Int) / 256)]))[2 + 9]? = _
  rw [show 2 + 9 = 9 + 1 + 1 by omega, List.getElem?_cons_succ, List.getElem?_cons_succ, List.getElem?_append_right (by rw [numBs_len]; omega), numBs_len]
  rfl
theorem la_first : @LATrue (enV p n x s se h d) ⟨30, [s8 30, s8 31], 100⟩ := by
  refine ⟨?_, ?_, fun v hv => by cases hv⟩
  · show enL p n x s 100 = enL p n x s 30 ++ [@cv (enV p n x s se h d) (s8 30), @cv (enV p n x s se h d) (s8 31)]
    rw [e30, e31, ← byB_is, ← byB_is]
    rfl
  · show [Value.int .u8 (byB p).toNat, Value.int .u8 (byB n).toNat].length ≤ 1000000
    exact of_decide_eq_true (by rfl)
theorem coLA_true : ∀ e, e ∈ coLA → @LATrue (enV p n x s se h d) e := by
  refine fa la_first (fapp ?_ (fa ?_ (fa ?_ fz)))
  · intro e he
    obtain ⟨i, hi, rfl⟩ := List.mem_map.1 he
    have hi := List.mem_range.1 hi
    exact la_step (by omega) (preL_num hi) (by rw [byB_is]; exact congrArg (Value.int .u8) (enI_b i hi))
  · exact la_step (k := 8) (by omega) preL_8 (by rw [byB_is]; exact e32)
  · exact la_step (k := 9) (by omega) preL_9 (by rw [byB_is]; exact e33)
theorem enL_110 : enL p n x s 110 = vals (preL p n x s.size) := by
  show vals ((preL p n x s.size).take 12) = _
  rw [← preL_len (p := p) (n := n) (x := x) (s := s), List.take_length]
theorem bs_body : @BSTrue (enV p n x s se h d) (1, 40) := rfl
theorem coA_ok (q : Bool) (hq : q = s.data.toList.isEmpty) (hs : s.size ≤ 4096) : @TbOK (enV p n x s se h d) (coA q) := by
  have hN := @numU_true (enV p n x s se h d) x enI_q enI_b
  have hlen : s.data.toList.length = s.size := rfl
  have hLM : ∀ e, e ∈ [(⟨56, lB 0, 29⟩ : LME)] → @LMTrue (enV p n x s se h d) e := by
    refine fa ⟨12 + s.size + 128, by omega, ?_, rfl⟩ fz
    show enI p n x s.size se h d 56 = ((12 + s.size + 128 : Nat) : Int)
    have : enI p n x s.size se h d 56 = 12 + (s.size : Int) + 128 := by simp [enI]
    omega
  letI : Val := enV p n x s se h d
  cases q
  · have hne : s.data.toList ≠ [] := by
      intro h0
      rw [h0] at hq
      cases hq
    refine { T := fapp hN (coT_true hs), LM := hLM, LZ := fa rfl fz, LA := coLA_true, BS := fa bs_body fz, LB := fa ⟨?_, ?_, ?_, ?_⟩ fz }
    · show vals s.data.toList ≠ []
      intro h0
      exact hne (List.map_eq_nil_iff.1 h0)
    · show vals (preL p n x s.size ++ s.data.toList) = enL p n x s 110 ++ vals s.data.toList
      rw [enL_110, vals_app]
    · show (vals (preL p n x s.size ++ s.data.toList)).length ≤ 1000000
      unfold vals
      rw [List.length_map, List.length_append, preL_len, hlen]
      omega
    · intro v hv
      obtain ⟨y, _, rfl⟩ := List.mem_map.1 (show v ∈ vals (preL p n x s.size ++ s.data.toList) from hv)
      rfl
  · have h0 : s.data.toList = [] := List.isEmpty_iff.1 hq.symm
    refine { T := fapp hN (coT_true hs), LM := hLM, LZ := fa rfl (fa ?_ fz), LA := coLA_true, BS := fa bs_body fz }
    show vals s.data.toList = []
    rw [h0]
    rfl
theorem core_ans (q : Bool) (hq : q = s.data.toList.isEmpty) (hs : s.size ≤ 4096) : @AnsQ (enV p n x s se h d) fCore ([entR].map (@cvF (enV p n x s se h d))) (.slN 0 (coL q) 1) (coH q) := by
  have ht := coA_ok (p := p) (n := n) (x := x) (se := se) (h := h) (d := d) q hq hs
  intro w hr
  cases q
  · exact done_calls _ (enV p n x s se h d) ht core_b rfl (holds_all (fa rfl fz)) w hr _ (@nval_flat (enV p n x s se h d) w [entR] rfl)
  · exact done_calls _ (enV p n x s se h d) ht core_a rfl (holds_all (fa rfl fz)) w hr _ (@nval_flat (enV p n x s se h d) w [entR] rfl)
theorem bs_all (q : Bool) (hq : q = s.data.toList.isEmpty) : @BSTrue (enV p n x s se h d) (2, coL q) := by
  show enL p n x s (coL q) = vals (preL p n x s.size ++ s.data.toList)
  cases q
  · rfl
  · rw [List.isEmpty_iff.1 hq.symm, List.append_nil]
    exact enL_110
theorem dgT_true (hh : 0 ≤ h) (hd : d = h % 65536) : ∀ e, e ∈ dgT → @TETrue (enV p n x s se h d) e := by
  letI : Val := enV p n x s se h d
  refine fa (f_rem (n := 65536) e40 rfl (by omega) ?_ rfl) (fa (f_conv e41 ?_ rfl) fz)
  · rw [e41, hd, Int.tmod_eq_emod_of_nonneg hh]
  · rw [e42]
    congr 1
    exact (IntWalk.i64_in d (by omega)).symm
theorem digestOf_a (hs : s.size ≤ 4096) (hh : 0 ≤ h) (hd : d = h % 65536) (hH : Ans fHash [.string (ba (preL p n x s.size ++ s.data.toList))] (.int .u64 h)) : Ans fDigOf ([entR].map (@cvF (enV p n x s se h d))) (.int .i64 d) := by
  have ht : @TbOK (enV p n x s se h d) (dgA s.data.toList.isEmpty) := by
    letI : Val := enV p n x s se h d
    have hY : Ans fHash [.string (ba (preL p n x s.size ++ s.data.toList))] (cvF (sU 40)) := by rw [show cvF (sU 40) = .int .u64 h from e40]; exact hH
    exact { T := dgT_true hh hd, Q := fa (core_ans _ rfl hs) fz, BS := fa (bs_all _ rfl) fz, Y := fa hY fz }
  exact done_val _ ht (all2_all dg_a _) rfl (holds_all (fa ⟨.i64, d, e42, show enI p n x s.size se h d 42 = d by simp [enI]⟩ fz)) rfl e42 (fun w => @nval_flat (enV p n x s se h d) w [entR] rfl)
end
end Go.Proofs.Z

namespace Go.Proofs.Z
open Go Go.RowKit Go.Proofs Go.Ri Go.Proofs.Z.Fa
/-! Digest of both packages: contracts. -/
theorem ba_self (s : ByteArray) : ba s.data.toList = s := by
  apply ByteArray.ext
  simp [ba]
section
variable {p n x : Int} {s : ByteArray} {se : Nat → Int} {h d : Int}
theorem e60 : @cv (enV p n x s se h d) (sU 60) = .int .u64 p := congrArg (Value.int .u64) (show enI p n x s.size se h d 60 = p by simp [enI])
theorem e61 : @cv (enV p n x s se h d) (sU 61) = .int .u64 n := congrArg (Value.int .u64) (show enI p n x s.size se h d 61 = n by simp [enI])
theorem e70 : @cv (enV p n x s se h d) (sU 70) = .int .u64 0 := congrArg (Value.int .u64) (show enI p n x s.size se h d 70 = 0 by simp [enI])
theorem e71 : @cv (enV p n x s se h d) (sU 71) = .int .u64 0 := congrArg (Value.int .u64) (show enI p n x s.size se h d 71 = 0 by simp [enI])
theorem w_in {m : Int} (h : 0 ≤ m ∧ m < 18446744073709551616) : IntKind.u64.wrap m = m := by
  show m % 18446744073709551616 = m
  omega
theorem f_q256 [Val] {a c : RV} {m : Int} (ha : cv a = .int .u64 m) (h : 0 ≤ m ∧ m < 18446744073709551616) (hc : cv c = .int .u64 (m / 256)) (hf : flat0 c = true) : TETrue ⟨.bin .quo, a, lU 256, c⟩ := by
  refine f_quo (n := 256) ha rfl (by omega) ?_ hf
  rw [hc, Int.tdiv_eq_ediv_of_nonneg h.1, w_in (by omega)]
theorem rcT_true (hp : 0 ≤ p ∧ p < 256) (hn : 0 ≤ n ∧ n < 256) (hx : 0 ≤ x ∧ x < 18446744073709551616) (hs : s.size ≤ 4096) : ∀ e, e ∈ rcT → @TETrue (enV p n x s se h d) e := by
  have hN := @numT_true (enV p n x s se h d) x enI_q enI_b hx.1 hx.2
  have h1 : @cv (enV p n x s se h d) (sT 1) = .string (ba s.data.toList) := by rw [ba_self]; rfl
  have l13 : ([byB p] ++ [byB n] ++ numBs x ++ [byB (s.size : Nat), byB ((s.size : Int) / 256)]).length = 12 := by
    rw [List.length_append, List.length_append, numBs_len]
    rfl
  have hlen : s.data.toList.length = s.size := rfl
  letI : Val := enV p n x s se h d
  refine fapp hN (fa (f_len (s := s) rfl e54 rfl) (fa (f_conv e50 ?_ rfl) (fa (f_conv e60 e30 rfl) (fa (f_q256 e60 (by omega) ?_ rfl) (fa (f_conv e51 ?_ rfl) (fa (f_conv e61 e31 rfl) (fa (f_q256 e61 (by omega) ?_ rfl) (fa (f_conv e54 ?_ rfl) (fa (f_conv e57 e32 rfl) (fa (f_q256 e57 (by omega) e58 rfl) (fa (f_conv e58 e33 rfl) (fa (f_q256 e58 (by omega) e59 rfl) (fa (f_app (x := [byB p]) (y := [byB n]) (z := [byB p] ++ [byB n]) rfl rfl rfl rfl rfl (of_decide_eq_true (by rfl))) (fa (f_app (x := [byB p] ++ [byB n]) (y := numBs x) (z := [byB p] ++ [byB n] ++ numBs x) rfl rfl rfl rfl rfl ?_) (fa (f_app (x := [byB p] ++ [byB n] ++ numBs x) (y := [byB (s.size : Nat), byB ((s.size : Int) / 256)]) (z := [byB p] ++ [byB n] ++ numBs x ++ [byB (s.size : Nat), byB ((s.size : Int) / 256)]) rfl rfl rfl rfl rfl ?_) (fa (f_app (x := [byB p] ++ [byB n] ++ numBs x ++ [byB (s.size : Nat), byB ((s.size : Int) / 256)]) (y := s.data.toList) (z := preL p n x s.size ++ s.data.toList) rfl h1 rfl rfl ?_ ?_) fz))))))))))))))))
  · rw [e60, w_in (by omega)]
  · rw [e70, show p / 256 = 0 by omega]
  · rw [e61, w_in (by omega)]
  · rw [e71, show n / 256 = 0 by omega]
  · rw [e57, w_in (by omega)]
  · rw [numBs_len]
    exact of_decide_eq_true (by rfl)
  · rw [List.length_append, numBs_len]
    exact of_decide_eq_true (by rfl)
  · simp [preL]
  · rw [l13, hlen]
    omega
theorem rcA_ok (hp : 0 ≤ p ∧ p < 256) (hn : 0 ≤ n ∧ n < 256) (hx : 0 ≤ x ∧ x < 18446744073709551616) (hs : s.size ≤ 4096) : @TbOK (enV p n x s se h d) rcA := by
  have hT := rcT_true (se := se) (h := h) (d := d) hp hn hx hs
  have hB := @numB_cv (enV p n x s se h d) x enI_b
  have a10 : [s8 30].map (@cv (enV p n x s se h d)) = [byB p].map fun b => Value.int .u8 b.toNat := by
    show [@cv (enV p n x s se h d) (s8 30)] = [Value.int .u8 ((byB p).toNat : Int)]
    rw [e30, byB_is]
  have a11 : [s8 31].map (@cv (enV p n x s se h d)) = [byB n].map fun b => Value.int .u8 b.toNat := by
    show [@cv (enV p n x s se h d) (s8 31)] = [Value.int .u8 ((byB n).toNat : Int)]
    rw [e31, byB_is]
  have a13 : [s8 32, s8 33].map (@cv (enV p n x s se h d)) = [byB (s.size : Nat), byB ((s.size : Int) / 256)].map fun b => Value.int .u8 b.toNat := by
    show [@cv (enV p n x s se h d) (s8 32), @cv (enV p n x s se h d) (s8 33)] = [Value.int .u8 ((byB (s.size : Nat)).toNat : Int), Value.int .u8 ((byB ((s.size : Int) / 256)).toNat : Int)]
    rw [e32, e33, byB_is, byB_is]
  letI : Val := enV p n x s se h d
  exact { T := hT, MS := fa (ms_is a10 (by kernel_rfl) rfl) (fa (ms_is a11 (by kernel_rfl) rfl) (fa (ms_is hB (by kernel_rfl) rfl) (fa (ms_is a13 (by kernel_rfl) rfl) fz))) }
theorem rcore_ans (hp : 0 ≤ p ∧ p < 256) (hn : 0 ≤ n ∧ n < 256) (hx : 0 ≤ x ∧ x < 18446744073709551616) (hs : s.size ≤ 4096) : Ans fRCore ([entR].map (@cvF (enV p n x s se h d))) (.string (ba (preL p n x s.size ++ s.data.toList))) :=
  done_val _ (rcA_ok hp hn hx hs) rcore_run rfl (holds_all (fa ⟨_, rfl, rfl⟩ fz)) rfl rfl (fun w => @nval_flat (enV p n x s se h d) w [entR] rfl)
theorem digest_b (hp : 0 ≤ p ∧ p < 256) (hn : 0 ≤ n ∧ n < 256) (hx : 0 ≤ x ∧ x < 18446744073709551616) (hs : s.size ≤ 4096) (hh : 0 ≤ h) (hd : d = h % 65536) (hH : Ans fRHash [.string (ba (preL p n x s.size ++ s.data.toList))] (.int .u64 h)) : Ans fRDigest0 ([entR].map (@cvF (enV p n x s se h d))) (.int .i64 d) := by
  have hc := rcore_ans (se := se) (h := h) (d := d) hp hn hx hs
  have ht : @TbOK (enV p n x s se h d) dgB := by
    letI : Val := enV p n x s se h d
    have hY : Ans fRHash [.string (ba (preL p n x s.size ++ s.data.toList))] (cvF (sU 40)) := by rw [show cvF (sU 40) = .int .u64 h from e40]; exact hH
    exact { T := dgT_true hh hd, Y := fa hc (fa hY fz) }
  exact done_val _ ht dg_b rfl (holds_all (fa ⟨.i64, d, e42, show enI p n x s.size se h d 42 = d by simp [enI]⟩ fz)) rfl e42 (fun w => @nval_flat (enV p n x s se h d) w [entR] rfl)
/-- An entry. -/
def entVal (p n x : Int) (s : ByteArray) (se : Nat → Int) : Value := .agg (([.int .i64 p, .int .i64 n, .int .u64 x, .string s] : List Value) ++ (List.range 16).map fun i => Value.int .u64 (se i)).toArray
theorem ent_cv : @cvF (enV p n x s se h d) entR = entVal p n x s se := by
  show Value.agg ((([sI 50, sI 51, sU 0, sT 1] : List RV) ++ (List.range 16).map fun i => sU (300 + i)).map (@cv (enV p n x s se h d))).toArray = _
  rw [List.map_append, List.map_map]
  unfold entVal
  have hm : (List.range 16).map ((@cv (enV p n x s se h d)) ∘ fun i => sU (300 + i)) = (List.range 16).map fun i => Value.int .u64 (se i) := List.map_congr_left fun i _ => by
    show Value.int .u64 (enI p n x s.size se h d (300 + i)) = _
    unfold enI
    rw [if_neg (by omega), if_neg (by omega), if_neg (by omega), if_neg (by omega), if_neg (by omega), if_neg (by omega), if_neg (by omega), if_neg (by omega), if_neg (by omega), if_neg (by omega), if_neg (by omega), if_neg (by omega), if_neg (by omega), if_neg (by omega), if_neg (by omega), if_neg (by omega), if_neg (by omega), if_neg (by omega), if_neg (by omega), if_neg (by omega), if_neg (by omega), Nat.add_sub_cancel_left]
  rw [hm]
  rfl
end
end Go.Proofs.Z

namespace Go.Proofs.Z
open Go Go.RowKit Go.Proofs Go.Ri Go.Proofs.Z.Fa
/-! Digest of both packages: contract. -/
def eTest (p n : Int) (m : Nat) (i : Nat) : Bool := if i = 4 then decide (m ≤ 4096) else secTest p n 0 0 i
def eCls (p n : Int) (m : Nat) : Nat := firstBad (eTest p n m) 5 0
section
variable {p n x : Int} {s : ByteArray} {se : Nat → Int} {h d : Int}
theorem ec_true (i : Nat) (hi : i < 5) : ∀ e, e ∈ ect i (eTest p n s.size i) → @TETrue (enV p n x s se h d) e := by
  have e50 := e50 (p := p) (n := n) (x := x) (s := s) (se := se) (h := h) (d := d)
  have e51 := e51 (p := p) (n := n) (x := x) (s := s) (se := se) (h := h) (d := d)
  letI : Val := enV p n x s se h d
  match i, hi with
  | 0, _ => exact fa (f_geq e50 rfl rfl) fz
  | 1, _ => exact fa (f_leq e50 rfl rfl) (fa (f_lss e50 rfl (decide_eq_decide.2 (by show p < 8 ↔ p ≤ 7; omega))) fz)
  | 2, _ => exact fa (f_geq e51 rfl rfl) fz
  | 3, _ => exact fa (f_leq e51 rfl rfl) (fa (f_lss e51 rfl (decide_eq_decide.2 (by show n < 64 ↔ n ≤ 63; omega))) fz)
  | 4, _ => exact fa (f_len (s := s) rfl e54 rfl) (fa (f_leq e54 rfl (decide_eq_decide.2 (by show (s.size : Int) ≤ 4096 ↔ s.size ≤ 4096; omega))) (fa (f_gtr e54 rfl (by show decide ((s.size : Int) > 4096) = !decide (s.size ≤ 4096); rw [← decide_not]; exact decide_eq_decide.2 (by omega))) fz))
theorem ecT_true : ∀ e, e ∈ ecT (eCls p n s.size) → @TETrue (enV p n x s se h d) e := by
  intro e he
  obtain ⟨i, hi, he⟩ := List.mem_flatMap.1 he
  have hi : i < Nat.min (eCls p n s.size + 1) 5 := List.mem_range.1 hi
  have h1 : i < eCls p n s.size + 1 := Nat.lt_of_lt_of_le hi (Nat.min_le_left _ _)
  have h2 : i < 5 := Nat.lt_of_lt_of_le hi (Nat.min_le_right _ _)
  have hq : Nat.blt i (eCls p n s.size) = eTest p n s.size i := by
    rcases Nat.lt_or_ge i (eCls p n s.size) with hl | hl
    · rw [firstBad_pass (eTest p n s.size) 5 0 i (Nat.zero_le _) hl]
      exact Nat.ble_eq_true_of_le hl
    · obtain rfl : i = eCls p n s.size := by omega
      rw [show eTest p n s.size (eCls p n s.size) = false from firstBad_fail (eTest p n s.size) 5 0 (by show eCls p n s.size < 0 + 5; omega)]
      have := Nat.lt_irrefl (eCls p n s.size)
      exact Bool.eq_false_iff.2 fun hc => this (Nat.le_of_ble_eq_true hc)
  rw [hq] at he
  exact ec_true i h2 e he
end
theorem eCls_le (p n : Int) (m : Nat) : eCls p n m ≤ 5 := by
  have : eCls p n m ≤ 0 + 5 := firstBad_le (eTest p n m) 5 0
  omega
theorem eCls_in {p n : Int} {m : Nat} (hc : eCls p n m = 5) : 0 ≤ p ∧ p ≤ 7 ∧ 0 ≤ n ∧ n ≤ 63 ∧ m ≤ 4096 := by
  have g := fun j hj => firstBad_pass (eTest p n m) 5 0 j (Nat.zero_le _) (show j < eCls p n m by rw [hc]; exact hj)
  have g0 := g 0 (by omega); have g1 := g 1 (by omega); have g2 := g 2 (by omega); have g3 := g 3 (by omega); have g4 := g 4 (by omega)
  simp [eTest, secTest] at g0 g1 g2 g3 g4
  exact ⟨g0, g1, g2, g3, g4⟩
@[irreducible] def digM (p n x : Int) (s : ByteArray) : Int := hashM (ba (preL p n x s.size ++ s.data.toList)) % 65536
theorem digM_is (p n x : Int) (s : ByteArray) : digM p n x s = hashM (ba (preL p n x s.size ++ s.data.toList)) % 65536 := by unfold digM; rfl
theorem all_size {p n x : Int} {s : ByteArray} (hs : s.size ≤ 4096) : (ba (preL p n x s.size ++ s.data.toList)).size ≤ 9223372036854775807 := by
  have hlen : s.data.toList.length = s.size := rfl
  rw [ba_size, List.length_append, preL_len, hlen]
  omega
def d0F (q : Bool) : Nat := if q then fDigOf else fRDigest0
def diF (q : Bool) : Nat := if q then fDigest else fRDigest
theorem dig0_core (q : Bool) {p n x : Int} {s : ByteArray} {se : Nat → Int} {h d : Int} (hp : 0 ≤ p ∧ p ≤ 7) (hn : 0 ≤ n ∧ n ≤ 63) (hx : 0 ≤ x ∧ x < 18446744073709551616) (hs : s.size ≤ 4096) (hh : 0 ≤ h) (hd : d = h % 65536) (hH : ∀ q, Ans (hsF q) [.string (ba (preL p n x s.size ++ s.data.toList))] (.int .u64 h)) :
    Ans (d0F q) [entVal p n x s se] (.int .i64 d) := by
  rw [← ent_cv (h := h) (d := d)]
  cases q
  · exact digest_b ⟨hp.1, by omega⟩ ⟨hn.1, by omega⟩ hx hs hh hd (hH false)
  · exact digestOf_a hs hh hd (hH true)
/-- The digest of a valid entry. -/
theorem dig0_ans (q : Bool) {p n x : Int} {s : ByteArray} {se : Nat → Int} (hc : eCls p n s.size = 5) (hx : 0 ≤ x ∧ x < 18446744073709551616) : Ans (d0F q) [entVal p n x s se] (.int .i64 (digM p n x s)) := by
  obtain ⟨a, b, c, e, f⟩ := eCls_in hc
  exact dig0_core q ⟨a, b⟩ ⟨c, e⟩ hx f (hashM_in _).1 (digM_is p n x s) fun q => hash_ans q _ (all_size f)
def digE (p n : Int) (m : Nat) : Int := if eCls p n m < 5 then 81 else 0
def digV (p n x : Int) (s : ByteArray) : Int := if eCls p n s.size < 5 then 0 else digM p n x s
theorem dig_core (q : Bool) {p n x : Int} {s : ByteArray} {se : Nat → Int} {d : Int} (hc : eCls p n s.size = 5) (h0 : ∀ q, Ans (d0F q) [entVal p n x s se] (.int .i64 d)) : Ans (diF q) [entVal p n x s se] (tup2 (.int .i64 d) (.int .i64 0)) := by
  have hT := ecT_true (p := p) (n := n) (x := x) (s := s) (se := se) (h := 0) (d := d)
  rw [hc] at hT
  have hE := ent_cv (p := p) (n := n) (x := x) (s := s) (se := se) (h := 0) (d := d)
  have ht : @TbOK (enV p n x s se 0 d) enA := by
    have y : ∀ q, Ans (d0F q) ([entR].map (@cvF (enV p n x s se 0 d))) (@cvF (enV p n x s se 0 d) (sI 42)) := fun q => by
      show Ans (d0F q) [@cvF (enV p n x s se 0 d) entR] _
      rw [hE, show @cvF (enV p n x s se 0 d) (sI 42) = .int .i64 d from e42]
      exact h0 q
    letI : Val := enV p n x s se 0 d
    exact { T := hT, Y := fa (y true) (fa (y false) fz) }
  have hk := en_ok
  simp only [Bool.and_eq_true] at hk
  have hv : @cvF (enV p n x s se 0 d) (.tup [sI 42, lI 0]) = tup2 (.int .i64 d) (.int .i64 0) := congrArg (fun z => Value.tuple #[z, .int .i64 0]) e42
  have hS : @Holds [.int 42 (sI 42)] (enV p n x s se 0 d) (enV p n x s se 0 d) := holds_all (fa ⟨.i64, d, e42, show enI p n x s.size se 0 d 42 = d by simp [enI]⟩ fz)
  have hA : ∀ w, All2 (@Go.Ri.NVal (enV p n x s se 0 d) w) [entR] [entVal p n x s se] := fun w => by
    rw [← hE]
    exact @nval_flat (enV p n x s se 0 d) w [entR] rfl
  cases q
  · exact done_val _ ht hk.2 rfl hS rfl hv hA
  · exact done_val _ ht hk.1 rfl hS rfl hv hA
theorem digest_ans (q : Bool) {p n x : Int} {s : ByteArray} {se : Nat → Int} (hx : 0 ≤ x ∧ x < 18446744073709551616) : Ans (diF q) [entVal p n x s se] (tup2 (.int .i64 (digV p n x s)) (.int .i64 (digE p n s.size))) := by
  unfold digV digE
  by_cases hc : eCls p n s.size < 5
  · rw [if_pos hc, if_pos hc]
    have hE := ent_cv (p := p) (n := n) (x := x) (s := s) (se := se) (h := 0) (d := 0)
    have ht : @TbOK (enV p n x s se 0 0) { T := ecT (eCls p n s.size) } := by
      have hT := ecT_true (p := p) (n := n) (x := x) (s := s) (se := se) (h := 0) (d := 0)
      letI : Val := enV p n x s se 0 0
      exact { T := hT }
    have hd := allU_lt en_no _ hc
    simp only [Bool.and_eq_true] at hd
    have hA : ∀ w, All2 (@Go.Ri.NVal (enV p n x s se 0 0) w) [entR] [entVal p n x s se] := fun w => by
      rw [← hE]
      exact @nval_flat (enV p n x s se 0 0) w [entR] rfl
    cases q
    · exact done_val _ ht hd.2 rfl (holds_all fz) rfl rfl hA
    · exact done_val _ ht hd.1 rfl (holds_all fz) rfl rfl hA
  · rw [if_neg hc, if_neg hc]
    have h5 : eCls p n s.size = 5 := by
      have := eCls_le p n s.size
      omega
    exact dig_core q h5 fun q => dig0_ans q h5 hx
end Go.Proofs.Z
