/- A part of the proofs that the laws of layer eight answer true for every input. -/
import Derived.Test.YtjeikabpnplogaaZCE
import Derived.Lib.Strings
import Derived.Test.YtjeikabpnplogaaZCF
import Derived.Test.YtjeikabpnplogaaZCG
import Derived.Test.YtjeikabpnplogaaZCH
import Derived.Test.YtjeikabpnplogaaZCI
import Derived.Test.YtjeikabpnplogaaZCJ
namespace Go.Proofs.Z
open Go Go.RowKit Go.Proofs Go.Ri Go.Proofs.Z.Fa
/-! Decode of both packages: contract. -/
def cutL (l : List UInt8) (a n : Nat) : List UInt8 := (l.drop a).take n
theorem cutL_len {l : List UInt8} {a n : Nat} (h : a + n ≤ l.length) : (cutL l a n).length = n := by
  unfold cutL
  rw [List.length_take, List.length_drop]
  omega
theorem cutL_get {l : List UInt8} {a n i : Nat} (hi : i < n) : l[a + i]? = (cutL l a n)[i]? := by
  unfold cutL
  rw [List.getElem?_take_of_lt hi, List.getElem?_drop]
theorem ext_cut (s : ByteArray) (a n : Nat) : s.extract a (a + n) = ba (cutL s.data.toList a n) := by
  apply ByteArray.ext
  apply Array.toList_inj.1
  show (s.extract a (a + n)).data.toList = cutL s.data.toList a n
  rw [Lib.extract_data, Nat.add_sub_cancel_left]
  rfl
def dLenL (l : List UInt8) : Nat := numL (cutL l 10 2)
def dXL (l : List UInt8) : Nat := numL (cutL l 2 8)
def dEndL (l : List UInt8) : Nat := 12 + dLenL l + 128
def dCls (l : List UInt8) : Nat := eCls (bAt l 0 : Nat) (bAt l 1 : Nat) (dLenL l)
def dOk (l : List UInt8) : Bool := decide (12 ≤ l.length) && (decide (dEndL l ≤ l.length) && Nat.beq (dCls l) 5)
theorem dLenL_lt (l : List UInt8) : dLenL l < 65536 := by
  unfold dLenL
  have := numL_lt (cutL l 10 2)
  have h2 : (cutL l 10 2).length ≤ 2 := by unfold cutL; rw [List.length_take]; omega
  have := Nat.pow_le_pow_right (n := 256) (by omega) h2
  omega
theorem numL_cut (l : List UInt8) (a : Nat) : numL (cutL l a 8) < 18446744073709551616 := numL_in (by unfold cutL; rw [List.length_take]; omega)
def dcI (l : List UInt8) (L : Nat) (k : Nat) : Int := if k = 0 then (dXL l : Nat) else if k = 1 then (l.length : Nat) else if k = 2 then (L : Nat) else if k = 6 then (bAt l 0 : Nat) else if k = 7 then (bAt l 1 : Nat) else if k = 50 then (bAt l 0 : Nat) else if k = 51 then (bAt l 1 : Nat) else if k = 54 then (L : Nat) else if k = 55 then ((12 + L : Nat) : Int) else if k = 56 then ((12 + L + 128 : Nat) : Int) else if k < 120 then ((12 + L + 8 * (k - 100) : Nat) : Int) else if k < 300 then ((12 + L + 8 * (k - 120) + 8 : Nat) : Int) else ((numL (cutL l (12 + L + 8 * (k - 300)) 8) : Nat) : Int)
def dcS (l : List UInt8) (L : Nat) (k : Nat) : ByteArray := if k = 0 then ba l else if k = 1 then ba (cutL l 12 L) else if k = 10 then ba (cutL l 10 2) else if k = 11 then ba (cutL l 2 8) else ba (cutL l (12 + L + 8 * (k - 20)) 8)
def dcNm (l : List UInt8) (L : Nat) : Nm := ⟨dcI l L, fun _ => false, dcS l L, fun _ => []⟩
abbrev dcV (l : List UInt8) (L : Nat) : Val := (dcNm l L).val fun _ => undef
def tup3 (a b c : Value) : Value := .tuple #[a, b, c]
section
variable {l : List UInt8} {L : Nat}
theorem c0 : @cv (dcV l L) (sU 0) = .int .u64 (dXL l : Nat) := rfl
theorem c1 : @cv (dcV l L) (sI 1) = .int .i64 (l.length : Nat) := rfl
theorem c2 : @cv (dcV l L) (sU 2) = .int .u64 (L : Nat) := rfl
theorem c6 : @cv (dcV l L) (s8 6) = .int .u8 (bAt l 0 : Nat) := rfl
theorem c7 : @cv (dcV l L) (s8 7) = .int .u8 (bAt l 1 : Nat) := rfl
theorem c50 : @cv (dcV l L) (sI 50) = .int .i64 (bAt l 0 : Nat) := congrArg (Value.int .i64) (show dcI l L 50 = _ by simp [dcI])
theorem c51 : @cv (dcV l L) (sI 51) = .int .i64 (bAt l 1 : Nat) := congrArg (Value.int .i64) (show dcI l L 51 = _ by simp [dcI])
theorem c54 : @cv (dcV l L) (sI 54) = .int .i64 (L : Nat) := congrArg (Value.int .i64) (show dcI l L 54 = _ by simp [dcI])
theorem c55 : @cv (dcV l L) (sI 55) = .int .i64 (12 + L : Nat) := congrArg (Value.int .i64) (show dcI l L 55 = _ by simp [dcI])
theorem c56 : @cv (dcV l L) (sI 56) = .int .i64 (12 + L + 128 : Nat) := congrArg (Value.int .i64) (show dcI l L 56 = _ by simp [dcI])
theorem c100 {i : Nat} (hi : i < 16) : @cv (dcV l L) (sI (100 + i)) = .int .i64 (12 + L + 8 * i : Nat) := congrArg (Value.int .i64) (show dcI l L (100 + i) = _ by
  unfold dcI
  rw [if_neg (by omega), if_neg (by omega), if_neg (by omega), if_neg (by omega), if_neg (by omega), if_neg (by omega), if_neg (by omega), if_neg (by omega), if_neg (by omega), if_neg (by omega), if_pos (by omega), Nat.add_sub_cancel_left])
theorem c120 {i : Nat} (hi : i < 16) : @cv (dcV l L) (sI (120 + i)) = .int .i64 (12 + L + 8 * i + 8 : Nat) := congrArg (Value.int .i64) (show dcI l L (120 + i) = _ by
  unfold dcI
  rw [if_neg (by omega), if_neg (by omega), if_neg (by omega), if_neg (by omega), if_neg (by omega), if_neg (by omega), if_neg (by omega), if_neg (by omega), if_neg (by omega), if_neg (by omega), if_neg (by omega), if_pos (by omega), Nat.add_sub_cancel_left])
theorem c300 (i : Nat) : dcI l L (300 + i) = ((numL (cutL l (12 + L + 8 * i) 8) : Nat) : Int) := by
  unfold dcI
  rw [if_neg (by omega), if_neg (by omega), if_neg (by omega), if_neg (by omega), if_neg (by omega), if_neg (by omega), if_neg (by omega), if_neg (by omega), if_neg (by omega), if_neg (by omega), if_neg (by omega), if_neg (by omega), Nat.add_sub_cancel_left]
theorem cs20 (i : Nat) : dcS l L (20 + i) = ba (cutL l (12 + L + 8 * i) 8) := by
  unfold dcS
  rw [if_neg (by omega), if_neg (by omega), if_neg (by omega), if_neg (by omega), Nat.add_sub_cancel_left]
theorem d0T_true {q : Bool} (hq : decide (l.length < 12) = q) : ∀ e, e ∈ d0T q → @TETrue (dcV l L) e := by
  letI : Val := dcV l L
  exact fa (f_len (s := ba l) rfl (by rw [ba_size]; exact c1) rfl) (fa (f_lss (k := .i64) (m := (l.length : Nat)) (n := 12) c1 rfl (by rw [← hq]; exact decide_eq_decide.2 (by omega))) fz)
theorem d1T_true (hL : L < 65536) {q : Bool} (hq : decide (l.length < 12 + L + 128) = q) : ∀ e, e ∈ d1T q → @TETrue (dcV l L) e := by
  letI : Val := dcV l L
  refine fa (f_conv (k := .u64) (m := (L : Nat)) c2 ?_ rfl) (fa (f_addi (m := 12) (n := (L : Nat)) rfl c54 (by rw [c55]; congr 1) rfl (by omega) (by omega)) (fa (f_addi (m := (12 + L : Nat)) (n := 128) c55 rfl (by rw [c56]; congr 1) rfl (by omega) (by omega)) (fa (f_lss (k := .i64) (m := (l.length : Nat)) (n := (12 + L + 128 : Nat)) c1 c56 (by rw [← hq]; exact decide_eq_decide.2 (by omega))) fz)))
  rw [c54]
  exact congrArg (Value.int .i64) (IntWalk.i64_in (L : Nat) (by omega)).symm
theorem bigT_true {b : Bool} (hb : decide (4096 < L) = b) : ∀ e, e ∈ bigT b → @TETrue (dcV l L) e := by
  letI : Val := dcV l L
  exact fa (f_gtr (k := .i64) (m := (L : Nat)) (n := 4096) c54 rfl (by rw [← hb]; exact decide_eq_decide.2 (by omega))) fz
theorem d2T_true (hL : L < 65536) (hl : 12 ≤ l.length) : ∀ e, e ∈ d2T → @TETrue (dcV l L) e := by
  have b0 := bAt_lt l 0
  have b1 := bAt_lt l 1
  refine fapp ?_ ?_
  · letI : Val := dcV l L
    refine fa (f_idx (s := ba l) (i := 0) (x := l.getD 0 0) rfl rfl (bAt_get (l := l) (i := 0) (by omega)) c6 rfl) (fa (f_conv (k := .u8) (m := (bAt l 0 : Nat)) c6 ?_ rfl) (fa (f_idx (s := ba l) (i := 1) (x := l.getD 1 0) rfl rfl (bAt_get (l := l) (i := 1) (by omega)) c7 rfl) (fa (f_conv (k := .u8) (m := (bAt l 1 : Nat)) c7 ?_ rfl) fz)))
    · rw [c50]
      exact congrArg (Value.int .i64) (IntWalk.i64_in (bAt l 0 : Nat) (by omega)).symm
    · rw [c51]
      exact congrArg (Value.int .i64) (IntWalk.i64_in (bAt l 1 : Nat) (by omega)).symm
  · intro e he
    obtain ⟨i, hi, he⟩ := List.mem_flatMap.1 he
    have hi := List.mem_range.1 hi
    have e1 := c100 (l := l) (L := L) hi
    have e2 := c120 (l := l) (L := L) hi
    letI : Val := dcV l L
    exact (fa (f_addi (m := (12 + L : Nat)) (n := (8 * i : Nat)) c55 rfl (by rw [e1]; congr 1) rfl (by omega) (by omega)) (fa (f_addi (m := (12 + L + 8 * i : Nat)) (n := 8) e1 rfl (by rw [e2]; congr 1) rfl (by omega) (by omega)) fz)) e he
theorem cut_ss {lo hi r : RV} {a n : Nat} (h1 : @cv (dcV l L) lo = .int .i64 (a : Nat)) (h2 : @cv (dcV l L) hi = .int .i64 (a + n : Nat)) (hr : @cv (dcV l L) r = .string (ba (cutL l a n))) (hf : flat0 r = true) (h : a + n ≤ l.length) : @Go.Ri.SSTrue (dcV l L) ⟨sT 0, lo, hi, r⟩ := by
  refine ⟨hf, ba l, .i64, .i64, a, a + n, rfl, h1, h2, Nat.le_add_right _ _, by rw [ba_size]; exact h, ?_⟩
  rw [ext_cut]
  exact hr
theorem dSS1_true (hl : 12 ≤ l.length) : ∀ e, e ∈ dSS1 → @Go.Ri.SSTrue (dcV l L) e := fa (cut_ss (a := 10) (n := 2) rfl rfl rfl rfl (by omega)) fz
theorem dSS2_true (hl : 12 + L + 128 ≤ l.length) : ∀ e, e ∈ dSS2 → @Go.Ri.SSTrue (dcV l L) e := fa (cut_ss (a := 12) (n := L) rfl c55 rfl rfl (by omega)) fz
theorem dSS3_true (hl : 12 + L + 128 ≤ l.length) : ∀ e, e ∈ dSS3 → @Go.Ri.SSTrue (dcV l L) e := by
  refine fa (cut_ss (a := 2) (n := 8) rfl rfl rfl rfl (by omega)) ?_
  intro e he
  obtain ⟨i, hi, rfl⟩ := List.mem_map.1 he
  have hi := List.mem_range.1 hi
  exact cut_ss (a := 12 + L + 8 * i) (n := 8) (c100 hi) (c120 hi) (congrArg Value.string (cs20 i)) rfl (by omega)
theorem dY1_true (hl : 12 ≤ l.length) (hL : L = dLenL l) : ∀ e, e ∈ dY1 → Ans e.f (e.a.map (@cvF (dcV l L))) (@cvF (dcV l L) e.r) := by
  refine fa ?_ fz
  have := num_ans false (l := cutL l 10 2) (cutL_len (by omega))
  show Ans fNum [.string (ba (cutL l 10 2))] (.int .u64 (L : Nat))
  rw [hL]
  exact this
theorem dY2_true (hl : 12 + L + 128 ≤ l.length) : ∀ e, e ∈ dY2 → Ans e.f (e.a.map (@cvF (dcV l L))) (@cvF (dcV l L) e.r) := by
  refine fa (num_ans true (l := cutL l 2 8) (cutL_len (by omega))) ?_
  intro e he
  obtain ⟨i, hi, rfl⟩ := List.mem_map.1 he
  have hi := List.mem_range.1 hi
  show Ans fNum [.string (dcS l L (20 + i))] (.int .u64 (dcI l L (300 + i)))
  rw [cs20, c300]
  exact num_ans true (cutL_len (by omega))
theorem rY1_true (hl : 12 ≤ l.length) (hL : L = dLenL l) : ∀ e, e ∈ rY1 → Ans e.f (e.a.map (@cvF (dcV l L))) (@cvF (dcV l L) e.r) := by
  refine fa ?_ fz
  have := rnum_ans false (s := ba l) (l := cutL l 10 2) (at' := 10) (cutL_len (by omega)) (by omega) (fun i hi => cutL_get (by rw [cutL_len (by omega)] at hi; exact hi))
  show Ans fRNum [.string (ba l), .int .i64 10, .int .i64 2] (.int .u64 (L : Nat))
  rw [hL]
  exact this
theorem rY2_true (hL : L < 65536) (hl : 12 + L + 128 ≤ l.length) : ∀ e, e ∈ rY2 → Ans e.f (e.a.map (@cvF (dcV l L))) (@cvF (dcV l L) e.r) := by
  refine fa (rnum_ans true (s := ba l) (l := cutL l 2 8) (at' := 2) (cutL_len (by omega)) (by omega) (fun i hi => cutL_get (by rw [cutL_len (by omega)] at hi; exact hi))) ?_
  intro e he
  obtain ⟨i, hi, rfl⟩ := List.mem_map.1 he
  have hi := List.mem_range.1 hi
  show Ans fRNum [.string (ba l), @cv (dcV l L) (sI (100 + i)), .int .i64 8] (.int .u64 (dcI l L (300 + i)))
  rw [c100 hi, c300]
  exact rnum_ans true (at' := 12 + L + 8 * i) (cutL_len (by omega)) (by omega) (fun j hj => cutL_get (by rw [cutL_len (by omega)] at hj; exact hj))
theorem bad3_cv (V : Val) : @cvF V bad3 = tup3 zenVal (.int .i64 0) (.int .i64 81) := congrArg (fun z => tup3 z (.int .i64 0) (.int .i64 81)) (@zen_cv V)
theorem bad3_flat : flat bad3 = true := by kernel_rfl
theorem good3_flat : flat good3 = true := by kernel_rfl
theorem dc_cv : @cv1 (dcV l L) entR = entVal (bAt l 0 : Nat) (bAt l 1 : Nat) (dXL l : Nat) (ba (cutL l 12 L)) (fun i => ((numL (cutL l (12 + L + 8 * i) 8) : Nat) : Int)) := by
  show Value.agg ((([sI 50, sI 51, sU 0, sT 1] : List RV) ++ (List.range 16).map fun i => sU (300 + i)).map (@cv (dcV l L))).toArray = _
  rw [List.map_append, List.map_map]
  unfold entVal
  have hm : (List.range 16).map ((@cv (dcV l L)) ∘ fun i => sU (300 + i)) = (List.range 16).map fun i => Value.int .u64 ((numL (cutL l (12 + L + 8 * i) 8) : Nat) : Int) := List.map_congr_left fun i _ => by
    show Value.int .u64 (dcI l L (300 + i)) = _
    rw [c300]
  have h4 : ([sI 50, sI 51, sU 0, sT 1] : List RV).map (@cv (dcV l L)) = [.int .i64 (bAt l 0 : Nat), .int .i64 (bAt l 1 : Nat), .int .u64 (dXL l : Nat), .string (ba (cutL l 12 L))] := by
    show [@cv (dcV l L) (sI 50), @cv (dcV l L) (sI 51), @cv (dcV l L) (sU 0), @cv (dcV l L) (sT 1)] = _
    rw [c50, c51]
    rfl
  rw [hm, h4]
theorem dS_ok : ∀ e, e ∈ dS → @okSE (dcV l L) (dcV l L) e := by
  refine fapp (fa ⟨.i64, _, c50, show dcI l L 50 = _ by simp [dcI]⟩ (fa ⟨.i64, _, c51, show dcI l L 51 = _ by simp [dcI]⟩ (fa ⟨.u64, _, rfl, rfl⟩ (fa ⟨_, rfl, rfl⟩ (fa ⟨.i64, _, c56, show dcI l L 56 = _ by simp [dcI]⟩ fz))))) ?_
  intro e he
  obtain ⟨i, _, rfl⟩ := List.mem_map.1 he
  exact ⟨.u64, _, rfl, rfl⟩
end
def dcF (q : Bool) : Nat := if q then fDec else fRDec
def decB : Value := tup3 zenVal (.int .i64 0) (.int .i64 81)
def decG (l : List UInt8) (L : Nat) : Value := tup3 (entVal (bAt l 0 : Nat) (bAt l 1 : Nat) (dXL l : Nat) (ba (cutL l 12 L)) (fun i => ((numL (cutL l (12 + L + 8 * i) 8) : Nat) : Int))) (.int .i64 (12 + L + 128 : Nat)) (.int .i64 0)
theorem dec_args {l : List UInt8} {L : Nat} (w : World) : All2 (@Go.Ri.NVal (dcV l L) w) [sT 0] [.string (ba l)] := .cons rfl .nil
theorem bodyL_size {l : List UInt8} {L : Nat} (h : 12 + L ≤ l.length) : (ba (cutL l 12 L)).size = L := by
  rw [ba_size, cutL_len h]
theorem dec_0 (q : Bool) {l : List UInt8} (h : l.length < 12) : Ans (dcF q) [.string (ba l)] decB := by
  have hT := d0T_true (l := l) (L := 0) (q := true) (decide_eq_true h)
  have ht : @TbOK (dcV l 0) dA0 := by
    letI : Val := dcV l 0
    exact { T := hT }
  have hk := d_0
  simp only [Bool.and_eq_true] at hk
  cases q
  · exact done_val _ ht hk.2 rfl (holds_all fz) bad3_flat (bad3_cv _) dec_args
  · exact done_val _ ht hk.1 rfl (holds_all fz) bad3_flat (bad3_cv _) dec_args
theorem dec_1 (q : Bool) {l : List UInt8} {L : Nat} (hL : L = dLenL l) (h : 12 ≤ l.length) (h1 : l.length < 12 + L + 128) : Ans (dcF q) [.string (ba l)] decB := by
  have hlt : L < 65536 := by rw [hL]; exact dLenL_lt l
  have hT0 := d0T_true (l := l) (L := L) (q := false) (decide_eq_false (by omega))
  have hT1 := d1T_true (l := l) (L := L) (q := true) hlt (decide_eq_true h1)
  have hTb := bigT_true (l := l) (L := L) rfl
  have hk := all2_all d_1 (decide (4096 < L))
  simp only [Bool.and_eq_true] at hk
  cases q
  · have ht : @TbOK (dcV l L) (rA1 (decide (4096 < L))) := by
      have hY := rY1_true h hL
      letI : Val := dcV l L
      exact { T := fapp hT0 (fapp hT1 hTb), Y := hY }
    exact done_val _ ht hk.2 rfl (holds_all fz) bad3_flat (bad3_cv _) dec_args
  · have ht : @TbOK (dcV l L) dA1 := by
      have hY := dY1_true h hL
      have hS := dSS1_true (L := L) h
      letI : Val := dcV l L
      exact { T := fapp hT0 hT1, SS := hS, Y := hY }
    exact done_val _ ht hk.1 rfl (holds_all fz) bad3_flat (bad3_cv _) dec_args
theorem dA2_ok {l : List UInt8} {L m : Nat} (hL : L = dLenL l) (h : 12 + L + 128 ≤ l.length) (hm : eCls (bAt l 0 : Nat) (bAt l 1 : Nat) L = m) : @TbOK (dcV l L) (dA2 m) := by
  have hlt : L < 65536 := by rw [hL]; exact dLenL_lt l
  have hT0 := d0T_true (l := l) (L := L) (q := false) (decide_eq_false (by omega))
  have hT1 := d1T_true (l := l) (L := L) (q := false) hlt (decide_eq_false (by omega))
  have hT2 := d2T_true (l := l) hlt (by omega)
  have hsz := bodyL_size (l := l) (L := L) (by omega)
  have hE := @ecX_true (dcV l L) (bAt l 0 : Nat) (bAt l 1 : Nat) (ba (cutL l 12 L)) m c50 c51 (by rw [hsz]; exact c54) rfl (by rw [hsz]; exact hm)
  have hY := fapp (dY1_true (by omega) hL) (dY2_true h)
  have hS := fapp (dSS1_true (l := l) (L := L) (by omega)) (fapp (dSS2_true h) (dSS3_true h))
  letI : Val := dcV l L
  exact { T := fapp hT0 (fapp hT1 (fapp hT2 hE)), SS := hS, Y := hY }
theorem rA2_ok {l : List UInt8} {L m : Nat} {b : Bool} (hL : L = dLenL l) (h : 12 + L + 128 ≤ l.length) (hm : eCls (bAt l 0 : Nat) (bAt l 1 : Nat) L = m) (hb : decide (4096 < L) = b) : @TbOK (dcV l L) (rA2 b m) := by
  have hlt : L < 65536 := by rw [hL]; exact dLenL_lt l
  have hT0 := d0T_true (l := l) (L := L) (q := false) (decide_eq_false (by omega))
  have hT1 := d1T_true (l := l) (L := L) (q := false) hlt (decide_eq_false (by omega))
  have hT2 := d2T_true (l := l) hlt (by omega)
  have hTb := bigT_true (l := l) (L := L) hb
  have hsz := bodyL_size (l := l) (L := L) (by omega)
  have hE := @ecX_true (dcV l L) (bAt l 0 : Nat) (bAt l 1 : Nat) (ba (cutL l 12 L)) m c50 c51 (by rw [hsz]; exact c54) rfl (by rw [hsz]; exact hm)
  have hY := fapp (rY1_true (l := l) (L := L) (by omega) hL) (rY2_true hlt h)
  have hS := dSS2_true (l := l) (L := L) h
  letI : Val := dcV l L
  exact { T := fapp hT0 (fapp hT1 (fapp hTb (fapp hT2 hE))), SS := hS, Y := hY }
theorem rbig_ok {l : List UInt8} {L : Nat} (hL : L = dLenL l) (h : 12 + L + 128 ≤ l.length) (hb : 4096 < L) : @TbOK (dcV l L) { T := d0T false ++ (d1T false ++ bigT true), Y := rY1 } := by
  have hlt : L < 65536 := by rw [hL]; exact dLenL_lt l
  have hT0 := d0T_true (l := l) (L := L) (q := false) (decide_eq_false (by omega))
  have hT1 := d1T_true (l := l) (L := L) (q := false) hlt (decide_eq_false (by omega))
  have hTb := bigT_true (l := l) (L := L) (decide_eq_true hb)
  have hY := rY1_true (l := l) (L := L) (by omega) hL
  letI : Val := dcV l L
  exact { T := fapp hT0 (fapp hT1 hTb), Y := hY }
/-- What class an entry that was read can be of. -/
theorem cls_read {p n : Nat} {m : Nat} : eCls (p : Int) (n : Int) m = 1 ∨ eCls (p : Int) (n : Int) m = 3 ∨ (eCls (p : Int) (n : Int) m = 4 ∧ 4096 < m) ∨ eCls (p : Int) (n : Int) m = 5 := by
  have hle := eCls_le (p : Int) (n : Int) m
  have t0 : eTest (p : Int) (n : Int) m 0 = true := by
    show decide (0 ≤ (p : Int)) = true
    exact decide_eq_true (by omega)
  have t2 : eTest (p : Int) (n : Int) m 2 = true := by
    show decide (0 ≤ (n : Int)) = true
    exact decide_eq_true (by omega)
  have hf := firstBad_fail (eTest (p : Int) (n : Int) m) 5 0
  have n0 : eCls (p : Int) (n : Int) m ≠ 0 := fun h => by
    have := hf (by show eCls (p : Int) (n : Int) m < 0 + 5; omega)
    rw [show firstBad (eTest (p : Int) (n : Int) m) 5 0 = 0 from h, t0] at this
    cases this
  have n2 : eCls (p : Int) (n : Int) m ≠ 2 := fun h => by
    have := hf (by show eCls (p : Int) (n : Int) m < 0 + 5; omega)
    rw [show firstBad (eTest (p : Int) (n : Int) m) 5 0 = 2 from h, t2] at this
    cases this
  have n4 : eCls (p : Int) (n : Int) m = 4 → 4096 < m := fun h => by
    have := hf (by show eCls (p : Int) (n : Int) m < 0 + 5; omega)
    rw [show firstBad (eTest (p : Int) (n : Int) m) 5 0 = 4 from h] at this
    have : decide (m ≤ 4096) = false := this
    have := of_decide_eq_false this
    omega
  omega
theorem dec_2 (q : Bool) {l : List UInt8} {L : Nat} (hL : L = dLenL l) (h : 12 + L + 128 ≤ l.length) (hm : eCls (bAt l 0 : Nat) (bAt l 1 : Nat) L ≠ 5) : Ans (dcF q) [.string (ba l)] decB := by
  have hc := cls_read (p := bAt l 0) (n := bAt l 1) (m := L)
  cases q
  · by_cases hb : 4096 < L
    · exact done_val _ (rbig_ok hL h hb) (all2_all r_no false) rfl (holds_all fz) bad3_flat (bad3_cv _) dec_args
    · rcases hc with h1 | h1 | h1 | h1
      · exact done_val _ (rA2_ok hL h h1 (decide_eq_false hb)) r_21 rfl (holds_all fz) bad3_flat (bad3_cv _) dec_args
      · exact done_val _ (rA2_ok hL h h1 (decide_eq_false hb)) r_23 rfl (holds_all fz) bad3_flat (bad3_cv _) dec_args
      · exact absurd h1.2 hb
      · exact absurd h1 hm
  · rcases hc with h1 | h1 | h1 | h1
    · exact done_val _ (dA2_ok hL h h1) d_21 rfl (holds_all fz) bad3_flat (bad3_cv _) dec_args
    · exact done_val _ (dA2_ok hL h h1) d_23 rfl (holds_all fz) bad3_flat (bad3_cv _) dec_args
    · exact done_val _ (dA2_ok hL h h1.1) d_24 rfl (holds_all fz) bad3_flat (bad3_cv _) dec_args
    · exact absurd h1 hm
theorem dec_3 (q : Bool) {l : List UInt8} {L : Nat} (hL : L = dLenL l) (h : 12 + L + 128 ≤ l.length) (hm : eCls (bAt l 0 : Nat) (bAt l 1 : Nat) L = 5) : Ans (dcF q) [.string (ba l)] (decG l L) := by
  have hb : ¬ 4096 < L := by
    have := (eCls_in hm).2.2.2.2
    omega
  have hv : @cvF (dcV l L) good3 = decG l L := by
    show tup3 (@cv1 (dcV l L) entR) (@cv (dcV l L) (sI 56)) (.int .i64 0) = _
    rw [dc_cv, c56]
    rfl
  cases q
  · exact done_val _ (rA2_ok hL h hm (decide_eq_false hb)) r_5 rfl (holds_all dS_ok) good3_flat hv dec_args
  · exact done_val _ (dA2_ok hL h hm) d_5 rfl (holds_all dS_ok) good3_flat hv dec_args
def decV (l : List UInt8) : Value := if dOk l then decG l (dLenL l) else decB
theorem dec_ans (q : Bool) (l : List UInt8) : Ans (dcF q) [.string (ba l)] (decV l) := by
  unfold decV
  by_cases h0 : l.length < 12
  · rw [if_neg (by unfold dOk; rw [decide_eq_false (by omega)]; simp)]
    exact dec_0 q h0
  · by_cases h1 : l.length < 12 + dLenL l + 128
    · rw [if_neg (by unfold dOk dEndL; rw [decide_eq_false (show ¬ (12 + dLenL l + 128 ≤ l.length) by omega)]; simp)]
      exact dec_1 q rfl (by omega) h1
    · by_cases h2 : dCls l = 5
      · rw [if_pos (by unfold dOk dEndL; rw [decide_eq_true (show 12 ≤ l.length by omega), decide_eq_true (show 12 + dLenL l + 128 ≤ l.length by omega), h2]; rfl)]
        exact dec_3 q rfl (by omega) h2
      · rw [if_neg (by unfold dOk; rw [show Nat.beq (dCls l) 5 = false from Bool.eq_false_iff.2 fun hc => h2 (Nat.eq_of_beq_eq_true hc)]; simp)]
        exact dec_2 q rfl (by omega) h2
end Go.Proofs.Z

namespace Go.Proofs.Z
open Go Go.RowKit Go.Proofs Go.Ri Go.Proofs.Z.Fa
/-! Encode and Decode are inverse: lists of bytes. -/
theorem qd_div (x : Int) : ∀ k, qd x (k + 1) = qd (x / 256) k
  | 0 => rfl
  | k + 1 => by
    show qd x (k + 1) / 256 = qd (x / 256) k / 256
    rw [qd_div x k]
theorem byB_toNat {b : UInt8} {m : Int} (h : m % 256 = (b.toNat : Int)) : byB m = b := by
  apply UInt8.toNat_inj.1
  have := byB_is m
  omega
def bysL (x : Int) (n : Nat) : List UInt8 := (List.range n).map fun i => byB (qd x i)
theorem bysL_succ (x : Int) (n : Nat) : bysL x (n + 1) = byB x :: bysL (x / 256) n := by
  unfold bysL
  rw [List.range_succ_eq_map, List.map_cons, List.map_map]
  congr 1
  refine List.map_congr_left fun i _ => ?_
  show byB (qd x (i + 1)) = byB (qd (x / 256) i)
  rw [qd_div]
theorem bysL_num : ∀ l : List UInt8, bysL (numL l : Nat) l.length = l
  | [] => rfl
  | b :: r => by
    have hb := b.toNat_lt
    show bysL ((b.toNat + 256 * numL r : Nat) : Int) (r.length + 1) = b :: r
    rw [bysL_succ, byB_toNat (b := b) (by omega), show ((b.toNat + 256 * numL r : Nat) : Int) / 256 = (numL r : Nat) by omega, bysL_num r]
theorem num_bysL : ∀ (n : Nat) (x : Int), 0 ≤ x → x < (256 ^ n : Nat) → ((numL (bysL x n) : Nat) : Int) = x
  | 0, x, h0, h1 => by
    have : (256 ^ 0 : Nat) = 1 := rfl
    have hx : x = 0 := by omega
    subst hx
    rfl
  | n + 1, x, h0, h1 => by
    rw [bysL_succ]
    have h2 : ((256 ^ (n + 1) : Nat) : Int) = (256 ^ n : Nat) * 256 := by rw [Nat.pow_succ]; omega
    have ih := num_bysL n (x / 256) (by omega) (by omega)
    have hb := byB_is x
    show (((byB x).toNat + 256 * numL (bysL (x / 256) n) : Nat) : Int) = x
    omega
theorem numBs_num {l : List UInt8} (h : l.length = 8) : numBs (numL l : Nat) = l := by
  have := bysL_num l
  rw [h] at this
  exact this
theorem num_numBs {x : Int} (h : 0 ≤ x ∧ x < 18446744073709551616) : ((numL (numBs x) : Nat) : Int) = x := by
  have h8 : ((256 ^ 8 : Nat) : Int) = 18446744073709551616 := by decide
  exact num_bysL 8 x h.1 (by omega)
theorem cut_take (l : List UInt8) (a n : Nat) : l.take (a + n) = l.take a ++ cutL l a n := by
  unfold cutL
  exact List.take_add
theorem cut_app {a b c : List UInt8} : cutL (a ++ (b ++ c)) a.length b.length = b := by
  unfold cutL
  rw [List.drop_left, List.take_left]
/-- What is read of an encoding. -/
structure Read (l : List UInt8) (p n x : Int) (s : ByteArray) (se : Nat → Int) : Prop where
  len : dLenL l = s.size
  p : ((bAt l 0 : Nat) : Int) = p
  n : ((bAt l 1 : Nat) : Int) = n
  x : ((dXL l : Nat) : Int) = x
  b : ba (cutL l 12 s.size) = s
  se : ∀ i, i < 16 → ((numL (cutL l (12 + s.size + 8 * i) 8) : Nat) : Int) = se i
  le : 12 + s.size + 128 ≤ l.length
theorem seB_split (se : Nat → Int) {i : Nat} : ∀ k, i < k → ∃ r, seB se k = seB se i ++ (numBs (se i) ++ r)
  | 0, h => by omega
  | k + 1, h => by
    rw [seB_succ]
    rcases Nat.lt_or_eq_of_le (Nat.le_of_lt_succ h) with h1 | rfl
    · obtain ⟨r, hr⟩ := seB_split se k h1
      exact ⟨r ++ numBs (se k), by rw [hr]; simp⟩
    · exact ⟨[], by simp⟩
theorem read_enc {p n x : Int} {s : ByteArray} {se : Nat → Int} (hp : 0 ≤ p ∧ p ≤ 7) (hn : 0 ≤ n ∧ n ≤ 63) (hx : 0 ≤ x ∧ x < 18446744073709551616) (hse : ∀ i, i < 16 → 0 ≤ se i ∧ se i < 18446744073709551616) (hs : s.size ≤ 4096) (t : List UInt8) : Read (encL p n x s se ++ t) p n x s se := by
  have hlen : s.data.toList.length = s.size := rfl
  have e0 : encL p n x s se ++ t = byB p :: byB n :: (numBs x ++ ([byB (s.size : Nat), byB ((s.size : Int) / 256)] ++ (s.data.toList ++ (seB se 16 ++ t)))) := by
    unfold encL coreL preL
    simp
  have h12 : ∀ r : List UInt8, (byB p :: byB n :: (numBs x ++ [byB (s.size : Nat), byB ((s.size : Int) / 256)])).length = 12 := fun _ => preL_len (p := p) (n := n) (x := x) (s := s)
  have e1 : encL p n x s se ++ t = preL p n x s.size ++ (s.data.toList ++ (seB se 16 ++ t)) := by
    unfold encL coreL
    simp
  have e2 : encL p n x s se ++ t = (preL p n x s.size ++ s.data.toList) ++ (seB se 16 ++ t) := by
    unfold encL coreL
    simp
  have c2 : cutL (encL p n x s se ++ t) 10 2 = [byB (s.size : Nat), byB ((s.size : Int) / 256)] := by
    have := cut_app (a := byB p :: byB n :: numBs x) (b := [byB (s.size : Nat), byB ((s.size : Int) / 256)]) (c := s.data.toList ++ (seB se 16 ++ t))
    rw [show (byB p :: byB n :: numBs x).length = 10 by rw [List.length_cons, List.length_cons, numBs_len]] at this
    rw [e0]
    exact this
  have c3 : cutL (encL p n x s se ++ t) 2 8 = numBs x := by
    have := cut_app (a := [byB p, byB n]) (b := numBs x) (c := [byB (s.size : Nat), byB ((s.size : Int) / 256)] ++ (s.data.toList ++ (seB se 16 ++ t)))
    rw [numBs_len] at this
    rw [e0]
    exact this
  have c4 : cutL (encL p n x s se ++ t) 12 s.size = s.data.toList := by
    have := cut_app (a := preL p n x s.size) (b := s.data.toList) (c := seB se 16 ++ t)
    rw [preL_len, hlen] at this
    rw [e1]
    exact this
  have b0 := byB_is p
  have b1 := byB_is n
  have b2 := byB_is (s.size : Nat)
  have b3 := byB_is ((s.size : Int) / 256)
  refine ⟨?_, ?_, ?_, ?_, ?_, ?_, ?_⟩
  · unfold dLenL
    rw [c2]
    show (byB (s.size : Nat)).toNat + 256 * ((byB ((s.size : Int) / 256)).toNat + 256 * 0) = s.size
    omega
  · rw [e0]
    show ((byB p).toNat : Int) = p
    omega
  · rw [e0]
    show ((byB n).toNat : Int) = n
    omega
  · unfold dXL
    rw [c3]
    exact num_numBs hx
  · rw [c4, ba_self]
  · intro i hi
    obtain ⟨r, hr⟩ := seB_split se 16 hi
    have := cut_app (a := preL p n x s.size ++ s.data.toList ++ seB se i) (b := numBs (se i)) (c := r ++ t)
    rw [List.length_append, List.length_append, preL_len, hlen, seB_len, numBs_len] at this
    rw [e2, hr, show preL p n x s.size ++ s.data.toList ++ (seB se i ++ (numBs (se i) ++ r) ++ t) = preL p n x s.size ++ s.data.toList ++ seB se i ++ (numBs (se i) ++ (r ++ t)) by simp, this]
    exact num_numBs (hse i hi)
  · rw [List.length_append, encL_len]
    omega
theorem entVal_congr {p n x : Int} {s : ByteArray} {se se' : Nat → Int} (h : ∀ i, i < 16 → se i = se' i) : entVal p n x s se = entVal p n x s se' := by
  unfold entVal
  rw [List.map_congr_left fun i hi => congrArg (Value.int .u64) (h i (List.mem_range.1 hi))]
/-- Decode of an encoding, whatever follows. -/
theorem dec_enc {p n x : Int} {s : ByteArray} {se : Nat → Int} (hc : eCls p n s.size = 5) (hx : 0 ≤ x ∧ x < 18446744073709551616) (hse : ∀ i, i < 16 → 0 ≤ se i ∧ se i < 18446744073709551616) (t : List UInt8) : decV (encL p n x s se ++ t) = tup3 (entVal p n x s se) (.int .i64 (12 + s.size + 128 : Nat)) (.int .i64 0) := by
  obtain ⟨a, b, c, e, f⟩ := eCls_in hc
  have h := read_enc ⟨a, b⟩ ⟨c, e⟩ hx hse f t
  have hok : dOk (encL p n x s se ++ t) = true := by
    have hle := h.le
    unfold dOk dEndL dCls
    rw [h.len, h.p, h.n, hc, decide_eq_true (show 12 ≤ (encL p n x s se ++ t).length by omega), decide_eq_true hle]
    rfl
  unfold decV
  rw [if_pos hok]
  unfold decG
  rw [h.len, h.p, h.n, h.x, h.b, entVal_congr h.se]
/-- Encode of what was read. -/
theorem enc_dec {l : List UInt8} {L : Nat} (hL : L = dLenL l) (h : 12 + L + 128 ≤ l.length) : encL (bAt l 0 : Nat) (bAt l 1 : Nat) (dXL l : Nat) (ba (cutL l 12 L)) (fun i => ((numL (cutL l (12 + L + 8 * i) 8) : Nat) : Int)) = l.take (12 + L + 128) := by
  have hsz := bodyL_size (l := l) (L := L) (by omega)
  have hlt := dLenL_lt l
  have hseB : ∀ k, k ≤ 16 → l.take (12 + L) ++ seB (fun i => ((numL (cutL l (12 + L + 8 * i) 8) : Nat) : Int)) k = l.take (12 + L + 8 * k) := by
    intro k
    induction k with
    | zero => intro _; exact List.append_nil _
    | succ k ih =>
      intro hk
      rw [seB_succ, ← List.append_assoc, ih (by omega), show 12 + L + 8 * (k + 1) = 12 + L + 8 * k + 8 by omega, cut_take l (12 + L + 8 * k) 8, numBs_num (cutL_len (by omega))]
  have h2 : [byB (L : Nat), byB ((L : Int) / 256)] = cutL l 10 2 := by
    have hl : (cutL l 10 2).length = 2 := cutL_len (by omega)
    have := bysL_num (cutL l 10 2)
    rw [hl] at this
    rw [← this]
    show _ = bysL (dLenL l : Nat) 2
    rw [← hL]
    rfl
  have h01 : [byB (bAt l 0 : Nat), byB (bAt l 1 : Nat)] = l.take 2 := by
    have a0 : byB (bAt l 0 : Nat) = l.getD 0 0 := byB_toNat (by have := bAt_lt l 0; unfold bAt at *; omega)
    have a1 : byB (bAt l 1 : Nat) = l.getD 1 0 := byB_toNat (by have := bAt_lt l 1; unfold bAt at *; omega)
    rw [a0, a1]
    match l, h with
    | x :: y :: r, _ => rfl
    | [x], h => simp at h
    | [], h => simp at h
  have hx : numBs (dXL l : Nat) = cutL l 2 8 := numBs_num (cutL_len (by omega))
  have hpre : preL (bAt l 0 : Nat) (bAt l 1 : Nat) (dXL l : Nat) L = l.take 12 := by
    unfold preL
    rw [hx, h2]
    rw [show (12 : Nat) = 2 + 8 + 2 from rfl, cut_take, cut_take, ← h01]
    simp
  have hcore : coreL (bAt l 0 : Nat) (bAt l 1 : Nat) (dXL l : Nat) (ba (cutL l 12 L)) = l.take (12 + L) := by
    unfold coreL
    rw [hsz, hpre, cut_take]
    rfl
  unfold encL
  rw [hcore, hseB 16 (by omega)]
end Go.Proofs.Z
