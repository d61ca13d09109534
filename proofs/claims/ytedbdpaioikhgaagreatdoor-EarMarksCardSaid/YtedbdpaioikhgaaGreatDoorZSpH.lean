/- A part of the proofs that the laws of layer one answer true for every input. -/
import Derived.Test.YtedbdpaioikhgaaGreatDoorZSpE
import Derived.Test.YtedbdpaioikhgaaGreatDoorZTkW
import Derived.Test.YtedbdpaioikhgaaGreatDoorZRFeat
import Derived.Test.YtedbdpaioikhgaaGreatDoorZEarOf
import Derived.Test.YtedbdpaioikhgaaGreatDoorZSpP1
import Derived.Test.YtedbdpaioikhgaaGreatDoorZSpE1
import Derived.Test.YtedbdpaioikhgaaGreatDoorZSpE2
import Derived.Test.YtedbdpaioikhgaaGreatDoorZSpE3
import Derived.Test.YtedbdpaioikhgaaGreatDoorZSpE4
import Derived.Test.YtedbdpaioikhgaaGreatDoorZSpE5
namespace Go.Proofs.Z.Sp
open Go Go.RowKit Go.Proofs Go.Ri Go.Proofs.Z
open Go.Proofs.Z.W (tfr tto tlen skp byteIn)
open Go.Proofs.Z.Ps (plc tok tokS' wd)
open Go.Proofs.Z.Fa
/-! The specification's Tokens: what it answers. -/
def clsN (c : UInt8) : Nat := if byteIn 97 122 c then 1 else if byteIn 48 57 c then 2 else if c = 32 then 3 else 0
theorem cl_ans (c : UInt8) : Ans fClass [.int .u8 (c.toNat : Nat)] (intV (clsN c : Nat)) := by
  let V : Val := VE (fun _ => (c.toNat : Int)) fun _ => false
  have h := @ans V noX _ [] noX_true (by
    intro e he
    simp only [clT, List.mem_cons, List.not_mem_nil, or_false] at he
    rcases he with rfl | rfl | rfl | rfl | rfl
    · exact @f_geq V _ _ .u8 (c.toNat : Int) 97 (decide (97 ≤ c.toNat)) rfl rfl (by simp; omega)
    · exact @f_leq V _ _ .u8 (c.toNat : Int) 122 (decide (c.toNat ≤ 122)) rfl rfl (by simp; omega)
    · exact @f_geq V _ _ .u8 (c.toNat : Int) 48 (decide (48 ≤ c.toNat)) rfl rfl (by simp; omega)
    · exact @f_leq V _ _ .u8 (c.toNat : Int) 57 (decide (c.toNat ≤ 57)) rfl rfl (by simp; omega)
    · exact @f_ieq V _ _ .u8 (c.toNat : Int) 32 (decide (c = 32)) rfl rfl (by
        by_cases h : c = 32
        · subst h; rfl
        · rw [decide_eq_false h]
          exact beq_eq_false_iff_ne.2 fun e => h (UInt8.toNat_inj.1 (by have : (32 : UInt8).toNat = 32 := rfl; omega)))) (by intro e he; cases he) _ _ _ _ _ (all2_all (all2_all (all2_all (all2_all (all2_all cl_run (decide (97 ≤ c.toNat))) (decide (c.toNat ≤ 122))) (decide (48 ≤ c.toNat))) (decide (c.toNat ≤ 57))) (decide (c = 32)))
  have e : (if (decide (97 ≤ c.toNat) && decide (c.toNat ≤ 122)) = true then (1 : Int) else if (decide (48 ≤ c.toNat) && decide (c.toNat ≤ 57)) = true then 2 else if decide (c = 32) = true then 3 else 0) = (clsN c : Nat) := by
    unfold clsN byteIn
    simp only [decide_eq_true_eq]
    repeat' split
    all_goals rfl
  rw [← e]
  exact h
theorem clsN_lt (c : UInt8) : clsN c < 4 := by
  unfold clsN
  repeat' split
  all_goals decide
theorem clsN_wd (c : UInt8) : wd c = if clsN c = 3 then 0 else (clsN c : Nat) := by
  unfold wd clsN
  repeat' split
  all_goals first | rfl | (exfalso; omega)
theorem clsN_3 {c : UInt8} (h : clsN c = 3) : c = 32 := by
  unfold clsN at h
  repeat' split at h
  all_goals first | assumption | cases h
theorem clsN_32 : clsN 32 = 3 := by decide
/-! How many tokens there are. -/
def cntF (l : List UInt8) : Nat → Nat → Nat
  | 0, _ => 0
  | f + 1, i => if tfr l i < l.length then cntF l f (tto l i) + 1 else 0
def cnt (l : List UInt8) : Nat := cntF l (l.length + 1) 0
theorem plc_out (l : List UInt8) (i : Nat) : ∀ n, plc l (tto l i) n = plc l i (n + 1)
  | 0 => rfl
  | n + 1 => by
    show tto l (plc l (tto l i) n) = tto l (plc l i (n + 1))
    rw [plc_out l i n]
theorem cntF_ok (l : List UInt8) : ∀ (f i : Nat), i ≤ l.length → l.length - i < f → (∀ n, n < cntF l f i → tfr l (plc l i n) < l.length) ∧ tfr l (plc l i (cntF l f i)) = l.length
  | 0, i, hi, h => by omega
  | f + 1, i, hi, h => by
    unfold cntF
    have hle := Ps.tfr_le hi
    by_cases c : tfr l i < l.length
    · rw [if_pos c]
      have h1 := Ps.tto_gt c
      have h2 := Ps.le_tfr l i
      have ih := cntF_ok l f (tto l i) (Ps.tto_le hi) (by omega)
      refine ⟨fun n hn => ?_, ?_⟩
      · cases n with
        | zero => exact c
        | succ n =>
          rw [← plc_out]
          exact ih.1 n (by omega)
      · rw [← plc_out]
        exact ih.2
    · rw [if_neg c]
      exact ⟨fun n hn => by omega, by show tfr l i = _; omega⟩
theorem cnt_ok (l : List UInt8) : (∀ n, n < cnt l → tfr l (plc l 0 n) < l.length) ∧ tfr l (plc l 0 (cnt l)) = l.length := cntF_ok l _ 0 (Nat.zero_le _) (by omega)
theorem cnt_le (l : List UInt8) : ∀ n, n ≤ cnt l → n ≤ plc l 0 n
  | 0, _ => Nat.zero_le _
  | n + 1, h => by
    have h1 := cnt_le l n (by omega)
    have h2 := Ps.tto_gt ((cnt_ok l).1 n (by omega))
    have h3 := Ps.le_tfr l (plc l 0 n)
    show n + 1 ≤ tto l (plc l 0 n)
    omega
/-- The tokens' cells. -/
def tkC (s : ByteArray) : Nat → List Value
  | 0 => []
  | m + 1 => tkC s m ++ [.int .i64 (tfr s.data.toList (plc s.data.toList 0 m) : Nat), .string (tokS' s (plc s.data.toList 0 m))]
theorem tkC_len (s : ByteArray) : ∀ m, (tkC s m).length = m * 2
  | 0 => rfl
  | m + 1 => by
    show (tkC s m ++ [_, _]).length = _
    rw [List.length_append, tkC_len s m]
    simp; omega
theorem tkC_one (s : ByteArray) : ∀ m, ∀ u, u ∈ tkC s m → u.oneCell' = true
  | 0, u, hu => by cases hu
  | m + 1, u, hu => by
    rcases List.mem_append.1 hu with hu | hu
    · exact tkC_one s m u hu
    · simp only [List.mem_cons, List.not_mem_nil, or_false] at hu
      rcases hu with rfl | rfl <;> rfl
theorem nat_beq (a b : Nat) : ((a : Int) == (b : Int)) = (a == b) := by
  by_cases h : a = b
  · subst h
    rw [beq_self_eq_true, beq_self_eq_true]
  · rw [beq_eq_false_iff_ne.2 h, beq_eq_false_iff_ne.2 (by omega)]
/-- The names. -/
def tnm (s : ByteArray) (m a e : Nat) : Nm where
  I := fun j => if j = 1 then (a : Int) else if j = 5 then ((byt s a).toNat : Int) else if j = 6 then (e : Int) else if j = 7 then (e : Int) + 1 else if j = 8 then (a : Int) + 1 else if j = 11 then (clsN (byt s e) : Int) else if j = 15 then ((byt s e).toNat : Int) else (s.data.toList.length : Int)
  B := fun _ => false
  S := fun j => if j = 0 then s else s.extract a e
  L := fun j => if j = 0 then tkC s m else tkC s (m + 1)
section
variable (s : ByteArray) (m a e : Nat) (W : Nat → Value)
theorem tn_len : @TETrue ((tnm s m a e).val W) ⟨.len, sT 0, sT 0, sI 90⟩ := @f_len ((tnm s m a e).val W) _ _ s rfl rfl rfl
theorem tn_a (q : Bool) (h : decide (a < s.data.toList.length) = q) : @TETrue ((tnm s m a e).val W) ⟨.bin .lss, sI 1, sI 90, bR q⟩ := @f_lss ((tnm s m a e).val W) _ _ .i64 (a : Int) (s.data.toList.length : Int) q rfl rfl (by rw [← h]; simp)
theorem tn_e (q : Bool) (h : decide (e < s.data.toList.length) = q) : @TETrue ((tnm s m a e).val W) ⟨.bin .lss, sI 6, sI 90, bR q⟩ := @f_lss ((tnm s m a e).val W) _ _ .i64 (e : Int) (s.data.toList.length : Int) q rfl rfl (by rw [← h]; simp)
theorem tn_ia (h : a < s.data.toList.length) : @TETrue ((tnm s m a e).val W) ⟨.idx, sT 0, sI 1, sU 5⟩ := @f_idx ((tnm s m a e).val W) _ _ _ s a rfl rfl rfl rfl h
theorem tn_ie (h : e < s.data.toList.length) : @TETrue ((tnm s m a e).val W) ⟨.idx, sT 0, sI 6, sU 15⟩ := @f_idx ((tnm s m a e).val W) _ _ _ s e rfl rfl rfl rfl h
theorem tn_a1 (h : a ≤ 1000000) : @TETrue ((tnm s m a e).val W) ⟨.bin .add, sI 1, lI 1, sI 8⟩ := @f_add1 ((tnm s m a e).val W) _ _ (a : Int) rfl rfl rfl (by omega) (by omega)
theorem tn_e1 (h : e ≤ 1000000) : @TETrue ((tnm s m a e).val W) ⟨.bin .add, sI 6, lI 1, sI 7⟩ := @f_add1 ((tnm s m a e).val W) _ _ (e : Int) rfl rfl rfl (by omega) (by omega)
theorem tn_c (d : Nat) (q : Bool) (h : (clsN (byt s e) == d) = q) : @TETrue ((tnm s m a e).val W) ⟨.ieq, sI 11, lI d, bR q⟩ := @f_ieq ((tnm s m a e).val W) _ _ .i64 (clsN (byt s e) : Int) (d : Int) q rfl rfl (by rw [← h]; exact nat_beq _ _)
theorem tn_la (hm : m < cnt s.data.toList) (hs : s.data.toList.length ≤ 70000) (ha : a = tfr s.data.toList (plc s.data.toList 0 m)) (he : e = tto s.data.toList (plc s.data.toList 0 m)) : @LATrue ((tnm s m a e).val W) ⟨0, [sI 1, sT 2], 1⟩ := by
  subst ha he
  refine ⟨rfl, ?_, tkC_one s m⟩
  show (tkC s (m + 1)).length ≤ _
  rw [tkC_len]
  have h1 := cnt_le s.data.toList m (by omega)
  have h2 := Ps.plc_le (l := s.data.toList) (i := 0) (Nat.zero_le _) m
  omega
theorem tn_ss (h1 : a ≤ e) (h2 : e ≤ s.data.toList.length) : @Go.Ri.SSTrue ((tnm s m a e).val W) ⟨sT 0, sI 1, sI 6, sT 2⟩ := ⟨rfl, s, .i64, .i64, a, e, rfl, rfl, rfl, h1, by simpa using h2, rfl⟩
end
theorem ti_holds (s : ByteArray) (m a e e' j : Nat) (ne : Bool) (W W' : Nat → Value) (hj : (tnm s m a e).I j = (e' : Int)) : Holds (Sin ne j) ((tnm s m a e).val W) ((tnm s m a e').val W') := holds_all fun q hq => by
  unfold Sin keepL at hq
  cases ne <;> simp at hq
  · rcases hq with rfl | rfl | rfl
    · exact ⟨s, rfl, rfl⟩
    · exact ⟨.i64, a, rfl, rfl⟩
    · exact ⟨.i64, e', by show Value.int .i64 ((tnm s m a e).I j) = _; rw [hj], rfl⟩
  · rcases hq with rfl | rfl | rfl | rfl
    · exact ⟨s, rfl, rfl⟩
    · exact ⟨.i64, a, rfl, rfl⟩
    · exact ⟨.i64, e', by show Value.int .i64 ((tnm s m a e).I j) = _; rw [hj], rfl⟩
    · rfl
/-- A blank stands before the next token. -/
theorem blank_at {l : List UInt8} {i a : Nat} (h1 : i ≤ a) (h2 : a < tfr l i) : l[a]? = some 32 := by
  have e : tfr l i = i + ((l.drop i).takeWhile fun c => c == 32).length := rfl
  rw [e] at h2
  obtain ⟨j, rfl⟩ : ∃ j, a = i + j := ⟨a - i, by omega⟩
  have h3 : j < ((l.drop i).takeWhile fun c => c == 32).length := by omega
  rw [← List.getElem?_drop]
  obtain ⟨c, hc, hp⟩ := (Ps.tw_at (p := fun c => c == 32) (l.drop i) j (by omega)).2 h3
  rw [hc]
  have : c = 32 := by simpa using hp
  rw [this]
end Go.Proofs.Z.Sp

namespace Go.Proofs.Z.Sp
open Go Go.RowKit Go.Proofs Go.Ri Go.Proofs.Z
open Go.Proofs.Z.W (tfr tto tlen skp byteIn)
open Go.Proofs.Z.Ps (plc tok tokS' wd)
open Go.Proofs.Z.Fa
/-! The specification's Tokens: the loops. -/
def tkAll (s : ByteArray) : List Value := tkC s (cnt s.data.toList)
section
variable (s : ByteArray)
def OPhi (n : Nat) (ne : Bool) (c : Nm) : Prop := ∃ m a e, m ≤ cnt s.data.toList ∧ plc s.data.toList 0 m ≤ a ∧ a ≤ tfr s.data.toList (plc s.data.toList 0 m) ∧ n = s.data.toList.length - a ∧ ne = !(Nat.beq m 0) ∧ c = tnm s m a e
def IPhi (m a d : Nat) (ne : Bool) (n : Nat) (k : Bool × Nat) (c : Nm) : Prop := ∃ e, k = (ne, d) ∧ a + 1 ≤ e ∧ e ≤ a + tlen (s.data.toList.drop a) ∧ n = a + tlen (s.data.toList.drop a) - e ∧ c = tnm s m a e
theorem inT_ok (m a e : Nat) (W : Nat → Value) (hs : s.data.toList.length ≤ 70000) (ha : a < s.data.toList.length) : @TbOK ((tnm s m a e).val W) (inT (clsN (byt s a))) := by
  letI : Val := (tnm s m a e).val W
  refine { T := ?_, Y := ?_ }
  · intro q hq
    simp only [inT, List.mem_cons, List.not_mem_nil, or_false] at hq
    rcases hq with rfl | rfl | rfl | rfl
    · exact tn_len s m a e W
    · exact tn_a s m a e W true (decide_eq_true ha)
    · exact tn_ia s m a e W ha
    · exact tn_a1 s m a e W (by omega)
  · intro q hq
    simp only [inT, List.mem_cons, List.not_mem_nil, or_false] at hq
    subst hq
    exact cl_ans (byt s a)
theorem ycl_ok (m a e : Nat) (W : Nat → Value) : ∀ q : YE, q ∈ [(⟨fClass, [sU 15], sI 11⟩ : YE)] → Ans q.f (q.a.map (@cvF ((tnm s m a e).val W))) (@cvF ((tnm s m a e).val W) q.r) := by
  intro q hq
  simp only [List.mem_cons, List.not_mem_nil, or_false] at hq
  subst hq
  exact cl_ans (byt s e)
theorem agI_ok (m a e : Nat) (W : Nat → Value) (hs : s.data.toList.length ≤ 70000) (he : e < s.data.toList.length) (hc : clsN (byt s e) = clsN (byt s a)) : @TbOK ((tnm s m a e).val W) (agI (clsN (byt s a))) := by
  letI : Val := (tnm s m a e).val W
  refine { T := ?_, Y := ycl_ok s m a e W }
  intro q hq
  simp only [agI, List.mem_cons, List.not_mem_nil, or_false] at hq
  rcases hq with rfl | rfl | rfl | rfl | rfl
  · exact tn_len s m a e W
  · exact tn_e s m a e W true (decide_eq_true he)
  · exact tn_ie s m a e W he
  · exact tn_c s m a e W _ true (by rw [hc]; exact beq_self_eq_true _)
  · exact tn_e1 s m a e W (by omega)
theorem ouI_ok (m a e : Nat) (W : Nat → Value) (x : Nat) (hx : x ≤ 2) (h0 : decide (e < s.data.toList.length) = !(x == 0)) (h2 : x = 2 → clsN (byt s e) ≠ clsN (byt s a)) (la : @LATrue ((tnm s m a e).val W) ⟨0, [sI 1, sT 2], 1⟩) (ss : @Go.Ri.SSTrue ((tnm s m a e).val W) ⟨sT 0, sI 1, sI 6, sT 2⟩) : @TbOK ((tnm s m a e).val W) (ouI x (clsN (byt s a))) := by
  letI : Val := (tnm s m a e).val W
  have hla : ∀ q, q ∈ [(⟨0, [sI 1, sT 2], 1⟩ : LAE)] → LATrue q := fun q hq => by
    simp only [List.mem_cons, List.not_mem_nil, or_false] at hq
    subst hq
    exact la
  have hss : ∀ q, q ∈ [(⟨sT 0, sI 1, sI 6, sT 2⟩ : SSE)] → SSTrue q := fun q hq => by
    simp only [List.mem_cons, List.not_mem_nil, or_false] at hq
    subst hq
    exact ss
  obtain rfl | rfl | rfl : x = 0 ∨ x = 1 ∨ x = 2 := by omega
  · refine { T := ?_, LA := hla, SS := hss }
    intro q hq
    simp only [ouI, List.mem_cons, List.not_mem_nil, or_false] at hq
    rcases hq with rfl | rfl
    · exact tn_len s m a e W
    · exact tn_e s m a e W _ h0
  · refine { T := ?_, LA := hla, SS := hss }
    intro q hq
    simp only [ouI, List.mem_cons, List.not_mem_nil, or_false] at hq
    rcases hq with rfl | rfl
    · exact tn_len s m a e W
    · exact tn_e s m a e W _ h0
  · refine { T := ?_, LA := hla, SS := hss, Y := ycl_ok s m a e W }
    intro q hq
    simp only [ouI, List.mem_cons, List.not_mem_nil, or_false] at hq
    rcases hq with rfl | rfl | rfl | rfl
    · exact tn_len s m a e W
    · exact tn_e s m a e W _ h0
    · exact tn_ie s m a e W (of_decide_eq_true h0)
    · exact tn_c s m a e W _ false (beq_eq_false_iff_ne.2 (h2 rfl))
/-- For what is no token (blanks), nothing is appended. -/
theorem ouI3_ok (m a e : Nat) (W : Nat → Value) (x : Nat) (hx : x ≤ 1) (h0 : decide (e < s.data.toList.length) = !(x == 0)) : @TbOK ((tnm s m a e).val W) { T := (ouI x 3).T } := by
  letI : Val := (tnm s m a e).val W
  refine { T := ?_ }
  intro q hq
  obtain rfl | rfl : x = 0 ∨ x = 1 := by omega
  all_goals
    simp only [ouI, List.mem_cons, List.not_mem_nil, or_false] at hq
    rcases hq with rfl | rfl
    · exact tn_len s m a e W
    · exact tn_e s m a e W _ h0
end
end Go.Proofs.Z.Sp

namespace Go.Proofs.Z.Sp
open Go Go.RowKit Go.Proofs Go.Ri Go.Proofs.Z
open Go.Proofs.Z.W (tfr tto tlen skp byteIn)
open Go.Proofs.Z.Ps (plc tok tokS' wd)
open Go.Proofs.Z.Fa
/-! The specification's Tokens: its contract. -/
theorem back_holds (s : ByteArray) (m a e m' e' d : Nat) (W W' : Nat → Value) (hm : if d = 3 then m' = m else m' = m + 1) (h0 : d ≠ 3 → a = tfr s.data.toList (plc s.data.toList 0 m)) (h1 : d ≠ 3 → e = tto s.data.toList (plc s.data.toList 0 m)) : Holds (Sou (!(Nat.beq m 0)) d) ((tnm s m a e).val W) ((tnm s m' e e').val W') := holds_all fun q hq => by
  unfold Sou keepL at hq
  simp only [List.mem_append, List.mem_cons, List.not_mem_nil, or_false] at hq
  rcases hq with (rfl | rfl) | hq
  · exact ⟨s, rfl, rfl⟩
  · exact ⟨.i64, e, rfl, rfl⟩
  · by_cases hd : d = 3
    · rw [if_pos hd] at hq hm
      subst hm
      cases hm0 : Nat.beq m' 0 <;> rw [hm0] at hq <;> simp at hq
      subst hq
      rfl
    · rw [if_neg hd] at hq hm
      subst hm
      cases hm0 : Nat.beq m 0 <;> rw [hm0] at hq <;> simp at hq
      · subst hq
        rfl
      · subst hq
        obtain rfl := Nat.eq_of_beq_eq_true hm0
        obtain rfl := h0 hd
        obtain rfl := h1 hd
        rfl
theorem ne_next (m d : Nat) (m' : Nat) (hm : if d = 3 then m' = m else m' = m + 1) : (!(Nat.beq m 0) || !(Nat.beq d 3)) = !(Nat.beq m' 0) := by
  by_cases hd : d = 3
  · rw [if_pos hd] at hm
    subst hm
    subst hd
    simp
  · rw [if_neg hd] at hm
    subst hm
    have : Nat.beq d 3 = false := by
      cases h : Nat.beq d 3 with
      | false => rfl
      | true => exact absurd (Nat.eq_of_beq_eq_true h) hd
    rw [this]
    cases h : Nat.beq (m + 1) 0 with
    | false => simp
    | true => exact absurd (Nat.eq_of_beq_eq_true h) (by omega)
theorem tk_step (s : ByteArray) (hs : s.data.toList.length ≤ 70000) (V : Val) (hV : V.L 0 = tkAll s) (w : World) (n : Nat) (ne : Bool) (c : Nm) (h : OPhi s n ne c) (W : Nat → Value) :
    StepO fTokens tkB tkK tpat w.heap.size w (DQ V (tkR (!(Nat.beq (cnt s.data.toList) 0))).1 (tkR (!(Nat.beq (cnt s.data.toList) 0))).2 w) (fun k' c' => ∃ n', n' < n ∧ OPhi s n' k' c') ne c W := by
  obtain ⟨m, a, e, hm, h1, h2, rfl, rfl, rfl⟩ := h
  have hok := cnt_ok s.data.toList
  have hple := Ps.plc_le (l := s.data.toList) (i := 0) (Nat.zero_le _) m
  have htle := Ps.tfr_le hple
  by_cases ha : a < s.data.toList.length
  · right
    have hd4 := clsN_lt (byt s a)
    have hget := byt_get ha
    have hrin := allU_lt (all2_all tk_in (!(Nat.beq m 0))) (clsN (byt s a)) hd4
    have hb : clsN (byt s a) = 3 → a < tfr s.data.toList (plc s.data.toList 0 m) := fun h3 => by
      rcases Nat.lt_or_eq_of_le h2 with h | h
      · exact h
      · exfalso
        apply Ps.no_blank s.data.toList (plc s.data.toList 0 m)
        rw [← h, hget, clsN_3 h3]
    have hnb : clsN (byt s a) ≠ 3 → a = tfr s.data.toList (plc s.data.toList 0 m) := fun h3 => by
      rcases Nat.lt_or_eq_of_le h2 with h | h
      · have := blank_at h1 h
        rw [hget] at this
        have e32 : byt s a = 32 := Option.some.inj this
        exact absurd (by rw [e32]; exact clsN_32) h3
      · exact h
    have hml : clsN (byt s a) ≠ 3 → m < cnt s.data.toList := fun h3 => by
      rcases Nat.lt_or_eq_of_le hm with h | h
      · exact h
      · have := hnb h3
        rw [h, hok.2] at this
        omega
    have ht1 : 1 ≤ tlen (s.data.toList.drop a) ∧ a + tlen (s.data.toList.drop a) ≤ s.data.toList.length := by
      have h1 := Go.Proofs.Z.W.tlen_le (s.data.toList.drop a)
      have h2 : 1 ≤ tlen (s.data.toList.drop a) := by
        unfold tlen
        rw [List.length_drop]
        omega
      rw [List.length_drop] at h1
      omega
    have hwd := clsN_wd (byt s a)
    refine ⟨Bool × Nat, inT (clsN (byt s a)), [], Sin (!(Nat.beq m 0)) 8, blk (!(Nat.beq m 0)), ipat, IPhi s m a (clsN (byt s a)) (!(Nat.beq m 0)), a + tlen (s.data.toList.drop a) - (a + 1), (!(Nat.beq m 0), clsN (byt s a)), tnm s m a (a + 1), inT_ok s m a e W hs ha, fun W' => ti_holds s m a e (a + 1) 8 _ W W' rfl, hrin, ⟨a + 1, rfl, Nat.le_refl _, by omega, rfl, rfl⟩, ?_⟩
    rintro n1 k1 c1 ⟨e1, rfl, g1, g2, rfl, rfl⟩ W1
    have key := Ps.end_iff hget g1 g2
    by_cases c3 : clsN (byt s a) = 3
    · -- a blank
      have hw0 : wd (byt s a) = 0 := by rw [hwd, if_pos c3]; rfl
      have hend : e1 = a + tlen (s.data.toList.drop a) := by
        have : ¬ e1 < a + tlen (s.data.toList.drop a) := fun h => by
          have := (key.2 h).1
          omega
        omega
      have ht : tlen (s.data.toList.drop a) = 1 := by
        have k2 := Ps.end_iff hget (n := a + 1) (by omega) (by omega)
        have : ¬ a + 1 < a + tlen (s.data.toList.drop a) := fun h => by
          have := (k2.2 h).1
          omega
        omega
      have hlt := hb c3
      refine ⟨{ T := (ouI (if e1 < s.data.toList.length then 1 else 0) 3).T }, [], ouI3_ok s m a e1 W1 _ (by split <;> omega) ?_, .inr ⟨Sou (!(Nat.beq m 0)) 3, blkO (!(Nat.beq m 0)) 3, !(Nat.beq m 0), tnm s m e1 e1, ⟨s.data.toList.length - e1, by omega, m, e1, e1, hm, by omega, by omega, rfl, rfl, rfl⟩, fun W' => back_holds s m a e1 m e1 3 W1 W' (by rw [if_pos rfl]) (fun h => absurd rfl h) (fun h => absurd rfl h), ?_⟩⟩
      · by_cases c : e1 < s.data.toList.length
        · rw [if_pos c, decide_eq_true c]; rfl
        · rw [if_neg c, decide_eq_false c]; rfl
      · rw [c3]
        exact allU_lt (all2_all tk_ou3 (!(Nat.beq m 0))) _ (by split <;> omega)
    · have hlt3 : clsN (byt s a) < 3 := by omega
      have hfr := hnb c3
      have hto : a + tlen (s.data.toList.drop a) = tto s.data.toList (plc s.data.toList 0 m) := by
        rw [hfr]
        rfl
      have hwd' : wd (byt s a) = (clsN (byt s a) : Nat) := by rw [hwd, if_neg c3]
      have hou := fun x hx => allU_lt (allU_lt (all2_all tk_ou (!(Nat.beq m 0))) (clsN (byt s a)) hlt3) x hx
      have go : ∀ x, x ≤ 2 → okX x (clsN (byt s a)) = true → e1 = a + tlen (s.data.toList.drop a) → decide (e1 < s.data.toList.length) = !(x == 0) → (x = 2 → clsN (byt s e1) ≠ clsN (byt s a)) → StepI (hbB (bodT (inT (clsN (byt s a))) [] tkB (tpat (!(Nat.beq m 0))))) (hbK (bodT (inT (clsN (byt s a))) [] tkB (tpat (!(Nat.beq m 0))))) ipat tpat (fun k2 c2 => ∃ n', n' < a + tlen (s.data.toList.drop a) - e1 ∧ IPhi s m a (clsN (byt s a)) (!(Nat.beq m 0)) n' k2 c2) (fun k' c' => ∃ n', n' < s.data.toList.length - a ∧ OPhi s n' k' c') (!(Nat.beq m 0), clsN (byt s a)) (tnm s m a e1) W1 := by
        intro x hx hxo he hd h2c
        have h5 := hou x (by omega)
        rw [if_pos hxo, ne_next m (clsN (byt s a)) (m + 1) (by rw [if_neg c3])] at h5
        have hml' := hml c3
        refine ⟨ouI x (clsN (byt s a)), [], ouI_ok s m a e1 W1 x hx hd h2c (tn_la s m a e1 W1 hml' hs hfr (he.trans hto)) (tn_ss s m a e1 W1 (by omega) (by omega)), .inr ⟨_, _, !(Nat.beq (m + 1) 0), tnm s (m + 1) e1 e1, ⟨s.data.toList.length - e1, by omega, m + 1, e1, e1, hml', ?_, ?_, rfl, rfl, rfl⟩, fun W' => back_holds s m a e1 (m + 1) e1 _ W1 W' (by rw [if_neg c3]) (fun _ => hfr) (fun _ => he.trans hto), h5⟩⟩
        · show tto s.data.toList (plc s.data.toList 0 m) ≤ e1
          omega
        · have h6 := Ps.le_tfr s.data.toList (plc s.data.toList 0 (m + 1))
          have h7 : plc s.data.toList 0 (m + 1) = tto s.data.toList (plc s.data.toList 0 m) := rfl
          omega
      by_cases c0 : e1 < s.data.toList.length
      · by_cases c1 : clsN (byt s a) = 0
        · refine go 1 (by omega) (by rw [c1]; rfl) ?_ (decide_eq_true c0) (fun h => by omega)
          have : ¬ e1 < a + tlen (s.data.toList.drop a) := fun h => by
            have := (key.2 h).1
            omega
          omega
        · have hok2 : okX 2 (clsN (byt s a)) = true := by
            obtain h | h : clsN (byt s a) = 1 ∨ clsN (byt s a) = 2 := by omega
            all_goals rw [h]; rfl
          have hwe := clsN_wd (byt s e1)
          by_cases c2 : clsN (byt s e1) = clsN (byt s a)
          · have hlt : e1 < a + tlen (s.data.toList.drop a) := by
              refine key.1 ⟨by omega, _, byt_get c0, ?_⟩
              rw [hwe, hwd', c2, if_neg c3]
            have hag := allU_lt (all2_all tk_ag (!(Nat.beq m 0))) (clsN (byt s a)) hd4
            rw [if_pos hok2] at hag
            exact ⟨agI (clsN (byt s a)), [], agI_ok s m a e1 W1 hs c0 c2, .inl ⟨_, _, _, tnm s m a (e1 + 1), ⟨_, by omega, e1 + 1, rfl, by omega, by omega, rfl, rfl⟩, fun W' => ti_holds s m a e1 (e1 + 1) 7 _ W1 W' rfl, hag⟩⟩
          · refine go 2 (by omega) hok2 ?_ (decide_eq_true c0) (fun _ => c2)
            have : ¬ e1 < a + tlen (s.data.toList.drop a) := fun h => by
              obtain ⟨h3, d, h4, h5⟩ := key.2 h
              rw [byt_get c0] at h4
              cases h4
              rw [hwe, hwd'] at h5
              split at h5
              · omega
              · exact c2 (by omega)
            omega
      · refine go 0 (by omega) rfl (by omega) (decide_eq_false c0) (fun h => by omega)
  · left
    have hae : a = s.data.toList.length := by omega
    have hmc : m = cnt s.data.toList := by
      rcases Nat.lt_or_eq_of_le hm with h | h
      · have := hok.1 m h
        omega
      · exact h
    subst hmc
    refine step_outQ endT [] ?_ V (keepL (!(Nat.beq (cnt s.data.toList) 0))) (blk (!(Nat.beq (cnt s.data.toList) 0))) _ _ (all2_all tk_end (!(Nat.beq (cnt s.data.toList) 0))) ?_ ?_
    · letI : Val := (tnm s (cnt s.data.toList) a e).val W
      refine { T := ?_ }
      intro q hq
      simp only [endT, List.mem_cons, List.not_mem_nil, or_false] at hq
      rcases hq with rfl | rfl
      · exact tn_len s _ a e W
      · exact tn_a s _ a e W false (decide_eq_false ha)
    · cases (!(Nat.beq (cnt s.data.toList) 0)) <;> rfl
    · refine holds_all fun q hq => ?_
      unfold keepL at hq
      cases hc : (!(Nat.beq (cnt s.data.toList) 0)) <;> rw [hc] at hq <;> simp at hq
      subst hq
      exact hV
/-- What Tokens answers. -/
theorem tokens_ans (s : ByteArray) (hs : s.data.toList.length ≤ 70000) (V : Val) (hV : V.L 0 = tkAll s) : @AnsQ V fTokens [.string s] (tkR (!(Nat.beq (cnt s.data.toList) 0))).1 (tkR (!(Nat.beq (cnt s.data.toList) 0))).2 := by
  intro w hr
  refine fn_loopO (κ := Bool) (tnm s 0 0 0) (fun _ => undef) {} [] fTokens tkA tpat (OPhi s) (tb0 _) [.str 0 (sT 0), .int 1 (lI 0)] [] false s.data.toList.length tk_enter (tnm s 0 0 0) (fun W' => holds_all fun q hq => ?_) ⟨0, 0, 0, Nat.zero_le _, Nat.le_refl _, Nat.zero_le _, rfl, rfl, rfl⟩ (DQ V _ _) (fun w n k c h W => tk_step s hs V hV w n k c h W) w hr [.string s] (@nval_flat ((tnm s 0 0 0).val fun _ => undef) w [sT 0] rfl)
  simp only [List.mem_cons, List.not_mem_nil, or_false] at hq
  rcases hq with rfl | rfl
  · exact ⟨s, rfl, rfl⟩
  · exact ⟨.i64, 0, rfl, rfl⟩
end Go.Proofs.Z.Sp

namespace Go.Proofs.Z.Sp
open Go Go.RowKit Go.Proofs Go.Ri Go.Proofs.Z
open Go.Proofs.Z.W (tfr tto tlen skp byteIn)
open Go.Proofs.Z.Ps (plc tok tokS' tokS_eq wd phrase cl updP earP earM ER nodA nodC nodH nodS seqC isT isV seqV wWhole wComma wordsA wordsC wordsH wordsS phr nt vc)
open Go.Proofs.Z.Fa
/-! The specification's part: its contract. -/
theorem plc_add (l : List UInt8) (i n : Nat) : ∀ k, plc l (plc l i n) k = plc l i (n + k)
  | 0 => rfl
  | k + 1 => by
    show tto l (plc l (plc l i n) k) = tto l (plc l i (n + k))
    rw [plc_add l i n k]
theorem tto_end {l : List UInt8} {i : Nat} (h : tfr l i = l.length) : tto l i = l.length := by
  show tfr l i + tlen (l.drop (tfr l i)) = _
  rw [h, List.drop_length]
  rfl
theorem tfr_end {l : List UInt8} : tfr l l.length = l.length := by
  have h1 := Ps.le_tfr l l.length
  have h2 := Ps.tfr_le (l := l) (Nat.le_refl _)
  omega
theorem tfr_after (l : List UInt8) : ∀ d, tfr l (plc l 0 (cnt l + d)) = l.length
  | 0 => (cnt_ok l).2
  | d + 1 => by
    have h : plc l 0 (cnt l + (d + 1)) = l.length := tto_end (tfr_after l d)
    rw [h, tfr_end]
theorem tok_out (l : List UInt8) (m : Nat) (h : ¬ m < cnt l) : tfr l (plc l 0 m) = l.length ∧ tok l (plc l 0 m) = [] := by
  obtain ⟨d, rfl⟩ : ∃ d, m = cnt l + d := ⟨m - cnt l, by omega⟩
  have h1 := tfr_after l d
  refine ⟨h1, ?_⟩
  unfold Ps.tok
  rw [h1, List.drop_length]
  exact List.take_nil
theorem tok_in {l : List UInt8} {m : Nat} (h : tok l (plc l 0 m) ≠ []) : m < cnt l := by
  rcases Nat.lt_or_ge m (cnt l) with h1 | h1
  · exact h1
  · exact absurd (tok_out l m (by omega)).2 h
theorem cl_mem {ws : List (List UInt8)} {t : List UInt8} (h : cl ws t < ws.length) : t ∈ ws := by
  have h3 := List.findIdx_getElem (xs := ws) (p := (· == t)) (w := h)
  have h4 : ws[cl ws t] = t := eq_of_beq h3
  rw [← h4]
  exact List.getElem_mem _
theorem neA : ∀ w ∈ wordsA, w ≠ [] := by decide
theorem neC : ∀ w ∈ wordsC, w ≠ [] := by decide
theorem neH : ∀ w ∈ wordsH, w ≠ [] := by decide
theorem neS : ∀ w ∈ wordsS, w ≠ [] := by decide
/-- The names at the loop's head: token n on, the row t, where and what went wrong before. -/
def qnm (s : ByteArray) (n : Nat) (t : Nat → Int) (a e : Int) : Nm where
  I := fun j => if j < 15 then ((n + (j - 10) : Nat) : Int) else if j < 20 then ((tfr s.data.toList (plc s.data.toList 0 (n + (j - 15))) : Nat) : Int) else if j < 29 then t (j - 20) else if j = 50 then a else if j = 51 then e else if j = 90 then (s.data.toList.length : Int) else (cnt s.data.toList : Int)
  B := fun j => bitY t (j - 29)
  S := fun j => tokS' s (plc s.data.toList 0 (n + (j - 1)))
  L := fun _ => tkAll s
section
variable {s : ByteArray} {n : Nat} {t : Nat → Int} {a e : Int} (W : Nat → Value)
theorem q_N (k : Nat) (h : k < 5) : (qnm s n t a e).I (10 + k) = ((n + k : Nat) : Int) := by
  show (if 10 + k < 15 then ((n + (10 + k - 10) : Nat) : Int) else _) = _
  rw [if_pos (by omega), Nat.add_sub_cancel_left]
theorem q_F (k : Nat) (h : k < 5) : (qnm s n t a e).I (15 + k) = ((tfr s.data.toList (plc s.data.toList 0 (n + k)) : Nat) : Int) := by
  show (if 15 + k < 15 then _ else if 15 + k < 20 then ((tfr s.data.toList (plc s.data.toList 0 (n + (15 + k - 15))) : Nat) : Int) else _) = _
  rw [if_neg (by omega), if_pos (by omega), Nat.add_sub_cancel_left]
theorem q_S (k : Nat) : (qnm s n t a e).S (1 + k) = tokS' s (plc s.data.toList 0 (n + k)) := by
  show tokS' s (plc s.data.toList 0 (n + (1 + k - 1))) = _
  rw [Nat.add_sub_cancel_left]
theorem q_t (p : Nat) (h : p < 9) : (qnm s n t a e).I (20 + p) = t p := by
  show (if 20 + p < 15 then _ else if 20 + p < 20 then _ else if 20 + p < 29 then t (20 + p - 20) else _) = _
  rw [if_neg (by omega), if_neg (by omega), if_pos (by omega), Nat.add_sub_cancel_left]
theorem q_b (p : Nat) : (qnm s n t a e).B (29 + p) = bitY t p := by
  show bitY t (29 + p - 29) = _
  rw [Nat.add_sub_cancel_left]
theorem q_seq (k : Nat) {ws : List (List UInt8)} (hn : ws.Nodup) {c : Nat} (hc : cl ws (tok s.data.toList (plc s.data.toList 0 (n + k))) = c) : ∀ q, q ∈ seqV (1 + k) c ws 0 → @TETrue ((qnm s n t a e).val W) q :=
  letI : Val := (qnm s n t a e).val W
  seqC (j := 1 + k) (s := tokS' s (plc s.data.toList 0 (n + k))) (show Val.S (1 + k) = _ from q_S (t := t) (a := a) (e := e) k) hn (by rw [tokS_eq]; exact hc)
theorem q_is (k : Nat) {x : List UInt8} {b : Bool} (hc : (tok s.data.toList (plc s.data.toList 0 (n + k)) == x) = b) : ∀ q, q ∈ isV (1 + k) x b → @TETrue ((qnm s n t a e).val W) q :=
  letI : Val := (qnm s n t a e).val W
  isT (j := 1 + k) (s := tokS' s (plc s.data.toList 0 (n + k))) (show Val.S (1 + k) = _ from q_S (t := t) (a := a) (e := e) k) (by rw [tokS_eq]; exact hc)
theorem inK_ok (k : Nat) (hk : k ≤ 3) (b : Bool) (h : decide (n + k < cnt s.data.toList) = b) (hn : n ≤ 100000) : ∀ q, q ∈ inK k b → @TETrue ((qnm s n t a e).val W) q := by
  letI : Val := (qnm s n t a e).val W
  have h1 : Val.I (10 + k) = ((n + k : Nat) : Int) := q_N (a := a) (e := e) (t := t) k (by omega)
  have h2 : Val.I (11 + k) = ((n + k : Nat) : Int) + 1 := by
    have := q_N (s := s) (n := n) (a := a) (e := e) (t := t) (k + 1) (by omega)
    rw [show 11 + k = 10 + (k + 1) by omega]
    exact this
  have h3 : Val.I 91 = (cnt s.data.toList : Int) := rfl
  intro q hq
  simp only [inK, List.mem_cons, List.not_mem_nil, or_false] at hq
  rcases hq with rfl | rfl | rfl
  · exact te_lss _ _ b (by rw [h1, h3, ← h]; exact decide_eq_decide.2 (by constructor <;> intro hh <;> omega))
  · exact te_inb _ _ b (by rw [h1, h3, ← h]; exact decide_eq_decide.2 (by constructor <;> intro hh <;> omega))
  · exact te_add1 _ _ _ h1 h2 (by omega) (by omega)
theorem inR_ok (hn : n ≤ 100000) : ∀ (m : Nat), m ≤ 4 → (∀ k, k < m → n + k < cnt s.data.toList) → ∀ q, q ∈ inR m → @TETrue ((qnm s n t a e).val W) q
  | 0, _, _, q, hq => by cases hq
  | m + 1, hm, h, q, hq => by
    rcases List.mem_append.1 hq with hq | hq
    · exact inR_ok hn m (by omega) (fun k hk => h k (by omega)) q hq
    · exact inK_ok W m (by omega) true (decide_eq_true (h m (by omega))) hn q hq
theorem tkC_drop (s : ByteArray) : ∀ (m j : Nat), j < m → ((tkC s m).drop (j * 2)).take 2 = [.int .i64 (tfr s.data.toList (plc s.data.toList 0 j) : Nat), .string (tokS' s (plc s.data.toList 0 j))]
  | 0, j, h => by omega
  | m + 1, j, h => by
    have hl := tkC_len s m
    show ((tkC s m ++ [_, _]).drop (j * 2)).take 2 = _
    rcases Nat.lt_or_eq_of_le (Nat.le_of_lt_succ h) with hlt | rfl
    · rw [List.drop_append_of_le_length (by omega), List.take_append_of_le_length (by rw [List.length_drop]; omega)]
      exact tkC_drop s m j hlt
    · rw [List.drop_append_of_le_length (by omega), List.drop_of_length_le (by omega)]
      rfl
theorem lxR_ok : ∀ (m : Nat), m ≤ 4 → (∀ k, k < m → n + k < cnt s.data.toList) → ∀ q, q ∈ lxR m → @LXTrue ((qnm s n t a e).val W) q
  | 0, _, _, q, hq => by cases hq
  | m + 1, hm, h, q, hq => by
    rcases List.mem_append.1 hq with hq | hq
    · exact lxR_ok m (by omega) (fun k hk => h k (by omega)) q hq
    · simp only [List.mem_cons, List.not_mem_nil, or_false] at hq
      subst hq
      letI : Val := (qnm s n t a e).val W
      have h1 : Val.I (10 + m) = ((n + m : Nat) : Int) := q_N (a := a) (e := e) (t := t) m (by omega)
      have h2 : Val.I (15 + m) = ((tfr s.data.toList (plc s.data.toList 0 (n + m)) : Nat) : Int) := q_F (a := a) (e := e) (t := t) m (by omega)
      have h3 : Val.S (1 + m) = tokS' s (plc s.data.toList 0 (n + m)) := q_S (a := a) (e := e) (t := t) m
      have hlt := h m (by omega)
      refine ⟨rfl, ?_, ?_⟩
      · show (Val.I (10 + m)).toNat * 2 + 2 ≤ (tkAll s).length
        rw [h1, Int.toNat_natCast]
        unfold tkAll
        rw [tkC_len]
        omega
      · show ((tkAll s).drop ((Val.I (10 + m)).toNat * 2)).take 2 = [Value.int .i64 (Val.I (15 + m)), .string (Val.S (1 + m))]
        rw [h1, h2, h3, Int.toNat_natCast]
        exact tkC_drop s _ _ hlt
theorem ll_ok : ∀ q : LNE, q ∈ [(⟨0, 2, sI 91⟩ : LNE)] → @LLTrue ((qnm s n t a e).val W) q := by
  intro q hq
  simp only [List.mem_cons, List.not_mem_nil, or_false] at hq
  subst hq
  exact ⟨rfl, cnt s.data.toList, by decide, tkC_len s _, rfl⟩
theorem gTT_ok {m : Nat} {o : Bool} {T : List TE} (hn : n ≤ 100000) (he : e = 0) (hT : ∀ q, q ∈ T → @TETrue ((qnm s n t a e).val W) q) (hm : m ≤ 3 ∨ (m ≤ 4 ∧ o = false)) (hin : ∀ k, k < m → n + k < cnt s.data.toList) (ho : o = true → ¬ n + m < cnt s.data.toList) : ∀ q, q ∈ (gT m o T).T → @TETrue ((qnm s n t a e).val W) q := by
  intro q hq
  rcases List.mem_cons.1 hq with rfl | hq
  · exact @f_ieq ((qnm s n t a e).val W) _ _ .i64 e 0 true rfl rfl (by rw [he]; rfl)
  · rcases List.mem_append.1 hq with hq | hq
    · exact hT q hq
    · rcases List.mem_append.1 hq with hq | hq
      · exact inR_ok W hn m (by omega) hin q hq
      · cases o with
        | false => cases hq
        | true => exact inK_ok W m (hm.elim id fun h => by cases h.2) false (decide_eq_false (ho rfl)) hn q hq
theorem gT_ok {m : Nat} {o : Bool} {T : List TE} (hn : n ≤ 100000) (he : e = 0) (hT : ∀ q, q ∈ T → @TETrue ((qnm s n t a e).val W) q) (hm : m ≤ 3 ∨ (m ≤ 4 ∧ o = false)) (hin : ∀ k, k < m → n + k < cnt s.data.toList) (ho : o = true → ¬ n + m < cnt s.data.toList) : @TbOK ((qnm s n t a e).val W) (gT m o T) := by
  letI : Val := (qnm s n t a e).val W
  exact { T := gTT_ok W hn he hT hm hin ho, LL := ll_ok W, LX := lxR_ok W m (by omega) hin }
theorem sid_holds (V : Val) : Holds Sid V V := holds_all fun q hq => by
  simp only [Sid, idN, idI, List.map_cons, List.map_nil, List.mem_cons, List.not_mem_nil, or_false] at hq
  rcases hq with rfl | rfl | rfl | rfl | rfl | rfl | rfl | rfl | rfl | rfl | rfl | rfl | rfl | rfl
  · rfl
  all_goals exact ⟨.i64, _, rfl, rfl⟩
theorem pE_ok {m : Nat} {o : Bool} {T : List TE} {r : RV} (hro : rok2 0 r = true) (hw : isW r = false) (hrun : pRun (gT m o T) r = true) (hn : n ≤ 100000) (he : e = 0) (hT : ∀ q, q ∈ T → @TETrue ((qnm s n t a e).val W) q) (hm : m ≤ 3 ∨ (m ≤ 4 ∧ o = false)) (hin : ∀ k, k < m → n + k < cnt s.data.toList) (ho : o = true → ¬ n + m < cnt s.data.toList) : @WETrue ((qnm s n t a e).val W) (pE r) :=
  we_done (V := (qnm s n t a e).val W) (V' := (qnm s n t a e).val W) (sid_holds _) hro (gT_ok W hn he hT hm hin ho) rfl hrun hw (sid_holds _) (fun _ _ h => h)
/-- A phrase that is told. -/
theorem phr_ok' {p v k : Nat} (h : phrase s.data.toList (plc s.data.toList 0 n) = (some (p, v), k)) : k = nt p ∧ p < 12 ∧ 1 ≤ v ∧ v < vc p ∧ (∀ q, q ∈ phr p v → @TETrue ((qnm s n t a e).val W) q) ∧ ∀ j, j < nt p → n + j < cnt s.data.toList := by
  obtain ⟨A, hA⟩ : ∃ A, cl wordsA (tok s.data.toList (plc s.data.toList 0 n)) = A := ⟨_, rfl⟩
  obtain ⟨H, hH⟩ : ∃ A, cl wordsH (tok s.data.toList (plc s.data.toList 0 (n + 1))) = A := ⟨_, rfl⟩
  obtain ⟨C, hC⟩ : ∃ A, cl wordsC (tok s.data.toList (plc s.data.toList 0 (n + 1))) = A := ⟨_, rfl⟩
  obtain ⟨S, hS⟩ : ∃ A, cl wordsS (tok s.data.toList (plc s.data.toList 0 (n + 2))) = A := ⟨_, rfl⟩
  have fA := q_seq (t := t) (a := a) (e := e) W 0 nodA hA
  have fH := q_seq (t := t) (a := a) (e := e) W 1 nodH hH
  have fC := q_seq (t := t) (a := a) (e := e) W 1 nodC hC
  have fS := q_seq (t := t) (a := a) (e := e) W 2 nodS hS
  have iA : A < 7 → n < cnt s.data.toList := fun h => tok_in (m := n) (neA _ (cl_mem (by rw [hA]; exact h)))
  have iH : H < 3 → n + 1 < cnt s.data.toList := fun h => tok_in (neH _ (cl_mem (by rw [hH]; exact h)))
  have iC : C < 3 → n + 1 < cnt s.data.toList := fun h => tok_in (neC _ (cl_mem (by rw [hC]; exact h)))
  have iS : S < 4 → n + 2 < cnt s.data.toList := fun h => tok_in (neS _ (cl_mem (by rw [hS]; exact h)))
  unfold phrase at h
  rw [plc_add, plc_add, hA, hH, hC, hS] at h
  clear hA hH hC hS
  split at h
  · cases h
    refine ⟨rfl, by omega, by omega, by show _ < 5; omega, fA, fun j hj => ?_⟩
    have hj : j < 1 := hj
    have := iA (by omega)
    omega
  · split at h
    · rename_i h4
      subst h4
      split at h
      · rename_i h3
        cases h
        have hp : ¬ (9 + H = 0) := by omega
        have hp2 : ¬ (9 + H < 9) := by omega
        have hnt : nt (9 + H) = 2 := by unfold nt; rw [if_neg hp, if_neg hp2]
        refine ⟨hnt.symm, by omega, by omega, by unfold vc; rw [if_neg hp, if_neg hp2]; omega, ?_, fun j hj => ?_⟩
        · unfold phr
          rw [if_neg hp, if_neg hp2, Nat.add_sub_cancel_left]
          intro q hq
          rcases List.mem_append.1 hq with hq | hq
          · exact fA q hq
          · exact fH q hq
        · rw [hnt] at hj
          have := iA (by omega)
          have := iH h3
          omega
      · cases h
    · split at h
      · rename_i hge hne h7
        split at h
        · rename_i h3
          split at h
          · rename_i h4
            cases h
            have hp : ¬ (1 + 4 * (A - 5) + S = 0) := by omega
            have hp2 : 1 + 4 * (A - 5) + S < 9 := by omega
            have hnt : nt (1 + 4 * (A - 5) + S) = 3 := by unfold nt; rw [if_neg hp, if_pos hp2]
            refine ⟨hnt.symm, by omega, by omega, by unfold vc; rw [if_neg hp, if_pos hp2]; omega, ?_, fun j hj => ?_⟩
            · unfold phr
              rw [if_neg hp, if_pos hp2]
              have e1 : (if 1 + 4 * (A - 5) + S < 5 then 5 else 6) = A := by split <;> omega
              have e2 : (if 1 + 4 * (A - 5) + S < 5 then 1 + 4 * (A - 5) + S - 1 else 1 + 4 * (A - 5) + S - 5) = S := by split <;> omega
              rw [e1, e2, Nat.add_sub_cancel]
              intro q hq
              rcases List.mem_append.1 hq with hq | hq
              · exact fA q hq
              · rcases List.mem_append.1 hq with hq | hq
                · exact fC q hq
                · exact fS q hq
            · rw [hnt] at hj
              have := iA (by omega)
              have := iC h3
              have := iS h4
              omega
          · cases h
        · cases h
      · cases h
/-- A phrase that breaks off. -/
theorem bad_ok' {k : Nat} (h : phrase s.data.toList (plc s.data.toList 0 n) = (none, k)) : ∃ c d v, c < 4 ∧ d < 2 ∧ v < 3 ∧ k = badK c ∧ (∀ j, j < badK c → n + j < cnt s.data.toList) ∧ (∀ q, q ∈ badT c d v (!decide (n + badK c < cnt s.data.toList)) → @TETrue ((qnm s n t a e).val W) q) := by
  obtain ⟨A, hA⟩ : ∃ A, cl wordsA (tok s.data.toList (plc s.data.toList 0 n)) = A := ⟨_, rfl⟩
  obtain ⟨H, hH⟩ : ∃ A, cl wordsH (tok s.data.toList (plc s.data.toList 0 (n + 1))) = A := ⟨_, rfl⟩
  obtain ⟨C, hC⟩ : ∃ A, cl wordsC (tok s.data.toList (plc s.data.toList 0 (n + 1))) = A := ⟨_, rfl⟩
  obtain ⟨S, hS⟩ : ∃ A, cl wordsS (tok s.data.toList (plc s.data.toList 0 (n + 2))) = A := ⟨_, rfl⟩
  have fA := q_seq (t := t) (a := a) (e := e) W 0 nodA hA
  have fH := q_seq (t := t) (a := a) (e := e) W 1 nodH hH
  have fC := q_seq (t := t) (a := a) (e := e) W 1 nodC hC
  have fS := q_seq (t := t) (a := a) (e := e) W 2 nodS hS
  have lA : A ≤ 7 := by rw [← hA]; exact Ps.cl_le wordsA _
  have lH : H ≤ 3 := by rw [← hH]; exact Ps.cl_le wordsH _
  have lC : C ≤ 3 := by rw [← hC]; exact Ps.cl_le wordsC _
  have lS : S ≤ 4 := by rw [← hS]; exact Ps.cl_le wordsS _
  have iA : A < 7 → n < cnt s.data.toList := fun h => tok_in (m := n) (neA _ (cl_mem (by rw [hA]; exact h)))
  have iC : C < 3 → n + 1 < cnt s.data.toList := fun h => tok_in (neC _ (cl_mem (by rw [hC]; exact h)))
  unfold phrase at h
  rw [plc_add, plc_add, hA, hH, hC, hS] at h
  clear hA hH hC hS
  split at h
  · cases h
  · split at h
    · rename_i h4
      subst h4
      split at h
      · cases h
      · cases h
        obtain rfl : H = 3 := by omega
        refine ⟨1, 0, 0, by omega, by omega, by omega, rfl, fun j hj => ?_, ?_⟩
        · have hj : j < 1 := hj
          have := iA (by omega)
          omega
        · intro q hq
          unfold badT at hq
          rcases List.mem_append.1 hq with hq | hq
          · exact fA q hq
          · split at hq
            · cases hq
            · exact fH q hq
    · split at h
      · rename_i hge hne h7
        obtain ⟨d, rfl, hd⟩ : ∃ d, A = 5 + d ∧ d < 2 := ⟨A - 5, by omega, by omega⟩
        split at h
        · rename_i h3
          split at h
          · cases h
          · cases h
            obtain rfl : S = 4 := by omega
            refine ⟨3, d, C, by omega, hd, h3, rfl, fun j hj => ?_, ?_⟩
            · have hj : j < 2 := hj
              have := iA (by omega)
              have := iC h3
              omega
            · intro q hq
              unfold badT at hq
              rcases List.mem_append.1 hq with hq | hq
              · exact fA q hq
              · rcases List.mem_append.1 hq with hq | hq
                · exact fC q hq
                · split at hq
                  · cases hq
                  · exact fS q hq
        · cases h
          obtain rfl : C = 3 := by omega
          refine ⟨2, d, 0, by omega, hd, by omega, rfl, fun j hj => ?_, ?_⟩
          · have hj : j < 1 := hj
            have := iA (by omega)
            omega
          · intro q hq
            unfold badT at hq
            rcases List.mem_append.1 hq with hq | hq
            · exact fA q hq
            · split at hq
              · cases hq
              · exact fC q hq
      · cases h
        obtain rfl : A = 7 := by omega
        refine ⟨0, 0, 0, by omega, by omega, by omega, rfl, fun j (hj : j < 0) => absurd hj (Nat.not_lt_zero _), ?_⟩
        intro q hq
        unfold badT at hq
        simp only at hq
        split at hq
        · cases hq
        · exact fA q hq
end
end Go.Proofs.Z.Sp

namespace Go.Proofs.Z.Sp
open Go Go.RowKit Go.Proofs Go.Ri Go.Proofs.Z
open Go.Proofs.Z.W (tfr tto tlen skp byteIn)
open Go.Proofs.Z.Ps (plc tokS' tokS_eq wd phrase cl updP earP earM ER isV seqV wWhole wComma wordsA wordsC wordsH wordsS phr nt vc)
open Go.Proofs.Z.Fa
/-! The specification's ear: its contract. -/
structure SR where
  e : Nat → Int
  pos : Int
  err : Int
  n : Nat
def smM (l : List UInt8) : Nat → Nat → (Nat → Int) → SR
  | 0, n, t => ⟨t, 0, 0, n⟩
  | f + 1, n, t => match phrase l (plc l 0 n) with
    | (none, k) => ⟨t, (tfr l (plc l 0 (n + k)) : Nat), 3, n + k⟩
    | (some (p, v), k) =>
      if t p = 0 then
        (if Ps.tok l (plc l 0 (n + k)) = wComma then smM l f (n + k + 1) (updP t p v) else ⟨updP t p v, 0, 0, n + k⟩)
      else ⟨t, (tfr l (plc l 0 n) : Nat), 11, n + k⟩
def smP (l : List UInt8) (n : Nat) : SR :=
  if Ps.tok l (plc l 0 n) = wWhole then ⟨fun _ => 0, 0, 0, n + 1⟩ else smM l (l.length + 1) n fun _ => 0
theorem smM_none {l : List UInt8} {f n k : Nat} {t : Nat → Int} (h : phrase l (plc l 0 n) = (none, k)) : smM l (f + 1) n t = ⟨t, (tfr l (plc l 0 (n + k)) : Nat), 3, n + k⟩ := by
  show (match phrase l (plc l 0 n) with
    | (none, k) => (⟨t, (tfr l (plc l 0 (n + k)) : Nat), 3, n + k⟩ : SR)
    | (some (p, v), k) =>
      if t p = 0 then
        (if Ps.tok l (plc l 0 (n + k)) = wComma then smM l f (n + k + 1) (updP t p v) else ⟨updP t p v, 0, 0, n + k⟩)
      else ⟨t, (tfr l (plc l 0 n) : Nat), 11, n + k⟩) = _
  rw [h]
theorem smM_some {l : List UInt8} {f n k p v : Nat} {t : Nat → Int} (h : phrase l (plc l 0 n) = (some (p, v), k)) : smM l (f + 1) n t = if t p = 0 then (if Ps.tok l (plc l 0 (n + k)) = wComma then smM l f (n + k + 1) (updP t p v) else ⟨updP t p v, 0, 0, n + k⟩) else ⟨t, (tfr l (plc l 0 n) : Nat), 11, n + k⟩ := by
  show (match phrase l (plc l 0 n) with
    | (none, k) => (⟨t, (tfr l (plc l 0 (n + k)) : Nat), 3, n + k⟩ : SR)
    | (some (p, v), k) =>
      if t p = 0 then
        (if Ps.tok l (plc l 0 (n + k)) = wComma then smM l f (n + k + 1) (updP t p v) else ⟨updP t p v, 0, 0, n + k⟩)
      else ⟨t, (tfr l (plc l 0 n) : Nat), 11, n + k⟩) = _
  rw [h]
/-- The two models. -/
structure Alike (l : List UInt8) (x : SR) (y : ER) : Prop where
  pos : y.pos = x.pos
  err : y.err = x.err
  i : y.i = plc l 0 x.n
  e : x.err = 0 → y.e = x.e
theorem smM_alike (l : List UInt8) : ∀ (f n : Nat) (t : Nat → Int), (f = 0 → t = fun _ => 0) → cnt l - n < f → Alike l (smM l f n t) (earM l f (plc l 0 n) t)
  | 0, n, t, _, h => by omega
  | f + 1, n, t, _, hf => by
    obtain ⟨o, k, hph⟩ : ∃ o k, phrase l (plc l 0 n) = (o, k) := ⟨_, _, rfl⟩
    cases o with
    | none =>
      rw [smM_none hph, Ps.earM_none hph, plc_add]
      exact ⟨rfl, rfl, rfl, fun h => by cases h⟩
    | some pv =>
      obtain ⟨p, v⟩ := pv
      rw [smM_some hph, Ps.earM_some hph, plc_add, plc_add]
      by_cases hz : t p = 0
      · rw [if_pos hz, if_pos hz]
        by_cases hc : Ps.tok l (plc l 0 (n + k)) = wComma
        · rw [if_pos hc, if_pos hc]
          have hlt : n + k < cnt l := tok_in (by rw [hc]; exact List.cons_ne_nil _ _)
          exact smM_alike l f (n + k + 1) _ (fun h => by omega) (by omega)
        · rw [if_neg hc, if_neg hc]
          exact ⟨rfl, rfl, rfl, fun _ => rfl⟩
      · rw [if_neg hz, if_neg hz]
        exact ⟨rfl, rfl, rfl, fun h => by cases h⟩
theorem cnt_len (l : List UInt8) : cnt l ≤ l.length := Nat.le_trans (cnt_le l (cnt l) (Nat.le_refl _)) (Ps.plc_le (Nat.zero_le _) _)
theorem smP_alike (l : List UInt8) (n : Nat) : Alike l (smP l n) (earP l (plc l 0 n)) := by
  unfold smP earP
  by_cases hw : Ps.tok l (plc l 0 n) = wWhole
  · rw [if_pos hw, if_pos hw, plc_add]
    exact ⟨rfl, rfl, rfl, fun _ => rfl⟩
  · rw [if_neg hw, if_neg hw]
    have := cnt_len l
    exact smM_alike l _ n _ (fun _ => rfl) (by omega)
/-- The answer's names. -/
structure AnsS (V : Val) (o : Nat) (r : SR) : Prop where
  e : ∀ j, j < 9 → V.I (o + j) = r.e j
  b : ∀ j, j < 3 → V.B (o + 9 + j) = bitY r.e j
  n : V.I (o + 12) = (r.n : Int)
  pos : V.I (o + 13) = r.pos
  err : V.I (o + 14) = r.err
structure Row (V : Val) (c : Nat → RV) (u : Nat → Int) : Prop where
  i : ∀ j, j < 9 → @cv V (c j) = .int .i64 (u j)
  b : ∀ j, j < 3 → @cv V (c (9 + j)) = .bool (bitY u j)
theorem ou_hold {V' V : Val} {o : Nat} {r : SR} (hA : AnsS V o r) {c : Nat → RV} (hc : Row V' c r.e) {nR aR eR : RV} (hL : V.L 0 = V'.L 0) (h90 : V.I 90 = V'.I 90) (hn : @cv V' nR = .int .i64 (r.n : Int)) (ha : @cv V' aR = .int .i64 r.pos) (he : @cv V' eR = .int .i64 r.err) : Holds (ouS o c nR aR eR) V' V := by
  refine holds_all fun q hq => ?_
  simp only [ouS, f9, f3, List.map_cons, List.map_nil, List.cons_append, List.nil_append, List.mem_cons, List.not_mem_nil, or_false] at hq
  rcases hq with rfl | rfl | rfl | rfl | rfl | rfl | rfl | rfl | rfl | rfl | rfl | rfl | rfl | rfl | rfl | rfl | rfl
  · exact hL
  · exact ⟨.i64, _, rfl, h90⟩
  · exact ⟨.i64, _, hn, hA.n⟩
  · exact ⟨.i64, _, ha, hA.pos⟩
  · exact ⟨.i64, _, he, hA.err⟩
  · exact ⟨.i64, _, hc.i 0 (by omega), hA.e 0 (by omega)⟩
  · exact ⟨.i64, _, hc.i 1 (by omega), hA.e 1 (by omega)⟩
  · exact ⟨.i64, _, hc.i 2 (by omega), hA.e 2 (by omega)⟩
  · exact ⟨.i64, _, hc.i 3 (by omega), hA.e 3 (by omega)⟩
  · exact ⟨.i64, _, hc.i 4 (by omega), hA.e 4 (by omega)⟩
  · exact ⟨.i64, _, hc.i 5 (by omega), hA.e 5 (by omega)⟩
  · exact ⟨.i64, _, hc.i 6 (by omega), hA.e 6 (by omega)⟩
  · exact ⟨.i64, _, hc.i 7 (by omega), hA.e 7 (by omega)⟩
  · exact ⟨.i64, _, hc.i 8 (by omega), hA.e 8 (by omega)⟩
  · exact ⟨_, hc.b 0 (by omega), hA.b 0 (by omega)⟩
  · exact ⟨_, hc.b 1 (by omega), hA.b 1 (by omega)⟩
  · exact ⟨_, hc.b 2 (by omega), hA.b 2 (by omega)⟩
section
variable {s : ByteArray} {n : Nat} {t : Nat → Int} {a e : Int} (W : Nat → Value)
theorem row_same : Row ((qnm s n t a e).val W) sameV' t where
  i := fun j hj => by
    unfold sameV'
    rw [Ps.blt_of' hj]
    exact congrArg (Value.int .i64) (q_t j hj)
  b := fun j hj => by
    have : Nat.blt (9 + j) 9 = false := by
      obtain rfl | rfl | rfl : j = 0 ∨ j = 1 ∨ j = 2 := by omega
      all_goals rfl
    unfold sameV'
    rw [this]
    have h := q_b (s := s) (n := n) (t := t) (a := a) (e := e) j
    rw [show 29 + j = 20 + (9 + j) by omega] at h
    exact congrArg Value.bool h
theorem row_zero (V : Val) : Row V zeroV fun _ => 0 where
  i := fun j hj => by
    unfold zeroV
    rw [Ps.blt_of' hj]
    rfl
  b := fun j hj => by
    obtain rfl | rfl | rfl : j = 0 ∨ j = 1 ∨ j = 2 := by omega
    all_goals rfl
theorem row_up (p v : Nat) (hv : 1 ≤ v) : Row ((qnm s n t a e).val W) (upV p v) (updP t p v) where
  i := fun j hj => by
    unfold upV updP
    by_cases h : j = p
    · subst h
      rw [Nat.beq_refl, if_pos rfl, if_pos rfl, Ps.blt_of' hj]
      rfl
    · rw [if_neg h]
      have hb : Nat.beq j p = false := by
        cases hb : Nat.beq j p with
        | true => exact absurd (Nat.eq_of_beq_eq_true hb) h
        | false => rfl
      rw [hb]
      exact (row_same (s := s) (n := n) (t := t) (a := a) (e := e) W).i j hj
  b := fun j hj => by
    have h9 : Nat.blt (9 + j) 9 = false := by
      obtain rfl | rfl | rfl : j = 0 ∨ j = 1 ∨ j = 2 := by omega
      all_goals rfl
    unfold upV
    by_cases h : 9 + j = p
    · subst h
      rw [Nat.beq_refl, if_pos rfl, h9]
      show Value.bool true = .bool (!(updP t (9 + j) v (9 + j) == 0))
      unfold updP
      rw [if_pos rfl]
      have : ((v : Int) == 0) = false := by rw [beq_eq_false_iff_ne]; omega
      rw [this]
      rfl
    · have hb : Nat.beq (9 + j) p = false := by
        cases hb : Nat.beq (9 + j) p with
        | true => exact absurd (Nat.eq_of_beq_eq_true hb) h
        | false => rfl
      rw [hb]
      have e1 : bitY (updP t p v) j = bitY t j := by
        show (!(updP t p v (9 + j) == 0)) = !(t (9 + j) == 0)
        unfold updP
        rw [if_neg h]
      rw [e1]
      exact (row_same (s := s) (n := n) (t := t) (a := a) (e := e) W).b j hj
theorem zF_ok (p : Nat) (hp : p < 12) (z : Bool) (h : (t p == 0) = z) : @TETrue ((qnm s n t a e).val W) (zF p z) := by
  unfold zF
  by_cases h9 : p < 9
  · rw [Ps.blt_of' h9]
    exact @f_ieq ((qnm s n t a e).val W) _ _ .i64 (t p) 0 z (congrArg (Value.int .i64) (q_t p h9)) rfl h
  · have hb : Nat.blt p 9 = false := by
      cases hb : Nat.blt p 9 with
      | true => exact absurd (Nat.le_of_ble_eq_true hb) (by omega)
      | false => rfl
    rw [hb]
    have h := (row_same (s := s) (n := n) (t := t) (a := a) (e := e) W).b (p - 9) (by omega)
    have e1 : sameV' (9 + (p - 9)) = sB (20 + p) := by
      rw [show 9 + (p - 9) = p by omega]
      unfold sameV'
      rw [hb]
      rfl
    rw [e1] at h
    have e2 : bitY t (p - 9) = !z := by
      show (!(t (9 + (p - 9)) == 0)) = !z
      rw [show 9 + (p - 9) = p by omega]
      rename_i h0
      rw [h0]
    rw [e2] at h
    exact ⟨rfl, !z, h, rfl⟩
theorem wT_ok {m : Nat} {o : Bool} {T : List TE} {r : RV} (hn : n ≤ 100000) (he : e = 0) (hT : ∀ q, q ∈ T → @TETrue ((qnm s n t a e).val W) q) (hm : m ≤ 3 ∨ (m ≤ 4 ∧ o = false)) (hin : ∀ k, k < m → n + k < cnt s.data.toList) (ho : o = true → ¬ n + m < cnt s.data.toList) (hp : @WETrue ((qnm s n t a e).val W) (pE r)) : @TbOK ((qnm s n t a e).val W) (wT m o T r) := by
  letI : Val := (qnm s n t a e).val W
  refine { T := gTT_ok W hn he hT hm hin ho, LL := ll_ok W, LX := lxR_ok W m (by omega) hin, U := ?_ }
  refine (show UOK (wU [pE r]) from wU_ok _ fun q hq => ?_)
  simp only [List.mem_cons, List.not_mem_nil, or_false] at hq
  subst hq
  exact hp
end
end Go.Proofs.Z.Sp

namespace Go.Proofs.Z.Sp
open Go Go.RowKit Go.Proofs Go.Ri Go.Proofs.Z
open Go.Proofs.Z.W (tfr tto tlen skp byteIn)
open Go.Proofs.Z.Ps (plc tokS' tokS_eq wd phrase cl updP earP earM ER isV seqV wWhole wComma wordsA wordsC wordsH wordsS phr nt vc)
open Go.Proofs.Z.Fa
/-! The specification's ear: the loop. -/
/-- The runs that a place for the answer's names needs. -/
structure ERuns (o : Nat) : Prop where
  fin : (all2 fun ou => allU 12 fun p => allU 5 fun v => eEnd o p v ou) = true
  twice : (allU 12 fun p => allU 5 fun v => eTwice o p v) = true
  bad : (all2 fun ou => allU 4 fun c => allU 2 fun e => allU 3 fun v => eBad o c e v ou) = true
  whole : eWhole o = true
  none : eNone o = true
theorem runs1 : ERuns 100 := ⟨e_end, e_twice, e_bad, e_whole, e_none⟩
theorem runs2 : ERuns 200 := ⟨e_end2, e_twice2, e_bad2, e_whole2, e_none2⟩
theorem okV_t {p v : Nat} {b : Bool} (h1 : 1 ≤ v) (h2 : v < vc p) (h : okV p v b = true) : b = true := Ps.wT p v b h1 h2 _ h
theorem nt_le (p : Nat) : 1 ≤ nt p ∧ nt p ≤ 3 := by
  rcases Ps.nt_cases p with h | h | h <;> omega
def EPhi (s : ByteArray) (r : SR) (f : Nat) (_ : Unit) (c : Nm) : Prop := ∃ n t, n ≤ 80000 ∧ cnt s.data.toList - n < f ∧ smM s.data.toList f n t = r ∧ c = qnm s n t 0 0
section
variable {s : ByteArray} {V : Val} {o : Nat} {r : SR} (hA : AnsS V o r) (hL : V.L 0 = tkAll s) (h90 : V.I 90 = (s.data.toList.length : Int)) (hR : ERuns o)
include hA hL h90 hR
theorem e_bad_step {n k : Nat} {t : Nat → Int} (W : Nat → Value) (hn : n ≤ 80000) (hph : phrase s.data.toList (plc s.data.toList 0 n) = (none, k)) (hr : (⟨t, (tfr s.data.toList (plc s.data.toList 0 (n + k)) : Nat), 3, n + k⟩ : SR) = r) {base : Nat} {w0 : World} {E0 : Env} (hE : E0.length = 1) {nx : Unit → Nm → Prop} :
    StepE fREar (hbB eO) (hbK eO) ePat base w0 E0 (DE V base w0 E0 (rR o) lH) nx () (qnm s n t 0 0) W := by
  obtain ⟨c, d, v, hc, hd, hv, rfl, hin, hT⟩ := bad_ok' (a := 0) (e := 0) (t := t) W hph
  obtain ⟨ou, hou⟩ : ∃ ou, (!decide (n + badK c < cnt s.data.toList)) = ou := ⟨_, rfl⟩
  rw [hou] at hT
  have hk2 : badK c ≤ 2 := by unfold badK; split <;> omega
  have hin' : ∀ j, j < (if ou then badK c else badK c + 1) → n + j < cnt s.data.toList := fun j hj => by
    cases ou with
    | true => exact hin j hj
    | false =>
      have hj : j < badK c + 1 := hj
      have h1 : n + badK c < cnt s.data.toList := by simpa using hou
      omega
  have hno : ou = true → ¬ n + (if ou then badK c else badK c + 1) < cnt s.data.toList := fun h => by
    subst h
    have : ¬ n + badK c < cnt s.data.toList := by simpa using hou
    exact this
  have hm : (if ou then badK c else badK c + 1) ≤ 3 ∨ ((if ou then badK c else badK c + 1) ≤ 4 ∧ ou = false) := .inl (by split <;> omega)
  have hp := pE_ok (t := t) (a := 0) (e := 0) W (r := badR c d v ou) (by unfold badR badF; cases ou <;> (split <;> rfl)) rfl (allU_lt (allU_lt (allU_lt (all2_all p_bad ou) c hc) d hd) v hv) (by omega) rfl hT hm hin' hno
  refine stepE_out (wT (if ou then badK c else badK c + 1) ou [] (badR c d v ou)) [] (wT_ok W (by omega) rfl (fun q hq => by cases hq) hm hin' hno hp) V _ (rR o) lH 1 hE (allU_lt (allU_lt (allU_lt (all2_all hR.bad ou) c hc) d hd) v hv) rfl ?_
  refine ou_hold hA (by rw [← hr]; exact row_same W) hL h90 ?_ ?_ (by rw [← hr]; rfl)
  · rw [← hr]
    exact congrArg (Value.int .i64) (q_N (badK c) (by omega))
  · rw [← hr]
    cases ou with
    | true =>
      have h1 := (tok_out s.data.toList (n + badK c) (by simpa using hou)).1
      show Value.int .i64 (s.data.toList.length : Int) = .int .i64 (tfr s.data.toList (plc s.data.toList 0 (n + badK c)) : Nat)
      rw [h1]
    | false => exact congrArg (Value.int .i64) (q_F (badK c) (by omega))
theorem e_good_step {n k p v f : Nat} {t : Nat → Int} (W : Nat → Value) (hn : n ≤ 80000) (hph : phrase s.data.toList (plc s.data.toList 0 n) = (some (p, v), k)) (hr : smM s.data.toList (f + 1) n t = r) {base : Nat} {w0 : World} {E0 : Env} (hE : E0.length = 1) {nx : Unit → Nm → Prop}
    (hnx : Ps.tok s.data.toList (plc s.data.toList 0 (n + k)) = wComma → smM s.data.toList f (n + k + 1) (updP t p v) = r → nx () (qnm s (n + k + 1) (updP t p v) 0 0)) :
    StepE fREar (hbB eO) (hbK eO) ePat base w0 E0 (DE V base w0 E0 (rR o) lH) nx () (qnm s n t 0 0) W := by
  obtain ⟨rfl, hp, h1, h2, hf, hin⟩ := phr_ok' (a := 0) (e := 0) (t := t) W hph
  have hv5 := Ps.vc5' h2
  have hnt := nt_le p
  rw [smM_some hph] at hr
  have hro : rok2 0 (goodR p v) = true := by
    unfold goodR ftR
    split
    · rfl
    · split
      · rfl
      · split <;> rfl
  have hpE := pE_ok (t := t) (a := 0) (e := 0) W (r := goodR p v) (T := phr p v) (m := nt p) (o := false) hro rfl (okV_t h1 h2 (allU_lt (allU_lt p_good p hp) v hv5)) (by omega) rfl hf (.inl (by omega)) hin (fun h => by cases h)
  by_cases hz : t p = 0
  · rw [if_pos hz] at hr
    have hzb : (t p == 0) = true := by rw [hz]; rfl
    have hzF := zF_ok (s := s) (n := n) (t := t) (a := 0) (e := 0) W p hp true hzb
    by_cases hc : Ps.tok s.data.toList (plc s.data.toList 0 (n + nt p)) = wComma
    · rw [if_pos hc] at hr
      have hlt : n + nt p < cnt s.data.toList := tok_in (by rw [hc]; exact List.cons_ne_nil _ _)
      have hin' : ∀ j, j < nt p + 1 → n + j < cnt s.data.toList := fun j hj => by omega
      have hcl := cnt_len s.data.toList
      have hT : ∀ q, q ∈ zF p true :: isV (nt p + 1) wComma true → @TETrue ((qnm s n t 0 0).val W) q := fun q hq => by
        rcases List.mem_cons.1 hq with rfl | hq
        · exact hzF
        · rw [Nat.add_comm] at hq
          exact q_is W (nt p) (by rw [hc]; exact beq_self_eq_true _) q hq
      refine stepE_again (wT (nt p + 1) false (zF p true :: isV (nt p + 1) wComma true) (goodR p v)) [] (wT_ok W (by omega) rfl hT (.inr ⟨by omega, rfl⟩) hin' (fun h => by cases h) hpE) (agS p v) [0, 1, 2, 3, 4] (by rw [hE]; rfl) () _ (okV_t h1 h2 (allU_lt (allU_lt e_again p hp) v hv5)) ?_ (hnx hc hr)
      intro W'
      have hrow := row_up (s := s) (n := n) (t := t) (a := 0) (e := 0) W p v h1
      have hnew := row_same (s := s) (n := n + nt p + 1) (t := updP t p v) (a := 0) (e := 0) W'
      have hI : ∀ j, j < 9 → okSE ((qnm s n t 0 0).val W) ((qnm s (n + nt p + 1) (updP t p v) 0 0).val W') (.int (20 + j) (upV p v j)) := fun j hj => ⟨.i64, _, hrow.i j hj, q_t j hj⟩
      have hB : ∀ j, j < 3 → okSE ((qnm s n t 0 0).val W) ((qnm s (n + nt p + 1) (updP t p v) 0 0).val W') (.bool (20 + (9 + j)) (upV p v (9 + j))) := fun j hj => ⟨_, hrow.b j hj, by rw [show 20 + (9 + j) = 29 + j by omega]; exact q_b j⟩
      refine holds_all fun q hq => ?_
      simp only [agS, kpS, f9, f3, List.map_cons, List.map_nil, List.cons_append, List.nil_append, List.mem_cons, List.not_mem_nil, or_false] at hq
      rcases hq with rfl | rfl | rfl | rfl | rfl | rfl | rfl | rfl | rfl | rfl | rfl | rfl | rfl | rfl | rfl | rfl | rfl
      · exact (rfl : tkAll s = tkAll s)
      · refine ⟨.i64, ((n + nt p + 1 : Nat) : Int), ?_, q_N 0 (by omega)⟩
        rw [show 11 + nt p = 10 + (nt p + 1) by omega]
        exact congrArg (Value.int .i64) (q_N (nt p + 1) (by omega))
      · exact ⟨.i64, (s.data.toList.length : Int), rfl, rfl⟩
      · exact ⟨.i64, 0, rfl, rfl⟩
      · exact ⟨.i64, 0, rfl, rfl⟩
      · exact hI 0 (by omega)
      · exact hI 1 (by omega)
      · exact hI 2 (by omega)
      · exact hI 3 (by omega)
      · exact hI 4 (by omega)
      · exact hI 5 (by omega)
      · exact hI 6 (by omega)
      · exact hI 7 (by omega)
      · exact hI 8 (by omega)
      · exact hB 0 (by omega)
      · exact hB 1 (by omega)
      · exact hB 2 (by omega)
    · rw [if_neg hc] at hr
      obtain ⟨ou, hou⟩ : ∃ ou, (!decide (n + nt p < cnt s.data.toList)) = ou := ⟨_, rfl⟩
      have hin' : ∀ j, j < (if ou then nt p else nt p + 1) → n + j < cnt s.data.toList := fun j hj => by
        cases ou with
        | true => exact hin j hj
        | false =>
          have hj : j < nt p + 1 := hj
          have h1 : n + nt p < cnt s.data.toList := by simpa using hou
          omega
      have hno : ou = true → ¬ n + (if ou then nt p else nt p + 1) < cnt s.data.toList := fun h => by
        subst h
        have : ¬ n + nt p < cnt s.data.toList := by simpa using hou
        exact this
      have hm : (if ou then nt p else nt p + 1) ≤ 3 ∨ ((if ou then nt p else nt p + 1) ≤ 4 ∧ ou = false) := by
        cases ou with
        | true => exact .inl hnt.2
        | false => exact .inr ⟨by show nt p + 1 ≤ 4; omega, rfl⟩
      have hT : ∀ q, q ∈ zF p true :: (if ou then [] else isV (nt p + 1) wComma false) → @TETrue ((qnm s n t 0 0).val W) q := fun q hq => by
        rcases List.mem_cons.1 hq with rfl | hq
        · exact hzF
        · cases ou with
          | true => cases hq
          | false =>
            have hq : q ∈ isV (nt p + 1) wComma false := hq
            rw [Nat.add_comm] at hq
            exact q_is W (nt p) (beq_eq_false_iff_ne.2 hc) q hq
      refine stepE_out (wT (if ou then nt p else nt p + 1) ou (zF p true :: if ou then [] else isV (nt p + 1) wComma false) (goodR p v)) [] (wT_ok W (by omega) rfl hT hm hin' hno hpE) V _ (rR o) lH 1 hE (okV_t h1 h2 (allU_lt (allU_lt (all2_all hR.fin ou) p hp) v hv5)) rfl ?_
      refine ou_hold hA (by rw [← hr]; exact row_up W p v h1) hL h90 ?_ (by rw [← hr]; rfl) (by rw [← hr]; rfl)
      rw [← hr]
      exact congrArg (Value.int .i64) (q_N (nt p) (by omega))
  · rw [if_neg hz] at hr
    have hzF := zF_ok (s := s) (n := n) (t := t) (a := 0) (e := 0) W p hp false (beq_eq_false_iff_ne.2 hz)
    refine stepE_out (wT (nt p) false [zF p false] (goodR p v)) [] (wT_ok W (by omega) rfl (fun q hq => by
      simp only [List.mem_cons, List.not_mem_nil, or_false] at hq
      subst hq
      exact hzF) (.inl (by omega)) hin (fun h => by cases h) hpE) V _ (rR o) lH 1 hE (okV_t h1 h2 (allU_lt (allU_lt hR.twice p hp) v hv5)) rfl ?_
    refine ou_hold hA (by rw [← hr]; exact row_same W) hL h90 ?_ ?_ (by rw [← hr]; rfl)
    · rw [← hr]
      exact congrArg (Value.int .i64) (q_N (nt p) (by omega))
    · rw [← hr]
      exact congrArg (Value.int .i64) (q_F 0 (by omega))
end
/-- An ear as an entry: the state's names from q on, the answer's from o on. -/
def qAr (q : Nat) : List RV := [.agg [.slN 0 0 2, sI q, sI 90, sI (q + 1), sI (q + 2)]]
def earE (S : List SE) (q o : Nat) : WE := ⟨fREar, S, qAr q, 0, 150, rR o⟩
theorem arg_to {V V' : Val} {q : Nat} {ep : EP} {vs : List Value} (hL : V'.L 0 = V.L 0) (h10 : V'.I 10 = V.I q) (h90 : V'.I 90 = V.I 90) (h50 : V'.I 50 = V.I (q + 1)) (h51 : V'.I 51 = V.I (q + 2)) (h : All2 (@VRel V [ep]) (qAr q) vs) : All2 (@VRel V' [ep]) pAr vs := by
  cases h with
  | cons h1 h2 =>
    cases h2
    refine .cons ?_ .nil
    obtain ⟨l', rfl, hl⟩ := h1
    refine ⟨l', rfl, (@VRels_iff V' ..).2 ?_⟩
    revert hl
    generalize l'.toList = L
    intro hl
    replace hl := (@VRels_iff V ..).1 hl
    cases hl with
    | cons g1 hl =>
    cases hl with
    | cons g2 hl =>
    cases hl with
    | cons g3 hl =>
    cases hl with
    | cons g4 hl =>
    cases hl with
    | cons g5 hl =>
    cases hl
    obtain ⟨p, n, k1, k2, k3, k4, k5⟩ := g1
    refine .cons ⟨p, n, k1, k2, ?_, k4, k5⟩ (.cons ?_ (.cons ?_ (.cons ?_ (.cons ?_ .nil))))
    · rw [show @Val.L V' 0 = @Val.L V 0 from hL]
      exact k3
    · exact (show _ = Value.int .i64 (V.I q) from g2).trans (by rw [← h10]; rfl)
    · exact (show _ = Value.int .i64 (V.I 90) from g3).trans (by rw [← h90]; rfl)
    · exact (show _ = Value.int .i64 (V.I (q + 1)) from g4).trans (by rw [← h50]; rfl)
    · exact (show _ = Value.int .i64 (V.I (q + 2)) from g5).trans (by rw [← h51]; rfl)
theorem inv_to {V V' : Val} {w : World} {ep : EP} {e : TypeId} (hL : V'.L 0 = V.L 0) (H : @HInv V ro w.heap.size w [ep] [some (.lst 0 e false)] w) : @HInv V' ro w.heap.size w [ep] [some (.lst 0 e false)] w :=
  ⟨Below.refl _ _, Nat.le_refl _, rfl, @HInv.roIn V _ _ _ _ _ _ H, fun b o hb => by
    cases b with
    | zero =>
      cases hb
      obtain ⟨p, hp, g1, cur, fr, g2, g3, g4, g5⟩ := @HInv.blk V _ _ _ _ _ _ H 0 _ rfl
      exact ⟨p, hp, g1, cur, fr, g2, g3, by rw [show @Val.L V' 0 = @Val.L V 0 from hL]; exact g4, g5⟩
    | succ n =>
      unfold at? at hb
      simp at hb, fun b1 b2 o1 o2 p1 p2 g1 g2 g3 _ _ _ _ => by
    cases b1 with
    | zero =>
      cases g1
      cases g3
    | succ n =>
      unfold at? at g1
      simp at g1⟩
/-- THE EAR. -/
theorem ear_we {V : Val} {s : ByteArray} {n q o : Nat} {r : SR} {S : List SE} (hS : Holds S V V) (hsz : s.data.toList.length ≤ 70000) (hn : n ≤ 80000) (hr : smP s.data.toList n = r) (hA : AnsS V o r) (hL : V.L 0 = tkAll s) (h90 : V.I 90 = (s.data.toList.length : Int)) (hq : V.I q = (n : Int)) (hq1 : V.I (q + 1) = 0) (hq2 : V.I (q + 2) = 0) (hR : ERuns o) : @WETrue V (earE S q o) := by
  refine ⟨hS, rfl, fun w ep vs H hv => ?_⟩
  have hV' : ∀ t, @HInv ((qnm s n t 0 0).val fun _ => undef) ro w.heap.size w [ep] lH w ∧ All2 (@VRel ((qnm s n t 0 0).val fun _ => undef) [ep]) pAr vs := fun t =>
    ⟨inv_to (show tkAll s = V.L 0 from hL.symm) H, arg_to (show tkAll s = V.L 0 from hL.symm) (show ((n + (10 - 10) : Nat) : Int) = V.I q by rw [hq]; rfl) (show (s.data.toList.length : Int) = _ from h90.symm) (show (0 : Int) = _ from hq1.symm) (show (0 : Int) = _ from hq2.symm) hv⟩
  have hfin : ∀ x w', DE V w.heap.size w [ep] (rR o) lH x w' → ∃ v, x = .returned v ∧ @VRel V [ep] (rR o) v ∧ Below w.heap.size w w' := fun x w' ⟨v, h1, h2, h3⟩ => ⟨v, h1, h2, @HInv.below V _ _ _ _ _ _ h3⟩
  have hcl := cnt_len s.data.toList
  by_cases hlt : n < cnt s.data.toList
  · have hin : ∀ k, k < 1 → n + k < cnt s.data.toList := fun k hk => by omega
    by_cases hw : Ps.tok s.data.toList (plc s.data.toList 0 n) = wWhole
    · have hr' : r = ⟨fun _ => 0, 0, 0, n + 1⟩ := by rw [← hr]; unfold smP; rw [if_pos hw]
      obtain ⟨g1, g2⟩ := hV' fun _ => 0
      refine (doneH_calls ((qnm s n (fun _ => 0) 0 0).val fun _ => undef) V (t := gT 1 false (isV 1 wWhole true)) (gT_ok _ (by omega) rfl (q_is _ 0 (by rw [Nat.add_zero, hw]; exact beq_self_eq_true _)) (.inl (by omega)) hin (fun h => by cases h)) hR.whole rfl ?_ w.heap.size w [ep] rfl w g1 vs g2).mono hfin
      refine ou_hold hA (by rw [hr']; exact row_zero _) hL h90 ?_ (by rw [hr']; rfl) (by rw [hr']; rfl)
      rw [hr']
      exact congrArg (Value.int .i64) (q_N 1 (by omega))
    · have hr' : smM s.data.toList (s.data.toList.length + 1) n (fun _ => 0) = r := by rw [← hr]; unfold smP; rw [if_neg hw]
      obtain ⟨g1, g2⟩ := hV' fun _ => 0
      refine Calls.mono (fn_loopE (κ := Unit) (qnm s n (fun _ => 0) 0 0) (fun _ => undef) (gT 1 false (isV 1 wWhole false)) [] fREar pAr lH ePat (EPhi s r) (gT_ok _ (by omega) rfl (q_is _ 0 (by rw [Nat.add_zero]; exact beq_eq_false_iff_ne.2 hw)) (.inl (by omega)) hin (fun h => by cases h)) enS [0, 1, 2, 3, 5] () (s.data.toList.length + 1) e_enter (qnm s n (fun _ => 0) 0 0) ?_ ⟨n, fun _ => 0, hn, by omega, hr', rfl⟩ w.heap.size w [ep] rfl (DE V w.heap.size w [ep] (rR o) lH) ?_ w g1 vs g2) hfin
      · intro W'
        refine holds_all fun y hy => ?_
        simp only [enS, kpS, f9, f3, List.map_cons, List.map_nil, List.cons_append, List.nil_append, List.mem_cons, List.not_mem_nil, or_false] at hy
        rcases hy with rfl | rfl | rfl | rfl | rfl | rfl | rfl | rfl | rfl | rfl | rfl | rfl | rfl | rfl | rfl | rfl | rfl
        · rfl
        all_goals first | exact ⟨.i64, _, rfl, rfl⟩ | exact ⟨false, rfl, rfl⟩
      · rintro f u c ⟨n', t', hn', hf', hr2, rfl⟩ W
        cases f with
        | zero => omega
        | succ f =>
          obtain ⟨o', k, hph⟩ : ∃ o k, phrase s.data.toList (plc s.data.toList 0 n') = (o, k) := ⟨_, _, rfl⟩
          cases o' with
          | none => exact e_bad_step hA hL h90 hR W hn' hph (by rw [← hr2, smM_none hph]) rfl
          | some pv =>
            obtain ⟨p, v⟩ := pv
            refine e_good_step hA hL h90 hR W hn' hph hr2 rfl fun hc hr3 => ⟨f, Nat.lt_succ_self f, _, _, ?_, ?_, hr3, rfl⟩
            · have : n' + k < cnt s.data.toList := tok_in (by rw [hc]; exact List.cons_ne_nil _ _)
              omega
            · have : n' + k < cnt s.data.toList := tok_in (by rw [hc]; exact List.cons_ne_nil _ _)
              omega
  · have ht := tok_out s.data.toList n hlt
    have hph : phrase s.data.toList (plc s.data.toList 0 n) = (none, 0) := by
      unfold phrase
      rw [ht.2]
      rfl
    have hw : Ps.tok s.data.toList (plc s.data.toList 0 n) ≠ wWhole := by rw [ht.2]; exact (List.cons_ne_nil _ _).symm
    have hr' : r = ⟨fun _ => 0, (s.data.toList.length : Int), 3, n⟩ := by
      rw [← hr]
      unfold smP
      rw [if_neg hw, smM_none hph, Nat.add_zero, ht.1]
    obtain ⟨g1, g2⟩ := hV' fun _ => 0
    have hno : true = true → ¬ n + 0 < cnt s.data.toList := fun _ => hlt
    have hp := pE_ok (s := s) (n := n) (t := fun _ => 0) (a := 0) (e := 0) (fun _ => undef) (m := 0) (o := true) (T := badT 0 0 0 true) (r := badR 0 0 0 true) rfl rfl (allU_lt (allU_lt (allU_lt (all2_all p_bad true) 0 (by omega)) 0 (by omega)) 0 (by omega)) (by omega) rfl (fun q hq => by cases hq) (.inl (by omega)) (fun k hk => by omega) hno
    refine (doneH_calls ((qnm s n (fun _ => 0) 0 0).val fun _ => undef) V (t := wT 0 true [] (badR 0 0 0 true)) (plan := [true]) (wT_ok _ (by omega) rfl (fun q hq => by cases hq) (.inl (by omega)) (fun k hk => by omega) hno hp) hR.none rfl ?_ w.heap.size w [ep] rfl w g1 vs g2).mono hfin
    refine ou_hold hA (by rw [hr']; exact row_zero _) hL h90 ?_ (by rw [hr']; rfl) (by rw [hr']; rfl)
    rw [hr']
    exact congrArg (Value.int .i64) (q_N 0 (by omega))
end Go.Proofs.Z.Sp
