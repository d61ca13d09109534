/- A part of the proofs that the laws of layer eight answer true for every input. -/
import Derived.Test.YtjeikabpnplogaaZCB
namespace Go.Proofs.Z
open Go Go.RowKit Go.Proofs Go.Ri Go.Proofs.Z.Fa
/-! Encode of both packages: contracts. -/
def seB (se : Nat → Int) (k : Nat) : List UInt8 := (List.range k).flatMap fun i => numBs (se i)
theorem seB_succ (se : Nat → Int) (k : Nat) : seB se (k + 1) = seB se k ++ numBs (se k) := by
  unfold seB
  rw [List.range_succ, List.flatMap_append]
  simp
theorem seB_len (se : Nat → Int) : ∀ k, (seB se k).length = 8 * k
  | 0 => rfl
  | k + 1 => by
    rw [seB_succ, List.length_append, seB_len se k, numBs_len]
    omega
theorem numBs_get (x : Int) {j : Nat} (hj : j < 8) : (numBs x)[j]? = some (byB (qd x j)) := by
  unfold numBs
  rw [List.getElem?_map, List.getElem?_range hj]
  rfl
theorem seB_get (se : Nat → Int) : ∀ N k, k < 8 * N → (seB se N)[k]? = some (byB (qd (se (k / 8)) (k % 8)))
  | 0, k, h => by omega
  | N + 1, k, h => by
    rw [seB_succ]
    rcases Nat.lt_or_ge k (8 * N) with h1 | h1
    · rw [List.getElem?_append_left (by rw [seB_len]; exact h1)]
      exact seB_get se N k h1
    · rw [List.getElem?_append_right (by rw [seB_len]; exact h1), seB_len, numBs_get _ (by omega), show k / 8 = N by omega, show k - 8 * N = k % 8 by omega]
def coreL (p n x : Int) (s : ByteArray) : List UInt8 := preL p n x s.size ++ s.data.toList
def encL (p n x : Int) (s : ByteArray) (se : Nat → Int) : List UInt8 := coreL p n x s ++ seB se 16
theorem coreL_len (p n x : Int) (s : ByteArray) : (coreL p n x s).length = 12 + s.size := by
  have hlen : s.data.toList.length = s.size := rfl
  unfold coreL
  rw [List.length_append, preL_len, hlen]
theorem encL_len (p n x : Int) (s : ByteArray) (se : Nat → Int) : (encL p n x s se).length = 12 + s.size + 128 := by
  unfold encL
  rw [List.length_append, coreL_len, seB_len]
def ecI (p n x : Int) (m : Nat) (se : Nat → Int) (k : Nat) : Int := if k = 0 then x else if k = 50 then p else if k = 51 then n else if k = 54 then (m : Int) else if k < 1000 then se (k - 300) else if k < 2000 then qd (se ((k - 1000) / 8)) ((k - 1000) % 8) % 256 else qd (se ((k - 2000) / 16)) ((k - 2000) % 16)
def ecS (p n x : Int) (s : ByteArray) (se : Nat → Int) (k : Nat) : ByteArray := if k = 1 then s else if k = 2 then ba (coreL p n x s) else if k = 4 then ba (encL p n x s se) else if k < 40 then ba (numBs (se (k - 20))) else ba (coreL p n x s ++ seB se (k - 40))
def ecL (p n x : Int) (s : ByteArray) (se : Nat → Int) (k : Nat) : List Value := if k < 500 then vals (coreL p n x s) else vals (coreL p n x s ++ (seB se 16).take (k - 500))
def ecNm (p n x : Int) (s : ByteArray) (se : Nat → Int) : Nm := ⟨ecI p n x s.size se, fun _ => false, ecS p n x s se, ecL p n x s se⟩
abbrev ecV (p n x : Int) (s : ByteArray) (se : Nat → Int) : Val := (ecNm p n x s se).val fun _ => undef
theorem vals_one {l : List UInt8} {v : Value} (h : v ∈ vals l) : v.oneCell' = true := by
  obtain ⟨y, _, rfl⟩ := List.mem_map.1 h
  rfl
/-- Tests of an entry, under any names. -/
theorem ecX_true [Val] {p n : Int} {s : ByteArray} {c : Nat} (e50 : cv (sI 50) = .int .i64 p) (e51 : cv (sI 51) = .int .i64 n) (e54 : cv (sI 54) = .int .i64 (s.size : Nat)) (hS : cv (sT 1) = .string s) (hc : eCls p n s.size = c) : ∀ e, e ∈ ecT c → TETrue e := by
  intro e he
  obtain ⟨i, hi, he⟩ := List.mem_flatMap.1 he
  subst hc
  have hi : i < Nat.min (eCls p n s.size + 1) 5 := List.mem_range.1 hi
  have h1 : i < eCls p n s.size + 1 := Nat.lt_of_lt_of_le hi (Nat.min_le_left _ _)
  have h2 : i < 5 := Nat.lt_of_lt_of_le hi (Nat.min_le_right _ _)
  have hq : Nat.blt i (eCls p n s.size) = eTest p n s.size i := by
    rcases Nat.lt_or_ge i (eCls p n s.size) with hl | hl
    · rw [firstBad_pass (eTest p n s.size) 5 0 i (Nat.zero_le _) hl]
      exact Nat.ble_eq_true_of_le hl
    · obtain rfl : i = eCls p n s.size := by omega
      rw [show eTest p n s.size (eCls p n s.size) = false from firstBad_fail (eTest p n s.size) 5 0 (by show eCls p n s.size < 0 + 5; omega)]
      have := Nat.lt_irrefl (eCls p n s.size)
      exact Bool.eq_false_iff.2 fun hc => this (Nat.le_of_ble_eq_true hc)
  rw [hq] at he
  have key : ∀ e, e ∈ ect i (eTest p n s.size i) → TETrue e := by
    match i, h2 with
    | 0, _ => exact fa (f_geq e50 rfl rfl) fz
    | 1, _ => exact fa (f_leq e50 rfl rfl) (fa (f_lss e50 rfl (decide_eq_decide.2 (by show p < 8 ↔ p ≤ 7; omega))) fz)
    | 2, _ => exact fa (f_geq e51 rfl rfl) fz
    | 3, _ => exact fa (f_leq e51 rfl rfl) (fa (f_lss e51 rfl (decide_eq_decide.2 (by show n < 64 ↔ n ≤ 63; omega))) fz)
    | 4, _ => exact fa (f_len (s := s) hS e54 rfl) (fa (f_leq e54 rfl (decide_eq_decide.2 (by show (s.size : Int) ≤ 4096 ↔ s.size ≤ 4096; omega))) (fa (f_gtr e54 rfl (by show decide ((s.size : Int) > 4096) = !decide (s.size ≤ 4096); rw [← decide_not]; exact decide_eq_decide.2 (by omega))) fz))
  exact key e he
section
variable {p n x : Int} {s : ByteArray} {se : Nat → Int}
theorem core_ansV (q : Bool) (V0 : Val) (hL : V0.L (coL q) = vals (coreL p n x s)) (hq : q = s.data.toList.isEmpty) (hs : s.size ≤ 4096) : @AnsQ V0 fCore [entVal p n x s se] (.slN 0 (coL q) 1) (coH q) := by
  have ht := coA_ok (p := p) (n := n) (x := x) (se := se) (h := 0) (d := 0) q hq hs
  have hE := ent_cv (p := p) (n := n) (x := x) (s := s) (se := se) (h := 0) (d := 0)
  intro w hr
  have hA := @nval_flat (enV p n x s se 0 0) w [entR] rfl
  rw [show [entR].map (@cvF (enV p n x s se 0 0)) = [entVal p n x s se] from congrArg (fun z => [z]) hE] at hA
  cases q
  · exact done_calls _ V0 ht core_b rfl (holds_all (fa hL fz)) w hr _ hA
  · refine done_calls _ V0 ht core_a rfl (holds_all (fa ?_ fz)) w hr _ hA
    have h0 : s.data.toList = [] := List.isEmpty_iff.1 hq.symm
    show V0.L 110 = enL p n x s 110
    rw [show V0.L 110 = _ from hL, enL_110]
    unfold coreL
    rw [h0, List.append_nil]
theorem ecI_se (i : Nat) (hi : i < 16) : ecI p n x s.size se (300 + i) = se i := by
  unfold ecI
  rw [if_neg (by omega), if_neg (by omega), if_neg (by omega), if_neg (by omega), if_pos (by omega), Nat.add_sub_cancel_left]
theorem ec_cv : @cvF (ecV p n x s se) entR = entVal p n x s se := by
  show Value.agg ((([sI 50, sI 51, sU 0, sT 1] : List RV) ++ (List.range 16).map fun i => sU (300 + i)).map (@cv (ecV p n x s se))).toArray = _
  rw [List.map_append, List.map_map]
  unfold entVal
  have hm : (List.range 16).map ((@cv (ecV p n x s se)) ∘ fun i => sU (300 + i)) = (List.range 16).map fun i => Value.int .u64 (se i) := List.map_congr_left fun i hi => by
    show Value.int .u64 (ecI p n x s.size se (300 + i)) = _
    rw [ecI_se i (List.mem_range.1 hi)]
  rw [hm]
  rfl
theorem seN_cv {i j : Nat} (hi : i < 16) (hj : j ≤ 8) : @cv (ecV p n x s se) (seN i j) = .int .u64 (qd (se i) j) := by
  unfold seN
  split
  · rename_i h0
    subst h0
    exact congrArg (Value.int .u64) (show ecI p n x s.size se (300 + i) = se i from ecI_se i hi)
  · refine congrArg (Value.int .u64) (show ecI p n x s.size se (2000 + 16 * i + j) = qd (se i) j from ?_)
    unfold ecI
    rw [if_neg (by omega), if_neg (by omega), if_neg (by omega), if_neg (by omega), if_neg (by omega), if_neg (by omega), show (2000 + 16 * i + j - 2000) / 16 = i by omega, show (2000 + 16 * i + j - 2000) % 16 = j by omega]
theorem seb_cv {k : Nat} (hk : k < 128) : @cv (ecV p n x s se) (s8 (1000 + k)) = .int .u8 (qd (se (k / 8)) (k % 8) % 256) := by
  refine congrArg (Value.int .u8) (show ecI p n x s.size se (1000 + k) = _ from ?_)
  unfold ecI
  rw [if_neg (by omega), if_neg (by omega), if_neg (by omega), if_neg (by omega), if_neg (by omega), if_pos (by omega), Nat.add_sub_cancel_left]
theorem sxT_true : ∀ e, e ∈ sxT → @TETrue (ecV p n x s se) e := by
  intro e he
  obtain ⟨i, hi, he⟩ := List.mem_flatMap.1 he
  obtain ⟨j, hj, he⟩ := List.mem_flatMap.1 he
  have hi := List.mem_range.1 hi
  have hj := List.mem_range.1 hj
  have e0 := seN_cv (p := p) (n := n) (x := x) (s := s) (se := se) (i := i) (j := j) hi (by omega)
  have e1 := seN_cv (p := p) (n := n) (x := x) (s := s) (se := se) (i := i) (j := j + 1) hi (by omega)
  have e2 := seb_cv (p := p) (n := n) (x := x) (s := s) (se := se) (k := 8 * i + j) (by omega)
  rw [show (8 * i + j) / 8 = i by omega, show (8 * i + j) % 8 = j by omega] at e2
  letI : Val := ecV p n x s se
  refine (fa (f_conv e0 e2 rfl) (fa (f_shr (k := 8) e0 (by omega) ?_ ?_) fz)) e he
  · rw [e1, Int.fdiv_eq_ediv_of_nonneg _ (by omega)]
    rfl
  · show flat0 (seN i (j + 1)) = true
    unfold seN
    rw [if_neg (by omega)]
    rfl
theorem ecL_at (k : Nat) : ecL p n x s se (500 + k) = vals (coreL p n x s ++ (seB se 16).take k) := by
  unfold ecL
  rw [if_neg (by omega), Nat.add_sub_cancel_left]
theorem sxLA_true (q : Bool) (hs : s.size ≤ 4096) : ∀ e, e ∈ sxLA (coL q) → @LATrue (ecV p n x s se) e := by
  intro e he
  obtain ⟨k, hk, rfl⟩ := List.mem_map.1 he
  have hk := List.mem_range.1 hk
  have h0 : ecL p n x s se (if k = 0 then coL q else 500 + k) = vals (coreL p n x s ++ (seB se 16).take k) := by
    split
    · rename_i h0
      subst h0
      rw [List.take_zero, List.append_nil]
      cases q <;> rfl
    · exact ecL_at k
  have h1 : ecL p n x s se (500 + (k + 1)) = vals (coreL p n x s ++ (seB se 16).take k) ++ [@cv (ecV p n x s se) (s8 (1000 + k))] := by
    rw [ecL_at, List.take_add_one, seB_get se 16 k (by omega), seb_cv hk, ← byB_is, ← List.append_assoc, vals_app]
    rfl
  refine ⟨?_, ?_, ?_⟩
  · show ecL p n x s se (500 + (k + 1)) = ecL p n x s se (if k = 0 then coL q else 500 + k) ++ [@cv (ecV p n x s se) (s8 (1000 + k))]
    rw [h1, h0]
  · show (ecL p n x s se (500 + (k + 1))).length ≤ 1000000
    rw [ecL_at]
    unfold vals
    rw [List.length_map, List.length_append, coreL_len, List.length_take]
    omega
  · intro v hv
    have hv : v ∈ ecL p n x s se (if k = 0 then coL q else 500 + k) := hv
    rw [h0] at hv
    exact vals_one hv
theorem encOf_a (hs : s.size ≤ 4096) : Ans fEncOf [entVal p n x s se] (.string (ba (encL p n x s se))) := by
  have ht : @TbOK (ecV p n x s se) (ecA s.data.toList.isEmpty) := by
    have hQ : @AnsQ (ecV p n x s se) fCore ([entR].map (@cvF (ecV p n x s se))) (.slN 0 (coL s.data.toList.isEmpty) 1) (coH s.data.toList.isEmpty) := by
      rw [show [entR].map (@cvF (ecV p n x s se)) = [entVal p n x s se] from congrArg (fun z => [z]) ec_cv]
      refine core_ansV _ _ ?_ rfl hs
      cases s.data.toList.isEmpty <;> rfl
    have hB : @BSTrue (ecV p n x s se) (4, 628) := by
      show ecL p n x s se 628 = vals (encL p n x s se)
      rw [show (628 : Nat) = 500 + 128 from rfl, ecL_at, List.take_of_length_le (by rw [seB_len]; omega)]
      rfl
    have hT := sxT_true (p := p) (n := n) (x := x) (s := s) (se := se)
    have hA := sxLA_true (p := p) (n := n) (x := x) (s := s) (se := se) s.data.toList.isEmpty hs
    letI : Val := ecV p n x s se
    exact { T := hT, Q := fa hQ fz, LA := hA, BS := fa hB fz }
  refine done_val _ ht (all2_all ec_a _) rfl (holds_all (fa ⟨_, rfl, rfl⟩ fz)) rfl rfl fun w => ?_
  have h := @nval_flat (ecV p n x s se) w [entR] rfl
  rw [show [entR].map (@cvF (ecV p n x s se)) = [entVal p n x s se] from congrArg (fun z => [z]) ec_cv] at h
  exact h
end
/-- Eight bytes of a number. -/
theorem bytes_ans {x : Int} (h0 : 0 ≤ x) (h1 : x < 18446744073709551616) : Ans fByts [.int .u64 x, .int .i64 8] (.string (ba (numBs x))) := by
  have hN := @numT_true ((imNm x 0).val fun _ => undef) x hI_q hI_b h0 h1
  have hB := @numB_cv ((imNm x 0).val fun _ => undef) x hI_b
  have ht : @TbOK ((imNm x 0).val fun _ => undef) byA := by
    letI : Val := (imNm x 0).val fun _ => undef
    exact { T := hN, MS := fa (ms_is hB (by kernel_rfl) rfl) fz }
  exact done_val _ ht by_run rfl (holds_all (fa ⟨_, rfl, rfl⟩ fz)) rfl rfl (fun w => .cons rfl (.cons rfl .nil))
section
variable {p n x : Int} {s : ByteArray} {se : Nat → Int}
theorem soN_cv {i : Nat} (hi : i ≤ 16) : @cv (ecV p n x s se) (soN i) = .string (ba (coreL p n x s ++ seB se i)) := by
  unfold soN
  split
  · rename_i h0
    subst h0
    show Value.string (ba (coreL p n x s)) = Value.string (ba (coreL p n x s ++ []))
    rw [List.append_nil]
  · split
    · rename_i h1
      subst h1
      rfl
    · refine congrArg Value.string (show ecS p n x s se (40 + i) = _ from ?_)
      unfold ecS
      rw [if_neg (by omega), if_neg (by omega), if_neg (by omega), if_neg (by omega), Nat.add_sub_cancel_left]
theorem encode_b (hp : 0 ≤ p ∧ p ≤ 7) (hn : 0 ≤ n ∧ n ≤ 63) (hx : 0 ≤ x ∧ x < 18446744073709551616) (hse : ∀ i, i < 16 → 0 ≤ se i ∧ se i < 18446744073709551616) (hs : s.size ≤ 4096) : Ans fREnc0 [entVal p n x s se] (.string (ba (encL p n x s se))) := by
  have hc := rcore_ans (p := p) (n := n) (x := x) (s := s) (se := se) (h := 0) (d := 0) ⟨hp.1, by omega⟩ ⟨hn.1, by omega⟩ hx hs
  rw [show [entR].map (@cvF (enV p n x s se 0 0)) = [entVal p n x s se] from congrArg (fun z => [z]) ent_cv] at hc
  have b20 : ∀ i, i < 16 → @cv (ecV p n x s se) (sT (20 + i)) = .string (ba (numBs (se i))) := fun i hi => by
    refine congrArg Value.string (show ecS p n x s se (20 + i) = _ from ?_)
    unfold ecS
    rw [if_neg (by omega), if_neg (by omega), if_neg (by omega), if_pos (by omega), Nat.add_sub_cancel_left]
  have ht : @TbOK (ecV p n x s se) ecB := by
    have y0 : Ans fRCore ([entR].map (@cvF (ecV p n x s se))) (@cvF (ecV p n x s se) (sT 2)) := by
      rw [show [entR].map (@cvF (ecV p n x s se)) = [entVal p n x s se] from congrArg (fun z => [z]) ec_cv]
      exact hc
    have y1 : ∀ e, e ∈ ((List.range 16).map fun i => (⟨fByts, [sU (300 + i), lI 8], sT (20 + i)⟩ : YE)) → Ans e.f (e.a.map (@cvF (ecV p n x s se))) (@cvF (ecV p n x s se) e.r) := by
      intro e he
      obtain ⟨i, hi, rfl⟩ := List.mem_map.1 he
      have hi := List.mem_range.1 hi
      show Ans fByts [Value.int .u64 (ecI p n x s.size se (300 + i)), .int .i64 8] (@cv (ecV p n x s se) (sT (20 + i)))
      rw [ecI_se i hi, b20 i hi]
      exact bytes_ans (hse i hi).1 (hse i hi).2
    have t1 : ∀ e, e ∈ ((List.range 16).map fun i => (⟨.bin .add, soN i, sT (20 + i), soN (i + 1)⟩ : TE)) → @TETrue (ecV p n x s se) e := by
      intro e he
      obtain ⟨i, hi, rfl⟩ := List.mem_map.1 he
      have hi := List.mem_range.1 hi
      refine @f_app (ecV p n x s se) _ _ _ _ _ _ (soN_cv (i := i) (by omega)) (b20 i hi) (soN_cv (i := i + 1) (by omega)) ?_ (by rw [seB_succ, List.append_assoc]) ?_
      · unfold soN
        split
        · rfl
        · split <;> rfl
      · rw [List.length_append, coreL_len, seB_len, numBs_len]
        omega
    letI : Val := ecV p n x s se
    exact { T := t1, Y := fa y0 y1 }
  refine done_val _ ht ec_b rfl (holds_all (fa ⟨_, rfl, rfl⟩ fz)) rfl rfl fun w => ?_
  have h := @nval_flat (ecV p n x s se) w [entR] rfl
  rw [show [entR].map (@cvF (ecV p n x s se)) = [entVal p n x s se] from congrArg (fun z => [z]) ec_cv] at h
  exact h
def e0F (q : Bool) : Nat := if q then fEncOf else fREnc0
theorem enc0_ans (q : Bool) (hc : eCls p n s.size = 5) (hx : 0 ≤ x ∧ x < 18446744073709551616) (hse : ∀ i, i < 16 → 0 ≤ se i ∧ se i < 18446744073709551616) : Ans (e0F q) [entVal p n x s se] (.string (ba (encL p n x s se))) := by
  obtain ⟨a, b, c, e, f⟩ := eCls_in hc
  cases q
  · exact encode_b ⟨a, b⟩ ⟨c, e⟩ hx hse f
  · exact encOf_a f
end
end Go.Proofs.Z
