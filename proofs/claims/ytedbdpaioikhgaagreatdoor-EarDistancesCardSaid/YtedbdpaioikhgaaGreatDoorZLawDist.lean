/- A part of the proofs that the laws of layer one answer true for every input. -/
import Derived.Test.YtedbdpaioikhgaaGreatDoorZRm10
import Derived.Test.YtedbdpaioikhgaaGreatDoorZRm11
import Derived.Test.YtedbdpaioikhgaaGreatDoorZRm12
import Derived.Test.YtedbdpaioikhgaaGreatDoorZRm13
import Derived.Test.YtedbdpaioikhgaaGreatDoorZRDist2
import Derived.Test.YtedbdpaioikhgaaGreatDoorZIn0
import Derived.Test.YtedbdpaioikhgaaGreatDoorZSane
namespace Go.Proofs.Z
open Go Go.RowKit Go.Proofs Go.Ri W
/-! The specification's Neighbours: the rounds. -/
section
variable (x : Nat → Int) (y : Nat → Bool)
/-- The neighbours so far, in their order. -/
def rSo (k j : Nat) : List (Nat × Nat) := W.srt (shp x y) (nbL (shp x y) k ++ ((nbA (shp x y) k).take j).map fun v => (k, v))
structure RD where
  l : Nat → List Value
def rN (z : RD) : Nm := ⟨fun j => if j < 20 then x j else shp x y (j - 20), y, fun _ => ⟨#[]⟩, fun i => z.l i⟩
structure ROK (z : RD) (k : Nat) : Prop where
  l : ∀ i, z.l i = cellsN (shp x y) (rSo x y k (i - 1))
theorem rd_ex (k : Nat) : ∃ z, ROK x y z k := ⟨⟨fun i => cellsN (shp x y) (rSo x y k (i - 1))⟩, ⟨fun _ => rfl⟩⟩
abbrev rVal (z : RD) (W : Nat → Value) : Val := (rN x y z).val W
theorem r_I (z : RD) (j : Nat) : (rN x y z).I (20 + j) = shp x y j := by
  show (if 20 + j < 20 then _ else shp x y (20 + j - 20)) = _
  rw [if_neg (by omega), Nat.add_sub_cancel_left]
theorem bit_shp (j : Nat) : bitY (shp x y) j = y j := by
  show (!(shp x y (9 + j) == 0)) = y j
  unfold shp
  rw [if_neg (by omega), Nat.add_sub_cancel_left]
  cases y j <;> rfl
theorem r_earL (z : RD) (k v : Nat) (hk : k < 12) (W : Nat → Value) : (rearS k v).map (@cv (rVal x y z W)) = encN (shp x y) (k, v) := by
  have b0 := bit_shp x y 0
  have b1 := bit_shp x y 1
  have b2 := bit_shp x y 2
  have s : ∀ j, j < 9 → shp x y j = x j := fun j hj => if_pos hj
  have e : encN (shp x y) (k, v) = [.int .i64 (stw (shp x y) (k, v) 0), .int .i64 (stw (shp x y) (k, v) 1), .int .i64 (stw (shp x y) (k, v) 2), .int .i64 (stw (shp x y) (k, v) 3), .int .i64 (stw (shp x y) (k, v) 4), .int .i64 (stw (shp x y) (k, v) 5), .int .i64 (stw (shp x y) (k, v) 6), .int .i64 (stw (shp x y) (k, v) 7), .int .i64 (stw (shp x y) (k, v) 8), .bool (if k = 9 then !(Nat.beq v 0) else y 0), .bool (if k = 10 then !(Nat.beq v 0) else y 1), .bool (if k = 11 then !(Nat.beq v 0) else y 2)] := by
    unfold encN earC
    have bb : ∀ j, bitY (stw (shp x y) (k, v)) j = if k = 9 + j then !(Nat.beq v 0) else y j := fun j => by
      unfold bitY stw
      by_cases h : k = 9 + j
      · rw [if_pos h, if_pos h.symm, vb]
      · rw [if_neg h, if_neg (fun z => h z.symm)]
        exact bit_shp x y j
    rw [bb, bb, bb]
  rw [e]
  match k, hk with
  | 0, _ => rfl
  | 1, _ => rfl
  | 2, _ => rfl
  | 3, _ => rfl
  | 4, _ => rfl
  | 5, _ => rfl
  | 6, _ => rfl
  | 7, _ => rfl
  | 8, _ => rfl
  | 9, _ => rfl
  | 10, _ => rfl
  | 11, _ => rfl
theorem r_ear (z : RD) (k v : Nat) (hk : k < 12) (W : Nat → Value) : @cvF (rVal x y z W) (.agg (rearS k v)) = earF (stw (shp x y) (k, v)) (bitY (stw (shp x y) (k, v))) := by
  show Value.agg ((rearS k v).map (@cv (rVal x y z W))).toArray = _
  rw [r_earL x y z k v hk W]
  rfl
theorem rCh_mem (k : Nat) : ∀ (l : List Nat) (i : Nat) (e : QE), e ∈ rCh k l i → ∃ j v, j < l.length ∧ l[j]? = some v ∧ e = ⟨fPut, [.slN 0 (i + j) 12, .agg (rearS k v)], .slN 0 (i + j + 1) 12, [some (.lst (i + j + 1) 25 true)]⟩
  | [], _, _, h => by cases h
  | v :: l, i, e, h => by
    rcases List.mem_cons.1 h with rfl | h
    · exact ⟨0, v, Nat.succ_pos _, rfl, rfl⟩
    · obtain ⟨j, v', h1, h2, rfl⟩ := rCh_mem k l (i + 1) e h
      refine ⟨j + 1, v', by simpa using h1, by simpa using h2, ?_⟩
      rw [show i + 1 + j = i + (j + 1) by omega]
theorem rSo_len (k j : Nat) : (rSo x y k j).length ≤ 5 * k + 5 := by
  unfold rSo
  rw [(W.srt_perm _ _).length_eq, List.length_append, List.length_map, List.length_take]
  have := nbL_len (shp x y) k
  have := nbA_len (shp x y) k
  omega
theorem rSo_next (k j v : Nat) (h : (nbA (shp x y) k)[j]? = some v) : rSo x y k (j + 1) = W.ins (shp x y) (k, v) (rSo x y k j) := by
  unfold rSo
  rw [List.take_add_one, h, Option.toList_some, List.map_append, ← List.append_assoc]
  exact W.srt_app _ _ _
theorem rTb_ok (hv : valB x = true) (k : Nat) (hk : k < 12) (z : RD) (Z : ROK x y z k) (W : Nat → Value) : @TbOK (rVal x y z W) (rTb k (pv (shp x y) k) (msk (shp x y) k (vc k)) (nbL (shp x y) k).isEmpty) := by
  have H := shp_row x y hv
  have hZ := Z.l
  letI : Val := rVal x y z W
  refine { T := ?_, Y := ?_, U := ?_ }
  · intro e he
    obtain ⟨v, hv, rfl⟩ := List.mem_map.1 he
    refine ⟨rfl, ?_⟩
    show TCTrue .ieq (.int .i64 (v : Int)) (.int .i64 ((rN x y z).I (20 + k))) (.bool (Nat.beq v (pv (shp x y) k)))
    rw [r_I, ← pv_eq H hk, show (Nat.beq v (pv (shp x y) k)) = ((v : Int) == ((pv (shp x y) k : Nat) : Int)) by
      cases h : Nat.beq v (pv (shp x y) k) with
      | true =>
        have := Nat.eq_of_beq_eq_true h
        rw [this]
        simp
      | false =>
        have : v ≠ pv (shp x y) k := fun e => by rw [e] at h; simp at h
        have : (v : Int) ≠ ((pv (shp x y) k : Nat) : Int) := by omega
        simp [this]]
    exact t_ieq .i64 _ _
  · intro e he
    rcases List.mem_cons.1 he with rfl | he
    · have := get_ans x y k hk
      rw [show @cvF (rVal x y z W) (sI (20 + k)) = intV (k12 x y k) by
        show Value.int .i64 ((rN x y z).I (20 + k)) = _
        rw [r_I, k12_shp]
        rfl]
      exact this
    · obtain ⟨v, hv1, rfl⟩ := List.mem_map.1 he
      obtain ⟨hv2, hv3⟩ := List.mem_filter.1 hv1
      have hvl := rng_mem.1 hv2
      show Ans fValid [@cvF (rVal x y z W) (.agg (rearS k v))] (.bool (nbit (msk (shp x y) k (vc k)) v))
      rw [r_ear x y z k v hk W]
      have hb : nbit (msk (shp x y) k (vc k)) v = valB (stw (shp x y) (k, v)) := by
        rw [msk_bit _ k v (vc k) hvl]
        unfold mskB
        have : (v : Int) ≠ shp x y k := by
          rw [← pv_eq H hk]
          intro e
          have e : v = pv (shp x y) k := by omega
          rw [e] at hv3
          simp at hv3
        rw [decide_eq_true this, Bool.true_and]
      rw [hb]
      exact val_ans (stw (shp x y) (k, v)) _
  · refine qdU_ok _ _ ?_ ?_
    · intro d hd
      split at hd
      · rename_i hnl
        have hnl : nbL (shp x y) k = [] := by simpa using hnl
        have hm : ∀ l, nbA (shp x y) k = l → d ∈ rD k l → z.l d.1 = d.2.map (@cv (rVal x y z W)) := fun l hl hd => by
          cases l with
          | nil => cases hd
          | cons v l =>
            obtain rfl := List.mem_singleton.1 (show d ∈ [(2, rearS k v)] from hd)
            show z.l 2 = (rearS k v).map _
            rw [hZ, r_earL x y z k v hk W, rSo_next x y k 0 v (by rw [hl]; rfl)]
            have : rSo x y k 0 = [] := by
              unfold rSo
              rw [hnl, List.take_zero]
              rfl
            rw [this]
            show encN (shp x y) (k, v) ++ [] = _
            rw [List.append_nil]
        exact hm _ rfl hd
      · cases hd
    · intro e he
      obtain ⟨j, v, h1, h2, rfl⟩ := rCh_mem k _ _ e he
      have hlen := rSo_len x y k j
      refine put_any ((rSo x y k j).map (stw (shp x y))) (stw (shp x y) (k, v)) (by rw [List.length_map]; omega) (rVal x y z W) (1 + j) (1 + j + 1) (rearS k v) ?_ (r_ear x y z k v hk W) ?_
      · show z.l (1 + j) = _
        rw [hZ, show 1 + j - 1 = j by omega, cellsN_rows]
      · show z.l (1 + j + 1) = _
        rw [hZ, show 1 + j + 1 - 1 = j + 1 by omega, rSo_next x y k j v h2, cellsN_rows, ins_rows]
theorem rIds_ok (z z' : RD) (W W' : Nat → Value) : ∀ e, e ∈ rIds → okSE (rVal x y z W) (rVal x y z' W') e := by
  intro e he
  rcases List.mem_append.1 he with he | he
  · obtain ⟨j, _, rfl⟩ := List.mem_map.1 he
    exact ⟨.i64, _, rfl, rfl⟩
  · obtain ⟨j, _, rfl⟩ := List.mem_map.1 he
    exact ⟨_, rfl, rfl⟩
theorem rSE_ok (k : Nat) (hk : k < 12) (z z' : RD) (Z : ROK x y z k) (Z' : ROK x y z' (k + 1)) (W W' : Nat → Value) : Holds (rSE k (pv (shp x y) k) (msk (shp x y) k (vc k)) (nbL (shp x y) k).isEmpty) (rVal x y z W) (rVal x y z' W') := by
  have hnew : z'.l 1 = cellsN (shp x y) (rSo x y k (nbA (shp x y) k).length) := by
    rw [Z'.l]
    unfold rSo
    rw [Nat.sub_self, List.take_zero, List.map_nil, List.append_nil, List.take_length]
    rfl
  have hlst : z'.l 1 = z.l (1 + (nbA (shp x y) k).length) := by rw [hnew, Z.l, Nat.add_sub_cancel_left]
  refine holds_all fun e he => ?_
  rcases List.mem_append.1 he with he | he
  · split at he
    · rename_i hnl
      have hnl : nbL (shp x y) k = [] := by simpa using hnl
      have hm : ∀ l, nbA (shp x y) k = l → (e ∈ (match l with | [] => [] | [v] => [SE.new 1 (rearS k v)] | l => [.lst 1 (1 + l.length)])) → okSE (rVal x y z W) (rVal x y z' W') e := fun l hl he => by
        match l, hl with
        | [], _ => cases he
        | [v], hl =>
          obtain rfl := List.mem_singleton.1 (show e ∈ [SE.new 1 (rearS k v)] from he)
          show z'.l 1 = (rearS k v).map (@cv (rVal x y z W))
          rw [hnew, hl, r_earL x y z k v hk W]
          unfold rSo
          rw [hnl, hl]
          show encN (shp x y) (k, v) ++ [] = _
          rw [List.append_nil]
        | v :: v' :: l', hl =>
          obtain rfl := List.mem_singleton.1 (show e ∈ [SE.lst 1 (1 + (v :: v' :: l').length)] from he)
          show z'.l 1 = z.l (1 + (v :: v' :: l').length)
          rw [← hl]
          exact hlst
      exact hm _ rfl he
    · obtain rfl := List.mem_singleton.1 he
      exact hlst
  · exact rIds_ok x y z z' W W' e he
theorem r_run (k p m : Nat) (nl : Bool) (hk : k < 12) (hp : p < vc k) (hm : m < 2 ^ vc k) (hb : nbit m p = false) : rAgain k p m nl = true := by
  have hv5 : vc k ≤ 5 := by
    unfold vc
    split
    · omega
    · split <;> omega
  have h32 : m < 32 := Nat.lt_of_lt_of_le hm (Nat.pow_le_pow_right (by decide) hv5)
  have h1 : rOne k p m = true := by
    by_cases h0 : k < 1
    · have := allU_lt (allU_lt (allU_lt r_all0 k h0) p (by omega)) m h32
      rwa [Nat.zero_add] at this
    · by_cases h5 : k < 5
      · have := allU_lt (allU_lt (allU_lt r_all1 (k - 1) (by omega)) p (by omega)) m h32
        rwa [show 1 + (k - 1) = k by omega] at this
      · by_cases h9 : k < 9
        · have := allU_lt (allU_lt (allU_lt r_all2 (k - 5) (by omega)) p (by omega)) m h32
          rwa [show 5 + (k - 5) = k by omega] at this
        · have := allU_lt (allU_lt (allU_lt r_all3 (k - 9) (by omega)) p (by omega)) m h32
          rwa [show 9 + (k - 9) = k by omega] at this
  unfold rOne at h1
  have e : (Nat.blt p (vc k) && Nat.blt m (2 ^ vc k) && !(nbit m p)) = true := by
    rw [hb, Bool.not_false, Bool.and_true, Bool.and_eq_true]
    exact ⟨Nat.ble_eq_true_of_le hp, Nat.ble_eq_true_of_le hm⟩
  rw [e] at h1
  exact all2_all h1 nl
theorem rneigh_ans (hv : valB x = true) (V : Val) (hj : V.L 0 = cellsN (shp x y) (nbS x y)) : @AnsQ V fRNeigh [earF x y] (.tup [.slN 0 0 12, lI 0]) [some (.lst 0 25 true)] := by
  have H := shp_row x y hv
  obtain ⟨z0, Z0⟩ := rd_ex x y 0
  intro w hr
  refine fn_loop (κ := Nat) (rN x y z0) (fun _ => undef) rStart [] fRNeigh [.agg nbE] (fun k => rpat k (nbL (shp x y) k).isEmpty) (fun m k c => k ≤ 12 ∧ m = 12 - k ∧ ∃ z, ROK x y z k ∧ c = rN x y z) ?_ rIds [0] 0 12 r_enter (rN x y z0) (fun W' => holds_all (rIds_ok x y z0 z0 _ W')) ⟨Nat.zero_le _, rfl, z0, Z0, rfl⟩ (DQ V (.tup [.slN 0 0 12, lI 0]) [some (.lst 0 25 true)]) ?_ w hr [earF x y] (@nval_flat ((rN x y z0).val fun _ => undef) w [.agg nbE] rfl)
  · letI : Val := (rN x y z0).val fun _ => undef
    refine { Y := ?_ }
    intro e he
    obtain rfl := List.mem_singleton.1 (show e ∈ [(⟨fValid, [.agg nbE], bR true⟩ : YE)] from he)
    have := val_ans x y
    rw [hv] at this
    exact this
  · rintro w m k c ⟨hk, rfl, z, Z, rfl⟩ W1
    by_cases hlt : k < 12
    · have hp := pv_lt H hlt
      have hb : nbit (msk (shp x y) k (vc k)) (pv (shp x y) k) = false := by
        rw [msk_bit _ k _ (vc k) hp]
        unfold mskB
        rw [decide_eq_false (by rw [pv_eq H hlt]; simp), Bool.false_and]
      have hrun := r_run k (pv (shp x y) k) (msk (shp x y) k (vc k)) (nbL (shp x y) k).isEmpty hlt hp (msk_lt _ _ _) hb
      have hne : (nbL (shp x y) (k + 1)).isEmpty = ((nbL (shp x y) k).isEmpty && (nbV k (pv (shp x y) k) (msk (shp x y) k (vc k))).isEmpty) := by
        rw [nbL]
        show _ = ((nbL (shp x y) k).isEmpty && (nbA (shp x y) k).isEmpty)
        cases nbL (shp x y) k <;> cases nbA (shp x y) k <;> rfl
      obtain ⟨z', Z'⟩ := rd_ex x y (k + 1)
      refine step_to (rTb k (pv (shp x y) k) (msk (shp x y) k (vc k)) (nbL (shp x y) k).isEmpty) [true] (rTb_ok x y hv k hlt z Z W1) (rSE k (pv (shp x y) k) (msk (shp x y) k (vc k)) (nbL (shp x y) k).isEmpty) (rR k (pv (shp x y) k) (msk (shp x y) k (vc k)) (nbL (shp x y) k).isEmpty) (k + 1) (rN x y z') ?_ (fun W' => rSE_ok x y k hlt z z' Z Z' W1 W') ⟨12 - (k + 1), by omega, hlt, rfl, z', Z', rfl⟩
      show againT _ _ _ _ _ _ _ (rpat (k + 1) (nbL (shp x y) (k + 1)).isEmpty) = true
      rw [hne]
      exact hrun
    · obtain rfl : k = 12 := by omega
      have he : (nbL (shp x y) 12).isEmpty = false := by
        cases h : (nbL (shp x y) 12).isEmpty with
        | false => rfl
        | true => exact absurd (by simpa using h) (nbL_last H)
      have hout := r_out
      rw [← he] at hout
      refine step_outQ {} [] (tb0 _) V [.lst 0 1] [1] (.tup [.slN 0 0 12, lI 0]) [some (.lst 0 25 true)] hout rfl ?_
      refine holds_all fun e he => ?_
      obtain rfl := List.mem_singleton.1 he
      show V.L 0 = z.l 1
      rw [hj, Z.l]
      unfold rSo nbS
      rw [Nat.sub_self, List.take_zero, List.map_nil, List.append_nil]
theorem rneigh_bad (hv : valB x = false) : Ans fRNeigh [earF x y] (.tuple #[.slice none 0 0, .int .i64 10]) := by
  obtain ⟨z0, _⟩ := rd_ex x y 0
  let V : Val := (rN x y z0).val fun _ => undef
  refine @ans_dq V _ _ _ [] fun w hr => done_calls V V (t := { Y := [⟨fValid, [.agg nbE], bR false⟩] }) (plan := []) (ds := [.agg nbE]) ?_ r_bad rfl ⟨(fun j r h => by cases h), (fun j r h => by cases h), (fun j r h => by cases h), (fun j r h => by cases h), (fun j r h => by cases h)⟩ w hr [earF x y] (@nval_flat V w [.agg nbE] rfl)
  letI : Val := V
  refine { Y := ?_ }
  intro e he
  obtain rfl := List.mem_singleton.1 (show e ∈ [(⟨fValid, [.agg nbE], bR false⟩ : YE)] from he)
  have := val_ans x y
  rw [hv] at this
  exact this
end
end Go.Proofs.Z

namespace Go.Proofs.Z
open Go Go.RowKit Go.Proofs Go.Ri W
/-! Two slices that hold one list of ears. -/
abbrev fSameEars : Nat := 43
def seN (ts : List (Nat → Int)) (i : Nat) : Nm := ⟨fun j => if j = 0 then (i : Int) else if j = 1 then (ts.length : Int) else if j = 6 then (i : Int) + 1 else (ts.getD i fun _ => 0) (j - 20), fun j => bitY (ts.getD i fun _ => 0) (j - 20), fun _ => ⟨#[]⟩, fun _ => rowsC ts⟩
noncomputable def seTb (b : Bool) : Tb := { LL := [⟨0, 12, sI 1⟩], T := [⟨.bin .lss, sI 0, sI 1, bR b⟩, ⟨.inb, sI 0, sI 1, bR b⟩, ⟨.bin .add, sI 0, lI 1, sI 6⟩], LX := if b then [⟨0, 0, e12⟩] else [] }
noncomputable def seDs : List RV := [.slN 0 0 12, .slN 0 0 12]
noncomputable def sePat (_ : Unit) : St := ⟨patW [(0, .slA 0 0 12), (1, .slA 1 0 12), (5, sI 0)] 26 0, [some (.lstA 0), some (.lstA 0)]⟩
noncomputable def seEnter : Tb := { LL := [⟨0, 12, sI 1⟩] }
set_option maxRecDepth 100000 in
theorem se_enter : enterT seEnter [] fSameEars seDs [.int 0 (lI 0), .lst 0 0] [0, 1] (sePat ()) = true := by kernel_rfl
set_option maxRecDepth 100000 in
theorem se_again : againT (seTb true) [] (hB seEnter [] fSameEars seDs) (hK seEnter [] fSameEars seDs) (sePat ()) [.int 0 (sI 6), .lst 0 0] [0, 1] (sePat ()) = true := by kernel_rfl
set_option maxRecDepth 100000 in
theorem se_out : outF (seTb false) [] fSameEars (hB seEnter [] fSameEars seDs) (hK seEnter [] fSameEars seDs) (sePat ()) (bR true) = true := by kernel_rfl
theorem sameE_ans (V : Val) (k : Nat) (ts : List (Nat → Int)) (hL : V.L k = rowsC ts) (hb : ts.length ≤ 1000000) : @AnsN V fSameEars [.slN 0 k 12, .slN 0 k 12] (.bool true) := by
  intro w hr vs hv
  have tb : ∀ i, i ≤ ts.length → ∀ W b, b = decide (i < ts.length) → @TbOK ((seN ts i).val W) (seTb b) := by
    intro i hi W b hb'
    letI : Val := (seN ts i).val W
    refine { LL := ?_, T := ?_, LX := ?_ }
    · intro e he
      simp only [seTb, List.mem_cons, List.not_mem_nil, or_false] at he
      rcases he with rfl | rfl | rfl
      · refine te_lss 0 1 b ?_
        show decide ((i : Int) < (ts.length : Int)) = b
        rw [hb']
        simp
      · refine te_inb 0 1 b ?_
        show decide (0 ≤ (i : Int) ∧ (i : Int) < (ts.length : Int)) = b
        rw [hb']
        simp
      · exact te_add1 0 6 i rfl rfl (by omega) (by omega)
    · intro e he
      simp only [seTb, List.mem_cons, List.not_mem_nil, or_false] at he
      subst he
      exact ⟨rfl, ts.length, Nat.succ_pos 11, rowsC_len ts, rfl⟩
    · intro e he
      cases b with
      | false => cases he
      | true =>
        have hlt : i < ts.length := by simpa using hb'.symm
        obtain rfl := List.mem_singleton.1 (show e ∈ [(⟨0, 0, e12⟩ : LEE)] from he)
        refine ⟨rfl, ?_, ?_⟩
        · show ((i : Int)).toNat * 12 + 12 ≤ (rowsC ts).length
          rw [rowsC_len, Int.toNat_natCast]
          omega
        · show ((rowsC ts).drop (((i : Int)).toNat * 12)).take 12 = _
          rw [Int.toNat_natCast, rowsC_row ts i hlt]
          have e : ts[i] = ts.getD i fun _ => 0 := by rw [List.getD_eq_getElem?_getD, List.getElem?_eq_getElem hlt]; rfl
          rw [e]
          rfl
  refine fn_loop (κ := Unit) (seN ts 0) (fun _ => undef) seEnter [] fSameEars seDs sePat (fun m _ c => ∃ i, i ≤ ts.length ∧ m = ts.length - i ∧ c = seN ts i) ?_ [.int 0 (lI 0), .lst 0 0] [0, 1] () ts.length se_enter (seN ts 0) ?_ ⟨0, Nat.zero_le _, rfl, rfl⟩ (DF (.bool true)) ?_ w hr vs ?_
  · letI : Val := (seN ts 0).val fun _ => undef
    refine { LL := ?_ }
    intro e he
    obtain rfl := List.mem_singleton.1 (show e ∈ [(⟨0, 12, sI 1⟩ : LNE)] from he)
    exact ⟨rfl, ts.length, Nat.succ_pos 11, rowsC_len ts, rfl⟩
  · intro W'
    refine holds_all fun e he => ?_
    simp only [List.mem_cons, List.not_mem_nil, or_false] at he
    rcases he with rfl | rfl
    · exact ⟨.i64, 0, rfl, rfl⟩
    · rfl
  · rintro w m k c ⟨i, hi, rfl, rfl⟩ W1
    by_cases hlt : i < ts.length
    · refine step_to (seTb true) [] (tb i hi W1 true (by simp [hlt])) [.int 0 (sI 6), .lst 0 0] [0, 1] () (seN ts (i + 1)) se_again ?_ ⟨ts.length - (i + 1), by omega, i + 1, hlt, rfl, rfl⟩
      intro W'
      refine holds_all fun e he => ?_
      simp only [List.mem_cons, List.not_mem_nil, or_false] at he
      rcases he with rfl | rfl
      · exact ⟨.i64, (i : Int) + 1, rfl, rfl⟩
      · rfl
    · exact step_outF (seTb false) [] (tb i hi W1 false (by simp [hlt])) (bR true) se_out rfl
  · cases hv with
    | cons h1 h2 =>
      cases h2 with
      | cons h2 h3 =>
        cases h3
        obtain ⟨a, m, cap, g1, g2, g3, g4, g5, g6⟩ := h1
        obtain ⟨a', m', cap', k1, k2, k3, k4, k5, k6⟩ := h2
        rw [hL] at g2 g4 g6 k2 k4 k6
        exact .cons ⟨a, m, cap, g1, g2, g3, g4, g5, g6⟩ (.cons ⟨a', m', cap', k1, k2, k3, k4, k5, k6⟩ .nil)
end Go.Proofs.Z

namespace Go.Proofs.Z
open Go Go.RowKit Go.Proofs Go.Ri W
/-! The law EarDistances. -/
abbrev fEarDistances : Nat := 6
def badN : RV := .pl (.tuple #[.slice none 0 0, .int .i64 10])
noncomputable def dlY (v p q : Bool) : List YE := [⟨fDist, [earR 0, earR 40], dOk p 80⟩, ⟨fRDist, [earR 0, earR 40], dOk p 80⟩, ⟨fMDist, [markR 0 20, markR 40 60], dOk q 84⟩, ⟨fRMDist, [markR 0 20, markR 40 60], dOk q 84⟩] ++ if v then [] else [⟨fNeigh, [earR 0], badN⟩, ⟨fRNeigh, [earR 0], badN⟩]
noncomputable def dlTb (v p q : Bool) : Tb := { X := saneX, Y := dlY v p q, Q := if v then [⟨fNeigh, [earR 0], .tup [.slN 0 1 12, lI 0], [some (.lst 1 25 true)]⟩, ⟨fRNeigh, [earR 0], .tup [.slN 0 1 12, lI 0], [some (.lst 1 25 true)]⟩] else [], C := if v then [⟨fSameEars, [.slN 0 1 12, .slN 0 1 12], bR true⟩] else [] }
noncomputable def dlDs : List RV := [markR 0 20, markR 40 60]
set_option maxRecDepth 100000 in
theorem dl_run : (all2 fun v => all2 fun p => all2 fun q => doneQ (dlTb v p q) [true] fEarDistances dlDs [] [] (bR true) []) = true := by kernel_rfl
theorem sanexD : XTrue saneX := by
  intro f vs v h
  unfold saneX at h
  split at h
  · split at h
    · rename_i hf
      cases h
      have hf := Nat.eq_of_beq_eq_true hf
      rw [hf]
      exact sane_ans
    · cases h
  · cases h
theorem rneigh_list (x : Nat → Int) (y : Nat → Bool) (hv : valB x = true) (V : Val) (i : Nat) (hL : V.L i = cellsN (shp x y) (nbS x y)) : @AnsQ V fRNeigh [earF x y] (.tup [.slN 0 i 12, lI 0]) [some (.lst i 25 true)] :=
  @ansQ_list V ⟨fun _ => 0, fun _ => false, fun _ => ⟨#[]⟩, fun _ => ⟨.int .i64 0, rfl⟩, fun _ => V.L i, fun _ => undef⟩ _ _ _ _ (rneigh_ans x y hv _ hL) rfl
structure DlD where
  n80 : Nat
  n84 : Nat
  l1 : List Value
section
variable (a b c d : Nat → Int) (e f g h : Nat → Bool) (z : DlD)
def dlN : Nm := ⟨fun j => if j < 20 then a j else if j < 40 then b (j - 20) else if j < 60 then c (j - 40) else if j < 80 then d (j - 60) else if j = 80 then (z.n80 : Int) else (z.n84 : Int),
  fun j => if j < 20 then e j else if j < 40 then f (j - 20) else if j < 60 then g (j - 40) else h (j - 60), fun _ => ⟨#[]⟩, fun _ => z.l1⟩
structure DlOK : Prop where
  n80 : dcn (shp a e) (shp c g) 12 = z.n80
  n84 : dcn (shp a e) (shp c g) 12 + dcn (shp b f) (shp d h) 12 = z.n84
  l1 : z.l1 = cellsN (shp a e) (nbS a e)
theorem dl_ex : ∃ z, DlOK a b c d e f g h z := by
  generalize h1 : dcn (shp a e) (shp c g) 12 = n1
  generalize h2 : n1 + dcn (shp b f) (shp d h) 12 = n2
  generalize h4 : cellsN (shp a e) (nbS a e) = l1
  exact ⟨⟨n1, n2, l1⟩, ⟨h1, by rw [h1]; exact h2, h4.symm⟩⟩
theorem dOk_RV (V : Val) (p : Bool) (i n : Nat) (hi : V.I i = n) : @cvF V (dOk p i) = if p then .tuple #[intV n, intV 0] else .tuple #[intV 0, intV 10] := by
  cases p with
  | false => rfl
  | true =>
    show Value.tuple #[.int .i64 (V.I i), .int .i64 0] = _
    rw [hi]
    rfl
variable {a b c d e f g h z} (Z : DlOK a b c d e f g h z)
include Z
theorem dlTb_ok : @TbOK ((dlN a b c d e f g h z).val fun _ => undef) (dlTb (valB a) (valB a && valB c) ((valB a && valB c) && (valB b && valB d))) := by
  let V : Val := (dlN a b c d e f g h z).val fun _ => undef
  letI : Val := V
  refine { X := sanexD, Y := ?_, C := ?_, Q := ?_ }
  · intro q hq
    rcases List.mem_append.1 hq with hq | hq
    · simp only [List.mem_cons, List.not_mem_nil, or_false] at hq
      rcases hq with rfl | rfl | rfl | rfl
      · have := dist_all a c e g
        unfold dV at this
        rw [Z.n80, ← dOk_RV V _ 80 z.n80 rfl] at this
        exact this
      · have h1 : Ans fRDist [earF a e, earF c g] (if (valB a && valB c) then .tuple #[intV z.n80, intV 0] else .tuple #[intV 0, intV 10]) := by
          cases hv : (valB a && valB c) with
          | true => have := rdist_ans a c e g hv; rw [Z.n80] at this; exact this
          | false => exact rdist_bad a c e g hv
        rw [← dOk_RV V _ 80 z.n80 rfl] at h1
        exact h1
      · have := mdist_ans a b c d e f g h
        rw [Z.n84, ← dOk_RV V _ 84 z.n84 rfl] at this
        exact this
      · have := rmdist_ans a b c d e f g h
        rw [Z.n84, show ((valB a && valB b) && (valB c && valB d)) = ((valB a && valB c) && (valB b && valB d)) by cases valB a <;> cases valB b <;> cases valB c <;> cases valB d <;> rfl, ← dOk_RV V _ 84 z.n84 rfl] at this
        exact this
    · cases hv : valB a with
      | true => rw [hv] at hq; cases hq
      | false =>
        rw [hv] at hq
        simp only [Bool.false_eq_true, if_false, List.mem_cons, List.not_mem_nil, or_false] at hq
        rcases hq with rfl | rfl
        · exact neigh_bad a e hv
        · exact rneigh_bad a e hv
  · intro q hq
    cases hv : valB a with
    | false => rw [hv] at hq; cases hq
    | true =>
      rw [hv] at hq
      obtain rfl := List.mem_singleton.1 (show q ∈ [(⟨fSameEars, [.slN 0 1 12, .slN 0 1 12], bR true⟩ : YE)] from hq)
      refine sameE_ans V 1 (neighL a e) (show z.l1 = _ from Z.l1.trans (cellsN_rows _ _)) ?_
      have := nbS_le a e
      rw [List.length_map]
      omega
  · intro q hq
    cases hv : valB a with
    | false => rw [hv] at hq; cases hq
    | true =>
      rw [hv] at hq
      simp only [dlTb, if_true, List.mem_cons, List.not_mem_nil, or_false] at hq
      rcases hq with rfl | rfl
      · exact neigh_list a e hv V 1 (show z.l1 = _ from Z.l1)
      · exact rneigh_list a e hv V 1 (show z.l1 = _ from Z.l1)
end
/-- THE LAW EarDistances. -/
theorem dist_law (a b c d : Nat → Int) (e f g h : Nat → Bool) (w : World) (hr : RoIn ro w) : Calls Tryz.prog fEarDistances #[markF a e b f, markF c g d h] w (fun x w' => x = .returned (.bool true) ∧ Below w.heap.size w w') := by
  obtain ⟨z, Z⟩ := dl_ex a b c d e f g h
  let V : Val := (dlN a b c d e f g h z).val fun _ => undef
  exact (done_calls V V (dlTb_ok Z) (all2_all (all2_all (all2_all dl_run (valB a)) (valB a && valB c)) ((valB a && valB c) && (valB b && valB d))) rfl ⟨(fun j r h => by cases h), (fun j r h => by cases h), (fun j r h => by cases h), (fun j r h => by cases h), (fun j r h => by cases h)⟩ w hr _ (@nval_flat V w dlDs rfl)).mono fun x w' ⟨u, E', he, hu, H⟩ => ⟨by rw [he]; exact congrArg _ hu, @HInv.below V _ _ _ _ _ _ H⟩
end Go.Proofs.Z
