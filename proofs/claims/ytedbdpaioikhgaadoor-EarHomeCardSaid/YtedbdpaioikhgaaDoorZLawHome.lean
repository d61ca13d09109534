/- A part of the proofs that the laws of layer one answer true for every input. -/
import Derived.Test.YtedbdpaioikhgaaDoorZHm0
import Derived.Test.YtedbdpaioikhgaaDoorZBt8
import Derived.Test.YtedbdpaioikhgaaDoorZEarOf
namespace Go.Proofs.Z
open Go Go.RowKit Go.Proofs Go.Ri W
/-! The law EarHome. -/
section
variable (x : Nat → Int) (y : Nat → Bool) (tu : List Value)
noncomputable def N3 (mixed rest : List Nat) (nl : List Value) : Nm :=
  let s := shp x y
  let tv := tvO tu mixed.length
  let k := tv.toNat % rest.length
  ⟨fun j => if j < 9 then x j else if j < 50 then sr s rest (j - 40) else if j < 70 then sr s (rest2 tu mixed rest) (j - 60) else if j = 100 then (mixed.length : Int) else if j = 106 then (mixed.length : Int) + 1 else if j = 152 then (rest.length : Int) else if j = 153 then (k : Int) else if j = 156 then (k : Int) + 1 else if j = 155 then tv else if j = 161 then tv else 0,
   fun j => if j < 40 then y j else if j < 50 then earY (sr s rest) (j - 40) else earY (sr s (rest2 tu mixed rest)) (j - 60), fun _ => ⟨#[]⟩,
   fun j => if j = 4 then cs s rest else if j = 9 then cs s (rest.take k) else if j = 10 then cs s (rest.drop (k + 1)) else if j = 11 then cs s (rest.take k ++ rest.drop (k + 1)) else if j = 20 then nl else tu⟩
theorem shift_bds4 {V V' : Val} {w : World} {vs : List Value} {i : Nat} (hi : V.L i = V'.L 0) (h : All2 (@Go.Ri.NVal V w) [.slN 0 i 4] vs) : All2 (@Go.Ri.NVal V' w) bds vs := shift_bds hi h
/-- Build of places in any order. -/
theorem build_places (hv : valB x = true) (ps : List Nat) (hnd : ps.Nodup) (hps : ∀ p ∈ ps, p < 12 ∧ shp x y p ≠ 0) (hl : ps.length ≤ 12) (V : Val) (i : Nat) (hi : V.L i = cs (shp x y) ps) : @AnsN V fBuild [.slN 0 i 4] (.tuple #[earF (sr (shp x y) ps) (earY (sr (shp x y) ps)), intV 0]) := by
  intro w hr vs hvs
  rw [← bV_sr x y hv hnd hps]
  let V' : Val := ((⟨fun _ => 0, fun _ => false, fun _ => ⟨#[]⟩, fun _ => cs (shp x y) ps⟩ : Nm)).val fun _ => undef
  exact build_ans V' (cs (shp x y) ps) rfl (cs_ints _ _) ps.length (cs_len _ _) (by omega) w hr vs (shift_bds (V := V) (V' := V') hi hvs)
theorem sr_step (ps : List Nat) (k : Nat) (hk : k < ps.length) (hnd : ps.Nodup) (hps : ∀ p ∈ ps, p < 12 ∧ shp x y p ≠ 0) : dcn (shp (sr (shp x y) ps) (earY (sr (shp x y) ps))) (shp (sr (shp x y) (ps.take k ++ ps.drop (k + 1))) (earY (sr (shp x y) (ps.take k ++ ps.drop (k + 1))))) 12 = 1 := by
  rw [dcn_congr 12 (shp_sr x y ps) (shp_sr x y (ps.take k ++ ps.drop (k + 1)))]
  have hsplit : ps = ps.take k ++ ps[k] :: ps.drop (k + 1) := by rw [← List.drop_eq_getElem_cons hk, List.take_append_drop]
  have hmem : ∀ p, p ∈ ps ↔ p = ps[k] ∨ p ∈ ps.take k ++ ps.drop (k + 1) := fun p => by
    conv => lhs; rw [hsplit]
    rw [List.mem_append, List.mem_cons, List.mem_append]
    constructor
    · rintro (h | h | h)
      · exact .inr (.inl h)
      · exact .inl h
      · exact .inr (.inr h)
    · rintro (h | h | h)
      · exact .inr (.inl h)
      · exact .inl h
      · exact .inr (.inr h)
  have hnot : ps[k] ∉ ps.take k ++ ps.drop (k + 1) := by
    have h2 := hnd
    rw [hsplit] at h2
    have h3 : (ps[k] :: (ps.take k ++ ps.drop (k + 1))).Nodup := (List.perm_middle.symm.nodup_iff).2 h2
    exact (List.nodup_cons.1 h3).1
  obtain ⟨h12, h0⟩ := hps ps[k] (List.getElem_mem hk)
  have := dcn_mk1 (sr (shp x y) ps) (sr (shp x y) (ps.take k ++ ps.drop (k + 1))) ps[k] (by
    unfold sr
    rw [if_pos (List.getElem_mem hk), if_neg hnot]
    exact h0) 12 (fun j _ hne => by
    unfold sr
    by_cases h : j ∈ ps
    · rw [if_pos h, if_pos (((hmem j).1 h).resolve_left hne)]
    · rw [if_neg h, if_neg (fun h2 => h ((hmem j).2 (.inr h2)))])
  rw [if_pos h12] at this
  exact this
theorem feat_list {V V' : Val} {f : FuncId} {args : List Value} {i e : Nat} (h : @AnsQ V' f args (.tup [.slN 0 0 4, lI 0]) [some (.lst 0 e true)]) (hL : V'.L 0 = V.L i) : @AnsQ V f args (.tup [.slN 0 i 4, lI 0]) [some (.lst i e true)] := by
  intro w hr
  refine (h w hr).mono fun x w' ⟨u, E, hx, hu, H⟩ => ?_
  obtain ⟨l', rfl, v, vs, e1, ⟨p, n, hp, h12, hn, hcap, rfl⟩, v2, vs2, e2, h2, h3⟩ := hu
  refine ⟨_, E, hx, ⟨l', rfl, _, vs, e1, ⟨p, n, hp, h12, by rw [← hL]; exact hn, hcap, rfl⟩, v2, vs2, e2, h2, h3⟩, ?_⟩
  refine @HInv.mk V _ _ _ _ _ _ (@HInv.below V' _ _ _ _ _ _ H) (@HInv.lb V' _ _ _ _ _ _ H) ?_ (@HInv.ro V' _ _ _ _ _ _ H) ?_ ?_
  · have := @HInv.len V' _ _ _ _ _ _ H
    exact this
  · intro b o hb
    obtain ⟨rfl, rfl⟩ := at_one hb
    obtain ⟨q, hq, hown, cur, fr, k1, k2, k3, k4⟩ := @HInv.blk V' _ _ _ _ _ _ H 0 (.lst 0 e true) rfl
    exact ⟨q, hq, hown, cur, fr, k1, k2, by rw [← hL]; exact k3, k4⟩
  · intro b b' o o' p' q' hb hb' _ _ _ _ _
    rw [(at_one hb).1, (at_one hb').1]
theorem sr_nil (s : Nat → Int) : earF (sr s []) (earY (sr s [])) = zE := rfl
theorem hmTb_ok (hv : valB x = true) (htu : u8s tu) (tn : Bool) (htn : tn = true → tu = []) (mixed rest : List Nat) (hr : rest ≠ []) (hp : (mixed ++ rest).Perm (PL x y)) (nl : List Value) (hnl : nl = cellsN (shp (sr (shp x y) rest) (earY (sr (shp x y) rest))) (nbS (sr (shp x y) rest) (earY (sr (shp x y) rest)))) (W1 : Nat → Value) : @TbOK ((N3 x y tu mixed rest nl).val W1) (hmTb (cut ((tvO tu mixed.length).toNat % rest.length) rest.length) tn) := by
  letI : Val := (N3 x y tu mixed rest nl).val W1
  have hm : mixed.length + rest.length ≤ 12 := by
    have := hp.length_eq
    rw [List.length_append] at this
    have h2 : (PL x y).length ≤ 12 := pls_len _ _
    omega
  have hnd : rest.Nodup := ((List.nodup_append.1 (hp.nodup_iff.2 (pls_nodup _ _))).2.1)
  have hps : ∀ p ∈ rest, p < 12 ∧ shp x y p ≠ 0 := fun p h => pls_mem (hp.mem_iff.1 (List.mem_append_right _ h))
  have hl : 0 < rest.length := by
    cases rest with
    | nil => exact absurd rfl hr
    | cons a b => simp
  obtain ⟨v0, v1⟩ := tvO_rng tu htu mixed.length
  have hk : (tvO tu mixed.length).toNat % rest.length < rest.length := Nat.mod_lt _ hl
  have hmod : tvO tu mixed.length % (rest.length : Int) = (((tvO tu mixed.length).toNat % rest.length : Nat) : Int) := by
    rw [Int.natCast_emod, Int.toNat_of_nonneg v0]
  have eR2 : rest2 tu mixed rest = rest.take ((tvO tu mixed.length).toNat % rest.length) ++ rest.drop ((tvO tu mixed.length).toNat % rest.length + 1) := rfl
  have eI60 : ∀ j, j < 9 → Val.I (60 + j) = sr (shp x y) (rest2 tu mixed rest) j := fun j hj => by
    show (if 60 + j < 9 then _ else if 60 + j < 50 then _ else if 60 + j < 70 then sr (shp x y) (rest2 tu mixed rest) (60 + j - 60) else _) = _
    rw [if_neg (by omega), if_neg (by omega), if_pos (by omega), Nat.add_sub_cancel_left]
  have e60 : cvF (earR 60) = earF (sr (shp x y) (rest2 tu mixed rest)) (earY (sr (shp x y) (rest2 tu mixed rest))) := rfl
  have e40 : cvF (earR 40) = earF (sr (shp x y) rest) (earY (sr (shp x y) rest)) := rfl
  have e9' : Val.L 9 = cs (shp x y) (rest.take ((tvO tu mixed.length).toNat % rest.length)) := rfl
  have e10' : Val.L 10 = cs (shp x y) (rest.drop ((tvO tu mixed.length).toNat % rest.length + 1)) := rfl
  have e11' : Val.L 11 = cs (shp x y) (rest.take ((tvO tu mixed.length).toNat % rest.length) ++ rest.drop ((tvO tu mixed.length).toNat % rest.length + 1)) := rfl
  have e153' : Val.I 153 = (((tvO tu mixed.length).toNat % rest.length : Nat) : Int) := rfl
  have e156' : Val.I 156 = (((tvO tu mixed.length).toNat % rest.length : Nat) : Int) + 1 := rfl
  have e20 : Val.L 20 = nl := rfl
  have e4 : Val.L 4 = cs (shp x y) rest := rfl
  generalize hkk : (tvO tu mixed.length).toNat % rest.length = k at hk hmod eR2 e9' e10' e11' e153' e156' ⊢
  have e153 : Val.I 153 = (k : Int) := e153'
  have e156 : Val.I 156 = ((k + 1 : Nat) : Int) := e156'.trans (by omega)
  have e9 : Val.L 9 = cs (shp x y) (rest.take k) := e9'
  have e10 : Val.L 10 = cs (shp x y) (rest.drop (k + 1)) := e10'
  have e11 : Val.L 11 = cs (shp x y) (rest.take k ++ rest.drop (k + 1)) := e11'
  have hnd2 : (rest2 tu mixed rest).Nodup := by
    rw [eR2]
    refine List.Nodup.sublist ?_ hnd
    refine List.Sublist.trans (List.Sublist.append_left (List.drop_sublist_drop_left rest (Nat.le_succ k)) (rest.take k)) ?_
    rw [List.take_append_drop]
    exact List.Sublist.refl _
  have hps2 : ∀ p ∈ rest2 tu mixed rest, p < 12 ∧ shp x y p ≠ 0 := fun p h => hps p (by
    rw [eR2] at h
    rcases List.mem_append.1 h with h | h
    · exact List.mem_of_mem_take h
    · exact List.mem_of_mem_drop h)
  have hlen2 : (rest2 tu mixed rest).length ≤ 12 := by
    have := rest2_len tu mixed rest hr
    omega
  have hv1 : valB (sr (shp x y) rest) = true := val_sr _ rest ((valB_shp x y).trans hv)
  have hv2 : valB (sr (shp x y) (rest2 tu mixed rest)) = true := val_sr _ _ ((valB_shp x y).trans hv)
  have h9 : k ≠ 0 → rest.take k ≠ [] := fun h e => by
    have : (rest.take k).length = 0 := by rw [e]; rfl
    rw [List.length_take] at this
    omega
  have h10 : k + 1 ≠ rest.length → rest.drop (k + 1) ≠ [] := fun h e => by
    have : (rest.drop (k + 1)).length = 0 := by rw [e]; rfl
    rw [List.length_drop] at this
    omega
  have sm : ∀ ps : List Nat, ps.length ≤ 12 → (cs (shp x y) ps).length ≤ 1000000 := fun ps h => by rw [cs_len]; omega
  have b9 : k ≠ 0 → LBTrue ⟨none, 9, 9⟩ := fun h => ⟨by show Val.L 9 ≠ []; rw [e9]; exact cs_nil (h9 h), rfl, by show (Val.L 9).length ≤ _; rw [e9]; exact sm _ (by rw [List.length_take]; omega), by show ∀ v, v ∈ Val.L 9 → _; rw [e9]; exact cs_one _ _⟩
  have b10 : k + 1 ≠ rest.length → LBTrue ⟨none, 10, 10⟩ := fun h => ⟨by show Val.L 10 ≠ []; rw [e10]; exact cs_nil (h10 h), rfl, by show (Val.L 10).length ≤ _; rw [e10]; exact sm _ (by rw [List.length_drop]; omega), by show ∀ v, v ∈ Val.L 10 → _; rw [e10]; exact cs_one _ _⟩
  have b11 : k + 1 ≠ rest.length → LBTrue ⟨some 9, 10, 11⟩ := fun h => ⟨by show Val.L 10 ≠ []; rw [e10]; exact cs_nil (h10 h), by show Val.L 11 = Val.L 9 ++ Val.L 10; rw [e9, e10, e11, cs_app], by show (Val.L 11).length ≤ _; rw [e11]; exact sm _ (by rw [List.length_append, List.length_take, List.length_drop]; omega), by show ∀ v, v ∈ Val.L 11 → _; rw [e11]; exact cs_one _ _⟩
  have z9 : k = 0 → Val.L 9 = [] := fun h => by rw [e9, h, List.take_zero]; rfl
  have z10 : k + 1 = rest.length → Val.L 10 = [] := fun h => by rw [e10, h, List.drop_length]; rfl
  have hin : ∀ l : List RV, cvF (.agg l) = earF (sr (shp x y) (rest2 tu mixed rest)) (earY (sr (shp x y) (rest2 tu mixed rest))) → AnsN fIn [.slN 0 20 12, .agg l] (.bool true) := fun l hl => by
    have hbl : (neighL (sr (shp x y) rest) (earY (sr (shp x y) rest))).length ≤ 1000000 := by
      have := nbS_le (sr (shp x y) rest) (earY (sr (shp x y) rest))
      rw [List.length_map]
      omega
    have := in_any (neighL (sr (shp x y) rest) (earY (sr (shp x y) rest))) (sr (shp x y) (rest2 tu mixed rest)) (earY (sr (shp x y) (rest2 tu mixed rest))) hbl _ 20 l (e20.trans (hnl.trans (cellsN_rows _ _))) hl
    rw [any_one hv1 hv2, eR2, sr_step x y rest k hk hnd hps] at this
    exact this
  refine { T := ?_, LL := ?_, C := ?_, Q := ?_, LP := ?_, LB := ?_, LZ := ?_ }
  · intro e he
    replace he : e ∈ t2s tn := he
    simp only [t2s, List.mem_cons] at he
    rcases he with rfl | rfl | rfl | rfl | he
    · exact te_gt (m := (rest.length : Int)) (n := 0) true rfl rfl (by simp; omega)
    · refine te_inb 153 152 true ?_
      rw [e153]
      show decide (0 ≤ (k : Int) ∧ (k : Int) < (rest.length : Int)) = true
      simp [hk]
    · exact te_add1 153 156 k e153 (e156.trans (by omega)) (by omega) (by omega)
    · exact te_add1 100 106 mixed.length rfl rfl (by omega) (by omega)
    · split at he
      · rename_i h
        have h0 := htn h
        have ht0 : tvO tu mixed.length = 0 := by unfold tvO; rw [h0, if_neg (by simp)]
        simp only [List.mem_cons, List.not_mem_nil, or_false] at he
        rcases he with rfl | rfl
        · exact te_l (m := (mixed.length : Int)) (n := 0) false rfl rfl (by simp)
        · refine te_r (m := 0) (n := (rest.length : Int)) (r := (k : Int)) rfl rfl (congrArg (Value.int .i64) e153) rfl (by omega) (by omega) ?_
          rw [← hmod, ht0]
      · simp only [List.mem_cons, List.not_mem_nil, or_false] at he
        rcases he with rfl | rfl
        · refine ⟨rfl, .u8, tvO tu mixed.length, rfl, ?_⟩
          show Value.int .i64 (tvO tu mixed.length) = _
          rw [IntWalk.i64_in _ (by omega)]
        · exact te_r (m := tvO tu mixed.length) (n := (rest.length : Int)) (r := (k : Int)) rfl rfl (congrArg (Value.int .i64) e153) rfl v0 (by omega) hmod
  · intro e he
    obtain rfl : e = ⟨4, 4, sI 152⟩ := List.mem_singleton.1 he
    exact ⟨rfl, rest.length, by decide, cs_len _ _, rfl⟩
  · intro e he
    rcases List.mem_append.1 he with he | he
    · split at he
      · cases he
      · obtain rfl := List.mem_singleton.1 he
        exact at_ans tu htu _ mixed.length rfl rfl
    · rcases List.mem_cons.1 he with rfl | he
      · exact build_places x y hv rest hnd hps (by omega) _ 4 e4
      · rcases List.mem_cons.1 he with rfl | he
        · by_cases hc : Nat.beq (cut k rest.length) 3 = true
          · have hz : rest2 tu mixed rest = [] := by
              have h3 := rest2_empty tu mixed rest hr
              rw [show cut (kO tu mixed rest) rest.length = cut k rest.length by rw [← hkk]; rfl, hc] at h3
              simpa using h3
            show AnsN fIn [.slN 0 20 12, if Nat.beq (cut k rest.length) 3 then .pl zE else earR 60] (.bool true)
            rw [if_pos hc]
            have h0 := hin (zEL.map .pl) (by rw [hz]; rfl)
            intro w hr2 vs hvs
            refine h0 w hr2 vs ?_
            cases hvs with
            | cons h1 h2 =>
              cases h2 with
              | cons h3 h4 =>
                cases h4
                exact .cons h1 (.cons h3 .nil)
          · show AnsN fIn [.slN 0 20 12, if Nat.beq (cut k rest.length) 3 then .pl zE else earR 60] (.bool true)
            rw [if_neg hc]
            exact hin _ e60
        · split at he
          · cases he
          · rename_i hc
            obtain rfl := List.mem_singleton.1 he
            refine build_places x y hv (rest2 tu mixed rest) hnd2 hps2 hlen2 _ (hmNx (cut k rest.length)) ?_
            rw [eR2]
            by_cases hk0 : k = 0
            · by_cases hr1 : rest.length = 1
              · exact absurd (by rw [show cut k rest.length = 3 by unfold cut; rw [if_pos hk0, if_pos hr1]]; rfl) hc
              · rw [show cut k rest.length = 0 by unfold cut; rw [if_pos hk0, if_neg hr1]]
                refine e10.trans ?_
                rw [hk0, List.take_zero, List.nil_append]
            · by_cases hr1 : k + 1 = rest.length
              · rw [show cut k rest.length = 2 by unfold cut; rw [if_neg hk0, if_pos hr1]]
                refine e9.trans ?_
                rw [List.drop_of_length_le (by omega), List.append_nil]
              · rw [show cut k rest.length = 1 by unfold cut; rw [if_neg hk0, if_neg hr1]]
                exact e11
  · intro e he
    obtain rfl := List.mem_singleton.1 he
    exact neigh_list (sr (shp x y) rest) (earY (sr (shp x y) rest)) hv1 ((N3 x y tu mixed rest nl).val W1) 20 (e20.trans hnl)
  · intro e he
    replace he : e ∈ ([⟨4, 4, none, some (sI 153), 9, 190⟩, ⟨4, 4, some (sI 156), none, 10, 156⟩] : List LPE) := he
    simp only [List.mem_cons, List.not_mem_nil, or_false] at he
    rcases he with rfl | rfl
    · refine ⟨rest.length, 0, k, cs_len _ _, rfl, ⟨rfl, .i64, congrArg (Value.int .i64) e153⟩, Nat.zero_le _, by omega, rfl, ?_⟩
      show Val.L 9 = ((cs (shp x y) rest).drop (0 * 4)).take ((k - 0) * 4)
      rw [e9, Nat.zero_mul, List.drop_zero, Nat.sub_zero, cs_take]
    · refine ⟨rest.length, k + 1, rest.length, cs_len _ _, ⟨rfl, .i64, congrArg (Value.int .i64) e156⟩, rfl, by omega, Nat.le_refl _, ?_, ?_⟩
      · show (Val.I 156).toNat = k + 1
        rw [e156, Int.toNat_natCast]
      · show Val.L 10 = ((cs (shp x y) rest).drop ((k + 1) * 4)).take ((rest.length - (k + 1)) * 4)
        rw [e10, cs_drop, List.take_of_length_le (by rw [cs_len, List.length_drop]; omega)]
  · intro e he
    replace he : e ∈ lb2 (cut k rest.length) := he
    by_cases hk0 : k = 0
    · by_cases hr1 : rest.length = 1
      · rw [show cut k rest.length = 3 by unfold cut; rw [if_pos hk0, if_pos hr1]] at he
        cases he
      · rw [show cut k rest.length = 0 by unfold cut; rw [if_pos hk0, if_neg hr1]] at he
        obtain rfl : e = ⟨none, 10, 10⟩ := List.mem_singleton.1 he
        exact b10 (by omega)
    · by_cases hr1 : k + 1 = rest.length
      · rw [show cut k rest.length = 2 by unfold cut; rw [if_neg hk0, if_pos hr1]] at he
        obtain rfl : e = ⟨none, 9, 9⟩ := List.mem_singleton.1 he
        exact b9 hk0
      · rw [show cut k rest.length = 1 by unfold cut; rw [if_neg hk0, if_neg hr1]] at he
        replace he : e ∈ ([⟨none, 9, 9⟩, ⟨some 9, 10, 11⟩] : List LBE) := he
        simp only [List.mem_cons, List.not_mem_nil, or_false] at he
        rcases he with rfl | rfl
        · exact b9 hk0
        · exact b11 hr1
  · intro j hj
    replace hj : j ∈ lz2 (cut k rest.length) := hj
    by_cases hk0 : k = 0
    · by_cases hr1 : rest.length = 1
      · rw [show cut k rest.length = 3 by unfold cut; rw [if_pos hk0, if_pos hr1]] at hj
        replace hj : j ∈ [9, 10] := hj
        simp only [List.mem_cons, List.not_mem_nil, or_false] at hj
        rcases hj with rfl | rfl
        · exact z9 hk0
        · exact z10 (by omega)
      · rw [show cut k rest.length = 0 by unfold cut; rw [if_pos hk0, if_neg hr1]] at hj
        obtain rfl : j = 9 := List.mem_singleton.1 hj
        exact z9 hk0
    · by_cases hr1 : k + 1 = rest.length
      · rw [show cut k rest.length = 2 by unfold cut; rw [if_neg hk0, if_pos hr1]] at hj
        obtain rfl : j = 10 := List.mem_singleton.1 hj
        exact z10 hr1
      · rw [show cut k rest.length = 1 by unfold cut; rw [if_neg hk0, if_neg hr1]] at hj
        cases hj
theorem hmS_ok (mixed rest : List Nat) (hr : rest ≠ []) (nl nl' : List Value) (W W' : Nat → Value) : Holds (hmS (cut (kO tu mixed rest) rest.length)) ((N3 x y tu mixed rest nl).val W) ((N3 x y tu (mixed2 tu mixed rest) (rest2 tu mixed rest) nl').val W') := by
  have hl : 0 < rest.length := by
    cases rest with
    | nil => exact absurd rfl hr
    | cons a b => simp
  refine holds_all fun e he => ?_
  rcases List.mem_append.1 he with he | he
  · rcases List.mem_cons.1 he with rfl | he
    · refine ⟨.i64, (mixed.length : Int) + 1, rfl, ?_⟩
      show (((mixed2 tu mixed rest).length : Nat) : Int) = _
      unfold mixed2
      rw [List.length_append]
      rfl
    · split at he
      · cases he
      · rename_i hc
        obtain rfl := List.mem_singleton.1 he
        have hk : kO tu mixed rest < rest.length := Nat.mod_lt _ hl
        show cs (shp x y) (rest2 tu mixed rest) = (N3 x y tu mixed rest nl).L (hmNx (cut (kO tu mixed rest) rest.length))
        have e9 : (N3 x y tu mixed rest nl).L 9 = cs (shp x y) (rest.take (kO tu mixed rest)) := rfl
        have e10 : (N3 x y tu mixed rest nl).L 10 = cs (shp x y) (rest.drop (kO tu mixed rest + 1)) := rfl
        have e11 : (N3 x y tu mixed rest nl).L 11 = cs (shp x y) (rest.take (kO tu mixed rest) ++ rest.drop (kO tu mixed rest + 1)) := rfl
        unfold rest2
        generalize kO tu mixed rest = k at hk e9 e10 e11 hc
        by_cases hk0 : k = 0
        · by_cases hr1 : rest.length = 1
          · exact absurd (by rw [show cut k rest.length = 3 by unfold cut; rw [if_pos hk0, if_pos hr1]]; rfl) hc
          · rw [show cut k rest.length = 0 by unfold cut; rw [if_pos hk0, if_neg hr1]]
            refine Eq.trans ?_ e10.symm
            rw [hk0, List.take_zero, List.nil_append]
        · by_cases hr1 : k + 1 = rest.length
          · rw [show cut k rest.length = 2 by unfold cut; rw [if_neg hk0, if_pos hr1]]
            refine Eq.trans ?_ e9.symm
            rw [List.drop_of_length_le (by omega), List.append_nil]
          · rw [show cut k rest.length = 1 by unfold cut; rw [if_neg hk0, if_neg hr1]]
            exact e11.symm
  · obtain rfl := List.mem_singleton.1 (show e ∈ [SE.lst 6 6] from he)
    show (N3 x y tu (mixed2 tu mixed rest) (rest2 tu mixed rest) nl').L 6 = (N3 x y tu mixed rest nl).L 6
    rfl
/-- As many places as features. -/
theorem dcn_pls (s : Nat → Int) : ∀ n, dcn s (fun _ => 0) n = (pls s n).length
  | 0 => rfl
  | n + 1 => by
    have e : pls s (n + 1) = pls s n ++ if s n = 0 then [] else [n] := by
      unfold pls
      rw [List.range_succ, List.filter_append]
      congr 1
      by_cases h : s n = 0
      · rw [if_pos h]
        simp [h]
      · rw [if_neg h]
        simp [h]
    rw [e, List.length_append, ← dcn_pls s n]
    show dcn s (fun _ => 0) n + _ = _
    by_cases h : s n = 0
    · rw [if_pos h, if_pos h]
      rfl
    · rw [if_neg h, if_neg h]
      rfl
theorem home_main (hv : valB x = true) (htu : u8s tu) (tn : Bool) (htn : tn = true → tu = []) (hP : PL x y ≠ []) (w : World) (hr : RoIn ro w) (vs : List Value) (hvs : All2 (@Go.Ri.NVal ((N3 x y tu [] (PL x y) []).val fun _ => undef) w) (hmArgs tn) vs) :
    Calls Tryd.prog fEarHome vs.toArray w (DF (.bool true) w) := by
  have hPe : (PL x y).isEmpty = false := by simpa using hP
  have ex : ∀ ps, ∃ l, l = cellsN (shp (sr (shp x y) ps) (earY (sr (shp x y) ps))) (nbS (sr (shp x y) ps) (earY (sr (shp x y) ps))) := fun ps => ⟨_, rfl⟩
  obtain ⟨nl0, hnl0⟩ := ex (PL x y)
  refine fn_loop (κ := Bool) (N3 x y tu [] (PL x y) []) (fun _ => undef) hmStart [] fEarHome (hmArgs tn) (fun rn => hmPat tn rn) (fun m rn c => ∃ mixed rest nl, (mixed ++ rest).Perm (PL x y) ∧ nl = cellsN (shp (sr (shp x y) rest) (earY (sr (shp x y) rest))) (nbS (sr (shp x y) rest) (earY (sr (shp x y) rest))) ∧ m = rest.length ∧ rn = rest.isEmpty ∧ c = N3 x y tu mixed rest nl) ?_ (.int 100 (lI 0) :: .lst 4 4 :: hmIds) (rngN (fl tn) ++ [fl tn + 1]) false (PL x y).length (all2_all hm_enter tn) (N3 x y tu [] (PL x y) nl0) ?_ ⟨[], PL x y, nl0, .refl _, hnl0, rfl, hPe.symm, rfl⟩ (DF (.bool true)) ?_ w hr vs hvs
  · letI : Val := (N3 x y tu [] (PL x y) []).val fun _ => undef
    refine { X := sanexB, T := ?_, Y := ?_, LL := ?_, Q := ?_ }
    · intro e he
      obtain rfl : e = ⟨.ieq, sI 152, sI 152, bR true⟩ := List.mem_singleton.1 he
      refine ⟨rfl, ?_⟩
      have := t_ieq .i64 (((PL x y).length : Nat) : Int) (((PL x y).length : Nat) : Int)
      simp only [beq_self_eq_true] at this
      exact this
    · intro e he
      obtain rfl : e = ⟨fDist, [earR 0, .pl zE], .tup [sI 152, lI 0]⟩ := List.mem_singleton.1 he
      have hz : valB (fun _ => 0) = true := rfl
      have := dist_ans x (fun _ => 0) y (fun _ => false) (by rw [hv, hz]; rfl)
      rw [dcn_congr (t' := fun _ => 0) 12 (fun _ _ => rfl) (fun j _ => by unfold shp; split <;> rfl), dcn_pls] at this
      exact this
    · intro e he
      obtain rfl : e = ⟨4, 4, sI 152⟩ := List.mem_singleton.1 he
      exact ⟨rfl, (PL x y).length, by decide, cs_len _ _, rfl⟩
    · intro e he
      obtain rfl : e = ⟨fFeatures, [earR 0], .tup [.slN 0 4 4, lI 0], [some (.lst 4 47 true)]⟩ := List.mem_singleton.1 he
      let V : Val := (N3 x y tu [] (PL x y) []).val fun _ => undef
      let V' : Val := ⟨fun _ => 0, fun _ => false, fun _ => ⟨#[]⟩, fun _ => ⟨.int .i64 0, rfl⟩, fun _ => cs (shp x y) (PL x y), fun _ => undef⟩
      have := features_ans x y hv V' (featL_cs (shp x y) 12).symm
      have hne : (featL (shp x y) 12).isEmpty = false := by
        rw [featL_cs]
        simpa using cs_nil (s := shp x y) hP
      rw [hne] at this
      exact feat_list (V := V) (V' := V') this rfl
  · intro W'
    refine holds_all fun e he => ?_
    rcases List.mem_cons.1 he with rfl | he
    · exact ⟨.i64, 0, rfl, rfl⟩
    · rcases List.mem_cons.1 he with rfl | he
      · show (N3 x y tu [] (PL x y) nl0).L 4 = (N3 x y tu [] (PL x y) []).L 4
        rfl
      · obtain rfl := List.mem_singleton.1 (show e ∈ [SE.lst 6 6] from he)
        show (N3 x y tu [] (PL x y) nl0).L 6 = (N3 x y tu [] (PL x y) []).L 6
        rfl
  · rintro w m rn c ⟨mixed, rest, nl, hp, hnl, rfl, rfl, rfl⟩ W1
    by_cases hrest : rest = []
    · subst hrest
      exact step_outF {} [] (tb0 _) (bR true) (all2_all hm_out tn) rfl
    · obtain ⟨nl', hnl'⟩ := ex (rest2 tu mixed rest)
      have hre : rest.isEmpty = false := by simpa using hrest
      refine step_to (hmTb (cut (kO tu mixed rest) rest.length) tn) [] (hmTb_ok x y tu hv htu tn htn mixed rest hrest hp nl hnl W1) (hmS (cut (kO tu mixed rest) rest.length)) (hmBlk (cut (kO tu mixed rest) rest.length) tn) (rest2 tu mixed rest).isEmpty (N3 x y tu (mixed2 tu mixed rest) (rest2 tu mixed rest) nl') ?_ (fun W' => hmS_ok x y tu mixed rest hrest nl nl' W1 W') ⟨(rest2 tu mixed rest).length, rest2_len tu mixed rest hrest, mixed2 tu mixed rest, rest2 tu mixed rest, nl', (perm2 tu mixed rest hrest).trans hp, hnl', rfl, rfl, rfl⟩
      rw [hre, rest2_empty tu mixed rest hrest]
      exact all2_all (allU_lt hm_again _ (cut_lt _ _)) tn
/-- THE LAW EarHome. -/
theorem home_law (htu : u8s tu) (tn : Bool) (htn : tn = true → tu = []) (w : World) (hr : RoIn ro w) (vs : List Value) (hvs : All2 (@Go.Ri.NVal ((N3 x y tu [] (PL x y) []).val fun _ => undef) w) (hmArgs tn) vs) :
    Calls Tryd.prog fEarHome vs.toArray w (fun e w' => e = .returned (.bool true) ∧ Below w.heap.size w w') := by
  let V : Val := (N3 x y tu [] (PL x y) []).val fun _ => undef
  cases hv : valB x with
  | false =>
    refine (done_calls V V (t := hmBadTb) ?_ (all2_all hm_bad tn) rfl ⟨(fun j r h => by cases h), (fun j r h => by cases h), (fun j r h => by cases h), (fun j r h => by cases h), (fun j r h => by cases h)⟩ w hr vs hvs).mono fun e w' ⟨u, E', he, hu, H⟩ => ⟨by rw [he]; exact congrArg _ hu, @HInv.below V _ _ _ _ _ _ H⟩
    letI : Val := V
    refine { X := sanexB, Y := ?_ }
    intro e he
    simp only [hmBadTb, List.mem_cons, List.not_mem_nil, or_false] at he
    rcases he with rfl | rfl
    · exact features_bad x y hv
    · exact dist_bad x (fun _ => 0) y (fun _ => false) (by rw [hv]; rfl)
  | true =>
    by_cases hP : PL x y = []
    · have h0 : ∀ p, p < 12 → shp x y p = 0 := fun p hp => Classical.byContradiction fun h => by
        have := pls_mk hp h
        rw [show pls (shp x y) 12 = [] from hP] at this
        cases this
      have hx : ∀ p, p < 9 → x p = 0 := fun p hp => by
        have := h0 p (by omega)
        unfold shp at this
        rwa [if_pos hp] at this
      have hy : ∀ p, p < 3 → y p = false := fun p hp => by
        have := h0 (9 + p) (by omega)
        unfold shp at this
        rw [if_neg (by omega), Nat.add_sub_cancel_left] at this
        cases hyp : y p with
        | false => rfl
        | true => rw [hyp] at this; cases this
      have hz : earF x y = zE := by
        unfold zE earF
        rw [hx 0 (by omega), hx 1 (by omega), hx 2 (by omega), hx 3 (by omega), hx 4 (by omega), hx 5 (by omega), hx 6 (by omega), hx 7 (by omega), hx 8 (by omega), hy 0 (by omega), hy 1 (by omega), hy 2 (by omega)]
      have hvs' : All2 (@Go.Ri.NVal V w) (.pl zE :: (hmArgs tn).drop 1) vs := by
        cases hvs with
        | cons h1 h2 => exact .cons (show _ = zE from (show _ = earF x y from h1).trans hz) h2
      refine (done_calls V V (t := { X := saneX }) ?_ (all2_all hm_zero tn) rfl ⟨(fun j r h => by cases h), (fun j r h => by cases h), (fun j r h => by cases h), (fun j r h => by cases h), (fun j r h => by cases h)⟩ w hr vs hvs').mono fun e w' ⟨u, E', he, hu, H⟩ => ⟨by rw [he]; exact congrArg _ hu, @HInv.below V _ _ _ _ _ _ H⟩
      letI : Val := V
      exact { X := sanexB }
    · exact home_main x y tu hv htu tn htn hP w hr vs hvs
end
end Go.Proofs.Z
