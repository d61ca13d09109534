/- A part of the proofs that the laws of layer one answer true for every input. -/
import Derived.Test.YtedbdpaioikhgaaGreatDoorZShort0
import Derived.Test.YtedbdpaioikhgaaGreatDoorZFeat2
namespace Go.Proofs.Z
open Go Go.RowKit Go.Proofs Go.Ri
theorem rg_lt {p : Nat} (h : p ∈ rg) : p < 12 := by
  simp only [rg, List.mem_cons, List.not_mem_nil, or_false] at h
  omega
theorem codes_rg (s : Nat → Int) : codes s 12 = rg.map fun p => code p (s p) := rfl
section
variable (x : Nat → Int) (y : Nat → Bool)
theorem sh20 (p : Nat) (hp : p < 12) : (shnm x y).I (20 + p) = shp x y p := by
  show (if 20 + p < 20 then _ else if 20 + p < 40 then shp x y (20 + p - 20) else _) = _
  rw [if_neg (by omega), if_pos (by omega), Nat.add_sub_cancel_left]
theorem sh60 (p : Nat) (hp : p < 12) : (shnm x y).I (60 + p) = (code p (shp x y p)).toNat := by
  show (if 60 + p < 20 then _ else if 60 + p < 40 then _ else if 60 + p < 80 then (((code (60 + p - 60) (shp x y (60 + p - 60))).toNat : Nat) : Int) else _) = _
  rw [if_neg (by omega), if_neg (by omega), if_pos (by omega), Nat.add_sub_cancel_left]
theorem sh80 (p : Nat) : (shnm x y).I (80 + p) = shp x y p + 1 := by
  show (if 80 + p < 20 then _ else if 80 + p < 40 then _ else if 80 + p < 80 then _ else shp x y (80 + p - 80) + 1) = _
  rw [if_neg (by omega), if_neg (by omega), if_neg (by omega), Nat.add_sub_cancel_left]
theorem sh10 (p : Nat) (hp : p < 12) : (shnm x y).S (10 + p) = ⟨#[code p (shp x y p)]⟩ := by
  show (if 10 + p = 5 then _ else if 10 + p < 30 then (⟨#[code (10 + p - 10) (shp x y (10 + p - 10))]⟩ : ByteArray) else _) = _
  rw [if_neg (by omega), if_pos (by omega), Nat.add_sub_cancel_left]
theorem sh29 (p : Nat) : (shnm x y).S (30 + p) = ⟨(codes (shp x y) (p + 1)).toArray⟩ := by
  show (if 30 + p = 5 then _ else if 30 + p < 30 then _ else (⟨(codes (shp x y) (30 + p - 29)).toArray⟩ : ByteArray)) = _
  rw [if_neg (by omega), if_neg (by omega), show 30 + p - 29 = p + 1 by omega]
theorem codes_len (s : Nat → Int) : ∀ k, (codes s k).length = k
  | 0 => rfl
  | k + 1 => by
    show (codes s k ++ [code k (s k)]).length = k + 1
    rw [List.length_append, codes_len s k]
    rfl
theorem t_sadd [Val] (a b : ByteArray) (h : a.size + b.size ≤ 1000000000) : TCTrue (.bin .add) (.string a) (.string b) (.string (a ++ b)) := fun P ty p q w => by
  have hg : (eqGuard .add ty p q (.string a) (.string b)).run P w = .ok () w := guard_other (by simp) (by simp) w
  have hb : binOp .add ty (.string a) (.string b) = Op.stringOp .add a b := rfl
  have hmax : IntKind.i64.max = 9223372036854775807 := rfl
  have hno : ¬ (9223372036854775807 < (a.size : Int) + (b.size : Int)) := by omega
  simp [hg, hb, Op.stringOp, hmax, hno]
theorem ans_dqF {V : Val} {f : FuncId} {args : List Value} {r : RV} {h0 : RH} (h : @AnsQ V f args r h0) (hf : flat r = true) : Ans f args (@cvF V r) := fun w hr =>
  (h w hr).mono fun e w' ⟨u, E', he, hu, H⟩ => ⟨by rw [he, @VRel.fn V E' r u _ hu (@rel_cvF V E' r hf)], @HInv.below V _ _ _ _ _ _ H⟩
theorem str_holds {V V' : Val} {i j : Nat} (h : V'.S i = V.S j) : Holds [.str i (sS j)] V V' := holds_all fun e he => by
  simp only [List.mem_cons, List.not_mem_nil, or_false] at he
  subst he
  exact ⟨_, rfl, h⟩
theorem short_ans (hv : valB x = true) : Ans fShort [earF x y] (.tuple #[.string (shortV (shp x y)), intV 0]) := by
  let V : Val := (shnm x y).val fun _ => undef
  have ht : @TbOK V shTb := by
    letI : Val := V
    refine { Y := ?_, T := ?_, MS := ?_ }
    · intro e he
      simp only [shTb, List.mem_map] at he
      obtain ⟨p, hp, rfl⟩ := he
      have hp := rg_lt hp
      obtain ⟨r0, r1⟩ := val_rng x y hv p hp
      refine ⟨rfl, ⟨(lett p).toArray⟩, .i64, shp x y p, code p (shp x y p), rfl, ?_, r0, ?_, ?_⟩
      · show Value.int .i64 ((shnm x y).I (20 + p)) = _
        rw [sh20 x y p hp]
      · exact get_code p _ r0 r1
      · show Value.int .u8 ((shnm x y).I (60 + p)) = _
        rw [sh60 x y p hp]
    · intro e he
      simp only [shTb, List.mem_cons, List.not_mem_nil, or_false] at he
      rcases he with rfl | rfl
      · have := chk_ans x y
        rw [if_pos hv] at this
        exact this
      · exact shape_ans x y
    · intro e he
      simp only [shTb, List.mem_cons, List.not_mem_nil, or_false] at he
      subst he
      refine ⟨codes (shp x y) 12, ?_, rfl, rfl⟩
      rw [codes_rg, List.map_map, List.map_map]
      refine List.map_congr_left fun p hp => ?_
      show Value.int .u8 ((shnm x y).I (60 + p)) = _
      rw [sh60 x y p (rg_lt hp)]
      rfl
  have h : @AnsQ V fShort [earF x y] (.tup [sS 5, lI 0]) [] := fun w hr => done_calls V V ht sh_run rfl (str_holds rfl) w hr _ (@nval_flat V w [earR 0] rfl)
  exact ans_dqF h rfl
theorem rshort_ans (hv : valB x = true) : Ans fRShort [earF x y] (.tuple #[.string (shortV (shp x y)), intV 0]) := by
  let V : Val := (shnm x y).val fun _ => undef
  have ht : @TbOK V rshTb := by
    letI : Val := V
    refine { Y := ?_, T := ?_, SS := ?_ }
    · intro e he
      rcases List.mem_append.1 (show e ∈ rg.map (fun p => (⟨.bin .add, sI (20 + p), lI 1, sI (80 + p)⟩ : TE)) ++ rg.map (fun p => ⟨.bin .add, if p = 0 then lS [] else sS (29 + p), sS (10 + p), sS (30 + p)⟩) from he) with he | he
      · obtain ⟨p, hp, rfl⟩ := List.mem_map.1 he
        have hp := rg_lt hp
        obtain ⟨r0, r1⟩ := val_rng x y hv p hp
        have hl : ln p ≤ 5 := by
          unfold ln lett
          split
          · decide
          · split <;> decide
        exact te_add1 (20 + p) (80 + p) (shp x y p) (sh20 x y p hp) (sh80 x y p) r0 (by omega)
      · obtain ⟨p, hp, rfl⟩ := List.mem_map.1 he
        have hp := rg_lt hp
        have ea : cv (if p = 0 then lS [] else sS (29 + p)) = .string ⟨(codes (shp x y) p).toArray⟩ := by
          by_cases h0 : p = 0
          · subst h0; rfl
          · rw [if_neg h0]
            show Value.string ((shnm x y).S (29 + p)) = _
            have := sh29 x y (p - 1)
            rw [show 30 + (p - 1) = 29 + p by omega, show p - 1 + 1 = p by omega] at this
            rw [this]
        have hs := t_sadd ⟨(codes (shp x y) p).toArray⟩ ⟨#[code p (shp x y p)]⟩ (by
          have : (codes (shp x y) p).length = p := codes_len _ p
          show (codes (shp x y) p).toArray.size + 1 ≤ _
          rw [List.size_toArray, this]
          omega)
        have eb : cv (sS (10 + p)) = .string ⟨#[code p (shp x y p)]⟩ := congrArg Value.string (sh10 x y p hp)
        have ec : cv (sS (30 + p)) = .string (⟨(codes (shp x y) p).toArray⟩ ++ ⟨#[code p (shp x y p)]⟩) := by
          show Value.string ((shnm x y).S (30 + p)) = _
          rw [sh29 x y p]
          congr 1
        rw [← ea, ← eb, ← ec] at hs
        exact ⟨rfl, hs⟩
    · intro e he
      have he : e ∈ (⟨fValid, [earR 0], bR true⟩ : YE) :: rg.map (fun (p : Nat) => ⟨fGet, [earR 0, lI p], sI (20 + p)⟩) := he
      rcases List.mem_cons.1 he with rfl | he
      · have := val_ans x y
        rw [hv] at this
        exact this
      · obtain ⟨p, hp, rfl⟩ := List.mem_map.1 he
        have hp := rg_lt hp
        have h := get_ans x y p hp
        have e2 : intV (k12 x y p) = cvF (sI (20 + p)) := by
          show Value.int .i64 _ = .int .i64 ((shnm x y).I (20 + p))
          rw [sh20 x y p hp]
          congr 1
        rw [e2] at h
        exact h
    · intro e he
      obtain ⟨p, hp, rfl⟩ := List.mem_map.1 (show e ∈ rg.map (fun p => (⟨lS (lett p), sI (20 + p), sI (80 + p), sS (10 + p)⟩ : SSE)) from he)
      have hp := rg_lt hp
      obtain ⟨r0, r1⟩ := val_rng x y hv p hp
      have hg := get_code p _ r0 r1
      have hlt : (shp x y p).toNat < (lett p).length := (List.getElem?_eq_some_iff.1 hg).1
      refine ⟨rfl, ⟨(lett p).toArray⟩, .i64, .i64, (shp x y p).toNat, (shp x y p).toNat + 1, rfl, ?_, ?_, by omega, by show _ ≤ (lett p).toArray.size; rw [List.size_toArray]; omega, ?_⟩
      · show Value.int .i64 ((shnm x y).I (20 + p)) = _
        rw [sh20 x y p hp]
        congr 1
        omega
      · show Value.int .i64 ((shnm x y).I (80 + p)) = _
        rw [sh80 x y p]
        congr 1
        omega
      · show Value.string ((shnm x y).S (10 + p)) = _
        rw [sh10 x y p hp]
        congr 1
        apply ByteArray.ext
        rw [ByteArray.data_extract]
        apply Array.ext'
        rw [Array.toList_extract]
        simp only [List.extract_eq_take_drop]
        rw [show (shp x y p).toNat + 1 - (shp x y p).toNat = 1 by omega]
        have := List.drop_eq_getElem_cons hlt
        rw [this]
        have e3 : (lett p)[(shp x y p).toNat] = code p (shp x y p) := by
          rw [List.getElem?_eq_getElem hlt] at hg
          exact Option.some.inj hg
        rw [e3]
        rfl
  have h : @AnsQ V fRShort [earF x y] (.tup [sS 5, lI 0]) [] := fun w hr => done_calls V V ht rsh_run rfl (str_holds rfl) w hr _ (@nval_flat V w [earR 0] rfl)
  exact ans_dqF h rfl
theorem short_bad (hv : valB x = false) : Ans fShort [earF x y] (.tuple #[.string ⟨#[]⟩, intV 10]) := by
  refine @ans_dq V0 _ _ _ [] fun w hr => done_calls (VE x y) V0 (t := { Y := [⟨fCheck, [earR 0], lI 10⟩] }) (plan := []) (ds := [earR 0]) ?_ sh_bad rfl (noHolds _ _) w hr [earF x y] (@nval_flat (VE x y) w [earR 0] rfl)
  letI : Val := VE x y
  refine { Y := ?_ }
  intro e he
  simp only [List.mem_cons, List.not_mem_nil, or_false] at he
  subst he
  have := chk_ans x y
  rw [if_neg (by simp [hv])] at this
  exact this
theorem rshort_bad (hv : valB x = false) : Ans fRShort [earF x y] (.tuple #[.string ⟨#[]⟩, intV 10]) := by
  refine @ans_dq V0 _ _ _ [] fun w hr => done_calls (VE x y) V0 (t := { Y := [⟨fValid, [earR 0], bR false⟩] }) (plan := []) (ds := [earR 0]) ?_ rsh_bad rfl (noHolds _ _) w hr [earF x y] (@nval_flat (VE x y) w [earR 0] rfl)
  letI : Val := VE x y
  refine { Y := ?_ }
  intro e he
  simp only [List.mem_cons, List.not_mem_nil, or_false] at he
  subst he
  have := val_ans x y
  rw [hv] at this
  exact this
end
end Go.Proofs.Z
