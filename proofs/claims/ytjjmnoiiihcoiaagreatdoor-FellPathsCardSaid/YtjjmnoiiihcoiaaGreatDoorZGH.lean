/- A part of the proofs that the laws of layer four answer true for every input. -/
import Derived.Test.YtjjmnoiiihcoiaaGreatDoorZGG
namespace Go.Proofs.Z
open Go Go.RowKit Go.Proofs Go.Ri Go.Proofs.Z.Fa
/-! Open, YearDay, Check of the specification: contracts; FellDays. -/
def saneX (f : FuncId) (vs : List Value) : Option Value := match Nat.beq f fSane with
  | true => match vs with
    | [] => some (.bool true)
    | _ => none
  | false => none
theorem saneX_true : XTrue saneX := by
  intro f vs v h
  unfold saneX at h
  split at h
  · rename_i hf
    split at h
    · obtain rfl := Nat.eq_of_beq_eq_true hf
      cases h
      exact sane_ans
    · cases h
  · cases h
/-! Check of the specification -/
noncomputable def rcTb (v : Bool) : Tb := { C := [⟨fValid, [fellR], bR v⟩] }
set_option maxRecDepth 100000 in
theorem rc_run : (all2 fun v => doneQ (rcTb v) [] fRCheck [fellR] [] [] (if v then lI 0 else lI 40) []) = true := by kernel_rfl
section
variable (V : Val) {G : Int} {l : List Value} {n : Nat} {d : Int}
theorem rcheck_ans (hG : V.I 0 = G) (hL : V.L 0 = l) (hl : ints l) (hn : l.length = n * 4) : @AnsN V fRCheck [fellR] (.int .i64 (errM G l n)) := by
  intro w hr vs hv
  have ht : @TbOK V (rcTb (validM G l n)) := by
    letI := V
    exact { C := fa (valid_ans V hG hL hl hn) fz }
  refine done_flat V ht (all2_all rc_run _) ?_ ?_ ?_ w hr vs hv
  · cases validM G l n <;> rfl
  · cases validM G l n <;> rfl
  · unfold errM
    cases validM G l n <;> rfl
end
/-! YearDay -/
def ydM (d : Int) : Int × Int := if 0 ≤ d ∧ d ≤ 1048576 then (d % 360, 0) else (0, 1)
def ydV (d : Int) : Value := .tuple #[.int .i64 (ydM d).1, .int .i64 (ydM d).2]
theorem yearDay_ans (c : Bool) (d : Int) : Ans (if c then fYearDay else fRYearDay) [.int .i64 d] (ydV d) := by
  let V : Val := VE (fun i => if i = 8 then d else d % 360) (fun _ => false)
  intro w hr
  by_cases hd : 0 ≤ d ∧ d ≤ 1048576
  · have ht : @TbOK V (ydTb 2) := by
      letI := V
      have := dayT_ok V (d := d) rfl
      rw [dcls_two hd] at this
      exact { T := fa (f_rem (k := .i64) (m := d) (n := 360) (r := d % 360) rfl rfl rfl rfl hd.1 (by decide) rfl) this }
    refine (done_calls V V ht (all2_all yd_good c) rfl (holds_all (fa ⟨.i64, d % 360, rfl, rfl⟩ fz)) w hr [.int .i64 d] (@nval_flat V w [sI 8] rfl)).mono fun e w' ⟨u, E', he, hu, H⟩ => ⟨?_, @HInv.below V _ _ _ _ _ _ H⟩
    rw [he]
    refine congrArg Ending.returned ((@VRel.fn V E' (.tup [sI 3, lI 0]) u _ hu (@rel_cvF V E' (.tup [sI 3, lI 0]) rfl)).trans ?_)
    unfold ydV ydM
    rw [if_pos hd]
    rfl
  · have ht : @TbOK V { T := dayT (dcls d) } := by
      letI := V
      exact { T := dayT_ok V (d := d) rfl }
    have h2 : (all2 fun c => allU 2 fun d => doneQ { T := dayT d } [] (if c then fYearDay else fRYearDay) [sI 8] [] [] (tupI 1) []) = true := yd_bad'
    refine done_flat V ht (allU_lt (all2_all h2 c) _ (dcls_lt hd)) rfl rfl ?_ w hr [.int .i64 d] (@nval_flat V w [sI 8] rfl)
    unfold ydV ydM
    rw [if_neg hd]
    rfl
/-! Open -/
def gcls (g : Int) (n : Nat) : Nat := if g < 0 then 0 else if g < n then 2 else 1
def opnM (G : Int) (l : List Value) (n : Nat) (g d : Int) : Bool × Int := if validM G l n then (if (0 ≤ d ∧ d ≤ 1048576) ∧ (0 ≤ g ∧ g < n) then (odP l d g.toNat, 0) else (false, 1)) else (false, 40)
def opnV (G : Int) (l : List Value) (n : Nat) (g d : Int) : Value := .tuple #[.bool (opnM G l n g d).1, .int .i64 (opnM G l n g d).2]
def onm (G : Int) (l : List Value) (n : Nat) (g d : Int) : Nm := ⟨fun i => if i = 0 then G else if i = 1 then (n : Int) else if i = 2 then g else if i = 3 then gtA l g.toNat else if i = 4 then gtB l g.toNat else if i = 5 then gtF l g.toNat else if i = 6 then gtT l g.toNat else d, fun _ => odP l d g.toNat, fun _ => ⟨#[]⟩, fun _ => l⟩
theorem gaT_ok (V : Val) {g : Int} {n : Nat} (h1 : V.I 1 = n) (h2 : V.I 2 = g) : ∀ e, e ∈ gaT (gcls g n) → @TETrue V e := by
  subst h2
  letI := V
  unfold gcls
  by_cases h0 : V.I 2 < 0
  · rw [if_pos h0]
    exact fa (f_lss (k := .i64) (m := V.I 2) (n := 0) rfl rfl (by simp [h0])) (fa (f_geq (k := .i64) (m := V.I 2) (n := 0) rfl rfl (by simp; omega)) fz)
  · rw [if_neg h0]
    by_cases h3 : V.I 2 < n
    · rw [if_pos h3]
      exact fa (f_lss (k := .i64) (m := V.I 2) (n := 0) rfl rfl (by simp; omega)) (fa (f_geq (k := .i64) (m := V.I 2) (n := 0) rfl rfl (by simp; omega)) (fa (f_lss (k := .i64) (m := V.I 2) (n := V.I 1) rfl rfl (by rw [h1]; simp; omega)) (fa (f_geq (k := .i64) (m := V.I 2) (n := V.I 1) rfl rfl (by rw [h1]; simp; omega))
        (fa ⟨rfl, .i64, .i64, V.I 2, V.I 1, rfl, rfl, congrArg Value.bool (by rw [h1]; simp; omega)⟩ fz))))
    · rw [if_neg h3]
      exact fa (f_lss (k := .i64) (m := V.I 2) (n := 0) rfl rfl (by simp; omega)) (fa (f_geq (k := .i64) (m := V.I 2) (n := 0) rfl rfl (by simp; omega)) (fa (f_lss (k := .i64) (m := V.I 2) (n := V.I 1) rfl rfl (by rw [h1]; simp; omega)) (fa (f_geq (k := .i64) (m := V.I 2) (n := V.I 1) rfl rfl (by rw [h1]; simp; omega)) fz)))
theorem gcls_lt3 (g : Int) (n : Nat) : gcls g n < 3 := by
  unfold gcls
  split
  · omega
  · split <;> omega
section
variable (V : Val) {G : Int} {l : List Value} {n : Nat} {g d : Int}
theorem open_q (c : Bool) (hG : V.I 0 = G) (hL : V.L 0 = l) (hl : ints l) (hn : l.length = n * 4) {x y : RV} (fx : flat x = true) (fy : flat y = true) (hx : @cvF V x = .int .i64 g) (hy : @cvF V y = .int .i64 d) : @AnsN V (if c then fOpen else fROpen) [fellR, x, y] (opnV G l n g d) := by
  intro w hr vs hv
  let V1 : Val := (onm G l n g d).val fun _ => undef
  have hv : All2 (@Go.Ri.NVal V1 w) opD vs := by
    cases hv with
    | cons h1 h2 => cases h2 with
      | cons h2 h3 => cases h3 with
        | cons h3 h4 =>
          cases h4
          refine .cons (fell_nval1 hG hL h1) (.cons ?_ (.cons ?_ .nil))
          · have := @flat_of_nval V w x _ fx h2
            rw [this, hx]
            exact @nval_of_flat V1 w (sI 2) rfl
          · have := @flat_of_nval V w y _ fy h3
            rw [this, hy]
            exact @nval_of_flat V1 w (sI 8) rfl
  have hC1 : @AnsN V1 fCheck [fellR] (.int .i64 (errM G l n)) := check_ans _ rfl rfl hl hn
  have hC2 : @AnsN V1 fValid [fellR] (.bool (validM G l n)) := valid_ans _ rfl rfl hl hn
  have hLL : ∀ e, e ∈ hLL → @LLTrue V1 e := fa ⟨rfl, n, Nat.succ_pos 3, hn, rfl⟩ fz
  have hT : ∀ e, e ∈ dayT (dcls d) ++ gaT (gcls g n) → @TETrue V1 e := fapp (dayT_ok V1 rfl) (gaT_ok V1 rfl rfl)
  have ht0 : ∀ e, errM G l n = e → @TbOK V1 (opTc e (dcls d) (gcls g n)) := fun e he => by
    letI := V1
    refine { T := hT, LL := hLL, C := fa ?_ (fa ?_ fz) }
    · rw [he] at hC1
      exact hC1
    · have : validM G l n = (if e = 0 then true else false) := by
        rw [← he]
        unfold errM
        cases validM G l n <;> rfl
      rw [this] at hC2
      exact hC2
  cases hva : validM G l n with
  | false =>
    have he : errM G l n = 40 := by unfold errM; rw [hva]; rfl
    have e0 : opnM G l n g d = (false, 40) := by unfold opnM; rw [hva]; rfl
    unfold opnV
    rw [e0]
    exact done_flat V1 (ht0 40 he) (allU_lt (allU_lt (all2_all op_bad c) _ (dcls_lt3 d)) _ (gcls_lt3 g n)) rfl rfl rfl w hr vs hv
  | true =>
    have he : errM G l n = 0 := by unfold errM; rw [hva]; rfl
    by_cases hd : 0 ≤ d ∧ d ≤ 1048576
    · by_cases hg : 0 ≤ g ∧ g < n
      · have e0 : opnM G l n g d = (odP l d g.toNat, 0) := by unfold opnM; rw [hva, if_pos rfl, if_pos ⟨hd, hg⟩]
        unfold opnV
        rw [e0]
        have hg2 : gcls g n = 2 := by unfold gcls; rw [if_neg (by omega), if_pos hg.2]
        have ht : @TbOK V1 (opTb 0 2 2) := by
          letI := V1
          have h := ht0 0 he
          rw [dcls_two hd, hg2] at h
          have h4 : g.toNat * 4 + 4 ≤ l.length := by omega
          refine { T := h.T, LL := h.LL, C := h.C, LX := fa (show LXTrue _ from ⟨rfl, h4, ?_⟩) fz, Y := fa (open_ans (gtA l g.toNat) (gtB l g.toNat) (gtF l g.toNat) (gtT l g.toNat) d hd.1) (fa (openOn_ans (gtA l g.toNat) (gtB l g.toNat) (gtF l g.toNat) (gtT l g.toNat) d hd.1) fz) }
          show (l.drop (g.toNat * 4)).take 4 = _
          rw [row4 hl g.toNat h4]
          rfl
        refine (done_calls V1 V1 ht (all2_all op_good c) rfl (holds_all (fa ⟨_, rfl, rfl⟩ fz)) w hr vs hv).mono fun e w' hq => ?_
        obtain ⟨u, E', he, hu, H⟩ := hq
        refine ⟨?_, @HInv.below V1 _ _ _ _ _ _ H⟩
        rw [he]
        exact congrArg Ending.returned (@VRel.fn V1 E' (.tup [sB 0, lI 0]) u _ hu (@rel_cvF V1 E' (.tup [sB 0, lI 0]) rfl))
      · have e0 : opnM G l n g d = (false, 1) := by unfold opnM; rw [hva, if_pos rfl, if_neg (fun h => hg h.2)]
        unfold opnV
        rw [e0]
        have hg2 : gcls g n < 2 := by
          unfold gcls
          by_cases h0 : g < 0
          · rw [if_pos h0]; omega
          · rw [if_neg h0, if_neg (fun h => hg ⟨by omega, h⟩)]; omega
        have h := ht0 0 he
        rw [dcls_two hd] at h
        exact done_flat V1 h (allU_lt (all2_all op_bad2 c) _ hg2) rfl rfl rfl w hr vs hv
    · have e0 : opnM G l n g d = (false, 1) := by unfold opnM; rw [hva, if_pos rfl, if_neg (fun h => hd h.1)]
      unfold opnV
      rw [e0]
      exact done_flat V1 (ht0 0 he) (allU_lt (allU_lt (all2_all op_bad1 c) _ (dcls_lt hd)) _ (gcls_lt3 g n)) rfl rfl rfl w hr vs hv
end
end Go.Proofs.Z
