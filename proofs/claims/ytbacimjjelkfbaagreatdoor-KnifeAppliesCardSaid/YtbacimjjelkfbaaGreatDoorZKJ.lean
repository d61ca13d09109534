/- A part of the proofs that the laws of layer three answer true for every input. -/
import Derived.Test.YtbacimjjelkfbaaGreatDoorZKG
namespace Go.Proofs.Z
open Go Go.RowKit Go.Proofs Go.Ri Go.Proofs.Z.Fa
/-! ApplyAll of both packages: runs. 0 to 8 the ear, 20 how many cuts, 21 the number of one, 22 to 25 the cut, 26 the next number, 30 to 38 the next ear, 39 an error. -/
abbrev fAll : Nat := 16
abbrev fRAll : Nat := 17
abbrev tEar : Nat := 25
def kutA : RV := .agg [sI 22, sI 23, sI 24, sI 25]
def earP (i : Nat) : List RV := [sI i, sI (i + 1), sI (i + 2), sI (i + 3), sI (i + 4), sI (i + 5), sI (i + 6), sI (i + 7), sI (i + 8), sB i, sB (i + 1), sB (i + 2)]
def ear0 : List RV := [lI 0, lI 0, lI 0, lI 0, lI 0, lI 0, lI 0, lI 0, lI 0, bR false, bR false, bR false]
def alD : List RV := [earR 0, .slN 0 0 4]
def alT (b : Bool) : List TE := [⟨.bin .lss, sI 21, sI 20, bR b⟩] ++ if b then [⟨.inb, sI 21, sI 20, bR true⟩, ⟨.bin .add, sI 21, lI 1, sI 26⟩] else []
def alLL : List LNE := [⟨0, 4, sI 20⟩]
def alLX : List LEE := [⟨0, 21, [sI 22, sI 23, sI 24, sI 25]⟩]
noncomputable def alE (r q : Bool) : Tb := { Y := [⟨if r then fRCheck else fCheck, [earR 0], lI (if q then 0 else 10)⟩], LL := alLL }
noncomputable def alR (r q : Bool) : Tb := { T := alT true ++ [⟨.ieq, sI 39, lI 0, bR q⟩], Y := [⟨if r then fRApply else fApply, [earR 0, kutA], .tup [earR 30, sI 39]⟩], LL := alLL, LX := alLX }
noncomputable def alO : Tb := { T := alT false, LL := alLL }
def earCl (l : List RV) : Option RO := some (.cells l tEar false false)
noncomputable def alP (r : Bool) : St := ⟨patW ([(1, .slA 0 0 4), (2, .ptr 1 0), (4, .ptr 2 0), (5, lI 0), (6, lI 0)] ++ if r then [(8, sI 21)] else [(18, .slA 0 0 4), (19, sI 20), (20, sI 21)]) 39 0, [some (.lstA 0), earCl (earP 0), earCl ear0]⟩
def alF (r : Bool) : FuncId := if r then fRAll else fAll
noncomputable def alB (r : Bool) : Code := hB (alE r true) [] (alF r) alD
noncomputable def alK (r : Bool) : List Fr := hK (alE r true) [] (alF r) alD
def earS (i : Nat) : List SE := [.int 0 (sI i), .int 1 (sI (i + 1)), .int 2 (sI (i + 2)), .int 3 (sI (i + 3)), .int 4 (sI (i + 4)), .int 5 (sI (i + 5)), .int 6 (sI (i + 6)), .int 7 (sI (i + 7)), .int 8 (sI (i + 8)), .bool 0 (sB i), .bool 1 (sB (i + 1)), .bool 2 (sB (i + 2))]
def alS (i : Nat) (k : RV) : List SE := earS i ++ [.int 20 (sI 20), .int 21 k, .lst 0 0]
def earZ : RV := .agg ear0
set_option maxRecDepth 100000 in
theorem al_enter : (all2 fun r => enterT (alE r true) [] (alF r) alD (alS 0 (lI 0)) [0, 1, 2] (alP r)) = true := by kernel_rfl
set_option maxRecDepth 100000 in
theorem al_bad0 : (all2 fun r => doneQ (alE r false) [] (alF r) alD [] [] (.tup [earZ, lI 0, lI 10]) []) = true := by kernel_rfl
set_option maxRecDepth 100000 in
theorem al_again : (all2 fun r => againT (alR r true) [] (alB r) (alK r) (alP r) (alS 30 (sI 26)) [0, 1, 2] (alP r)) = true := by kernel_rfl
set_option maxRecDepth 100000 in
theorem al_bad : (all2 fun r => outF (alR r false) [] (alF r) (alB r) (alK r) (alP r) (.tup [earZ, sI 21, sI 39])) = true := by kernel_rfl
set_option maxRecDepth 100000 in
theorem al_out : (all2 fun r => outF alO [] (alF r) (alB r) (alK r) (alP r) (.tup [earR 0, lI 0, lI 0])) = true := by kernel_rfl
end Go.Proofs.Z

namespace Go.Proofs.Z
open Go Go.RowKit Go.Proofs Go.Ri Go.Proofs.Z.Fa
/-! ApplyAll of both packages answers the same; CheckBudget. -/
theorem f_addL [Val] {a c : RV} {m : Int} (ha : cv a = .int .i64 m) (hc : cv c = .int .i64 (m + 1)) (hf : flat0 c = true) (h0 : 0 ≤ m) (h1 : m < 9223372036854775807) : TETrue ⟨.bin .add, a, lI 1, c⟩ := by
  refine ⟨hf, ?_⟩
  show TCTrue _ (cv a) (.int .i64 1) (cv c)
  rw [ha, hc]
  have h : IntKind.i64.wrap (m + 1) = m + 1 := IntWalk.i64_in (m + 1) (by omega)
  have := t_add .i64 m 1
  rw [h] at this
  exact this
/-- An ear and a number. -/
structure EN where
  x : Nat → Int
  y : Nat → Bool
  n : Int
theorem apR_is (x : Nat → Int) (y : Nat → Bool) (c : Nat → Int) : ∃ a : EN, Ans fApply [earF x y, cutF c] (.tuple #[earF a.x a.y, .int .i64 a.n]) ∧ Ans fRApply [earF x y, cutF c] (.tuple #[earF a.x a.y, .int .i64 a.n]) := by
  obtain ⟨x', y', n, h⟩ := app_both x y c
  exact ⟨⟨x', y', n⟩, h⟩
noncomputable def apR (x : Nat → Int) (y : Nat → Bool) (c : Nat → Int) : EN := Classical.choose (apR_is x y c)
theorem apR_ans (r : Bool) (x : Nat → Int) (y : Nat → Bool) (c : Nat → Int) : Ans (if r then fRApply else fApply) [earF x y, cutF c] (.tuple #[earF (apR x y c).x (apR x y c).y, .int .i64 (apR x y c).n]) := by
  cases r
  · exact (Classical.choose_spec (apR_is x y c)).1
  · exact (Classical.choose_spec (apR_is x y c)).2
theorem chkB_ans (r : Bool) (x : Nat → Int) (y : Nat → Bool) : Ans (if r then fRCheck else fCheck) [earF x y] (intV (if valB x then 0 else 10)) := by
  cases r
  · exact chk_ans x y
  · exact rchk_ans x y
def cutAt (l : List Value) (k : Nat) : Nat → Int := fun i => intOf (l.getD (k * 4 + i) undef)
/-- What a sequence makes of an ear. -/
noncomputable def alSt (l : List Value) (x : Nat → Int) (y : Nat → Bool) : Nat → EN
  | 0 => ⟨x, y, 0⟩
  | k + 1 => apR (alSt l x y k).x (alSt l x y k).y (cutAt l k)
noncomputable def alI (l : List Value) (n : Nat) (x : Nat → Int) (y : Nat → Bool) (k : Nat) (i : Nat) : Int :=
  if i < 9 then (alSt l x y k).x i else if i = 20 then (n : Int) else if i = 21 then (k : Int) else if i < 26 then cutAt l k (i - 22) else if i = 26 then (k : Int) + 1 else if i = 39 then (alSt l x y (k + 1)).n else (alSt l x y (k + 1)).x (i - 30)
noncomputable def alNm (l : List Value) (n : Nat) (x : Nat → Int) (y : Nat → Bool) (k : Nat) : Nm :=
  ⟨alI l n x y k, fun i => if i < 3 then (alSt l x y k).y i else (alSt l x y (k + 1)).y (i - 30), fun _ => ⟨#[]⟩, fun _ => l⟩
/-- The first that does not apply; the answer. -/
noncomputable def alFst (l : List Value) (n : Nat) (x : Nat → Int) (y : Nat → Bool) : Nat := firstBad (fun j => (alSt l x y (j + 1)).n == 0) n 0
noncomputable def alV (l : List Value) (n : Nat) (x : Nat → Int) (y : Nat → Bool) : EN × Int :=
  if valB x = true then (if alFst l n x y < n then (⟨fun _ => 0, fun _ => false, (alSt l x y (alFst l n x y + 1)).n⟩, (alFst l n x y : Int)) else (⟨(alSt l x y n).x, (alSt l x y n).y, 0⟩, 0)) else (⟨fun _ => 0, fun _ => false, 10⟩, 0)
noncomputable def alA (a : EN × Int) : Value := .tuple #[earF a.1.x a.1.y, .int .i64 a.2, .int .i64 a.1.n]
section
variable {l : List Value} {n : Nat} (x : Nat → Int) (y : Nat → Bool)
theorem alLL_ok {V : Val} (h20 : V.I 20 = (n : Int)) (hL : V.L 0 = l) (hn : l.length = n * 4) : ∀ e, e ∈ alLL → @LLTrue V e :=
  fa ⟨rfl, n, Nat.succ_pos 3, by show (V.L 0).length = _; rw [hL]; exact hn, by show Value.int .i64 (V.I 20) = _; rw [h20]⟩ fz
theorem alLX_ok (hl : ints l) (hn : l.length = n * 4) {k : Nat} (hk : k < n) (W : Nat → Value) : ∀ e, e ∈ alLX → @LXTrue ((alNm l n x y k).val W) e := by
  have h4 : k * 4 + 4 ≤ l.length := by omega
  refine fa ⟨rfl, ?_, ?_⟩ fz
  · show ((k : Int)).toNat * 4 + 4 ≤ l.length
    rw [Int.toNat_natCast]
    exact h4
  · show (l.drop (((k : Int)).toNat * 4)).take 4 = _
    rw [Int.toNat_natCast, row4 hl k h4]
    rfl
theorem alT_ok {k : Nat} (h63 : n ≤ 9223372036854775807) (W : Nat → Value) {b : Bool} (hb : decide (k < n) = b) : ∀ e, e ∈ alT b → @TETrue ((alNm l n x y k).val W) e := by
  letI : Val := (alNm l n x y k).val W
  refine fapp (fa (f_lss (k := .i64) (m := (k : Int)) (n := (n : Int)) rfl rfl (by rw [← hb]; exact decide_eq_decide.2 (by omega))) fz) ?_
  split
  · rename_i hb1
    rw [hb1] at hb
    have hlt := of_decide_eq_true hb
    exact fa ⟨rfl, .i64, .i64, (k : Int), (n : Int), rfl, rfl, by
      show Value.bool true = _
      congr 1
      exact (decide_eq_true (by omega)).symm⟩ (fa (f_addL (m := (k : Int)) rfl rfl rfl (by omega) (by omega)) fz)
  · exact fz
theorem alS_ok (k : Nat) (W W' : Nat → Value) : ∀ e, e ∈ alS 30 (sI 26) → okSE ((alNm l n x y k).val W) ((alNm l n x y (k + 1)).val W') e :=
  fapp (fa ⟨.i64, _, rfl, rfl⟩ (fa ⟨.i64, _, rfl, rfl⟩ (fa ⟨.i64, _, rfl, rfl⟩ (fa ⟨.i64, _, rfl, rfl⟩ (fa ⟨.i64, _, rfl, rfl⟩ (fa ⟨.i64, _, rfl, rfl⟩ (fa ⟨.i64, _, rfl, rfl⟩ (fa ⟨.i64, _, rfl, rfl⟩ (fa ⟨.i64, _, rfl, rfl⟩ (fa ⟨_, rfl, rfl⟩ (fa ⟨_, rfl, rfl⟩ (fa ⟨_, rfl, rfl⟩ fz))))))))))))
    (fa ⟨.i64, (n : Int), rfl, rfl⟩ (fa ⟨.i64, (k : Int) + 1, rfl, rfl⟩ (fa rfl fz)))
/-- ApplyAll, of either package. -/
theorem al_ans (r : Bool) (hl : ints l) (hn : l.length = n * 4) (h63 : n ≤ 9223372036854775807) (nm0 : Nm) (W0 : Nat → Value) (h0 : ∀ i, i < 9 → nm0.I i = x i) (hb0 : ∀ i, i < 3 → nm0.B i = y i) (h20 : nm0.I 20 = (n : Int)) (hL : nm0.L 0 = l) :
    @AnsN (nm0.val W0) (alF r) alD (alA (alV l n x y)) := by
  intro w hr vs hv
  have he : ∀ W, @cvF (nm0.val W) (earR 0) = earF x y := fun W => by
    unfold earF
    rw [← h0 0 (by omega), ← h0 1 (by omega), ← h0 2 (by omega), ← h0 3 (by omega), ← h0 4 (by omega), ← h0 5 (by omega), ← h0 6 (by omega), ← h0 7 (by omega), ← h0 8 (by omega), ← hb0 0 (by omega), ← hb0 1 (by omega), ← hb0 2 (by omega)]
    rfl
  have hE : ∀ q W, q = valB x → @TbOK (nm0.val W) (alE r q) := fun q W hq => by
    letI : Val := nm0.val W
    refine { Y := ?_, LL := alLL_ok h20 hL hn }
    refine fa ?_ fz
    show Ans _ [@cvF (nm0.val W) (earR 0)] _
    rw [he W, hq]
    exact chkB_ans r x y
  cases hv0 : valB x with
  | false =>
    have ev : alV l n x y = (⟨fun _ => 0, fun _ => false, 10⟩, 0) := by unfold alV; rw [hv0]; rfl
    rw [ev]
    exact done_flat (nm0.val W0) (hE false W0 hv0.symm) (all2_all al_bad0 r) rfl rfl rfl w hr vs hv
  | true =>
    have hp := firstBad_pass (fun j => (alSt l x y (j + 1)).n == 0) n 0
    have hf := firstBad_fail (fun j => (alSt l x y (j + 1)).n == 0) n 0
    have hle := firstBad_le (fun j => (alSt l x y (j + 1)).n == 0) n 0
    refine scan (alF r) alD (alE r true) [] (alP r) (alS 0 (lI 0)) (alS 30 (sI 26)) [0, 1, 2] [0, 1, 2] nm0 W0 (alNm l n x y) n _ (fun k => k ≤ alFst l n x y) (all2_all al_enter r) (hE true W0 hv0.symm) ?_ (Nat.zero_le _) ?_ w hr vs hv
    · intro W'
      exact fapp (fa ⟨.i64, _, rfl, (h0 0 (by omega)).symm⟩ (fa ⟨.i64, _, rfl, (h0 1 (by omega)).symm⟩ (fa ⟨.i64, _, rfl, (h0 2 (by omega)).symm⟩ (fa ⟨.i64, _, rfl, (h0 3 (by omega)).symm⟩ (fa ⟨.i64, _, rfl, (h0 4 (by omega)).symm⟩ (fa ⟨.i64, _, rfl, (h0 5 (by omega)).symm⟩ (fa ⟨.i64, _, rfl, (h0 6 (by omega)).symm⟩ (fa ⟨.i64, _, rfl, (h0 7 (by omega)).symm⟩ (fa ⟨.i64, _, rfl, (h0 8 (by omega)).symm⟩ (fa ⟨_, rfl, (hb0 0 (by omega)).symm⟩ (fa ⟨_, rfl, (hb0 1 (by omega)).symm⟩ (fa ⟨_, rfl, (hb0 2 (by omega)).symm⟩ fz))))))))))))
        (fa ⟨.i64, _, rfl, h20.symm⟩ (fa ⟨.i64, 0, rfl, rfl⟩ (fa hL.symm fz)))
    · intro k hk hi W
      letI V : Val := (alNm l n x y k).val W
      have hR : ∀ q, k < n → q = ((alSt l x y (k + 1)).n == 0) → @TbOK V (alR r q) := fun q hlt hq =>
        { T := fapp (alT_ok x y h63 W (decide_eq_true hlt)) (fa (f_ieq (k := .i64) (m := (alSt l x y (k + 1)).n) (n := 0) rfl rfl hq.symm) fz)
          Y := fa (apR_ans r (alSt l x y k).x (alSt l x y k).y (cutAt l k)) fz
          LL := alLL_ok rfl rfl hn
          LX := alLX_ok x y hl hn hlt W }
      rcases Nat.lt_or_ge k n with hlt | hge
      · rcases Nat.lt_or_ge k (alFst l n x y) with h1 | h1
        · exact .inr ⟨hlt, h1, alR r true, hR true hlt (hp k (Nat.zero_le _) h1).symm, all2_all al_again r, fun W' => alS_ok x y k W W'⟩
        · have e : alFst l n x y = k := by omega
          refine .inl ⟨alR r false, _, hR false hlt ?_, all2_all al_bad r, ?_⟩
          · have := hf (by show alFst l n x y < 0 + n; omega)
            have : ((alSt l x y (alFst l n x y + 1)).n == 0) = false := this
            rw [e] at this
            exact this.symm
          · have ev : alV l n x y = (⟨fun _ => 0, fun _ => false, (alSt l x y (k + 1)).n⟩, (k : Int)) := by
              unfold alV
              rw [if_pos hv0, if_pos (by omega), e]
            rw [ev]
            rfl
      · have hkn : k = n := by omega
        refine .inl ⟨alO, _, { T := alT_ok x y h63 W (decide_eq_false (by omega)), LL := alLL_ok rfl rfl hn }, all2_all al_out r, ?_⟩
        have ev : alV l n x y = (⟨(alSt l x y k).x, (alSt l x y k).y, 0⟩, 0) := by
          unfold alV
          rw [if_pos hv0, if_neg (by omega), hkn]
        rw [ev]
        rfl
end
/-! CheckBudget. -/
abbrev fBud : Nat := 18
abbrev fRBud : Nat := 19
def budR : RV := .agg [sI 0, sI 1]
def budF (w c : Int) : Value := .agg #[.int .i64 w, .int .i64 c]
def buT (k : Nat) : List TE := [⟨.bin .lss, sI 0, lI 0, bR (Nat.beq k 0)⟩] ++ (if Nat.blt 0 k then [⟨.bin .lss, sI 1, lI 0, bR (Nat.beq k 1)⟩] else []) ++ (if Nat.blt 1 k then [⟨.bin .sub, lI 3, sI 0, sI 2⟩, ⟨.bin .gtr, sI 0, lI 3, bR (Nat.beq k 2)⟩, ⟨.bin .gtr, sI 1, sI 2, bR (Nat.blt k 4)⟩] else [])
set_option maxRecDepth 100000 in
theorem bu_run : (allU 5 fun k => all2 fun r => runOK noX (buT k) [] 4000 10 (if r then fRBud else fBud) [budR] (lI (if Nat.beq k 4 then 0 else 31))) = true := by kernel_rfl
def buOK (w c : Int) : Bool := decide (0 ≤ w ∧ 0 ≤ c ∧ w ≤ 3 ∧ c ≤ 3 - w)
theorem bu_ans (r : Bool) (w c : Int) (hw : -9223372036854775808 ≤ w ∧ w ≤ 9223372036854775807) : Ans (if r then fRBud else fBud) [budF w c] (.int .i64 (if buOK w c then 0 else 31)) := by
  let V : Val := VE (fun i => if i = 0 then w else if i = 1 then c else 3 - w) (fun _ => false)
  obtain ⟨k, hk, h0, h1, h2, h3, h4⟩ : ∃ k, k < 5 ∧ Nat.beq k 0 = decide (w < 0) ∧ (0 < k → Nat.beq k 1 = decide (c < 0)) ∧ (1 < k → Nat.beq k 2 = decide (w > 3)) ∧ (1 < k → Nat.blt k 4 = decide (c > 3 - w)) ∧ Nat.beq k 4 = buOK w c := by
    unfold buOK
    by_cases a0 : w < 0
    · exact ⟨0, by omega, (decide_eq_true a0).symm, fun h => by omega, fun h => by omega, fun h => by omega, (decide_eq_false (by omega)).symm⟩
    by_cases a1 : c < 0
    · exact ⟨1, by omega, (decide_eq_false a0).symm, fun _ => (decide_eq_true a1).symm, fun h => by omega, fun h => by omega, (decide_eq_false (by omega)).symm⟩
    by_cases a2 : w > 3
    · exact ⟨2, by omega, (decide_eq_false a0).symm, fun _ => (decide_eq_false a1).symm, fun _ => (decide_eq_true a2).symm, fun _ => (decide_eq_true (by omega)).symm, (decide_eq_false (by omega)).symm⟩
    by_cases a3 : c > 3 - w
    · exact ⟨3, by omega, (decide_eq_false a0).symm, fun _ => (decide_eq_false a1).symm, fun _ => (decide_eq_false a2).symm, fun _ => (decide_eq_true a3).symm, (decide_eq_false (by omega)).symm⟩
    · exact ⟨4, by omega, (decide_eq_false a0).symm, fun _ => (decide_eq_false a1).symm, fun _ => (decide_eq_false a2).symm, fun _ => (decide_eq_false a3).symm, (decide_eq_true (by omega)).symm⟩
  have hr := all2_all (allU_lt bu_run k hk) r
  rw [h4] at hr
  refine @ans V noX _ _ noX_true ?_ fz _ _ _ _ _ hr
  refine fapp (fapp (fa (@f_lss V (sI 0) (lI 0) .i64 w 0 _ rfl rfl h0.symm) fz) ?_) ?_
  · split
    · rename_i hk0
      exact fa (@f_lss V (sI 1) (lI 0) .i64 c 0 _ rfl rfl (h1 (Nat.le_of_ble_eq_true hk0)).symm) fz
    · exact fz
  · split
    · rename_i hk1
      have hk1 : 1 < k := Nat.le_of_ble_eq_true hk1
      have hw0 : 0 ≤ w := by
        by_cases a0 : w < 0
        · rw [decide_eq_true a0] at h0
          have := Nat.eq_of_beq_eq_true h0
          omega
        · omega
      refine fa ⟨rfl, ?_⟩ (fa (@f_gtr V (sI 0) (lI 3) .i64 w 3 _ rfl rfl (h2 hk1).symm) (fa (@f_gtr V (sI 1) (sI 2) .i64 c (3 - w) _ rfl rfl (h3 hk1).symm) fz))
      have h : IntKind.i64.wrap (3 - w) = 3 - w := IntWalk.i64_in (3 - w) (by omega)
      have := t_sub .i64 3 w
      rw [h] at this
      exact this
    · exact fz
end Go.Proofs.Z
