/- A part of the proofs that the laws of layer four answer true for every input. -/
import Derived.Test.YtjjmnoiiihcoiaaGreatDoorZND
import Derived.Test.YtjjmnoiiihcoiaaGreatDoorZGY
import Derived.Test.YtjjmnoiiihcoiaaGreatDoorZGH
import Derived.Lib.TrailingZeros
import Derived.Test.YtjjmnoiiihcoiaaGreatDoorZKA
namespace Go.Proofs.Z
open Go Go.RowKit Go.Proofs Go.Ri Go.Proofs.Z.Fa
/-! mostLanes: runs and contract. -/
abbrev fMost : Nat := 101
noncomputable def mlP : St := ⟨patW [(1, sI 20), (2, sI 21), (3, .ptr 1 0), (6, .ptr 2 0), (7, lI 0), (8, .ptr 3 0), (9, sI 2)] 18 0, mlH 30⟩
def mlS (k : RV) : List SE := [.int 0 (sI 0), .int 1 (sI 1), .int 2 k, .int 20 (sI 20), .int 21 (sI 21), .lst 0 0]
noncomputable def mlE : Tb := { LL := [⟨0, 4, sI 1⟩] }
def mlD : List RV := [fellR, sI 20, sI 21]
set_option maxRecDepth 100000 in
theorem ml_enter : atH (entN mlE [] fMost mlD) fMost 0 (.new 30 z32 :: mlS (lI 0)) [0, 1, 2, 3] mlP = true := by kernel_rfl
noncomputable def mlTb (q : Bool) : Tb := { T := [⟨.bin .add, sI 2, lI 1, sI 7⟩], LL := [⟨0, 4, sI 1⟩], U := ueU [⟨fAdd, adId, adA, adH, bR q, adK⟩], LX := if q then [] else [⟨31, 998, rangeR 100 32⟩], IZ := [(998, 0)] }
set_option maxRecDepth 100000 in
theorem ml_again : atH (fromH (mlTb true) [] fMost 0 mlP) fMost 0 (.lst 30 31 :: mlS (sI 7)) [0, 1, 2, 3] mlP = true := by kernel_rfl
noncomputable def mlR : RV := .tup [.agg (rangeR 100 32), sI 2]
set_option maxRecDepth 100000 in
theorem ml_out : endF (mlTb false) fMost (fromH (mlTb false) [] fMost 0 mlP) mlR = true := by kernel_rfl
section
variable (A B : Nat → Nat) (n : Nat) (u : Nat → Bool) (a b : Nat)
open Classical in
noncomputable def adRes (t : Nat → Int) : Bool × (Nat → Int) := if h : ∃ m r, AdRuns A B n u a b t m (adS0 a) r then h.choose_spec.choose else (false, t)
variable {A B n u a b}
theorem adRes_runs {t : Nat → Int} {k : Nat} (hr : ∀ i, i < n → A i < 16 ∧ B i < 16) (hne : ∀ i, i < n → A i ≠ B i) (ha : a < 16) (hab : a ≠ b) (F : IsFlow A B n u a b t (k : Int)) : ∃ m, AdRuns A B n u a b t m (adS0 a) (adRes A B n u a b t) := by
  have h : ∃ m r, AdRuns A B n u a b t m (adS0 a) r := ad_runs hr hne F _ _ (Nat.le_refl _) (ad_start ha hab)
  unfold adRes
  rw [dif_pos h]
  exact ⟨_, h.choose_spec.choose_spec⟩
theorem adRes_spec {t : Nat → Int} {k : Nat} (hr : ∀ i, i < n → A i < 16 ∧ B i < 16) (hne : ∀ i, i < n → A i ≠ B i) (ha : a < 16) (hb : b < 16) (hab : a ≠ b) (F : IsFlow A B n u a b t (k : Int)) : ((adRes A B n u a b t).1 = false → (adRes A B n u a b t).2 = t ∧ IsMF A B n u a b k) ∧ ((adRes A B n u a b t).1 = true → IsFlow A B n u a b (adRes A B n u a b t).2 ((k + 1 : Nat) : Int)) := by
  obtain ⟨m, hm⟩ := adRes_runs hr hne ha hab F
  exact ad_spec hr hne ha hb F m _ _ _ (ad_start ha hab) hm
variable (A B n u a b)
def MlRuns : Nat → (Nat → Int) → Nat → (Nat → Int) × Nat → Prop
  | 0, t, k, r => (adRes A B n u a b t).1 = false ∧ r = (t, k)
  | m + 1, t, k, r => (adRes A B n u a b t).1 = true ∧ MlRuns m (adRes A B n u a b t).2 (k + 1) r
variable {A B n u a b}
theorem cut_le (S : Nat → Bool) : ∀ k, cutC A B u S k ≤ k
  | 0 => Nat.le_refl _
  | k + 1 => by
    have := cut_le S k
    unfold cutC
    split <;> omega
theorem ml_runs (hr : ∀ i, i < n → A i < 16 ∧ B i < 16) (hne : ∀ i, i < n → A i ≠ B i) (ha : a < 16) (hb : b < 16) (hab : a ≠ b) : ∀ (N : Nat) (t : Nat → Int) (k : Nat), n - k ≤ N → IsFlow A B n u a b t (k : Int) → ∃ m r, MlRuns A B n u a b m t k r := by
  intro N
  induction N with
  | zero =>
    intro t k hN F
    cases h : (adRes A B n u a b t).1 with
    | false => exact ⟨0, _, h, rfl⟩
    | true =>
      have F2 := (adRes_spec hr hne ha hb hab F).2 h
      have w := weak hr ha hb F2 (S := fun x => decide (x = a)) (decide_eq_true rfl) (decide_eq_false (Ne.symm hab))
      have := cut_le (A := A) (B := B) (u := u) (fun x => decide (x = a)) n
      omega
  | succ N ih =>
    intro t k hN F
    cases h : (adRes A B n u a b t).1 with
    | false => exact ⟨0, _, h, rfl⟩
    | true =>
      have F2 := (adRes_spec hr hne ha hb hab F).2 h
      have w := weak hr ha hb F2 (S := fun x => decide (x = a)) (decide_eq_true rfl) (decide_eq_false (Ne.symm hab))
      have := cut_le (A := A) (B := B) (u := u) (fun x => decide (x = a)) n
      obtain ⟨m, r, hm⟩ := ih _ (k + 1) (by omega) F2
      exact ⟨m + 1, r, h, hm⟩
theorem ml_spec (hr : ∀ i, i < n → A i < 16 ∧ B i < 16) (hne : ∀ i, i < n → A i ≠ B i) (ha : a < 16) (hb : b < 16) (hab : a ≠ b) : ∀ (m : Nat) (t : Nat → Int) (k : Nat) (r : (Nat → Int) × Nat), IsFlow A B n u a b t (k : Int) → MlRuns A B n u a b m t k r → IsFlow A B n u a b r.1 (r.2 : Int) ∧ IsMF A B n u a b r.2
  | 0, t, k, r, F, ⟨h, e⟩ => by
    subst e
    exact ⟨F, ((adRes_spec hr hne ha hb hab F).1 h).2⟩
  | m + 1, t, k, r, F, ⟨h, hm⟩ => ml_spec hr hne ha hb hab m _ (k + 1) r ((adRes_spec hr hne ha hb hab F).2 h) hm
variable (A B n u a b)
open Classical in
/-- The lanes that mostLanes finds. -/
noncomputable def mlRes : (Nat → Int) × Nat := if h : ∃ m r, MlRuns A B n u a b m (fun _ => 0) 0 r then h.choose_spec.choose else (fun _ => 0, 0)
variable {A B n u a b}
theorem mlRes_runs (hr : ∀ i, i < n → A i < 16 ∧ B i < 16) (hne : ∀ i, i < n → A i ≠ B i) (ha : a < 16) (hb : b < 16) (hab : a ≠ b) : ∃ m, MlRuns A B n u a b m (fun _ => 0) 0 (mlRes A B n u a b) := by
  have h : ∃ m r, MlRuns A B n u a b m (fun _ => 0) 0 r := ml_runs hr hne ha hb hab _ _ 0 (Nat.le_refl _) (flow_zero n u a b)
  unfold mlRes
  rw [dif_pos h]
  exact ⟨_, h.choose_spec.choose_spec⟩
theorem mlRes_spec (hr : ∀ i, i < n → A i < 16 ∧ B i < 16) (hne : ∀ i, i < n → A i ≠ B i) (ha : a < 16) (hb : b < 16) (hab : a ≠ b) : IsFlow A B n u a b (mlRes A B n u a b).1 ((mlRes A B n u a b).2 : Int) ∧ IsMF A B n u a b (mlRes A B n u a b).2 := by
  obtain ⟨m, hm⟩ := mlRes_runs (u := u) hr hne ha hb hab
  exact ml_spec hr hne ha hb hab m _ 0 _ (flow_zero n u a b) hm
end
def mlI (a b : Nat) (t' : Nat → Int) (j : Nat) : Int := if j = 20 then (a : Int) else if j = 21 then (b : Int) else if 100 ≤ j ∧ j < 132 then t' (j - 100) else 0
def mlL (t t' : Nat → Int) (j : Nat) : List Value := if j = 30 then ivl t 32 else ivl t' 32
def mlNm (G : Int) (l : List Value) (n a b k : Nat) (t t' : Nat → Int) : Nm := gnm G l n k (mlI a b t') ny (mlL t t')
section
variable {G : Int} {l : List Value} {n a b : Nat}
theorem ml_ids {V V' : Val} (G n a b : Int) (l : List Value) (k : RV) (mk : Int) (hk : @cv V k = .int .i64 mk) (h2 : V'.I 2 = mk) (g0 : V.I 0 = G) (g1 : V.I 1 = n) (g2 : V.I 20 = a) (g3 : V.I 21 = b) (g4 : V.L 0 = l) (h0 : V'.I 0 = G) (h1 : V'.I 1 = n) (h20 : V'.I 20 = a) (h21 : V'.I 21 = b) (hl : V'.L 0 = l) : ∀ e, e ∈ mlS k → okSE V V' e :=
  fa ⟨.i64, G, congrArg _ g0, h0⟩ (fa ⟨.i64, n, congrArg _ g1, h1⟩ (fa ⟨.i64, mk, hk, h2⟩ (fa ⟨.i64, a, congrArg _ g2, h20⟩ (fa ⟨.i64, b, congrArg _ g3, h21⟩ (fa (okLs l hl g4) fz)))))
/-- The answer of mostLanes. -/
noncomputable def mlV (l : List Value) (n a b : Nat) : Value := .tuple #[.agg (ivl (mlRes (gA' l) (gB' l) n (usP l) a b).1 32).toArray, .int .i64 ((mlRes (gA' l) (gB' l) n (usP l) a b).2 : Int)]
theorem rangeR_ml (G : Int) (l : List Value) (n a b k : Nat) (t t' : Nat → Int) (W : Nat → Value) : (rangeR 100 32).map (@cv ((mlNm G l n a b k t t').val W)) = ivl t' 32 := by
  letI : Val := (mlNm G l n a b k t t').val W
  rw [rangeR_cv 100 32]
  refine ivl_congr 32 fun j hj => ?_
  show (gnm G l n k (mlI a b t') ny (mlL t t')).I (100 + j) = t' j
  unfold gnm
  simp only
  rw [if_neg (by omega), if_neg (by omega), if_neg (by omega), if_neg (by omega), if_neg (by omega), if_neg (by omega), if_neg (by omega), if_neg (by omega)]
  unfold mlI
  rw [if_neg (by omega), if_neg (by omega), if_pos (by omega)]
  congr 1
  omega
set_option maxRecDepth 10000 in
theorem most_ans (V : Val) (hG : V.I 0 = G) (hL : V.L 0 = l) (hl : ints l) (hn : l.length = n * 4) (hva : validM G l n = true) (ha : a < 16) (hb : b < 16) (hab : a ≠ b) {x y : RV} (fx : flat x = true) (fy : flat y = true) (hx : @cvF V x = .int .i64 (a : Int)) (hy : @cvF V y = .int .i64 (b : Int)) : @AnsN V fMost [fellR, x, y] (mlV l n a b) := by
  intro w hr vs hv
  have hg := gate_in hva
  let V0 : Val := (mlNm G l n a b 0 (fun _ => 0) (fun _ => 0)).val fun _ => undef
  have hv : All2 (@Go.Ri.NVal V0 w) mlD vs := by
    cases hv with
    | cons h1 h2 => cases h2 with
      | cons h2 h3 => cases h3 with
        | cons h3 h4 =>
          cases h4
          refine .cons (fell_nval1 hG hL h1) (.cons ?_ (.cons ?_ .nil))
          · have := @flat_of_nval V w x _ fx h2
            rw [this, hx]
            exact @nval_of_flat V0 w (sI 20) rfl
          · have := @flat_of_nval V w y _ fy h3
            rw [this, hy]
            exact @nval_of_flat V0 w (sI 21) rfl
  obtain ⟨M, hM⟩ := mlRes_runs (u := usP l) hg.1 hg.2 ha hb hab
  have hLL : ∀ k t t' W, ∀ e, e ∈ ([⟨0, 4, sI 1⟩] : List LNE) → @LLTrue ((mlNm G l n a b k t t').val W) e := fun k t t' W => fa ⟨rfl, n, Nat.succ_pos 3, hn, rfl⟩ fz
  refine fn_headsN (κ := Unit) (mlNm G l n a b 0 (fun _ => 0) (fun _ => 0)) (fun _ => undef) mlE [] fMost mlD (fun _ => 0) (fun _ => mlP) (fun m _ c => ∃ (t : Nat → Int) (k : Nat), k ≤ 1000 ∧ IsFlow (gA' l) (gB' l) n (usP l) a b t (k : Int) ∧ MlRuns (gA' l) (gB' l) n (usP l) a b m t k (mlRes (gA' l) (gB' l) n (usP l) a b) ∧ c = mlNm G l n a b k t (adRes (gA' l) (gB' l) n (usP l) a b t).2)
    (by letI : Val := V0; exact { LL := hLL _ _ _ _ }) (.new 30 z32 :: mlS (lI 0)) [0, 1, 2, 3] () M ml_enter (mlNm G l n a b 0 (fun _ => 0) (adRes (gA' l) (gB' l) n (usP l) a b (fun _ => 0)).2) (fun W' => holds_all (fa rfl (ml_ids G n a b l (lI 0) 0 rfl rfl rfl rfl rfl rfl rfl rfl rfl rfl rfl rfl))) ⟨fun _ => 0, 0, by omega, flow_zero _ _ _ _, hM, rfl⟩ (DF (mlV l n a b)) ?_ w hr vs hv
  rintro w m _ c ⟨t, k, hk, F, hm, rfl⟩ W
  obtain ⟨m', hm'⟩ := adRes_runs hg.1 hg.2 ha hab F
  have hsp := adRes_spec hg.1 hg.2 ha hb hab F
  have hue : ∀ q, (adRes (gA' l) (gB' l) n (usP l) a b t).1 = q → @UETrue ((mlNm G l n a b k t (adRes (gA' l) (gB' l) n (usP l) a b t).2).val W) ⟨fAdd, adId, adA, adH, bR q, adK⟩ := fun q hq => by
    subst hq
    exact ⟨holds_all (fa ⟨.i64, G, rfl, rfl⟩ (fa ⟨.i64, (a : Int), rfl, rfl⟩ (fa ⟨.i64, (b : Int), rfl, rfl⟩ (fa (okLs l rfl rfl) (fa (okLs (ivl t 32) rfl rfl) fz))))), fun base w0 E0 w vs H hv => ad_calls (G := G) (l := l) (n := n) (a := a) (b := b) (t0 := t) ((mlNm G l n a b k t (adRes (gA' l) (gB' l) n (usP l) a b t).2).val W) rfl rfl rfl rfl rfl hl hn hva ha hb hab F hm' rfl base w0 E0 w vs H hv⟩
  have htb : ∀ q, (adRes (gA' l) (gB' l) n (usP l) a b t).1 = q → @TbOK ((mlNm G l n a b k t (adRes (gA' l) (gB' l) n (usP l) a b t).2).val W) (mlTb q) := fun q hq => by
    letI : Val := (mlNm G l n a b k t (adRes (gA' l) (gB' l) n (usP l) a b t).2).val W
    refine { T := fa (f_add1 (m := (k : Int)) rfl rfl rfl (by omega) (by omega)) fz, LL := hLL _ _ _ _, U := ueU_ok _ (fa (hue q hq) fz), LX := ?_, IZ := fa rfl fz }
    cases q with
    | true => exact fz
    | false =>
      refine fa ⟨by kernel_rfl, ?_, ?_⟩ fz
      · show (0 : Int).toNat * (rangeR 100 32).length + (rangeR 100 32).length ≤ (ivl _ 32).length
        rw [ivl_len, show (rangeR 100 32).length = 32 from rfl]
        decide
      · show ((ivl (adRes (gA' l) (gB' l) n (usP l) a b t).2 32).drop ((0 : Int).toNat * (rangeR 100 32).length)).take (rangeR 100 32).length = (rangeR 100 32).map cv
        rw [rangeR_ml, show (0 : Int).toNat * (rangeR 100 32).length = 0 from rfl, List.drop_zero, show (rangeR 100 32).length = 32 from rfl]
        exact List.take_of_length_le (by rw [ivl_len]; exact Nat.le_refl _)
  cases hq : (adRes (gA' l) (gB' l) n (usP l) a b t).1 with
  | true =>
    cases m with
    | zero =>
      have := hm.1
      rw [hq] at this
      cases this
    | succ m =>
      have F2 := hsp.2 hq
      have w2 := weak hg.1 ha hb F2 (S := fun x => decide (x = a)) (decide_eq_true rfl) (decide_eq_false (Ne.symm hab))
      have c2 := cut_le (A := gA' l) (B := gB' l) (u := usP l) (fun x => decide (x = a)) n
      have hb32 : n ≤ 32 := ((validM_iff _ _ _).1 hva).2.2.1
      exact stepH_to _ [] (htb true hq) (.lst 30 31 :: mlS (sI 7)) [0, 1, 2, 3] rfl () (mlNm G l n a b (k + 1) (adRes (gA' l) (gB' l) n (usP l) a b t).2 (adRes (gA' l) (gB' l) n (usP l) a b (adRes (gA' l) (gB' l) n (usP l) a b t).2).2) ml_again (fun W' => holds_all (fa (okLs (ivl (adRes (gA' l) (gB' l) n (usP l) a b t).2 32) rfl rfl) (ml_ids G n a b l (sI 7) ((k : Int) + 1) rfl rfl rfl rfl rfl rfl rfl rfl rfl rfl rfl rfl))) ⟨m, by omega, _, k + 1, by omega, F2, hm.2, rfl⟩
  | false =>
    cases m with
    | succ m =>
      have := hm.1
      rw [hq] at this
      cases this
    | zero =>
      have e := hm.2
      refine stepH_outF _ [] (htb false hq) mlR ml_out ?_
      have h1 := (hsp.1 hq).1
      unfold mlV
      rw [e]
      show Value.tuple #[.agg ((rangeR 100 32).map (@cv ((mlNm G l n a b k t (adRes (gA' l) (gB' l) n (usP l) a b t).2).val W))).toArray, .int .i64 (k : Int)] = _
      rw [rangeR_ml, h1]
end
end Go.Proofs.Z

namespace Go.Proofs.Z
/-! Lanes taken out of the use of the gates. -/
section
variable (A B : Nat → Nat) (n : Nat) (u : Nat → Bool) (a b : Nat)
/-- A gate through which a lane leads on from x: the last one. -/
def owM (t : Nat → Int) (x : Nat) : Nat → Nat
  | 0 => 0
  | i + 1 => if wayF A B i x ≠ 0 ∧ t i = wayF A B i x then i else owM t x i
def TkRuns : Nat → Nat → (Nat → Int) → List Nat → List Nat × (Nat → Int) → Prop
  | 0, x, t, L, r => x = b ∧ r = (L, t)
  | m + 1, x, t, L, r => x ≠ b ∧ TkRuns m (othF A B (owM A B t x n) x) (updF t (owM A B t x n) 0) (L ++ [owM A B t x n]) r
def LeadsL : Nat → List Nat → Nat → Prop
  | x, [], y => x = y
  | x, i :: L, y => i < n ∧ u i = true ∧ wayF A B i x ≠ 0 ∧ LeadsL (othF A B i x) L y
/-- A lane on its way: x is where it has come to. -/
structure TkInv (k : Int) (x : Nat) (t : Nat → Int) : Prop where
  one : ∀ i, i < n → t i = -1 ∨ t i = 0 ∨ t i = 1
  use : ∀ i, i < n → t i ≠ 0 → u i = true
  net : ∀ v, netF A B t n v = k * (ind (decide (a = v)) - ind (decide (b = v))) + (ind (decide (x = v)) - ind (decide (b = v)))
variable {A B n u a b}
theorem net_pos {t : Nat → Int} {x : Nat} (h1 : ∀ i, i < n → t i = -1 ∨ t i = 0 ∨ t i = 1) (hne : ∀ i, i < n → A i ≠ B i) : ∀ k, k ≤ n → 0 < netF A B t k x → ∃ i, i < k ∧ wayF A B i x ≠ 0 ∧ t i = wayF A B i x
  | 0, _, h => by simp [netF] at h
  | k + 1, hk, h => by
    unfold netF at h
    by_cases h2 : 0 < netF A B t k x
    · obtain ⟨i, hi, h3⟩ := net_pos h1 hne k (by omega) h2
      exact ⟨i, by omega, h3⟩
    · have hkn : k < n := by omega
      have hpos : 0 < t k * (ind (decide (A k = x)) - ind (decide (B k = x))) := by omega
      refine ⟨k, Nat.lt_succ_self k, ?_⟩
      by_cases ha : A k = x
      · have hb : B k ≠ x := fun e => hne k hkn (ha.trans e.symm)
        rw [decide_eq_true ha, decide_eq_false hb] at hpos
        have hw : wayF A B k x = 1 := by unfold wayF; rw [if_pos ha.symm]
        rw [hw]
        rcases h1 k hkn with e | e | e <;> rw [e] at hpos ⊢ <;> simp [ind] at hpos ⊢
      · by_cases hb : B k = x
        · rw [decide_eq_false ha, decide_eq_true hb] at hpos
          have hw : wayF A B k x = -1 := by unfold wayF; rw [if_neg (Ne.symm ha), if_pos hb.symm]
          rw [hw]
          rcases h1 k hkn with e | e | e <;> rw [e] at hpos ⊢ <;> simp [ind] at hpos ⊢
        · rw [decide_eq_false ha, decide_eq_false hb] at hpos
          simp at hpos
theorem ow_ok {t : Nat → Int} {x : Nat} : ∀ k, (∃ i, i < k ∧ wayF A B i x ≠ 0 ∧ t i = wayF A B i x) → owM A B t x k < k ∧ wayF A B (owM A B t x k) x ≠ 0 ∧ t (owM A B t x k) = wayF A B (owM A B t x k) x
  | 0, ⟨i, hi, _⟩ => absurd hi (Nat.not_lt_zero _)
  | k + 1, ⟨i, hi, h⟩ => by
    unfold owM
    by_cases hc : wayF A B k x ≠ 0 ∧ t k = wayF A B k x
    · rw [if_pos hc]
      exact ⟨Nat.lt_succ_self k, hc⟩
    · rw [if_neg hc]
      have : i < k := by
        rcases Nat.lt_or_eq_of_le (Nat.le_of_lt_succ hi) with h1 | rfl
        · exact h1
        · exact absurd h hc
      obtain ⟨h1, h2⟩ := ow_ok k ⟨i, this, h⟩
      exact ⟨by omega, h2⟩
theorem tk_ow (hne : ∀ i, i < n → A i ≠ B i) {k : Nat} {x : Nat} {t : Nat → Int} (h : TkInv A B n u a b (k : Int) x t) (hx : x ≠ b) : owM A B t x n < n ∧ wayF A B (owM A B t x n) x ≠ 0 ∧ t (owM A B t x n) = wayF A B (owM A B t x n) x := by
  refine ow_ok n (net_pos h.one hne n (Nat.le_refl _) ?_)
  rw [h.net x, decide_eq_true rfl, decide_eq_false (Ne.symm hx)]
  by_cases e : a = x
  · rw [decide_eq_true e]
    show 0 < (k : Int) * (1 - 0) + (1 - 0)
    omega
  · rw [decide_eq_false e]
    simp [ind]
theorem tk_next (hne : ∀ i, i < n → A i ≠ B i) {k : Nat} {x : Nat} {t : Nat → Int} (h : TkInv A B n u a b (k : Int) x t) (hx : x ≠ b) : TkInv A B n u a b (k : Int) (othF A B (owM A B t x n) x) (updF t (owM A B t x n) 0) := by
  obtain ⟨g1, g2, g3⟩ := tk_ow hne h hx
  refine ⟨fun i hi => ?_, fun i hi hz => ?_, fun v => ?_⟩
  · unfold updF
    split
    · exact .inr (.inl rfl)
    · exact h.one i hi
  · unfold updF at hz
    split at hz
    · exact absurd rfl hz
    · exact h.use i hi hz
  · rw [net_upd, if_pos g1, h.net v, g3]
    unfold wayF othF at *
    by_cases h1 : x = A (owM A B t x n)
    · rw [if_pos h1, if_pos h1, ← h1]
      omega
    · rw [if_neg h1] at g2 ⊢
      rw [if_neg h1]
      by_cases h2 : x = B (owM A B t x n)
      · rw [if_pos h2, ← h2]
        omega
      · rw [if_neg h2] at g2
        exact absurd rfl g2
/-- How many of the first k gates are in use. -/
def usedC (t : Nat → Int) : Nat → Nat
  | 0 => 0
  | k + 1 => usedC t k + if t k = 0 then 0 else 1
theorem used_upd {t : Nat → Int} {i : Nat} (h : t i ≠ 0) : ∀ k, usedC t k = usedC (updF t i 0) k + if i < k then 1 else 0
  | 0 => rfl
  | k + 1 => by
    unfold usedC
    rw [used_upd h k]
    by_cases e : k = i
    · subst e
      rw [if_neg (Nat.lt_irrefl k), if_neg h, if_pos (Nat.lt_succ_self k)]
      have : updF t k 0 k = 0 := if_pos rfl
      rw [this, if_pos rfl]
    · have : updF t i 0 k = t k := if_neg e
      rw [this]
      by_cases h2 : i < k
      · rw [if_pos h2, if_pos (show i < k + 1 by omega)]
        omega
      · rw [if_neg h2, if_neg (show ¬ i < k + 1 by omega)]
        omega
theorem used_le (t : Nat → Int) : ∀ k, usedC t k ≤ k
  | 0 => Nat.le_refl _
  | k + 1 => by
    have := used_le t k
    unfold usedC
    split <;> omega
theorem ln_snoc : ∀ (L : List Nat) (x y i : Nat), LeadsL A B n u x L y → i < n → u i = true → wayF A B i y ≠ 0 → LeadsL A B n u x (L ++ [i]) (othF A B i y)
  | [], x, y, i, h, h1, h2, h3 => by
    have h : x = y := h
    subst h
    exact ⟨h1, h2, h3, rfl⟩
  | j :: L, x, y, i, ⟨g1, g2, g3, g4⟩, h1, h2, h3 => ⟨g1, g2, g3, ln_snoc L _ y i g4 h1 h2 h3⟩
/-- What a lane taken out comes to. -/
structure TkSpec (A B : Nat → Nat) (n : Nat) (u : Nat → Bool) (a b : Nat) (t : Nat → Int) (k : Nat) (r : List Nat × (Nat → Int)) : Prop where
  flow : IsFlow A B n u a b r.2 (k : Int)
  leads : LeadsL A B n u a r.1 b
  was : ∀ g, g ∈ r.1 → g < n ∧ t g ≠ 0 ∧ r.2 g = 0
  zero : ∀ g, t g = 0 → r.2 g = 0
  nodup : r.1.Nodup
  len : r.1.length ≤ n
theorem tk_spec (hne : ∀ i, i < n → A i ≠ B i) {k : Nat} {t0 : Nat → Int} {r : List Nat × (Nat → Int)} : ∀ (m x : Nat) (t : Nat → Int) (L : List Nat), TkInv A B n u a b (k : Int) x t → LeadsL A B n u a L x → (∀ g, g ∈ L → g < n ∧ t0 g ≠ 0 ∧ t g = 0) → (∀ g, t0 g = 0 → t g = 0) → L.Nodup → L.length + usedC t n ≤ n → TkRuns A B n b m x t L r → TkSpec A B n u a b t0 k r
  | 0, x, t, L, h, h1, h2, h3, h4, h5, ⟨e1, e2⟩ => by
    subst e2
    subst e1
    exact ⟨⟨h.one, h.use, fun v => by rw [h.net v]; omega⟩, h1, h2, h3, h4, by show L.length ≤ n; omega⟩
  | m + 1, x, t, L, h, h1, h2, h3, h4, h5, ⟨e1, e2⟩ => by
    obtain ⟨g1, g2, g3⟩ := tk_ow hne h e1
    have hu := h.use _ g1 (by rw [g3]; exact g2)
    have hz : t (owM A B t x n) ≠ 0 := by rw [g3]; exact g2
    refine tk_spec hne m _ _ _ (tk_next hne h e1) (ln_snoc L _ _ _ h1 g1 hu g2) (fun g hg => ?_) (fun g hg => ?_) ?_ ?_ e2
    · rcases List.mem_append.1 hg with hg | hg
      · obtain ⟨c1, c2, c3⟩ := h2 g hg
        refine ⟨c1, c2, ?_⟩
        unfold updF
        split
        · rfl
        · exact c3
      · rw [List.mem_singleton.1 hg]
        exact ⟨g1, fun e => hz (h3 _ e), if_pos rfl⟩
    · unfold updF
      split
      · rfl
      · exact h3 g hg
    · rw [List.nodup_append]
      refine ⟨h4, (by simp), fun x1 hx1 y1 hy1 e => ?_⟩
      rw [List.mem_singleton.1 hy1] at e
      rw [e] at hx1
      exact hz (h2 _ hx1).2.2
    · have := used_upd hz n
      rw [if_pos g1] at this
      rw [List.length_append]
      show L.length + 1 + _ ≤ n
      omega
theorem tk_runs (hne : ∀ i, i < n → A i ≠ B i) {k : Nat} : ∀ (N x : Nat) (t : Nat → Int) (L : List Nat), usedC t n ≤ N → TkInv A B n u a b (k : Int) x t → ∃ m r, TkRuns A B n b m x t L r := by
  intro N
  induction N with
  | zero =>
    intro x t L hN h
    by_cases hx : x = b
    · exact ⟨0, _, hx, rfl⟩
    · obtain ⟨g1, g2, g3⟩ := tk_ow hne h hx
      have := used_upd (t := t) (i := owM A B t x n) (by rw [g3]; exact g2) n
      rw [if_pos g1] at this
      omega
  | succ N ih =>
    intro x t L hN h
    by_cases hx : x = b
    · exact ⟨0, _, hx, rfl⟩
    · obtain ⟨g1, g2, g3⟩ := tk_ow hne h hx
      have := used_upd (t := t) (i := owM A B t x n) (by rw [g3]; exact g2) n
      rw [if_pos g1] at this
      obtain ⟨m, r, hm⟩ := ih _ _ (L ++ [owM A B t x n]) (by omega) (tk_next hne h hx)
      exact ⟨m + 1, r, hx, hm⟩
theorem tk_start {k : Nat} {t : Nat → Int} (F : IsFlow A B n u a b t ((k + 1 : Nat) : Int)) : TkInv A B n u a b (k : Int) a t :=
  ⟨F.one, F.use, fun v => by
    rw [F.net v, show ((k + 1 : Nat) : Int) = (k : Int) + 1 from rfl, Int.add_mul, Int.one_mul]⟩
variable (A B n a b)
open Classical in
noncomputable def tkRes (t : Nat → Int) : List Nat × (Nat → Int) := if h : ∃ m r, TkRuns A B n b m a t [] r then h.choose_spec.choose else ([], t)
variable {A B n a b}
theorem tkRes_ok (hne : ∀ i, i < n → A i ≠ B i) {k : Nat} {t : Nat → Int} (F : IsFlow A B n u a b t ((k + 1 : Nat) : Int)) : (∃ m, TkRuns A B n b m a t [] (tkRes A B n a b t)) ∧ TkSpec A B n u a b t k (tkRes A B n a b t) := by
  have h : ∃ m r, TkRuns A B n b m a t [] r := tk_runs hne _ a t [] (Nat.le_refl _) (tk_start F)
  have h2 : ∃ m, TkRuns A B n b m a t [] (tkRes A B n a b t) := by
    unfold tkRes
    rw [dif_pos h]
    exact ⟨_, h.choose_spec.choose_spec⟩
  obtain ⟨m, hm⟩ := h2
  refine ⟨⟨m, hm⟩, tk_spec hne m a t [] (tk_start F) rfl (by intro g hg; cases hg) (fun g hg => hg) List.nodup_nil ?_ hm⟩
  have := used_le t n
  show 0 + _ ≤ n
  omega
end
end Go.Proofs.Z

namespace Go.Proofs.Z
open Go Go.RowKit Go.Proofs Go.Ri Go.Proofs.Z.Fa
/-! onward, takeLane, Lanes: runs. -/
abbrev fTake : Nat := 104
abbrev fOnward : Nat := 121
abbrev fLanes : Nat := 56
/-! onward: 8 the grazing, 16 the gate so far. -/
def owA : List RV := [.ptr 1 0, fellS, sI 8]
def owH : RH := [some (.lstA 0), some (.lst 30 tTraffic false)]
noncomputable def owP : St := ⟨patW [(0, .ptr 1 0), (2, sI 8), (7, sI 16), (13, .slA 0 0 4), (14, sI 1), (15, sI 2)] 40 0, [some (.lstA 0), some (.lst 30 tTraffic false)]⟩
def owS (i g : RV) : List SE := [.int 0 (sI 0), .int 1 (sI 1), .int 2 i, .int 8 (sI 8), .int 16 g, .lst 0 0, .lst 30 30]
noncomputable def owE : Tb := { LL := [⟨0, 4, sI 1⟩] }
set_option maxRecDepth 100000 in
theorem ow_enter : atH (entH owE [] fOnward owA owH) fOnward 0 (owS (lI 0) (lI 0)) [0, 1] owP = true := by kernel_rfl
noncomputable def owTb (w : Nat) (e : Bool) : Tb := { T := hT true ++ (if w = 0 then [] else [⟨.inb, sI 2, lI 32, bR true⟩, ⟨.ieq, sI 15, adWay w, bR e⟩]), LL := [⟨0, 4, sI 1⟩], LX := ⟨0, 2, [sI 3, sI 4, sI 5, sI 6]⟩ :: (if w = 0 then [] else [⟨30, 2, [sI 15]⟩]), Y := [⟨fAcross, [gateQ, sI 8], adAc w⟩] }
set_option maxRecDepth 100000 in
theorem ow_again : (allU 3 fun w => all2 fun e => atH (fromH (owTb w e) [] fOnward 0 owP) fOnward 0 (owS (sI 7) (if !(Nat.beq w 0) && e then sI 2 else sI 16)) [0, 1] owP) = true := by kernel_rfl
set_option maxRecDepth 100000 in
theorem ow_out : endF { T := hT false, LL := [⟨0, 4, sI 1⟩] } fOnward (fromH { T := hT false, LL := [⟨0, 4, sI 1⟩] } [] fOnward 0 owP) (sI 16) = true := by kernel_rfl
/-- onward, where the use of the gates is the block b of the caller, at the name x. -/
noncomputable def owU (x : RV) (r : RV) : CallF := fun f args h => match args with
  | [.ptr b 0, .agg [.sym (.int .i64) 0, .slA 0 0 4], y] => match Nat.beq f fOnward && eqS y x, lkp h 0, lkp h b with
    | true, some (.lstA 0), some (.lst 30 e true) => match Nat.beq e tTraffic with | true => some (r, h) | false => none
    | _, _, _ => none
  | _ => none
/-! takeLane: 8 the grazing, 18 the gate, 19 the other side; lists: 30 the use of the gates, 31 then, 60 the lane so far, 61 then, 70 the lanes so far. -/
def tkH0 (c : Bool) (j : Nat) : RH := [some (.lstA 0), some (.cells [sI 0, .slA 0 0 4] tFell false false), some (.lst j tTraffic true)] ++ (if c then [some (.lstL 70 tInts 1)] else [])
def tkA : List RV := [.ptr 2 0, fellS, sI 20, sI 21]
def tkM (c : Bool) : Nat := if c then 4 else 3
noncomputable def tkP (c ne : Bool) : St := ⟨patW [(0, .ptr 2 0), (3, sI 21), (5, .ptr (tkM c) 0), (9, if ne then .slN (tkM c + 1) 60 1 else nilR), (10, sI 8)] 39 0, tkH0 c 30 ++ [some (.cells [sI 0, .slA 0 0 4] tFell false false)] ++ (if ne then [some (.lst 60 tInt true)] else [])⟩
def tkS (c : Bool) (x : RV) : List SE := [.int 0 (sI 0), .int 1 (sI 1), .int 8 x, .int 20 (sI 20), .int 21 (sI 21), .lst 0 0] ++ (if c then [.lst 70 70] else [])
noncomputable def tkE : Tb := { LL := [⟨0, 4, sI 1⟩] }
set_option maxRecDepth 100000 in
theorem tk_enter : (all2 fun c => atH (entH tkE [] fTake tkA (tkH0 c 30)) fTake 0 (.lst 30 30 :: tkS c (sI 20)) (List.range (tkM c) ++ [tkM c]) (tkP c false)) = true := by kernel_rfl
noncomputable def tkTb (w : Nat) (ne : Bool) : Tb := { T := [⟨.ieq, sI 8, sI 21, bR false⟩, ⟨.inb, sI 18, sI 1, bR true⟩, ⟨.inb, sI 18, lI 32, bR true⟩], LL := [⟨0, 4, sI 1⟩], LX := [⟨0, 18, [sI 3, sI 4, sI 5, sI 6]⟩], LW := [⟨30, 18, lI 0, 31⟩], LA := if ne then [⟨60, [sI 18], 61⟩] else [], Y := [⟨fAcross, [gateQ, sI 8], adTW w⟩], U := owU (sI 8) (sI 18) }
def tkLS (ne : Bool) : SE := if ne then .lst 60 61 else .new 60 [sI 18]
set_option maxRecDepth 100000 in
theorem tk_again : (allU 3 fun w => Nat.beq w 0 || all2 fun c => all2 fun ne => atH (fromH (tkTb w ne) [] fTake 0 (tkP c ne)) fTake 0 (.lst 30 31 :: tkLS ne :: tkS c (sI 19)) (List.range (tkM c) ++ [tkM c, if ne then tkM c + 3 else tkM c + 2]) (tkP c true)) = true := by kernel_rfl
noncomputable def tkEd : Tb := { T := [⟨.ieq, sI 8, sI 21, bR true⟩], LL := [⟨0, 4, sI 1⟩] }
def tkK (c : Bool) : RH := tkH0 c 31 ++ [some (.lst 62 tInt true)]
set_option maxRecDepth 100000 in
theorem tk_out : (all2 fun c => endQ tkEd fTake (fromH tkEd [] fTake 0 (tkP c true)) ([.int 0 (sI 0), .lst 0 0, .lst 31 30, .lst 62 60] ++ if c then [.lst 70 70] else []) (List.range (tkM c) ++ [tkM c + 1]) (.slN (tkM c) 62 1) (tkK c)) = true := by kernel_rfl
/-! A call that changes what is there, and answers over blocks behind it; there are no others. -/
noncomputable def unFit (e : UE) (f : FuncId) (args : List RV) (h : RH) : Bool :=
  match Nat.beq e.f f && Nat.beq h.length e.h.length && nodupR (List.range e.h.length) with
  | true => match mtH (mtO e.S h (List.range e.h.length)) h (List.range e.h.length) e.h with
    | true => mtL (mt2 e.S h (List.range e.h.length)) args e.a
    | false => false
  | false => false
noncomputable def unU (T : List UE) : CallF := fun f args h =>
  List.rec (motive := fun _ => Option (RV × RH)) none (fun e _ ih => match unFit e f args h with
    | true => some (e.r, e.k)
    | false => ih) T
section
variable [Val]
def UNTrue (e : UE) : Prop := Holds e.S inferInstance inferInstance ∧ ∀ base w0 E0 w vs, HInv ro base w0 E0 e.h w → All2 (VRel E0) e.a vs → Calls Tryz.prog e.f vs.toArray w (fun x w' => ∃ v E', x = .returned v ∧ E0 <+: E' ∧ VRel E' e.r v ∧ HInv ro base w0 E' e.k w')
theorem unU_ok (T : List UE) (hT : ∀ e, e ∈ T → UNTrue e) : UOK (unU T) := by
  intro f args h r h' hu base w0 E w vs H ha
  induction T with
  | nil => cases hu
  | cons e T ih =>
    have hu : (match unFit e f args h with
      | true => some (e.r, e.k)
      | false => unU T f args h) = some (r, h') := hu
    split at hu
    · rename_i hfit
      cases hu
      unfold unFit at hfit
      split at hfit
      · rename_i hn
        simp only [Bool.and_eq_true] at hn
        split at hfit
        · rename_i hh
          obtain rfl := Nat.eq_of_beq_eq_true hn.1.1
          have hlen := Nat.eq_of_beq_eq_true hn.1.2
          obtain ⟨hS, hc⟩ := hT e List.mem_cons_self
          have H0 := mtH_inv hS hn.2 hh H
          have ha0 := all2_trans (E' := pickE (List.range e.h.length) E) (fun r q v hx hv => mt2_ok hS hx hv) (mtL_spec _ _ hfit) ha
          have hE : pickE (List.range e.h.length) E = E := by
            rw [pick_rng (by rw [← H.len, hlen]; exact Nat.le_refl _)]
            exact List.take_of_length_le (by rw [← H.len, hlen]; exact Nat.le_refl _)
          rw [hE] at H0 ha0
          exact hc base w0 E w vs H0 ha0
        · cases hfit
      · cases hfit
    · exact ih (fun e he => hT e (List.mem_cons_of_mem _ he)) hu
omit [Val] in
/-- Out to an answer over blocks behind those that are there. -/
theorem stepH_outN {κ : Type} {f : FuncId} {ix : κ → Nat} {pat : κ → St} {base : Nat} {w0 : World} {E0 : Env} {nx : κ → Nm → Prop} {k : κ} {c : Nm} {W : Nat → Value} (t : Tb) (plan : List Bool) (ht : @TbOK (c.val W) t)
    (V : Val) (S : List SE) (R : List Nat) (hR : R.take E0.length = List.range E0.length) (r0 : RV) (h0 : RH) (h : endQ t f (fromH t plan f (ix k) (pat k)) S R r0 h0 = true) (hw : isW r0 = false) (hS : Holds S (c.val W) V) :
    StepH f ix pat base w0 E0 (fun x w' => ∃ v E', x = .returned v ∧ E0 <+: E' ∧ @VRel V E' r0 v ∧ @HInv V ro base w0 E' h0 w') nx k c W := by
  unfold endQ at h
  split at h
  · rename_i r h' hr
    exact ⟨t, plan, ht, .inr ⟨r, h', hr, fun E u w' hE hu H => ⟨u, pickE R E, rfl, pick_pre hR hE, mtQ_ok h hw hS hu H⟩⟩⟩
  · cases h
/-- onward's contract, as a call that only reads. -/
theorem owU_ok (x r : RV) (hr : flat r = true) (hx : flat0 x = true) (hc : ∀ (E0 : Env) (w : World) (vs : List Value), RoIn ro w → HInv ro w.heap.size w E0 owH w → All2 (VRel E0) [.ptr 1 0, fellS, x] vs → Calls Tryz.prog fOnward vs.toArray w (fun e w' => e = .returned (cvF r) ∧ Below w.heap.size w w')) : UOK (owU x r) := by
  intro f args h r' h' hu base w0 E w vs H ha
  unfold owU at hu
  split at hu
  · rename_i b y
    split at hu
    · rename_i e hq h0 hb
      split at hu
      · rename_i he
        cases hu
        simp only [Bool.and_eq_true] at hq
        obtain rfl := Nat.eq_of_beq_eq_true hq.1
        obtain rfl := Nat.eq_of_beq_eq_true he
        have hy := eqS_eq hq.2
        subst hy
        rw [lkp_eq] at h0 hb
        obtain ⟨p0, k0, g0, B0⟩ := H.blk 0 _ h0
        obtain ⟨pb, kb, gb, Bb⟩ := H.blk b _ hb
        have hl : All2 (LentN w) owH [p0, pb] := by
          refine .cons ⟨_, rfl, rfl, fun E' => B0⟩ (.cons ⟨_, rfl, rfl, fun E' => ?_⟩ .nil)
          obtain ⟨cur, fr, c1, c2, c3, c4⟩ := Bb
          exact ⟨cur, fr, c1, c2, c3, fun e => by cases e⟩
        have H2 := HInv.lentN H.roIn hl
        have hv2 : All2 (VRel [p0, pb]) [.ptr 1 0, fellS, y] vs := by
          cases ha with
          | cons a1 a2 => cases a2 with
            | cons a2 a3 => cases a3 with
              | cons a3 a4 =>
                cases a4
                refine .cons ?_ (.cons ?_ (.cons (flat0_rel hx a3) .nil))
                · obtain ⟨p, q1, q2⟩ := a1
                  rw [kb] at q1
                  cases q1
                  exact ⟨pb, rfl, q2⟩
                · obtain ⟨l', rfl, q⟩ := a2
                  refine ⟨l', rfl, ?_⟩
                  rw [VRels_iff] at q ⊢
                  generalize l'.toList = ul at q
                  cases q with
                  | cons q1 q2 => cases q2 with
                    | cons q2 q3 =>
                      cases q3
                      refine .cons q1 (.cons ?_ .nil)
                      obtain ⟨p, oa, m, cap, c1, c2⟩ := q2
                      rw [k0] at c1
                      cases c1
                      exact ⟨p0, oa, m, cap, rfl, c2⟩
        refine (hc [p0, pb] w vs H.roIn H2 hv2).mono fun e w' ⟨h1, h2⟩ => ?_
        exact ⟨cvF r, E, h1, List.prefix_refl _, rel_cvF hr, H.world h2⟩
      · cases hu
    · cases hu
  · cases hu
end
end Go.Proofs.Z
