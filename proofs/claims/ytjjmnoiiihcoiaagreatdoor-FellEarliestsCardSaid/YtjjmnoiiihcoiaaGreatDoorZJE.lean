/- A part of the proofs that the laws of layer four answer true for every input. -/
import Derived.Test.YtjjmnoiiihcoiaaGreatDoorZJB
namespace Go.Proofs.Z
open Go Go.RowKit Go.Proofs Go.Ri Go.Proofs.Z.Fa
/-! onePassMore: runs. -/
abbrev fOnePass : Nat := 116
abbrev tStarts : Nat := 100
def rangeR (k : Nat) : Nat → List RV
  | 0 => []
  | n + 1 => rangeR k n ++ [sI (k + n)]
def m16 : List RV := rangeR 40 16
def s16 : List RV := rangeR 60 16
def z16 : List RV := List.replicate 16 (lI 0)
def omB : List (Option RO) := fellB ++ [some (.cells s16 tStarts false false), some (.cells z16 tStarts false false), some (.cells m16 tStarts false false)]
def omD : List RV := [fellR, .agg s16]
noncomputable def omP (x : Nat) : St := ⟨patW [(2, .ptr 1 0), (3, .ptr 2 0), (4, .ptr 3 0), (5, .ptr 4 0), (11, lI x)] 45 0, omB⟩
noncomputable def omI (x : Nat) : St := ⟨patW [(2, .ptr 1 0), (3, .ptr 2 0), (4, .ptr 3 0), (5, .ptr 4 0), (6, lI x), (11, lI x), (17, .slA 0 0 4), (18, sI 1), (19, sI 2)] 45 0, omB⟩
/-- The names from k on. -/
def idR (k : Nat) : Nat → List Nat
  | 0 => []
  | n + 1 => idR k n ++ [k + n]
def omS : List SE := .lst 0 0 :: idI ([0, 1] ++ idR 60 16)
noncomputable def omE : Tb := { LL := hLL }
noncomputable def omLB : Code := hB omE [] fOnePass omD
noncomputable def omLK : List Fr := hK omE [] fOnePass omD
def m0S (r : Nat → RV) : Nat → List SE
  | 0 => []
  | n + 1 => m0S r n ++ [.int (40 + n) (r n)]
set_option maxRecDepth 100000 in
theorem om_enter : enterT omE [] fOnePass omD (m0S (fun _ => lI 0) 16 ++ omS) [0, 1, 2, 3, 4] (omP 0) = true := by kernel_rfl
def mS (x : Nat) (r : RV) : List SE := m0S (fun j => if j = x then r else sI (40 + j)) 16
noncomputable def omIn (x : Nat) : Option Stop := bodT omE [] omLB (omP x)
set_option maxRecDepth 100000 in
theorem om_in : (allU 16 fun x => enterH (omIn x) (.int 2 (lI 0) :: (mS x (lI (-1)) ++ omS)) [0, 1, 2, 3, 4] (omI x)) = true := by kernel_rfl
noncomputable def omTb (x : Nat) (pa mx : Bool) : Tb := { T := hT true ++ [⟨.inb, if pa then sI 4 else sI 3, lI 16, bR true⟩, ⟨.bin .gtr, sI 37, sI (40 + x), bR mx⟩], LL := hLL, LX := hLX true, N := [⟨s16, if pa then 4 else 3, [sI 36]⟩], Y := [⟨fAcross, [gateQ, lI x], acR pa (!pa)⟩, ⟨fClosing, [gateQ, sI 36], sI 37⟩] }
noncomputable def omTn (x : Nat) : Tb := { T := hT true, LL := hLL, LX := hLX true, Y := [⟨fAcross, [gateQ, lI x], acR false false⟩] }
def omR (x : Nat) (mx : Bool) : RV := if mx then sI 37 else sI (40 + x)
set_option maxRecDepth 100000 in
theorem om_again : (allU 16 fun x => all2 fun pa => all2 fun mx => againT (omTb x pa mx) [] (hbB (omIn x)) (hbK (omIn x)) (omI x) (.int 2 (sI 7) :: (mS x (omR x mx) ++ omS)) [0, 1, 2, 3, 4] (omI x)) = true := by kernel_rfl
set_option maxRecDepth 100000 in
theorem om_again3 : (allU 16 fun x => againT (omTn x) [] (hbB (omIn x)) (hbK (omIn x)) (omI x) (.int 2 (sI 7) :: (mS x (sI (40 + x)) ++ omS)) [0, 1, 2, 3, 4] (omI x)) = true := by kernel_rfl
set_option maxRecDepth 100000 in
theorem om_back : (allU 16 fun x => backT hEnd [] (hbB (omIn x)) (hbK (omIn x)) (omI x) (mS x (sI (40 + x)) ++ omS) [0, 1, 2, 3, 4] (omP (x + 1))) = true := by kernel_rfl
set_option maxRecDepth 100000 in
theorem om_out : outF {} [] fOnePass omLB omLK (omP 16) (.agg m16) = true := by kernel_rfl
end Go.Proofs.Z

namespace Go.Proofs.Z
open Go Go.RowKit Go.Proofs Go.Ri Go.Proofs.Z.Fa
/-! onePassMore: its contract. -/
def ivl (f : Nat → Int) : Nat → List Value
  | 0 => []
  | n + 1 => ivl f n ++ [.int .i64 (f n)]
theorem ivl_len (f : Nat → Int) : ∀ n, (ivl f n).length = n
  | 0 => rfl
  | n + 1 => by
    show (ivl f n ++ [_]).length = n + 1
    rw [List.length_append, ivl_len f n]
    rfl
theorem ivl_get (f : Nat → Int) : ∀ n j, j < n → (ivl f n)[j]? = some (.int .i64 (f j))
  | n + 1, j, hj => by
    show (ivl f n ++ [_])[j]? = _
    rcases Nat.lt_or_eq_of_le (Nat.le_of_lt_succ hj) with h | rfl
    · rw [List.getElem?_append_left (by rw [ivl_len]; exact h)]
      exact ivl_get f n j h
    · rw [List.getElem?_append_right (by rw [ivl_len]; exact Nat.le_refl _), ivl_len, Nat.sub_self]
      rfl
theorem ivl_congr {f g : Nat → Int} : ∀ n, (∀ j, j < n → f j = g j) → ivl f n = ivl g n
  | 0, _ => rfl
  | n + 1, h => by
    show ivl f n ++ [_] = ivl g n ++ [_]
    rw [ivl_congr n fun j hj => h j (by omega), h n (by omega)]
theorem ivl_row {f : Nat → Int} {n j : Nat} (hj : j < n) : ((ivl f n).drop (j * 1)).take 1 = [.int .i64 (f j)] := by
  rw [row1 j (by rw [ivl_len]; exact hj), List.getD_eq_getElem?_getD, ivl_get f n j hj]
  rfl
theorem rangeR_cv [Val] (k : Nat) : ∀ n, (rangeR k n).map cv = ivl (fun j => Val.I (k + j)) n
  | 0 => rfl
  | n + 1 => by
    show (rangeR k n ++ [sI (k + n)]).map cv = ivl _ n ++ [_]
    rw [List.map_append, rangeR_cv k n]
    rfl
theorem idR_mem {k i : Nat} : ∀ {n}, i ∈ idR k n → ∃ j, j < n ∧ i = k + j
  | n + 1, h => by
    rcases List.mem_append.1 (show i ∈ idR k n ++ [k + n] from h) with h | h
    · obtain ⟨j, h1, h2⟩ := idR_mem h
      exact ⟨j, by omega, h2⟩
    · exact ⟨n, Nat.lt_succ_self n, List.mem_singleton.1 h⟩
theorem m0S_ok {V V' : Val} {r : Nat → RV} : ∀ n, (∀ j, j < n → okSE V V' (.int (40 + j) (r j))) → ∀ e, e ∈ m0S r n → okSE V V' e
  | 0, _ => fz
  | n + 1, h => fapp (m0S_ok n fun j hj => h j (by omega)) (fa (h n (by omega)) fz)
/-- Names with two rows of sixteen. -/
def rnm (G : Int) (l : List Value) (n k : Nat) (x : Nat → Int) (M s : Nat → Int) (z : Nat → List Value) : Nm :=
  gnm G l n k (fun i => if i < 40 then x i else if i < 60 then M (i - 40) else s (i - 60)) ny z
section
variable {G : Int} {l : List Value} {n k : Nat} {x : Nat → Int} {M s : Nat → Int} {z : Nat → List Value}
theorem rnm_M {j : Nat} (hj : j < 16) : (rnm G l n k x M s z).I (40 + j) = M j := by
  show (if 40 + j = 0 then G else if 40 + j = 1 then (n : Int) else if 40 + j = 2 then (k : Int) else if 40 + j = 3 then gtA l k else if 40 + j = 4 then gtB l k else if 40 + j = 5 then gtF l k else if 40 + j = 6 then gtT l k else if 40 + j = 7 then (k : Int) + 1 else if 40 + j < 40 then x (40 + j) else if 40 + j < 60 then M (40 + j - 40) else s (40 + j - 60)) = M j
  rw [if_neg (by omega), if_neg (by omega), if_neg (by omega), if_neg (by omega), if_neg (by omega), if_neg (by omega), if_neg (by omega), if_neg (by omega), if_neg (by omega), if_pos (by omega), Nat.add_sub_cancel_left]
theorem rnm_s {j : Nat} : (rnm G l n k x M s z).I (60 + j) = s j := by
  show (if 60 + j = 0 then G else if 60 + j = 1 then (n : Int) else if 60 + j = 2 then (k : Int) else if 60 + j = 3 then gtA l k else if 60 + j = 4 then gtB l k else if 60 + j = 5 then gtF l k else if 60 + j = 6 then gtT l k else if 60 + j = 7 then (k : Int) + 1 else if 60 + j < 40 then x (60 + j) else if 60 + j < 60 then M (60 + j - 40) else s (60 + j - 60)) = s j
  rw [if_neg (by omega), if_neg (by omega), if_neg (by omega), if_neg (by omega), if_neg (by omega), if_neg (by omega), if_neg (by omega), if_neg (by omega), if_neg (by omega), if_neg (by omega), Nat.add_sub_cancel_left]
theorem s16_cv (W : Nat → Value) : s16.map (@cv ((rnm G l n k x M s z).val W)) = ivl s 16 :=
  (@rangeR_cv ((rnm G l n k x M s z).val W) 60 16).trans (ivl_congr 16 fun _ _ => rnm_s)
theorem m16_cv (W : Nat → Value) : m16.map (@cv ((rnm G l n k x M s z).val W)) = ivl M 16 :=
  (@rangeR_cv ((rnm G l n k x M s z).val W) 40 16).trans (ivl_congr 16 fun _ hj => rnm_M hj)
theorem m16_agg (W : Nat → Value) : @cvF ((rnm G l n k x M s z).val W) (.agg m16) = .agg (ivl M 16).toArray := by
  rw [← m16_cv (G := G) (l := l) (n := n) (k := k) (x := x) (s := s) (z := z) W]
  rfl
theorem s16_agg (W : Nat → Value) : @cvF ((rnm G l n k x M s z).val W) (.agg s16) = .agg (ivl s 16).toArray := by
  rw [← s16_cv (G := G) (l := l) (n := n) (k := k) (x := x) (M := M) (z := z) W]
  rfl
theorem omS_ok {k' : Nat} {x' : Nat → Int} {M' : Nat → Int} {z' : Nat → List Value} (W W' : Nat → Value) : ∀ e, e ∈ omS → okSE ((rnm G l n k x M s z).val W) ((rnm G l n k' x' M' s z').val W') e := by
  refine fa (show l = l from rfl) (ids_ok _ (fapp (fa rfl (fa rfl fz)) fun i hi => ?_))
  obtain ⟨j, _, rfl⟩ := idR_mem hi
  exact rnm_s.trans rnm_s.symm
theorem mS_ok {y : Nat} {r : RV} {k' : Nat} {x' : Nat → Int} {M' : Nat → Int} {z' : Nat → List Value} {v : Int} (W W' : Nat → Value) (hr : @cv ((rnm G l n k x M s z).val W) r = .int .i64 v) (hy : M' y = v) (ho : ∀ j, j ≠ y → M' j = M j) : ∀ e, e ∈ mS y r → okSE ((rnm G l n k x M s z).val W) ((rnm G l n k' x' M' s z').val W') e := by
  refine m0S_ok 16 fun j hj => ?_
  show okSE _ _ (.int (40 + j) (if j = y then r else sI (40 + j)))
  by_cases e : j = y
  · subst e
    rw [if_pos rfl]
    exact ⟨.i64, v, hr, (rnm_M hj).trans hy⟩
  · rw [if_neg e]
    exact ⟨.i64, M j, congrArg (Value.int .i64) (rnm_M hj), (rnm_M hj).trans (ho j e)⟩
end
end Go.Proofs.Z

namespace Go.Proofs.Z
open Go Go.RowKit Go.Proofs Go.Ri Go.Proofs.Z.Fa
/-! onePassMore: its contract. -/
/-- The names in its loops: at grazing x, at gate k; M: what there is of the answer, s: the argument. -/
def opn (G : Int) (l : List Value) (n : Nat) (s : Nat → Int) (x k : Nat) (M : Nat → Int) : Nm := rnm G l n k (fun i => if i = 36 then s (nextG l k x).toNat else closingM (gtF l k) (gtT l k) (s (nextG l k x).toNat)) M s nz
/-- The answer, up to gate k of grazing x. -/
def opM (l : List Value) (n : Nat) (s : Nat → Int) (x k : Nat) (j : Nat) : Int := if j < x then stX l s j n else if j = x then stX l s x k else 0
def opM0 (l : List Value) (n : Nat) (s : Nat → Int) (x : Nat) (j : Nat) : Int := if j < x then stX l s j n else 0
theorem inb_ok {V : Val} {i : RV} {m n : Int} (hi : @cv V i = .int .i64 m) (h0 : 0 ≤ m) (h1 : m < n) : @TETrue V ⟨.inb, i, .pl (.int .i64 n), bR true⟩ :=
  ⟨rfl, .i64, .i64, m, n, hi, rfl, congrArg Value.bool (decide_eq_true ⟨h0, h1⟩).symm⟩
section
variable (V : Val) {G : Int} {l : List Value} {n : Nat} {s : Nat → Int}
set_option maxHeartbeats 1000000 in
theorem onePass_ans (hG : V.I 0 = G) (hL : V.L 0 = l) (hl : ints l) (hn : l.length = n * 4) (hva : validM G l n = true) (hs : ∀ x, -1 ≤ s x ∧ s x ≤ 10000000) {r : RV} (fr : flat r = true) (hr0 : @cvF V r = .agg (ivl s 16).toArray) :
    @AnsN V fOnePass [fellR, r] (.agg (ivl (fun x => stX l s x n) 16).toArray) := by
  intro w hr vs hv
  have hb : n ≤ 32 := ((validM_iff _ _ _).1 hva).2.2.1
  have hv : All2 (@Go.Ri.NVal ((opn G l n s 0 0 fun _ => 0).val fun _ => undef) w) omD vs := by
    cases hv with
    | cons h1 h2 => cases h2 with
      | cons h2 h3 =>
        cases h3
        exact .cons (fell_nval1 hG hL h1) (.cons (nval_re fr (y := .agg s16) rfl hr0 (s16_agg _) h2) .nil)
  have htE : ∀ x k M W, @TbOK ((opn G l n s x k M).val W) omE := fun x k M W => by
    letI : Val := (opn G l n s x k M).val W
    exact { LL := hLL_ok _ _ _ hn k W }
  refine fn_loopO (κ := Nat) (opn G l n s 0 0 fun _ => 0) (fun _ => undef) omE [] fOnePass omD omP (fun m x nm => x ≤ 16 ∧ m = 16 - x ∧ nm = opn G l n s x 0 (opM0 l n s x)) (htE 0 0 _ _) (m0S (fun _ => lI 0) 16 ++ omS) [0, 1, 2, 3, 4] 0 16 om_enter (opn G l n s 0 0 (opM0 l n s 0)) (fun W' => holds_all (fapp (m0S_ok 16 fun j hj => ⟨.i64, 0, rfl, rnm_M hj⟩) (omS_ok _ W'))) ⟨by omega, rfl, rfl⟩ (DF (.agg (ivl (fun x => stX l s x n) 16).toArray)) ?_ w hr vs hv
  rintro w m x nm ⟨hx, rfl, rfl⟩ W
  rcases Nat.lt_or_eq_of_le hx with hlt | rfl
  · refine .inr ⟨Unit, omE, [], .int 2 (lI 0) :: (mS x (lI (-1)) ++ omS), [0, 1, 2, 3, 4], fun _ => omI x, fun m _ nm => ∃ k, k ≤ n ∧ nm = opn G l n s x k (opM l n s x k) ∧ m = n - k, n, (), opn G l n s x 0 (opM l n s x 0), htE x 0 _ W, fun W' => holds_all (fa ⟨.i64, 0, rfl, rfl⟩ (fapp (mS_ok W W' rfl (if_neg (Nat.lt_irrefl x) |>.trans (if_pos rfl)) fun j hj => ?_) (omS_ok W W'))), allU_lt om_in x hlt, ⟨0, Nat.zero_le _, rfl, rfl⟩, ?_⟩
    · unfold opM opM0
      by_cases h : j < x
      · rw [if_pos h, if_pos h]
      · rw [if_neg h, if_neg h, if_neg hj]
    · rintro m _ nm ⟨k, hk, rfl, rfl⟩ W
      letI : Val := (opn G l n s x k (opM l n s x k)).val W
      rcases Nat.lt_or_ge k n with hkn | hge
      · obtain ⟨a0, a1, b0, b1, _, _⟩ := gate_range hva hkn
        have hg := (gOk_iff _ _ _ _ _).1 (okL_at ((validM_iff _ _ _).1 hva).2.2.2 hkn)
        have hac := across_ans (gtA l k) (gtB l k) (gtF l k) (gtT l k) (x : Int)
        have hnx : ∀ v : Int, stX l s x (k + 1) = v → ∀ j, j ≠ x → opM l n s x (k + 1) j = opM l n s x k j := fun v _ j hj => by
          unfold opM
          by_cases h : j < x
          · rw [if_pos h, if_pos h]
          · rw [if_neg h, if_neg h, if_neg hj, if_neg hj]
        have hat : ∀ q, opM l n s x q x = stX l s x q := fun q => (if_neg (Nat.lt_irrefl x)).trans (if_pos rfl)
        have hmx : (opn G l n s x k (opM l n s x k)).I (40 + x) = stX l s x k := (rnm_M hlt).trans (hat k)
        have key : ∀ pa : Bool, acV (gtA l k) (gtB l k) (x : Int) = cvF (acR pa (!pa)) → (if pa then gtB l k else gtA l k) = nextG l k x → tch l k x = true → StepI (hbB (omIn x)) (hbK (omIn x)) (fun _ => omI x) omP (fun k2 c2 => ∃ n', n' < n - k ∧ ∃ k, k ≤ n ∧ c2 = opn G l n s x k (opM l n s x k) ∧ n' = n - k) (fun k' c' => ∃ n', n' < 16 - x ∧ k' ≤ 16 ∧ n' = 16 - k' ∧ c' = opn G l n s k' 0 (opM0 l n s k')) () (opn G l n s x k (opM l n s x k)) W := by
          intro pa hpa hnext htc
          have hnn := next_nat hva hkn (x : Int)
          have hi : cv (if pa then sI 4 else sI 3) = .int .i64 (nextG l k x) := by
            rw [← hnext]
            cases pa <;> rfl
          have hi2 : (Val.I (if pa then 4 else 3)) = nextG l k x := by
            rw [← hnext]
            cases pa <;> rfl
          have hcl := closing_ans (gtA l k) (gtB l k) (gtF l k) (gtT l k) (s (nextG l k x).toNat) hg.2.2.2.1 hg.2.2.2.2.1 hg.2.2.2.2.2.1 hg.2.2.2.2.2.2 (hs _).1 (hs _).2
          rw [hpa] at hac
          have tb : TbOK (omTb x pa (decide (stX l s x k < closingM (gtF l k) (gtT l k) (s (nextG l k x).toNat)))) := {
            T := fapp (hT_ok _ _ _ (by omega) W (by simp [hkn])) (fa (inb_ok hi hnn.1 hnn.2.1) (fa (f_gtr (k := .i64) (m := closingM (gtF l k) (gtT l k) (s (nextG l k x).toNat)) (n := stX l s x k) rfl (congrArg (Value.int .i64) hmx) rfl) fz))
            LL := hLL_ok _ _ _ hn k W
            LX := hLX_ok _ _ _ hl hn hkn W
            N := fa ⟨rfl, rfl, by
              show (Val.I (if pa then 4 else 3)).toNat * 1 + 1 ≤ 16
              rw [hi2]
              omega, by
              show ((s16.map cv).drop ((Val.I (if pa then 4 else 3)).toNat * 1)).take 1 = _
              rw [hi2]
              have e16 : s16.map (@cv ((opn G l n s x k (opM l n s x k)).val W)) = ivl s 16 := s16_cv W
              exact (congrArg (fun q : List Value => (q.drop ((nextG l k x).toNat * 1)).take 1) e16).trans ((ivl_row (by omega)).trans rfl)⟩ fz
            Y := fa hac (fa hcl fz) }
          refine ⟨_, [], tb, .inl ⟨.int 2 (sI 7) :: (mS x (omR x (decide (stX l s x k < closingM (gtF l k) (gtT l k) (s (nextG l k x).toNat)))) ++ omS), _, (), opn G l n s x (k + 1) (opM l n s x (k + 1)), ⟨n - (k + 1), by omega, k + 1, hkn, rfl, rfl⟩, fun W' => holds_all (fa ⟨.i64, (k : Int) + 1, rfl, rfl⟩ (fapp (mS_ok (v := stX l s x (k + 1)) W W' ?_ (hat _) (hnx _ rfl)) (omS_ok W W'))), all2_all (all2_all (allU_lt om_again x hlt) pa) _⟩⟩
          have e : stX l s x (k + 1) = if stX l s x k < closingM (gtF l k) (gtT l k) (s (nextG l k x).toNat) then closingM (gtF l k) (gtT l k) (s (nextG l k x).toNat) else stX l s x k := if_pos htc
          rw [e]
          by_cases hc : stX l s x k < closingM (gtF l k) (gtT l k) (s (nextG l k x).toNat)
          · rw [if_pos hc, decide_eq_true hc]
            rfl
          · rw [if_neg hc, decide_eq_false hc]
            exact congrArg (Value.int .i64) hmx
        by_cases ha : (x : Int) = gtA l k
        · exact key true (if_pos ha) (if_pos ha.symm).symm (tch_iff.2 (.inl ha))
        · by_cases hb2 : (x : Int) = gtB l k
          · exact key false ((if_neg ha).trans (if_pos hb2)) (if_neg fun h => ha h.symm).symm (tch_iff.2 (.inr hb2))
          · have hno : tch l k x = false := by
              rw [Bool.eq_false_iff]
              intro h
              exact (tch_iff.1 h).elim ha hb2
            rw [show acV (gtA l k) (gtB l k) (x : Int) = cvF (acR false false) from (if_neg ha).trans (if_neg hb2)] at hac
            have tb : TbOK (omTn x) := { T := hT_ok _ _ _ (by omega) W (by simp [hkn]), LL := hLL_ok _ _ _ hn k W, LX := hLX_ok _ _ _ hl hn hkn W, Y := fa hac fz }
            have e : stX l s x (k + 1) = stX l s x k := if_neg (by rw [hno]; decide)
            exact ⟨_, [], tb, .inl ⟨.int 2 (sI 7) :: (mS x (sI (40 + x)) ++ omS), _, (), opn G l n s x (k + 1) (opM l n s x (k + 1)), ⟨n - (k + 1), by omega, k + 1, hkn, rfl, rfl⟩, fun W' => holds_all (fa ⟨.i64, (k : Int) + 1, rfl, rfl⟩ (fapp (mS_ok (v := stX l s x (k + 1)) W W' (by rw [e]; exact congrArg (Value.int .i64) hmx) (hat _) (hnx _ rfl)) (omS_ok W W'))), allU_lt om_again3 x hlt⟩⟩
      · obtain rfl : k = n := by omega
        have tb : TbOK hEnd := { T := hT_ok _ _ _ (by omega) W (by simp), LL := hLL_ok _ _ _ hn k W }
        refine ⟨_, [], tb, .inr ⟨mS x (sI (40 + x)) ++ omS, _, x + 1, opn G l k s (x + 1) 0 (opM0 l k s (x + 1)), ⟨16 - (x + 1), by omega, by omega, rfl, rfl⟩, fun W' => holds_all (fapp (mS_ok (r := sI (40 + x)) (v := stX l s x k) W W' (congrArg (Value.int .i64) ((rnm_M (M := opM l k s x k) hlt).trans ((if_neg (Nat.lt_irrefl x)).trans (if_pos rfl)))) (if_pos (Nat.lt_succ_self x)) fun j hj => ?_) (omS_ok W W')), allU_lt om_back x hlt⟩⟩
        unfold opM opM0
        by_cases h : j < x
        · rw [if_pos h, if_pos (by omega)]
        · rw [if_neg h, if_neg (by omega), if_neg hj]
  · refine .inl ?_
    letI : Val := (opn G l n s 16 0 (opM0 l n s 16)).val W
    refine step_outF {} [] (tb0 _) (.agg m16) om_out ?_
    rw [show ivl (fun x => stX l s x n) 16 = ivl (opM0 l n s 16) 16 from ivl_congr 16 fun j hj => (if_pos hj).symm]
    exact m16_agg W
end
end Go.Proofs.Z
