/- A part of the proofs that the laws of layer four answer true for every input. -/
import Derived.Test.YtjjmnoiiihcoiaaGreatDoorZJE
namespace Go.Proofs.Z
open Go Go.RowKit Go.Proofs Go.Ri Go.Proofs.Z.Fa
/-! nextPass: runs and contract. -/
abbrev fNextPass : Nat := 87
abbrev tPass : Nat := 73
def npD : List RV := [fellR, sI 20, sI 21, .agg s16]
noncomputable def npP (_ : Unit) : St := ⟨patW [(1, sI 20), (2, sI 21), (4, .ptr 1 0), (7, .ptr 2 0), (8, .ptr 3 0), (9, .ptr 4 0), (17, .slA 0 0 4), (18, sI 1), (19, sI 2)] 51 0, fellB ++ [some (.cells s16 tStarts false false), some (.cells [lI 0, lI 0] tPass false false), some (.cells [sI 38, sI 39] tPass false false)]⟩
def npS (i a b : RV) : List SE := .int 2 i :: .int 38 a :: .int 39 b :: .lst 0 0 :: idI ([0, 1, 20, 21] ++ idR 60 16)
noncomputable def npE : Tb := { LL := hLL }
noncomputable def npB : Code := hB npE [] fNextPass npD
noncomputable def npK : List Fr := hK npE [] fNextPass npD
set_option maxRecDepth 100000 in
theorem np_enter : enterT npE [] fNextPass npD (npS (lI 0) (lI 1048577) (lI 0)) [0, 1, 2, 3, 4] (npP ()) = true := by kernel_rfl
noncomputable def npTb (pa c1 c2 : Bool) : Tb := { T := hT true ++ ([⟨.inb, if pa then sI 4 else sI 3, lI 16, bR true⟩, ⟨.bin .leq, sI 37, sI 36, bR c1⟩] ++ if c1 then [⟨.bin .lss, sI 37, sI 38, bR c2⟩] else []), LL := hLL, LX := hLX true, N := [⟨s16, if pa then 4 else 3, [sI 36]⟩], Y := [⟨fAcross, [gateQ, sI 20], acR pa (!pa)⟩, ⟨fOpening, [gateQ, sI 21], sI 37⟩] }
noncomputable def npTn : Tb := { T := hT true, LL := hLL, LX := hLX true, Y := [⟨fAcross, [gateQ, sI 20], acR false false⟩] }
def npR (c : Bool) : List SE := if c then npS (sI 7) (sI 37) (sI 2) else npS (sI 7) (sI 38) (sI 39)
set_option maxRecDepth 100000 in
theorem np_again : (all2 fun pa => all2 fun c1 => all2 fun c2 => againT (npTb pa c1 c2) [] npB npK (npP ()) (npR (c1 && c2)) [0, 1, 2, 3, 4] (npP ())) = true := by kernel_rfl
set_option maxRecDepth 100000 in
theorem np_again3 : againT npTn [] npB npK (npP ()) (npR false) [0, 1, 2, 3, 4] (npP ()) = true := by kernel_rfl
set_option maxRecDepth 100000 in
theorem np_out : outF hEnd [] fNextPass npB npK (npP ()) (.agg [sI 38, sI 39]) = true := by kernel_rfl
/-- The names at gate k. -/
def npn (G : Int) (l : List Value) (n : Nat) (s : Nat → Int) (x d : Int) (k : Nat) : Nm := rnm G l n k (fun i => if i = 20 then x else if i = 21 then d else if i = 36 then s (nextG l k x).toNat else if i = 37 then openingM (gtF l k) (gtT l k) d else if i = 38 then (npX l s x d k).1 else ((npX l s x d k).2 : Int)) (fun _ => 0) s nz
section
variable (V : Val) {G : Int} {l : List Value} {n : Nat} {s : Nat → Int} {x d : Int}
theorem npS_ok {k : Nat} {i a b : RV} (W W' : Nat → Value) (hi : @cv ((npn G l n s x d k).val W) i = .int .i64 ((k : Int) + 1)) (ha : @cv ((npn G l n s x d k).val W) a = .int .i64 (npX l s x d (k + 1)).1) (hb : @cv ((npn G l n s x d k).val W) b = .int .i64 (npX l s x d (k + 1)).2) : ∀ e, e ∈ npS i a b → okSE ((npn G l n s x d k).val W) ((npn G l n s x d (k + 1)).val W') e := by
  refine fa ⟨.i64, _, hi, rfl⟩ (fa ⟨.i64, _, ha, rfl⟩ (fa ⟨.i64, _, hb, rfl⟩ (fa (show l = l from rfl) (ids_ok _ (fapp (fa rfl (fa rfl (fa rfl (fa rfl fz)))) fun i hi => ?_)))))
  obtain ⟨j, _, rfl⟩ := idR_mem hi
  exact rnm_s.trans rnm_s.symm
set_option maxHeartbeats 1000000 in
theorem nextPass_ans (hG : V.I 0 = G) (hL : V.L 0 = l) (hl : ints l) (hn : l.length = n * 4) (hva : validM G l n = true) (hd0 : 0 ≤ d) (hd1 : d ≤ 10000000) {rx rd r : RV} (fx : flat rx = true) (hx0 : @cvF V rx = .int .i64 x) (fd : flat rd = true) (hd2 : @cvF V rd = .int .i64 d) (fr : flat r = true) (hr0 : @cvF V r = .agg (ivl s 16).toArray) :
    @AnsN V fNextPass [fellR, rx, rd, r] (.agg #[.int .i64 (npX l s x d n).1, .int .i64 (npX l s x d n).2]) := by
  intro w hr vs hv
  have hb : n ≤ 32 := ((validM_iff _ _ _).1 hva).2.2.1
  have hv : All2 (@Go.Ri.NVal ((npn G l n s x d 0).val fun _ => undef) w) npD vs := by
    cases hv with
    | cons h1 h2 => cases h2 with
      | cons h2 h3 => cases h3 with
        | cons h3 h4 => cases h4 with
          | cons h4 h5 =>
            cases h5
            exact .cons (fell_nval1 hG hL h1) (.cons (nval_re fx rfl hx0 rfl h2) (.cons (nval_re fd rfl hd2 rfl h3) (.cons (nval_re fr (y := .agg s16) rfl hr0 (s16_agg _) h4) .nil)))
  have htE : @TbOK ((npn G l n s x d 0).val fun _ => undef) npE := by
    letI : Val := (npn G l n s x d 0).val fun _ => undef
    exact { LL := hLL_ok _ _ _ hn 0 _ }
  refine fn_loop (κ := Unit) (npn G l n s x d 0) (fun _ => undef) npE [] fNextPass npD npP (fun m _ c => ∃ k, k ≤ n ∧ c = npn G l n s x d k ∧ m = n - k) htE (npS (lI 0) (lI 1048577) (lI 0)) [0, 1, 2, 3, 4] () n np_enter (npn G l n s x d 0) (fun W' => holds_all ?_) ⟨0, Nat.zero_le _, rfl, rfl⟩ (DF (.agg #[.int .i64 (npX l s x d n).1, .int .i64 (npX l s x d n).2])) ?_ w hr vs hv
  · refine fa ⟨.i64, _, rfl, rfl⟩ (fa ⟨.i64, _, rfl, rfl⟩ (fa ⟨.i64, _, rfl, rfl⟩ (fa (show l = l from rfl) (ids_ok _ (fapp (fa rfl (fa rfl (fa rfl (fa rfl fz)))) fun i hi => ?_)))))
    obtain ⟨j, _, rfl⟩ := idR_mem hi
    exact rnm_s.trans rnm_s.symm
  rintro w m _ c ⟨k, hk, rfl, rfl⟩ W
  letI : Val := (npn G l n s x d k).val W
  rcases Nat.lt_or_ge k n with hkn | hge
  · obtain ⟨a0, a1, b0, b1, _, _⟩ := gate_range hva hkn
    have hg := (gOk_iff _ _ _ _ _).1 (okL_at ((validM_iff _ _ _).1 hva).2.2.2 hkn)
    have hac := across_ans (gtA l k) (gtB l k) (gtF l k) (gtT l k) x
    have key : ∀ pa : Bool, acV (gtA l k) (gtB l k) x = cvF (acR pa (!pa)) → (if pa then gtB l k else gtA l k) = nextG l k x → tch l k x = true → StepT fNextPass npB npK npP w.heap.size w (DF (.agg #[.int .i64 (npX l s x d n).1, .int .i64 (npX l s x d n).2]) w) (fun k' c' => ∃ n', n' < n - k ∧ ∃ k, k ≤ n ∧ c' = npn G l n s x d k ∧ n' = n - k) () (npn G l n s x d k) W := by
      intro pa hpa hnext htc
      have hnn := next_nat hva hkn x
      have hi : cv (if pa then sI 4 else sI 3) = .int .i64 (nextG l k x) := by
        rw [← hnext]
        cases pa <;> rfl
      have hi2 : (Val.I (if pa then 4 else 3)) = nextG l k x := by
        rw [← hnext]
        cases pa <;> rfl
      have hop := opening_ans (gtA l k) (gtB l k) (gtF l k) (gtT l k) d hg.2.2.2.1 hg.2.2.2.2.1 hg.2.2.2.2.2.1 hg.2.2.2.2.2.2 hd0 hd1
      rw [hpa] at hac
      have tb : TbOK (npTb pa (decide (openingM (gtF l k) (gtT l k) d ≤ s (nextG l k x).toNat)) (decide (openingM (gtF l k) (gtT l k) d < (npX l s x d k).1))) := {
        T := fapp (hT_ok _ _ _ (by omega) W (by simp [hkn])) (fapp (fa (inb_ok hi hnn.1 hnn.2.1) (fa (f_leq (k := .i64) (m := openingM (gtF l k) (gtT l k) d) (n := s (nextG l k x).toNat) rfl rfl rfl) fz)) (by
          split
          · exact fa (f_lss (k := .i64) (m := openingM (gtF l k) (gtT l k) d) (n := (npX l s x d k).1) rfl rfl rfl) fz
          · exact fz))
        LL := hLL_ok _ _ _ hn k W
        LX := hLX_ok _ _ _ hl hn hkn W
        N := fa ⟨rfl, rfl, by
          show (Val.I (if pa then 4 else 3)).toNat * 1 + 1 ≤ 16
          rw [hi2]
          omega, by
          show ((s16.map cv).drop ((Val.I (if pa then 4 else 3)).toNat * 1)).take 1 = _
          rw [hi2]
          have e16 : s16.map (@cv ((npn G l n s x d k).val W)) = ivl s 16 := s16_cv W
          exact (congrArg (fun q : List Value => (q.drop ((nextG l k x).toNat * 1)).take 1) e16).trans ((ivl_row (by omega)).trans rfl)⟩ fz
        Y := fa hac (fa hop fz) }
      have e : npX l s x d (k + 1) = if tch l k x && (decide (openingM (gtF l k) (gtT l k) d ≤ s (nextG l k x).toNat) && decide (openingM (gtF l k) (gtT l k) d < (npX l s x d k).1)) then (openingM (gtF l k) (gtT l k) d, k) else npX l s x d k := rfl
      rw [htc, Bool.true_and] at e
      refine step_to _ [] tb (npR (decide (openingM (gtF l k) (gtT l k) d ≤ s (nextG l k x).toNat) && decide (openingM (gtF l k) (gtT l k) d < (npX l s x d k).1))) _ () (npn G l n s x d (k + 1)) (all2_all (all2_all (all2_all np_again pa) _) _) (fun W' => holds_all ?_) ⟨n - (k + 1), by omega, k + 1, hkn, rfl, rfl⟩
      generalize hc : (decide (openingM (gtF l k) (gtT l k) d ≤ s (nextG l k x).toNat) && decide (openingM (gtF l k) (gtT l k) d < (npX l s x d k).1)) = c at e ⊢
      cases c with
      | true =>
        rw [if_pos rfl] at e
        exact npS_ok W W' rfl (by rw [e]; rfl) (by rw [e]; rfl)
      | false =>
        rw [if_neg (by decide)] at e
        exact npS_ok W W' rfl (by rw [e]; rfl) (by rw [e]; rfl)
    by_cases ha : x = gtA l k
    · exact key true (if_pos ha) (if_pos ha.symm).symm (tch_iff.2 (.inl ha))
    · by_cases hb2 : x = gtB l k
      · exact key false ((if_neg ha).trans (if_pos hb2)) (if_neg fun h => ha h.symm).symm (tch_iff.2 (.inr hb2))
      · have hno : tch l k x = false := by
          rw [Bool.eq_false_iff]
          intro h
          exact (tch_iff.1 h).elim ha hb2
        rw [show acV (gtA l k) (gtB l k) x = cvF (acR false false) from (if_neg ha).trans (if_neg hb2)] at hac
        have tb : TbOK npTn := { T := hT_ok _ _ _ (by omega) W (by simp [hkn]), LL := hLL_ok _ _ _ hn k W, LX := hLX_ok _ _ _ hl hn hkn W, Y := fa hac fz }
        have e : npX l s x d (k + 1) = npX l s x d k := if_neg (by rw [hno]; simp)
        exact step_to _ [] tb (npR false) _ () (npn G l n s x d (k + 1)) np_again3 (fun W' => holds_all (npS_ok W W' rfl (by rw [e]; rfl) (by rw [e]; rfl))) ⟨n - (k + 1), by omega, k + 1, hkn, rfl, rfl⟩
  · obtain rfl : k = n := by omega
    exact step_outF hEnd [] { T := hT_ok _ _ _ (by omega) W (by simp), LL := hLL_ok _ _ _ hn k W } (.agg [sI 38, sI 39]) np_out rfl
end
end Go.Proofs.Z

namespace Go.Proofs.Z
open Go Go.RowKit Go.Proofs Go.Ri Go.Proofs.Z.Fa
/-! latestStarts: runs and contract. -/
abbrev fLatest : Nat := 86
def lsD (b : Nat) : List RV := [fellR, sI 20, lI b, sI 22, sI 23]
def lsR0 (b j : Nat) : RV := if j = b then sI 23 else lI (-1)
def lsN (b : Nat) : Nat → List RV
  | 0 => []
  | n + 1 => lsN b n ++ [lsR0 b n]
noncomputable def lsP (_ : Unit) : St := ⟨patW [(1, sI 20), (3, sI 22), (5, .ptr 1 0), (11, .ptr 2 0), (13, .slN 3 9 16)] 38 0, fellB ++ [some (.cells m16 tStarts false false), some (.lst 9 tStarts true)]⟩
def lsI : List SE := .lst 0 0 :: idI [0, 1, 20, 22, 23]
noncomputable def lsE : Tb := { LL := hLL }
noncomputable def lsB (b : Nat) : Code := hB lsE [true] fLatest (lsD b)
noncomputable def lsK (b : Nat) : List Fr := hK lsE [true] fLatest (lsD b)
set_option maxRecDepth 100000 in
theorem ls_enter : (allU 16 fun b => enterT lsE [true] fLatest (lsD b) (.new 9 (lsN b 16) :: (m0S (lsR0 b) 16 ++ lsI)) [0, 1, 2, 3] (lsP ())) = true := by kernel_rfl
noncomputable def lsTb : Tb := { T := [⟨.inb, sI 20, lI 16, bR true⟩, ⟨.bin .lss, sI 36, sI 22, bR true⟩], LL := hLL, N := [⟨m16, 20, [sI 36]⟩], C := [⟨fOnePass, [fellR, .agg m16], .agg s16⟩], LA := [⟨9, s16, 10⟩] }
set_option maxRecDepth 100000 in
theorem ls_again : (allU 16 fun b => againT lsTb [] (lsB b) (lsK b) (lsP ()) (.lst 9 10 :: (m0S (fun j => sI (60 + j)) 16 ++ lsI)) [0, 1, 2, 5] (lsP ())) = true := by kernel_rfl
noncomputable def lsEnd : Tb := { T := [⟨.inb, sI 20, lI 16, bR true⟩, ⟨.bin .lss, sI 36, sI 22, bR false⟩], LL := hLL, N := [⟨m16, 20, [sI 36]⟩] }
set_option maxRecDepth 100000 in
theorem ls_out : (allU 16 fun b => outQ lsEnd [] fLatest (lsB b) (lsK b) (lsP ()) [.lst 11 9] [3] (.slN 0 11 16) [some (.lst 11 tStarts true)]) = true := by kernel_rfl
end Go.Proofs.Z
