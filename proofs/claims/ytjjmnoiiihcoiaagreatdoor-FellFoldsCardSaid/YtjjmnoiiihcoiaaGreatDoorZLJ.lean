/- A part of the proofs that the laws of layer four answer true for every input. -/
import Derived.Test.YtjjmnoiiihcoiaaGreatDoorZLH
namespace Go.Proofs.Z
open Go Go.RowKit Go.Proofs Go.Ri Go.Proofs.Z.Fa
/-! Without, of both packages, and the law FellFolds: runs. -/
abbrev fWithout : Nat := 51
abbrev fRWithout : Nat := 52
abbrev fFellFolds : Nat := 9
def wtZ (e : Int) : RV := .tup [.agg [lI 0, nilR], lI e]
noncomputable def wtE : Tb := { LL := woLL, C := [⟨fCheck, [fellR], lI 0⟩] }
noncomputable def wtP : St := ⟨patW [(1, .slA 1 40 1), (2, .ptr 2 0), (4, .ptr 3 0), (15, .slA 1 40 1), (16, sI 45), (17, sI 2)] 30 0, [some (.lstA 0), some (.lstA 40), some (.cells [sI 0, .slA 0 0 4] tFell false false), some (.cells [.pl (.int .i64 0), nilR] tFell false false)]⟩
def wtS (r : RV) : List SE := [.int 2 r, .int 0 (sI 0), .int 1 (sI 1), .int 45 (sI 45), .lst 0 0, .lst 40 40]
noncomputable def wtB : Code := hB wtE [] fWithout woD
noncomputable def wtK : List Fr := hK wtE [] fWithout woD
set_option maxRecDepth 100000 in
theorem wt_enter : enterT wtE [] fWithout woD (wtS (lI 0)) [0, 1, 2, 3] wtP = true := by kernel_rfl
set_option maxRecDepth 100000 in
theorem wt_err40 : doneQ { LL := hLL, C := [⟨fCheck, [fellR], lI 40⟩] } [] fWithout woD [] [] (wtZ 40) [] = true := by kernel_rfl
def wtI (p q : Bool) : List TE := [⟨.bin .geq, sI 32, lI 0, bR p⟩, ⟨.bin .lss, sI 32, lI 0, bR (!p)⟩, ⟨.bin .lss, sI 32, sI 1, bR q⟩, ⟨.bin .geq, sI 32, sI 1, bR (!q)⟩]
noncomputable def wtT (p q : Bool) : Tb := { T := wtI p q ++ woT true, LL := woLL, LX := [⟨40, 2, [sI 32]⟩] }
set_option maxRecDepth 100000 in
theorem wt_again : againT (wtT true true) [] wtB wtK wtP (wtS (sI 7)) [0, 1, 2, 3] wtP = true := by kernel_rfl
set_option maxRecDepth 100000 in
theorem wt_bad : (all2 fun p => all2 fun q => (p && q) || outF (wtT p q) [] fWithout wtB wtK wtP (wtZ 1)) = true := by kernel_rfl
noncomputable def wtX : Tb := { T := woT false, LL := woLL, U := qnU [⟨fWout, [fellR, .slN 0 40 1], woR, [some (.lst 41 tGate true)]⟩] }
set_option maxRecDepth 100000 in
theorem wt_out : outQ wtX [] fWithout wtB wtK wtP [.int 0 (sI 0), .lst 41 41] [4] (.tup [woR, lI 0]) [some (.lst 41 tGate true)] = true := by kernel_rfl
/-! of the specification -/
noncomputable def rwE : Tb := { LL := woLL, C := [⟨fValid, [fellR], bR true⟩], LB := [⟨none, 0, 0⟩] }
noncomputable def rwP : St := ⟨patW [(1, .slA 1 40 1), (2, .ptr 2 0), (4, .ptr 3 0), (6, .ptr 4 0), (7, sI 2)] 61 0, [some (.lstA 0), some (.lstA 40), some (.cells [sI 0, .slA 0 0 4] tFell false false), some (.cells [.pl (.int .i64 0), nilR] tFell false false), some (.cells [sI 0, .slN 5 0 4] tFell false false), some (.lst 41 tGate true)]⟩
noncomputable def rwB : Code := hB rwE [] fRWithout woD
noncomputable def rwK : List Fr := hK rwE [] fRWithout woD
set_option maxRecDepth 100000 in
theorem rw_enter : enterT rwE [] fRWithout woD (woS (lI 0) 0) [0, 1, 2, 3, 4, 5] rwP = true := by kernel_rfl
set_option maxRecDepth 100000 in
theorem rw_err40 : doneQ { LL := hLL, C := [⟨fValid, [fellR], bR false⟩] } [] fRWithout woD [] [] (wtZ 40) [] = true := by kernel_rfl
noncomputable def rwT (p q : Bool) : Tb := { T := wtI p q ++ woT true, LL := woLL, LX := [⟨40, 2, [sI 32]⟩] }
noncomputable def rwG : Tb := { T := ⟨.inb, sI 32, sI 1, bR true⟩ :: (wtI true true ++ woT true), LL := woLL, LX := [⟨40, 2, [sI 32]⟩, ⟨41, 32, [sI 33, sI 34, sI 35, sI 36]⟩], LF := [⟨41, 32, 4, 3, sI 35, 42⟩] }
set_option maxRecDepth 100000 in
theorem rw_again : againT rwG [] rwB rwK rwP (woS (sI 7) 42) [0, 1, 2, 3, 4, 5] rwP = true := by kernel_rfl
set_option maxRecDepth 100000 in
theorem rw_bad : (all2 fun p => all2 fun q => (p && q) || outF (rwT p q) [] fRWithout rwB rwK rwP (wtZ 1)) = true := by kernel_rfl
set_option maxRecDepth 100000 in
theorem rw_out : outQ { T := woT false, LL := woLL } [] fRWithout rwB rwK rwP [.int 0 (sI 0), .lst 0 0, .lst 41 41] [5] (.tup [.agg [sI 0, .slN 0 0 4], lI 0]) [some (.lst 41 tGate true)] = true := by kernel_rfl
end Go.Proofs.Z

namespace Go.Proofs.Z
open Go Go.RowKit Go.Proofs Go.Ri Go.Proofs.Z.Fa
/-! Without, of both packages: contracts. -/
theorem wtI_ok (V : Val) {n : Nat} {x : Int} (h1 : V.I 1 = n) (h32 : V.I 32 = x) : ∀ e, e ∈ wtI (decide (0 ≤ x)) (decide (x < n)) → @TETrue V e := by
  letI := V
  have e1 : cv (sI 1) = .int .i64 (n : Int) := congrArg (Value.int .i64) h1
  have e32 : cv (sI 32) = .int .i64 x := congrArg (Value.int .i64) h32
  exact fa (f_geq (k := .i64) (m := x) (n := 0) e32 rfl rfl) (fa (f_lss (k := .i64) (m := x) (n := 0) e32 rfl (nd' x 0)) (fa (f_lss (k := .i64) (m := x) (n := (n : Int)) e32 e1 rfl) (fa (f_geq (k := .i64) (m := x) (n := (n : Int)) e32 e1 (ng' x n)) fz)))
theorem wtI_ok2 (V : Val) {n : Nat} {x : Int} {p q : Bool} (h1 : V.I 1 = n) (h32 : V.I 32 = x) (hp : decide (0 ≤ x) = p) (hq : decide (x < n) = q) : ∀ e, e ∈ wtI p q → @TETrue V e := by
  rw [← hp, ← hq]
  exact wtI_ok V h1 h32
section
variable (V : Val) {G : Int} {l : List Value} {n : Nat}
theorem woT_ok (q : List Value) (m k : Nat) (hm : m ≤ 1000000) (hk : k ≤ m) (W : Nat → Value) {b : Bool} (hb : decide (k < m) = b) : ∀ e, e ∈ woT b → @TETrue ((wonm G l q n m k).val W) e := by
  letI : Val := (wonm G l q n m k).val W
  have e1 : decide ((k : Int) < (m : Int)) = b := by rw [← hb]; exact decide_eq_decide.2 (by omega)
  refine fa (f_lss (k := .i64) (m := (k : Int)) (n := (m : Int)) rfl rfl e1) (fa ⟨rfl, .i64, .i64, (k : Int), (m : Int), rfl, rfl, congrArg Value.bool ?_⟩ (fa (f_add1 (m := (k : Int)) rfl rfl rfl (by omega) (by omega)) fz))
  rw [← e1]
  exact decide_eq_decide.2 ⟨fun h => ⟨by omega, h⟩, fun h => h.2⟩
theorem woLL_ok (q : List Value) (m : Nat) (hn : l.length = n * 4) (hqm : q.length = m) (k : Nat) (W : Nat → Value) : ∀ e, e ∈ woLL → @LLTrue ((wonm G l q n m k).val W) e :=
  fa ⟨rfl, n, Nat.succ_pos 3, hn, rfl⟩ (fa ⟨rfl, m, Nat.succ_pos 0, by rw [Nat.mul_one]; exact hqm, rfl⟩ fz)
theorem wo40 (q : List Value) (hq : ints q) (m : Nat) (hqm : q.length = m) {k : Nat} (hk : k < m) (W : Nat → Value) : @LXTrue ((wonm G l q n m k).val W) ⟨40, 2, [sI 32]⟩ := by
  refine ⟨rfl, ?_, ?_⟩
  · show ((k : Int)).toNat * 1 + 1 ≤ q.length
    rw [Int.toNat_natCast]
    omega
  · show (q.drop (((k : Int)).toNat * 1)).take 1 = [.int .i64 (intOf (q.getD k undef))]
    rw [Int.toNat_natCast, row1 k (by omega)]
    obtain ⟨z, hz⟩ := hq (q.getD k undef) (by rw [List.getD_eq_getElem?_getD, List.getElem?_eq_getElem (by omega)]; exact List.getElem_mem _)
    rw [hz]
    rfl
def InR (q : List Value) (n m : Nat) : Prop := ∀ k, k < m → 0 ≤ intOf (q.getD k undef) ∧ intOf (q.getD k undef) < n
theorem wt_args {V' : Val} {w : World} {vs : List Value} {q : List Value} (hG : V.I 0 = G) (hL : V.L 0 = l) (h40 : V.L 40 = q) (e0 : V'.I 0 = G) (e1 : V'.L 0 = l) (e2 : V'.L 40 = q) (hv : All2 (@Go.Ri.NVal V w) woD vs) : All2 (@Go.Ri.NVal V' w) woD vs := by
  cases hv with
  | cons h1 h2 => cases h2 with
    | cons h2 h3 =>
      cases h3
      exact .cons (fell_nval1 (hG.trans e0.symm) (hL.trans e1.symm) h1) (.cons (lst_nval (V := V) (V' := V') (j := 40) (h40.trans e2.symm) h2) .nil)
theorem wtS_ok (q : List Value) (m k k' : Nat) {r : RV} (W W' : Nat → Value) (h : @cv ((wonm G l q n m k).val W) r = .int .i64 (k' : Int)) : ∀ e, e ∈ wtS r → okSE ((wonm G l q n m k).val W) ((wonm G l q n m k').val W') e :=
  fa ⟨.i64, (k' : Int), h, rfl⟩ (fa ⟨.i64, G, rfl, rfl⟩ (fa ⟨.i64, (n : Int), rfl, rfl⟩ (fa ⟨.i64, (m : Int), rfl, rfl⟩ (fa (show l = l from rfl) (fa (show q = q from rfl) fz)))))
theorem wout_good (hG : V.I 0 = G) (hL : V.L 0 = l) (hl : ints l) (hn : l.length = n * 4) (hva : validM G l n = true) (hn1 : 1 ≤ n) (q : List Value) (hq : ints q) (m : Nat) (hqm : q.length = m) (hm : m ≤ 1000000) (h40 : V.L 40 = q) (hin : InR q n m) (h41 : V.L 41 = wiF l q m) :
    @QNTrue V ⟨fWithout, woD, .tup [woR, lI 0], [some (.lst 41 tGate true)]⟩ := by
  intro w hr vs hv
  have hb32 := ((validM_iff _ _ _).1 hva).2.2.1
  have hv := wt_args V (V' := (wonm G l q n m 0).val fun _ => undef) hG hL h40 rfl rfl rfl hv
  have hC : @AnsN ((wonm G l q n m 0).val fun _ => undef) fCheck [fellR] (.int .i64 (errM G l n)) := check_ans _ rfl rfl hl hn
  rw [show errM G l n = 0 by unfold errM; rw [hva]; rfl] at hC
  have ht0 : @TbOK ((wonm G l q n m 0).val fun _ => undef) wtE := by
    letI : Val := (wonm G l q n m 0).val fun _ => undef
    exact { LL := woLL_ok q m hn hqm 0 _, C := fa hC fz }
  refine fn_loop (κ := Unit) (wonm G l q n m 0) (fun _ => undef) wtE [] fWithout woD (fun _ => wtP) (fun j _ cc => ∃ k, k ≤ m ∧ j = m - k ∧ cc = wonm G l q n m k) ht0 (wtS (lI 0)) [0, 1, 2, 3] () m wt_enter (wonm G l q n m 0) (fun W' => holds_all (wtS_ok q m 0 0 _ W' rfl)) ⟨0, Nat.zero_le _, rfl, rfl⟩ (DQ V (.tup [woR, lI 0]) [some (.lst 41 tGate true)]) ?_ w hr vs hv
  rintro w j _ cc ⟨k, hk, rfl, rfl⟩ W
  rcases Nat.lt_or_ge k m with hlt | hge
  · obtain ⟨i0, i1⟩ := hin k hlt
    have tb : @TbOK ((wonm G l q n m k).val W) (wtT true true) := by
      letI : Val := (wonm G l q n m k).val W
      exact { T := fapp (wtI_ok2 _ rfl rfl (decide_eq_true i0) (decide_eq_true i1)) (woT_ok q m k hm hk W (decide_eq_true hlt)), LL := woLL_ok q m hn hqm k W, LX := fa (wo40 q hq m hqm hlt W) fz }
    exact step_to _ [] tb (wtS (sI 7)) _ () (wonm G l q n m (k + 1)) wt_again (fun W' => holds_all (wtS_ok q m k (k + 1) W W' rfl)) ⟨m - (k + 1), by omega, k + 1, hlt, rfl, rfl⟩
  · obtain rfl : k = m := by omega
    have hwo := without_q ((wonm G l q n k k).val W) (G := G) (l := l) (n := n) rfl rfl hl hn hn1 (by omega) q hq k hqm hm rfl hin rfl
    have ht : @TbOK ((wonm G l q n k k).val W) wtX := by
      letI : Val := (wonm G l q n k k).val W
      exact { T := woT_ok q k k hm hk W (decide_eq_false (by omega)), LL := woLL_ok q k hn hqm k W, U := qnU_ok _ (fa hwo fz) }
    exact step_outQ _ [] ht V _ _ _ _ wt_out rfl (holds_all (fa ⟨.i64, G, rfl, hG⟩ (fa h41 fz)))
theorem wout_bad (hG : V.I 0 = G) (hL : V.L 0 = l) (hl : ints l) (hn : l.length = n * 4) (hva : validM G l n = true) (q : List Value) (hq : ints q) (m : Nat) (hqm : q.length = m) (hm : m ≤ 1000000) (h40 : V.L 40 = q) (hin : ¬ InR q n m) :
    @AnsN V fWithout woD (@cvF V0 (wtZ 1)) := by
  intro w hr vs hv
  have hv := wt_args V (V' := (wonm G l q n m 0).val fun _ => undef) hG hL h40 rfl rfl rfl hv
  have hC : @AnsN ((wonm G l q n m 0).val fun _ => undef) fCheck [fellR] (.int .i64 (errM G l n)) := check_ans _ rfl rfl hl hn
  rw [show errM G l n = 0 by unfold errM; rw [hva]; rfl] at hC
  have ht0 : @TbOK ((wonm G l q n m 0).val fun _ => undef) wtE := by
    letI : Val := (wonm G l q n m 0).val fun _ => undef
    exact { LL := woLL_ok q m hn hqm 0 _, C := fa hC fz }
  refine fn_loop (κ := Unit) (wonm G l q n m 0) (fun _ => undef) wtE [] fWithout woD (fun _ => wtP) (fun j _ cc => ∃ k, k ≤ m ∧ InR q n k ∧ j = m - k ∧ cc = wonm G l q n m k) ht0 (wtS (lI 0)) [0, 1, 2, 3] () m wt_enter (wonm G l q n m 0) (fun W' => holds_all (wtS_ok q m 0 0 _ W' rfl)) ⟨0, Nat.zero_le _, fun k hk => absurd hk (Nat.not_lt_zero _), rfl, rfl⟩ (DF (@cvF V0 (wtZ 1))) ?_ w hr vs hv
  rintro w j _ cc ⟨k, hk, hpre, rfl, rfl⟩ W
  have hlt : k < m := by
    rcases Nat.lt_or_ge k m with h | h
    · exact h
    · exact absurd (fun i hi => hpre i (by omega)) hin
  have tb : ∀ p r, decide (0 ≤ intOf (q.getD k undef)) = p → decide (intOf (q.getD k undef) < n) = r → @TbOK ((wonm G l q n m k).val W) (wtT p r) := fun p r hp hr => by
    letI : Val := (wonm G l q n m k).val W
    exact { T := fapp (wtI_ok2 _ rfl rfl hp hr) (woT_ok q m k hm hk W (decide_eq_true hlt)), LL := woLL_ok q m hn hqm k W, LX := fa (wo40 q hq m hqm hlt W) fz }
  by_cases hc : 0 ≤ intOf (q.getD k undef) ∧ intOf (q.getD k undef) < n
  · refine step_to _ [] (tb true true (decide_eq_true hc.1) (decide_eq_true hc.2)) (wtS (sI 7)) _ () (wonm G l q n m (k + 1)) wt_again (fun W' => holds_all (wtS_ok q m k (k + 1) W W' rfl)) ⟨m - (k + 1), by omega, k + 1, hlt, fun i hi => ?_, rfl, rfl⟩
    rcases Nat.lt_or_eq_of_le (Nat.le_of_lt_succ hi) with h1 | rfl
    · exact hpre i h1
    · exact hc
  · have hb := all2_all (all2_all wt_bad (decide (0 ≤ intOf (q.getD k undef)))) (decide (intOf (q.getD k undef) < n))
    rw [Bool.or_eq_true] at hb
    rcases hb with hb | hb
    · simp only [Bool.and_eq_true, decide_eq_true_eq] at hb
      exact absurd hb hc
    · exact step_outF _ [] (tb _ _ rfl rfl) _ hb rfl
theorem rwS_ok (q : List Value) (m k k' : Nat) {r : RV} {j : Nat} (W W' : Nat → Value) (h : @cv ((wonm G l q n m k).val W) r = .int .i64 (k' : Int)) (hj : wiF l q k' = ((wonm G l q n m k).val W).L j) : ∀ e, e ∈ woS r j → okSE ((wonm G l q n m k).val W) ((wonm G l q n m k').val W') e :=
  fa ⟨.i64, (k' : Int), h, rfl⟩ (fa ⟨.i64, G, rfl, rfl⟩ (fa ⟨.i64, (n : Int), rfl, rfl⟩ (fa ⟨.i64, (m : Int), rfl, rfl⟩ (fa (show l = l from rfl) (fa (show q = q from rfl) (fa hj fz))))))
theorem dq_wt {V1 V : Val} {w : World} {x : Ending} {w' : World} (hl : (V1.L 0).length = (V1.L 41).length) (h0 : V.I 0 = V1.I 0) (h41 : V.L 41 = V1.L 41) (h : DQ V1 (.tup [.agg [sI 0, .slN 0 0 4], lI 0]) [some (.lst 41 tGate true)] w x w') : DQ V (.tup [woR, lI 0]) [some (.lst 41 tGate true)] w x w' := by
  obtain ⟨u, E', he, hu, H⟩ := h
  have hu2 : @VRel V1 E' (.tup [woR, lI 0]) u := by
    obtain ⟨t, rfl, ht⟩ := hu
    have ht := (@VRels_iff V1 _ _ _).1 ht
    refine ⟨t, rfl, (@VRels_iff V1 _ _ _).2 ?_⟩
    generalize t.toList = ts at ht
    cases ht with
    | cons ha hb =>
      refine .cons ?_ hb
      obtain ⟨l', rfl, hr⟩ := ha
      have hr := (@VRels_iff V1 _ _ _).1 hr
      refine ⟨l', rfl, (@VRels_iff V1 _ _ _).2 ?_⟩
      generalize l'.toList = ls at hr
      cases hr with
      | cons a b => cases b with
        | cons b c =>
          cases c
          obtain ⟨p, n, g1, g2, g3, g4, g5⟩ := b
          exact .cons a (.cons ⟨p, n, g1, g2, hl ▸ g3, g4, g5⟩ .nil)
  have q := mtQ_ok (V := V1) (V' := V) (S := [.int 0 (sI 0), .lst 41 41]) (R := [0]) (r := .tup [woR, lI 0]) (r0 := .tup [woR, lI 0]) (h' := [some (.lst 41 tGate true)]) (h0 := [some (.lst 41 tGate true)]) (by kernel_rfl) rfl (holds_all (fa ⟨.i64, V1.I 0, rfl, h0⟩ (fa h41 fz))) hu2 H
  exact ⟨u, _, he, q.1, q.2⟩
theorem rw_good {D : World → Ending → World → Prop} (hl : ints l) (hn : l.length = n * 4) (q : List Value) (hq : ints q) (m : Nat) (hqm : q.length = m) (hm : m ≤ 1000000) {k : Nat} (hlt : k < m) (hc : 0 ≤ intOf (q.getD k undef) ∧ intOf (q.getD k undef) < n) (W : Nat → Value) (w : World) (nx : Unit → Nm → Prop) (hnx : nx () (wonm G l q n m (k + 1))) :
    StepT fRWithout (hB rwE [] fRWithout woD) (hK rwE [] fRWithout woD) (fun _ => rwP) w.heap.size w (D w) nx () (wonm G l q n m k) W := by
  have hX : ((wiX q k : Nat) : Int) = intOf (q.getD k undef) := by unfold wiX; omega
  have hlen := wiF_len l q k
  have hints := wiF_ints (q := q) hl k
  have tb : @TbOK ((wonm G l q n m k).val W) rwG := by
    letI : Val := (wonm G l q n m k).val W
    refine { T := fa ⟨rfl, .i64, .i64, intOf (q.getD k undef), (n : Int), rfl, rfl, congrArg Value.bool (decide_eq_true hc).symm⟩ (fapp (wtI_ok2 _ rfl rfl (decide_eq_true hc.1) (decide_eq_true hc.2)) (woT_ok q m k hm (by omega) W (decide_eq_true hlt))), LL := woLL_ok q m hn hqm k W, LX := fa (wo40 q hq m hqm hlt W) (fa ⟨rfl, ?_, ?_⟩ fz), LF := fa ⟨?_, rfl⟩ fz }
    · show wiX q k * 4 + 4 ≤ (wiF l q k).length
      omega
    · show ((wiF l q k).drop (wiX q k * 4)).take 4 = _
      rw [row4 hints (wiX q k) (by omega)]
      rfl
    · show wiX q k * 4 + 3 < (wiF l q k).length
      omega
  exact step_to _ [] tb (woS (sI 7) 42) _ () (wonm G l q n m (k + 1)) rw_again (fun W' => holds_all (rwS_ok q m k (k + 1) W W' rfl rfl)) hnx
end
end Go.Proofs.Z
