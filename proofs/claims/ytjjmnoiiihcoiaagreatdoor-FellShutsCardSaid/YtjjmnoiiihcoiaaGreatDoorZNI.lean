/- A part of the proofs that the laws of layer four answer true for every input. -/
import Derived.Test.YtjjmnoiiihcoiaaGreatDoorZNG
namespace Go.Proofs.Z
open Go Go.RowKit Go.Proofs Go.Ri Go.Proofs.Z.Fa
/-! onward, takeLane: contracts. -/
def owI (l : List Value) (t : Nat → Int) (i x g j : Nat) : Int := if j = 8 then (x : Int) else if j = 9 then (othF (gA' l) (gB' l) i x : Int) else if j = 15 then t i else (g : Int)
def owNm (G : Int) (l : List Value) (n : Nat) (t : Nat → Int) (x i g : Nat) : Nm := gnm G l n i (owI l t i x g) ny (fun _ => ivl t 32)
def owId : List SE := [.int 0 (sI 0), .int 8 (sI 8), .lst 0 0, .lst 30 30]
set_option maxRecDepth 100000 in
theorem ow_fit : mtH (mtO owId owH [0, 1]) owH [0, 1] owH = true := by kernel_rfl
set_option maxRecDepth 100000 in
theorem ow_fitA : mtL (mt2 owId owH [0, 1]) owA owA = true := by kernel_rfl
section
variable {G : Int} {l : List Value} {n a b : Nat}
theorem ow_ids {V V' : Val} (G n x : Int) (l tl : List Value) (i g : RV) (mi mg : Int) (hi : @cv V i = .int .i64 mi) (hg : @cv V g = .int .i64 mg) (h2 : V'.I 2 = mi) (h16 : V'.I 16 = mg) (g0 : V.I 0 = G) (g1 : V.I 1 = n) (g2 : V.I 8 = x) (g4 : V.L 0 = l) (g5 : V.L 30 = tl) (h0 : V'.I 0 = G) (h1 : V'.I 1 = n) (h8 : V'.I 8 = x) (hl : V'.L 0 = l) (ht : V'.L 30 = tl) : ∀ e, e ∈ owS i g → okSE V V' e :=
  fa ⟨.i64, G, congrArg _ g0, h0⟩ (fa ⟨.i64, n, congrArg _ g1, h1⟩ (fa ⟨.i64, mi, hi, h2⟩ (fa ⟨.i64, x, congrArg _ g2, h8⟩ (fa ⟨.i64, mg, hg, h16⟩ (fa (okLs l hl g4) (fa (okLs tl ht g5) fz))))))
theorem ow_calls (V : Val) {t : Nat → Int} {x : Nat} (hV0 : V.I 0 = G) (hVl : V.L 0 = l) (hV8 : V.I 8 = (x : Int)) (hV30 : V.L 30 = ivl t 32) (hl : ints l) (hn : l.length = n * 4) (hva : validM G l n = true) (E0 : Env) (w : World) (vs : List Value) (_ : RoIn ro w) (H : @HInv V ro w.heap.size w E0 owH w) (hv : All2 (@VRel V E0) [.ptr 1 0, fellS, sI 8] vs) :
    Calls Tryz.prog fOnward vs.toArray w (fun e w' => e = .returned (.int .i64 (owM (gA' l) (gB' l) t x n : Int)) ∧ Below w.heap.size w w') := by
  have hE : E0.length = 2 := (@HInv.len V _ _ _ _ _ _ H).symm
  have hb32 : n ≤ 32 := ((validM_iff _ _ _).1 hva).2.2.1
  let V1 : Val := (owNm G l n t x 0 0).val fun _ => undef
  have hS : Holds owId V V1 := holds_all (fa ⟨.i64, G, congrArg _ hV0, rfl⟩ (fa ⟨.i64, (x : Int), congrArg _ hV8, rfl⟩ (fa (okLs l rfl hVl) (fa (okLs (ivl t 32) rfl hV30) fz))))
  have H0 := mtH_inv hS (nb := [0, 1]) rfl ow_fit H
  have hv0 := all2_trans (E' := pickE [0, 1] E0) (fun r q v hx hv => mt2_ok hS hx hv) (mtL_spec _ _ ow_fitA) hv
  have hp : pickE [0, 1] E0 = E0 := by
    have : pickE (List.range 2) E0 = E0.take 2 := pick_rng (by omega)
    rw [show (List.range 2) = [0, 1] from rfl] at this
    rw [this]
    exact List.take_of_length_le (by omega)
  rw [hp] at H0 hv0
  have hLL : ∀ i g W, ∀ e, e ∈ ([⟨0, 4, sI 1⟩] : List LNE) → @LLTrue ((owNm G l n t x i g).val W) e := fun i g W => fa ⟨rfl, n, Nat.succ_pos 3, hn, rfl⟩ fz
  refine fn_heads (κ := Unit) (owNm G l n t x 0 0) (fun _ => undef) owE [] fOnward owA owH (fun _ => 0) (fun _ => owP) (fun m _ c => ∃ i, i ≤ n ∧ m = n - i ∧ c = owNm G l n t x i (owM (gA' l) (gB' l) t x i)) (by letI : Val := V1; exact { LL := hLL _ _ _ }) (owS (lI 0) (lI 0)) [0, 1] () n ow_enter (owNm G l n t x 0 0) (fun W' => holds_all (ow_ids G n x l (ivl t 32) (lI 0) (lI 0) 0 0 rfl rfl rfl rfl rfl rfl rfl rfl rfl rfl rfl rfl rfl rfl)) ⟨0, Nat.zero_le _, rfl, rfl⟩ w.heap.size w [] E0 (List.nil_prefix) rfl (DF (.int .i64 (owM (gA' l) (gB' l) t x n : Int)) w) ?_ w H0 vs hv0
  rintro m _ c ⟨i, hi, rfl, rfl⟩ W
  rcases Nat.lt_or_ge i n with hlt | hge
  · have hac := across_w hva (x := x) hlt
    have hway := acw_way l i x
    have ht : @TbOK ((owNm G l n t x i (owM (gA' l) (gB' l) t x i)).val W) (owTb (acw l i x) (decide (t i = wayF (gA' l) (gB' l) i x))) := by
      letI V2 : Val := (owNm G l n t x i (owM (gA' l) (gB' l) t x i)).val W
      have hTw := hT_ok (G := G) (l := l) (n := n) (owI l t i x (owM (gA' l) (gB' l) t x i)) ny (fun _ => ivl t 32) (show i ≤ 1000000000 by omega) W (b := true) (decide_eq_true hlt)
      have hXw := hLX_ok (G := G) (owI l t i x (owM (gA' l) (gB' l) t x i)) ny (fun _ => ivl t 32) hl hn hlt W
      by_cases h0 : acw l i x = 0
      · rw [h0]
        rw [if_pos h0] at hac
        exact { T := fapp hTw fz, LL := hLL _ _ _, LX := fapp hXw fz, Y := fa hac fz }
      · have hadW : @cv V2 (adWay (acw l i x)) = .int .i64 (wayF (gA' l) (gB' l) i x) := by
          rw [hway, if_neg h0]
          unfold adWay
          split <;> rfl
        rw [if_neg h0] at hac
        have hadA : @cvF V2 (adAc (acw l i x)) = if acw l i x = 1 then .tuple #[.int .i64 (othF (gA' l) (gB' l) i x : Int), .int .i64 1] else .tuple #[.int .i64 (othF (gA' l) (gB' l) i x : Int), .int .i64 (-1)] := by
          unfold adAc
          rw [if_neg h0]
          split <;> rfl
        rw [← hadA] at hac
        unfold owTb
        rw [if_neg h0, if_neg h0]
        refine { T := fapp hTw (fa (f_inb (m := (i : Int)) (n := 32) rfl rfl (by omega)) (fa (f_ieq (k := .i64) (m := t i) (n := wayF (gA' l) (gB' l) i x) rfl hadW (eqdec _ _)) fz)), LL := hLL _ _ _, LX := fapp hXw (fa ⟨rfl, ?_, ?_⟩ fz), Y := fa hac fz }
        · show ((i : Int)).toNat * 1 + 1 ≤ (ivl t 32).length
          rw [ivl_len]
          omega
        · show ((ivl t 32).drop (((i : Int)).toNat * 1)).take 1 = [.int .i64 (t i)]
          rw [Int.toNat_natCast]
          exact ivl_row (by omega)
    have hrun := all2_all (allU_lt ow_again (acw l i x) (acw_lt l i x)) (decide (t i = wayF (gA' l) (gB' l) i x))
    have hnx : owM (gA' l) (gB' l) t x (i + 1) = if (!(Nat.beq (acw l i x) 0) && decide (t i = wayF (gA' l) (gB' l) i x)) = true then i else owM (gA' l) (gB' l) t x i := by
      show (if wayF (gA' l) (gB' l) i x ≠ 0 ∧ t i = wayF (gA' l) (gB' l) i x then i else owM (gA' l) (gB' l) t x i) = _
      have h1 : (wayF (gA' l) (gB' l) i x ≠ 0) ↔ Nat.beq (acw l i x) 0 = false := by
        rw [hway]
        unfold acw
        split
        · exact ⟨fun _ => rfl, fun _ => by decide⟩
        · split
          · exact ⟨fun _ => rfl, fun _ => by decide⟩
          · exact ⟨fun h => absurd rfl h, fun h => by cases h⟩
      by_cases hc : wayF (gA' l) (gB' l) i x ≠ 0 ∧ t i = wayF (gA' l) (gB' l) i x
      · rw [if_pos hc, h1.1 hc.1, decide_eq_true hc.2]
        rfl
      · rw [if_neg hc]
        have : (!(Nat.beq (acw l i x) 0) && decide (t i = wayF (gA' l) (gB' l) i x)) = false := by
          cases hb : Nat.beq (acw l i x) 0 with
          | true => rfl
          | false =>
            have : ¬ t i = wayF (gA' l) (gB' l) i x := fun e => hc ⟨h1.2 hb, e⟩
            rw [decide_eq_false this]
            rfl
        rw [this]
        rfl
    refine stepH_to _ [] ht _ [0, 1] rfl () (owNm G l n t x (i + 1) (owM (gA' l) (gB' l) t x (i + 1))) hrun (fun W' => holds_all ?_) ⟨n - (i + 1), by omega, i + 1, hlt, rfl, rfl⟩
    rw [hnx]
    cases (!(Nat.beq (acw l i x) 0) && decide (t i = wayF (gA' l) (gB' l) i x)) with
    | true => exact ow_ids G n x l (ivl t 32) (sI 7) (sI 2) ((i : Int) + 1) (i : Int) rfl rfl rfl rfl rfl rfl rfl rfl rfl rfl rfl rfl rfl rfl
    | false => exact ow_ids G n x l (ivl t 32) (sI 7) (sI 16) ((i : Int) + 1) (owM (gA' l) (gB' l) t x i : Int) rfl rfl rfl rfl rfl rfl rfl rfl rfl rfl rfl rfl rfl rfl
  · obtain rfl : i = n := by omega
    exact stepH_outF { T := hT false, LL := [⟨0, 4, sI 1⟩] } [] (by letI : Val := (owNm G l i t x i (owM (gA' l) (gB' l) t x i)).val W; exact { T := hT_ok _ _ _ (by omega) W (by simp), LL := hLL _ _ _ }) (sI 16) ow_out rfl
/-! takeLane -/
def tkI (l : List Value) (a b : Nat) (i x : Nat) (j : Nat) : Int := if j = 8 then (x : Int) else if j = 18 then (i : Int) else if j = 19 then (othF (gA' l) (gB' l) i x : Int) else if j = 20 then (a : Int) else (b : Int)
def tkL (t : Nat → Int) (i : Nat) (L : List Nat) (L70 : List Value) (j : Nat) : List Value := if j = 30 then ivl t 32 else if j = 31 then ivl (updF t i 0) 32 else if j = 60 then intsL L else if j = 61 then intsL (L ++ [i]) else L70
def tkNm (G : Int) (l : List Value) (n a b : Nat) (t : Nat → Int) (x i : Nat) (L : List Nat) (L70 : List Value) : Nm := gnm G l n i (tkI l a b i x) ny (tkL t i L L70)
def tkId (c : Bool) : List SE := [.int 0 (sI 0), .int 20 (sI 20), .int 21 (sI 21), .lst 0 0, .lst 30 30] ++ (if c then [.lst 70 70] else [])
set_option maxRecDepth 100000 in
theorem tk_fit : (all2 fun c => mtH (mtO (tkId c) (tkH0 c 30) (List.range (tkM c))) (tkH0 c 30) (List.range (tkM c)) (tkH0 c 30)) = true := by kernel_rfl
set_option maxRecDepth 100000 in
theorem tk_fitA : (all2 fun c => mtL (mt2 (tkId c) (tkH0 c 30) (List.range (tkM c))) tkA tkA) = true := by kernel_rfl
theorem tk_ids {V V' : Val} (c : Bool) (G n a b : Int) (l L70 : List Value) (x : RV) (mx : Int) (hx : @cv V x = .int .i64 mx) (h8 : V'.I 8 = mx) (g0 : V.I 0 = G) (g1 : V.I 1 = n) (g2 : V.I 20 = a) (g3 : V.I 21 = b) (g4 : V.L 0 = l) (g5 : c = true → V.L 70 = L70) (h0 : V'.I 0 = G) (h1 : V'.I 1 = n) (h20 : V'.I 20 = a) (h21 : V'.I 21 = b) (hl : V'.L 0 = l) (h70 : c = true → V'.L 70 = L70) : ∀ e, e ∈ tkS c x → okSE V V' e := by
  refine fapp (fa ⟨.i64, G, congrArg _ g0, h0⟩ (fa ⟨.i64, n, congrArg _ g1, h1⟩ (fa ⟨.i64, mx, hx, h8⟩ (fa ⟨.i64, a, congrArg _ g2, h20⟩ (fa ⟨.i64, b, congrArg _ g3, h21⟩ (fa (okLs l hl g4) fz)))))) ?_
  cases c with
  | true => exact fa (okLs L70 (h70 rfl) (g5 rfl)) fz
  | false => exact fz
set_option maxRecDepth 10000 in
theorem tk_calls (c : Bool) (V : Val) {t0 : Nat → Int} {L70 : List Value} (hV0 : V.I 0 = G) (hVl : V.L 0 = l) (hVa : V.I 20 = (a : Int)) (hVb : V.I 21 = (b : Int)) (hV30 : V.L 30 = ivl t0 32) (h70 : c = true → V.L 70 = L70) (hl : ints l) (hn : l.length = n * 4) (hva : validM G l n = true) (ha : a < 16) (_hb : b < 16) (hab : a ≠ b) {k : Nat} (F : IsFlow (gA' l) (gB' l) n (usP l) a b t0 ((k + 1 : Nat) : Int))
    (hV31 : V.L 31 = ivl (tkRes (gA' l) (gB' l) n a b t0).2 32) (hV62 : V.L 62 = intsL (tkRes (gA' l) (gB' l) n a b t0).1) : @UNTrue V ⟨fTake, tkId c, tkA, tkH0 c 30, .slN (tkM c) 62 1, tkK c⟩ := by
  have hg := gate_in hva
  have hb32 : n ≤ 32 := ((validM_iff _ _ _).1 hva).2.2.1
  obtain ⟨⟨M, hM⟩, SP⟩ := tkRes_ok hg.2 F
  refine ⟨holds_all (fapp (fa ⟨.i64, G, congrArg _ hV0, hV0⟩ (fa ⟨.i64, (a : Int), congrArg _ hVa, hVa⟩ (fa ⟨.i64, (b : Int), congrArg _ hVb, hVb⟩ (fa (okLs l hVl hVl) (fa (okLs (ivl t0 32) hV30 hV30) fz))))) (by cases c with | true => exact fa rfl fz | false => exact fz)), fun base w0 E0 w vs H hv => ?_⟩
  have hE : E0.length = tkM c := by
    have := (@HInv.len V _ _ _ _ _ _ H).symm
    rw [this]
    cases c <;> rfl
  let V1 : Val := (tkNm G l n a b t0 a 0 [] L70).val fun _ => undef
  have hS : Holds (tkId c) V V1 := holds_all (fapp (fa ⟨.i64, G, congrArg _ hV0, rfl⟩ (fa ⟨.i64, (a : Int), congrArg _ hVa, rfl⟩ (fa ⟨.i64, (b : Int), congrArg _ hVb, rfl⟩ (fa (okLs l rfl hVl) (fa (okLs (ivl t0 32) rfl hV30) fz))))) (by cases c with | true => exact fa (okLs L70 rfl (h70 rfl)) fz | false => exact fz))
  have H0 := mtH_inv hS (nb := List.range (tkM c)) (by cases c <;> rfl) (all2_all tk_fit c) H
  have hv0 := all2_trans (E' := pickE (List.range (tkM c)) E0) (fun r q v hx hv => mt2_ok hS hx hv) (mtL_spec _ _ (all2_all tk_fitA c)) hv
  have hp : pickE (List.range (tkM c)) E0 = E0 := by
    rw [pick_rng (by omega)]
    exact List.take_of_length_le (by omega)
  rw [hp] at H0 hv0
  have hLL : ∀ t x i L W, ∀ e, e ∈ ([⟨0, 4, sI 1⟩] : List LNE) → @LLTrue ((tkNm G l n a b t x i L L70).val W) e := fun t x i L W => fa ⟨rfl, n, Nat.succ_pos 3, hn, rfl⟩ fz
  have hR : ∀ X, (List.range (tkM c) ++ X).take E0.length = List.range E0.length := fun X => by
    rw [hE]
    have : (List.range (tkM c)).length = tkM c := List.length_range
    rw [List.take_append_of_le_length (by rw [this]; exact Nat.le_refl _)]
    exact List.take_of_length_le (by rw [this]; exact Nat.le_refl _)
  refine fn_heads (κ := Bool) (tkNm G l n a b t0 a 0 [] L70) (fun _ => undef) tkE [] fTake tkA (tkH0 c 30) (fun _ => 0) (tkP c) (fun m ne nm => ∃ x t L, ne = !L.isEmpty ∧ x < 16 ∧ TkInv (gA' l) (gB' l) n (usP l) a b (k : Int) x t ∧ LeadsL (gA' l) (gB' l) n (usP l) a L x ∧ L.length ≤ 1000 ∧ L.length + usedC t n ≤ n ∧ TkRuns (gA' l) (gB' l) n b m x t L (tkRes (gA' l) (gB' l) n a b t0) ∧ nm = tkNm G l n a b t x (owM (gA' l) (gB' l) t x n) L L70)
    (by letI : Val := V1; exact { LL := hLL _ _ _ _ _ }) (.lst 30 30 :: tkS c (sI 20)) (List.range (tkM c) ++ [tkM c]) false M (all2_all tk_enter c) (tkNm G l n a b t0 a (owM (gA' l) (gB' l) t0 a n) [] L70) (fun W' => holds_all (fa (okLs (ivl t0 32) rfl rfl) (tk_ids c G n a b l L70 (sI 20) (a : Int) rfl rfl rfl rfl rfl rfl rfl (fun _ => rfl) rfl rfl rfl rfl rfl (fun _ => rfl))))
    ⟨a, t0, [], rfl, ha, tk_start F, rfl, by decide, (by have := used_le t0 n; show 0 + _ ≤ n; omega), hM, rfl⟩ base w0 E0 E0 (List.prefix_refl _) (hR _) _ ?_ w H0 vs hv0
  rintro m ne nm ⟨x, t, L, rfl, hx, hI, hLd, hLl, hu, hm, rfl⟩ W
  by_cases hxb : x = b
  · cases m with
    | succ m => exact absurd hxb hm.1
    | zero =>
      have e := hm.2
      have hne : L ≠ [] := fun e2 => by
        subst e2
        have : a = x := hLd
        exact hab (this.trans hxb)
      have hne2 : (!L.isEmpty) = true := by
        cases L with
        | nil => exact absurd rfl hne
        | cons _ _ => rfl
      rw [hne2]
      refine stepH_outN tkEd [] (by letI : Val := (tkNm G l n a b t x (owM (gA' l) (gB' l) t x n) L L70).val W; exact { T := fa (f_ieq (k := .i64) (m := (x : Int)) (n := (b : Int)) rfl rfl (by rw [eqdec]; exact decide_eq_true (by omega))) fz, LL := hLL _ _ _ _ _ }) V _ _ (hR _) _ _ (all2_all tk_out c) rfl (holds_all (fapp (fa ⟨.i64, G, rfl, hV0⟩ (fa (okLs l hVl rfl) (fa (okLs (ivl t 32) (by rw [hV31, e]) rfl) (fa (okLs (intsL L) (by rw [hV62, e]) rfl) fz)))) ?_))
      cases c with
      | true => exact fa (okLs L70 (h70 rfl) rfl) fz
      | false => exact fz
  · cases m with
    | zero => exact absurd hm.1 hxb
    | succ m =>
      obtain ⟨g1, g2, g3⟩ := tk_ow hg.2 hI hxb
      have hac := across_w hva (x := x) g1
      have hway := acw_way l (owM (gA' l) (gB' l) t x n) x
      have hw0 : acw l (owM (gA' l) (gB' l) t x n) x ≠ 0 := fun e => by
        rw [e] at hway
        exact g2 hway
      have hwb : Nat.beq (acw l (owM (gA' l) (gB' l) t x n) x) 0 = false := by
        cases h : Nat.beq (acw l (owM (gA' l) (gB' l) t x n) x) 0 with
        | false => rfl
        | true => exact absurd (Nat.eq_of_beq_eq_true h) hw0
      have hrun := allU_lt tk_again (acw l (owM (gA' l) (gB' l) t x n) x) (acw_lt l _ x)
      rw [hwb, Bool.false_or] at hrun
      have hrun := all2_all (all2_all hrun c) (!L.isEmpty)
      have hzt : t (owM (gA' l) (gB' l) t x n) ≠ 0 := by rw [g3]; exact g2
      have hu2 := used_upd hzt n
      rw [if_pos g1] at hu2
      have hnext := tk_next hg.2 hI hxb
      have hlead := ln_snoc L _ _ _ hLd g1 (hI.use _ g1 hzt) g2
      have hox : othF (gA' l) (gB' l) (owM (gA' l) (gB' l) t x n) x < 16 := oth_lt (hg.1 _ g1)
      have ht : ∀ ne, (ne = true → L.length ≤ 1000) → @TbOK ((tkNm G l n a b t x (owM (gA' l) (gB' l) t x n) L L70).val W) (tkTb (acw l (owM (gA' l) (gB' l) t x n) x) ne) := fun ne _ => by
        letI V2 : Val := (tkNm G l n a b t x (owM (gA' l) (gB' l) t x n) L L70).val W
        rw [if_neg hw0] at hac
        have hadA : @cvF V2 (adTW (acw l (owM (gA' l) (gB' l) t x n) x)) = if acw l (owM (gA' l) (gB' l) t x n) x = 1 then .tuple #[.int .i64 (othF (gA' l) (gB' l) (owM (gA' l) (gB' l) t x n) x : Int), .int .i64 1] else .tuple #[.int .i64 (othF (gA' l) (gB' l) (owM (gA' l) (gB' l) t x n) x : Int), .int .i64 (-1)] := by
          unfold adTW
          split <;> rfl
        rw [← hadA] at hac
        refine { T := fa (f_ieq (k := .i64) (m := (x : Int)) (n := (b : Int)) rfl rfl (by rw [eqdec]; exact decide_eq_false (by omega))) (fa (f_inb (m := (owM (gA' l) (gB' l) t x n : Int)) (n := (n : Int)) rfl rfl (by omega)) (fa (f_inb (m := (owM (gA' l) (gB' l) t x n : Int)) (n := 32) rfl rfl (by omega)) fz)), LL := hLL _ _ _ _ _, LX := fa ⟨rfl, ?_, ?_⟩ fz, LW := fa ⟨Int.natCast_nonneg _, ?_, ?_⟩ fz, LA := ?_, Y := fa hac fz, U := owU_ok (sI 8) (sI 18) rfl rfl fun E0 w vs hr H hv => ow_calls V2 rfl rfl rfl rfl hl hn hva E0 w vs hr H hv }
        · show ((owM (gA' l) (gB' l) t x n : Int)).toNat * 4 + 4 ≤ l.length
          rw [Int.toNat_natCast]
          omega
        · show (l.drop (((owM (gA' l) (gB' l) t x n : Int)).toNat * 4)).take 4 = _
          rw [Int.toNat_natCast]
          exact row4 hl _ (by omega)
        · cases ne with
          | false => exact fz
          | true =>
            refine fa ⟨?_, ?_, intsL_one L⟩ fz
            · show intsL (L ++ [_]) = intsL L ++ _
              unfold intsL
              rw [List.map_append]
              rfl
            · show (intsL (L ++ [_])).length ≤ _
              unfold intsL
              rw [List.length_map, List.length_append]
              show L.length + 1 ≤ _
              omega
        · show ((owM (gA' l) (gB' l) t x n : Int)).toNat < (ivl t 32).length
          rw [ivl_len]
          omega
        · show ivl (updF t (owM (gA' l) (gB' l) t x n) 0) 32 = (ivl t 32).set ((owM (gA' l) (gB' l) t x n : Int)).toNat (.int .i64 0)
          rw [Int.toNat_natCast, ivl_set]
          rfl
      refine stepH_to _ [] (ht (!L.isEmpty) fun _ => hLl) _ _ (hR _) true (tkNm G l n a b (updF t (owM (gA' l) (gB' l) t x n) 0) (othF (gA' l) (gB' l) (owM (gA' l) (gB' l) t x n) x) (owM (gA' l) (gB' l) (updF t (owM (gA' l) (gB' l) t x n) 0) (othF (gA' l) (gB' l) (owM (gA' l) (gB' l) t x n) x) n) (L ++ [owM (gA' l) (gB' l) t x n]) L70) hrun (fun W' => holds_all (fa (okLs (ivl (updF t (owM (gA' l) (gB' l) t x n) 0) 32) rfl rfl) (fa ?_ (tk_ids c G n a b l L70 (sI 19) (othF (gA' l) (gB' l) (owM (gA' l) (gB' l) t x n) x : Int) rfl rfl rfl rfl rfl rfl rfl (fun _ => rfl) rfl rfl rfl rfl rfl (fun _ => rfl))))) ⟨m, by omega, _, _, L ++ [owM (gA' l) (gB' l) t x n], ?_, hox, hnext, hlead, ?_, ?_, hm.2, rfl⟩
      · cases L with
        | nil => rfl
        | cons p L => exact okLs (intsL (p :: L ++ [owM (gA' l) (gB' l) t x n])) rfl rfl
      · cases L <;> rfl
      · rw [List.length_append]
        show L.length + 1 ≤ _
        omega
      · rw [List.length_append]
        show L.length + 1 + _ ≤ n
        omega
end
end Go.Proofs.Z

namespace Go.Proofs.Z
open Go Go.RowKit Go.Proofs Go.Ri Go.Proofs.Z.Fa
/-! checkEnds: contract. -/
abbrev fEnds : Nat := 100
def ceT (p1 p2 p3 p4 q : Bool) : List TE := [⟨.bin .lss, sI 20, lI 0, bR p1⟩, ⟨.bin .geq, sI 20, sI 0, bR p2⟩, ⟨.bin .lss, sI 21, lI 0, bR p3⟩, ⟨.bin .geq, sI 21, sI 0, bR p4⟩, ⟨.ieq, sI 20, sI 21, bR q⟩]
noncomputable def ceTb (v p1 p2 p3 p4 q : Bool) : Tb := { T := ceT p1 p2 p3 p4 q, LL := hLL, C := [⟨fCheck, [fellR], if v then lI 0 else lI 40⟩] }
def ceR (v p1 p2 p3 p4 q : Bool) : RV := if v then (if p1 || p2 || p3 || p4 || q then lI 1 else lI 0) else lI 40
set_option maxRecDepth 100000 in
theorem ce_run : (all2 fun v => all2 fun p1 => all2 fun p2 => all2 fun p3 => all2 fun p4 => all2 fun q => doneQ (ceTb v p1 p2 p3 p4 q) [] fEnds mlD [] [] (ceR v p1 p2 p3 p4 q) []) = true := by kernel_rfl
def ceM (G : Int) (l : List Value) (n : Nat) (a b : Int) : Int := if validM G l n then (if 0 ≤ a ∧ a < G ∧ 0 ≤ b ∧ b < G ∧ a ≠ b then 0 else 1) else 40
def ceNm (G : Int) (l : List Value) (n : Nat) (a b : Int) : Nm := gnm G l n 0 (fun j => if j = 20 then a else b) ny nz
section
variable {G : Int} {l : List Value} {n : Nat} {a b : Int}
theorem ends_ans (V : Val) (hG : V.I 0 = G) (hL : V.L 0 = l) (hl : ints l) (hn : l.length = n * 4) {x y : RV} (fx : flat x = true) (fy : flat y = true) (hx : @cvF V x = .int .i64 a) (hy : @cvF V y = .int .i64 b) : @AnsN V fEnds [fellR, x, y] (.int .i64 (ceM G l n a b)) := by
  intro w hr vs hv
  let V1 : Val := (ceNm G l n a b).val fun _ => undef
  have hv : All2 (@Go.Ri.NVal V1 w) mlD vs := by
    cases hv with
    | cons h1 h2 => cases h2 with
      | cons h2 h3 => cases h3 with
        | cons h3 h4 =>
          cases h4
          refine .cons (fell_nval1 hG hL h1) (.cons ?_ (.cons ?_ .nil))
          · have := @flat_of_nval V w x _ fx h2
            rw [this, hx]
            exact @nval_of_flat V1 w (sI 20) rfl
          · have := @flat_of_nval V w y _ fy h3
            rw [this, hy]
            exact @nval_of_flat V1 w (sI 21) rfl
  have hC : @AnsN V1 fCheck [fellR] (.int .i64 (errM G l n)) := check_ans _ rfl rfl hl hn
  have ht : @TbOK V1 (ceTb (validM G l n) (decide (a < 0)) (decide (a ≥ G)) (decide (b < 0)) (decide (b ≥ G)) (decide (a = b))) := by
    letI : Val := V1
    refine { T := fa (f_lss (k := .i64) (m := a) (n := 0) rfl rfl rfl) (fa (f_geq (k := .i64) (m := a) (n := G) rfl rfl rfl) (fa (f_lss (k := .i64) (m := b) (n := 0) rfl rfl rfl) (fa (f_geq (k := .i64) (m := b) (n := G) rfl rfl rfl) (fa (f_ieq (k := .i64) (m := a) (n := b) rfl rfl (eqdec _ _)) fz)))), LL := fa ⟨rfl, n, Nat.succ_pos 3, hn, rfl⟩ fz, C := fa ?_ fz }
    unfold errM at hC
    cases hva : validM G l n with
    | true => rw [hva] at hC; exact hC
    | false => rw [hva] at hC; exact hC
  have hrun := all2_all (all2_all (all2_all (all2_all (all2_all (all2_all ce_run (validM G l n)) (decide (a < 0))) (decide (a ≥ G))) (decide (b < 0))) (decide (b ≥ G))) (decide (a = b))
  refine done_flat V1 ht hrun ?_ ?_ ?_ w hr vs hv
  · unfold ceR
    split
    · split <;> rfl
    · rfl
  · unfold ceR
    split
    · split <;> rfl
    · rfl
  · unfold ceR ceM
    cases validM G l n with
    | false => rfl
    | true =>
      rw [if_pos rfl, if_pos rfl]
      by_cases h : 0 ≤ a ∧ a < G ∧ 0 ≤ b ∧ b < G ∧ a ≠ b
      · rw [if_pos h]
        have : (decide (a < 0) || decide (a ≥ G) || decide (b < 0) || decide (b ≥ G) || decide (a = b)) = false := by
          simp only [Bool.or_eq_false_iff, decide_eq_false_iff_not]
          omega
        rw [this]
        rfl
      · rw [if_neg h]
        have : (decide (a < 0) || decide (a ≥ G) || decide (b < 0) || decide (b ≥ G) || decide (a = b)) = true := by
          simp only [Bool.or_eq_true, decide_eq_true_eq]
          omega
        rw [this]
        rfl
end
/-! Lanes: runs. 17 how many, 22 the place, 23 the next one; lists: 70 the lanes so far, 71 then, 62 the lane. -/
noncomputable def mlR2 : RV := .tup [.agg (rangeR 100 32), sI 17]
noncomputable def lnE : Tb := { LL := hLL, C := [⟨fEnds, mlD, lI 0⟩, ⟨fMost, mlD, mlR2⟩] }
noncomputable def lnP (c : Bool) : St := ⟨patW [(1, sI 20), (2, sI 21), (3, .ptr 1 0), (8, lI 0), (9, .ptr 2 0), (11, if c then .slN 3 70 1 else nilR), (26, sI 17), (27, sI 22)] 38 0, tkH0 c 30⟩
def lnS (i : RV) : List SE := [.int 0 (sI 0), .int 1 (sI 1), .int 17 (sI 17), .int 20 (sI 20), .int 21 (sI 21), .int 22 i, .lst 0 0]
set_option maxRecDepth 100000 in
theorem ln_enter : atH (entN lnE [] fLanes mlD) fLanes 0 (.new 30 (rangeR 100 32) :: lnS (lI 0)) [0, 1, 2] (lnP false) = true := by kernel_rfl
noncomputable def lnTb (c b : Bool) : Tb := { T := if b then [⟨.bin .lss, sI 22, sI 17, bR true⟩, ⟨.bin .add, sI 22, lI 1, sI 23⟩] else [⟨.bin .lss, sI 22, sI 17, bR false⟩], LL := hLL, U := if b then unU [⟨fTake, tkId c, tkA, tkH0 c 30, .slN (tkM c) 62 1, tkK c⟩] else fun _ _ _ => none, LNA := if b then (if c then [⟨some 70, 62, 71⟩] else [⟨none, 62, 71⟩]) else [] }
set_option maxRecDepth 100000 in
theorem ln_again : (all2 fun c => atH (fromH (lnTb c true) [] fLanes 0 (lnP c)) fLanes 0 (.lst 30 31 :: .lst 70 71 :: lnS (sI 23)) [0, 1, 2, if c then 6 else 5] (lnP true)) = true := by kernel_rfl
def lnAns (c : Bool) : RV × RH := if c then (.tup [.slN 0 72 1, lI 0], [some (.lstL 72 tInts 1)]) else (tupN 0, [])
set_option maxRecDepth 100000 in
theorem ln_out : (all2 fun c => endQ (lnTb c false) fLanes (fromH (lnTb c false) [] fLanes 0 (lnP c)) (if c then [.lst 72 70] else []) (if c then [3] else []) (lnAns c).1 (lnAns c).2) = true := by kernel_rfl
set_option maxRecDepth 100000 in
theorem ln_err : (all2 fun v => doneQ { LL := hLL, C := [⟨fEnds, mlD, if v then lI 1 else lI 40⟩] } [] fLanes mlD [] [] (if v then tupN 1 else tupN 40) []) = true := by kernel_rfl
section
variable (A B : Nat → Nat) (n a b : Nat) (t0 : Nat → Int)
/-- What is left of the use of the gates behind j lanes; these lanes. -/
noncomputable def lnT : Nat → (Nat → Int)
  | 0 => t0
  | j + 1 => (tkRes A B n a b (lnT j)).2
noncomputable def lnL : Nat → List (List Nat)
  | 0 => []
  | j + 1 => lnL j ++ [(tkRes A B n a b (lnT A B n a b t0 j)).1]
variable {A B n a b t0}
theorem lnL_len : ∀ j, (lnL A B n a b t0 j).length = j
  | 0 => rfl
  | j + 1 => by
    show (lnL A B n a b t0 j ++ [_]).length = _
    rw [List.length_append, lnL_len j]
    rfl
theorem lnT_flow {u : Nat → Bool} (hne : ∀ i, i < n → A i ≠ B i) {K : Nat} (F : IsFlow A B n u a b t0 (K : Int)) : ∀ j, j ≤ K → IsFlow A B n u a b (lnT A B n a b t0 j) ((K - j : Nat) : Int)
  | 0, _ => F
  | j + 1, hj => by
    have h := lnT_flow hne F j (by omega)
    rw [show K - j = (K - (j + 1)) + 1 by omega] at h
    exact (tkRes_ok hne h).2.flow
end
def lanesV (L : List (List Nat)) : List Value := L.map fun x => .agg (intsL x).toArray
def lnI (a b K j : Nat) (t : Nat → Int) (i : Nat) : Int := if i = 17 then (K : Int) else if i = 20 then (a : Int) else if i = 21 then (b : Int) else if i = 22 then (j : Int) else if i = 23 then (j : Int) + 1 else if 100 ≤ i ∧ i < 132 then t (i - 100) else 0
noncomputable def lnLs (A B : Nat → Nat) (n a b : Nat) (t0 : Nat → Int) (j i : Nat) : List Value := if i = 30 then ivl (lnT A B n a b t0 j) 32 else if i = 31 then ivl (lnT A B n a b t0 (j + 1)) 32 else if i = 62 then intsL (tkRes A B n a b (lnT A B n a b t0 j)).1 else if i = 70 then lanesV (lnL A B n a b t0 j) else lanesV (lnL A B n a b t0 (j + 1))
noncomputable def lnNm (G : Int) (l : List Value) (n a b K : Nat) (t0 : Nat → Int) (j : Nat) : Nm := gnm G l n 0 (lnI a b K j t0) ny (lnLs (gA' l) (gB' l) n a b t0 j)
section
variable {G : Int} {l : List Value} {n a b : Nat}
theorem rangeR_ln (G : Int) (l : List Value) (n a b K : Nat) (t0 : Nat → Int) (j : Nat) (W : Nat → Value) : (rangeR 100 32).map (@cv ((lnNm G l n a b K t0 j).val W)) = ivl t0 32 := by
  letI : Val := (lnNm G l n a b K t0 j).val W
  rw [rangeR_cv 100 32]
  refine ivl_congr 32 fun i hi => ?_
  show (gnm G l n 0 (lnI a b K j t0) ny (lnLs (gA' l) (gB' l) n a b t0 j)).I (100 + i) = t0 i
  unfold gnm
  simp only
  rw [if_neg (by omega), if_neg (by omega), if_neg (by omega), if_neg (by omega), if_neg (by omega), if_neg (by omega), if_neg (by omega), if_neg (by omega)]
  unfold lnI
  rw [if_neg (by omega), if_neg (by omega), if_neg (by omega), if_neg (by omega), if_neg (by omega), if_pos (by omega)]
  congr 1
  omega
theorem ln_ids {V V' : Val} (G n K a b : Int) (l : List Value) (i : RV) (mi : Int) (hi : @cv V i = .int .i64 mi) (h22 : V'.I 22 = mi) (g0 : V.I 0 = G) (g1 : V.I 1 = n) (g2 : V.I 20 = a) (g3 : V.I 21 = b) (g4 : V.L 0 = l) (g5 : V.I 17 = K) (h0 : V'.I 0 = G) (h1 : V'.I 1 = n) (h20 : V'.I 20 = a) (h21 : V'.I 21 = b) (hl : V'.L 0 = l) (h17 : V'.I 17 = K) : ∀ e, e ∈ lnS i → okSE V V' e :=
  fa ⟨.i64, G, congrArg _ g0, h0⟩ (fa ⟨.i64, n, congrArg _ g1, h1⟩ (fa ⟨.i64, K, congrArg _ g5, h17⟩ (fa ⟨.i64, a, congrArg _ g2, h20⟩ (fa ⟨.i64, b, congrArg _ g3, h21⟩ (fa ⟨.i64, mi, hi, h22⟩ (fa (okLs l hl g4) fz))))))
theorem ml_args {V V1 : Val} {G : Int} {l : List Value} {w : World} {x y : RV} {vs : List Value} {a b : Int} (hG : V.I 0 = G) (hL : V.L 0 = l) (fx : flat x = true) (fy : flat y = true) (hx : @cvF V x = .int .i64 a) (hy : @cvF V y = .int .i64 b) (k0 : V1.I 0 = G) (k1 : V1.L 0 = l) (k2 : V1.I 20 = a) (k3 : V1.I 21 = b) (hv : All2 (@Go.Ri.NVal V w) [fellR, x, y] vs) : All2 (@Go.Ri.NVal V1 w) mlD vs := by
  cases hv with
  | cons h1 h2 => cases h2 with
    | cons h2 h3 => cases h3 with
      | cons h3 h4 =>
        cases h4
        refine .cons (fell_nval1 (hG.trans k0.symm) (hL.trans k1.symm) h1) (.cons ?_ (.cons ?_ .nil))
        · have := @flat_of_nval V w x _ fx h2
          rw [this, hx, ← k2]
          exact @nval_of_flat V1 w (sI 20) rfl
        · have := @flat_of_nval V w y _ fy h3
          rw [this, hy, ← k3]
          exact @nval_of_flat V1 w (sI 21) rfl
noncomputable def mlT (l : List Value) (n a b : Nat) : Nat → Int := (mlRes (gA' l) (gB' l) n (usP l) a b).1
noncomputable def mlK (l : List Value) (n a b : Nat) : Nat := (mlRes (gA' l) (gB' l) n (usP l) a b).2
/-- The lanes that Lanes answers. -/
noncomputable def lanesL (l : List Value) (n a b : Nat) : List (List Nat) := lnL (gA' l) (gB' l) n a b (mlT l n a b) (mlK l n a b)
theorem mlK_le (hva : validM G l n = true) (ha : a < 16) (hb : b < 16) (hab : a ≠ b) : mlK l n a b ≤ n := by
  have hg := gate_in hva
  obtain ⟨F, M⟩ := mlRes_spec (u := usP l) hg.1 hg.2 ha hb hab
  have w := weak hg.1 ha hb F (S := fun x => decide (x = a)) (decide_eq_true rfl) (decide_eq_false (Ne.symm hab))
  have := cut_le (A := gA' l) (B := gB' l) (u := usP l) (fun x => decide (x = a)) n
  show (mlRes _ _ _ _ _ _).2 ≤ n
  omega
set_option maxRecDepth 10000 in
theorem lanes_q (V : Val) (hG : V.I 0 = G) (hL : V.L 0 = l) (hl : ints l) (hn : l.length = n * 4) (hva : validM G l n = true) (haG : (a : Int) < G) (hbG : (b : Int) < G) (hab : a ≠ b) {x y : RV} (fx : flat x = true) (fy : flat y = true) (hx : @cvF V x = .int .i64 (a : Int)) (hy : @cvF V y = .int .i64 (b : Int)) (h72 : V.L 72 = lanesV (lanesL l n a b)) : @QNTrue V ⟨fLanes, [fellR, x, y], (lnAns (!(lanesL l n a b).isEmpty)).1, (lnAns (!(lanesL l n a b).isEmpty)).2⟩ := by
  intro w hr vs hv
  have hg := gate_in hva
  have hG16 : G ≤ 16 := ((validM_iff _ _ _).1 hva).2.1
  have hb32 : n ≤ 32 := ((validM_iff _ _ _).1 hva).2.2.1
  have ha : a < 16 := by omega
  have hb : b < 16 := by omega
  have hK := mlK_le (n := n) hva ha hb hab
  obtain ⟨F, _⟩ := mlRes_spec (u := usP l) hg.1 hg.2 ha hb hab
  have F : IsFlow (gA' l) (gB' l) n (usP l) a b (mlT l n a b) ((mlK l n a b : Nat) : Int) := F
  obtain ⟨t0, ht0⟩ : ∃ t0, t0 = mlT l n a b := ⟨_, rfl⟩
  obtain ⟨K, hKd⟩ : ∃ K, K = mlK l n a b := ⟨_, rfl⟩
  have hmost := fun (V : Val) h0 h1 h2 h3 => most_ans (G := G) (l := l) (n := n) (a := a) (b := b) V h0 h1 hl hn hva ha hb hab (x := sI 20) (y := sI 21) rfl rfl h2 h3
  have hmV : mlV l n a b = .tuple #[.agg (ivl t0 32).toArray, .int .i64 (K : Int)] := by rw [ht0, hKd]; rfl
  have hLa : lanesL l n a b = lnL (gA' l) (gB' l) n a b t0 K := by rw [ht0, hKd]; rfl
  rw [← ht0, ← hKd] at F
  rw [← hKd] at hK
  rw [hmV] at hmost
  rw [hLa] at h72 ⊢
  let V1 : Val := (lnNm G l n a b K t0 0).val fun _ => undef
  have hv : All2 (@Go.Ri.NVal V1 w) mlD vs := ml_args (V := V) (V1 := V1) hG hL fx fy hx hy rfl rfl rfl rfl hv
  have hLL : ∀ j W, ∀ e, e ∈ hLL → @LLTrue ((lnNm G l n a b K t0 j).val W) e := fun j W => fa ⟨rfl, n, Nat.succ_pos 3, hn, rfl⟩ fz
  have he := ends_ans (G := G) (l := l) (n := n) (a := (a : Int)) (b := (b : Int)) V1 rfl rfl hl hn (x := sI 20) (y := sI 21) rfl rfl rfl rfl
  rw [show ceM G l n (a : Int) (b : Int) = 0 by unfold ceM; rw [hva, if_pos rfl, if_pos (by omega)]] at he
  have htE : @TbOK V1 lnE := by
    letI : Val := V1
    refine { LL := hLL _ _, C := fa he (fa ?_ fz) }
    have h1 := hmost V1 rfl rfl rfl rfl
    have e : @cvF V1 mlR2 = .tuple #[.agg (ivl t0 32).toArray, .int .i64 (K : Int)] := by
      show Value.tuple #[.agg ((rangeR 100 32).map (@cv ((lnNm G l n a b K t0 0).val _))).toArray, _] = _
      rw [rangeR_ln]
      rfl
    rw [← e] at h1
    exact h1
  refine fn_headsN (κ := Bool) (lnNm G l n a b K t0 0) (fun _ => undef) lnE [] fLanes mlD (fun _ => 0) lnP (fun m c nm => ∃ j, j ≤ K ∧ m = K - j ∧ c = !(lnL (gA' l) (gB' l) n a b t0 j).isEmpty ∧ nm = lnNm G l n a b K t0 j) htE (.new 30 (rangeR 100 32) :: lnS (lI 0)) [0, 1, 2] false K ln_enter (lnNm G l n a b K t0 0) (fun W' => holds_all (fa ?_ (ln_ids G n K a b l (lI 0) 0 rfl rfl rfl rfl rfl rfl rfl rfl rfl rfl rfl rfl rfl rfl))) ⟨0, Nat.zero_le _, rfl, rfl, rfl⟩ (DQ V (lnAns (!(lnL (gA' l) (gB' l) n a b t0 K).isEmpty)).1 (lnAns (!(lnL (gA' l) (gB' l) n a b t0 K).isEmpty)).2) ?_ w hr vs hv
  · show ivl t0 32 = (rangeR 100 32).map (@cv ((lnNm G l n a b K t0 0).val _))
    rw [rangeR_ln]
  rintro w m c nm ⟨j, hj, rfl, rfl, rfl⟩ W
  rcases Nat.lt_or_ge j K with hlt | hge
  · have Fj := lnT_flow hg.2 F j hj
    rw [show K - j = (K - (j + 1)) + 1 by omega] at Fj
    have ht : ∀ c, c = !(lnL (gA' l) (gB' l) n a b t0 j).isEmpty → @TbOK ((lnNm G l n a b K t0 j).val W) (lnTb c true) := fun c hc => by
      letI V2 : Val := (lnNm G l n a b K t0 j).val W
      refine { T := fa (f_lss (k := .i64) (m := (j : Int)) (n := (K : Int)) rfl rfl (decide_eq_true (by omega))) (fa (f_add1 (m := (j : Int)) rfl rfl rfl (by omega) (by omega)) fz), LL := hLL _ _, U := unU_ok _ (fa (tk_calls (G := G) (l := l) (n := n) (a := a) (b := b) (k := K - (j + 1)) (t0 := lnT (gA' l) (gB' l) n a b t0 j) (L70 := lanesV (lnL (gA' l) (gB' l) n a b t0 j)) c V2 rfl rfl rfl rfl rfl (fun _ => rfl) hl hn hva ha hb hab Fj rfl rfl) fz), LNA := ?_ }
      have hlen : (lanesV (lnL (gA' l) (gB' l) n a b t0 (j + 1))).length ≤ 1000000 := by
        unfold lanesV
        rw [List.length_map, lnL_len]
        omega
      have happ : lanesV (lnL (gA' l) (gB' l) n a b t0 (j + 1)) = lanesV (lnL (gA' l) (gB' l) n a b t0 j) ++ [.agg (intsL (tkRes (gA' l) (gB' l) n a b (lnT (gA' l) (gB' l) n a b t0 j)).1).toArray] := by
        show lanesV (lnL (gA' l) (gB' l) n a b t0 j ++ [_]) = _
        unfold lanesV
        rw [List.map_append]
        rfl
      cases c with
      | true => exact fa ⟨happ, hlen⟩ fz
      | false =>
        refine fa ⟨?_, hlen⟩ fz
        have hnil : lnL (gA' l) (gB' l) n a b t0 j = [] := by
          cases h : lnL (gA' l) (gB' l) n a b t0 j with
          | nil => rfl
          | cons p q => rw [h] at hc; cases hc
        show lanesV (lnL (gA' l) (gB' l) n a b t0 (j + 1)) = [] ++ _
        rw [happ, hnil]
        rfl
    refine stepH_to _ [] (ht _ rfl) (.lst 30 31 :: .lst 70 71 :: lnS (sI 23)) _ rfl true (lnNm G l n a b K t0 (j + 1)) (all2_all ln_again (!(lnL (gA' l) (gB' l) n a b t0 j).isEmpty)) (fun W' => holds_all (fa (okLs (ivl (lnT (gA' l) (gB' l) n a b t0 (j + 1)) 32) rfl rfl) (fa (okLs (lanesV (lnL (gA' l) (gB' l) n a b t0 (j + 1))) rfl rfl) (ln_ids G n K a b l (sI 23) ((j : Int) + 1) rfl rfl rfl rfl rfl rfl rfl rfl rfl rfl rfl rfl rfl rfl)))) ⟨K - (j + 1), by omega, j + 1, hlt, rfl, ?_, rfl⟩
    show true = !(lnL (gA' l) (gB' l) n a b t0 j ++ [_]).isEmpty
    simp
  · obtain rfl : j = K := by omega
    have ht : ∀ c, @TbOK ((lnNm G l n a b j t0 j).val W) (lnTb c false) := fun c => by
      letI V2 : Val := (lnNm G l n a b j t0 j).val W
      exact { T := fa (f_lss (k := .i64) (m := (j : Int)) (n := (j : Int)) rfl rfl (decide_eq_false (by omega))) fz, LL := hLL _ _, LNA := fz }
    refine stepH_outQ _ [] (ht _) V _ _ _ _ (all2_all ln_out (!(lnL (gA' l) (gB' l) n a b t0 j).isEmpty)) (by unfold lnAns; split <;> rfl) (holds_all ?_)
    cases (!(lnL (gA' l) (gB' l) n a b t0 j).isEmpty) with
    | true => exact fa (okLs (lanesV (lnL (gA' l) (gB' l) n a b t0 j)) h72 rfl) fz
    | false => exact fz
theorem lanes_err (V : Val) {a b : Int} (hG : V.I 0 = G) (hL : V.L 0 = l) (hl : ints l) (hn : l.length = n * 4) {e : Int} (he : ceM G l n a b = e) (v : Bool) (hev : e = if v then 1 else 40) {x y : RV} (fx : flat x = true) (fy : flat y = true) (hx : @cvF V x = .int .i64 a) (hy : @cvF V y = .int .i64 b) : @AnsN V fLanes [fellR, x, y] (.tuple #[.slice none 0 0, .int .i64 e]) := by
  intro w hr vs hv
  let V1 : Val := (ceNm G l n a b).val fun _ => undef
  have hv : All2 (@Go.Ri.NVal V1 w) mlD vs := ml_args (V := V) (V1 := V1) hG hL fx fy hx hy rfl rfl rfl rfl hv
  have hE := ends_ans (G := G) (l := l) (n := n) (a := a) (b := b) V1 rfl rfl hl hn (x := sI 20) (y := sI 21) rfl rfl rfl rfl
  rw [he, hev] at hE
  have ht : @TbOK V1 { LL := hLL, C := [⟨fEnds, mlD, if v then lI 1 else lI 40⟩] } := by
    letI : Val := V1
    refine { LL := fa ⟨rfl, n, Nat.succ_pos 3, hn, rfl⟩ fz, C := fa ?_ fz }
    cases v <;> exact hE
  refine done_flat V1 ht (all2_all ln_err v) ?_ ?_ ?_ w hr vs hv
  · cases v <;> rfl
  · cases v <;> rfl
  · rw [hev]
    cases v <;> rfl
end
end Go.Proofs.Z
