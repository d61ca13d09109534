/- A part of the proofs that the laws of layer four answer true for every input. -/
import Derived.Test.YtjjmnoiiihcoiaaGreatDoorZHB
namespace Go.Proofs.Z
open Go Go.RowKit Go.Proofs Go.Ri Go.Proofs.Z.Fa
/-! Meeting of package fell: its contract. -/
def meV (d x : Int) (f : Bool) (e : Int) : Value := .tuple #[.int .i64 d, .int .i64 x, .bool f, .int .i64 e]
/-- What Meeting answers: the day, the grazing, whether there is one, the error. -/
noncomputable def meM (G : Int) (l : List Value) (n : Nat) (a b fr to : Int) : Value :=
  if validM G l n then (if agCls G a b fr to = 8 then (let k := meK l n (2 ^ a.toNat) (2 ^ b.toNat) fr (to + 1 - fr).toNat
    if k < (to + 1 - fr).toNat then meV (fr + k) (Lib.ctz 16 (meB l n (2 ^ a.toNat) (2 ^ b.toNat) fr k) : Nat) true 0 else meV 0 0 false 0) else meV 0 0 false 1) else meV 0 0 false 40
def menm (G : Int) (l : List Value) (n : Nat) (a b fr to : Int) (s t : Nat) (D : Int) (s' t' : Nat) (E1 E2 : Int) : Nm :=
  ⟨fun j => if j = 0 then G else if j = 1 then (n : Int) else if j = 20 then a else if j = 21 then b else if j = 22 then fr else if j = 23 then to else if j = 10 then (s : Int) else if j = 12 then (t : Int) else if j = 24 then D else if j = 11 then (s' : Int) else if j = 13 then (t' : Int) else if j = 14 then ((s' &&& t' : Nat) : Int) else if j = 25 then E1 else if j = 26 then E2 else ((Lib.ctz 16 (s' &&& t') : Nat) : Int), ny, fun _ => ⟨#[]⟩, fun _ => l⟩
theorem meS_ok {G : Int} {l : List Value} {n : Nat} {a b fr to : Int} (s t : Nat) (D : Int) (s' t' : Nat) (E1 E2 : Int) (s2 t2 : Nat) (D2 : Int) (s3 t3 : Nat) (E3 E4 : Int) (W W' : Nat → Value) {u v r : RV} (hu : @cv ((menm G l n a b fr to s t D s' t' E1 E2).val W) u = .int .u16 (s2 : Nat)) (hv : @cv ((menm G l n a b fr to s t D s' t' E1 E2).val W) v = .int .u16 (t2 : Nat)) (h : @cv ((menm G l n a b fr to s t D s' t' E1 E2).val W) r = .int .i64 D2) :
    ∀ e, e ∈ meS u v r → okSE ((menm G l n a b fr to s t D s' t' E1 E2).val W) ((menm G l n a b fr to s2 t2 D2 s3 t3 E3 E4).val W') e :=
  fa ⟨.u16, (s2 : Int), hu, rfl⟩ (fa ⟨.u16, (t2 : Int), hv, rfl⟩ (fa ⟨.i64, D2, h, rfl⟩ (fapp (ids_ok [0, 1, 20, 21, 22, 23] (fa rfl (fa rfl (fa rfl (fa rfl (fa rfl (fa rfl fz))))))) (fa (show l = l from rfl) fz))))
theorem nval5 {V V' : Val} {w : World} {G : Int} {l : List Value} {a b fr to : Int} {x y z u : RV} {vs : List Value} (hG : V.I 0 = G) (hL : V.L 0 = l) (fx : flat x = true) (hx : @cvF V x = .int .i64 a) (fy : flat y = true) (hy : @cvF V y = .int .i64 b) (fz' : flat z = true) (hz : @cvF V z = .int .i64 fr) (fu : flat u = true) (hu : @cvF V u = .int .i64 to)
    (e0 : V'.I 0 = G) (e1 : V'.L 0 = l) (e2 : V'.I 20 = a) (e3 : V'.I 21 = b) (e4 : V'.I 22 = fr) (e5 : V'.I 23 = to) (hv : All2 (@Go.Ri.NVal V w) [fellR, x, y, z, u] vs) : All2 (@Go.Ri.NVal V' w) meD vs := by
  cases hv with
  | cons h1 h2 => cases h2 with
    | cons h2 h3 => cases h3 with
      | cons h3 h4 => cases h4 with
        | cons h4 h5 => cases h5 with
          | cons h5 h6 =>
            cases h6
            exact .cons (fell_nval1 (hG.trans e0.symm) (hL.trans e1.symm) h1) (.cons (nval_re fx rfl hx (show Value.int .i64 (V'.I 20) = .int .i64 a by rw [e2]) h2) (.cons (nval_re fy rfl hy (show Value.int .i64 (V'.I 21) = .int .i64 b by rw [e3]) h3) (.cons (nval_re fz' rfl hz (show Value.int .i64 (V'.I 22) = .int .i64 fr by rw [e4]) h4) (.cons (nval_re fu rfl hu (show Value.int .i64 (V'.I 23) = .int .i64 to by rw [e5]) h5) .nil))))
set_option maxHeartbeats 2000000 in
theorem meeting_ans (V : Val) {G : Int} {l : List Value} {n : Nat} {a b fr to : Int} {x y z u : RV} (hG : V.I 0 = G) (hL : V.L 0 = l) (hl : ints l) (hn : l.length = n * 4) (fx : flat x = true) (hx : @cvF V x = .int .i64 a) (fy : flat y = true) (hy : @cvF V y = .int .i64 b) (fz' : flat z = true) (hz : @cvF V z = .int .i64 fr) (fu : flat u = true) (hu : @cvF V u = .int .i64 to) :
    @AnsN V fMeeting [fellR, x, y, z, u] (meM G l n a b fr to) := by
  intro w hr vs hv
  have hv : ∀ s t D s' t' E1 E2, All2 (@Go.Ri.NVal ((menm G l n a b fr to s t D s' t' E1 E2).val fun _ => undef) w) meD vs := fun s t D s' t' E1 E2 => nval5 hG hL fx hx fy hy fz' hz fu hu rfl rfl rfl rfl rfl rfl hv
  have h4L : ∀ s t D s' t' E1 E2 W, ∀ e, e ∈ hLL → @LLTrue ((menm G l n a b fr to s t D s' t' E1 E2).val W) e := fun s t D s' t' E1 E2 W => fa ⟨rfl, n, Nat.succ_pos 3, hn, rfl⟩ fz
  have hC1 : ∀ s t D s' t' E1 E2 W, @AnsN ((menm G l n a b fr to s t D s' t' E1 E2).val W) fCheck [fellR] (.int .i64 (errM G l n)) := fun s t D s' t' E1 E2 W => check_ans _ rfl rfl hl hn
  have hC2 : ∀ s t D s' t' E1 E2 W, @AnsN ((menm G l n a b fr to s t D s' t' E1 E2).val W) fValid [fellR] (.bool (validM G l n)) := fun s t D s' t' E1 E2 W => valid_ans _ rfl rfl hl hn
  unfold meM
  cases hva : validM G l n with
  | false =>
    have he : errM G l n = 40 := by unfold errM; rw [hva]; rfl
    have ht : @TbOK ((menm G l n a b fr to 0 0 0 0 0 0 0).val fun _ => undef) { LL := hLL, C := [⟨fCheck, [fellR], lI 40⟩] } := by
      letI : Val := (menm G l n a b fr to 0 0 0 0 0 0 0).val fun _ => undef
      have h := hC1 0 0 0 0 0 0 0 fun _ => undef
      rw [he] at h
      exact { LL := h4L _ _ _ _ _ _ _ _, C := fa h fz }
    exact done_flat _ ht me_err40 rfl rfl rfl w hr vs (hv _ _ _ _ _ _ _)
  | true =>
    have he : errM G l n = 0 := by unfold errM; rw [hva]; rfl
    have hle : agCls G a b fr to ≤ 8 := firstBad_le (agTest G a b fr to) 8 0
    by_cases hc8 : agCls G a b fr to = 8
    · rw [if_pos rfl, if_pos hc8]
      have p0 : (0 : Int) ≤ a := of_decide_eq_true (agTest_pass (G := G) (a := a) (b := b) (fr := fr) (to := to) (j := 0) (by omega))
      have p1 : a < G := of_decide_eq_true (agTest_pass (G := G) (a := a) (b := b) (fr := fr) (to := to) (j := 1) (by omega))
      have p2 : (0 : Int) ≤ b := of_decide_eq_true (agTest_pass (G := G) (a := a) (b := b) (fr := fr) (to := to) (j := 2) (by omega))
      have p3 : b < G := of_decide_eq_true (agTest_pass (G := G) (a := a) (b := b) (fr := fr) (to := to) (j := 3) (by omega))
      have p4 : (0 : Int) ≤ fr := of_decide_eq_true (agTest_pass (G := G) (a := a) (b := b) (fr := fr) (to := to) (j := 4) (by omega))
      have p5 : fr ≤ 1048576 := of_decide_eq_true (agTest_pass (G := G) (a := a) (b := b) (fr := fr) (to := to) (j := 5) (by omega))
      have p6 : fr ≤ to := of_decide_eq_true (agTest_pass (G := G) (a := a) (b := b) (fr := fr) (to := to) (j := 6) (by omega))
      have p7 : to ≤ 1048576 := of_decide_eq_true (agTest_pass (G := G) (a := a) (b := b) (fr := fr) (to := to) (j := 7) (by omega))
      have hG16 := ((validM_iff _ _ _).1 hva).2.1
      have hon := only_ans (show a.toNat < 16 by omega)
      rw [show ((a.toNat : Nat) : Int) = a by omega] at hon
      have hon2 := only_ans (show b.toNat < 16 by omega)
      rw [show ((b.toNat : Nat) : Int) = b by omega] at hon2
      have hS0 : 2 ^ a.toNat < 65536 := pow_lt16 (by omega)
      have hT0 : 2 ^ b.toNat < 65536 := pow_lt16 (by omega)
      show Calls Tryz.prog fMeeting vs.toArray w (DF (if meK l n (2 ^ a.toNat) (2 ^ b.toNat) fr (to + 1 - fr).toNat < (to + 1 - fr).toNat then meV (fr + meK l n (2 ^ a.toNat) (2 ^ b.toNat) fr (to + 1 - fr).toNat) (Lib.ctz 16 (meB l n (2 ^ a.toNat) (2 ^ b.toNat) fr (meK l n (2 ^ a.toNat) (2 ^ b.toNat) fr (to + 1 - fr).toNat)) : Nat) true 0 else meV 0 0 false 0) w)
      have hlv : ∀ s d, 0 ≤ d → 0 ≤ lvM l s d n := fun s d hd => by
        rcases Int.lt_or_le 1048576 (lvM l s d n) with h | h
        · omega
        · have := (lv_open (S := s) hva hd h).1
          omega
      generalize 2 ^ a.toNat = S0 at *
      generalize 2 ^ b.toNat = T0 at *
      let nm : Nat → Nat → Int → Nm := fun s t D => menm G l n a b fr to s t D (dayS l n s D) (dayS l n t D) (lvM l (dayS l n s D) D n) (lvM l (dayS l n t D) D n)
      have ht : @TbOK ((nm S0 T0 fr).val fun _ => undef) meE8 := by
        letI : Val := (nm S0 T0 fr).val fun _ => undef
        have h := hC1 S0 T0 fr (dayS l n S0 fr) (dayS l n T0 fr) (lvM l (dayS l n S0 fr) fr n) (lvM l (dayS l n T0 fr) fr n) fun _ => undef
        rw [he] at h
        have hT := agT_gen ((nm S0 T0 fr).val fun _ => undef) (G := G) (a := a) (b := b) (fr := fr) (to := to) rfl rfl rfl rfl rfl
        rw [hc8, show decide (0 ≤ to) = true from decide_eq_true (by omega)] at hT
        exact { T := hT, LL := h4L _ _ _ _ _ _ _ _, C := fa h fz, Y := fa hon (fa hon2 fz) }
      refine fn_loop (κ := Unit) (nm S0 T0 fr) (fun _ => undef) meE8 [] fMeeting meD (fun _ => meP) (fun m _ c => ∃ s t D fresh, s < 65536 ∧ t < 65536 ∧ MeetI l n S0 T0 fr to s t D fresh ∧ 0 ≤ D ∧ D ≤ 1048577 ∧ c = nm s t D ∧ m = (if fresh = true then 1 else 0) + (32 - (cnt (fun x => s.testBit x) 16 + cnt (fun x => t.testBit x) 16))) ht (meS (sU 10) (sU 12) (sI 22)) [0, 1] () _ me_enter (nm S0 T0 fr) (fun W' => holds_all (meS_ok _ _ _ _ _ _ _ _ _ _ _ _ _ _ _ W' rfl rfl rfl)) ⟨S0, T0, fr, true, hS0, hT0, meet_start p6, p4, by omega, rfl, rfl⟩ _ ?_ w hr vs (hv _ _ _ _ _ _ _)
      rintro w m _ c ⟨s, t, D, fresh, hs, htt, hI, hDa, hDb, rfl, rfl⟩ W
      by_cases hD : D ≤ to
      · obtain ⟨hfD, hz, es, et, hgr⟩ := meet_step hva hS0 hT0 p7 hD hI
        have hs' : dayS l n s D < 65536 := clS_lt _ _ _ _
        have ht' : dayS l n t D < 65536 := clS_lt _ _ _ _
        have hbk : dayS l n s D &&& dayS l n t D = meB l n S0 T0 fr (D - fr).toNat := by
          unfold meB
          rw [es, et]
        have hend1 := endOf_ans ((nm s t D).val W) (G := G) (l := l) (d := D) (s := s) (x := sU 10) (y := sI 24) rfl rfl hl hn hva hDa hs rfl rfl rfl rfl
        have hend2 := endOf_ans ((nm s t D).val W) (G := G) (l := l) (d := D) (s := t) (x := sU 12) (y := sI 24) rfl rfl hl hn hva hDa htt rfl rfl rfl rfl
        rw [show clS l n (odP l D) s = dayS l n s D from rfl] at hend1
        rw [show clS l n (odP l D) t = dayS l n t D from rfl] at hend2
        have hand := t_and16 hs' ht'
        have hlt : dayS l n s D &&& dayS l n t D < 65536 := Nat.lt_of_le_of_lt Nat.and_le_left hs'
        have hM : (D - fr).toNat < (to + 1 - fr).toNat := by omega
        by_cases hb : dayS l n s D &&& dayS l n t D = 0
        · have hlea1 := leaving_ans ((nm s t D).val W) (G := G) (l := l) (d := D) (s := dayS l n s D) (x := sU 11) (y := sI 24) rfl rfl hl hn hva hDa (by omega) hs' rfl rfl rfl rfl
          have hlea2 := leaving_ans ((nm s t D).val W) (G := G) (l := l) (d := D) (s := dayS l n t D) (x := sU 13) (y := sI 24) rfl rfl hl hn hva hDa (by omega) ht' rfl rfl rfl rfl
          have hE1 := hlv (dayS l n s D) D hDa
          have hE2 := hlv (dayS l n t D) D hDa
          have hF1 := lv_le l (dayS l n s D) D n
          have hF2 := lv_le l (dayS l n t D) D n
          have hnx : ∀ E, E ≤ lvM l (dayS l n s D) D n → E ≤ lvM l (dayS l n t D) D n → (E = lvM l (dayS l n s D) D n ∨ E = lvM l (dayS l n t D) D n) → MeetI l n S0 T0 fr to (dayS l n s D) (dayS l n t D) E false := fun E h1 h2 h3 => meet_next hva hS0 hT0 hs htt p4 p7 hD hI hb h1 h2 h3
          letI : Val := (nm s t D).val W
          have hcnt : (if fresh = true then 1 else 0) + (32 - (cnt (fun x => s.testBit x) 16 + cnt (fun x => t.testBit x) 16)) > 32 - (cnt (fun x => (dayS l n s D).testBit x) 16 + cnt (fun x => (dayS l n t D).testBit x) 16) := by
            have m1 := cnt_mono (S := fun x => s.testBit x) (T := fun x => (dayS l n s D).testBit x) (fun x h => clS_sub hva hs h) 16
            have m2 := cnt_mono (S := fun x => t.testBit x) (T := fun x => (dayS l n t D).testBit x) (fun x h => clS_sub hva htt h) 16
            have m3 := cnt_le (fun x => (dayS l n s D).testBit x) 16
            have m4 := cnt_le (fun x => (dayS l n t D).testBit x) 16
            cases fresh with
            | true => simp only [if_true]; omega
            | false =>
              have := hgr rfl
              simp only [Bool.false_eq_true, if_false]
              omega
          have go : ∀ (DD : Ending → World → Prop) c1 c2 E, decide (lvM l (dayS l n s D) D n < 1048577) = c1 → decide (lvM l (dayS l n t D) D n < (if c1 = true then lvM l (dayS l n s D) D n else 1048577)) = c2 → (if c2 = true then lvM l (dayS l n t D) D n else if c1 = true then lvM l (dayS l n s D) D n else 1048577) = E →
              StepT fMeeting (hB meE8 [] fMeeting meD) (hK meE8 [] fMeeting meD) (fun _ => meP) w.heap.size w DD (fun k' c' => ∃ n', n' < (if fresh = true then 1 else 0) + (32 - (cnt (fun x => s.testBit x) 16 + cnt (fun x => t.testBit x) 16)) ∧ ∃ s t D fresh, s < 65536 ∧ t < 65536 ∧ MeetI l n S0 T0 fr to s t D fresh ∧ 0 ≤ D ∧ D ≤ 1048577 ∧ c' = nm s t D ∧ n' = (if fresh = true then 1 else 0) + (32 - (cnt (fun x => s.testBit x) 16 + cnt (fun x => t.testBit x) 16))) () (nm s t D) W := fun DD c1 c2 E h1 h2 h3 => by
            have hmc : cv (meMin c1) = .int .i64 (if c1 = true then lvM l (dayS l n s D) D n else 1048577) := by
              cases c1 <;> rfl
            have hrc : cv (meR c1 c2) = .int .i64 E := by
              rw [← h3]
              cases c2
              · cases c1 <;> rfl
              · rfl
            have hEb : E ≤ lvM l (dayS l n s D) D n ∧ E ≤ lvM l (dayS l n t D) D n ∧ (E = lvM l (dayS l n s D) D n ∨ E = lvM l (dayS l n t D) D n) ∧ 0 ≤ E ∧ E ≤ 1048577 := by
              subst h3
              generalize lvM l (dayS l n s D) D n = e1 at *
              generalize lvM l (dayS l n t D) D n = e2 at *
              clear hnx hlea1 hlea2 hend1 hend2 hI
              cases c1
              · have h1 := of_decide_eq_false h1
                cases c2
                · have h2 := of_decide_eq_false h2
                  rw [if_neg (by decide)] at h2
                  rw [if_neg (by decide), if_neg (by decide)]
                  omega
                · have h2 := of_decide_eq_true h2
                  rw [if_neg (by decide)] at h2
                  rw [if_pos rfl]
                  omega
              · have h1 := of_decide_eq_true h1
                cases c2
                · have h2 := of_decide_eq_false h2
                  rw [if_pos rfl] at h2
                  rw [if_neg (by decide), if_pos rfl]
                  omega
                · have h2 := of_decide_eq_true h2
                  rw [if_pos rfl] at h2
                  rw [if_pos rfl]
                  omega
            exact step_to (meT c1 c2) [] { T := fapp (fa (f_leq (k := .i64) (m := D) (n := to) rfl rfl (decide_eq_true hD)) (fa (f_bin rfl rfl rfl rfl hand) (fa (f_ieq (k := .u16) (m := ((dayS l n s D &&& dayS l n t D : Nat) : Int)) (n := 0) rfl rfl (by rw [hb]; rfl)) fz))) (fa (f_lss (k := .i64) (m := lvM l (dayS l n s D) D n) (n := 1048577) rfl rfl h1) (fa (f_lss (k := .i64) (m := lvM l (dayS l n t D) D n) (n := if c1 = true then lvM l (dayS l n s D) D n else 1048577) rfl hmc h2) fz)), C := fapp (fa hend1 (fa hend2 fz)) (fa hlea1 (fa hlea2 fz)) } (meS (sU 11) (sU 13) (meR c1 c2)) [0, 1] () (nm (dayS l n s D) (dayS l n t D) E) (all2_all (all2_all me_again c1) c2) (fun W' => holds_all (meS_ok s t D _ _ _ _ (dayS l n s D) (dayS l n t D) E _ _ _ _ W W' rfl rfl hrc)) ⟨32 - (cnt (fun x => (dayS l n s D).testBit x) 16 + cnt (fun x => (dayS l n t D).testBit x) 16), hcnt, dayS l n s D, dayS l n t D, E, false, hs', ht', hnx E hEb.1 hEb.2.1 hEb.2.2.1, hEb.2.2.2.1, hEb.2.2.2.2, rfl, by rw [if_neg (by decide), Nat.zero_add]⟩
          exact go _ _ _ _ rfl rfl rfl
        · have hk : meK l n S0 T0 fr (to + 1 - fr).toNat = (D - fr).toNat := fb_eq (fun j hj => decide_eq_true (hz j hj)) hM (decide_eq_false (by rw [← hbk]; exact hb))
          rw [hk, if_pos hM, ← hbk, show fr + ((D - fr).toNat : Int) = D by omega]
          have hle := least_ans hb hlt
          letI : Val := (nm s t D).val W
          refine step_outF meTF [] { T := fa (f_leq (k := .i64) (m := D) (n := to) rfl rfl (decide_eq_true hD)) (fa (f_bin rfl rfl rfl rfl hand) (fa (f_ieq (k := .u16) (m := ((dayS l n s D &&& dayS l n t D : Nat) : Int)) (n := 0) rfl rfl (by rw [beq_eq_false_iff_ne]; exact fun h => hb (Int.ofNat.inj h))) fz)), C := fa hend1 (fa hend2 fz), Y := fa hle fz } _ me_found rfl
      · have hz := meet_end p6 (by omega) hI
        have hk : meK l n S0 T0 fr (to + 1 - fr).toNat = (to + 1 - fr).toNat := fb_end fun j hj => decide_eq_true (hz j hj)
        rw [hk, if_neg (Nat.lt_irrefl _)]
        letI : Val := (nm s t D).val W
        exact step_outF _ [] { T := fa (f_leq (k := .i64) (m := D) (n := to) rfl rfl (decide_eq_false hD)) fz } _ me_out rfl
    · rw [if_pos rfl, if_neg hc8]
      have ht : @TbOK ((menm G l n a b fr to 0 0 0 0 0 0 0).val fun _ => undef) (rcE 0 (agCls G a b fr to) (decide (0 ≤ to))) := by
        letI : Val := (menm G l n a b fr to 0 0 0 0 0 0 0).val fun _ => undef
        have h := hC1 0 0 0 0 0 0 0 fun _ => undef
        have h' := hC2 0 0 0 0 0 0 0 fun _ => undef
        rw [he] at h
        rw [hva] at h'
        exact { T := agT_gen _ rfl rfl rfl rfl rfl, LL := h4L _ _ _ _ _ _ _ _, C := fa h (fa h' fz) }
      exact done_flat _ ht (all2_all (allU_lt me_err _ (show agCls G a b fr to < 8 by omega)) (decide (0 ≤ to))) rfl rfl rfl w hr vs (hv _ _ _ _ _ _ _)
end Go.Proofs.Z

namespace Go.Proofs.Z
open Go Go.RowKit Go.Proofs Go.Ri Go.Proofs.Z.Fa
/-! Meeting of the specification: runs. -/
theorem dq_ren15 {V1 V : Val} {w : World} {x : Ending} {w' : World} (hL : V.L 15 = V1.L 13) (h : DQ V1 (.slN 0 13 1) [some (.lst 13 tBool true)] w x w') : DQ V (.slN 0 15 1) [some (.lst 15 tBool true)] w x w' := by
  obtain ⟨u, E', he, hu, H⟩ := h
  have q := mtQ_ok (V := V1) (V' := V) (S := [.lst 15 13]) (R := [0]) (r := .slN 0 13 1) (r0 := .slN 0 15 1) (h' := [some (.lst 13 tBool true)]) (h0 := [some (.lst 15 tBool true)]) (by kernel_rfl) rfl (holds_all (fa hL fz)) hu H
  exact ⟨u, _, he, q.1, q.2⟩
theorem dq_ren16 {V1 V : Val} {w : World} {x : Ending} {w' : World} (hL : V.L 16 = V1.L 14) (h : DQ V1 (.slN 0 14 1) [some (.lst 14 tBool true)] w x w') : DQ V (.slN 0 16 1) [some (.lst 16 tBool true)] w x w' := by
  obtain ⟨u, E', he, hu, H⟩ := h
  have q := mtQ_ok (V := V1) (V' := V) (S := [.lst 16 14]) (R := [0]) (r := .slN 0 14 1) (r0 := .slN 0 16 1) (h' := [some (.lst 14 tBool true)]) (h0 := [some (.lst 16 tBool true)]) (by kernel_rfl) rfl (holds_all (fa hL fz)) hu H
  exact ⟨u, _, he, q.1, q.2⟩
section
variable (V : Val) {G : Int} {l : List Value} {n : Nat} {x : RV}
theorem one_q15 (hG : V.I 0 = G) (hL : V.L 0 = l) (hn : l.length = n * 4) (hva : validM G l n = true) {a : Nat} (ha : (a : Int) < G) (fx : flat x = true) (hx : @cvF V x = .int .i64 a) (h15 : V.L 15 = bls (fun x => decide (x = a)) G.toNat) :
    @QNTrue V ⟨fOne, [fellR, x], .slN 0 15 1, [some (.lst 15 tBool true)]⟩ := by
  intro w hr vs hv
  let V1 : Val := (⟨fun i => if i = 0 then G else if i = 1 then V.I 1 else (a : Int), ny, fun _ => ⟨#[]⟩, fun i => if i = 0 then l else bls (fun x => decide (x = a)) G.toNat⟩ : Nm).val fun _ => undef
  have h := one_q V1 (G := G) (l := l) (x := sI 21) (a := a) rfl rfl hn hva ha rfl rfl rfl
  refine (h w hr vs ?_).mono fun e w' h => dq_ren15 (V1 := V1) (V := V) h15 h
  cases hv with
  | cons h1 h2 => cases h2 with
    | cons h2 h3 =>
      cases h3
      exact .cons (fell_nval1 (V' := V1) (hG.trans rfl) (hL.trans rfl) h1) (.cons (nval_re fx rfl hx rfl h2) .nil)
theorem rspread_q16 (hG : V.I 0 = G) (hL : V.L 0 = l) (hl : ints l) (hn : l.length = n * 4) (hva : validM G l n = true) (s e : Nat → Bool) (h15 : V.L 15 = bls s G.toNat) (h11 : V.L 11 = bls e n) (h16 : V.L 16 = bls (cloL l n e s) G.toNat) :
    @QNTrue V ⟨fRSpread, [fellR, .slN 0 15 1, .slN 0 11 1], .slN 0 16 1, [some (.lst 16 tBool true)]⟩ := by
  intro w hr vs hv
  let V1 : Val := (⟨fun i => if i = 0 then G else V.I 1, ny, fun _ => ⟨#[]⟩, fun i => if i = 0 then l else if i = 13 then bls s G.toNat else if i = 11 then bls e n else bls (cloL l n e s) G.toNat⟩ : Nm).val fun _ => undef
  have h := rspread_q V1 (G := G) (l := l) (n := n) rfl rfl hl hn hva s e rfl rfl rfl
  refine (h w hr vs ?_).mono fun e w' h => dq_ren16 (V1 := V1) (V := V) h16 h
  cases hv with
  | cons h1 h2 => cases h2 with
    | cons h2 h3 => cases h3 with
      | cons h3 h4 =>
        cases h4
        exact .cons (fell_nval1 (V' := V1) (hG.trans rfl) (hL.trans rfl) h1) (.cons (lst_nval (V := V) (V' := V1) (j := 13) h15 h2) (.cons (lst_nval (V := V) (V' := V1) (j := 11) h11 h3) .nil))
end
noncomputable def oneE2 : QE := ⟨fOne, [fellR, sI 21], .slN 0 15 1, [some (.lst 15 tBool true)]⟩
noncomputable def reE8 : Tb := { rrE true 8 true with U := qnU [oneE, oneE2] }
noncomputable def reH : RH := fellB ++ [some (.lst 13 tBool true), some (.lst 15 tBool true)]
noncomputable def reP : St := ⟨patW [(5, .ptr 1 0), (3, sI 22), (4, sI 23), (14, .slN 2 13 1), (15, .slN 3 15 1), (16, sI 8)] 90 0, reH⟩
noncomputable def reQ : St := ⟨patW [(5, .ptr 1 0), (3, sI 22), (4, sI 23), (14, .slN 2 13 1), (15, .slN 3 15 1), (16, sI 8), (17, sI 24)] 90 0, reH⟩
def reS (d : RV) (j k : Nat) : List SE := .int 8 d :: (idI [0, 1, 20, 21, 22, 23] ++ [.lst 0 0, .lst 13 j, .lst 15 k])
def reX (x : RV) (j k : Nat) : List SE := .int 24 x :: reS (sI 8) j k
noncomputable def reB : Code := hB reE8 [] fRMeeting meD
noncomputable def reK : List Fr := hK reE8 [] fRMeeting meD
set_option maxRecDepth 100000 in
theorem re_enter : enterT reE8 [] fRMeeting meD (reS (sI 22) 13 15) [0, 1, 2, 3] reP = true := by kernel_rfl
set_option maxRecDepth 100000 in
theorem re_err : (allU 8 fun k => all2 fun s => doneQ (rrE true k s) [] fRMeeting meD [] [] (tup4 1) []) = true := by kernel_rfl
set_option maxRecDepth 100000 in
theorem re_err40 : doneQ { LL := hLL, C := [⟨fValid, [fellR], bR false⟩] } [] fRMeeting meD [] [] (tup4 40) [] = true := by kernel_rfl
noncomputable def reU (ne : Bool) : List QE := if ne then [⟨fOn, [fellR, sI 8], .slN 0 11 1, [some (.lst 11 tBool true)]⟩, ⟨fRSpread, [fellR, .slN 0 13 1, .slN 0 11 1], .slN 0 14 1, [some (.lst 14 tBool true)]⟩, ⟨fRSpread, [fellR, .slN 0 15 1, .slN 0 11 1], .slN 0 16 1, [some (.lst 16 tBool true)]⟩]
  else [⟨fOn, [fellR, sI 8], nilR, []⟩, ⟨fRSpread, [fellR, .slN 0 13 1, nilR], .slN 0 14 1, [some (.lst 14 tBool true)]⟩, ⟨fRSpread, [fellR, .slN 0 15 1, nilR], .slN 0 16 1, [some (.lst 16 tBool true)]⟩]
noncomputable def reT (lg ne : Bool) : Tb := { T := rrT lg true, U := qnU (reU ne) }
noncomputable def reG (lg ne : Bool) : Option Stop := bodT (reT lg ne) [] reB reP
set_option maxRecDepth 100000 in
theorem re_in : (all2 fun lg => all2 fun ne => enterH (reG lg ne) (reX (lI 0) 14 16) (if ne then [0, 1, 5, 7] else [0, 1, 4, 5]) reQ) = true := by kernel_rfl
set_option maxRecDepth 100000 in
theorem re_out : (all2 fun lg => outF { T := rrT lg false } [] fRMeeting reB reK reP (tup4 0)) = true := by kernel_rfl
def reLL : List LNE := [⟨0, 4, sI 1⟩, ⟨13, 1, sI 0⟩, ⟨15, 1, sI 0⟩]
noncomputable def reI (p q : Bool) : Tb := { T := [⟨.bin .lss, sI 24, sI 0, bR true⟩, ⟨.inb, sI 24, sI 0, bR true⟩, ⟨.bin .add, sI 24, lI 1, sI 27⟩], LL := reLL, LX := [⟨13, 24, [bR p]⟩, ⟨15, 24, [bR q]⟩] }
set_option maxRecDepth 100000 in
theorem re_again : (all2 fun lg => all2 fun ne => all2 fun p => all2 fun q => (p && q) || againT (reI p q) [] (hbB (reG lg ne)) (hbK (reG lg ne)) reQ (reX (sI 27) 13 15) [0, 1, 2, 3] reQ) = true := by kernel_rfl
set_option maxRecDepth 100000 in
theorem re_found : (all2 fun lg => all2 fun ne => outIF (reI true true) [] [] fRMeeting (hbB (reG lg ne)) (hbK (reG lg ne)) reK reQ (.tup [sI 8, sI 24, bR true, lI 0])) = true := by kernel_rfl
set_option maxRecDepth 100000 in
theorem re_back : (all2 fun lg => all2 fun ne => backT { T := [⟨.bin .lss, sI 24, sI 0, bR false⟩, ⟨.bin .add, sI 8, lI 1, sI 25⟩] } [] (hbB (reG lg ne)) (hbK (reG lg ne)) reQ (reS (sI 25) 13 15) [0, 1, 2, 3] reP) = true := by kernel_rfl
end Go.Proofs.Z
