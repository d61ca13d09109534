/- A part of the proofs that the laws of layer four answer true for every input. -/
import Derived.Test.YtjjmnoiiihcoiaaGreatDoorZJL
namespace Go.Proofs.Z
open Go Go.RowKit Go.Proofs Go.Ri Go.Proofs.Z.Fa
/-! The law FellArrives. -/
def avn (G : Int) (l : List Value) (n : Nat) (q : List Value) (m : Nat) (a b fr to : Int) (day e : Int) (p : List Value) (N i : Nat) : Nm :=
  ⟨fun j => if j = 0 then G else if j = 1 then (n : Int) else if j = 20 then a else if j = 21 then b else if j = 22 then fr else if j = 23 then day else if j = 24 then day - 1 else if j = 25 then (m : Int) else if j = 26 then (i : Int) else if j = 27 then to else if j = 28 then (N : Int) else if j = 29 then (i : Int) + 1 else if j = 32 then psD q i else if j = 33 then psG q i else if j = 34 then psD p i else if j = 35 then psG p i else if j = 40 then e else if j = 41 then cpM G l n q m a b fr to else if j = 43 then cpM G l n p N a b fr (day - 1) else cpM G l n q m a b fr day,
   fun _ => false, fun _ => ⟨#[]⟩, fun j => if j = 0 then l else if j = 1 then q else p⟩
theorem nil_list {V V' : Val} {w : World} {v : Value} {j s : Nat} (hs : 0 < s) (hL : V'.L j = []) (h : @Go.Ri.NVal V w nilR v) : @Go.Ri.NVal V' w (.slN 0 j s) v :=
  ⟨none, 0, 0, h, fun hne => absurd hL hne, hs, by rw [hL]; simp, Nat.le_refl _, fun a ha => by cases ha⟩
section
variable (V : Val) {G : Int} {l : List Value} {n : Nat} {q : List Value} {m : Nat} {a b fr to : Int}
theorem cp_at (hG : V.I 0 = G) (hL : V.L 0 = l) (hx : V.I 20 = a) (hy : V.I 21 = b) (hz : V.I 22 = fr) {rt rl : RV} (ft : flat rt = true) (et : @cvF V rt = .int .i64 to) (hrl : ∀ w v, @Go.Ri.NVal V w rl v → @Go.Ri.NVal ((pnm G l n q m a b fr to 0).val fun _ => undef) w (.slN 0 1 2) v) (hl : ints l) (hn : l.length = n * 4) (hq : ints q) (hm : q.length = m * 2) (hmb : m ≤ 1000000) :
    @AnsN V fCheckPath (cpA rt rl) (.int .i64 (cpM G l n q m a b fr to)) := by
  intro w hr vs hv
  refine checkPath_ans true hl hn hq hm hmb w hr vs ?_
  cases hv with
  | cons h1 h2 => cases h2 with
    | cons h2 h3 => cases h3 with
      | cons h3 h4 => cases h4 with
        | cons h4 h5 => cases h5 with
          | cons h5 h6 => cases h6 with
            | cons h6 h7 =>
              cases h7
              exact .cons (fell_nval1 hG hL h1) (.cons (nval_re (V := V) (x := sI 20) rfl rfl (congrArg (Value.int .i64) hx) rfl h2) (.cons (nval_re (V := V) (x := sI 21) rfl rfl (congrArg (Value.int .i64) hy) rfl h3) (.cons (nval_re (V := V) (x := sI 22) rfl rfl (congrArg (Value.int .i64) hz) rfl h4) (.cons (nval_re (V := V) ft rfl et rfl h5) (.cons (hrl w _ h6) .nil)))))
end
theorem ieq0 (x : Int) : (x == 0) = decide (x = 0) := eqdec x 0
set_option maxRecDepth 10000 in
set_option maxHeartbeats 2000000 in
theorem arrives_law (G : Int) (l : List Value) (n : Nat) (q : List Value) (m : Nat) (a b fr to : Int) (hl : ints l) (hn : l.length = n * 4) (hq : ints q) (hm : q.length = m * 2) (w : World) (hr : RoIn ro w) (vs : List Value) (hv : ∀ day e p N i, All2 (@Go.Ri.NVal ((avn G l n q m a b fr to day e p N i).val fun _ => undef) w) avD vs) :
    Calls Tryz.prog fFellArrives vs.toArray w (fun e w' => e = .returned (.bool true) ∧ Below w.heap.size w w') := by
  by_cases hbig : (n : Int) > 200
  · have ht : @TbOK ((avn G l n q m a b fr to 0 0 [] 0 0).val fun _ => undef) (avBig true (decide ((m : Int) > 200))) := by
      letI : Val := (avn G l n q m a b fr to 0 0 [] 0 0).val fun _ => undef
      exact { X := saneX_true, T := fa (f_gtr (k := .i64) (m := (n : Int)) (n := 200) rfl rfl (decide_eq_true hbig)) (fa (f_gtr (k := .i64) (m := (m : Int)) (n := 200) rfl rfl rfl) fz), LL := fa ⟨rfl, n, Nat.succ_pos 3, hn, rfl⟩ (fa ⟨rfl, m, Nat.succ_pos 1, hm, rfl⟩ fz) }
    exact done_flat _ ht (all2_all av_big _) rfl rfl rfl w hr vs (hv _ _ _ _ _)
  by_cases hbig2 : (m : Int) > 200
  · have ht : @TbOK ((avn G l n q m a b fr to 0 0 [] 0 0).val fun _ => undef) (avBig false true) := by
      letI : Val := (avn G l n q m a b fr to 0 0 [] 0 0).val fun _ => undef
      exact { X := saneX_true, T := fa (f_gtr (k := .i64) (m := (n : Int)) (n := 200) rfl rfl (decide_eq_false hbig)) (fa (f_gtr (k := .i64) (m := (m : Int)) (n := 200) rfl rfl (decide_eq_true hbig2)) fz), LL := fa ⟨rfl, n, Nat.succ_pos 3, hn, rfl⟩ (fa ⟨rfl, m, Nat.succ_pos 1, hm, rfl⟩ fz) }
    exact done_flat _ ht av_big2 rfl rfl rfl w hr vs (hv _ _ _ _ _)
  have hT0 : ∀ day e p N i W, ∀ x, x ∈ (avBig false false).T → @TETrue ((avn G l n q m a b fr to day e p N i).val W) x := fun day e p N i W => by
    letI : Val := (avn G l n q m a b fr to day e p N i).val W
    exact fa (f_gtr (k := .i64) (m := (n : Int)) (n := 200) rfl rfl (decide_eq_false hbig)) (fa (f_gtr (k := .i64) (m := (m : Int)) (n := 200) rfl rfl (decide_eq_false hbig2)) fz)
  have hql : ∀ day e p N i W to', ∀ w v, @Go.Ri.NVal ((avn G l n q m a b fr to day e p N i).val W) w (.slN 0 1 2) v → @Go.Ri.NVal ((pnm G l n q m a b fr to' 0).val fun _ => undef) w (.slN 0 1 2) v := fun day e p N i W to' w v h => lst_nval rfl h
  rcases eq_cases G l n a b fr with ⟨e, he, hno⟩ | ⟨an, bn, day, hva, rfl, rfl, ha16, hb16, haG, hbG, h0, h1, h2, he, hp, hfirst⟩
  · have ht : @TbOK ((avn G l n q m a b fr to 0 e [] 0 0).val fun _ => undef) (avNo (decide (e = 0))) := by
      have hE := earliest_all ((avn G l n q m a b fr to 0 e [] 0 0).val fun _ => undef) (G := G) (l := l) (n := n) (a := a) (b := b) (fr := fr) rfl rfl hl hn rfl rfl rfl
      rw [he] at hE
      have hC := cp_at ((avn G l n q m a b fr to 0 e [] 0 0).val fun _ => undef) (G := G) (l := l) (n := n) (q := q) (m := m) (a := a) (b := b) (fr := fr) (to := to) rfl rfl rfl rfl rfl (rt := sI 27) (rl := .slN 0 1 2) rfl rfl (hql _ _ _ _ _ _ _) hl hn hq hm (by omega)
      have hP : @QNTrue ((avn G l n q m a b fr to 0 e [] 0 0).val fun _ => undef) ⟨fPath, eaD, .tup [nilR, bR false, sI 40], []⟩ := fun w hr vs hv => path_no ((avn G l n q m a b fr to 0 e [] 0 0).val fun _ => undef) rfl rfl hl hn rfl rfl rfl he rfl w hr vs hv
      letI : Val := (avn G l n q m a b fr to 0 e [] 0 0).val fun _ => undef
      exact { X := saneX_true, T := fapp (hT0 _ _ _ _ _ _) (fa (f_ieq (k := .i64) (m := cpM G l n q m a b fr to) (n := 0) rfl rfl ((ieq0 _).trans (decide_eq_false (hno q m to)))) (fa (f_ieq (k := .i64) (m := e) (n := 0) rfl rfl (ieq0 e)) fz)), LL := fa ⟨rfl, n, Nat.succ_pos 3, hn, rfl⟩ (fa ⟨rfl, m, Nat.succ_pos 1, hm, rfl⟩ fz), C := fa hE (fa hC fz), U := qnU_ok _ (fa hP fz) }
    exact done_flat _ ht (all2_all av_no _) rfl rfl rfl w hr vs (hv _ _ _ _ _)
  · obtain ⟨N, hN⟩ : ∃ N, N = stK l n an bn fr day := ⟨_, rfl⟩
    obtain ⟨p, hpc⟩ : ∃ p, p = cellsP (pathL l n bn day N an fr) := ⟨_, rfl⟩
    obtain ⟨k15, kok, klt⟩ := stK_ok hva ha16 h0 h1 hp
    have hpl : p.length = N * 2 := by rw [hpc, cellsP_len, pathL_len]
    have hpi : ints p := by rw [hpc]; exact cells_ints _
    have hcheck : cpM G l n p N an bn fr day = 0 := by
      rw [hpc, hN]
      exact path_check hva ha16 haG hbG h0 h1 h2 hp
    have hearly : fr < day → cpM G l n p N an bn fr (day - 1) ≠ 0 := fun hlt h => by
      have := hfirst (day - 1) _ (by omega) (cp0_leads h)
      omega
    have hne : (!p.isEmpty) = decide (0 < N) := by
      cases hp0 : p with
      | nil =>
        rw [hp0] at hpl
        have : N = 0 := by simp at hpl; omega
        rw [this]
        rfl
      | cons v t =>
        rw [hp0] at hpl
        simp only [List.length_cons] at hpl
        rw [decide_eq_true (by omega : 0 < N)]
        rfl
    have hLL : ∀ i W, ∀ x, x ∈ avLL (decide (0 < N)) → @LLTrue ((avn G l n q m an bn fr to day 0 p N i).val W) x := fun i W => fapp (fa ⟨rfl, n, Nat.succ_pos 3, hn, rfl⟩ (fa ⟨rfl, m, Nat.succ_pos 1, hm, rfl⟩ fz)) (by
      split
      · exact fa ⟨rfl, N, Nat.succ_pos 1, hpl, rfl⟩ fz
      · exact fz)
    have hT : ∀ i W, ∀ x, x ∈ avT (decide (day > fr)) → @TETrue ((avn G l n q m an bn fr to day 0 p N i).val W) x := fun i W => by
      letI : Val := (avn G l n q m an bn fr to day 0 p N i).val W
      refine fapp (hT0 _ _ _ _ _ _) (fapp (fa (f_lss (k := .i64) (m := day) (n := fr) rfl rfl (decide_eq_false (by omega))) (fa (f_gtr (k := .i64) (m := day) (n := fr) rfl rfl rfl) fz)) ?_)
      split
      · rename_i hg
        have hg := of_decide_eq_true hg
        exact fa (f_sub (m := day) (n := 1) (r := day - 1) rfl rfl rfl rfl rfl (by omega) (by omega)) (fa (f_ieq (k := .i64) (m := cpM G l n p N an bn fr (day - 1)) (n := 0) rfl rfl ((ieq0 _).trans (decide_eq_false (hearly (by omega))))) fz)
      · exact fz
    have hPl : ∀ i W to' w v, @Go.Ri.NVal ((avn G l n q m an bn fr to day 0 p N i).val W) w (avP (decide (0 < N))) v → @Go.Ri.NVal ((pnm G l n p N an bn fr to' 0).val fun _ => undef) w (.slN 0 1 2) v := fun i W to' w v h => by
      by_cases h0 : 0 < N
      · rw [decide_eq_true h0] at h
        exact lst_nval (i := 9) rfl h
      · rw [decide_eq_false h0] at h
        have : p = [] := List.length_eq_zero_iff.1 (by omega)
        exact nil_list (by decide) this h
    have hC : ∀ i W, ∀ x, x ∈ avC (decide (0 < N)) (decide (day > fr)) → @AnsN ((avn G l n q m an bn fr to day 0 p N i).val W) x.f x.a (@cvF ((avn G l n q m an bn fr to day 0 p N i).val W) x.r) := fun i W => by
      have hE := earliest_all ((avn G l n q m an bn fr to day 0 p N i).val W) (G := G) (l := l) (n := n) (a := (an : Int)) (b := (bn : Int)) (fr := fr) rfl rfl hl hn rfl rfl rfl
      rw [he] at hE
      have hC1 := cp_at ((avn G l n q m an bn fr to day 0 p N i).val W) (G := G) (l := l) (n := n) (q := q) (m := m) (a := (an : Int)) (b := (bn : Int)) (fr := fr) (to := to) rfl rfl rfl rfl rfl (rt := sI 27) (rl := .slN 0 1 2) rfl rfl (hql _ _ _ _ _ _ _) hl hn hq hm (by omega)
      have hC2 := cp_at ((avn G l n q m an bn fr to day 0 p N i).val W) (G := G) (l := l) (n := n) (q := p) (m := N) (a := (an : Int)) (b := (bn : Int)) (fr := fr) (to := day) rfl rfl rfl rfl rfl (rt := sI 23) (rl := avP (decide (0 < N))) rfl rfl (hPl i W _) hl hn hpi hpl (by omega)
      rw [hcheck] at hC2
      have hC3 := cp_at ((avn G l n q m an bn fr to day 0 p N i).val W) (G := G) (l := l) (n := n) (q := q) (m := m) (a := (an : Int)) (b := (bn : Int)) (fr := fr) (to := day) rfl rfl rfl rfl rfl (rt := sI 23) (rl := .slN 0 1 2) rfl rfl (hql _ _ _ _ _ _ _) hl hn hq hm (by omega)
      have hC4 := cp_at ((avn G l n q m an bn fr to day 0 p N i).val W) (G := G) (l := l) (n := n) (q := p) (m := N) (a := (an : Int)) (b := (bn : Int)) (fr := fr) (to := day - 1) rfl rfl rfl rfl rfl (rt := sI 24) (rl := avP (decide (0 < N))) rfl rfl (hPl i W _) hl hn hpi hpl (by omega)
      exact fapp (fa hE (fa hC1 (fa hC2 (fa hC3 fz)))) (by
        split
        · exact fa hC4 fz
        · exact fz)
    have hU : @QNTrue ((avn G l n q m an bn fr to day 0 p N 0).val fun _ => undef) (avQ (decide (0 < N))) := fun w hr vs hv => by
      have := path_yes ((avn G l n q m an bn fr to day 0 p N 0).val fun _ => undef) (G := G) (l := l) (n := n) (a := an) (b := bn) (fr := fr) (to := day) rfl rfl hl hn hva ha16 hb16 h0 h1 h2 hp he rfl rfl rfl (by rw [← hN]; exact hpc) w hr vs hv
      rw [← hN, ← hpc, hne] at this
      exact this
    have htb : ∀ T, (∀ x, x ∈ T → @TETrue ((avn G l n q m an bn fr to day 0 p N 0).val fun _ => undef) x) → @TbOK ((avn G l n q m an bn fr to day 0 p N 0).val fun _ => undef) (avTb (decide (0 < N)) (decide (day > fr)) T) := fun T hT2 => by
      letI : Val := (avn G l n q m an bn fr to day 0 p N 0).val fun _ => undef
      exact { X := saneX_true, T := fapp (hT 0 _) hT2, LL := hLL 0 _, C := hC 0 _, U := qnU_ok _ (fa hU fz) }
    have f41 : ∀ c, decide (cpM G l n q m an bn fr to = 0) = c → @TETrue ((avn G l n q m an bn fr to day 0 p N 0).val fun _ => undef) ⟨.ieq, sI 41, lI 0, bR c⟩ := fun c hc => by
      letI : Val := (avn G l n q m an bn fr to day 0 p N 0).val fun _ => undef
      exact f_ieq (k := .i64) (m := cpM G l n q m an bn fr to) (n := 0) rfl rfl ((ieq0 _).trans hc)
    have f44 : ∀ c, decide (cpM G l n q m an bn fr day = 0) = c → @TETrue ((avn G l n q m an bn fr to day 0 p N 0).val fun _ => undef) ⟨.ieq, sI 44, lI 0, bR c⟩ := fun c hc => by
      letI : Val := (avn G l n q m an bn fr to day 0 p N 0).val fun _ => undef
      exact f_ieq (k := .i64) (m := cpM G l n q m an bn fr day) (n := 0) rfl rfl ((ieq0 _).trans hc)
    by_cases c1 : cpM G l n q m an bn fr to = 0
    · have hdt : day ≤ to := hfirst to _ (by
        obtain ⟨_, h8, _⟩ := cp0_iff.1 c1
        exact (ag8_iff.1 h8).2.2.2.2.2.2.1) (cp0_leads c1)
      have flt : @TETrue ((avn G l n q m an bn fr to day 0 p N 0).val fun _ => undef) ⟨.bin .lss, sI 27, sI 23, bR false⟩ := by
        letI : Val := (avn G l n q m an bn fr to day 0 p N 0).val fun _ => undef
        exact f_lss (k := .i64) (m := to) (n := day) rfl rfl (decide_eq_false (by omega))
      by_cases c2 : cpM G l n q m an bn fr day = 0
      · obtain ⟨hge, hlex⟩ := path_least hva ha16 h0 h1 h2 hp (cp0_leads c2)
        rw [← hN] at hge
        rw [← hN, ← hpc] at hlex
        have hlen : ∀ c : Bool, (m = N ↔ c = true) → (c = false → N < m) → ∀ x, x ∈ (if decide (0 < N) = true then [(⟨.ieq, sI 25, sI 28, bR c⟩ : TE), ⟨.bin .gtr, sI 25, sI 28, bR (!c)⟩] else [⟨.ieq, sI 25, lI 0, bR c⟩, ⟨.bin .gtr, sI 25, lI 0, bR (!c)⟩]) → @TETrue ((avn G l n q m an bn fr to day 0 p N 0).val fun _ => undef) x := fun c hc1 hc2 => by
          letI : Val := (avn G l n q m an bn fr to day 0 p N 0).val fun _ => undef
          have e1 : ((m : Int) == (N : Int)) = c := by
            rw [eqdec]
            cases c with
            | true => exact decide_eq_true (by rw [hc1.2 rfl])
            | false => exact decide_eq_false (by have := hc2 rfl; omega)
          have e2 : decide ((m : Int) > (N : Int)) = !c := by
            cases c with
            | true => exact decide_eq_false (by rw [hc1.2 rfl]; omega)
            | false => exact decide_eq_true (by have := hc2 rfl; omega)
          split
          · exact fa (f_ieq (k := .i64) (m := (m : Int)) (n := (N : Int)) rfl rfl e1) (fa (f_gtr (k := .i64) (m := (m : Int)) (n := (N : Int)) rfl rfl e2) fz)
          · rename_i hz
            have hz : N = 0 := by
              have := of_decide_eq_false (Bool.eq_false_iff.2 hz)
              omega
            rw [hz] at e1 e2
            exact fa (f_ieq (k := .i64) (m := (m : Int)) (n := 0) rfl rfl e1) (fa (f_gtr (k := .i64) (m := (m : Int)) (n := 0) rfl rfl e2) fz)
        by_cases c3 : m = N
        · have ht := htb (avK (decide (0 < N)) 3) (fapp (fa (f41 true (decide_eq_true c1)) (fa flt fz)) (fapp (fa (f44 true (decide_eq_true c2)) fz) (hlen true ⟨fun _ => rfl, fun _ => c3⟩ (fun h => by cases h))))
          have hlex := hlex c3
          have hgq : ∀ i, i < m → 0 ≤ psG q i := fun i hi => (pok_iff.1 (okP_at (cp0_iff.1 c2).2.2.1 hi)).2.2.1
          have hgp : ∀ i, 0 ≤ psG p i := fun i => by rw [hpc]; exact psG_cells _ i
          have hS : ∀ (i : Nat) (r : RV) (j : Nat) (W W' : Nat → Value), @cv ((avn G l n q m an bn fr to day 0 p N i).val W) r = .int .i64 (j : Int) → ∀ x, x ∈ avS r (decide (0 < N)) → okSE ((avn G l n q m an bn fr to day 0 p N i).val W) ((avn G l n q m an bn fr to day 0 p N j).val W') x := fun i r j W W' hc => fa ⟨.i64, (j : Int), hc, rfl⟩ (fa (show l = l from rfl) (fa (show q = q from rfl) (fapp (ids_ok _ (fa rfl (fa rfl (fa rfl fz)))) (by
            split
            · exact fa (show p = p from rfl) fz
            · exact fz))))
          refine fn_loop (κ := Unit) (avn G l n q m an bn fr to day 0 p N 0) (fun _ => undef) (avTb (decide (0 < N)) (decide (day > fr)) (avK (decide (0 < N)) 3)) [] fFellArrives avD (fun _ => avH (decide (0 < N))) (fun k _ c => ∃ i, i ≤ m ∧ c = avn G l n q m an bn fr to day 0 p N i ∧ k = m - i ∧ lexGe (sfx q i (m - i)) (sfx p i (m - i))) ht (avS (lI 0) (decide (0 < N))) (avR (decide (0 < N))) () m (all2_all (all2_all av_enter _) _) (avn G l n q m an bn fr to day 0 p N 0) (fun W' => holds_all (hS 0 (lI 0) 0 _ W' rfl)) ⟨0, Nat.zero_le _, rfl, rfl, hlex⟩ (DF (.bool true)) ?_ w hr vs (hv _ _ _ _ _)
          rintro w k _ c ⟨i, hi, rfl, rfl, hx⟩ W
          letI : Val := (avn G l n q m an bn fr to day 0 p N i).val W
          rcases Nat.lt_or_ge i m with hlt | hge2
          · have hN0 : decide (0 < N) = true := decide_eq_true (by omega)
            rw [show m - i = (m - (i + 1)) + 1 by omega] at hx
            have hx : (psD q i = psD p i ∧ (psG q i).toNat = (psG p i).toNat ∧ lexGe (sfx q (i + 1) (m - (i + 1))) (sfx p (i + 1) (m - (i + 1)))) ∨ psD q i > psD p i ∨ (psD q i = psD p i ∧ (psG q i).toNat > (psG p i).toNat) := hx
            have g1 := hgq i hlt
            have g2 := hgp i
            have hd : ∀ x, x ∈ avHd true → TETrue x := fa (f_lss (k := .i64) (m := (i : Int)) (n := (m : Int)) rfl rfl (decide_eq_true (by omega))) (fa (inb_ok (m := (i : Int)) (n := (m : Int)) rfl (by omega) (by omega)) (fa (inb_ok (m := (i : Int)) (n := (N : Int)) rfl (by omega) (by omega)) (fa (f_add1 (m := (i : Int)) rfl rfl rfl (by omega) (by omega)) fz)))
            have hlx : ∀ x, x ∈ ([⟨1, 26, [sI 32, sI 33]⟩, ⟨9, 26, [sI 34, sI 35]⟩] : List LEE) → LXTrue x := by
              refine fa ⟨rfl, ?_, ?_⟩ (fa ⟨rfl, ?_, ?_⟩ fz)
              · show ((i : Int)).toNat * 2 + 2 ≤ q.length
                rw [Int.toNat_natCast]
                omega
              · show (q.drop (((i : Int)).toNat * 2)).take 2 = _
                rw [Int.toNat_natCast, row2 hq i (by omega)]
                rfl
              · show ((i : Int)).toNat * 2 + 2 ≤ p.length
                rw [Int.toNat_natCast]
                omega
              · show (p.drop (((i : Int)).toNat * 2)).take 2 = _
                rw [Int.toNat_natCast, row2 hpi i (by omega)]
                rfl
            have hll := hLL i W
            rw [hN0] at hll ⊢
            have tb : ∀ T, (∀ x, x ∈ T → TETrue x) → TbOK (avL T) := fun T hT => { T := fapp hd hT, LL := hll, LX := hlx }
            have feq : ∀ c1 c2, decide (psD q i = psD p i) = c1 → decide (psG q i = psG p i) = c2 → ∀ x, x ∈ avEq c1 c2 → TETrue x := fun c1 c2 hc1 hc2 => fa (f_ieq (k := .i64) (m := psD q i) (n := psD p i) rfl rfl ((eqdec _ _).trans hc1)) (fa (f_ieq (k := .i64) (m := psG q i) (n := psG p i) rfl rfl ((eqdec _ _).trans hc2)) fz)
            by_cases d1 : psD q i = psD p i
            · by_cases d2 : psG q i = psG p i
              · have hx2 : lexGe (sfx q (i + 1) (m - (i + 1))) (sfx p (i + 1) (m - (i + 1))) := by
                  rcases hx with ⟨_, _, h⟩ | h | ⟨_, h⟩
                  · exact h
                  · omega
                  · omega
                refine step_to (avL (avEq true true)) [] (tb _ (feq true true (decide_eq_true d1) (decide_eq_true d2))) (avS (sI 29) true) (avR true) () (avn G l n q m an bn fr to day 0 p N (i + 1)) (all2_all av_again _) (fun W' => holds_all ?_) ⟨m - (i + 1), by omega, i + 1, hlt, rfl, rfl, hx2⟩
                have := hS i (sI 29) (i + 1) W W' rfl
                rw [hN0] at this
                exact this
              · have hgt : psG q i > psG p i := by
                  rcases hx with ⟨_, h, _⟩ | h | ⟨_, h⟩
                  · omega
                  · omega
                  · omega
                exact step_outF (avL (⟨.bin .gtr, sI 32, sI 34, bR false⟩ :: ⟨.bin .gtr, sI 33, sI 35, bR true⟩ :: avEq true false)) [] (tb _ (fa (f_gtr (k := .i64) (m := psD q i) (n := psD p i) rfl rfl (decide_eq_false (by omega))) (fa (f_gtr (k := .i64) (m := psG q i) (n := psG p i) rfl rfl (decide_eq_true hgt)) (feq true false (decide_eq_true d1) (decide_eq_false d2))))) (bR true) (all2_all av_gate _) rfl
            · have hgt : psD q i > psD p i := by
                rcases hx with ⟨h, _⟩ | h | ⟨h, _⟩
                · exact absurd h d1
                · exact h
                · exact absurd h d1
              exact step_outF (avL (⟨.bin .gtr, sI 32, sI 34, bR true⟩ :: avEq false (decide (psG q i = psG p i)))) [] (tb _ (fa (f_gtr (k := .i64) (m := psD q i) (n := psD p i) rfl rfl (decide_eq_true hgt)) (feq false _ (decide_eq_false d1) rfl))) (bR true) (all2_all (all2_all av_day _) _) rfl
          · obtain rfl : i = m := by omega
            exact step_outF { T := [⟨.bin .lss, sI 26, sI 25, bR false⟩], LL := avLL (decide (0 < N)) } [] { T := fa (f_lss (k := .i64) (m := (i : Int)) (n := (i : Int)) rfl rfl (decide_eq_false (by omega))) fz, LL := hLL i W } (bR true) (all2_all (all2_all av_end _) _) rfl
        · have ht := htb (avK (decide (0 < N)) 2) (fapp (fa (f41 true (decide_eq_true c1)) (fa flt fz)) (fapp (fa (f44 true (decide_eq_true c2)) fz) (hlen false ⟨fun h => absurd h c3, fun h => by cases h⟩ (fun _ => by omega))))
          exact done_flat _ ht (allU_lt (all2_all (all2_all av_yes _) _) 2 (by decide)) rfl rfl rfl w hr vs (hv _ _ _ _ _)
      · have ht := htb (avK (decide (0 < N)) 1) (fapp (fa (f41 true (decide_eq_true c1)) (fa flt fz)) (fa (f44 false (decide_eq_false c2)) fz))
        exact done_flat _ ht (allU_lt (all2_all (all2_all av_yes _) _) 1 (by decide)) rfl rfl rfl w hr vs (hv _ _ _ _ _)
    · have ht := htb (avK (decide (0 < N)) 0) (fa (f41 false (decide_eq_false c1)) fz)
      exact done_flat _ ht (allU_lt (all2_all (all2_all av_yes _) _) 0 (by decide)) rfl rfl rfl w hr vs (hv _ _ _ _ _)
end Go.Proofs.Z
