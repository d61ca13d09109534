/- A part of the proofs that the laws of layer four answer true for every input. -/
import Derived.Test.YtjjmnoiiihcoiaaGreatDoorZOE
namespace Go.Proofs.Z
open Go Go.RowKit Go.Proofs Go.Ri Go.Proofs.Z.Fa
/-! The specification's flow: its contract. -/
theorem ivl_set2 (u : Nat → Int) (x : Int) (i : Nat) : ∀ n, i < n → (ivl u n).set i (.int .i64 x) = ivl (updF u i x) n
  | n + 1, hi => by
    show (ivl u n ++ [_]).set i _ = ivl (updF u i x) n ++ [_]
    rcases Nat.lt_or_eq_of_le (Nat.le_of_lt_succ hi) with h | rfl
    · rw [List.set_append_left _ _ (by rw [ivl_len]; exact h), ivl_set2 u x i n h]
      have : updF u i x n = u n := if_neg (by omega)
      rw [this]
    · rw [List.set_append_right _ _ (by rw [ivl_len]; exact Nat.le_refl _), ivl_len, Nat.sub_self]
      have : updF u i x i = x := if_pos rfl
      rw [this, ivl_congr (g := updF u i x) i fun j hj => (if_neg (by omega) : updF u i x j = u j).symm]
      rfl
def c39 (n : Nat) : List Value := ivl (fun _ => 0) n
theorem c39_rep : ∀ n, c39 n = List.replicate n (.int .i64 0)
  | 0 => rfl
  | n + 1 => by
    show c39 n ++ [_] = _
    rw [c39_rep n]
    exact (List.replicate_succ' ..).symm
def flI (a b : Nat) (k : Int) (y : Int) (ui x : Int) (p q : Int × Int) (j : Nat) : Int := if j = 20 then a else if j = 21 then b else if j = 17 then k else if j = 18 then k + 1 else if j = 8 then y else if j = 15 then ui else if j = 16 then x else if j = 70 then p.1 else if j = 71 then p.2 else if j = 72 then q.1 else if j = 73 then q.2 else 0
def flLs (g n : Nat) (Eb U S Z : List Value) (j : Nat) : List Value := if j = 90 then Eb else if j = 30 then U else if j = 31 then S else if j = 38 then c38 g else if j = 39 then c39 n else Z
/-- Names: the use u of the gates, k lanes, the grazing y, the steps s, the gate i that led to y, what is put for its use. -/
def flNm (g : Nat) (l : List Value) (n : Nat) (e : Nat → Bool) (a b : Nat) (u : Nat → Int) (k y : Nat) (s : Nat → Int × Int) (i : Nat) (x : Int) : Nm := gnm (g : Int) l n i (flI a b k y (u i) x (s y) (s b)) ny (flLs g n (bls e n) (ivl u n) (stL s g) (ivl (updF u i x) n))
noncomputable def flQ (κ : Nat) : St := if κ = 0 then flP0 else flP1
section
variable {g : Nat} {l : List Value} {n : Nat} {e : Nat → Bool} {a b : Nat}
theorem flLL_ok (hn : l.length = n * 4) (u : Nat → Int) (k y : Nat) (s : Nat → Int × Int) (i : Nat) (x : Int) (W : Nat → Value) : ∀ q, q ∈ flLL → @LLTrue ((flNm g l n e a b u k y s i x).val W) q :=
  fa ⟨rfl, n, Nat.succ_pos 3, hn, rfl⟩ (fa ⟨rfl, n, Nat.succ_pos 0, by rw [Nat.mul_one]; exact bls_len e n, rfl⟩ (fa ⟨rfl, n, Nat.succ_pos 0, by rw [Nat.mul_one]; exact ivl_len u n, rfl⟩ (fa ⟨rfl, n, Nat.succ_pos 0, by rw [Nat.mul_one]; exact ivl_len _ n, rfl⟩ (fa ⟨rfl, g, Nat.succ_pos 1, stL_len s g, rfl⟩ fz))))
theorem fl_idsx {V V' : Val} (G n a b : Int) (l Eb : List Value) (g0 : V.I 0 = G) (g1 : V.I 1 = n) (g2 : V.I 20 = a) (g3 : V.I 21 = b) (k0 : V.L 0 = l) (k1 : V.L 90 = Eb) (h0 : V'.I 0 = G) (h1 : V'.I 1 = n) (h2 : V'.I 20 = a) (h3 : V'.I 21 = b) (j0 : V'.L 0 = l) (j1 : V'.L 90 = Eb) : ∀ q, q ∈ flS → okSE V V' q :=
  fa ⟨.i64, G, congrArg _ g0, h0⟩ (fa ⟨.i64, n, congrArg _ g1, h1⟩ (fa ⟨.i64, a, congrArg _ g2, h2⟩ (fa ⟨.i64, b, congrArg _ g3, h3⟩ (fa (okLs l j0 k0) (fa (okLs Eb j1 k1) fz)))))
theorem fl_ids {u u' : Nat → Int} {k k' y y' : Nat} {s s' : Nat → Int × Int} {i i' : Nat} {x x' : Int} (W W' : Nat → Value) : ∀ q, q ∈ flS → okSE ((flNm g l n e a b u k y s i x).val W) ((flNm g l n e a b u' k' y' s' i' x').val W') q :=
  fl_idsx g n a b l (bls e n) rfl rfl rfl rfl rfl rfl rfl rfl rfl rfl rfl rfl
def FlP (g : Nat) (l : List Value) (n : Nat) (e : Nat → Bool) (a b : Nat) (m κ : Nat) (c : Nm) : Prop :=
  (∃ (u : Nat → Int) (k : Nat), IsFlow (gA' l) (gB' l) n e a b u (k : Int) ∧ k ≤ n ∧ m = (n + 1 - k) * 20 ∧ κ = 0 ∧ c = flNm g l n e a b u k b (srS (gA' l) (gB' l) n e u a) 0 0) ∨
  (∃ (u0 u : Nat → Int) (k y : Nat) (r : Nat → Nat), IsFlow (gA' l) (gB' l) n e a b u0 (k : Int) ∧ k ≤ n ∧ SI (gA' l) (gB' l) n e u0 a (srS (gA' l) (gB' l) n e u0 a) r ∧ Trace (gA' l) (gB' l) n e a b u0 (k : Int) (rch (srS (gA' l) (gB' l) n e u0 a)) (fun y => (srS (gA' l) (gB' l) n e u0 a y).1.toNat) r u y ∧ m = (n - k) * 20 + 2 + r y ∧ κ = 1 ∧
    c = flNm g l n e a b u k y (srS (gA' l) (gB' l) n e u0 a) (srS (gA' l) (gB' l) n e u0 a y).1.toNat (u (srS (gA' l) (gB' l) n e u0 a y).1.toNat - wayF (gA' l) (gB' l) (srS (gA' l) (gB' l) n e u0 a y).1.toNat y))
theorem cut_n (A B : Nat → Nat) (e : Nat → Bool) (S : Nat → Bool) : ∀ n, cutC A B e S n ≤ n
  | 0 => Nat.le_refl _
  | n + 1 => by
    have := cut_n A B e S n
    unfold cutC
    split <;> omega
theorem fl_step0 (hl : ints l) (hn : l.length = n * 4) (hva : validM g l n = true) (ha : a < g) (hb : b < g) {w0 : World} {u : Nat → Int} {k : Nat} (F : IsFlow (gA' l) (gB' l) n e a b u (k : Int)) (hk : k ≤ n) {K : Nat} (hK : IsMF (gA' l) (gB' l) n e a b K) (W : Nat → Value) : StepH fFlow id flQ w0.heap.size w0 [] (DF (.int .i64 K) w0) (fun κ' c' => ∃ m', m' < (n + 1 - k) * 20 ∧ FlP g l n e a b m' κ' c') 0 (flNm g l n e a b u k b (srS (gA' l) (gB' l) n e u a) 0 0) W := by
  have hv := (validM_iff _ _ _).1 hva
  have hgi := gate_in hva
  have ha16 : a < 16 := by omega
  have hb16 : b < 16 := by omega
  obtain ⟨⟨r, hr⟩, hcl⟩ := srS_spec (e := e) (u := u) hgi.1 hgi.2 ha16
  obtain ⟨s, hs⟩ : ∃ s, s = srS (gA' l) (gB' l) n e u a := ⟨_, rfl⟩
  rw [← hs] at hr hcl ⊢
  have ht : ∀ p, p = rch s b → @TbOK ((flNm g l n e a b u k b s 0 0).val W) (flT0 p) := fun p hp => by
    letI V2 : Val := (flNm g l n e a b u k b s 0 0).val W
    refine { T := fa (f_inb (m := (b : Int)) (n := (g : Int)) rfl rfl (by omega)) (fa (f_lss (k := .i64) (m := (s b).2) (n := 0) rfl rfl ?_) fz), LL := flLL_ok hn _ _ _ _ _ _ W, LX := fa ⟨rfl, ?_, ?_⟩ fz, U := lenU_ok ?_ (qnU_ok _ (fa ?_ fz)) }
    · rw [hp]
      unfold rch
      by_cases h0 : 0 ≤ (s b).2
      · rw [decide_eq_true h0, decide_eq_false (by omega)]
        rfl
      · rw [decide_eq_false h0, decide_eq_true (by omega)]
        rfl
    · show ((b : Int)).toNat * 2 + 2 ≤ (stL s g).length
      rw [Int.toNat_natCast, stL_len]
      omega
    · show ((stL s g).drop (((b : Int)).toNat * 2)).take 2 = _
      rw [Int.toNat_natCast, stL_row s g b hb]
      rfl
    · show (ivl u n).length = (c39 n).length
      unfold c39
      rw [ivl_len, ivl_len]
    · exact search_q V2 (g := g) (l := l) (n := n) (e := e) (u := u) (a := a) rfl rfl hl hn hva ha rfl rfl rfl (by rw [← hs]; rfl) rfl
  cases hp : rch s b with
  | false =>
    have hM : IsMF (gA' l) (gB' l) n e a b k := mf_of_closed hgi.1 hgi.2 ha16 hb16 F (S := rch s) (by
      unfold rch
      rw [hr.aa]
      exact decide_eq_true (by omega)) hp hcl
    have e1 : k = K := mf_uniq hgi.1 ha16 hb16 hM hK
    exact stepH_outF (flT0 false) [] (ht false hp.symm) (sI 17) fl_out (by rw [← e1]; rfl)
  | true =>
    have hT : r b < 16 := Nat.lt_of_lt_of_le (hr.rk b hp) (cnt_le _ _)
    refine stepH_to (flT0 true) [] (ht true hp.symm) (flS1 (sI 21) 30) [0, 1, 2, 3, 4] rfl 1 (flNm g l n e a b u k b s (s b).1.toNat (u (s b).1.toNat - wayF (gA' l) (gB' l) (s b).1.toNat b)) fl_01 (fun W' => holds_all (fapp (fa ⟨.i64, (b : Int), rfl, rfl⟩ (fa ⟨.i64, (k : Int), rfl, rfl⟩ (fa (okLs (c39 n) rfl rfl) (fa (okLs (ivl u n) rfl rfl) (fa (okLs (stL s g) rfl rfl) fz))))) (fl_ids W W'))) ⟨(n - k) * 20 + 2 + r b, by omega, .inr ⟨u, u, k, b, r, F, hk, by rw [← hs]; exact hr, by rw [← hs]; exact trace_start F hp, rfl, rfl, by rw [← hs]⟩⟩
theorem fl_step1 (hl : ints l) (hn : l.length = n * 4) (hva : validM g l n = true) (ha : a < g) (hb : b < g) (hab : a ≠ b) {D : Ending → World → Prop} {base : Nat} {w0 : World} {u0 u : Nat → Int} {k y : Nat} {r : Nat → Nat} (F : IsFlow (gA' l) (gB' l) n e a b u0 (k : Int)) (hk : k ≤ n) (hr : SI (gA' l) (gB' l) n e u0 a (srS (gA' l) (gB' l) n e u0 a) r)
    (T : Trace (gA' l) (gB' l) n e a b u0 (k : Int) (rch (srS (gA' l) (gB' l) n e u0 a)) (fun y => (srS (gA' l) (gB' l) n e u0 a y).1.toNat) r u y) (W : Nat → Value) : StepH fFlow id flQ base w0 [] D (fun κ' c' => ∃ m', m' < (n - k) * 20 + 2 + r y ∧ FlP g l n e a b m' κ' c') 1 (flNm g l n e a b u k y (srS (gA' l) (gB' l) n e u0 a) (srS (gA' l) (gB' l) n e u0 a y).1.toNat (u (srS (gA' l) (gB' l) n e u0 a y).1.toNat - wayF (gA' l) (gB' l) (srS (gA' l) (gB' l) n e u0 a y).1.toNat y)) W := by
  have hv := (validM_iff _ _ _).1 hva
  have hgi := gate_in hva
  have ha16 : a < 16 := by omega
  have hb16 : b < 16 := by omega
  obtain ⟨s, hs⟩ : ∃ s, s = srS (gA' l) (gB' l) n e u0 a := ⟨_, rfl⟩
  rw [← hs] at hr T ⊢
  by_cases hya : y = a
  · subst hya
    have F' : IsFlow (gA' l) (gB' l) n e y b u ((k : Int) + 1) := trace_end T
    have hk1 : k + 1 ≤ n := by
      have h1 := weak hgi.1 ha16 hb16 F' (S := fun x => decide (x = y)) (decide_eq_true rfl) (decide_eq_false (Ne.symm hab))
      have h2 := cut_n (gA' l) (gB' l) e (fun x => decide (x = y)) n
      omega
    have ht : @TbOK ((flNm g l n e y b u k y s (s y).1.toNat (u (s y).1.toNat - wayF (gA' l) (gB' l) (s y).1.toNat y)).val W) flT1e := by
      letI V2 : Val := (flNm g l n e y b u k y s (s y).1.toNat (u (s y).1.toNat - wayF (gA' l) (gB' l) (s y).1.toNat y)).val W
      exact { T := fa (f_ieq (k := .i64) (m := (y : Int)) (n := (y : Int)) rfl rfl (by rw [eqdec]; exact decide_eq_true rfl)) (fa (f_add1 (m := (k : Int)) rfl rfl rfl (by omega) (by omega)) fz), LL := flLL_ok hn _ _ _ _ _ _ W }
    exact stepH_to flT1e [] ht (.int 17 (sI 18) :: .lst 39 39 :: .lst 30 30 :: flS) [0, 1, 2, 3] rfl 0 (flNm g l n e y b u (k + 1) b (srS (gA' l) (gB' l) n e u y) 0 0) fl_10 (fun W' => holds_all (fa ⟨.i64, (k : Int) + 1, rfl, rfl⟩ (fa (okLs (c39 n) rfl rfl) (fa (okLs (ivl u n) rfl rfl) (fl_ids W W'))))) ⟨(n + 1 - (k + 1)) * 20, by omega, .inl ⟨u, k + 1, F', hk1, rfl, rfl, rfl⟩⟩
  · obtain ⟨i, j1, j2, j3, j4, j5, j6, j7, j8⟩ := hr.st y T.sy hya
    have hyi : (s y).1.toNat = i := by omega
    have hy16 := hr.lt y T.sy
    obtain ⟨a0, a1, b0, b1, c0, c1⟩ := gate_range hva j1
    have hAB := hgi.2 i j1
    have eA : ((gA' l i : Nat) : Int) = gtA l i := by unfold gA'; omega
    have eB : ((gB' l i : Nat) : Int) = gtB l i := by unfold gB'; omega
    have hyg : y < g ∧ othF (gA' l) (gB' l) i y < g := by
      unfold wayF at j4
      unfold othF
      by_cases hA : y = gA' l i
      · rw [if_pos hA]
        omega
      · rw [if_neg hA]
        rw [if_neg hA] at j4
        by_cases hB : y = gB' l i
        · omega
        · rw [if_neg hB] at j4
          exact absurd rfl j4
    have T' := trace_step hgi.2 (srS_tree hr) T hya
    have hu := T.one i j1
    rw [hyi] at T' ⊢
    obtain ⟨p, hp⟩ : ∃ p, p = decide (gtA l i = (s y).2) := ⟨_, rfl⟩
    have hx : u i - wayF (gA' l) (gB' l) i y = if p then u i + 1 else u i - 1 := by
      rw [hp, j6]
      unfold wayF othF
      by_cases hA : y = gA' l i
      · rw [if_pos hA, if_pos hA, if_neg (by simp; omega)]
      · unfold wayF at j4
        rw [if_neg hA] at j4 ⊢
        by_cases hB : y = gB' l i
        · rw [if_pos hB, if_neg hA, if_pos (by simp; omega)]
          omega
        · rw [if_neg hB] at j4
          exact absurd rfl j4
    have ht : @TbOK ((flNm g l n e a b u k y s i (u i - wayF (gA' l) (gB' l) i y)).val W) (flT1 p) := by
      letI V2 : Val := (flNm g l n e a b u k y s i (u i - wayF (gA' l) (gB' l) i y)).val W
      refine { T := fa (f_ieq (k := .i64) (m := (y : Int)) (n := (a : Int)) rfl rfl (by rw [eqdec]; exact decide_eq_false (by omega))) (fa (f_inb (m := (y : Int)) (n := (g : Int)) rfl rfl (by omega)) (fa (f_inb (m := (s y).1) (n := (n : Int)) rfl rfl (by omega)) (fa (f_ieq (k := .i64) (m := gtA l i) (n := (s y).2) rfl rfl (by rw [eqdec]; exact hp.symm)) (fa ?_ fz)))), LL := flLL_ok hn _ _ _ _ _ _ W, LX := fa ⟨rfl, ?_, ?_⟩ (fa ⟨rfl, ?_, ?_⟩ (fa ⟨rfl, ?_, ?_⟩ fz)), LW := fa ⟨?_, ?_, ?_⟩ fz }
      · split
        · rename_i h
          rw [if_pos h] at hx
          exact f_add (m := u i) (n := 1) (r := u i - wayF (gA' l) (gB' l) i y) rfl rfl rfl rfl hx (by omega) (by omega)
        · rename_i h
          rw [if_neg h] at hx
          exact f_sub (m := u i) (n := 1) (r := u i - wayF (gA' l) (gB' l) i y) rfl rfl rfl rfl hx (by omega) (by omega)
      · show ((y : Int)).toNat * 2 + 2 ≤ (stL s g).length
        rw [Int.toNat_natCast, stL_len]
        omega
      · show ((stL s g).drop (((y : Int)).toNat * 2)).take 2 = _
        rw [Int.toNat_natCast, stL_row s g y hyg.1]
        rfl
      · show (s y).1.toNat * 4 + 4 ≤ l.length
        omega
      · show (l.drop ((s y).1.toNat * 4)).take 4 = _
        rw [hyi]
        exact row4 hl i (by omega)
      · show (s y).1.toNat * 1 + 1 ≤ (ivl u n).length
        rw [ivl_len]
        omega
      · show ((ivl u n).drop ((s y).1.toNat * 1)).take 1 = _
        rw [hyi, ivl_row j1]
        rfl
      · show 0 ≤ (s y).1
        omega
      · show (s y).1.toNat < (ivl u n).length
        rw [ivl_len]
        omega
      · show ivl (updF u i (u i - wayF (gA' l) (gB' l) i y)) n = (ivl u n).set (s y).1.toNat (.int .i64 (u i - wayF (gA' l) (gB' l) i y))
        rw [hyi, ivl_set2 u _ i n j1]
    obtain ⟨y', hy'⟩ : ∃ y', y' = othF (gA' l) (gB' l) i y := ⟨_, rfl⟩
    obtain ⟨u', hu'⟩ : ∃ u', u' = updF u i (u i - wayF (gA' l) (gB' l) i y) := ⟨_, rfl⟩
    refine stepH_to (flT1 p) [] ht (flS1 (sI 71) 40) [0, 1, 2, 3, 4] rfl 1 (flNm g l n e a b u' k y' s (s y').1.toNat (u' (s y').1.toNat - wayF (gA' l) (gB' l) (s y').1.toNat y')) (all2_all fl_11 p) (fun W' => holds_all (fapp (fa ⟨.i64, (s y).2, rfl, by rw [j6, hy']; rfl⟩ (fa ⟨.i64, (k : Int), rfl, rfl⟩ (fa (okLs (c39 n) rfl rfl) (fa (okLs (ivl u' n) rfl (by rw [hu']; rfl)) (fa (okLs (stL s g) rfl rfl) fz))))) (fl_ids W W'))) ⟨(n - k) * 20 + 2 + r y', ?_, .inr ⟨u0, u', k, y', r, F, hk, by rw [← hs]; exact hr, ?_, rfl, rfl, by rw [← hs]⟩⟩
    · rw [hy']
      omega
    · rw [← hs, hu', hy']
      exact T'
set_option maxRecDepth 10000 in
theorem flow_ans (V : Val) (hG : V.I 0 = g) (hL : V.L 0 = l) (hl : ints l) (hn : l.length = n * 4) (hva : validM g l n = true) (ha : a < g) (hb : b < g) (hab : a ≠ b) {x y : RV} (fx : flat x = true) (fy : flat y = true) (hx : @cvF V x = .int .i64 a) (hy : @cvF V y = .int .i64 b) {q : Nat} (h90 : V.L q = bls e n) {K : Nat} (hK : IsMF (gA' l) (gB' l) n e a b K) : @AnsN V fFlow [fellR, x, y, .slN 0 q 1] (.int .i64 K) := by
  intro w hr vs hv
  have hv1 := (validM_iff _ _ _).1 hva
  obtain ⟨s0, hs0⟩ : ∃ s0, s0 = srS (gA' l) (gB' l) n e (fun _ => 0) a := ⟨_, rfl⟩
  let V1 : Val := (flNm g l n e a b (fun _ => 0) 0 b s0 0 0).val fun _ => undef
  have hv : All2 (@Go.Ri.NVal V1 w) flD vs := by
    cases hv with
    | cons h1 h2 => cases h2 with
      | cons h2 h3 => cases h3 with
        | cons h3 h4 => cases h4 with
          | cons h4 h5 =>
            cases h5
            exact .cons (fell_nval1 hG hL h1) (.cons (nval_re (V := V) (V' := V1) (y := sI 20) fx rfl hx rfl h2) (.cons (nval_re (V := V) (V' := V1) (y := sI 21) fy rfl hy rfl h3) (.cons (lst_nval (V := V) (V' := V1) (i := q) (j := 90) h90 h4) .nil)))
  have ht : @TbOK V1 flE := by
    letI : Val := V1
    exact { LL := flLL_ok hn _ _ _ _ _ _ _, LM := fa ⟨n, by omega, rfl, c39_rep n⟩ fz }
  refine fn_headsN (κ := Nat) (flNm g l n e a b (fun _ => 0) 0 b s0 0 0) (fun _ => undef) flE [] fFlow flD id flQ (FlP g l n e a b) ht (.int 17 (lI 0) :: .lst 39 30 :: .lst 30 30 :: flS) [0, 1, 2, 3] 0 _ fl_enter (flNm g l n e a b (fun _ => 0) 0 b s0 0 0) (fun W' => holds_all (fa ⟨.i64, 0, rfl, rfl⟩ (fa (okLs (c39 n) rfl rfl) (fa (okLs (c39 n) rfl rfl) (fl_ids _ W'))))) (.inl ⟨fun _ => 0, 0, flow_zero n e a b, Nat.zero_le _, rfl, rfl, by rw [hs0]⟩) (DF (.int .i64 K)) ?_ w hr vs hv
  rintro w m κ c (⟨u, k, F, hk, rfl, rfl, rfl⟩ | ⟨u0, u, k, y, r, F, hk, hr, T, rfl, rfl, rfl⟩) W
  · exact fl_step0 hl hn hva ha hb F hk hK W
  · exact fl_step1 hl hn hva ha hb hab F hk hr T W
end
end Go.Proofs.Z

namespace Go.Proofs.Z
open Go Go.RowKit Go.Proofs Go.Ri Go.Proofs.Z.Fa
/-! LaneCount and Shut of the specification: runs. -/
abbrev fCount : Nat := 57
abbrev fRShut : Nat := 55
def lcD : List RV := [fellR, sI 20, sI 21]
/-- p, q, r, s: each side of the bounds; t: are they the same. -/
def lcT (p q r s t : Bool) : List TE := [⟨.bin .geq, sI 20, lI 0, bR p⟩, ⟨.bin .lss, sI 20, sI 0, bR q⟩, ⟨.bin .geq, sI 21, lI 0, bR r⟩, ⟨.bin .lss, sI 21, sI 0, bR s⟩, ⟨.ieq, sI 20, sI 21, bR t⟩]
def lcN (ne : Bool) : RV := if ne then .slN 0 11 1 else nilR
noncomputable def lcE (ne p q r s t : Bool) : Tb := { T := lcT p q r s t, LL := hLL, C := [⟨fValid, [fellR], bR true⟩, ⟨fFlow, [fellR, sI 20, sI 21, lcN ne], sI 17⟩], U := qnU [⟨fAll, [fellR], .slN 0 12 1, [some (.lst 12 tBool true)]⟩, ⟨fRUse, [fellR, .slN 0 12 1], lcN ne, if ne then [some (.lst 11 tBool true)] else []⟩] }
noncomputable def lcA (p q r s t : Bool) : Tb := { T := lcT p q r s t, LL := hLL, C := [⟨fValid, [fellR], bR true⟩] }
set_option maxRecDepth 100000 in
theorem lc_ok : (all2 fun ne => doneQ (lcE ne true true true true false) [] fCount lcD (idI [17]) [] (.tup [sI 17, lI 0]) []) = true := by kernel_rfl
set_option maxRecDepth 100000 in
theorem lc_arg : (all2 fun p => all2 fun q => all2 fun r => all2 fun s => all2 fun t => (p && q && r && s && !t) || doneQ (lcA p q r s t) [] fCount lcD [] [] (.tup [lI 0, lI 1]) []) = true := by kernel_rfl
set_option maxRecDepth 100000 in
theorem lc_bad : doneQ { LL := hLL, C := [⟨fValid, [fellR], bR false⟩] } [] fCount lcD [] [] (.tup [lI 0, lI 40]) [] = true := by kernel_rfl
/-! Shut. 17 how many lanes are left, 2 the gate, 8 the lanes without it; lists: 12 what is off (16 its slice's name), 13 with the gate, 9 what is shut, 10 with the gate. -/
def ysLL : List LNE := [⟨0, 4, sI 1⟩, ⟨16, 1, sI 1⟩]
noncomputable def ysE : Tb := { LL := ysLL, C := [⟨fCount, lcD, .tup [sI 17, lI 0]⟩], U := qnU [⟨fAll, [fellR], .slN 0 16 1, [some (.lst 12 tBool true)]⟩] }
noncomputable def ysH (ne : Bool) : RH := [some (.lstA 0), some (.cells [sI 0, .slA 0 0 4] tFell false false), some (.lst 12 tBool true)] ++ if ne then [some (.lst 9 tInt true)] else []
noncomputable def ysP (ne : Bool) : St := ⟨patW [(1, sI 20), (2, sI 21), (3, .ptr 1 0), (8, sI 17), (10, if ne then .slN 3 9 1 else nilR), (11, .slN 2 16 1), (12, sI 2)] 64 0, ysH ne⟩
def ysS (i k : RV) (j : Nat) : List SE := [.int 0 (sI 0), .int 1 (sI 1), .int 20 (sI 20), .int 21 (sI 21), .int 2 i, .int 17 k, .lst 0 0, .lst 16 16, .lst 12 j]
set_option maxRecDepth 100000 in
theorem ys_enter : atH (entN ysE [] fRShut lcD) fRShut 0 (ysS (lI 0) (sI 17) 12) [0, 1, 2] (ysP false) = true := by kernel_rfl
noncomputable def ysT (q : Bool) : Tb := { T := hT true ++ [⟨.bin .gtr, sI 17, lI 0, bR true⟩, ⟨.bin .lss, sI 8, sI 17, bR q⟩] ++ (if q then [⟨.bin .sub, sI 17, lI 1, sI 18⟩] else []), LL := ysLL ++ [⟨9, 1, sI 19⟩], LX := hLX true, Y := [⟨fRUsable, [gateQ], bR true⟩], LW := ⟨12, 2, bR true, 13⟩ :: (if q then [] else [⟨13, 2, bR false, 14⟩]), LA := if q then [⟨9, [sI 2], 10⟩] else [], C := [⟨fFlow, [fellR, sI 20, sI 21, .slN 0 11 1], sI 8⟩], U := lenU 16 13 (qnU [⟨fRUse, [fellR, .slN 0 13 1], .slN 0 11 1, [some (.lst 11 tBool true)]⟩]) }
def ysO (ne q : Bool) : List SE := if q then (if ne then [.lst 9 10] else [.new 9 [sI 2]]) else (if ne then [.lst 9 9] else [])
def ysR (ne q : Bool) : List Nat := [0, 1, 2] ++ if q then (if ne then [6] else [5]) else (if ne then [3] else [])
set_option maxRecDepth 100000 in
theorem ys_round : (all2 fun ne => all2 fun q => atH (fromH (ysT q) [] fRShut 0 (ysP ne)) fRShut 0 (ysO ne q ++ ysS (sI 7) (if q then sI 18 else sI 17) (if q then 13 else 14)) (ysR ne q) (ysP (ne || q))) = true := by kernel_rfl
noncomputable def ysN : Tb := { T := hT true ++ [⟨.bin .gtr, sI 17, lI 0, bR true⟩], LL := ysLL ++ [⟨9, 1, sI 19⟩], LX := hLX true, Y := [⟨fRUsable, [gateQ], bR false⟩] }
set_option maxRecDepth 100000 in
theorem ys_not : (all2 fun ne => atH (fromH ysN [] fRShut 0 (ysP ne)) fRShut 0 (ysO ne false ++ ysS (sI 7) (sI 17) 12) (ysR ne false) (ysP ne)) = true := by kernel_rfl
noncomputable def ysX (c : Bool) : Tb := { T := hT c ++ if c then [⟨.bin .gtr, sI 17, lI 0, bR false⟩] else [], LL := ysLL }
def ysAns (ne : Bool) : RV × RH := (.tup [if ne then .slN 0 9 1 else nilR, lI 0], if ne then [some (.lst 9 tInt true)] else [])
set_option maxRecDepth 100000 in
theorem ys_out : (all2 fun ne => all2 fun c => endQ (ysX c) fRShut (fromH (ysX c) [] fRShut 0 (ysP ne)) (if ne then [.lst 9 9] else []) (if ne then [3] else []) (ysAns ne).1 (ysAns ne).2) = true := by kernel_rfl
set_option maxRecDepth 100000 in
theorem ys_err : (all2 fun v => doneQ { LL := hLL, C := [⟨fCount, lcD, .tup [lI 0, if v then lI 1 else lI 40]⟩] } [] fRShut lcD [] [] (.tup [nilR, if v then lI 1 else lI 40]) []) = true := by kernel_rfl
end Go.Proofs.Z
