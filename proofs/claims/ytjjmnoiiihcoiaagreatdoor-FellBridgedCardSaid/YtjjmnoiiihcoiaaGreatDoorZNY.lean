/- A part of the proofs that the laws of layer four answer true for every input. -/
import Derived.Test.YtjjmnoiiihcoiaaGreatDoorZNM
import Derived.Test.YtjjmnoiiihcoiaaGreatDoorZKC
import Derived.Test.YtjjmnoiiihcoiaaGreatDoorZHH
import Derived.Test.YtjjmnoiiihcoiaaGreatDoorZNV
import Derived.Test.YtjjmnoiiihcoiaaGreatDoorZNQ
namespace Go.Proofs.Z
open Go Go.RowKit Go.Proofs Go.Ri Go.Proofs.Z.Fa
/-! Bridges, shut gates and lanes. -/
section
variable {G : Int} {l : List Value} {n a b : Nat}
theorem ml_zero (hn : l.length = n * 4) (hva : validM G l n = true) (ha : a < 16) (hb : b < 16) (hab : a ≠ b) : mlK l n a b = 0 ↔ (clS l n (usP l) (2 ^ a)).testBit b = false := by
  constructor
  · intro h
    exact ev_no (L := []) hn hva ha hb hab (fun x hx => by cases hx) h
  · intro h
    rcases Nat.eq_zero_or_pos (mlK l n a b) with h0 | h1
    · exact h0
    · have h2 := ev_yes (L := []) hn hva ha hb hab (fun x hx => by cases hx) h1
      have h2 : (clS l n (usP l) (2 ^ a)).testBit b = true := h2
      rw [h] at h2
      cases h2
theorem gate_joins (hva : validM G l n = true) {i : Nat} (hi : i < n) (hu : usP l i = true) : (clS l n (usP l) (2 ^ gA' l i)).testBit (gB' l i) = true := by
  have hg := gate_in hva
  rw [clS_bit hva (pow_lt16 (hg.1 i hi).1), ← clo_cl hi hu]
  exact clo_sub Nat.testBit_two_pow_self
theorem brM_zero (hn : l.length = n * 4) (hva : validM G l n = true) {i : Nat} (hi : i < n) : brM l n i = false ↔ mlK (wiS l i) n (gA' l i) (gB' l i) = 0 := by
  have hg := gate_in hva
  rw [ml_zero (by rw [wiS_len]; exact hn) (wiS_valid hva hn hi) (hg.1 i hi).1 (hg.1 i hi).2 (hg.2 i hi), wiS_cl hn hi]
  unfold brM
  exact Iff.rfl
theorem mf_all (hn : l.length = n * 4) (hva : validM G l n = true) (ha : a < 16) (hb : b < 16) (hab : a ≠ b) : IsMF (gA' l) (gB' l) n (usP l) a b (mlK l n a b) := by
  have h := wi_mf (G := G) (L := []) hn hva ha hb hab (fun x hx => by cases hx)
  rwa [show (fun j => usP l j && !([] : List Nat).contains j) = usP l from funext fun j => by simp] at h
/-- A gate is a bridge exactly if it alone is to be shut. -/
theorem br_one (hn : l.length = n * 4) (hva : validM G l n = true) {i : Nat} (hi : i < n) : shL l n (gA' l i) (gB' l i) n = [i] ↔ brF l n i = true := by
  have hg := gate_in hva
  obtain ⟨ga, gb⟩ := hg.1 i hi
  have gab := hg.2 i hi
  have HS := mf_all hn hva ga gb gab
  have H1 := wi_mf (G := G) (L := [i]) hn hva ga gb gab (fun x hx => by rw [List.mem_singleton.1 hx]; exact hi)
  rw [show (fun j => usP l j && !([i] : List Nat).contains j) = fun j => usP l j && decide (j ≠ i) from funext fun j => by by_cases h : j = i <;> simp [h]] at H1
  have hd := mf_drop hg.1 ga gb HS H1
  have hd2 : mlK l n (gA' l i) (gB' l i) ≤ mlK (wiS l i) n (gA' l i) (gB' l i) + 1 := hd.2.1
  have hd3 : usP l i = false → mlK l n (gA' l i) (gB' l i) = mlK (wiS l i) n (gA' l i) (gB' l i) := hd.2.2
  have hsl := sh_len hn hva ga gb gab
  have hsz := sh_zero hn hva ga gb gab
  constructor
  · intro hs
    rw [hs] at hsl hsz
    have h1 : 1 = mlK l n (gA' l i) (gB' l i) := hsl
    have h2 : mlK (wiS l i) n (gA' l i) (gB' l i) = 0 := hsz
    unfold brF
    cases hu : usP l i with
    | false =>
      have := hd3 hu
      omega
    | true =>
      rw [(brM_zero hn hva hi).2 h2]
      rfl
  · intro hb
    unfold brF at hb
    simp only [Bool.and_eq_true, Bool.not_eq_true'] at hb
    have h0 := (brM_zero hn hva hi).1 hb.2
    have hpos : mlK l n (gA' l i) (gB' l i) ≠ 0 := fun h => by
      have := (ml_zero hn hva ga gb gab).1 h
      rw [gate_joins hva hi hb.1] at this
      cases this
    rw [show mlK l n (gA' l i) (gB' l i) = 1 by omega] at hsl
    cases hS : shL l n (gA' l i) (gB' l i) n with
    | nil => rw [hS] at hsl; cases hsl
    | cons j L =>
      rw [hS] at hsl
      obtain rfl : L = [] := List.eq_nil_of_length_eq_zero (by simpa using hsl)
      have hjn : j < n := shL_lt l n (gA' l i) (gB' l i) n j (by rw [hS]; simp)
      rw [hS] at hsz
      have hsz : mlK (wiS l j) n (gA' l i) (gB' l i) = 0 := hsz
      by_cases hji : j = i
      · rw [hji]
      · exfalso
        have hv := wiS_valid hva hn hjn
        have h3 := (ml_zero (by rw [wiS_len]; exact hn) hv ga gb gab).1 hsz
        have hu : usP (wiS l j) i = true := by
          rw [wiS_us hn hjn, hb.1, decide_eq_false (fun e => hji e.symm)]
          rfl
        have g := gate_joins hv hi hu
        rw [wiS_gA, wiS_gB] at g
        rw [g] at h3
        cases h3
/-- Where no bridge is near, there are two lanes. -/
theorem br_two (hn : l.length = n * 4) (hva : validM G l n = true) (ha : a < 16) (hb : b < 16) (hab : a ≠ b) (hc : (clS l n (usP l) (2 ^ a)).testBit b = true) (hno : ∀ i, i < n → brF l n i = true → (clS l n (usP l) (2 ^ a)).testBit (gA' l i) = false) : 2 ≤ mlK l n a b := by
  have hg := gate_in hva
  have HS := mf_all hn hva ha hb hab
  rcases Nat.lt_or_ge 1 (mlK l n a b) with h | h
  · exact h
  exfalso
  have hpos : mlK l n a b ≠ 0 := fun h => by
    rw [(ml_zero hn hva ha hb hab).1 h] at hc
    cases hc
  obtain ⟨S, s1, s2, s3⟩ := HS.2
  obtain ⟨i, hi, hu, hx⟩ := cut_pos (A := gA' l) (B := gB' l) (u := usP l) (S := S) n (by omega)
  have hd := cut_drop (A := gA' l) (B := gB' l) (usP l) i S n
  rw [if_pos hi, if_pos (by rw [hu]; simpa using hx), s3] at hd
  have hz := cut_zero (A := gA' l) (B := gB' l) (u := fun j => usP l j && decide (j ≠ i)) (S := S) n (by omega)
  obtain ⟨ga, gb⟩ := hg.1 i hi
  have hbr : brF l n i = true := by
    have h0 : brM l n i = false := by
      unfold brM
      cases hq : (clS l n (usB l fun k => decide (k = i)) (2 ^ gA' l i)).testBit (gB' l i) with
      | false => rfl
      | true =>
        exfalso
        rw [clS_bit hva (pow_lt16 ga)] at hq
        have h5 := clo_min (u := fun x => S x == S (gA' l i)) (fun x hx => by
          rw [Nat.testBit_two_pow] at hx
          rw [← of_decide_eq_true hx]
          simp) (fun k hk he => by
          have h6 : S (gA' l k) = S (gB' l k) := hz k hk (by
            unfold usB at he
            simpa using he)
          rw [h6]) hq
        exact hx (eq_of_beq h5).symm
    unfold brF
    rw [hu, h0]
    rfl
  have hCA := hno i hi hbr
  have hbit : ∀ x, (clS l n (usP l) (2 ^ a)).testBit x = _ := fun x => clS_bit (e := usP l) hva (pow_lt16 ha) x
  have hCe : ∀ k, k < n → usP l k = true → (clS l n (usP l) (2 ^ a)).testBit (gA' l k) = (clS l n (usP l) (2 ^ a)).testBit (gB' l k) := fun k hk he => by
    rw [hbit, hbit]
    exact clo_cl hk he
  have hk0 := cut_none (A := gA' l) (B := gB' l) (u := usP l) (S := fun x => S x && (clS l n (usP l) (2 ^ a)).testBit x) n (fun j hj he => by
    by_cases hji : j = i
    · subst hji
      have := hCe j hj he
      rw [hCA] at this
      rw [hCA, ← this]
      simp
    · have h7 : S (gA' l j) = S (gB' l j) := hz j hj (by rw [he]; simpa using hji)
      rw [h7, hCe j hj he])
  have h8 := mf_le hg.1 ha hb HS (S := fun x => S x && (clS l n (usP l) (2 ^ a)).testBit x) (by rw [s1, hbit, clo_sub Nat.testBit_two_pow_self]; rfl) (by rw [s2]; rfl)
  omega
theorem cl_lt (hva : validM G l n = true) {g x : Nat} (hg : (g : Int) < G) (hx : (clS l n (usP l) (2 ^ g)).testBit x = true) : (x : Int) < G := by
  have hG16 : G ≤ 16 := ((validM_iff _ _ _).1 hva).2.1
  rw [clS_bit hva (pow_lt16 (by omega))] at hx
  have := clo_min (u := fun y => decide ((y : Int) < G)) (fun y hy => by
    rw [Nat.testBit_two_pow] at hy
    rw [← of_decide_eq_true hy]
    exact decide_eq_true hg) (fun k hk _ => by
    obtain ⟨a0, a1, b0, b1, _, _⟩ := gate_range hva hk
    rw [decide_eq_true (show ((gA' l k : Nat) : Int) < G by unfold gA'; omega), decide_eq_true (show ((gB' l k : Nat) : Int) < G by unfold gB'; omega)]) hx
  exact of_decide_eq_true this
end
theorem gl_og {p : Nat → Bool} : ∀ m, (∀ v, v ∈ gl p ogC m → ∃ k : Nat, k < m ∧ v = .int .i64 (k : Int)) ∧ (gl p ogC m).Nodup
  | 0 => ⟨(fun v hv => by cases hv), List.nodup_nil⟩
  | m + 1 => by
    obtain ⟨h1, h2⟩ := gl_og (p := p) m
    show (∀ v, v ∈ gl p ogC m ++ (if p m then ogC m else []) → _) ∧ (gl p ogC m ++ (if p m then ogC m else [])).Nodup
    refine ⟨fun v hv => ?_, ?_⟩
    · rcases List.mem_append.1 hv with hv | hv
      · obtain ⟨k, hk, e⟩ := h1 v hv
        exact ⟨k, by omega, e⟩
      · split at hv
        · exact ⟨m, Nat.lt_succ_self m, List.mem_singleton.1 hv⟩
        · cases hv
    · rw [List.nodup_append]
      refine ⟨h2, ?_, ?_⟩
      · split
        · exact List.pairwise_singleton _ _
        · exact List.nodup_nil
      · intro v hv w hw e
        subst e
        obtain ⟨k, hk, e⟩ := h1 v hv
        split at hw
        · have hw : v = .int .i64 (m : Int) := List.mem_singleton.1 hw
          rw [e] at hw
          injection hw with _ hw
          omega
        · cases hw
end Go.Proofs.Z

namespace Go.Proofs.Z
open Go Go.RowKit Go.Proofs Go.Ri Go.Proofs.Z.Fa
/-! The law FellBridged: the steps. -/
/-- What is known of the folds T (each Fl i, the set Fo i), and of the bridges Br (each bi k). -/
structure Brd (G : Int) (l : List Value) (n : Nat) (T Br : List Value) (Fl : Nat → List Value) (Fo bi : Nat → Nat) : Prop where
  get : ∀ i, i < T.length → T[i]? = some (.agg (Fl i).toArray)
  tl : T.length ≤ 16
  fl : ∀ i, Fl i = sL (Fo i)
  fs : ∀ i, i < T.length → ∃ g : Nat, (g : Int) < G ∧ Fo i = clS l n (usP l) (2 ^ g)
  bl : Br.length ≤ 32
  bg : ∀ k, k < Br.length → Br.getD k undef = .int .i64 (bi k : Int) ∧ bi k < n
  ball : ∀ i, i < n → brF l n i = true → ∃ k, k < Br.length ∧ bi k = i
def bgI (x : Int) (m nb nf i k : Nat) (p q r : Int) (j : Nat) : Int := if j = 20 then x else if j = 22 then (i : Int) else if j = 23 then (i : Int) + 1 else if j = 24 then (k : Int) else if j = 25 then (k : Int) + 1 else if j = 17 then (m : Int) else if j = 44 then (nb : Int) else if j = 45 then (nf : Int) else if j = 46 then r else if j = 48 then p else if j = 49 then q else 0
def bgLs (T Br F S Q : List Value) (j : Nat) : List Value := if j = 20 then T else if j = 23 then Br else if j = 62 then F else if j = 80 then S else Q
def bgNm (G : Int) (l : List Value) (n gi : Nat) (x : Int) (T Br F S Q : List Value) (i k : Nat) (p q r : Int) : Nm := gnm G l n gi (bgI x F.length Br.length T.length i k p q r) ny (bgLs T Br F S Q)
theorem bg_ids {V V' : Val} (nb : Bool) (G n N Bl : Int) (l T Br : List Value) (i : RV) (mi : Int) (hi : @cv V i = .int .i64 mi) (h22 : V'.I 22 = mi) (g0 : V.I 0 = G) (g1 : V.I 1 = n) (g45 : V.I 45 = N) (g44 : V.I 44 = Bl) (g4 : V.L 0 = l) (g5 : V.L 20 = T) (g6 : V.L 23 = Br) (h0 : V'.I 0 = G) (h1 : V'.I 1 = n) (h45 : V'.I 45 = N) (h44 : V'.I 44 = Bl) (hl : V'.L 0 = l) (hq : V'.L 20 = T) (hb : V'.L 23 = Br) : ∀ e, e ∈ bgSb nb ++ bgS i → okSE V V' e := by
  refine fapp ?_ (fa ⟨.i64, G, congrArg _ g0, h0⟩ (fa ⟨.i64, n, congrArg _ g1, h1⟩ (fa ⟨.i64, N, congrArg _ g45, h45⟩ (fa ⟨.i64, mi, hi, h22⟩ (fa (okLs l hl g4) (fa (okLs T hq g5) fz))))))
  cases nb with
  | true => exact fa (okLs Br hb g6) (fa ⟨.i64, Bl, congrArg _ g44, h44⟩ fz)
  | false => exact fz
noncomputable def bgPat (nb : Bool) (κ : Nat × Bool) : St := if κ.1 = 0 then bgP0 nb else if κ.1 = 1 then bgP1 nb κ.2 else bgP2 nb κ.2
def bgX0 (F : List Value) : Int := intOf (F.getD 0 undef)
def bgX (F : List Value) (k : Nat) : Int := intOf (F.getD k undef)
noncomputable def bgQ (l : List Value) (n : Nat) (F : List Value) (k : Nat) : List Value := lanesV (lanesL l n (bgX0 F).toNat (bgX F k).toNat)
noncomputable def bgK (l : List Value) (n : Nat) (F : List Value) (k : Nat) : Int := (mlK l n (bgX0 F).toNat (bgX F k).toNat : Nat)
noncomputable def BrdP (G : Int) (l : List Value) (n : Nat) (T Br : List Value) (Fl : Nat → List Value) (Fo bi : Nat → Nat) (m : Nat) (κ : Nat × Bool) (nm : Nm) : Prop :=
  (∃ i, i ≤ T.length ∧ m = (T.length - i) * (Br.length + 30) ∧ κ = (0, false) ∧ nm = bgNm G l n 0 0 T Br (Fl i) [] [] i 0 0 0 0) ∨
  (∃ i k c, i < T.length ∧ k ≤ Br.length ∧ m = (T.length - (i + 1)) * (Br.length + 30) + (Br.length - k) + 20 ∧ κ = (1, c) ∧ (c = false → ∀ j, j < k → (Fo i).testBit (gA' l (bi j)) = false) ∧ nm = bgNm G l n (bi k) 0 T Br (Fl i) [] [] i k 0 0 0) ∨
  (∃ i k c, i < T.length ∧ 1 ≤ k ∧ k ≤ 16 ∧ m = (T.length - (i + 1)) * (Br.length + 30) + (17 - k) ∧ κ = (2, c) ∧ (c = false → ∀ j, j < Br.length → (Fo i).testBit (gA' l (bi j)) = false) ∧ nm = bgNm G l n 0 0 T Br (Fl i) [] (bgQ l n (Fl i) k) i k (bgX0 (Fl i)) (bgX (Fl i) k) (bgK l n (Fl i) k))
section
variable {G : Int} {l : List Value} {n : Nat} {T Br : List Value} {Fl : Nat → List Value} {Fo bi : Nat → Nat}
theorem bgLL_ok (hn : l.length = n * 4) (nb : Bool) (gi : Nat) (x : Int) (F S Q : List Value) (i k : Nat) (p q r : Int) (W : Nat → Value) : ∀ e, e ∈ bgLL nb → @LLTrue ((bgNm G l n gi x T Br F S Q i k p q r).val W) e := by
  refine fapp (fa ⟨rfl, n, Nat.succ_pos 3, hn, rfl⟩ (fa ⟨rfl, T.length, Nat.succ_pos 0, by rw [Nat.mul_one]; rfl, rfl⟩ (fa ⟨rfl, F.length, Nat.succ_pos 0, by rw [Nat.mul_one]; rfl, rfl⟩ fz))) ?_
  cases nb with
  | true => exact fa ⟨rfl, Br.length, Nat.succ_pos 0, by rw [Nat.mul_one]; rfl, rfl⟩ fz
  | false => exact fz
theorem bg_meas {N i W : Nat} (h : i < N) : (N - i) * W = (N - (i + 1)) * W + W := by
  rw [← Nat.succ_mul]
  congr 1
  omega
theorem bg_step0 (hn : l.length = n * 4) (M : Brd G l n T Br Fl Fo bi) (nb : Bool) {D : Ending → World → Prop} {base : Nat} {w0 : World} {i : Nat} (hi : i < T.length) (W : Nat → Value) : StepH fBridged Prod.fst (bgPat nb) base w0 [] D (fun κ' c' => ∃ m', m' < (T.length - i) * (Br.length + 30) ∧ BrdP G l n T Br Fl Fo bi m' κ' c') (0, false) (bgNm G l n 0 0 T Br (Fl i) [] [] i 0 0 0 0) W := by
  have htl := M.tl
  have ht : @TbOK ((bgNm G l n 0 0 T Br (Fl i) [] [] i 0 0 0 0).val W) (bgT0 nb) := by
    letI V2 : Val := (bgNm G l n 0 0 T Br (Fl i) [] [] i 0 0 0 0).val W
    exact { T := fa (f_lss (k := .i64) (m := (i : Int)) (n := (T.length : Int)) rfl rfl (decide_eq_true (by omega))) fz, LL := bgLL_ok hn nb _ _ _ _ _ _ _ _ _ _ W }
  exact stepH_to (bgT0 nb) [] ht (.int 24 (lI 0) :: (bgSb nb ++ bgS (sI 22))) (bgR nb) rfl (1, false) (bgNm G l n (bi 0) 0 T Br (Fl i) [] [] i 0 0 0 0) (all2_all bg_01 nb) (fun W' => holds_all (fa ⟨.i64, 0, rfl, rfl⟩ (bg_ids nb G n T.length Br.length l T Br (sI 22) (i : Int) rfl rfl rfl rfl rfl rfl rfl rfl rfl rfl rfl rfl rfl rfl rfl rfl))) ⟨_, by rw [bg_meas hi]; omega, .inr (.inl ⟨i, 0, false, hi, Nat.zero_le _, rfl, rfl, fun _ j hj => absurd hj (Nat.not_lt_zero _), rfl⟩)⟩
theorem bg_fin (hn : l.length = n * 4) (nb : Bool) {w0 : World} {nx : Nat × Bool → Nm → Prop} (W : Nat → Value) : StepH fBridged Prod.fst (bgPat nb) w0.heap.size w0 [] (DF (.bool true) w0) nx (0, false) (bgNm G l n 0 0 T Br (Fl T.length) [] [] T.length 0 0 0 0) W := by
  have ht : @TbOK ((bgNm G l n 0 0 T Br (Fl T.length) [] [] T.length 0 0 0 0).val W) (bgT0e nb) := by
    letI V2 : Val := (bgNm G l n 0 0 T Br (Fl T.length) [] [] T.length 0 0 0 0).val W
    exact { T := fa (f_lss (k := .i64) (m := (T.length : Int)) (n := (T.length : Int)) rfl rfl (decide_eq_false (by omega))) fz, LL := bgLL_ok hn nb _ _ _ _ _ _ _ _ _ _ W }
  exact stepH_outF (bgT0e nb) [] ht (bR true) (all2_all bg_out nb) rfl
theorem bg_lne (M : Brd G l n T Br Fl Fo bi) {gi : Nat} {x : Int} {S Q : List Value} {i k : Nat} {p q r : Int} (hi : i < T.length) (W : Nat → Value) : @LNXTrue ((bgNm G l n gi x T Br (Fl i) S Q i k p q r).val W) ⟨20, 22, 62⟩ := by
  show T[((i : Int)).toNat]? = some (.agg (Fl i).toArray)
  rw [Int.toNat_natCast]
  exact M.get i hi
theorem bg_fl (M : Brd G l n T Br Fl Fo bi) (i : Nat) : ints (Fl i) ∧ (Fl i).length ≤ 16 := by
  rw [M.fl]
  exact ⟨sL_ints' _, gl_len ogC_len 16⟩
open Classical in
theorem bg_step1 (hl : ints l) (hn : l.length = n * 4) (hva : validM G l n = true) (M : Brd G l n T Br Fl Fo bi) {D : Ending → World → Prop} {base : Nat} {w0 : World} {i k : Nat} {c : Bool} (hi : i < T.length) (hk : k < Br.length) (hc : c = false → ∀ j, j < k → (Fo i).testBit (gA' l (bi j)) = false) (W : Nat → Value) : StepH fBridged Prod.fst (bgPat true) base w0 [] D (fun κ' c' => ∃ m', m' < (T.length - (i + 1)) * (Br.length + 30) + (Br.length - k) + 20 ∧ BrdP G l n T Br Fl Fo bi m' κ' c') (1, c) (bgNm G l n (bi k) 0 T Br (Fl i) [] [] i k 0 0 0) W := by
  have htl := M.tl
  have hbl := M.bl
  obtain ⟨hb1, hb2⟩ := M.bg k hk
  obtain ⟨a0, a1, b0, b1, _, _⟩ := gate_range hva hb2
  obtain ⟨f1, f2⟩ := bg_fl M i
  have hga := ((gate_in hva).1 _ hb2).1
  obtain ⟨q, hq⟩ : ∃ q, q = (Fo i).testBit (gA' l (bi k)) := ⟨_, rfl⟩
  have hm : Value.int .i64 (gtA l (bi k)) ∈ Fl i ↔ q = true := by
    rw [M.fl, show gtA l (bi k) = ((gA' l (bi k) : Nat) : Int) by unfold gA'; omega, sL_mem, Int.toNat_natCast, hq]
    exact ⟨fun h => h.2.2, fun h => ⟨by omega, by omega, h⟩⟩
  have ht : @TbOK ((bgNm G l n (bi k) 0 T Br (Fl i) [] [] i k 0 0 0).val W) (bgT1 true c q) := by
    letI V2 : Val := (bgNm G l n (bi k) 0 T Br (Fl i) [] [] i k 0 0 0).val W
    refine { T := fa (f_lss (k := .i64) (m := (k : Int)) (n := (Br.length : Int)) rfl rfl (decide_eq_true (by omega))) (fa (f_inb (m := (k : Int)) (n := (Br.length : Int)) rfl rfl (by omega)) (fa (f_add1 (m := (k : Int)) rfl rfl rfl (by omega) (by omega)) (fa (f_lss (k := .i64) (m := (bi k : Int)) (n := 0) rfl rfl (decide_eq_false (by omega))) (fa (f_geq (k := .i64) (m := (bi k : Int)) (n := (n : Int)) rfl rfl (decide_eq_false (by omega))) (fa (f_inb (m := (i : Int)) (n := (T.length : Int)) rfl rfl (by omega)) (fa (f_inb (m := (bi k : Int)) (n := (n : Int)) rfl rfl (by omega)) fz)))))), LL := bgLL_ok hn true _ _ _ _ _ _ _ _ _ _ W, LX := fa ⟨rfl, ?_, ?_⟩ (hLX_ok (bgI 0 (Fl i).length Br.length T.length i k 0 0 0) ny (bgLs T Br (Fl i) [] []) hl hn hb2 W), C := ?_, LNE := fa (bg_lne M hi W) fz }
    · show ((k : Int)).toNat * 1 + 1 ≤ Br.length
      rw [Int.toNat_natCast]
      omega
    · show (Br.drop (((k : Int)).toNat * 1)).take 1 = [.int .i64 (bi k : Int)]
      rw [Int.toNat_natCast, row1 k hk, hb1]
    · cases c with
      | true => exact fz
      | false =>
        refine fa ?_ fz
        have h := in_ans V2 (Fl i) f1 (by omega) (i := 62) rfl (x := sI 3) (v := gtA l (bi k)) rfl rfl
        cases q with
        | true => rwa [decide_eq_true (hm.2 rfl)] at h
        | false => rwa [decide_eq_false (fun h2 => by cases hm.1 h2)] at h
  refine stepH_to (bgT1 true c q) [] ht (.int 24 (sI 25) :: (bgSb true ++ bgS (sI 22))) (bgR true) rfl (1, c || q) (bgNm G l n (bi (k + 1)) 0 T Br (Fl i) [] [] i (k + 1) 0 0 0) (all2_all (all2_all bg_11 c) q) (fun W' => holds_all (fa ⟨.i64, (k : Int) + 1, rfl, rfl⟩ (bg_ids true G n T.length Br.length l T Br (sI 22) (i : Int) rfl rfl rfl rfl rfl rfl rfl rfl rfl rfl rfl rfl rfl rfl rfl rfl))) ⟨_, ?_, .inr (.inl ⟨i, k + 1, c || q, hi, hk, rfl, rfl, fun hf j hj => ?_, rfl⟩)⟩
  · omega
  · simp only [Bool.or_eq_false_iff] at hf
    rcases Nat.lt_or_eq_of_le (Nat.le_of_lt_succ hj) with h | rfl
    · exact hc hf.1 j h
    · rw [← hq]
      exact hf.2
theorem bg_step12 (hn : l.length = n * 4) (M : Brd G l n T Br Fl Fo bi) (nb : Bool) (hnb : nb = !Br.isEmpty) {D : Ending → World → Prop} {base : Nat} {w0 : World} {i k : Nat} {c : Bool} (hi : i < T.length) (hk : k = Br.length) (hc : c = false → ∀ j, j < k → (Fo i).testBit (gA' l (bi j)) = false) (W : Nat → Value) : StepH fBridged Prod.fst (bgPat nb) base w0 [] D (fun κ' c' => ∃ m', m' < (T.length - (i + 1)) * (Br.length + 30) + (Br.length - k) + 20 ∧ BrdP G l n T Br Fl Fo bi m' κ' c') (1, c) (bgNm G l n (bi k) 0 T Br (Fl i) [] [] i k 0 0 0) W := by
  have htl := M.tl
  have hbl := M.bl
  have ht : @TbOK ((bgNm G l n (bi k) 0 T Br (Fl i) [] [] i k 0 0 0).val W) (bgT1e nb) := by
    letI V2 : Val := (bgNm G l n (bi k) 0 T Br (Fl i) [] [] i k 0 0 0).val W
    refine { T := fa ?_ fz, LL := bgLL_ok hn nb _ _ _ _ _ _ _ _ _ _ W }
    cases nb with
    | true => exact f_lss (k := .i64) (m := (k : Int)) (n := (Br.length : Int)) rfl rfl (decide_eq_false (by omega))
    | false =>
      exact f_lss (k := .i64) (m := (k : Int)) (n := 0) rfl rfl (decide_eq_false (by omega))
  exact stepH_to (bgT1e nb) [] ht (.int 24 (lI 1) :: (bgSb nb ++ bgS (sI 22))) (bgR nb) rfl (2, c) (bgNm G l n 0 0 T Br (Fl i) [] (bgQ l n (Fl i) 1) i 1 (bgX0 (Fl i)) (bgX (Fl i) 1) (bgK l n (Fl i) 1)) (all2_all (all2_all bg_12 nb) c) (fun W' => holds_all (fa ⟨.i64, 1, rfl, rfl⟩ (bg_ids nb G n T.length Br.length l T Br (sI 22) (i : Int) rfl rfl rfl rfl rfl rfl rfl rfl rfl rfl rfl rfl rfl rfl rfl rfl))) ⟨_, by omega, .inr (.inr ⟨i, 1, c, hi, Nat.le_refl _, by omega, rfl, rfl, fun hf j hj => hc hf j (by omega), rfl⟩)⟩
theorem bg_step20 (hn : l.length = n * 4) (M : Brd G l n T Br Fl Fo bi) (nb : Bool) {D : Ending → World → Prop} {base : Nat} {w0 : World} {m i k : Nat} {c : Bool} {Q : List Value} {p q r : Int} (hi : i < T.length) (hm : (T.length - (i + 1)) * (Br.length + 30) < m) (hc : c = false → (Fl i).length ≤ k) (W : Nat → Value) : StepH fBridged Prod.fst (bgPat nb) base w0 [] D (fun κ' c' => ∃ m', m' < m ∧ BrdP G l n T Br Fl Fo bi m' κ' c') (2, c) (bgNm G l n 0 0 T Br (Fl i) [] Q i k p q r) W := by
  have htl := M.tl
  obtain ⟨u, hu⟩ : ∃ u, u = decide ((k : Int) < ((Fl i).length : Int)) := ⟨_, rfl⟩
  have ht : @TbOK ((bgNm G l n 0 0 T Br (Fl i) [] Q i k p q r).val W) (bgT2e nb u) := by
    letI V2 : Val := (bgNm G l n 0 0 T Br (Fl i) [] Q i k p q r).val W
    exact { T := fa (f_lss (k := .i64) (m := (k : Int)) (n := ((Fl i).length : Int)) rfl rfl hu.symm) (fa (f_inb (m := (i : Int)) (n := (T.length : Int)) rfl rfl (by omega)) (fa (f_add1 (m := (i : Int)) rfl rfl rfl (by omega) (by omega)) fz)), LL := bgLL_ok hn nb _ _ _ _ _ _ _ _ _ _ W, LNE := fa (bg_lne M hi W) fz }
  have hrun := all2_all (all2_all (all2_all bg_20 nb) c) u
  have hcu : (!c && u) = false := by
    cases c with
    | true => rfl
    | false =>
      have := hc rfl
      rw [hu, decide_eq_false (by omega)]
      rfl
  rw [hcu, Bool.false_or] at hrun
  exact stepH_to (bgT2e nb u) [] ht (bgSb nb ++ bgS (sI 23)) (bgR nb) rfl (0, false) (bgNm G l n 0 0 T Br (Fl (i + 1)) [] [] (i + 1) 0 0 0 0) hrun (fun W' => holds_all (bg_ids nb G n T.length Br.length l T Br (sI 23) ((i : Int) + 1) rfl rfl rfl rfl rfl rfl rfl rfl rfl rfl rfl rfl rfl rfl rfl rfl)) ⟨_, hm, .inl ⟨i + 1, hi, rfl, rfl, rfl⟩⟩
end
end Go.Proofs.Z

namespace Go.Proofs.Z
open Go Go.RowKit Go.Proofs Go.Ri Go.Proofs.Z.Fa
/-! The law FellBridged for all fells and gates. -/
section
variable {G : Int} {l : List Value} {n : Nat} {T Br : List Value} {Fl : Nat → List Value} {Fo bi : Nat → Nat}
theorem bg_el (M : Brd G l n T Br Fl Fo bi) (i : Nat) {k : Nat} (hk : k < (Fl i).length) : ∃ x : Nat, x < 16 ∧ (Fl i).getD k undef = .int .i64 (x : Int) ∧ (Fo i).testBit x = true := by
  have hm : (Fl i).getD k undef ∈ Fl i := by
    rw [List.getD_eq_getElem?_getD, List.getElem?_eq_getElem hk]
    exact List.getElem_mem _
  rw [M.fl] at hm ⊢
  have h1 : ∀ v, v ∈ sL (Fo i) → ∃ k : Nat, k < 16 ∧ v = .int .i64 (k : Int) := by
    unfold sL
    exact (gl_og 16).1
  obtain ⟨x, hx, e⟩ := h1 _ hm
  rw [e] at hm
  have := sL_mem.1 hm
  rw [Int.toNat_natCast] at this
  exact ⟨x, hx, e, this.2.2⟩
theorem bg_dis (M : Brd G l n T Br Fl Fo bi) (i : Nat) {k : Nat} (hk : k < (Fl i).length) (h1 : 1 ≤ k) : (Fl i).getD 0 undef ≠ (Fl i).getD k undef := by
  have hn : (Fl i).Nodup := by
    rw [M.fl]
    unfold sL
    exact (gl_og 16).2
  have h0 : 0 < (Fl i).length := by omega
  have := List.pairwise_iff_getElem.1 hn 0 k h0 hk (by omega)
  rw [List.getD_eq_getElem?_getD, List.getD_eq_getElem?_getD, List.getElem?_eq_getElem h0, List.getElem?_eq_getElem hk]
  exact this
set_option maxRecDepth 10000 in
theorem bg_step22 (hl : ints l) (hn : l.length = n * 4) (hva : validM G l n = true) (M : Brd G l n T Br Fl Fo bi) (nb : Bool) {D : Ending → World → Prop} {base : Nat} {w0 : World} {i k : Nat} (hi : i < T.length) (h1 : 1 ≤ k) (hk : k < (Fl i).length) (hc : ∀ j, j < Br.length → (Fo i).testBit (gA' l (bi j)) = false) (W : Nat → Value) : StepH fBridged Prod.fst (bgPat nb) base w0 [] D (fun κ' c' => ∃ m', m' < (T.length - (i + 1)) * (Br.length + 30) + (17 - k) ∧ BrdP G l n T Br Fl Fo bi m' κ' c') (2, false) (bgNm G l n 0 0 T Br (Fl i) [] (bgQ l n (Fl i) k) i k (bgX0 (Fl i)) (bgX (Fl i) k) (bgK l n (Fl i) k)) W := by
  have htl := M.tl
  have hG16 : G ≤ 16 := ((validM_iff _ _ _).1 hva).2.1
  have hb32 := ((validM_iff _ _ _).1 hva).2.2.1
  obtain ⟨f1, f2⟩ := bg_fl M i
  obtain ⟨a, ha, ea, ta⟩ := bg_el M i (k := 0) (by omega)
  obtain ⟨b, hb, eb, tb⟩ := bg_el M i hk
  have hab : a ≠ b := fun e => bg_dis M i hk h1 (by rw [ea, eb, e])
  obtain ⟨g, hg, hF⟩ := M.fs i hi
  have hg16 : g < 16 := by omega
  rw [hF] at ta tb hc
  have hcab : (clS l n (usP l) (2 ^ a)).testBit b = true := kl_trans hva ha hg16 (kl_symm hva hg16 ha ta) tb
  have h2 := br_two hn hva ha hb hab hcab (fun i' hi' hbr => by
    obtain ⟨k', hk', rfl⟩ := M.ball i' hi' hbr
    cases hq : (clS l n (usP l) (2 ^ a)).testBit (gA' l (bi k')) with
    | false => rfl
    | true =>
      have := kl_trans hva hg16 ha ta hq
      rw [hc k' hk'] at this
      cases this)
  have haG : (a : Int) < G := cl_lt hva hg ta
  have hbG : (b : Int) < G := cl_lt hva hg tb
  have e0 : bgX0 (Fl i) = (a : Int) := by unfold bgX0; rw [ea]; rfl
  have ek : bgX (Fl i) k = (b : Int) := by unfold bgX; rw [eb]; rfl
  have eQ : bgQ l n (Fl i) k = lanesV (lanesL l n a b) := by unfold bgQ; rw [e0, ek, Int.toNat_natCast, Int.toNat_natCast]
  have eK : bgK l n (Fl i) k = (mlK l n a b : Nat) := by unfold bgK; rw [e0, ek, Int.toNat_natCast, Int.toNat_natCast]
  have hlen : (lanesL l n a b).length = mlK l n a b := lnL_len _
  have ht : @TbOK ((bgNm G l n 0 0 T Br (Fl i) [] (bgQ l n (Fl i) k) i k (bgX0 (Fl i)) (bgX (Fl i) k) (bgK l n (Fl i) k)).val W) (bgT2 nb) := by
    letI V2 : Val := (bgNm G l n 0 0 T Br (Fl i) [] (bgQ l n (Fl i) k) i k (bgX0 (Fl i)) (bgX (Fl i) k) (bgK l n (Fl i) k)).val W
    refine { T := fa (f_lss (k := .i64) (m := (k : Int)) (n := ((Fl i).length : Int)) rfl rfl (decide_eq_true (by omega))) (fa (f_inb (m := (k : Int)) (n := ((Fl i).length : Int)) rfl rfl (by omega)) (fa (f_inb (m := 0) (n := ((Fl i).length : Int)) rfl rfl (by omega)) (fa (f_add1 (m := (k : Int)) rfl rfl rfl (by omega) (by omega)) (fa (f_inb (m := (i : Int)) (n := (T.length : Int)) rfl rfl (by omega)) (fa (f_lss (k := .i64) (m := bgK l n (Fl i) k) (n := 2) rfl rfl (decide_eq_false (by rw [eK]; omega))) fz))))), LL := fapp (bgLL_ok hn nb _ _ _ _ _ _ _ _ _ _ W) (fa ⟨rfl, mlK l n a b, Nat.succ_pos 0, ?_, ?_⟩ fz), LX := fa ⟨rfl, ?_, ?_⟩ (fa ⟨rfl, ?_, ?_⟩ fz), LNE := fa (bg_lne M hi W) fz, IZ := fa rfl fz, U := qnU_ok _ (fa ?_ fz) }
    · show (bgQ l n (Fl i) k).length = _
      rw [eQ, Nat.mul_one]
      unfold lanesV
      rw [List.length_map, hlen]
    · exact congrArg (Value.int .i64) eK
    · show ((0 : Int)).toNat * 1 + 1 ≤ (Fl i).length
      show 0 * 1 + 1 ≤ _
      omega
    · show ((Fl i).drop (0 * 1)).take 1 = [.int .i64 (bgX0 (Fl i))]
      rw [row1 0 (by omega), ea, e0]
    · show ((k : Int)).toNat * 1 + 1 ≤ (Fl i).length
      rw [Int.toNat_natCast]
      omega
    · show ((Fl i).drop (((k : Int)).toNat * 1)).take 1 = [.int .i64 (bgX (Fl i) k)]
      rw [Int.toNat_natCast, row1 k hk, eb, ek]
    · have h := lanes_q V2 (G := G) (l := l) (n := n) (a := a) (b := b) rfl rfl hl hn hva haG hbG hab (x := sI 48) (y := sI 49) rfl rfl (congrArg (Value.int .i64) e0) (congrArg (Value.int .i64) ek) eQ
      rwa [show (!(lanesL l n a b).isEmpty) = true by
        cases hL : lanesL l n a b with
        | nil =>
          rw [hL] at hlen
          have : 0 = mlK l n a b := hlen
          omega
        | cons _ _ => rfl] at h
  exact stepH_to (bgT2 nb) [] ht (.int 24 (sI 25) :: (bgSb nb ++ bgS (sI 22))) (bgR nb) rfl (2, false) (bgNm G l n 0 0 T Br (Fl i) [] (bgQ l n (Fl i) (k + 1)) i (k + 1) (bgX0 (Fl i)) (bgX (Fl i) (k + 1)) (bgK l n (Fl i) (k + 1))) (all2_all bg_22 nb) (fun W' => holds_all (fa ⟨.i64, (k : Int) + 1, rfl, rfl⟩ (bg_ids nb G n T.length Br.length l T Br (sI 22) (i : Int) rfl rfl rfl rfl rfl rfl rfl rfl rfl rfl rfl rfl rfl rfl rfl rfl))) ⟨_, by omega, .inr (.inr ⟨i, k + 1, false, hi, by omega, by omega, rfl, rfl, fun _ j hj => by rw [hF]; exact hc j hj, rfl⟩)⟩
/-- From the entry on. -/
theorem bg_flow (hl : ints l) (hn : l.length = n * 4) (hva : validM G l n = true) (M : Brd G l n T Br Fl Fo bi) (nb : Bool) (hnb : nb = !Br.isEmpty) (c : Nat) (hc6 : c < 6) (hc2 : (Nat.beq c 2 && !nb) = false) (gi : Nat) (x : Int) (S : List Value) (p r : Int)
    (ht : @TbOK ((bgNm G l n gi x T Br (Fl 0) S [] 0 0 p 0 r).val fun _ => undef) (bgE nb c)) (w : World) (hr : RoIn ro w) (vs : List Value) (hv : All2 (@Go.Ri.NVal ((bgNm G l n gi x T Br (Fl 0) S [] 0 0 p 0 r).val fun _ => undef) w) bgD vs) : Calls Tryz.prog fBridged vs.toArray w (fun e w' => e = .returned (.bool true) ∧ Below w.heap.size w w') := by
  have hrun := allU_lt (all2_all bg_enter nb) c hc6
  rw [hc2, Bool.false_or] at hrun
  refine fn_headsN (κ := Nat × Bool) (bgNm G l n gi x T Br (Fl 0) S [] 0 0 p 0 r) (fun _ => undef) (bgE nb c) [] fBridged bgD Prod.fst (bgPat nb) (BrdP G l n T Br Fl Fo bi) ht (bgSb nb ++ bgS (lI 0)) (bgR nb) (0, false) ((T.length - 0) * (Br.length + 30)) hrun (bgNm G l n 0 0 T Br (Fl 0) [] [] 0 0 0 0 0) (fun W' => holds_all (bg_ids nb G n T.length Br.length l T Br (lI 0) 0 rfl rfl rfl rfl rfl rfl rfl rfl rfl rfl rfl rfl rfl rfl rfl rfl)) (.inl ⟨0, Nat.zero_le _, rfl, rfl, rfl⟩) (DF (.bool true)) ?_ w hr vs hv
  rintro w m κ nm (⟨i, hi, rfl, rfl, rfl⟩ | ⟨i, k, c, hi, hk, rfl, rfl, hc, rfl⟩ | ⟨i, k, c, hi, h1, hk, rfl, rfl, hc, rfl⟩) W
  · rcases Nat.lt_or_ge i T.length with hlt | hge
    · exact bg_step0 hn M nb hlt W
    · obtain rfl : i = T.length := by omega
      exact bg_fin hn nb W
  · rcases Nat.lt_or_ge k Br.length with hlt | hge
    · have e : nb = true := by
        rw [hnb]
        cases Br with
        | nil => exact absurd hlt (Nat.not_lt_zero _)
        | cons _ _ => rfl
      subst e
      exact bg_step1 hl hn hva M hi hlt hc W
    · exact bg_step12 hn M nb hnb hi (by omega) hc W
  · by_cases hq : c = false ∧ k < (Fl i).length
    · obtain ⟨rfl, hlt⟩ := hq
      exact bg_step22 hl hn hva M nb hi h1 hlt (hc rfl) W
    · exact bg_step20 hn M nb hi (by omega) (fun e => by
        rcases Nat.lt_or_ge k (Fl i).length with h | h
        · exact absurd ⟨e, h⟩ hq
        · exact h) W
end
end Go.Proofs.Z

namespace Go.Proofs.Z
open Go Go.RowKit Go.Proofs Go.Ri Go.Proofs.Z.Fa
/-! The law FellBridged: the entry; all together. -/
def bg0Nm (G : Int) (l : List Value) (n : Nat) (x : Int) : Nm := ⟨fun i => if i = 0 then G else if i = 1 then (n : Int) else x, ny, fun _ => ⟨#[]⟩, fun _ => l⟩
section
variable {G : Int} {l : List Value} {n : Nat} {T Br : List Value} {Fl : Nat → List Value} {Fo bi : Nat → Nat}
theorem bg_fold (V : Val) (h0 : V.I 0 = G) (hL : V.L 0 = l) (h20 : V.L 20 = T) (hl : ints l) (hn : l.length = n * 4) (hva : validM G l n = true) (hT : T = ptG l n (usP l) G.toNat) : @QNTrue V ⟨fFolds, [fellR], .tup [.slN 0 20 1, lI 0], [some (.lstL 20 tInts 1)]⟩ := by
  have h := folds_q V (G := G) (l := l) (n := n) h0 hL hl hn (h20.trans hT)
  rw [show errM G l n = 0 by unfold errM; rw [hva]; rfl] at h
  exact h
theorem bg_brid (V : Val) (h0 : V.I 0 = G) (hL : V.L 0 = l) (h23 : V.L 23 = Br) (hl : ints l) (hn : l.length = n * 4) (hva : validM G l n = true) (hB : Br = brG l n n) : @QNTrue V ⟨fBridges, [fellR], (ffB (!Br.isEmpty)).1, (ffB (!Br.isEmpty)).2⟩ := by
  let V1 : Val := (brNm G l n Br).val fun _ => undef
  have conv : ∀ w vs, All2 (@Go.Ri.NVal V w) [fellR] vs → All2 (@Go.Ri.NVal V1 w) [fellR] vs := fun w vs h => by
    cases h with
    | cons h1 h2 => cases h2; exact .cons (fell_nval1 (V := V) (V' := V1) h0 hL h1) .nil
  have q5 := bridges_q V1 (G := G) (l := l) (n := n) rfl rfl hl hn (show V1.L 9 = brG l n n from hB)
  rw [show errM G l n = 0 by unfold errM; rw [hva]; rfl, ← hB] at q5
  exact fun w hr vs hv => (q5 w hr vs (conv w vs hv)).mono fun x w' h => br_ren (V1 := V1) (V := V) h23 _ h
theorem bg_base (hn : l.length = n * 4) (nb : Bool) (gi : Nat) (x : Int) (F S Q : List Value) (i k : Nat) (p q r : Int) (W : Nat → Value) : ∀ e, e ∈ ([⟨0, 4, sI 1⟩, ⟨20, 1, sI 45⟩] : List LNE) ++ (if nb then [⟨23, 1, sI 44⟩] else []) → @LLTrue ((bgNm G l n gi x T Br F S Q i k p q r).val W) e := by
  refine fapp (fa ⟨rfl, n, Nat.succ_pos 3, hn, rfl⟩ (fa ⟨rfl, T.length, Nat.succ_pos 0, by rw [Nat.mul_one]; rfl, rfl⟩ fz)) ?_
  cases nb with
  | true => exact fa ⟨rfl, Br.length, Nat.succ_pos 0, by rw [Nat.mul_one]; rfl, rfl⟩ fz
  | false => exact fz
open Classical in
theorem bg_in (V : Val) (hva : validM G l n = true) (hB : Br = brG l n n) (h23 : V.L 23 = Br) {g : Nat} (hg : g < n) (h20 : V.I 20 = (g : Int)) : @AnsN V fIn [bgN (!Br.isEmpty), sI 20] (.bool (brF l n g)) := by
  have hb32 := ((validM_iff _ _ _).1 hva).2.2.1
  have hbi : ints Br := fun v hv => by
    rw [hB] at hv
    obtain ⟨k, _, e⟩ := (gl_og n).1 v hv
    exact ⟨_, e⟩
  have hbl : Br.length ≤ 1000000 := by
    have : (brG l n n).length ≤ 1 * n := gl_len ogC_len n
    rw [hB]
    omega
  have h := in_ans V Br hbi hbl h23 (x := sI 20) rfl (congrArg (Value.int .i64) h20)
  have hm : Value.int .i64 (g : Int) ∈ Br ↔ brF l n g = true := by
    rw [hB]
    unfold brG
    rw [mem_gl]
    constructor
    · rintro ⟨k, _, h2, h3⟩
      have h3 : Value.int .i64 (g : Int) = .int .i64 (k : Int) := List.mem_singleton.1 h3
      injection h3 with _ h3
      rw [show g = k by omega]
      exact h2
    · exact fun h2 => ⟨g, hg, h2, List.mem_singleton.2 rfl⟩
  have h : @AnsN V fIn [.slN 0 23 1, sI 20] (.bool (brF l n g)) := by
    cases hq : brF l n g with
    | true => rwa [decide_eq_true (hm.2 hq)] at h
    | false => rwa [decide_eq_false (fun h2 => by rw [hm.1 h2] at hq; cases hq)] at h
  cases hBr : Br with
  | nil => exact nil_an1 (h23.trans hBr) h
  | cons _ _ => exact h
theorem bg_gate (hl : ints l) (hn : l.length = n * 4) {g : Nat} (hg : g < n) {x : Int} (hx : x = (g : Int)) (F S Q : List Value) (i k : Nat) (p q r : Int) (W : Nat → Value) : @LXTrue ((bgNm G l n g x T Br F S Q i k p q r).val W) ⟨0, 20, [sI 3, sI 4, sI 5, sI 6]⟩ := by
  subst hx
  refine ⟨rfl, ?_, ?_⟩
  · show ((g : Int)).toNat * 4 + 4 ≤ l.length
    rw [Int.toNat_natCast]
    omega
  · show (l.drop (((g : Int)).toNat * 4)).take 4 = _
    rw [Int.toNat_natCast]
    exact row4 hl _ (by omega)
theorem bg_shut (hl : ints l) (hn : l.length = n * 4) (hva : validM G l n = true) {g : Nat} (hg : g < n) {S : List Nat} (hS : shL l n (gA' l g) (gB' l g) n = S) (x : Int) (F Q : List Value) (i k : Nat) (p q r : Int) (W : Nat → Value) : @QNTrue ((bgNm G l n g x T Br F (intsL S) Q i k p q r).val W) ⟨fShut, [fellR, sI 3, sI 4], (shAns (!(Nat.beq S.length 0))).1, (shAns (!(Nat.beq S.length 0))).2⟩ := by
  obtain ⟨a0, a1, b0, b1, _, _⟩ := gate_range hva hg
  have hgi := gate_in hva
  have h := shut_q ((bgNm G l n g x T Br F (intsL S) Q i k p q r).val W) (G := G) (l := l) (n := n) (a := gA' l g) (b := gB' l g) rfl rfl hl hn hva (by unfold gA'; omega) (by unfold gB'; omega) (hgi.2 g hg) (x := sI 3) (y := sI 4) rfl rfl (by show Value.int .i64 (gtA l g) = _; rw [show gtA l g = ((gA' l g : Nat) : Int) by unfold gA'; omega]) (by show Value.int .i64 (gtB l g) = _; rw [show gtB l g = ((gB' l g : Nat) : Int) by unfold gB'; omega]) (by rw [hS]; rfl)
  rwa [hS] at h
set_option maxRecDepth 10000 in
theorem bg_main (hl : ints l) (hn : l.length = n * 4) (hva : validM G l n = true) (hn200 : ¬ (n : Int) > 200) (x : Int) (M : Brd G l n T Br Fl Fo bi) (hT : T = ptG l n (usP l) G.toNat) (hB : Br = brG l n n) (w : World) (hr : RoIn ro w) (vs : List Value) (hv : All2 (@Go.Ri.NVal ((bg0Nm G l n x).val fun _ => undef) w) bgD vs) : Calls Tryz.prog fBridged vs.toArray w (fun e w' => e = .returned (.bool true) ∧ Below w.heap.size w w') := by
  have hC : ∀ V : Val, V.I 0 = G → V.L 0 = l → @AnsN V fCheck [fellR] (.int .i64 0) := fun V h0 hL => by
    have h := check_ans V (G := G) (l := l) (n := n) h0 hL hl hn
    rwa [show errM G l n = 0 by unfold errM; rw [hva]; rfl] at h
  have hv : ∀ gi S p r, All2 (@Go.Ri.NVal ((bgNm G l n gi x T Br (Fl 0) S [] 0 0 p 0 r).val fun _ => undef) w) bgD vs := fun gi S p r => ev_args ((bg0Nm G l n x).val fun _ => undef) (G := G) (l := l) (a := x) rfl rfl rfl rfl rfl rfl hv
  have hgtr : ∀ V : Val, V.I 1 = (n : Int) → @TETrue V ⟨.bin .gtr, sI 1, lI 200, bR false⟩ := fun V h => by
    letI := V
    exact f_gtr (k := .i64) (m := (n : Int)) (n := 200) (congrArg (Value.int .i64) h) rfl (decide_eq_false hn200)
  by_cases hx0 : 0 ≤ x
  · by_cases hxn : x < n
    · obtain ⟨g, rfl⟩ : ∃ g : Nat, x = (g : Int) := ⟨x.toNat, by omega⟩
      have hg : g < n := by omega
      have hone := br_one hn hva hg
      obtain ⟨S, hS⟩ : ∃ S, shL l n (gA' l g) (gB' l g) n = S := ⟨_, rfl⟩
      rw [hS] at hone
      match S, hS, hone with
      | [], hS, hone =>
        have hbr : brF l n g = false := by
          cases h : brF l n g with
          | false => rfl
          | true => have := hone.2 h; cases this
        refine bg_flow hl hn hva M (!Br.isEmpty) rfl 3 (by decide) rfl g (g : Int) (intsL []) 0 0 ?_ w hr vs (hv _ _ _ _)
        letI V1 : Val := (bgNm G l n g (g : Int) T Br (Fl 0) (intsL []) [] 0 0 0 0 0).val fun _ => undef
        have hin := bg_in V1 hva hB rfl hg rfl
        rw [hbr] at hin
        exact { X := saneX_true, T := fa (hgtr V1 rfl) (fa (f_geq (k := .i64) (m := (g : Int)) (n := 0) rfl rfl (decide_eq_true (by omega))) (fa (f_lss (k := .i64) (m := (g : Int)) (n := (n : Int)) rfl rfl (decide_eq_true (by omega))) (fa (f_inb (m := (g : Int)) (n := (n : Int)) rfl rfl (by omega)) fz))), LL := fapp (bg_base hn _ _ _ _ _ _ _ _ _ _ _ _) fz, LX := fapp (fa (bg_gate hl hn hg rfl _ _ _ _ _ _ _ _ _) fz) fz, C := fa (hC V1 rfl rfl) (fa hin fz), IZ := fa rfl fz, U := qnU_ok _ (fapp (fa (bg_brid V1 rfl rfl rfl hl hn hva hB) (fa (bg_fold V1 rfl rfl rfl hl hn hva hT) fz)) (fa (bg_shut hl hn hva hg hS _ _ _ _ _ _ _ _ _) fz)) }
      | [j], hS, hone =>
        have h1 : ∀ V : Val, V.I 47 = 0 → @TETrue V ⟨.inb, sI 47, lI 1, bR true⟩ := fun V h => by
          letI := V
          exact f_inb (m := 0) (n := 1) (congrArg (Value.int .i64) h) rfl (by omega)
        letI V1 : Val := (bgNm G l n g (g : Int) T Br (Fl 0) (intsL [j]) [] 0 0 (j : Int) 0 1).val fun _ => undef
        have hin := bg_in V1 hva hB rfl hg rfl
        have hLX : @LXTrue V1 ⟨80, 47, [sI 48]⟩ := ⟨rfl, Nat.le_refl _, rfl⟩
        have hLL : @LLTrue V1 ⟨80, 1, lI 1⟩ := ⟨rfl, 1, Nat.succ_pos 0, rfl, rfl⟩
        have hsh := bg_shut (T := T) (Br := Br) hl hn hva hg hS (g : Int) (Fl 0) [] 0 0 (j : Int) 0 1 (fun _ => undef)
        by_cases hjg : j = g
        · subst hjg
          have hbr : brF l n j = true := hone.1 rfl
          rw [hbr] at hin
          have hnb : (!Br.isEmpty) = true := by
            obtain ⟨k, hk, _⟩ := M.ball j hg hbr
            cases hBr : Br with
            | nil => rw [hBr] at hk; exact absurd hk (Nat.not_lt_zero _)
            | cons _ _ => rfl
          refine bg_flow hl hn hva M (!Br.isEmpty) rfl 2 (by decide) (by rw [hnb]; rfl) j (j : Int) (intsL [j]) (j : Int) 1 ?_ w hr vs (hv _ _ _ _)
          exact { X := saneX_true, T := fa (hgtr V1 rfl) (fa (f_geq (k := .i64) (m := (j : Int)) (n := 0) rfl rfl (decide_eq_true (by omega))) (fa (f_lss (k := .i64) (m := (j : Int)) (n := (n : Int)) rfl rfl (decide_eq_true (by omega))) (fa (f_inb (m := (j : Int)) (n := (n : Int)) rfl rfl (by omega)) (fa (h1 V1 rfl) (fa (f_ieq (k := .i64) (m := (j : Int)) (n := (j : Int)) rfl rfl (by rw [eqdec]; exact decide_eq_true rfl)) fz))))), LL := fapp (bg_base hn _ _ _ _ _ _ _ _ _ _ _ _) (fa hLL fz), LX := fapp (fa (bg_gate hl hn hg rfl _ _ _ _ _ _ _ _ _) fz) (fa hLX fz), C := fa (hC V1 rfl rfl) (fa hin fz), IZ := fa rfl fz, U := qnU_ok _ (fapp (fa (bg_brid V1 rfl rfl rfl hl hn hva hB) (fa (bg_fold V1 rfl rfl rfl hl hn hva hT) fz)) (fa hsh fz)) }
        · have hbr : brF l n g = false := by
            cases h : brF l n g with
            | false => rfl
            | true =>
              have := hone.2 h
              injection this with this _
              exact absurd this hjg
          rw [hbr] at hin
          refine bg_flow hl hn hva M (!Br.isEmpty) rfl 4 (by decide) rfl g (g : Int) (intsL [j]) (j : Int) 1 ?_ w hr vs (hv _ _ _ _)
          exact { X := saneX_true, T := fa (hgtr V1 rfl) (fa (f_geq (k := .i64) (m := (g : Int)) (n := 0) rfl rfl (decide_eq_true (by omega))) (fa (f_lss (k := .i64) (m := (g : Int)) (n := (n : Int)) rfl rfl (decide_eq_true (by omega))) (fa (f_inb (m := (g : Int)) (n := (n : Int)) rfl rfl (by omega)) (fa (h1 V1 rfl) (fa (f_ieq (k := .i64) (m := (j : Int)) (n := (g : Int)) rfl rfl (by rw [eqdec]; exact decide_eq_false (by omega))) fz))))), LL := fapp (bg_base hn _ _ _ _ _ _ _ _ _ _ _ _) (fa hLL fz), LX := fapp (fa (bg_gate hl hn hg rfl _ _ _ _ _ _ _ _ _) fz) (fa hLX fz), C := fa (hC V1 rfl rfl) (fa hin fz), IZ := fa rfl fz, U := qnU_ok _ (fapp (fa (bg_brid V1 rfl rfl rfl hl hn hva hB) (fa (bg_fold V1 rfl rfl rfl hl hn hva hT) fz)) (fa hsh fz)) }
      | j :: j' :: S, hS, hone =>
        have hbr : brF l n g = false := by
          cases h : brF l n g with
          | false => rfl
          | true =>
            have := hone.2 h
            injection this with _ this
            cases this
        refine bg_flow hl hn hva M (!Br.isEmpty) rfl 5 (by decide) rfl g (g : Int) (intsL (j :: j' :: S)) 0 ((j :: j' :: S).length : Nat) ?_ w hr vs (hv _ _ _ _)
        letI V1 : Val := (bgNm G l n g (g : Int) T Br (Fl 0) (intsL (j :: j' :: S)) [] 0 0 0 0 ((j :: j' :: S).length : Nat)).val fun _ => undef
        have hin := bg_in V1 hva hB rfl hg rfl
        rw [hbr] at hin
        have hLL : @LLTrue V1 ⟨80, 1, sI 46⟩ := ⟨rfl, (j :: j' :: S).length, Nat.succ_pos 0, by rw [Nat.mul_one]; exact intsL_len _, rfl⟩
        exact { X := saneX_true, T := fa (hgtr V1 rfl) (fa (f_geq (k := .i64) (m := (g : Int)) (n := 0) rfl rfl (decide_eq_true (by omega))) (fa (f_lss (k := .i64) (m := (g : Int)) (n := (n : Int)) rfl rfl (decide_eq_true (by omega))) (fa (f_inb (m := (g : Int)) (n := (n : Int)) rfl rfl (by omega)) (fa (f_ieq (k := .i64) (m := ((j :: j' :: S).length : Nat)) (n := 1) rfl rfl (by rw [eqdec]; exact decide_eq_false (by simp only [List.length_cons]; omega))) fz)))), LL := fapp (bg_base hn _ _ _ _ _ _ _ _ _ _ _ _) (fa hLL fz), LX := fapp (fa (bg_gate hl hn hg rfl _ _ _ _ _ _ _ _ _) fz) fz, C := fa (hC V1 rfl rfl) (fa hin fz), IZ := fa rfl fz, U := qnU_ok _ (fapp (fa (bg_brid V1 rfl rfl rfl hl hn hva hB) (fa (bg_fold V1 rfl rfl rfl hl hn hva hT) fz)) (fa (bg_shut hl hn hva hg hS _ _ _ _ _ _ _ _ _) fz)) }
    · refine bg_flow hl hn hva M (!Br.isEmpty) rfl 1 (by decide) rfl 0 x [] 0 0 ?_ w hr vs (hv _ _ _ _)
      letI V1 : Val := (bgNm G l n 0 x T Br (Fl 0) [] [] 0 0 0 0 0).val fun _ => undef
      exact { X := saneX_true, T := fa (hgtr V1 rfl) (fa (f_geq (k := .i64) (m := x) (n := 0) rfl rfl (decide_eq_true (by omega))) (fa (f_lss (k := .i64) (m := x) (n := (n : Int)) rfl rfl (decide_eq_false (by omega))) fz)), LL := fapp (bg_base hn _ _ _ _ _ _ _ _ _ _ _ _) fz, LX := fapp fz fz, C := fa (hC V1 rfl rfl) fz, IZ := fa rfl fz, U := qnU_ok _ (fapp (fa (bg_brid V1 rfl rfl rfl hl hn hva hB) (fa (bg_fold V1 rfl rfl rfl hl hn hva hT) fz)) fz) }
  · refine bg_flow hl hn hva M (!Br.isEmpty) rfl 0 (by decide) rfl 0 x [] 0 0 ?_ w hr vs (hv _ _ _ _)
    letI V1 : Val := (bgNm G l n 0 x T Br (Fl 0) [] [] 0 0 0 0 0).val fun _ => undef
    exact { X := saneX_true, T := fa (hgtr V1 rfl) (fa (f_geq (k := .i64) (m := x) (n := 0) rfl rfl (decide_eq_false (by omega))) fz), LL := fapp (bg_base hn _ _ _ _ _ _ _ _ _ _ _ _) fz, LX := fapp fz fz, C := fa (hC V1 rfl rfl) fz, IZ := fa rfl fz, U := qnU_ok _ (fapp (fa (bg_brid V1 rfl rfl rfl hl hn hva hB) (fa (bg_fold V1 rfl rfl rfl hl hn hva hT) fz)) fz) }
end
theorem brd_real (G : Int) (l : List Value) (n : Nat) (hva : validM G l n = true) : ∃ Fl Fo bi, Brd G l n (ptG l n (usP l) G.toNat) (brG l n n) Fl Fo bi := by
  have hG := ((validM_iff _ _ _).1 hva)
  have hT : ∀ i : Nat, ∃ g : Nat, i < (ptG l n (usP l) G.toNat).length → (g : Int) < G ∧ (ptG l n (usP l) G.toNat)[i]? = some (.agg (sL (clS l n (usP l) (2 ^ g))).toArray) := fun i => by
    by_cases hi : i < (ptG l n (usP l) G.toNat).length
    · have hm : (ptG l n (usP l) G.toNat)[i] ∈ ptG l n (usP l) G.toNat := List.getElem_mem hi
      obtain ⟨g, h1, _, h3⟩ := mem_gl.1 hm
      refine ⟨g, fun _ => ⟨by omega, ?_⟩⟩
      rw [List.getElem?_eq_getElem hi, List.mem_singleton.1 h3]
    · exact ⟨0, fun h => absurd h hi⟩
  obtain ⟨fg, hfg⟩ := Classical.axiomOfChoice hT
  have hbr : ∀ k, k < (brG l n n).length → ∃ i : Nat, i < n ∧ (brG l n n).getD k undef = .int .i64 (i : Int) := fun k hk => by
    have hm : (brG l n n).getD k undef ∈ brG l n n := by
      rw [List.getD_eq_getElem?_getD, List.getElem?_eq_getElem hk]
      exact List.getElem_mem _
    exact (gl_og n).1 _ hm
  refine ⟨fun i => sL (clS l n (usP l) (2 ^ fg i)), fun i => clS l n (usP l) (2 ^ fg i), fun k => (intOf ((brG l n n).getD k undef)).toNat, fun i hi => (hfg i hi).2, ?_, fun _ => rfl, fun i hi => ⟨fg i, (hfg i hi).1, rfl⟩, ?_, fun k hk => ?_, fun i hi hb => ?_⟩
  · have := ptG_len l n (usP l) G.toNat
    omega
  · have : (brG l n n).length ≤ 1 * n := gl_len ogC_len n
    omega
  · obtain ⟨i, hi, e⟩ := hbr k hk
    rw [e]
    exact ⟨rfl, hi⟩
  · have hm : Value.int .i64 (i : Int) ∈ brG l n n := mem_gl.2 ⟨i, hi, hb, List.mem_singleton.2 rfl⟩
    obtain ⟨k, hk, e⟩ := List.mem_iff_getElem.1 hm
    refine ⟨k, hk, ?_⟩
    show (intOf ((brG l n n).getD k undef)).toNat = i
    rw [List.getD_eq_getElem?_getD, List.getElem?_eq_getElem hk, e]
    rfl
theorem bridged_all (G : Int) (l : List Value) (n : Nat) (x : Int) (hl : ints l) (hn : l.length = n * 4) (w : World) (hr : RoIn ro w) (vs : List Value) (hv : All2 (@Go.Ri.NVal ((bg0Nm G l n x).val fun _ => undef) w) bgD vs) : Calls Tryz.prog fBridged vs.toArray w (fun e w' => e = .returned (.bool true) ∧ Below w.heap.size w w') := by
  let V1 : Val := (bg0Nm G l n x).val fun _ => undef
  by_cases hn200 : (n : Int) > 200
  · have ht : @TbOK V1 bgBig := by
      letI : Val := V1
      exact { X := saneX_true, T := fa (f_gtr (k := .i64) (m := (n : Int)) (n := 200) rfl rfl (decide_eq_true hn200)) fz, LL := fa ⟨rfl, n, Nat.succ_pos 3, hn, rfl⟩ fz }
    exact done_flat _ ht bg_big rfl rfl rfl w hr vs hv
  · cases hva : validM G l n with
    | false =>
      have hC : @AnsN V1 fCheck [fellR] (.int .i64 (errM G l n)) := check_ans _ rfl rfl hl hn
      rw [show errM G l n = 40 by unfold errM; rw [hva]; rfl] at hC
      have ht : @TbOK V1 bgIn := by
        letI : Val := V1
        exact { X := saneX_true, T := fa (f_gtr (k := .i64) (m := (n : Int)) (n := 200) rfl rfl (decide_eq_false hn200)) fz, LL := fa ⟨rfl, n, Nat.succ_pos 3, hn, rfl⟩ fz, C := fa hC fz }
      exact done_flat _ ht bg_inv rfl rfl rfl w hr vs hv
    | true =>
      obtain ⟨Fl, Fo, bi, M⟩ := brd_real G l n hva
      exact bg_main hl hn hva hn200 x M rfl rfl w hr vs hv
end Go.Proofs.Z
