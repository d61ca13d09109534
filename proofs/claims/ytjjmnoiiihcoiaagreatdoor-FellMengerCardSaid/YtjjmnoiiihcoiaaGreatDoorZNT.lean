/- A part of the proofs that the laws of layer four answer true for every input. -/
import Derived.Test.YtjjmnoiiihcoiaaGreatDoorZNQ
namespace Go.Proofs.Z
open Go Go.RowKit Go.Proofs Go.Ri Go.Proofs.Z.Fa
/-! The law FellMenger, where there is a lane. -/
/-- What is known of the lanes T (each Ln j), of the gates of those before (Us j), and of the shut gates S. -/
structure Men (l : List Value) (n a b K : Nat) (T : List Value) (Ln Us : Nat → List Nat) (S : List Nat) : Prop where
  get : ∀ j, j < K → T[j]? = some (.agg (intsL (Ln j)).toArray)
  tl : T.length = K
  lead : ∀ j, j < K → LeadsL (gA' l) (gB' l) n (usP l) a (Ln j) b
  ll : ∀ j, j < K → (Ln j).length ≤ n
  ne : ∀ j, j < K → 0 < (Ln j).length
  us0 : Us 0 = []
  us : ∀ j, Us (j + 1) = Us j ++ Ln j
  ul : ∀ j, j ≤ K → (Us j).length ≤ j * n
  fresh : ∀ j, j < K → ∀ k, k < (Ln j).length → (Ln j).getD k 0 ∉ Us j ++ (Ln j).take k
  sl : S.length = K
  sn : ∀ x, x ∈ S → x < n
  kn : K ≤ n
  k1 : 1 ≤ K
  no : (clS (wiL l S) n (usP (wiL l S)) (2 ^ a)).testBit b = false
  yes : ∀ i, i < K → (clS (wiL l (S.take i ++ S.drop (i + 1))) n (usP (wiL l (S.take i ++ S.drop (i + 1)))) (2 ^ a)).testBit b = true
def mnI (a b K m i k : Nat) (j : Nat) : Int := if j = 46 then (K : Int) else if j = 20 then (a : Int) else if j = 21 then (b : Int) else if j = 22 then (i : Int) else if j = 23 then (i : Int) + 1 else if j = 24 then (k : Int) else if j = 25 then (k : Int) + 1 else if j = 17 then (m : Int) else 0
def mnLs (T : List Value) (S La U U' : List Nat) (X Y : List Value) (i : Nat) (j : Nat) : List Value := if j = 72 then T else if j = 40 then intsL S else if j = 80 then intsL S else if j = 62 then intsL La else if j = 50 then intsL U else if j = 51 then intsL U' else if j = 41 then X else if j = 9 then Y else if j = 43 then intsL (S.take i) else if j = 49 then intsL (S.take i) else if j = 44 then intsL (S.drop (i + 1)) else intsL (S.take i ++ S.drop (i + 1))
def mnNm (G : Int) (l : List Value) (n a b K : Nat) (T : List Value) (S La U U' : List Nat) (X Y : List Value) (i k : Nat) : Nm := gnm G l n (La.getD k 0) (mnI a b K La.length i k) ny (mnLs T S La U U' X Y i)
theorem mn_ids {V V' : Val} (G n K a b : Int) (l T : List Value) (i : RV) (mi : Int) (hi : @cv V i = .int .i64 mi) (h22 : V'.I 22 = mi) (g0 : V.I 0 = G) (g1 : V.I 1 = n) (g46 : V.I 46 = K) (g2 : V.I 20 = a) (g3 : V.I 21 = b) (g4 : V.L 0 = l) (g5 : V.L 72 = T) (h0 : V'.I 0 = G) (h1 : V'.I 1 = n) (h46 : V'.I 46 = K) (h20 : V'.I 20 = a) (h21 : V'.I 21 = b) (hl : V'.L 0 = l) (hq : V'.L 72 = T) : ∀ e, e ∈ mnS i → okSE V V' e :=
  fa ⟨.i64, G, congrArg _ g0, h0⟩ (fa ⟨.i64, n, congrArg _ g1, h1⟩ (fa ⟨.i64, K, congrArg _ g46, h46⟩ (fa ⟨.i64, a, congrArg _ g2, h20⟩ (fa ⟨.i64, b, congrArg _ g3, h21⟩ (fa ⟨.i64, mi, hi, h22⟩ (fa (okLs l hl g4) (fa (okLs T hq g5) fz)))))))
noncomputable def mnPat (κ : Nat × Bool) : St := if κ.1 = 0 then mnP0 κ.2 else if κ.1 = 1 then mnP1 κ.2 else mnP2
def mnX (l : List Value) (R : List Nat) : List Value := wiL l R
noncomputable def mnY (l : List Value) (n a : Nat) (R : List Nat) : List Value := sL (clS (wiL l R) n (usP (wiL l R)) (2 ^ a))
noncomputable def MenP (G : Int) (l : List Value) (n a b K : Nat) (T : List Value) (Ln Us : Nat → List Nat) (S : List Nat) (m : Nat) (κ : Nat × Bool) (nm : Nm) : Prop :=
  (∃ i, i ≤ K ∧ m = K + 1 + (K - i) * (n + 2) ∧ κ = (0, !(Us i).isEmpty) ∧ nm = mnNm G l n a b K T S (Ln i) (Us i) [] (mnX l S) (mnY l n a S) i 0) ∨
  (∃ i k, i < K ∧ k ≤ (Ln i).length ∧ m = K + 1 + (K - (i + 1)) * (n + 2) + ((Ln i).length - k) + 1 ∧ κ = (1, !(Us i ++ (Ln i).take k).isEmpty) ∧ nm = mnNm G l n a b K T S (Ln i) (Us i ++ (Ln i).take k) (Us i ++ (Ln i).take k ++ [(Ln i).getD k 0]) (mnX l S) (mnY l n a S) i k) ∨
  (∃ i, i ≤ K ∧ m = K - i ∧ κ = (2, false) ∧ nm = mnNm G l n a b K T S [] [] [] (mnX l (S.take i ++ S.drop (i + 1))) (mnY l n a (S.take i ++ S.drop (i + 1))) i 0)
theorem empty_intsL {L : List Nat} : intsL L = [] ↔ L = [] := by
  cases L with
  | nil => exact ⟨fun _ => rfl, fun _ => rfl⟩
  | cons x L => exact ⟨fun h => by simp [intsL] at h, fun h => by cases h⟩
section
variable {G : Int} {l : List Value} {n a b K : Nat} {T : List Value} {Ln Us : Nat → List Nat} {S : List Nat}
theorem mnLL_ok (hn : l.length = n * 4) (M : Men l n a b K T Ln Us S) (La U U' : List Nat) (X Y : List Value) (i k : Nat) (W : Nat → Value) : ∀ e, e ∈ mnLL → @LLTrue ((mnNm G l n a b K T S La U U' X Y i k).val W) e :=
  fa ⟨rfl, n, Nat.succ_pos 3, hn, rfl⟩ (fa ⟨rfl, K, Nat.succ_pos 0, by rw [Nat.mul_one]; exact M.tl, rfl⟩ (fa ⟨rfl, K, Nat.succ_pos 0, by rw [Nat.mul_one]; exact (intsL_len S).trans M.sl, rfl⟩ (fa ⟨rfl, La.length, Nat.succ_pos 0, by rw [Nat.mul_one]; exact intsL_len La, rfl⟩ fz)))
/-- A step of a lane. -/
theorem mn_step0 (hl : ints l) (hn : l.length = n * 4) (hva : validM G l n = true) (M : Men l n a b K T Ln Us S) {D : Ending → World → Prop} {base : Nat} {w0 : World} {i : Nat} (hi : i < K) (W : Nat → Value) : StepH fMenger Prod.fst mnPat base w0 [] D (fun κ' c' => ∃ m', m' < K + 1 + (K - i) * (n + 2) ∧ MenP G l n a b K T Ln Us S m' κ' c') (0, !(Us i).isEmpty) (mnNm G l n a b K T S (Ln i) (Us i) [] (mnX l S) (mnY l n a S) i 0) W := by
  have hb32 := ((validM_iff _ _ _).1 hva).2.2.1
  have hkn := M.kn
  have hml := M.ll i hi
  have h1 := M.ne i hi
  have ht : @TbOK ((mnNm G l n a b K T S (Ln i) (Us i) [] (mnX l S) (mnY l n a S) i 0).val W) mnT0 := by
    letI V2 : Val := (mnNm G l n a b K T S (Ln i) (Us i) [] (mnX l S) (mnY l n a S) i 0).val W
    refine { T := fa (f_lss (k := .i64) (m := (i : Int)) (n := (K : Int)) rfl rfl (decide_eq_true (by omega))) (fa (f_inb (m := (i : Int)) (n := (K : Int)) rfl rfl (by omega)) (fa (f_ieq (k := .i64) (m := ((Ln i).length : Int)) (n := 0) rfl rfl (by rw [eqdec]; exact decide_eq_false (by omega))) fz)), LL := mnLL_ok hn M _ _ _ _ _ _ _ W, LNE := fa ?_ fz, C := fa ?_ fz }
    · exact lds_ans V2 (G := G) (l := l) (n := n) rfl rfl hl hn hva rfl rfl (L := Ln i) rfl hml (M.lead i hi)
    · show T[((i : Int)).toNat]? = some (.agg (intsL (Ln i)).toArray)
      rw [Int.toNat_natCast]
      exact M.get i hi
  have hK : (K - i) * (n + 2) = (K - (i + 1)) * (n + 2) + (n + 2) := by
    rw [← Nat.succ_mul]
    congr 1
    omega
  refine stepH_to mnT0 [] ht (.int 24 (lI 0) :: .int 17 (sI 17) :: .lst 40 40 :: .lst 62 62 :: (mnU (!(Us i).isEmpty) 50 ++ mnS (sI 22))) (mnR (!(Us i).isEmpty)) rfl (1, !(Us i ++ (Ln i).take 0).isEmpty) (mnNm G l n a b K T S (Ln i) (Us i ++ (Ln i).take 0) (Us i ++ (Ln i).take 0 ++ [(Ln i).getD 0 0]) (mnX l S) (mnY l n a S) i 0) ?_ (fun W' => holds_all (fa ⟨.i64, 0, rfl, rfl⟩ (fa ⟨.i64, ((Ln i).length : Int), rfl, rfl⟩ (fa (okLs (intsL S) rfl rfl) (fa (okLs (intsL (Ln i)) rfl rfl) (fapp ?_ (mn_ids G n K a b l T (sI 22) (i : Int) rfl rfl rfl rfl rfl rfl rfl rfl rfl rfl rfl rfl rfl rfl rfl rfl))))))) ⟨_, ?_, .inr (.inl ⟨i, 0, hi, Nat.zero_le _, rfl, rfl, rfl⟩)⟩
  · rw [List.take_zero, List.append_nil]
    exact all2_all mn_01 (!(Us i).isEmpty)
  · unfold mnU
    split
    · exact fa (okLs (intsL (Us i)) (by show intsL (Us i ++ (Ln i).take 0) = _; rw [List.take_zero, List.append_nil]) rfl) fz
    · exact fz
  · rw [hK]
    omega
theorem mn_step1 (hn : l.length = n * 4) (hva : validM G l n = true) (M : Men l n a b K T Ln Us S) {D : Ending → World → Prop} {base : Nat} {w0 : World} {i k : Nat} (hi : i < K) (hk : k < (Ln i).length) {U : List Nat} (hU : U = Us i ++ (Ln i).take k) (W : Nat → Value) : StepH fMenger Prod.fst mnPat base w0 [] D (fun κ' c' => ∃ m', m' < K + 1 + (K - (i + 1)) * (n + 2) + ((Ln i).length - k) + 1 ∧ MenP G l n a b K T Ln Us S m' κ' c') (1, !U.isEmpty) (mnNm G l n a b K T S (Ln i) U (U ++ [(Ln i).getD k 0]) (mnX l S) (mnY l n a S) i k) W := by
  have hb32 := ((validM_iff _ _ _).1 hva).2.2.1
  have hkn := M.kn
  have hml := M.ll i hi
  have hul : U.length ≤ 10000 := by
    have h1 := M.ul i (by omega)
    have h2 : i * n ≤ 32 * 32 := Nat.mul_le_mul (by omega) (by omega)
    rw [hU, List.length_append, List.length_take]
    omega
  have hfr := M.fresh i hi k hk
  rw [← hU] at hfr
  have hnx : Us i ++ (Ln i).take (k + 1) = U ++ [(Ln i).getD k 0] := by
    rw [hU, List.append_assoc, List.getD_eq_getElem?_getD, List.getElem?_eq_getElem hk, List.take_add_one, List.getElem?_eq_getElem hk]
    rfl
  have ht : ∀ c, c = !U.isEmpty → @TbOK ((mnNm G l n a b K T S (Ln i) U (U ++ [(Ln i).getD k 0]) (mnX l S) (mnY l n a S) i k).val W) (mnT1 c) := fun c hc => by
    letI V2 : Val := (mnNm G l n a b K T S (Ln i) U (U ++ [(Ln i).getD k 0]) (mnX l S) (mnY l n a S) i k).val W
    refine { T := fa (f_lss (k := .i64) (m := (k : Int)) (n := ((Ln i).length : Int)) rfl rfl (decide_eq_true (by omega))) (fa (f_inb (m := (k : Int)) (n := ((Ln i).length : Int)) rfl rfl (by omega)) (fa (f_inb (m := (i : Int)) (n := (K : Int)) rfl rfl (by omega)) (fa (f_add1 (m := (k : Int)) rfl rfl rfl (by omega) (by omega)) fz))), LL := mnLL_ok hn M _ _ _ _ _ _ _ W, LX := fa ⟨rfl, ?_, ?_⟩ fz, LA := ?_, C := fa ?_ fz, LNE := fa ?_ fz }
    · show ((k : Int)).toNat * 1 + 1 ≤ (intsL (Ln i)).length
      rw [Int.toNat_natCast, intsL_len]
      omega
    · show ((intsL (Ln i)).drop (((k : Int)).toNat * 1)).take 1 = [.int .i64 ((Ln i).getD k 0 : Nat)]
      rw [Int.toNat_natCast, row1 k (by rw [intsL_len]; exact hk), intsL_get hk]
    · cases c with
      | false => exact fz
      | true =>
        refine fa ⟨?_, ?_, intsL_one U⟩ fz
        · show intsL (U ++ [_]) = intsL U ++ _
          unfold intsL
          rw [List.map_append]
          rfl
        · show (intsL (U ++ [_])).length ≤ _
          rw [intsL_len, List.length_append]
          show U.length + 1 ≤ _
          omega
    · exact in_used V2 (U := U) (g := (Ln i).getD k 0) (by omega) rfl rfl hfr c hc
    · show T[((i : Int)).toNat]? = some (.agg (intsL (Ln i)).toArray)
      rw [Int.toNat_natCast]
      exact M.get i hi
  refine stepH_to (mnT1 (!U.isEmpty)) [] (ht _ rfl) (.int 24 (sI 25) :: .int 17 (sI 17) :: .lst 40 40 :: .lst 62 62 :: mnV (!U.isEmpty) :: mnS (sI 22)) (if (!U.isEmpty) then [0, 1, 2, 3, 6] else [0, 1, 2, 3, 5]) rfl (1, true) (mnNm G l n a b K T S (Ln i) (Us i ++ (Ln i).take (k + 1)) (Us i ++ (Ln i).take (k + 1) ++ [(Ln i).getD (k + 1) 0]) (mnX l S) (mnY l n a S) i (k + 1)) (all2_all mn_11 (!U.isEmpty)) (fun W' => holds_all (fa ⟨.i64, (k : Int) + 1, rfl, rfl⟩ (fa ⟨.i64, ((Ln i).length : Int), rfl, rfl⟩ (fa (okLs (intsL S) rfl rfl) (fa (okLs (intsL (Ln i)) rfl rfl) (fa ?_ (mn_ids G n K a b l T (sI 22) (i : Int) rfl rfl rfl rfl rfl rfl rfl rfl rfl rfl rfl rfl rfl rfl rfl rfl))))))) ⟨_, ?_, .inr (.inl ⟨i, k + 1, hi, hk, rfl, ?_, rfl⟩)⟩
  · cases U with
    | nil =>
      show intsL (Us i ++ (Ln i).take (k + 1)) = _
      rw [hnx]
      rfl
    | cons x U => exact okLs (intsL (x :: U ++ [(Ln i).getD k 0])) (by show intsL (Us i ++ (Ln i).take (k + 1)) = _; rw [hnx]) rfl
  · omega
  · rw [hnx]
    simp
theorem mn_step10 (hn : l.length = n * 4) (hva : validM G l n = true) (M : Men l n a b K T Ln Us S) {D : Ending → World → Prop} {base : Nat} {w0 : World} {i k : Nat} (hi : i < K) (hk : k = (Ln i).length) {U U' : List Nat} (hU : U = Us (i + 1)) (W : Nat → Value) : StepH fMenger Prod.fst mnPat base w0 [] D (fun κ' c' => ∃ m', m' < K + 1 + (K - (i + 1)) * (n + 2) + ((Ln i).length - k) + 1 ∧ MenP G l n a b K T Ln Us S m' κ' c') (1, !U.isEmpty) (mnNm G l n a b K T S (Ln i) U U' (mnX l S) (mnY l n a S) i k) W := by
  have hb32 := ((validM_iff _ _ _).1 hva).2.2.1
  have hkn := M.kn
  have ht : @TbOK ((mnNm G l n a b K T S (Ln i) U U' (mnX l S) (mnY l n a S) i k).val W) mnT2 := by
    letI V2 : Val := (mnNm G l n a b K T S (Ln i) U U' (mnX l S) (mnY l n a S) i k).val W
    refine { T := fa (f_lss (k := .i64) (m := (k : Int)) (n := ((Ln i).length : Int)) rfl rfl (decide_eq_false (by omega))) (fa (f_inb (m := (i : Int)) (n := (K : Int)) rfl rfl (by omega)) (fa (f_add1 (m := (i : Int)) rfl rfl rfl (by omega) (by omega)) fz)), LL := mnLL_ok hn M _ _ _ _ _ _ _ W, LNE := fa ?_ fz }
    show T[((i : Int)).toNat]? = some (.agg (intsL (Ln i)).toArray)
    rw [Int.toNat_natCast]
    exact M.get i hi
  refine stepH_to mnT2 [] ht (.lst 40 40 :: (mnU (!U.isEmpty) 50 ++ mnS (sI 23))) (mnR (!U.isEmpty)) rfl (0, !U.isEmpty) (mnNm G l n a b K T S (Ln (i + 1)) (Us (i + 1)) [] (mnX l S) (mnY l n a S) (i + 1) 0) (all2_all mn_10 (!U.isEmpty)) (fun W' => holds_all (fa (okLs (intsL S) rfl rfl) (fapp ?_ (mn_ids G n K a b l T (sI 23) ((i : Int) + 1) rfl rfl rfl rfl rfl rfl rfl rfl rfl rfl rfl rfl rfl rfl rfl rfl)))) ⟨_, ?_, .inl ⟨i + 1, hi, rfl, by rw [hU], rfl⟩⟩
  · unfold mnU
    split
    · exact fa (okLs (intsL (Us (i + 1))) rfl (by rw [← hU]; rfl)) fz
    · exact fz
  · omega
theorem wiL_ok (hl : ints l) (hn : l.length = n * 4) (hva : validM G l n = true) {R : List Nat} (hR : ∀ x, x ∈ R → x < n) : ints (wiL l R) ∧ (wiL l R).length = n * 4 ∧ validM G (wiL l R) n = true := ⟨wiF_ints hl _, by unfold wiL; rw [wiF_len]; exact hn, (wiL_us hn hR hva).2.2.2⟩
theorem mn_step02 (hl : ints l) (hn : l.length = n * 4) (hva : validM G l n = true) (haG : (a : Int) < G) (hbG : (b : Int) < G) (M : Men l n a b K T Ln Us S) {D : Ending → World → Prop} {base : Nat} {w0 : World} {m : Nat} (hm : K < m) {La U U' : List Nat} (hU : U = Us K) (W : Nat → Value) : StepH fMenger Prod.fst mnPat base w0 [] D (fun κ' c' => ∃ m', m' < m ∧ MenP G l n a b K T Ln Us S m' κ' c') (0, !U.isEmpty) (mnNm G l n a b K T S La U U' (mnX l S) (mnY l n a S) K 0) W := by
  have hb32 := ((validM_iff _ _ _).1 hva).2.2.1
  have hG16 : G ≤ 16 := ((validM_iff _ _ _).1 hva).2.1
  have hkn := M.kn
  have hk1 := M.k1
  have hne : (!U.isEmpty) = true := by
    obtain ⟨K', rfl⟩ : ∃ K', K = K' + 1 := ⟨K - 1, by omega⟩
    have h1 := M.ne K' (by omega)
    rw [hU, M.us]
    cases h : Us K' ++ Ln K' with
    | nil =>
      have := congrArg List.length h
      rw [List.length_append, List.length_nil] at this
      omega
    | cons _ _ => rfl
  rw [hne]
  obtain ⟨o1, o2, o3⟩ := wiL_ok hl hn hva M.sn
  have ht : @TbOK ((mnNm G l n a b K T S La U U' (mnX l S) (mnY l n a S) K 0).val W) mnT3 := by
    letI V2 : Val := (mnNm G l n a b K T S La U U' (mnX l S) (mnY l n a S) K 0).val W
    refine { T := fa (f_lss (k := .i64) (m := (K : Int)) (n := (K : Int)) rfl rfl (decide_eq_false (by omega))) fz, LL := mnLL_ok hn M _ _ _ _ _ _ _ W, C := fa (in_fold V2 (b := b) rfl (by omega) (s := clS (wiL l S) n (usP (wiL l S)) (2 ^ a)) rfl M.no) fz, U := qnU_ok _ (fa (wout_j V2 40 (G := G) (l := l) (n := n) rfl rfl hl hn hva (by omega) S M.sn (by rw [M.sl]; omega) rfl rfl) (fa (ever_41 V2 (G := G) (n := n) (a := a) (X := wiL l S) rfl rfl o1 o2 o3 haG rfl rfl) fz)) }
  exact stepH_to mnT3 [] ht (.lst 40 40 :: mnS (lI 0)) [0, 1, 2, 3] rfl (2, false) (mnNm G l n a b K T S [] [] [] (mnX l (S.take 0 ++ S.drop (0 + 1))) (mnY l n a (S.take 0 ++ S.drop (0 + 1))) 0 0) mn_02 (fun W' => holds_all (fa (okLs (intsL S) rfl rfl) (mn_ids G n K a b l T (lI 0) 0 rfl rfl rfl rfl rfl rfl rfl rfl rfl rfl rfl rfl rfl rfl rfl rfl))) ⟨K - 0, by omega, .inr (.inr ⟨0, Nat.zero_le _, rfl, rfl, rfl⟩)⟩
end
end Go.Proofs.Z

namespace Go.Proofs.Z
open Go Go.RowKit Go.Proofs Go.Ri Go.Proofs.Z.Fa
/-! The law FellMenger: the shut gates one by one; all together. -/
section
variable {G : Int} {l : List Value} {n a b K : Nat} {T : List Value} {Ln Us : Nat → List Nat} {S : List Nat}
theorem mn_lb {V : Val} {o : Option Nat} {j k : Nat} {P Q : List Nat} (hj : V.L j = intsL Q) (hQ : Q ≠ []) (hk : V.L k = intsL (P ++ Q)) (hP : (match o with | none => [] | some i => V.L i) = intsL P) (hlen : (P ++ Q).length ≤ 1000000) : @LBTrue V ⟨o, j, k⟩ := by
  refine ⟨fun h => hQ (empty_intsL.1 (hj.symm.trans h)), ?_, ?_, ?_⟩
  · cases o with
    | none =>
      have hP : [] = intsL P := hP
      show V.L k = [] ++ V.L j
      rw [hj, hk, hP]
      exact List.map_append
    | some i =>
      have hP : V.L i = intsL P := hP
      show V.L k = V.L i ++ V.L j
      rw [hj, hk, hP]
      exact List.map_append
  · show (V.L k).length ≤ _
    rw [hk, intsL_len]
    exact hlen
  · show ∀ v, v ∈ V.L k → _
    rw [hk]
    exact intsL_one _
set_option maxRecDepth 10000 in
theorem mn_step22 (hl : ints l) (hn : l.length = n * 4) (hva : validM G l n = true) (haG : (a : Int) < G) (hbG : (b : Int) < G) (M : Men l n a b K T Ln Us S) {D : Ending → World → Prop} {base : Nat} {w0 : World} {i : Nat} (hi : i < K) {R : List Nat} (hR : R = S.take i ++ S.drop (i + 1)) (W : Nat → Value) : StepH fMenger Prod.fst mnPat base w0 [] D (fun κ' c' => ∃ m', m' < K - i ∧ MenP G l n a b K T Ln Us S m' κ' c') (2, false) (mnNm G l n a b K T S [] [] [] (mnX l R) (mnY l n a R) i 0) W := by
  have hb32 := ((validM_iff _ _ _).1 hva).2.2.1
  have hG16 : G ≤ 16 := ((validM_iff _ _ _).1 hva).2.1
  have hkn := M.kn
  have hk1 := M.k1
  have hsl := M.sl
  have hRn : ∀ x, x ∈ R → x < n := fun x hx => by
    rw [hR] at hx
    rcases List.mem_append.1 hx with hx | hx
    · exact M.sn x (List.mem_of_mem_take hx)
    · exact M.sn x (List.mem_of_mem_drop hx)
  have hRl : R.length ≤ 1000 := by
    rw [hR, List.length_append, List.length_take, List.length_drop]
    omega
  have hy := M.yes i hi
  rw [← hR] at hy
  obtain ⟨o1, o2, o3⟩ := wiL_ok hl hn hva hRn
  have t1 : i ≠ 0 → S.take i ≠ [] := fun h0 e => by
    have := congrArg List.length e
    rw [List.length_take, List.length_nil] at this
    omega
  have t2 : i + 1 ≠ K → S.drop (i + 1) ≠ [] := fun h0 e => by
    have := congrArg List.length e
    rw [List.length_drop, List.length_nil] at this
    omega
  have t3 : i = 0 → S.take i = [] := fun h0 => by rw [h0]; rfl
  have t4 : i + 1 = K → S.drop (i + 1) = [] := fun h0 => List.drop_eq_nil_of_le (by omega)
  have ht : ∀ p q, decide (i = 0) = p → decide (i + 1 = K) = q → @TbOK ((mnNm G l n a b K T S [] [] [] (mnX l R) (mnY l n a R) i 0).val W) (mnT4 p q) := fun p q hp hq => by
    letI V2 : Val := (mnNm G l n a b K T S [] [] [] (mnX l R) (mnY l n a R) i 0).val W
    have w45 := wout_j V2 45 (G := G) (l := l) (n := n) rfl rfl hl hn hva (by omega) R hRn (by omega) (by rw [hR]; rfl) rfl
    have hev := ever_41 V2 (G := G) (n := n) (a := a) (X := wiL l R) rfl rfl o1 o2 o3 haG rfl rfl
    have hlp : ∀ e, e ∈ ([⟨40, 1, none, some (sI 22), 43, 47⟩, ⟨40, 1, some (sI 23), none, 44, 23⟩] : List LPE) → LPTrue e := by
      refine fa ⟨K, 0, i, by rw [Nat.mul_one]; exact (intsL_len S).trans M.sl, rfl, ⟨rfl, .i64, rfl⟩, Nat.zero_le _, by omega, rfl, ?_⟩ (fa ⟨K, i + 1, K, by rw [Nat.mul_one]; exact (intsL_len S).trans M.sl, ⟨rfl, .i64, rfl⟩, rfl, by omega, Nat.le_refl _, ?_, ?_⟩ fz)
      · show intsL (S.take i) = ((intsL S).drop (0 * 1)).take ((i - 0) * 1)
        rw [Nat.zero_mul, Nat.sub_zero, Nat.mul_one, List.drop_zero]
        exact List.map_take
      · show ((i : Int) + 1).toNat = i + 1
        omega
      · show intsL (S.drop (i + 1)) = ((intsL S).drop ((i + 1) * 1)).take ((K - (i + 1)) * 1)
        rw [Nat.mul_one, Nat.mul_one, List.take_of_length_le (by rw [List.length_drop, intsL_len]; omega)]
        exact List.map_drop
    refine { T := fa (f_lss (k := .i64) (m := (i : Int)) (n := (K : Int)) rfl rfl (decide_eq_true (by omega))) (fa (f_inb (m := (i : Int)) (n := (K : Int)) rfl rfl (by omega)) (fa (f_add1 (m := (i : Int)) rfl rfl rfl (by omega) (by omega)) fz)), LL := mnLL_ok hn M _ _ _ _ _ _ _ W, C := fa (in_fold V2 (b := b) rfl (by omega) (s := clS (wiL l R) n (usP (wiL l R)) (2 ^ a)) rfl hy) fz, LP := hlp, LB := fapp ?_ ?_, LZ := fapp ?_ ?_, U := qnU_ok _ (fa ?_ (fa hev fz)) }
    · cases p with
      | true => exact fz
      | false =>
        cases q with
        | true => exact fa (mn_lb (P := []) (Q := S.take i) rfl (t1 (of_decide_eq_false hp)) (by show intsL (S.take i ++ S.drop (i + 1)) = _; rw [t4 (of_decide_eq_true hq), List.append_nil]; rfl) rfl (by rw [List.nil_append, List.length_take]; omega)) fz
        | false => exact fa (mn_lb (P := []) (Q := S.take i) rfl (t1 (of_decide_eq_false hp)) rfl rfl (by rw [List.nil_append, List.length_take]; omega)) fz
    · cases q with
      | true => exact fz
      | false =>
        cases p with
        | true => exact fa (mn_lb (P := []) (Q := S.drop (i + 1)) rfl (t2 (of_decide_eq_false hq)) (by show intsL (S.take i ++ S.drop (i + 1)) = _; rw [t3 (of_decide_eq_true hp)]) rfl (by rw [List.nil_append, List.length_drop]; omega)) fz
        | false => exact fa (mn_lb (P := S.take i) (Q := S.drop (i + 1)) rfl (t2 (of_decide_eq_false hq)) rfl rfl (by rw [← hR]; omega)) fz
    · cases p with
      | true => exact fa (by show intsL (S.take i) = []; rw [t3 (of_decide_eq_true hp)]; rfl) fz
      | false => exact fz
    · cases q with
      | true => exact fa (by show intsL (S.drop (i + 1)) = []; rw [t4 (of_decide_eq_true hq)]; rfl) fz
      | false => exact fz
    · cases p with
      | false => exact w45
      | true =>
        cases q with
        | false => exact w45
        | true => exact nil_qn2 (i := 45) (by show intsL (S.take i ++ S.drop (i + 1)) = []; rw [t3 (of_decide_eq_true hp), t4 (of_decide_eq_true hq)]; rfl) w45
  exact stepH_to (mnT4 (decide (i = 0)) (decide (i + 1 = K))) [] (ht _ _ rfl rfl) (.lst 40 40 :: mnS (sI 23)) [0, 1, 2, 3] rfl (2, false) (mnNm G l n a b K T S [] [] [] (mnX l (S.take (i + 1) ++ S.drop (i + 1 + 1))) (mnY l n a (S.take (i + 1) ++ S.drop (i + 1 + 1))) (i + 1) 0) (all2_all (all2_all mn_22 (decide (i = 0))) (decide (i + 1 = K))) (fun W' => holds_all (fa (okLs (intsL S) rfl rfl) (mn_ids G n K a b l T (sI 23) ((i : Int) + 1) rfl rfl rfl rfl rfl rfl rfl rfl rfl rfl rfl rfl rfl rfl rfl rfl))) ⟨K - (i + 1), by omega, .inr (.inr ⟨i + 1, hi, rfl, rfl, rfl⟩)⟩
theorem mn_fin (hn : l.length = n * 4) (M : Men l n a b K T Ln Us S) {w0 : World} {nx : Nat × Bool → Nm → Prop} {X Y : List Value} (W : Nat → Value) : StepH fMenger Prod.fst mnPat w0.heap.size w0 [] (DF (.bool true) w0) nx (2, false) (mnNm G l n a b K T S [] [] [] X Y K 0) W := by
  have ht : @TbOK ((mnNm G l n a b K T S [] [] [] X Y K 0).val W) mnT5 := by
    letI V2 : Val := (mnNm G l n a b K T S [] [] [] X Y K 0).val W
    exact { T := fa (f_lss (k := .i64) (m := (K : Int)) (n := (K : Int)) rfl rfl (decide_eq_false (by omega))) fz, LL := mnLL_ok hn M _ _ _ _ _ _ _ W }
  exact stepH_outF mnT5 [] ht (bR true) mn_out rfl
set_option maxRecDepth 10000 in
theorem mn_flow (hl : ints l) (hn : l.length = n * 4) (hva : validM G l n = true) (hn200 : ¬ (n : Int) > 200) (haG : (a : Int) < G) (hbG : (b : Int) < G) (M : Men l n a b K T Ln Us S)
    (hLa : ∀ V : Val, V.I 0 = G → V.L 0 = l → V.I 20 = (a : Int) → V.I 21 = (b : Int) → V.L 72 = T → @QNTrue V ⟨fLanes, mnD, (lnAns true).1, (lnAns true).2⟩)
    (hSh : ∀ V : Val, V.I 0 = G → V.L 0 = l → V.I 20 = (a : Int) → V.I 21 = (b : Int) → V.L 80 = intsL S → @QNTrue V ⟨fShut, mnD, (shAns true).1, (shAns true).2⟩)
    (w : World) (hr : RoIn ro w) (vs : List Value) (hv : All2 (@Go.Ri.NVal ((ceNm G l n a b).val fun _ => undef) w) mlD vs) : Calls Tryz.prog fMenger vs.toArray w (fun e w' => e = .returned (.bool true) ∧ Below w.heap.size w w') := by
  let V1 : Val := (mnNm G l n a b K T S (Ln 0) (Us 0) [] (mnX l S) (mnY l n a S) 0 0).val fun _ => undef
  have hv : All2 (@Go.Ri.NVal V1 w) mnD vs := ml_args (V := (ceNm G l n a b).val fun _ => undef) (V1 := V1) (G := G) (l := l) (x := sI 20) (y := sI 21) (a := (a : Int)) (b := (b : Int)) rfl rfl rfl rfl rfl rfl rfl rfl rfl rfl hv
  have ht : @TbOK V1 mnE := by
    letI : Val := V1
    exact { X := saneX_true, T := fa (f_gtr (k := .i64) (m := (n : Int)) (n := 200) rfl rfl (decide_eq_false hn200)) fz, LL := fa ⟨rfl, n, Nat.succ_pos 3, hn, rfl⟩ (fa ⟨rfl, K, Nat.succ_pos 0, by rw [Nat.mul_one]; exact M.tl, rfl⟩ (fa ⟨rfl, K, Nat.succ_pos 0, by rw [Nat.mul_one]; exact (intsL_len S).trans M.sl, rfl⟩ fz)), U := qnU_ok _ (fa (hLa V1 rfl rfl rfl rfl rfl) (fa (hSh V1 rfl rfl rfl rfl rfl) fz)) }
  refine fn_headsN (κ := Nat × Bool) (mnNm G l n a b K T S (Ln 0) (Us 0) [] (mnX l S) (mnY l n a S) 0 0) (fun _ => undef) mnE [] fMenger mnD Prod.fst mnPat (MenP G l n a b K T Ln Us S) ht (.lst 40 80 :: mnS (lI 0)) [0, 1, 2, 3] (0, false) (K + 1 + (K - 0) * (n + 2)) mn_enter (mnNm G l n a b K T S (Ln 0) (Us 0) [] (mnX l S) (mnY l n a S) 0 0) (fun W' => holds_all (fa (okLs (intsL S) rfl rfl) (mn_ids G n K a b l T (lI 0) 0 rfl rfl rfl rfl rfl rfl rfl rfl rfl rfl rfl rfl rfl rfl rfl rfl))) (.inl ⟨0, Nat.zero_le _, rfl, by rw [M.us0]; rfl, rfl⟩) (DF (.bool true)) ?_ w hr vs hv
  rintro w m κ nm (⟨i, hi, rfl, rfl, rfl⟩ | ⟨i, k, hi, hk, rfl, rfl, rfl⟩ | ⟨i, hi, rfl, rfl, rfl⟩) W
  · rcases Nat.lt_or_ge i K with hlt | hge
    · exact mn_step0 hl hn hva M hlt W
    · obtain rfl : i = K := by omega
      exact mn_step02 hl hn hva haG hbG M (by omega) rfl W
  · rcases Nat.lt_or_ge k (Ln i).length with hlt | hge
    · exact mn_step1 hn hva M hi hlt rfl W
    · exact mn_step10 hn hva M hi (by omega) (by rw [M.us, List.take_of_length_le hge]) W
  · rcases Nat.lt_or_ge i K with hlt | hge
    · exact mn_step22 hl hn hva haG hbG M hlt rfl W
    · obtain rfl : i = K := by omega
      exact mn_fin hn M W
end
end Go.Proofs.Z

namespace Go.Proofs.Z
open Go Go.RowKit Go.Proofs Go.Ri Go.Proofs.Z.Fa
/-! The law FellMenger for all fells and grazings. -/
def znm (G : Int) (l : List Value) (n a b : Nat) (Y : List Value) : Nm := ⟨fun i => if i = 0 then G else if i = 1 then (n : Int) else if i = 20 then (a : Int) else (b : Int), ny, fun _ => ⟨#[]⟩, fun i => if i = 0 then l else if i = 41 then l else if i = 9 then Y else []⟩
section
variable {G : Int} {l : List Value} {n a b : Nat}
theorem men_real (hn : l.length = n * 4) (hva : validM G l n = true) (ha : a < 16) (hb : b < 16) (hab : a ≠ b) (h1 : 1 ≤ mlK l n a b) : Men l n a b (mlK l n a b) (lanesV (lanesL l n a b)) (laneA l n a b) (usedA l n a b) (shL l n a b n) where
  get := fun j hj => by
    unfold lanesV
    rw [List.getElem?_map]
    show Option.map _ (lnL (gA' l) (gB' l) n a b (mlT l n a b) (mlK l n a b))[j]? = _
    rw [lanes_get l n a b _ j hj]
    rfl
  tl := by
    unfold lanesV
    rw [List.length_map]
    exact lnL_len _
  lead := fun j hj => (lane_spec hva ha hb hab hj).leads
  ll := fun j hj => (lane_spec hva ha hb hab hj).len
  ne := fun j hj => by
    have h := (lane_spec hva ha hb hab hj).leads
    cases hL : (tkRes (gA' l) (gB' l) n a b (lnT (gA' l) (gB' l) n a b (mlT l n a b) j)).1 with
    | nil =>
      rw [hL] at h
      have h : a = b := h
      exact absurd h hab
    | cons x L =>
      show 0 < (tkRes (gA' l) (gB' l) n a b (lnT (gA' l) (gB' l) n a b (mlT l n a b) j)).1.length
      rw [hL]
      exact Nat.succ_pos _
  us0 := rfl
  us := used_succ l n a b
  ul := used_len hva ha hb hab (mlK_le hva ha hb hab)
  fresh := fun j hj k hk => used_fresh hva ha hb hab hj hk
  sl := sh_len hn hva ha hb hab
  sn := fun x hx => shL_lt l n a b n x hx
  kn := mlK_le hva ha hb hab
  k1 := h1
  no := ev_no hn hva ha hb hab (fun x hx => shL_lt l n a b n x hx) (sh_zero hn hva ha hb hab)
  yes := fun i hi => by
    have hs := sh_len hn hva ha hb hab
    refine ev_yes hn hva ha hb hab (fun x hx => ?_) ?_
    · rcases List.mem_append.1 hx with hx | hx
      · exact shL_lt l n a b n x (List.mem_of_mem_take hx)
      · exact shL_lt l n a b n x (List.mem_of_mem_drop hx)
    · rw [List.length_append, List.length_take, List.length_drop]
      omega
theorem lanes_emp (h : mlK l n a b = 0) : lanesL l n a b = [] := by
  unfold lanesL
  rw [h]
  rfl
set_option maxRecDepth 10000 in
theorem men_zero (hl : ints l) (hn : l.length = n * 4) (hva : validM G l n = true) (hn200 : ¬ (n : Int) > 200) (haG : (a : Int) < G) (hbG : (b : Int) < G) (hab : a ≠ b) (h0 : mlK l n a b = 0) (w : World) (hr : RoIn ro w) (vs : List Value) (hv : All2 (@Go.Ri.NVal ((ceNm G l n a b).val fun _ => undef) w) mlD vs) : Calls Tryz.prog fMenger vs.toArray w (fun e w' => e = .returned (.bool true) ∧ Below w.heap.size w w') := by
  have hG16 : G ≤ 16 := ((validM_iff _ _ _).1 hva).2.1
  have hs : (clS l n (usP l) (2 ^ a)).testBit b = false := ev_no (L := []) hn hva (by omega) (by omega) hab (fun x hx => by cases hx) h0
  have hsh := sh_len (a := a) (b := b) hn hva (by omega) (by omega) hab
  rw [h0] at hsh
  have hsl := List.eq_nil_of_length_eq_zero hsh
  have hlz := lanes_emp h0
  obtain ⟨Y, hY⟩ : ∃ Y, Y = sL (clS l n (usP l) (2 ^ a)) := ⟨_, rfl⟩
  have hLa : ∀ V : Val, V.I 0 = G → V.L 0 = l → V.I 20 = (a : Int) → V.I 21 = (b : Int) → V.L 72 = [] → @QNTrue V ⟨fLanes, mnD, (lnAns false).1, (lnAns false).2⟩ := fun V e0 e1 e2 e3 e4 => by
    have h := lanes_q V (G := G) (l := l) (n := n) (a := a) (b := b) e0 e1 hl hn hva haG hbG hab (x := sI 20) (y := sI 21) rfl rfl (congrArg (Value.int .i64) e2) (congrArg (Value.int .i64) e3) (by rw [hlz]; exact e4)
    rw [hlz] at h
    exact h
  have hSh : ∀ V : Val, V.I 0 = G → V.L 0 = l → V.I 20 = (a : Int) → V.I 21 = (b : Int) → V.L 80 = [] → @QNTrue V ⟨fShut, mnD, (shAns false).1, (shAns false).2⟩ := fun V e0 e1 e2 e3 e4 => by
    have h := shut_q V (G := G) (l := l) (n := n) (a := a) (b := b) e0 e1 hl hn hva haG hbG hab (x := sI 20) (y := sI 21) rfl rfl (congrArg (Value.int .i64) e2) (congrArg (Value.int .i64) e3) (by rw [hsl]; exact e4)
    rw [hsl] at h
    exact h
  let V1 : Val := (znm G l n a b Y).val fun _ => undef
  have hv : All2 (@Go.Ri.NVal V1 w) mnD vs := ml_args (V := (ceNm G l n a b).val fun _ => undef) (V1 := V1) (G := G) (l := l) (x := sI 20) (y := sI 21) (a := (a : Int)) (b := (b : Int)) rfl rfl rfl rfl rfl rfl rfl rfl rfl rfl hv
  have hin : @AnsN V1 fIn [.slN 0 9 1, sI 21] (.bool false) := in_fold V1 (b := b) rfl (by omega) (s := clS l n (usP l) (2 ^ a)) hY hs
  have q1 := hLa V1 rfl rfl rfl rfl rfl
  have q2 := hSh V1 rfl rfl rfl rfl rfl
  rcases Nat.eq_zero_or_pos n with hz | hpos
  · subst hz
    obtain rfl : l = [] := List.eq_nil_of_length_eq_zero (by omega)
    have hC : @AnsN V1 fCheck [fellR] (.int .i64 (errM G [] 0)) := check_ans _ rfl rfl hl rfl
    rw [show errM G [] 0 = 0 by unfold errM; rw [hva]; rfl] at hC
    have hev := ever_q V1 (G := G) (l := []) (n := 0) (a := a) rfl rfl hl rfl hva haG rfl hY
    have ht : @TbOK V1 mnZ0 := by
      letI : Val := V1
      exact { X := saneX_true, LL := fa ⟨rfl, 0, Nat.succ_pos 3, rfl, rfl⟩ fz, LZ := fa rfl fz, C := fa hin (fa hC fz), U := orU_ok (ceU_ok 0 rfl) (qnU_ok _ (fa q1 (fa q2 (fa hev fz)))) }
    exact done_flat V1 ht mn_zero0 rfl rfl rfl w hr vs hv
  · have hwo := nil_qn2 (i := 45) (V := V1) rfl (wout_j V1 45 (G := G) (l := l) (n := n) rfl rfl hl hn hva (by omega) [] (fun x hx => by cases hx) (by decide) rfl rfl)
    have hev := ever_41 V1 (G := G) (n := n) (a := a) (X := l) rfl rfl hl hn hva haG rfl hY
    have ht : @TbOK V1 mnZ1 := by
      letI : Val := V1
      exact { X := saneX_true, T := fa (f_gtr (k := .i64) (m := (n : Int)) (n := 200) rfl rfl (decide_eq_false hn200)) fz, LL := fa ⟨rfl, n, Nat.succ_pos 3, hn, rfl⟩ fz, C := fa hin fz, U := qnU_ok _ (fa q1 (fa q2 (fa hwo (fa hev fz)))) }
    exact done_flat V1 ht mn_zero1 rfl rfl rfl w hr vs hv
end
theorem menger_err (G : Int) (l : List Value) (n : Nat) (a b : Int) (hl : ints l) (hn : l.length = n * 4) (hn200 : ¬ (n : Int) > 200) (e : Int) (he : ceM G l n a b = e) (v : Bool) (hev : e = if v then 1 else 40) (w : World) (hr : RoIn ro w) (vs : List Value) (hv : All2 (@Go.Ri.NVal ((ceNm G l n a b).val fun _ => undef) w) mlD vs) : Calls Tryz.prog fMenger vs.toArray w (fun e w' => e = .returned (.bool true) ∧ Below w.heap.size w w') := by
  let V1 : Val := (ceNm G l n a b).val fun _ => undef
  have h1 := lanes_err V1 (G := G) (l := l) (n := n) (a := a) (b := b) rfl rfl hl hn he v hev (x := sI 20) (y := sI 21) rfl rfl rfl rfl
  have h2 := shut_err V1 (G := G) (l := l) (n := n) (a := a) (b := b) rfl rfl hl hn he v hev (x := sI 20) (y := sI 21) rfl rfl rfl rfl
  have ht : @TbOK V1 (mnEr v) := by
    letI : Val := V1
    refine { X := saneX_true, T := fa (f_gtr (k := .i64) (m := (n : Int)) (n := 200) rfl rfl (decide_eq_false hn200)) fz, LL := fa ⟨rfl, n, Nat.succ_pos 3, hn, rfl⟩ fz, C := fa ?_ (fa ?_ fz) }
    · cases v with
      | true => subst hev; exact h1
      | false => subst hev; exact h1
    · cases v with
      | true => subst hev; exact h2
      | false => subst hev; exact h2
  exact done_flat V1 ht (all2_all mn_err v) rfl rfl rfl w hr vs hv
theorem menger_all (G : Int) (l : List Value) (n : Nat) (a b : Int) (hl : ints l) (hn : l.length = n * 4) (w : World) (hr : RoIn ro w) (vs : List Value) (hv : All2 (@Go.Ri.NVal ((ceNm G l n a b).val fun _ => undef) w) mlD vs) : Calls Tryz.prog fMenger vs.toArray w (fun e w' => e = .returned (.bool true) ∧ Below w.heap.size w w') := by
  by_cases hn200 : (n : Int) > 200
  · have ht : @TbOK ((ceNm G l n a b).val fun _ => undef) mnBig := by
      letI : Val := (ceNm G l n a b).val fun _ => undef
      exact { X := saneX_true, T := fa (f_gtr (k := .i64) (m := (n : Int)) (n := 200) rfl rfl (decide_eq_true hn200)) fz, LL := fa ⟨rfl, n, Nat.succ_pos 3, hn, rfl⟩ fz }
    exact done_flat _ ht mn_big rfl rfl rfl w hr vs hv
  · cases hva : validM G l n with
    | false => exact menger_err G l n a b hl hn hn200 40 (by unfold ceM; rw [hva]; rfl) false rfl w hr vs hv
    | true =>
      by_cases hc : 0 ≤ a ∧ a < G ∧ 0 ≤ b ∧ b < G ∧ a ≠ b
      · have hG16 : G ≤ 16 := ((validM_iff _ _ _).1 hva).2.1
        obtain ⟨a', rfl⟩ : ∃ a' : Nat, a = (a' : Int) := ⟨a.toNat, by omega⟩
        obtain ⟨b', rfl⟩ : ∃ b' : Nat, b = (b' : Int) := ⟨b.toNat, by omega⟩
        have hab : a' ≠ b' := by omega
        rcases Nat.eq_zero_or_pos (mlK l n a' b') with h0 | h1
        · exact men_zero hl hn hva hn200 hc.2.1 hc.2.2.2.1 hab h0 w hr vs hv
        · have M := men_real hn hva (by omega) (by omega) hab h1
          refine mn_flow hl hn hva hn200 hc.2.1 hc.2.2.2.1 M (fun V e0 e1 e2 e3 e4 => ?_) (fun V e0 e1 e2 e3 e4 => ?_) w hr vs hv
          · have h := lanes_q V (G := G) (l := l) (n := n) (a := a') (b := b') e0 e1 hl hn hva hc.2.1 hc.2.2.2.1 hab (x := sI 20) (y := sI 21) rfl rfl (congrArg (Value.int .i64) e2) (congrArg (Value.int .i64) e3) e4
            rwa [show (!(lanesL l n a' b').isEmpty) = true by
              cases hL : lanesL l n a' b' with
              | nil =>
                have := M.tl
                rw [hL] at this
                have : 0 = mlK l n a' b' := this
                omega
              | cons _ _ => rfl] at h
          · have h := shut_q V (G := G) (l := l) (n := n) (a := a') (b := b') e0 e1 hl hn hva hc.2.1 hc.2.2.2.1 hab (x := sI 20) (y := sI 21) rfl rfl (congrArg (Value.int .i64) e2) (congrArg (Value.int .i64) e3) e4
            rwa [show (!(Nat.beq (shL l n a' b' n).length 0)) = true by
              rw [M.sl]
              cases hK : mlK l n a' b' with
              | zero => rw [hK] at h1; cases h1
              | succ _ => rfl] at h
      · exact menger_err G l n a b hl hn hn200 1 (by unfold ceM; rw [hva, if_pos rfl, if_neg hc]) true rfl w hr vs hv
end Go.Proofs.Z
