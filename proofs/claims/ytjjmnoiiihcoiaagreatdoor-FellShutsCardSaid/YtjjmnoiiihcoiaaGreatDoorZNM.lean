/- A part of the proofs that the laws of layer four answer true for every input. -/
import Derived.Test.YtjjmnoiiihcoiaaGreatDoorZNI
import Derived.Test.YtjjmnoiiihcoiaaGreatDoorZLG
import Derived.Test.YtjjmnoiiihcoiaaGreatDoorZLD
namespace Go.Proofs.Z
open Go Go.RowKit Go.Proofs Go.Ri Go.Proofs.Z.Fa
/-! Shut: runs. 17 how many lanes, 2 the gate, 7 the next one, 18 how many without, 19 how many there have to be; 200 and on: the gates so far. -/
abbrev fShut : Nat := 54
noncomputable def shE : Tb := { LL := hLL, C := [⟨fEnds, mlD, lI 0⟩, ⟨fMost, mlD, mlR2⟩] }
def shQ (k : Nat) : RV := if k = 0 then nilR else .sl 2 0 k 1 none
noncomputable def shP' (k : Nat) : St := ⟨patW [(1, sI 20), (2, sI 21), (3, .ptr 1 0), (8, lI 0), (10, sI 17), (11, shQ k), (31, .slA 0 0 4), (32, sI 1), (33, sI 2)] 59 0, [some (.lstA 0), some (.cells [sI 0, .slA 0 0 4] tFell false false)] ++ if k = 0 then [] else [some (.cells (rangeR 200 k) tInt true false)]⟩
def idR200 : Nat → List SE
  | 0 => []
  | k + 1 => idR200 k ++ [.int (200 + k) (sI (200 + k))]
def shS (i : RV) : List SE := [.int 0 (sI 0), .int 1 (sI 1), .int 2 i, .int 17 (sI 17), .int 20 (sI 20), .int 21 (sI 21), .lst 0 0]
set_option maxRecDepth 100000 in
theorem sh_enter : atH (entN shE [] fShut mlD) fShut 0 (shS (lI 0)) [0, 1] (shP' 0) = true := by kernel_rfl
noncomputable def mlR3 : RV := .tup [.agg (rangeR 300 32), sI 18]
def woD2 : List RV := [.agg [sI 0, .slN 0 41 4], sI 20, sI 21]
noncomputable def shTb (k : Nat) (q : Bool) : Tb := { T := hT true ++ [⟨.bin .sub, sI 17, lI (k + 1 : Nat), sI 19⟩, ⟨.ieq, sI 18, sI 19, bR q⟩], LL := hLL ++ [⟨41, 4, sI 1⟩], C := [⟨fMost, woD2, mlR3⟩], U := qdU [(40, rangeR 200 k ++ [sI 2])] [⟨fWout, [fellR, .slN 0 40 1], woR, [some (.lst 41 tGate true)]⟩] }
set_option maxRecDepth 100000 in
theorem sh_pick : (allU 32 fun k => atH (fromH (shTb k true) [] fShut 0 (shP' k)) fShut 0 (.int (200 + k) (sI 2) :: (idR200 k ++ shS (sI 7))) [0, 1, if k = 0 then 3 else 4] (shP' (k + 1))) = true := by kernel_rfl
set_option maxRecDepth 100000 in
theorem sh_keep : (allU 32 fun k => atH (fromH (shTb k false) [] fShut 0 (shP' k)) fShut 0 (idR200 k ++ shS (sI 7)) ([0, 1] ++ if k = 0 then [] else [2]) (shP' k)) = true := by kernel_rfl
def shAns (c : Bool) : RV × RH := if c then (.tup [.slN 0 80 1, lI 0], [some (.lst 80 tInt true)]) else (tupN 0, [])
noncomputable def shEd : Tb := { T := hT false, LL := hLL }
set_option maxRecDepth 100000 in
theorem sh_out : (allU 33 fun k => endQ shEd fShut (fromH shEd [] fShut 0 (shP' k)) (if k = 0 then [] else [.new 80 (rangeR 200 k)]) (if k = 0 then [] else [2]) (shAns (!(Nat.beq k 0))).1 (shAns (!(Nat.beq k 0))).2) = true := by kernel_rfl
set_option maxRecDepth 100000 in
theorem sh_err : (all2 fun v => doneQ { LL := hLL, C := [⟨fEnds, mlD, if v then lI 1 else lI 40⟩] } [] fShut mlD [] [] (if v then tupN 1 else tupN 40) []) = true := by kernel_rfl
/-! The fell without some gates. -/
def wiL (l : List Value) (L : List Nat) : List Value := wiF l (intsL L) L.length
section
variable {G : Int} {l : List Value} {n a b : Nat}
theorem intsL_get {L : List Nat} {k : Nat} (h : k < L.length) : (intsL L).getD k undef = .int .i64 (L.getD k 0 : Nat) := by
  unfold intsL
  rw [List.getD_eq_getElem?_getD, List.getElem?_map, List.getD_eq_getElem?_getD, List.getElem?_eq_getElem h]
  rfl
theorem wiX_L {L : List Nat} {k : Nat} (h : k < L.length) : wiX (intsL L) k = L.getD k 0 := by
  unfold wiX
  rw [intsL_get h]
  show ((L.getD k 0 : Nat) : Int).toNat = _
  exact Int.toNat_natCast _
theorem contains_snoc (X : List Nat) (y j : Nat) : (X ++ [y]).contains j = (X.contains j || decide (j = y)) := by
  rw [List.contains_eq_mem, List.contains_eq_mem, ← Bool.decide_or]
  exact decide_eq_decide.2 (by rw [List.mem_append, List.mem_singleton])
theorem wiF_all (hl : l.length = n * 4) {L : List Nat} (hL : ∀ x, x ∈ L → x < n) (hva : validM G l n = true) : ∀ k, k ≤ L.length → (∀ j, gA' (wiF l (intsL L) k) j = gA' l j) ∧ (∀ j, gB' (wiF l (intsL L) k) j = gB' l j) ∧ (∀ j, usP (wiF l (intsL L) k) j = (usP l j && !(L.take k).contains j)) ∧ validM G (wiF l (intsL L) k) n = true
  | 0, _ => ⟨fun _ => rfl, fun _ => rfl, fun j => by simp [wiF], hva⟩
  | k + 1, hk => by
    obtain ⟨h1, h2, h3, h4⟩ := wiF_all hl hL hva k (by omega)
    have hlen : (wiF l (intsL L) k).length = n * 4 := by rw [wiF_len]; exact hl
    have hkl : k < L.length := by omega
    have hx := wiX_L hkl
    have hg : L.getD k 0 = L[k] := by rw [List.getD_eq_getElem?_getD, List.getElem?_eq_getElem hkl]; rfl
    have hlt : wiX (intsL L) k < n := by
      rw [hx, hg]
      exact hL _ (List.getElem_mem hkl)
    refine ⟨fun j => ?_, fun j => ?_, fun j => ?_, ?_⟩
    · show gA' (wiS (wiF l (intsL L) k) (wiX (intsL L) k)) j = _
      rw [wiS_gA, h1]
    · show gB' (wiS (wiF l (intsL L) k) (wiX (intsL L) k)) j = _
      rw [wiS_gB, h2]
    · show usP (wiS (wiF l (intsL L) k) (wiX (intsL L) k)) j = _
      rw [wiS_us hlen hlt, h3, hx, hg, List.take_succ_eq_append_getElem hkl]
      rw [contains_snoc, Bool.not_or, ← Bool.and_assoc]
    · exact wiS_valid h4 hlen hlt
theorem wiL_us (hl : l.length = n * 4) {L : List Nat} (hL : ∀ x, x ∈ L → x < n) (hva : validM G l n = true) : gA' (wiL l L) = gA' l ∧ gB' (wiL l L) = gB' l ∧ (∀ j, usP (wiL l L) j = (usP l j && !L.contains j)) ∧ validM G (wiL l L) n = true := by
  obtain ⟨h1, h2, h3, h4⟩ := wiF_all hl hL hva L.length (Nat.le_refl _)
  refine ⟨funext h1, funext h2, fun j => ?_, h4⟩
  have := h3 j
  rw [List.take_length] at this
  exact this
/-- The gates that Shut takes, of the first i. -/
noncomputable def shL (l : List Value) (n a b : Nat) : Nat → List Nat
  | 0 => []
  | i + 1 => if mlK (wiL l (shL l n a b i ++ [i])) n a b + ((shL l n a b i).length + 1) = mlK l n a b then shL l n a b i ++ [i] else shL l n a b i
theorem shL_lt (l : List Value) (n a b : Nat) : ∀ i x, x ∈ shL l n a b i → x < i
  | 0, x, h => by cases h
  | i + 1, x, h => by
    unfold shL at h
    split at h
    · rcases List.mem_append.1 h with h | h
      · have := shL_lt l n a b i x h
        omega
      · have := List.mem_singleton.1 h
        omega
    · have := shL_lt l n a b i x h
      omega
theorem shL_len (l : List Value) (n a b : Nat) : ∀ i, (shL l n a b i).length ≤ i
  | 0 => Nat.le_refl _
  | i + 1 => by
    have := shL_len l n a b i
    unfold shL
    split
    · rw [List.length_append]
      show _ + 1 ≤ _
      omega
    · omega
theorem ivl_intsL : ∀ L : List Nat, ivl (fun j => (L.getD j 0 : Int)) L.length = intsL L := by
  intro L
  apply List.ext_getElem?
  intro j
  unfold intsL
  rw [List.getElem?_map]
  by_cases h : j < L.length
  · rw [ivl_get _ _ _ h, List.getElem?_eq_getElem h, List.getD_eq_getElem?_getD, List.getElem?_eq_getElem h]
    rfl
  · rw [List.getElem?_eq_none (by rw [ivl_len]; omega), List.getElem?_eq_none (by omega)]
    rfl
def shI (a b K left k : Nat) (L : List Nat) (t t' : Nat → Int) (j : Nat) : Int := if j = 17 then (K : Int) else if j = 18 then (left : Int) else if j = 19 then (K : Int) - ((k + 1 : Nat) : Int) else if j = 20 then (a : Int) else if j = 21 then (b : Int) else if 200 ≤ j ∧ j < 300 then (L.getD (j - 200) 0 : Nat) else if 300 ≤ j ∧ j < 332 then t' (j - 300) else if 100 ≤ j ∧ j < 132 then t (j - 100) else 0
def shLs (l : List Value) (L : List Nat) (i j : Nat) : List Value := if j = 40 then intsL (L ++ [i]) else wiL l (L ++ [i])
noncomputable def shNm (G : Int) (l : List Value) (n a b i : Nat) (L : List Nat) : Nm := gnm G l n i (shI a b (mlK l n a b) (mlK (wiL l (L ++ [i])) n a b) L.length L (mlT l n a b) (mlT (wiL l (L ++ [i])) n a b)) ny (shLs l L i)
theorem rangeR_sh (G : Int) (l : List Value) (n a b i : Nat) (L : List Nat) (W : Nat → Value) (k0 m : Nat) (f : Nat → Int) (hk : 8 ≤ k0) (h : ∀ j, j < m → shI a b (mlK l n a b) (mlK (wiL l (L ++ [i])) n a b) L.length L (mlT l n a b) (mlT (wiL l (L ++ [i])) n a b) (k0 + j) = f j) : (rangeR k0 m).map (@cv ((shNm G l n a b i L).val W)) = ivl f m := by
  letI : Val := (shNm G l n a b i L).val W
  rw [rangeR_cv k0 m]
  refine ivl_congr m fun j hj => ?_
  rw [← h j hj]
  show (gnm G l n i _ ny (shLs l L i)).I (k0 + j) = _
  unfold gnm
  simp only
  rw [if_neg (by omega), if_neg (by omega), if_neg (by omega), if_neg (by omega), if_neg (by omega), if_neg (by omega), if_neg (by omega), if_neg (by omega)]
theorem shI_200 {K left k : Nat} {L : List Nat} {t t' : Nat → Int} {j : Nat} (h : j < 100) : shI a b K left k L t t' (200 + j) = (L.getD j 0 : Nat) := by
  unfold shI
  rw [if_neg (by omega), if_neg (by omega), if_neg (by omega), if_neg (by omega), if_neg (by omega), if_pos (by omega), show 200 + j - 200 = j by omega]
theorem shI_300 {K left k : Nat} {L : List Nat} {t t' : Nat → Int} {j : Nat} (h : j < 32) : shI a b K left k L t t' (300 + j) = t' j := by
  unfold shI
  rw [if_neg (by omega), if_neg (by omega), if_neg (by omega), if_neg (by omega), if_neg (by omega), if_neg (by omega), if_pos (by omega), show 300 + j - 300 = j by omega]
theorem shI_100 {K left k : Nat} {L : List Nat} {t t' : Nat → Int} {j : Nat} (h : j < 32) : shI a b K left k L t t' (100 + j) = t j := by
  unfold shI
  rw [if_neg (by omega), if_neg (by omega), if_neg (by omega), if_neg (by omega), if_neg (by omega), if_neg (by omega), if_neg (by omega), if_pos (by omega), show 100 + j - 100 = j by omega]
theorem sh_ids {V V' : Val} (G n K a b : Int) (l : List Value) (i : RV) (mi : Int) (hi : @cv V i = .int .i64 mi) (h2 : V'.I 2 = mi) (g0 : V.I 0 = G) (g1 : V.I 1 = n) (g2 : V.I 20 = a) (g3 : V.I 21 = b) (g4 : V.L 0 = l) (g5 : V.I 17 = K) (h0 : V'.I 0 = G) (h1 : V'.I 1 = n) (h20 : V'.I 20 = a) (h21 : V'.I 21 = b) (hl : V'.L 0 = l) (h17 : V'.I 17 = K) : ∀ e, e ∈ shS i → okSE V V' e :=
  fa ⟨.i64, G, congrArg _ g0, h0⟩ (fa ⟨.i64, n, congrArg _ g1, h1⟩ (fa ⟨.i64, mi, hi, h2⟩ (fa ⟨.i64, K, congrArg _ g5, h17⟩ (fa ⟨.i64, a, congrArg _ g2, h20⟩ (fa ⟨.i64, b, congrArg _ g3, h21⟩ (fa (okLs l hl g4) fz))))))
theorem id200_ok {V V' : Val} (f : Nat → Int) : ∀ k, (∀ j, j < k → V.I (200 + j) = f j) → (∀ j, j < k → V'.I (200 + j) = f j) → ∀ e, e ∈ idR200 k → okSE V V' e
  | 0, _, _ => fz
  | k + 1, h, h' => fapp (id200_ok f k (fun j hj => h j (by omega)) (fun j hj => h' j (by omega))) (fa ⟨.i64, f k, congrArg _ (h k (by omega)), h' k (by omega)⟩ fz)
theorem ans_41 {V V' : Val} {f : FuncId} {v : Value} (h : @AnsN V' f mlD v) (h0 : V.I 0 = V'.I 0) (hL : V.L 41 = V'.L 0) (h20 : V.I 20 = V'.I 20) (h21 : V.I 21 = V'.I 21) : @AnsN V f woD2 v := fun w hr vs hv => h w hr vs (by
  cases hv with
  | cons a1 a2 => cases a2 with
    | cons a2 a3 => cases a3 with
      | cons a3 a4 =>
        cases a4
        refine .cons (fell_nvalG (V := V) (V' := V') (i := 41) (j := 0) h0 hL a1) (.cons ?_ (.cons ?_ .nil))
        · have := @flat_of_nval V w (sI 20) _ rfl a2
          rw [this]
          show @Go.Ri.NVal V' w (sI 20) (.int .i64 (V.I 20))
          rw [h20]
          exact @nval_of_flat V' w (sI 20) rfl
        · have := @flat_of_nval V w (sI 21) _ rfl a3
          rw [this]
          show @Go.Ri.NVal V' w (sI 21) (.int .i64 (V.I 21))
          rw [h21]
          exact @nval_of_flat V' w (sI 21) rfl)
end
end Go.Proofs.Z

namespace Go.Proofs.Z
open Go Go.RowKit Go.Proofs Go.Ri Go.Proofs.Z.Fa
/-! Shut: contract. -/
section
variable {G : Int} {l : List Value} {n a b : Nat}
theorem intsL_ints (L : List Nat) : ints (intsL L) := fun v hv => by
  obtain ⟨q, _, rfl⟩ := List.mem_map.1 hv
  exact ⟨_, rfl⟩
theorem intsL_len (L : List Nat) : (intsL L).length = L.length := List.length_map _
set_option maxRecDepth 10000 in
theorem shut_q (V : Val) (hG : V.I 0 = G) (hL : V.L 0 = l) (hl : ints l) (hn : l.length = n * 4) (hva : validM G l n = true) (haG : (a : Int) < G) (hbG : (b : Int) < G) (hab : a ≠ b) {x y : RV} (fx : flat x = true) (fy : flat y = true) (hx : @cvF V x = .int .i64 (a : Int)) (hy : @cvF V y = .int .i64 (b : Int)) (h80 : V.L 80 = intsL (shL l n a b n)) : @QNTrue V ⟨fShut, [fellR, x, y], (shAns (!(Nat.beq (shL l n a b n).length 0))).1, (shAns (!(Nat.beq (shL l n a b n).length 0))).2⟩ := by
  intro w hr vs hv
  have hG16 : G ≤ 16 := ((validM_iff _ _ _).1 hva).2.1
  have hb32 : n ≤ 32 := ((validM_iff _ _ _).1 hva).2.2.1
  have ha : a < 16 := by omega
  have hb : b < 16 := by omega
  have hK := mlK_le (n := n) hva ha hb hab
  let V1 : Val := (shNm G l n a b 0 []).val fun _ => undef
  have hv : All2 (@Go.Ri.NVal V1 w) mlD vs := ml_args (V := V) (V1 := V1) hG hL fx fy hx hy rfl rfl rfl rfl hv
  have hLL : ∀ i L W, ∀ e, e ∈ hLL → @LLTrue ((shNm G l n a b i L).val W) e := fun i L W => fa ⟨rfl, n, Nat.succ_pos 3, hn, rfl⟩ fz
  have he := ends_ans (G := G) (l := l) (n := n) (a := (a : Int)) (b := (b : Int)) V1 rfl rfl hl hn (x := sI 20) (y := sI 21) rfl rfl rfl rfl
  rw [show ceM G l n (a : Int) (b : Int) = 0 by unfold ceM; rw [hva, if_pos rfl, if_pos (by omega)]] at he
  have htE : @TbOK V1 shE := by
    letI : Val := V1
    refine { LL := hLL _ _ _, C := fa he (fa ?_ fz) }
    have h1 := most_ans (G := G) (l := l) (n := n) (a := a) (b := b) V1 rfl rfl hl hn hva ha hb hab (x := sI 20) (y := sI 21) rfl rfl rfl rfl
    have e : @cvF V1 mlR2 = mlV l n a b := by
      show Value.tuple #[.agg ((rangeR 100 32).map (@cv ((shNm G l n a b 0 []).val _))).toArray, _] = _
      rw [rangeR_sh G l n a b 0 [] _ 100 32 (mlT l n a b) (by omega) (fun j hj => shI_100 hj)]
      rfl
    rw [← e] at h1
    exact h1
  refine fn_headsN (κ := Nat) (shNm G l n a b 0 []) (fun _ => undef) shE [] fShut mlD (fun _ => 0) shP' (fun m k c => ∃ i, i ≤ n ∧ m = n - i ∧ k = (shL l n a b i).length ∧ c = shNm G l n a b i (shL l n a b i)) htE (shS (lI 0)) [0, 1] 0 n sh_enter (shNm G l n a b 0 []) (fun W' => holds_all (sh_ids G n (mlK l n a b : Nat) a b l (lI 0) 0 rfl rfl rfl rfl rfl rfl rfl rfl rfl rfl rfl rfl rfl rfl)) ⟨0, Nat.zero_le _, rfl, rfl, rfl⟩ (DQ V (shAns (!(Nat.beq (shL l n a b n).length 0))).1 (shAns (!(Nat.beq (shL l n a b n).length 0))).2) ?_ w hr vs hv
  rintro w m k c ⟨i, hi, rfl, rfl, rfl⟩ W
  have hlen := shL_len l n a b i
  have hlt0 := shL_lt l n a b i
  rcases Nat.lt_or_ge i n with hlt | hge
  · obtain ⟨L, hLd⟩ : ∃ L, L = shL l n a b i := ⟨_, rfl⟩
    have hnext : shL l n a b (i + 1) = if mlK (wiL l (shL l n a b i ++ [i])) n a b + ((shL l n a b i).length + 1) = mlK l n a b then shL l n a b i ++ [i] else shL l n a b i := rfl
    rw [← hLd] at hlen hlt0 hnext ⊢
    have hL2 : ∀ x, x ∈ L ++ [i] → x < n := fun x hx => by
      rcases List.mem_append.1 hx with hx | hx
      · have := hlt0 x hx
        omega
      · rw [List.mem_singleton.1 hx]
        exact hlt
    obtain ⟨u1, u2, u3, u4⟩ := wiL_us (G := G) hn hL2 hva
    have hl2 : ints (wiL l (L ++ [i])) := wiF_ints hl _
    have hn2 : (wiL l (L ++ [i])).length = n * 4 := by unfold wiL; rw [wiF_len]; exact hn
    have ht : ∀ q, decide (mlK (wiL l (L ++ [i])) n a b + (L.length + 1) = mlK l n a b) = q → @TbOK ((shNm G l n a b i L).val W) (shTb L.length q) := fun q hq => by
      letI V2 : Val := (shNm G l n a b i L).val W
      refine { T := fapp (hT_ok _ _ _ (show i ≤ 1000000000 by omega) W (decide_eq_true hlt)) (fa (f_sub (m := (mlK l n a b : Int)) (n := ((L.length + 1 : Nat) : Int)) (r := (mlK l n a b : Int) - ((L.length + 1 : Nat) : Int)) rfl rfl rfl rfl rfl (by omega) (by omega)) (fa (f_ieq (k := .i64) (m := (mlK (wiL l (L ++ [i])) n a b : Int)) (n := (mlK l n a b : Int) - ((L.length + 1 : Nat) : Int)) rfl rfl (by rw [eqdec, ← hq]; exact decide_eq_decide.2 (by omega))) fz)), LL := fapp (hLL _ _ _) (fa ⟨rfl, n, Nat.succ_pos 3, hn2, rfl⟩ fz), C := fa ?_ fz, U := qdU_ok _ _ (fa ?_ fz) (fa ?_ fz) }
      · have h1 := most_ans (G := G) (l := wiL l (L ++ [i])) (n := n) (a := a) (b := b) ((ceNm G (wiL l (L ++ [i])) n a b).val W) rfl rfl hl2 hn2 u4 ha hb hab (x := sI 20) (y := sI 21) rfl rfl rfl rfl
        have e : @cvF V2 mlR3 = mlV (wiL l (L ++ [i])) n a b := by
          show Value.tuple #[.agg ((rangeR 300 32).map (@cv ((shNm G l n a b i L).val W))).toArray, _] = _
          rw [rangeR_sh G l n a b i L W 300 32 (mlT (wiL l (L ++ [i])) n a b) (by omega) (fun j hj => shI_300 hj)]
          rfl
        rw [← e] at h1
        exact ans_41 h1 rfl rfl rfl rfl
      · show intsL (L ++ [i]) = (rangeR 200 L.length ++ [sI 2]).map cv
        rw [List.map_append, rangeR_sh G l n a b i L W 200 L.length (fun j => (L.getD j 0 : Int)) (by omega) (fun j hj => shI_200 (by omega)), ivl_intsL]
        unfold intsL
        rw [List.map_append]
        rfl
      · refine without_q V2 (G := G) (l := l) (n := n) rfl rfl hl hn (by omega) (by omega) (intsL (L ++ [i])) (intsL_ints _) (L ++ [i]).length (intsL_len _) (by rw [List.length_append]; show L.length + 1 ≤ _; omega) rfl (fun k hk => ?_) rfl
        rw [intsL_get hk]
        have hk2 : (L ++ [i]).getD k 0 < n := by
          rw [List.getD_eq_getElem?_getD, List.getElem?_eq_getElem hk]
          exact hL2 _ (List.getElem_mem hk)
        show (0 : Int) ≤ (((L ++ [i]).getD k 0 : Nat) : Int) ∧ (((L ++ [i]).getD k 0 : Nat) : Int) < n
        omega
    by_cases hq : mlK (wiL l (L ++ [i])) n a b + (L.length + 1) = mlK l n a b
    · rw [if_pos hq] at hnext
      have hrun := allU_lt sh_pick L.length (by omega)
      refine stepH_to _ [] (ht true (decide_eq_true hq)) _ _ rfl (L.length + 1) (shNm G l n a b (i + 1) (L ++ [i])) hrun (fun W' => holds_all (fa ⟨.i64, (i : Int), rfl, ?_⟩ (fapp (id200_ok (fun j => (L.getD j 0 : Nat)) L.length (fun j hj => ?_) (fun j hj => ?_)) (sh_ids G n (mlK l n a b : Nat) a b l (sI 7) ((i : Int) + 1) rfl rfl rfl rfl rfl rfl rfl rfl rfl rfl rfl rfl rfl rfl)))) ⟨n - (i + 1), by omega, i + 1, hlt, rfl, ?_, ?_⟩
      · show (gnm G l n (i + 1) (shI a b _ _ _ (L ++ [i]) _ _) ny _).I (200 + L.length) = (i : Int)
        unfold gnm
        simp only
        rw [if_neg (by omega), if_neg (by omega), if_neg (by omega), if_neg (by omega), if_neg (by omega), if_neg (by omega), if_neg (by omega), if_neg (by omega), shI_200 (by omega)]
        rw [List.getD_eq_getElem?_getD, List.getElem?_append_right (Nat.le_refl _), Nat.sub_self]
        rfl
      · show (gnm G l n i (shI a b _ _ _ L _ _) ny _).I (200 + j) = _
        unfold gnm
        simp only
        rw [if_neg (by omega), if_neg (by omega), if_neg (by omega), if_neg (by omega), if_neg (by omega), if_neg (by omega), if_neg (by omega), if_neg (by omega), shI_200 (by omega)]
      · show (gnm G l n (i + 1) (shI a b _ _ _ (L ++ [i]) _ _) ny _).I (200 + j) = _
        unfold gnm
        simp only
        rw [if_neg (by omega), if_neg (by omega), if_neg (by omega), if_neg (by omega), if_neg (by omega), if_neg (by omega), if_neg (by omega), if_neg (by omega), shI_200 (by omega)]
        rw [List.getD_eq_getElem?_getD, List.getD_eq_getElem?_getD, List.getElem?_append_left hj]
      · rw [hnext, List.length_append]
        rfl
      · rw [hnext]
    · rw [if_neg hq] at hnext
      have hrun := allU_lt sh_keep L.length (by omega)
      refine stepH_to _ [] (ht false (decide_eq_false hq)) _ _ rfl L.length (shNm G l n a b (i + 1) L) hrun (fun W' => holds_all (fapp (id200_ok (fun j => (L.getD j 0 : Nat)) L.length (fun j hj => ?_) (fun j hj => ?_)) (sh_ids G n (mlK l n a b : Nat) a b l (sI 7) ((i : Int) + 1) rfl rfl rfl rfl rfl rfl rfl rfl rfl rfl rfl rfl rfl rfl))) ⟨n - (i + 1), by omega, i + 1, hlt, rfl, by rw [hnext], by rw [hnext]⟩
      · show (gnm G l n i (shI a b _ _ _ L _ _) ny _).I (200 + j) = _
        unfold gnm
        simp only
        rw [if_neg (by omega), if_neg (by omega), if_neg (by omega), if_neg (by omega), if_neg (by omega), if_neg (by omega), if_neg (by omega), if_neg (by omega), shI_200 (by omega)]
      · show (gnm G l n (i + 1) (shI a b _ _ _ L _ _) ny _).I (200 + j) = _
        unfold gnm
        simp only
        rw [if_neg (by omega), if_neg (by omega), if_neg (by omega), if_neg (by omega), if_neg (by omega), if_neg (by omega), if_neg (by omega), if_neg (by omega), shI_200 (by omega)]
  · obtain rfl : i = n := by omega
    have ht : @TbOK ((shNm G l i a b i (shL l i a b i)).val W) shEd := by
      letI V2 : Val := (shNm G l i a b i (shL l i a b i)).val W
      exact { T := hT_ok _ _ _ (by omega) W (by simp), LL := hLL _ _ _ }
    have hrun := allU_lt sh_out (shL l i a b i).length (by omega)
    refine stepH_outQ _ [] ht V _ _ _ _ hrun (by unfold shAns; split <;> rfl) (holds_all ?_)
    split
    · exact fz
    · refine fa ?_ fz
      show V.L 80 = (rangeR 200 (shL l i a b i).length).map (@cv ((shNm G l i a b i (shL l i a b i)).val W))
      rw [h80, rangeR_sh G l i a b i (shL l i a b i) W 200 _ (fun j => ((shL l i a b i).getD j 0 : Int)) (by omega) (fun j hj => shI_200 (by omega)), ivl_intsL]
theorem shut_err (V : Val) {a b : Int} (hG : V.I 0 = G) (hL : V.L 0 = l) (hl : ints l) (hn : l.length = n * 4) {e : Int} (he : ceM G l n a b = e) (v : Bool) (hev : e = if v then 1 else 40) {x y : RV} (fx : flat x = true) (fy : flat y = true) (hx : @cvF V x = .int .i64 a) (hy : @cvF V y = .int .i64 b) : @AnsN V fShut [fellR, x, y] (.tuple #[.slice none 0 0, .int .i64 e]) := by
  intro w hr vs hv
  let V1 : Val := (ceNm G l n a b).val fun _ => undef
  have hv : All2 (@Go.Ri.NVal V1 w) mlD vs := ml_args (V := V) (V1 := V1) hG hL fx fy hx hy rfl rfl rfl rfl hv
  have hE := ends_ans (G := G) (l := l) (n := n) (a := a) (b := b) V1 rfl rfl hl hn (x := sI 20) (y := sI 21) rfl rfl rfl rfl
  rw [he, hev] at hE
  have ht : @TbOK V1 { LL := hLL, C := [⟨fEnds, mlD, if v then lI 1 else lI 40⟩] } := by
    letI : Val := V1
    refine { LL := fa ⟨rfl, n, Nat.succ_pos 3, hn, rfl⟩ fz, C := fa ?_ fz }
    cases v <;> exact hE
  refine done_flat V1 ht (all2_all sh_err v) ?_ ?_ ?_ w hr vs hv
  · cases v <;> rfl
  · cases v <;> rfl
  · rw [hev]
    cases v <;> rfl
end
end Go.Proofs.Z

namespace Go.Proofs.Z
open Go Go.RowKit Go.Proofs Go.Ri Go.Proofs.Z.Fa
/-! Gates shut one by one: as many as there are lanes, and none too many. -/
section
variable {A B : Nat → Nat} {n : Nat} {u : Nat → Bool}
theorem cut_pos {S : Nat → Bool} : ∀ k, 0 < cutC A B u S k → ∃ i, i < k ∧ u i = true ∧ S (A i) ≠ S (B i)
  | 0, h => absurd h (Nat.lt_irrefl 0)
  | k + 1, h => by
    unfold cutC at h
    by_cases hc : (u k && (S (A k) != S (B k))) = true
    · simp only [Bool.and_eq_true, bne_iff_ne, ne_eq] at hc
      exact ⟨k, Nat.lt_succ_self k, hc.1, hc.2⟩
    · rw [if_neg hc] at h
      obtain ⟨i, h1, h2⟩ := cut_pos k (by omega)
      exact ⟨i, by omega, h2⟩
theorem cut_more (S : Nat → Bool) : ∀ (M L : List Nat), cutC A B (fun j => u j && !L.contains j) S n ≤ cutC A B (fun j => u j && !(L ++ M).contains j) S n + M.length
  | [], L => by rw [List.append_nil]; exact Nat.le_refl _
  | x :: M, L => by
    have h1 := cut_drop (A := A) (B := B) (fun j => u j && !L.contains j) x S n
    have h2 := cut_more S M (L ++ [x])
    have e : (fun j => (u j && !L.contains j) && decide (j ≠ x)) = fun j => u j && !(L ++ [x]).contains j := funext fun j => by
      rw [contains_snoc, Bool.not_or, ← Bool.and_assoc]
      by_cases hj : j = x
      · simp [hj]
      · simp [hj]
    rw [e] at h1
    rw [List.append_assoc] at h2
    have z : (if x < n then (if (u x && !L.contains x) && (S (A x) != S (B x)) then 1 else 0) else 0) ≤ 1 := by
      split
      · split <;> omega
      · omega
    show _ ≤ cutC A B (fun j => u j && !(L ++ ([x] ++ M)).contains j) S n + (M.length + 1)
    omega
end
section
variable {G : Int} {l : List Value} {n a b : Nat}
theorem wi_mf (hn : l.length = n * 4) (hva : validM G l n = true) (ha : a < 16) (hb : b < 16) (hab : a ≠ b) {L : List Nat} (hL : ∀ x, x ∈ L → x < n) : IsMF (gA' l) (gB' l) n (fun j => usP l j && !L.contains j) a b (mlK (wiL l L) n a b) := by
  obtain ⟨u1, u2, u3, u4⟩ := wiL_us (G := G) hn hL hva
  have hg := gate_in u4
  have h : IsMF (gA' (wiL l L)) (gB' (wiL l L)) n (usP (wiL l L)) a b (mlK (wiL l L) n a b) := (mlRes_spec (u := usP (wiL l L)) hg.1 hg.2 ha hb hab).2
  generalize mlK (wiL l L) n a b = K at h
  rw [u1, u2, funext u3] at h
  exact h
theorem sh_inv (l : List Value) (n a b : Nat) : ∀ i, mlK (wiL l (shL l n a b i)) n a b + (shL l n a b i).length = mlK l n a b
  | 0 => rfl
  | i + 1 => by
    have ih := sh_inv l n a b i
    unfold shL
    split
    · rename_i h
      rw [List.length_append]
      exact h
    · exact ih
theorem sh_pre (l : List Value) (n a b i : Nat) : ∀ d, ∃ M, shL l n a b (i + d) = shL l n a b i ++ M
  | 0 => ⟨[], (List.append_nil _).symm⟩
  | d + 1 => by
    obtain ⟨M, hM⟩ := sh_pre l n a b i d
    show ∃ M, (if mlK (wiL l (shL l n a b (i + d) ++ [i + d])) n a b + ((shL l n a b (i + d)).length + 1) = mlK l n a b then shL l n a b (i + d) ++ [i + d] else shL l n a b (i + d)) = shL l n a b i ++ M
    split
    · exact ⟨M ++ [i + d], by rw [hM, List.append_assoc]⟩
    · exact ⟨M, hM⟩
theorem sh_zero (hn : l.length = n * 4) (hva : validM G l n = true) (ha : a < 16) (hb : b < 16) (hab : a ≠ b) : mlK (wiL l (shL l n a b n)) n a b = 0 := by
  have hlt := fun i => shL_lt l n a b i
  rcases Nat.eq_zero_or_pos (mlK (wiL l (shL l n a b n)) n a b) with h0 | hpos
  · exact h0
  exfalso
  have hg := gate_in hva
  have hinv := sh_inv l n a b
  have HS := wi_mf (L := shL l n a b n) hn hva ha hb hab (hlt n)
  obtain ⟨Q, q1, q2, q3⟩ := HS.2
  obtain ⟨i, hi, hu, hx⟩ := cut_pos (A := gA' l) (B := gB' l) (S := Q) n (by rw [q3]; exact hpos)
  simp only [Bool.and_eq_true, Bool.not_eq_true'] at hu
  obtain ⟨M, hM⟩ := sh_pre l n a b i (n - i)
  rw [show i + (n - i) = n by omega] at hM
  have hLi : ∀ x, x ∈ shL l n a b i → x < n := fun x hx => by have := hlt i x hx; omega
  have hLi2 : ∀ x, x ∈ shL l n a b i ++ [i] → x < n := fun x hx => by
    rcases List.mem_append.1 hx with hx | hx
    · exact hLi x hx
    · rw [List.mem_singleton.1 hx]; exact hi
  have Hi := wi_mf (L := shL l n a b i) hn hva ha hb hab hLi
  have Hi2 := wi_mf (L := shL l n a b i ++ [i]) hn hva ha hb hab hLi2
  have c1 := cut_more (A := gA' l) (B := gB' l) (n := n) (u := usP l) Q M (shL l n a b i)
  rw [← hM] at c1
  have c2 := mf_le hg.1 ha hb Hi q1 q2
  have hnot : (shL l n a b i).contains i = false := by
    cases h : (shL l n a b i).contains i with
    | false => rfl
    | true =>
      have := hlt i i (by simpa using h)
      omega
  have c3 := cut_drop (A := gA' l) (B := gB' l) (fun j => usP l j && !(shL l n a b i).contains j) i Q n
  have e : (fun j => (usP l j && !(shL l n a b i).contains j) && decide (j ≠ i)) = fun j => usP l j && !(shL l n a b i ++ [i]).contains j := funext fun j => by
    rw [contains_snoc, Bool.not_or, ← Bool.and_assoc]
    by_cases hj : j = i
    · simp [hj]
    · simp [hj]
  rw [e, if_pos hi, if_pos (by rw [hu.1, hnot]; simpa using hx)] at c3
  have c4 := mf_le hg.1 ha hb Hi2 q1 q2
  have c5 := (mf_drop hg.1 ha hb Hi (k' := mlK (wiL l (shL l n a b i ++ [i])) n a b) (i := i) (by rw [e]; exact Hi2)).2.1
  have i1 := hinv i
  have i2 := hinv n
  have i3 : (shL l n a b n).length = (shL l n a b i).length + M.length := by rw [hM, List.length_append]
  have hpick : shL l n a b (i + 1) = shL l n a b i ++ [i] := by
    show (if _ then _ else _) = _
    rw [if_pos (by omega)]
  obtain ⟨M2, hM2⟩ := sh_pre l n a b (i + 1) (n - (i + 1))
  rw [show i + 1 + (n - (i + 1)) = n by omega, hpick] at hM2
  have : (shL l n a b n).contains i = true := by
    rw [hM2]
    simp
  rw [this] at hu
  cases hu.2
theorem sh_len (hn : l.length = n * 4) (hva : validM G l n = true) (ha : a < 16) (hb : b < 16) (hab : a ≠ b) : (shL l n a b n).length = mlK l n a b := by
  have h1 := sh_inv l n a b n
  have h2 := sh_zero (G := G) hn hva ha hb hab
  omega
/-! The lanes. -/
end
end Go.Proofs.Z
