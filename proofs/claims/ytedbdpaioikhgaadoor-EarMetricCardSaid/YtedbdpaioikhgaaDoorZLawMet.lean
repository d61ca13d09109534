/- A part of the proofs that the laws of layer one answer true for every input. -/
import Derived.Test.YtedbdpaioikhgaaDoorZMet
import Derived.Test.YtedbdpaioikhgaaDoorZIn
import Derived.Test.YtedbdpaioikhgaaDoorZNbX
import Derived.Test.YtedbdpaioikhgaaDoorZEarOf
import Derived.Test.YtedbdpaioikhgaaDoorZCodes4
import Derived.Test.YtedbdpaioikhgaaDoorZSane
namespace Go.Proofs.Z
open Go Go.RowKit Go.Proofs Go.Ri W
/-! The law EarMetric. -/
abbrev fEarMetric : Nat := 6
def badE : RV := .pl (.tuple #[earF zeroX zeroY, .int .i64 1])
def frR (b : Bool) (k : Nat) : RV := if b then .tup [earR k, lI 0] else badE
noncomputable def meFY (b1 b2 b3 : Bool) : List YE := [⟨fFromCode, [sI 150], frR b1 0⟩, ⟨fFromCode, [sI 151], frR b2 20⟩, ⟨fFromCode, [sI 152], frR b3 40⟩]
noncomputable def meDs : List RV := [sI 150, sI 151, sI 152]
set_option maxRecDepth 100000 in
theorem me_bad : (all2 fun b1 => all2 fun b2 => all2 fun b3 => match b1 && (b2 && b3) with | true => true | false => doneQ { X := saneX, Y := meFY b1 b2 b3 } [] fEarMetric meDs [] [] (bR true) []) = true := by kernel_rfl
def beqs2 (m : Nat) : List TE := (List.range (Nat.min (m + 1) 3)).map fun j => ⟨.beq, sB j, sB (20 + j), bR (Nat.blt j m)⟩
/-- What is known of two ears that differ first at m. -/
def eqEs2 (m : Nat) : List TE := if Nat.blt m 9 then eqs 0 20 9 m else eqs 0 20 9 9 ++ beqs2 (m - 9)
noncomputable def meT (m : Nat) (c : Bool) : List TE := [⟨.ieq, sI 80, sI 80, bR true⟩, ⟨.bin .lss, sI 80, lI 0, bR false⟩, ⟨.bin .gtr, sI 80, lI 12, bR false⟩, ⟨.ieq, sI 80, lI 0, bR (Nat.beq m 12)⟩, ⟨.bin .add, sI 80, sI 81, sI 83⟩, ⟨.bin .gtr, sI 82, sI 83, bR false⟩, ⟨.ieq, sI 80, lI 1, bR c⟩] ++ eqEs2 m
noncomputable def meTb (m : Nat) (c : Bool) : Tb := { X := saneX, T := meT m c, Y := meFY true true true ++ [⟨fDist, [earR 0, earR 20], .tup [sI 80, lI 0]⟩, ⟨fDist, [earR 20, earR 40], .tup [sI 81, lI 0]⟩, ⟨fDist, [earR 0, earR 40], .tup [sI 82, lI 0]⟩, ⟨fDist, [earR 20, earR 0], .tup [sI 80, lI 0]⟩], Q := [⟨fNeigh, [earR 0], .tup [.slN 0 1 12, lI 0], [some (.lst 1 25 true)]⟩], C := [⟨fIn, [.slN 0 1 12, earR 20], bR c⟩] }
noncomputable def mePat (_ : Unit) : St := ⟨patW [(7, .ptr 0 0), (21, .slN 1 1 12), (23, sI 100)] 192 0, [some (.cells nbE 25 false false), some (.lst 1 25 true)]⟩
def meIds : List SE := .lst 1 1 :: idI [0, 1, 2, 3, 4, 5, 6, 7, 8] ++ idB [0, 1, 2]
set_option maxRecDepth 100000 in
theorem me_enter : (allU 13 fun m => all2 fun c => enterT (meTb m c) [] fEarMetric meDs (.int 100 (lI 0) :: meIds) [0, 3] (mePat ())) = true := by kernel_rfl
def e120 : List RV := [sI 120, sI 121, sI 122, sI 123, sI 124, sI 125, sI 126, sI 127, sI 128, sB 120, sB 121, sB 122]
def e140 : List RV := [sI 140, sI 141, sI 142, sI 143, sI 144, sI 145, sI 146, sI 147, sI 148, sB 140, sB 141, sB 142]
noncomputable def meRd (b g : Bool) : Tb := { LL := [⟨1, 12, sI 101⟩], T := [⟨.bin .lss, sI 100, sI 101, bR b⟩, ⟨.inb, sI 100, sI 101, bR b⟩, ⟨.bin .add, sI 100, lI 1, sI 106⟩, ⟨.bin .gtr, sI 100, lI 0, bR g⟩] ++ (if b && g then [⟨.bin .sub, sI 100, lI 1, sI 107⟩, ⟨.inb, sI 107, sI 101, bR true⟩] else []), LX := (if b then [⟨1, 100, e120⟩] else []) ++ (if b && g then [⟨1, 107, e140⟩] else []), Y := (if b then [⟨fDist, [earR 0, .agg e120], .pl (.tuple #[.int .i64 1, .int .i64 0])⟩] else []) ++ (if b && g then [⟨fCompare, [.agg e140, .agg e120], lI (-1)⟩] else []), Q := if b then [⟨fNeigh, [.agg e120], .tup [.slN 0 3 12, lI 0], [some (.lst 3 25 true)]⟩] else [], C := if b then [⟨fIn, [.slN 0 3 12, earR 0], bR true⟩] else [] }
set_option maxRecDepth 100000 in
theorem me_again : (allU 13 fun m => all2 fun c => all2 fun g => againT (meRd true g) [] (hB (meTb m c) [] fEarMetric meDs) (hK (meTb m c) [] fEarMetric meDs) (mePat ()) (.int 100 (sI 106) :: meIds) [0, 1] (mePat ())) = true := by kernel_rfl
set_option maxRecDepth 100000 in
theorem me_out : (allU 13 fun m => all2 fun c => all2 fun g => outF (meRd false g) [] fEarMetric (hB (meTb m c) [] fEarMetric meDs) (hK (meTb m c) [] fEarMetric meDs) (mePat ()) (bR true)) = true := by kernel_rfl
theorem sanexT : XTrue saneX := by
  intro f vs v h
  unfold saneX at h
  split at h
  · split at h
    · rename_i hf
      cases h
      have hf := Nat.eq_of_beq_eq_true hf
      rw [hf]
      exact sane_ans
    · cases h
  · cases h
/-! The names. -/
structure MeD where
  x : Nat → Int
  y : Nat → Bool
  x2 : Nat → Int
  y2 : Nat → Bool
  x3 : Nat → Int
  y3 : Nat → Bool
  a : Int
  b : Int
  c : Int
  p : Nat
  q : Nat
  r : Nat
  ts : List (Nat → Int)
  len : Nat
  l1 : List Value
def meEl (z : MeD) (i : Nat) : Nat → Int := z.ts.getD i fun _ => 0
def meN (z : MeD) (i : Nat) (l3 : List Value) : Nm := ⟨fun j => if j < 20 then z.x j else if j < 40 then z.x2 (j - 20) else if j < 60 then z.x3 (j - 40) else if j = 80 then (z.p : Int) else if j = 81 then (z.q : Int) else if j = 82 then (z.r : Int) else if j = 83 then ((z.p + z.q : Nat) : Int) else if j = 100 then (i : Int) else if j = 101 then (z.len : Int) else if j = 106 then (i : Int) + 1 else if j = 107 then (i : Int) - 1 else if j < 140 then meEl z i (j - 120) else if j < 150 then meEl z (i - 1) (j - 140) else if j = 150 then z.a else if j = 151 then z.b else z.c,
  fun j => if j < 20 then z.y j else if j < 40 then z.y2 (j - 20) else if j < 60 then z.y3 (j - 40) else if j < 140 then bitY (meEl z i) (j - 120) else bitY (meEl z (i - 1)) (j - 140), fun _ => ⟨#[]⟩, fun j => if j = 1 then z.l1 else l3⟩
structure MeOK (z : MeD) : Prop where
  v1 : valB z.x = true
  v2 : valB z.x2 = true
  v3 : valB z.x3 = true
  f1 : Ans fFromCode [intV z.a] (.tuple #[earF z.x z.y, intV 0])
  f2 : Ans fFromCode [intV z.b] (.tuple #[earF z.x2 z.y2, intV 0])
  f3 : Ans fFromCode [intV z.c] (.tuple #[earF z.x3 z.y3, intV 0])
  p : dcn (shp z.x z.y) (shp z.x2 z.y2) 12 = z.p
  q : dcn (shp z.x2 z.y2) (shp z.x3 z.y3) 12 = z.q
  r : dcn (shp z.x z.y) (shp z.x3 z.y3) 12 = z.r
  ts : neighL z.x z.y = z.ts
  len : z.ts.length = z.len
  l1 : z.l1 = cellsN (shp z.x z.y) (nbS z.x z.y)
theorem me_ex (x x2 x3 : Nat → Int) (y y2 y3 : Nat → Bool) (a b c : Int) (v1 : valB x = true) (v2 : valB x2 = true) (v3 : valB x3 = true) (f1 : Ans fFromCode [intV a] (.tuple #[earF x y, intV 0])) (f2 : Ans fFromCode [intV b] (.tuple #[earF x2 y2, intV 0])) (f3 : Ans fFromCode [intV c] (.tuple #[earF x3 y3, intV 0])) : ∃ z, MeOK z ∧ z.a = a ∧ z.b = b ∧ z.c = c := by
  generalize h1 : dcn (shp x y) (shp x2 y2) 12 = n1
  generalize h2 : dcn (shp x2 y2) (shp x3 y3) 12 = n2
  generalize h3 : dcn (shp x y) (shp x3 y3) 12 = n3
  generalize h4 : neighL x y = ts
  generalize h5 : cellsN (shp x y) (nbS x y) = l1
  exact ⟨⟨x, y, x2, y2, x3, y3, a, b, c, n1, n2, n3, ts, ts.length, l1⟩, ⟨v1, v2, v3, f1, f2, f3, h1, h2, h3, h4, rfl, h5.symm⟩, rfl, rfl, rfl⟩
/-- Where the first two ears differ first. -/
def meM (z : MeD) : Nat := mE (shp z.x z.y) z.x2 z.y2
theorem eqEs2_true [Val] (t x : Nat → Int) (y : Nat → Bool) (hx : ∀ j, j < 9 → Val.I (20 + j) = x j) (ht : ∀ j, j < 9 → Val.I (0 + j) = t j) (hy : ∀ j, j < 3 → Val.B (20 + j) = y j) (hb : ∀ j, j < 3 → Val.B j = bitY t j) : ∀ e ∈ eqEs2 (mE t x y), TETrue e := by
  have a := eqs_true 0 20 9
  rw [fd_congr (q := pI t x) 9 0 fun j _ hj => by
    show (Val.I (0 + j) == Val.I (20 + j)) = (t j == x j)
    rw [hx j (by omega), ht j (by omega)]] at a
  have b : ∀ e ∈ beqs2 (fd (pB t y) 0 3), TETrue e := by
    intro e he
    obtain ⟨j, hj, rfl⟩ := List.mem_map.1 he
    obtain ⟨h1, h2, h3, h4⟩ := fd_spec (pB t y) 3 0
    generalize fd (pB t y) 0 3 = m at *
    have hj := List.mem_range.1 hj
    have hj1 : j < m + 1 := Nat.lt_of_lt_of_le hj (Nat.min_le_left _ _)
    have hj2 : j < 3 := Nat.lt_of_lt_of_le hj (Nat.min_le_right _ _)
    have e : Nat.blt j m = (bitY t j == y j) := by
      by_cases hlt : j < m
      · have := h1 j (Nat.zero_le _) hlt
        unfold pB at this
        rw [this]
        exact Nat.ble_eq_true_of_le hlt
      · obtain rfl : j = m := by omega
        have := h2 (by omega)
        unfold pB at this
        rw [this]
        exact blt_self j
    refine ⟨rfl, ?_⟩
    show TCTrue .beq (.bool (Val.B j)) (.bool (Val.B (20 + j))) (.bool (Nat.blt j m))
    rw [e, hy j hj2, hb j hj2]
    exact t_beq _ _
  have h9 := (fd_spec (pI t x) 9 0).2.2.2
  unfold mE eqEs2
  by_cases h : fd (pI t x) 0 9 = 9
  · rw [if_pos h, if_neg (by simp [Nat.blt_eq]), Nat.add_sub_cancel_left]
    rw [h] at a
    intro e he
    rcases List.mem_append.1 he with he | he
    · exact a e he
    · exact b e he
  · rw [if_neg h, if_pos (by simp [Nat.blt_eq]; omega)]
    exact a
section
variable {z : MeD} (Z : MeOK z)
include Z
theorem me_le : z.len ≤ 60 := by
  rw [← Z.len, ← Z.ts, List.length_map]
  exact nbS_le z.x z.y
theorem me_l1 : z.l1.length = z.len * 12 := by
  rw [Z.l1, cellsN_len, ← Z.len, ← Z.ts, List.length_map]
theorem me_rows : z.l1 = rowsC z.ts := by rw [Z.l1, ← Z.ts, cellsN_rows]
theorem me_same : Nat.beq (meM z) 12 = ((z.p : Int) == 0) := by
  have h1 : Nat.beq (meM z) 12 = eqE (shp z.x z.y) z.x2 z.y2 := rfl
  have h2 := eqE_rows (shp_bin z.x z.y) z.x2 z.y2
  have h3 := dcn_zero (shp z.x z.y) (shp z.x2 z.y2) 12
  rw [Z.p] at h3
  rw [h1, Bool.eq_iff_iff, h2, ← h3, beq_iff_eq]
  omega
theorem meTb_ok (W : Nat → Value) : @TbOK ((meN z 0 []).val W) (meTb (meM z) (decide (z.p = 1))) := by
  let V : Val := (meN z 0 []).val W
  letI : Val := V
  have hp12 : z.p ≤ 12 := by rw [← Z.p]; exact dcn_le _ _ 12
  have hq12 : z.q ≤ 12 := by rw [← Z.q]; exact dcn_le _ _ 12
  have htri : z.r ≤ z.p + z.q := by rw [← Z.p, ← Z.q, ← Z.r]; exact dcn_tri _ _ _ 12
  have hsame := me_same Z
  have hdist : ∀ x x' y y' (n : Nat) (i : Nat), valB x = true → valB x' = true → dcn (shp x y) (shp x' y') 12 = n → V.I i = n → Ans fDist [earF x y, earF x' y'] (@cvF V (.tup [sI i, lI 0])) := fun x x' y y' n i h1 h2 hn hi => by
    have := dist_ans x x' y y' (by rw [h1, h2]; rfl)
    rw [hn] at this
    rw [show @cvF V (.tup [sI i, lI 0]) = .tuple #[intV n, intV 0] by
      show Value.tuple #[.int .i64 (V.I i), .int .i64 0] = _
      rw [hi]
      rfl]
    exact this
  refine { X := sanexT, T := ?_, Y := ?_, C := ?_, Q := ?_ }
  · intro e he
    rcases List.mem_append.1 he with he | he
    · simp only [List.mem_cons, List.not_mem_nil, or_false] at he
      rcases he with rfl | rfl | rfl | rfl | rfl | rfl | rfl
      · refine te_ieq (m := (z.p : Int)) (n := (z.p : Int)) rfl rfl ?_
        simp
      · refine tc_lss (m := (z.p : Int)) (n := 0) rfl rfl ?_
        rw [decide_eq_false (by omega)]
      · refine te_gtr (m := (z.p : Int)) (n := 12) rfl rfl ?_
        rw [decide_eq_false (by omega)]
      · exact te_ieq (m := (z.p : Int)) (n := 0) rfl rfl hsame
      · exact te_add (m := (z.p : Int)) (n := (z.q : Int)) (r := ((z.p + z.q : Nat) : Int)) rfl rfl rfl rfl (by omega) (by unfold inI; omega)
      · refine te_gtr (m := (z.r : Int)) (n := ((z.p + z.q : Nat) : Int)) rfl rfl ?_
        rw [decide_eq_false (by omega)]
      · refine te_ieq (m := (z.p : Int)) (n := 1) rfl rfl ?_
        rw [Bool.eq_iff_iff, decide_eq_true_iff, beq_iff_eq]
        omega
    · refine eqEs2_true (shp z.x z.y) z.x2 z.y2 ?_ ?_ ?_ ?_ e he
      · intro j hj
        show (if 20 + j < 20 then _ else if 20 + j < 40 then z.x2 (20 + j - 20) else _) = _
        rw [if_neg (by omega), if_pos (by omega), Nat.add_sub_cancel_left]
      · intro j hj
        show (if 0 + j < 20 then z.x (0 + j) else _) = shp z.x z.y j
        rw [if_pos (by omega), Nat.zero_add]
        exact (if_pos hj).symm
      · intro j hj
        show (if 20 + j < 20 then _ else if 20 + j < 40 then z.y2 (20 + j - 20) else _) = _
        rw [if_neg (by omega), if_pos (by omega), Nat.add_sub_cancel_left]
      · intro j hj
        show (if j < 20 then z.y j else _) = bitY (shp z.x z.y) j
        rw [if_pos (by omega)]
        show z.y j = !(shp z.x z.y (9 + j) == 0)
        unfold shp
        rw [if_neg (by omega), Nat.add_sub_cancel_left]
        cases z.y j <;> rfl
  · intro e he
    rcases List.mem_append.1 he with he | he
    · simp only [meFY, List.mem_cons, List.not_mem_nil, or_false] at he
      rcases he with rfl | rfl | rfl
      · exact Z.f1
      · exact Z.f2
      · exact Z.f3
    · simp only [List.mem_cons, List.not_mem_nil, or_false] at he
      rcases he with rfl | rfl | rfl | rfl
      · exact hdist z.x z.x2 z.y z.y2 z.p 80 Z.v1 Z.v2 Z.p rfl
      · exact hdist z.x2 z.x3 z.y2 z.y3 z.q 81 Z.v2 Z.v3 Z.q rfl
      · exact hdist z.x z.x3 z.y z.y3 z.r 82 Z.v1 Z.v3 Z.r rfl
      · exact hdist z.x2 z.x z.y2 z.y z.p 80 Z.v2 Z.v1 ((dcn_symm _ _ 12).trans Z.p) rfl
  · intro e he
    obtain rfl := List.mem_singleton.1 (show e ∈ [(⟨fIn, [.slN 0 1 12, earR 20], bR (decide (z.p = 1))⟩ : YE)] from he)
    have hb : (neighL z.x z.y).length ≤ 1000000 := by
      rw [Z.ts, Z.len]
      have := me_le Z
      omega
    have := in_any (neighL z.x z.y) z.x2 z.y2 hb V 1 [sI 20, sI 21, sI 22, sI 23, sI 24, sI 25, sI 26, sI 27, sI 28, sB 20, sB 21, sB 22] (show z.l1 = _ from Z.l1.trans (cellsN_rows _ _)) rfl
    rw [any_one Z.v1 Z.v2, Z.p] at this
    exact this
  · intro e he
    obtain rfl := List.mem_singleton.1 (show e ∈ [(⟨fNeigh, [earR 0], .tup [.slN 0 1 12, lI 0], [some (.lst 1 25 true)]⟩ : QE)] from he)
    exact neigh_list z.x z.y Z.v1 V 1 (show z.l1 = _ from Z.l1)
omit Z in
theorem meIds_ok (i i' : Nat) (l l' : List Value) (W W' : Nat → Value) : ∀ e, e ∈ meIds → okSE ((meN z i l).val W) ((meN z i' l').val W') e := by
  intro e he
  simp only [meIds, idI, idB, List.map_cons, List.map_nil, List.cons_append, List.nil_append, List.mem_cons, List.not_mem_nil, or_false] at he
  rcases he with rfl | rfl | rfl | rfl | rfl | rfl | rfl | rfl | rfl | rfl | rfl | rfl | rfl
  all_goals first | exact ⟨.i64, _, rfl, rfl⟩ | exact ⟨_, rfl, rfl⟩ | rfl
/-- The cells of the neighbours of the element. -/
theorem me_row (i : Nat) (hi : i < z.len) : (z.l1.drop (i * 12)).take 12 = earC (meEl z i) := by
  have hi' : i < z.ts.length := by have := Z.len; omega
  rw [me_rows Z, rowsC_row z.ts i hi']
  unfold meEl
  rw [List.getD_eq_getElem?_getD, List.getElem?_eq_getElem hi']
  rfl
theorem me_mem (i : Nat) (hi : i < z.len) : meEl z i ∈ neighL z.x z.y := by
  have hi' : i < z.ts.length := by have := Z.len; omega
  unfold meEl
  rw [List.getD_eq_getElem?_getD, List.getElem?_eq_getElem hi', Z.ts]
  exact List.getElem_mem hi'
theorem meRd_ok (i : Nat) (hi : i ≤ z.len) (b : Bool) (hb : b = decide (i < z.len)) (l3 : List Value) (hl3 : i < z.len → l3 = cellsN (shp (meEl z i) (bitY (meEl z i))) (nbS (meEl z i) (bitY (meEl z i)))) (W1 : Nat → Value) : @TbOK ((meN z i l3).val W1) (meRd b (!(Nat.beq i 0))) := by
  let V : Val := (meN z i l3).val W1
  letI : Val := V
  have hle := me_le Z
  have hl1 := me_l1 Z
  have hg : (!(Nat.beq i 0)) = decide (0 < i) := by
    cases i with
    | zero => rfl
    | succ n => rw [decide_eq_true (Nat.succ_pos n)]; rfl
  refine { T := ?_, Y := ?_, LL := ?_, LX := ?_, C := ?_, Q := ?_ }
  · intro e he
    rcases List.mem_append.1 he with he | he
    · simp only [List.mem_cons, List.not_mem_nil, or_false] at he
      rcases he with rfl | rfl | rfl | rfl
      · refine tc_lss (m := (i : Int)) (n := (z.len : Int)) rfl rfl ?_
        rw [hb]
        simp
      · refine Go.Proofs.Z.te_inb 100 101 b ?_
        show decide (0 ≤ (i : Int) ∧ (i : Int) < (z.len : Int)) = b
        rw [hb]
        simp
      · exact te_add1 100 106 i rfl rfl (by omega) (by omega)
      · refine te_gtr (m := (i : Int)) (n := 0) rfl rfl ?_
        rw [hg]
        simp
    · split at he
      · rename_i hbg
        rw [Bool.and_eq_true, hb, hg, decide_eq_true_iff, decide_eq_true_iff] at hbg
        simp only [List.mem_cons, List.not_mem_nil, or_false] at he
        rcases he with rfl | rfl
        · exact te_sub (m := (i : Int)) (n := 1) (r := (i : Int) - 1) rfl rfl rfl rfl rfl (by unfold inI; omega)
        · refine Go.Proofs.Z.te_inb 107 101 true ?_
          show decide (0 ≤ (i : Int) - 1 ∧ (i : Int) - 1 < (z.len : Int)) = true
          rw [decide_eq_true_iff]
          omega
      · cases he
  · intro e he
    rcases List.mem_append.1 he with he | he
    · cases b with
      | false => cases he
      | true =>
        have hlt : i < z.len := by simpa using hb.symm
        obtain rfl := List.mem_singleton.1 (show e ∈ [(⟨fDist, [earR 0, .agg e120], .pl (.tuple #[.int .i64 1, .int .i64 0])⟩ : YE)] from he)
        obtain ⟨g1, g2, g3, _⟩ := nb_back Z.v1 (me_mem Z i hlt)
        have := dist_ans z.x (meEl z i) z.y (bitY (meEl z i)) (by rw [Z.v1, g1]; rfl)
        rw [g2, g3] at this
        exact this
    · split at he
      · rename_i hbg
        rw [Bool.and_eq_true, hb, hg, decide_eq_true_iff, decide_eq_true_iff] at hbg
        obtain rfl := List.mem_singleton.1 he
        have hs := nb_sorted Z.v1 (y := z.y) (i - 1) i (by omega) (by rw [Z.ts, Z.len]; exact hbg.1)
        rw [Z.ts] at hs
        have := cmp_ans (meEl z (i - 1)) (meEl z i) (bitY (meEl z (i - 1))) (bitY (meEl z i))
        rw [cmpE_lex, show W.lexI (W.rk (meEl z (i - 1))) (W.rk (meEl z i)) = -1 from hs] at this
        exact this
      · cases he
  · intro e he
    obtain rfl := List.mem_singleton.1 (show e ∈ [(⟨1, 12, sI 101⟩ : LNE)] from he)
    exact ⟨rfl, z.len, by decide, hl1, rfl⟩
  · intro e he
    rcases List.mem_append.1 he with he | he
    · cases b with
      | false => cases he
      | true =>
        have hlt : i < z.len := by simpa using hb.symm
        obtain rfl := List.mem_singleton.1 (show e ∈ [(⟨1, 100, e120⟩ : LEE)] from he)
        refine ⟨rfl, ?_, ?_⟩
        · show ((i : Int)).toNat * 12 + 12 ≤ z.l1.length
          rw [hl1, Int.toNat_natCast]
          omega
        · show (z.l1.drop (((i : Int)).toNat * 12)).take 12 = _
          rw [Int.toNat_natCast, me_row Z i hlt]
          rfl
    · split at he
      · rename_i hbg
        rw [Bool.and_eq_true, hb, hg, decide_eq_true_iff, decide_eq_true_iff] at hbg
        obtain rfl := List.mem_singleton.1 he
        have e1 : ((i : Int) - 1).toNat = i - 1 := by omega
        refine ⟨rfl, ?_, ?_⟩
        · show ((i : Int) - 1).toNat * 12 + 12 ≤ z.l1.length
          rw [hl1, e1]
          omega
        · show (z.l1.drop (((i : Int) - 1).toNat * 12)).take 12 = _
          rw [e1, me_row Z (i - 1) (by omega)]
          rfl
      · cases he
  · intro e he
    cases b with
    | false => cases he
    | true =>
      have hlt : i < z.len := by simpa using hb.symm
      obtain rfl := List.mem_singleton.1 (show e ∈ [(⟨fIn, [.slN 0 3 12, earR 0], bR true⟩ : YE)] from he)
      have hbl : (neighL (meEl z i) (bitY (meEl z i))).length ≤ 1000000 := by
        have := nbS_le (meEl z i) (bitY (meEl z i))
        rw [List.length_map]
        omega
      have := in_any (neighL (meEl z i) (bitY (meEl z i))) z.x z.y hbl V 3 [sI 0, sI 1, sI 2, sI 3, sI 4, sI 5, sI 6, sI 7, sI 8, sB 0, sB 1, sB 2] (show l3 = _ from (hl3 hlt).trans (cellsN_rows _ _)) rfl
      rw [(nb_back Z.v1 (me_mem Z i hlt)).2.2.2] at this
      exact this
  · intro e he
    cases b with
    | false => cases he
    | true =>
      have hlt : i < z.len := by simpa using hb.symm
      obtain rfl := List.mem_singleton.1 (show e ∈ [(⟨fNeigh, [.agg e120], .tup [.slN 0 3 12, lI 0], [some (.lst 3 25 true)]⟩ : QE)] from he)
      exact neigh_list (meEl z i) (bitY (meEl z i)) (nb_back Z.v1 (me_mem Z i hlt)).1 V 3 (show l3 = _ from hl3 hlt)
theorem met_ok (w : World) (hr : RoIn ro w) : Calls Tryd.prog fEarMetric #[intV z.a, intV z.b, intV z.c] w (fun x w' => x = .returned (.bool true) ∧ Below w.heap.size w w') := by
  have hm := mE_lt (shp z.x z.y) z.x2 z.y2
  refine fn_loop (κ := Unit) (meN z 0 []) (fun _ => undef) (meTb (meM z) (decide (z.p = 1))) [] fEarMetric meDs mePat (fun m _ u => ∃ i l3, i ≤ z.len ∧ m = z.len - i ∧ u = meN z i l3 ∧ (i < z.len → l3 = cellsN (shp (meEl z i) (bitY (meEl z i))) (nbS (meEl z i) (bitY (meEl z i))))) (meTb_ok Z fun _ => undef) (.int 100 (lI 0) :: meIds) [0, 3] () z.len (all2_all (allU_lt me_enter (meM z) hm) (decide (z.p = 1))) (meN z 0 (cellsN (shp (meEl z 0) (bitY (meEl z 0))) (nbS (meEl z 0) (bitY (meEl z 0))))) ?_ ⟨0, _, Nat.zero_le _, rfl, rfl, fun _ => rfl⟩ (DF (.bool true)) ?_ w hr [intV z.a, intV z.b, intV z.c] (@nval_flat ((meN z 0 []).val fun _ => undef) w meDs rfl)
  · intro W'
    refine holds_all fun e he => ?_
    rcases List.mem_cons.1 he with rfl | he
    · exact ⟨.i64, 0, rfl, rfl⟩
    · exact meIds_ok 0 0 _ _ _ W' e he
  · rintro w m k u ⟨i, l3, hi, rfl, rfl, hl3⟩ W1
    by_cases hlt : i < z.len
    · refine step_to (meRd true (!(Nat.beq i 0))) [] (meRd_ok Z i hi true (by simp [hlt]) l3 hl3 W1) (.int 100 (sI 106) :: meIds) [0, 1] () (meN z (i + 1) (cellsN (shp (meEl z (i + 1)) (bitY (meEl z (i + 1)))) (nbS (meEl z (i + 1)) (bitY (meEl z (i + 1)))))) (all2_all (all2_all (allU_lt me_again (meM z) hm) (decide (z.p = 1))) _) ?_ ⟨z.len - (i + 1), by omega, i + 1, _, hlt, rfl, rfl, fun _ => rfl⟩
      intro W'
      refine holds_all fun e he => ?_
      rcases List.mem_cons.1 he with rfl | he
      · exact ⟨.i64, (i : Int) + 1, rfl, rfl⟩
      · exact meIds_ok i (i + 1) _ _ _ W' e he
    · exact step_outF (meRd false (!(Nat.beq i 0))) [] (meRd_ok Z i hi false (by simp [hlt]) l3 hl3 W1) (bR true) (all2_all (all2_all (allU_lt me_out (meM z) hm) (decide (z.p = 1))) _) rfl
end
/-- What FromCode answers. -/
theorem from_all (n : Int) : (∃ x y, valB x = true ∧ Ans fFromCode [intV n] (.tuple #[earF x y, intV 0])) ∨ Ans fFromCode [intV n] (.tuple #[earF zeroX zeroY, intV 1]) := by
  by_cases h : n < 0 ∨ n ≥ 44176
  · exact .inr (from_no_ans n h)
  · obtain ⟨q, hq, hc⟩ := num_Q n.toNat (by omega)
    refine .inl ⟨q.X, q.Y, Q.val hq, ?_⟩
    have := from_ans hq
    rw [hc, show ((n.toNat : Nat) : Int) = n by omega] at this
    exact this
/-- THE LAW EarMetric. -/
theorem met_law (a b c : Int) (w : World) (hr : RoIn ro w) : Calls Tryd.prog fEarMetric #[.int .i64 a, .int .i64 b, .int .i64 c] w (fun x w' => x = .returned (.bool true) ∧ Below w.heap.size w w') := by
  have bad : ∀ (x1 x2 x3 : Nat → Int) (y1 y2 y3 : Nat → Bool) (b1 b2 b3 : Bool), (b1 && (b2 && b3)) = false → Ans fFromCode [intV a] (if b1 then .tuple #[earF x1 y1, intV 0] else .tuple #[earF zeroX zeroY, intV 1]) → Ans fFromCode [intV b] (if b2 then .tuple #[earF x2 y2, intV 0] else .tuple #[earF zeroX zeroY, intV 1]) → Ans fFromCode [intV c] (if b3 then .tuple #[earF x3 y3, intV 0] else .tuple #[earF zeroX zeroY, intV 1]) →
      Calls Tryd.prog fEarMetric #[.int .i64 a, .int .i64 b, .int .i64 c] w (fun x w' => x = .returned (.bool true) ∧ Below w.heap.size w w') := fun x1 x2 x3 y1 y2 y3 b1 b2 b3 hb h1 h2 h3 => by
    let V : Val := (meN ⟨x1, y1, x2, y2, x3, y3, a, b, c, 0, 0, 0, [], 0, []⟩ 0 []).val fun _ => undef
    have hrun := all2_all (all2_all (all2_all me_bad b1) b2) b3
    rw [hb] at hrun
    refine (done_calls V V (t := { X := saneX, Y := meFY b1 b2 b3 }) ?_ hrun rfl ⟨(fun j r h => by cases h), (fun j r h => by cases h), (fun j r h => by cases h), (fun j r h => by cases h), (fun j r h => by cases h)⟩ w hr [intV a, intV b, intV c] (@nval_flat V w meDs rfl)).mono fun x w' ⟨u, E', he, hu, H⟩ => ⟨by rw [he]; exact congrArg _ hu, @HInv.below V _ _ _ _ _ _ H⟩
    letI : Val := V
    refine { X := sanexT, Y := ?_ }
    intro e he
    simp only [meFY, List.mem_cons, List.not_mem_nil, or_false] at he
    rcases he with rfl | rfl | rfl
    · cases b1 <;> exact h1
    · cases b2 <;> exact h2
    · cases b3 <;> exact h3
  rcases from_all a with ⟨x1, y1, v1, f1⟩ | f1
  · rcases from_all b with ⟨x2, y2, v2, f2⟩ | f2
    · rcases from_all c with ⟨x3, y3, v3, f3⟩ | f3
      · obtain ⟨z, Z, rfl, rfl, rfl⟩ := me_ex x1 x2 x3 y1 y2 y3 a b c v1 v2 v3 f1 f2 f3
        exact met_ok Z w hr
      · exact bad x1 x2 zeroX y1 y2 zeroY true true false rfl f1 f2 f3
    · rcases from_all c with ⟨x3, y3, v3, f3⟩ | f3
      · exact bad x1 zeroX x3 y1 zeroY y3 true false true rfl f1 f2 f3
      · exact bad x1 zeroX zeroX y1 zeroY zeroY true false false rfl f1 f2 f3
  · rcases from_all b with ⟨x2, y2, v2, f2⟩ | f2
    · rcases from_all c with ⟨x3, y3, v3, f3⟩ | f3
      · exact bad zeroX x2 x3 zeroY y2 y3 false true true rfl f1 f2 f3
      · exact bad zeroX x2 zeroX zeroY y2 zeroY false true false rfl f1 f2 f3
    · rcases from_all c with ⟨x3, y3, v3, f3⟩ | f3
      · exact bad zeroX zeroX x3 zeroY zeroY y3 false false true rfl f1 f2 f3
      · exact bad zeroX zeroX zeroX zeroY zeroY zeroY false false false rfl f1 f2 f3
end Go.Proofs.Z
