/- A part of the proofs that the laws of layer eight answer true for every input. -/
import Derived.Test.YtjeikabpnplogaaZDC
import Derived.Test.YtjeikabpnplogaaZCQ
namespace Go.Proofs.Z
open Go Go.RowKit Go.Proofs Go.Ri Go.Proofs.Z.Fa
/-! Worlds: their items, few, sealed: contracts. -/
/-- An item. -/
structure Itm where
  p : Int
  a : Int
  b : ByteArray
  h : Int
def itC (i : Itm) : List Value := [.int .i64 i.p, .int .i64 i.a, .string i.b, .int .i64 i.h]
def itL (it : Nat → Itm) (n : Nat) : List Value := (List.range n).flatMap fun k => itC (it k)
theorem itL_succ (it : Nat → Itm) (n : Nat) : itL it (n + 1) = itL it n ++ itC (it n) := by
  unfold itL
  rw [List.range_succ, List.flatMap_append]
  simp
theorem itL_len (it : Nat → Itm) : ∀ n, (itL it n).length = n * 4
  | 0 => rfl
  | n + 1 => by
    rw [itL_succ, List.length_append, itL_len it n]
    show n * 4 + 4 = _
    omega
theorem itL_at (it : Nat → Itm) {k : Nat} : ∀ n, k < n → ((itL it n).drop (k * 4)).take 4 = itC (it k)
  | 0, h => by omega
  | n + 1, h => by
    rw [itL_succ]
    rcases Nat.lt_or_eq_of_le (Nat.le_of_lt_succ h) with h1 | rfl
    · rw [List.drop_append_of_le_length (by rw [itL_len]; omega), List.take_append_of_le_length (by rw [List.length_drop, itL_len]; omega)]
      exact itL_at it n h1
    · rw [← itL_len it k, List.drop_left, List.take_of_length_le (by show 4 ≤ 4; omega)]
def wTest (P N S : Int) (n : Nat) (i : Nat) : Bool := if i = 0 then decide (1 ≤ P) else if i = 1 then decide (P ≤ 3) else if i = 2 then decide (1 ≤ N) else if i = 3 then decide (N ≤ 6) else if i = 4 then decide (1 ≤ S) else if i = 5 then decide (S ≤ 100) else decide (n ≤ 24)
def wCls (P N S : Int) (n : Nat) : Nat := firstBad (wTest P N S n) 7 0
def okB (it : Nat → Itm) : Nat → Bool
  | 0 => true
  | k + 1 => okB it k && decide ((it k).b.size ≤ 200)
def fewM (P N S : Int) (n : Nat) (it : Nat → Itm) : Bool := Nat.beq (wCls P N S n) 7 && okB it n
theorem okB_at {it : Nat → Itm} : ∀ {n k : Nat}, okB it n = true → k < n → (it k).b.size ≤ 200
  | n + 1, k, h, hk => by
    have h : (okB it n && decide ((it n).b.size ≤ 200)) = true := h
    simp only [Bool.and_eq_true, decide_eq_true_eq] at h
    rcases Nat.lt_or_eq_of_le (Nat.le_of_lt_succ hk) with h1 | rfl
    · exact okB_at h.1 h1
    · exact h.2
/-- Names of a world, at a place; other numbers and lists by x and z. -/
def wdI (sd P N S : Int) (n k : Nat) (x : Nat → Int) (i : Nat) : Int := if i = 600 then sd else if i = 601 then P else if i = 602 then N else if i = 603 then S else if i = 604 then (n : Int) else if i = 605 then (k : Int) else if i = 606 then (k : Int) + 1 else x i
def wdL (l : List Value) (z : Nat → List Value) (i : Nat) : List Value := if i = 3 then l else z i
def wdNm (sd P N S : Int) (n k : Nat) (l : List Value) (x : Nat → Int) (y : Nat → ByteArray) (z : Nat → List Value) : Nm := ⟨wdI sd P N S n k x, fun _ => false, y, wdL l z⟩
section
variable {sd P N S : Int} {n k : Nat} {l : List Value} {x : Nat → Int} {y : Nat → ByteArray} {z : Nat → List Value} {W : Nat → Value}
theorem w600 : @cv ((wdNm sd P N S n k l x y z).val W) (sU 600) = .int .u64 sd := rfl
theorem w601 : @cv ((wdNm sd P N S n k l x y z).val W) (sI 601) = .int .i64 P := rfl
theorem w602 : @cv ((wdNm sd P N S n k l x y z).val W) (sI 602) = .int .i64 N := congrArg (Value.int .i64) (show wdI sd P N S n k x 602 = N by simp [wdI])
theorem w603 : @cv ((wdNm sd P N S n k l x y z).val W) (sI 603) = .int .i64 S := congrArg (Value.int .i64) (show wdI sd P N S n k x 603 = S by simp [wdI])
theorem w604 : @cv ((wdNm sd P N S n k l x y z).val W) (sI 604) = .int .i64 (n : Nat) := congrArg (Value.int .i64) (show wdI sd P N S n k x 604 = (n : Nat) by simp [wdI])
theorem w605 : @cv ((wdNm sd P N S n k l x y z).val W) (sI 605) = .int .i64 (k : Nat) := congrArg (Value.int .i64) (show wdI sd P N S n k x 605 = (k : Nat) by simp [wdI])
theorem w606 : @cv ((wdNm sd P N S n k l x y z).val W) (sI 606) = .int .i64 ((k : Int) + 1) := congrArg (Value.int .i64) (show wdI sd P N S n k x 606 = (k : Int) + 1 by simp [wdI])
theorem wdI_x {i : Nat} (h : i < 600 ∨ 606 < i) : wdI sd P N S n k x i = x i := by
  unfold wdI
  rw [if_neg (by omega), if_neg (by omega), if_neg (by omega), if_neg (by omega), if_neg (by omega), if_neg (by omega), if_neg (by omega)]
theorem stp_true (hk : k ≤ 1000000) {b : Bool} (hb : decide (k < n) = b) : ∀ e, e ∈ stpT b → @TETrue ((wdNm sd P N S n k l x y z).val W) e := by
  have e4 := w604 (sd := sd) (P := P) (N := N) (S := S) (n := n) (k := k) (l := l) (x := x) (y := y) (z := z) (W := W)
  have e5 := w605 (sd := sd) (P := P) (N := N) (S := S) (n := n) (k := k) (l := l) (x := x) (y := y) (z := z) (W := W)
  have e6 := w606 (sd := sd) (P := P) (N := N) (S := S) (n := n) (k := k) (l := l) (x := x) (y := y) (z := z) (W := W)
  letI : Val := (wdNm sd P N S n k l x y z).val W
  exact fa (f_lss (k := .i64) (m := (k : Int)) (n := (n : Int)) e5 e4 (by rw [← hb]; exact decide_eq_decide.2 (by omega))) (fa ⟨rfl, .i64, .i64, (k : Int), (n : Int), e5, e4, by
    show Value.bool b = _
    rw [← hb]
    congr 1
    exact decide_eq_decide.2 (by omega)⟩ (fa (f_addL (m := (k : Int)) e5 e6 rfl (by omega) (by omega)) fz))
theorem fwLL_true (hl : l.length = n * 4) : ∀ e, e ∈ fwLL → @LLTrue ((wdNm sd P N S n k l x y z).val W) e :=
  fa ⟨rfl, n, Nat.succ_pos 3, hl, w604⟩ fz
end
/-- The item at the place. -/
theorem itX_true {sd P N S : Int} {n k : Nat} {it : Nat → Itm} {x : Nat → Int} {y : Nat → ByteArray} {z : Nat → List Value} {W : Nat → Value} (hk : k < n) (h0 : x 610 = (it k).p) (h1 : x 611 = (it k).a) (h3 : x 613 = (it k).h) (hy : y 3 = (it k).b) :
    @LXTrue ((wdNm sd P N S n k (itL it n) x y z).val W) ⟨3, 605, itR⟩ := by
  have hi : wdI sd P N S n k x 605 = (k : Nat) := by simp [wdI]
  refine ⟨rfl, ?_, ?_⟩
  · show (wdI sd P N S n k x 605).toNat * 4 + 4 ≤ (itL it n).length
    rw [hi, itL_len, Int.toNat_natCast]
    omega
  · show ((itL it n).drop ((wdI sd P N S n k x 605).toNat * 4)).take 4 = [Value.int .i64 (wdI sd P N S n k x 610), Value.int .i64 (wdI sd P N S n k x 611), Value.string (y 3), Value.int .i64 (wdI sd P N S n k x 613)]
    rw [hi, Int.toNat_natCast, itL_at it n hk, wdI_x (by omega), wdI_x (by omega), wdI_x (by omega), h0, h1, h3, hy]
    rfl
theorem fwt_true {sd P N S : Int} {n k : Nat} {l : List Value} {x : Nat → Int} {y : Nat → ByteArray} {z : Nat → List Value} {W : Nat → Value} (i : Nat) (hi : i < 7) : ∀ e, e ∈ fwt i (wTest P N S n i) → @TETrue ((wdNm sd P N S n k l x y z).val W) e := by
  have e1 := w601 (sd := sd) (P := P) (N := N) (S := S) (n := n) (k := k) (l := l) (x := x) (y := y) (z := z) (W := W)
  have e2 := w602 (sd := sd) (P := P) (N := N) (S := S) (n := n) (k := k) (l := l) (x := x) (y := y) (z := z) (W := W)
  have e3 := w603 (sd := sd) (P := P) (N := N) (S := S) (n := n) (k := k) (l := l) (x := x) (y := y) (z := z) (W := W)
  have e4 := w604 (sd := sd) (P := P) (N := N) (S := S) (n := n) (k := k) (l := l) (x := x) (y := y) (z := z) (W := W)
  letI : Val := (wdNm sd P N S n k l x y z).val W
  match i, hi with
  | 0, _ => exact fa (f_lss (k := .i64) (m := P) (n := 1) e1 rfl (by show decide (P < 1) = !decide (1 ≤ P); rw [← decide_not]; exact decide_eq_decide.2 (by omega))) fz
  | 1, _ => exact fa (f_gtr (k := .i64) (m := P) (n := 3) e1 rfl (by show decide (P > 3) = !decide (P ≤ 3); rw [← decide_not]; exact decide_eq_decide.2 (by omega))) fz
  | 2, _ => exact fa (f_lss (k := .i64) (m := N) (n := 1) e2 rfl (by show decide (N < 1) = !decide (1 ≤ N); rw [← decide_not]; exact decide_eq_decide.2 (by omega))) fz
  | 3, _ => exact fa (f_gtr (k := .i64) (m := N) (n := 6) e2 rfl (by show decide (N > 6) = !decide (N ≤ 6); rw [← decide_not]; exact decide_eq_decide.2 (by omega))) fz
  | 4, _ => exact fa (f_lss (k := .i64) (m := S) (n := 1) e3 rfl (by show decide (S < 1) = !decide (1 ≤ S); rw [← decide_not]; exact decide_eq_decide.2 (by omega))) fz
  | 5, _ => exact fa (f_gtr (k := .i64) (m := S) (n := 100) e3 rfl (by show decide (S > 100) = !decide (S ≤ 100); rw [← decide_not]; exact decide_eq_decide.2 (by omega))) fz
  | 6, _ => exact fa (f_gtr (k := .i64) (m := (n : Nat)) (n := 24) e4 rfl (by show decide (((n : Nat) : Int) > 24) = !decide (n ≤ 24); rw [← decide_not]; exact decide_eq_decide.2 (by omega))) fz
theorem fwT_true {sd P N S : Int} {n k : Nat} {l : List Value} {x : Nat → Int} {y : Nat → ByteArray} {z : Nat → List Value} {W : Nat → Value} {c : Nat} (hc : wCls P N S n = c) : ∀ e, e ∈ fwT c → @TETrue ((wdNm sd P N S n k l x y z).val W) e := by
  intro e he
  obtain ⟨i, hi, he⟩ := List.mem_flatMap.1 he
  subst hc
  have hi : i < Nat.min (wCls P N S n + 1) 7 := List.mem_range.1 hi
  have h1 : i < wCls P N S n + 1 := Nat.lt_of_lt_of_le hi (Nat.min_le_left _ _)
  have h2 : i < 7 := Nat.lt_of_lt_of_le hi (Nat.min_le_right _ _)
  have hq : Nat.blt i (wCls P N S n) = wTest P N S n i := by
    rcases Nat.lt_or_ge i (wCls P N S n) with hl | hl
    · rw [firstBad_pass (wTest P N S n) 7 0 i (Nat.zero_le _) hl]
      exact Nat.ble_eq_true_of_le hl
    · obtain rfl : i = wCls P N S n := by omega
      rw [show wTest P N S n (wCls P N S n) = false from firstBad_fail (wTest P N S n) 7 0 (by show wCls P N S n < 0 + 7; omega)]
      have := Nat.lt_irrefl (wCls P N S n)
      exact Bool.eq_false_iff.2 fun hc => this (Nat.le_of_ble_eq_true hc)
  rw [hq] at he
  exact fwt_true i h2 e he
theorem wCls_le (P N S : Int) (n : Nat) : wCls P N S n ≤ 7 := by
  have : wCls P N S n ≤ 0 + 7 := firstBad_le (wTest P N S n) 7 0
  omega
theorem wCls_in {P N S : Int} {n : Nat} (hc : wCls P N S n = 7) : 1 ≤ P ∧ P ≤ 3 ∧ 1 ≤ N ∧ N ≤ 6 ∧ n ≤ 24 := by
  have g := fun j hj => firstBad_pass (wTest P N S n) 7 0 j (Nat.zero_le _) (show j < wCls P N S n by rw [hc]; exact hj)
  have g0 := g 0 (by omega); have g1 := g 1 (by omega); have g2 := g 2 (by omega); have g3 := g 3 (by omega); have g6 := g 6 (by omega)
  simp [wTest] at g0 g1 g2 g3 g6
  exact ⟨g0, g1, g2, g3, g6⟩
/-- What a loop over a world's items says of the next place. -/
theorem fwS_ok {sd P N S : Int} {n k k' : Nat} {l : List Value} {x x' : Nat → Int} {y y' : Nat → ByteArray} {z z' : Nat → List Value} {W W' : Nat → Value} {r : RV} (hr : @cv ((wdNm sd P N S n k l x y z).val W) r = .int .i64 (k' : Nat)) : ∀ e, e ∈ fwS r → @okSE ((wdNm sd P N S n k l x y z).val W) ((wdNm sd P N S n k' l x' y' z').val W') e :=
  fa ⟨.u64, sd, w600, rfl⟩ (fa ⟨.i64, P, w601, rfl⟩ (fa ⟨.i64, N, w602, show wdI sd P N S n k' x' 602 = N by simp [wdI]⟩ (fa ⟨.i64, S, w603, show wdI sd P N S n k' x' 603 = S by simp [wdI]⟩ (fa ⟨.i64, (n : Nat), w604, show wdI sd P N S n k' x' 604 = (n : Nat) by simp [wdI]⟩ (fa ⟨.i64, (k' : Nat), hr, show wdI sd P N S n k' x' 605 = (k' : Nat) by simp [wdI]⟩ (fa rfl fz))))))
/-- few, whatever else the names are. -/
theorem few_ans {sd P N S : Int} {n : Nat} {it : Nat → Itm} {k0 : Nat} {x0 : Nat → Int} {y0 : Nat → ByteArray} {z0 : Nat → List Value} {W0 : Nat → Value} : ∀ w, RoIn ro w → ∀ vs, All2 (@Go.Ri.NVal ((wdNm sd P N S n k0 (itL it n) x0 y0 z0).val W0) w) [wldR] vs → Calls Try.prog fFew vs.toArray w (fun e w' => e = .returned (.bool (fewM P N S n it)) ∧ Below w.heap.size w w') := by
  intro w hr vs hv
  have hLL := fun k x y z W => fwLL_true (sd := sd) (P := P) (N := N) (S := S) (n := n) (k := k) (l := itL it n) (x := x) (y := y) (z := z) (W := W) (itL_len it n)
  by_cases hc : wCls P N S n < 7
  · have hT := fwT_true (sd := sd) (k := k0) (l := itL it n) (x := x0) (y := y0) (z := z0) (W := W0) (P := P) (N := N) (S := S) (n := n) rfl
    have ht : @TbOK ((wdNm sd P N S n k0 (itL it n) x0 y0 z0).val W0) (fwA (wCls P N S n)) := by
      have hL := hLL k0 x0 y0 z0 W0
      letI : Val := (wdNm sd P N S n k0 (itL it n) x0 y0 z0).val W0
      exact { T := hT, LL := hL }
    have hf : fewM P N S n it = false := by
      unfold fewM
      rw [show Nat.beq (wCls P N S n) 7 = false from Bool.eq_false_iff.2 fun h => by have := Nat.eq_of_beq_eq_true h; omega]
      rfl
    rw [hf]
    exact done_flat _ ht (allU_lt fw_no _ hc) rfl rfl rfl w hr vs hv
  · have h7 : wCls P N S n = 7 := by
      have := wCls_le P N S n
      omega
    have hn := (wCls_in h7).2.2.2.2
    have hfew : fewM P N S n it = okB it n := by
      unfold fewM
      rw [h7]
      rfl
    rw [hfew]
    have hT := fwT_true (sd := sd) (k := k0) (l := itL it n) (x := x0) (y := y0) (z := z0) (W := W0) (P := P) (N := N) (S := S) (n := n) h7
    have ht : @TbOK ((wdNm sd P N S n k0 (itL it n) x0 y0 z0).val W0) (fwA 7) := by
      have hL := hLL k0 x0 y0 z0 W0
      letI : Val := (wdNm sd P N S n k0 (itL it n) x0 y0 z0).val W0
      exact { T := hT, LL := hL }
    let nm : Nat → Nm := fun k => wdNm sd P N S n k (itL it n) (fun i => if i = 610 then (it k).p else if i = 611 then (it k).a else if i = 613 then (it k).h else ((it k).b.size : Nat)) (fun _ => (it k).b) (fun _ => [])
    refine fn_headsN (κ := Unit) (wdNm sd P N S n k0 (itL it n) x0 y0 z0) W0 (fwA 7) [] fFew [wldR] (fun _ => 0) (fun _ => fwP) (fun m _ c => ∃ k, k ≤ n ∧ m = n - k ∧ c = nm k ∧ okB it k = true) ht (fwS (lI 0)) [0, 1] () n fw_enter (nm 0) (fun W' => holds_all (fwS_ok (k' := 0) rfl)) ⟨0, Nat.zero_le _, rfl, rfl, rfl⟩ (DF (.bool (okB it n))) ?_ w hr vs hv
    rintro w m _ c ⟨k, hk, rfl, rfl, hok⟩ W
    rcases Nat.lt_or_ge k n with hlt | hge
    · have hX := itX_true (sd := sd) (P := P) (N := N) (S := S) (n := n) (k := k) (it := it) (x := fun i => if i = 610 then (it k).p else if i = 611 then (it k).a else if i = 613 then (it k).h else ((it k).b.size : Nat)) (y := fun _ => (it k).b) (z := fun _ => []) (W := W) hlt rfl rfl rfl rfl
      have hT := stp_true (sd := sd) (P := P) (N := N) (S := S) (n := n) (k := k) (l := itL it n) (x := fun i => if i = 610 then (it k).p else if i = 611 then (it k).a else if i = 613 then (it k).h else ((it k).b.size : Nat)) (y := fun _ => (it k).b) (z := fun _ => []) (W := W) (by omega) (decide_eq_true hlt)
      have e14 : @cv ((nm k).val W) (sI 614) = .int .i64 ((it k).b.size : Nat) := congrArg (Value.int .i64) (show wdI sd P N S n k _ 614 = _ from wdI_x (by omega))
      have ht : ∀ q, decide ((it k).b.size ≤ 200) = q → @TbOK ((nm k).val W) (fwR q) := fun q hq => by
        have hL := hLL k (fun i => if i = 610 then (it k).p else if i = 611 then (it k).a else if i = 613 then (it k).h else ((it k).b.size : Nat)) (fun _ => (it k).b) (fun _ => []) W
        letI : Val := (nm k).val W
        refine { T := fapp hT (fa (f_len (s := (it k).b) rfl e14 rfl) (fa (f_gtr (k := .i64) (m := ((it k).b.size : Nat)) (n := 200) e14 rfl ?_) fz)), LL := hL, LX := fa hX fz }
        rw [← hq, ← decide_not]
        exact decide_eq_decide.2 (by omega)
      by_cases hb : (it k).b.size ≤ 200
      · exact stepH_to (fwR true) [] (ht true (decide_eq_true hb)) (fwS (sI 606)) [0, 1] rfl () (nm (k + 1)) fw_again (fun W' => holds_all (fwS_ok (k' := k + 1) w606)) ⟨n - (k + 1), by omega, k + 1, hlt, rfl, rfl, by show (okB it k && decide ((it k).b.size ≤ 200)) = true; rw [hok, decide_eq_true hb]; rfl⟩
      · have hno : okB it n = false := Bool.eq_false_iff.2 fun h => hb (okB_at h hlt)
        rw [hno]
        exact stepH_outF (fwR false) [] (ht false (decide_eq_false hb)) (bR false) fw_bad rfl
    · obtain rfl : k = n := by omega
      rw [hok]
      have hT := stp_true (sd := sd) (P := P) (N := N) (S := S) (n := k) (k := k) (l := itL it k) (x := fun i => if i = 610 then (it k).p else if i = 611 then (it k).a else if i = 613 then (it k).h else ((it k).b.size : Nat)) (y := fun _ => (it k).b) (z := fun _ => []) (W := W) (by omega) (decide_eq_false (Nat.lt_irrefl k))
      have ht : @TbOK ((nm k).val W) { T := stpT false, LL := fwLL } := by
        have hL := hLL k (fun i => if i = 610 then (it k).p else if i = 611 then (it k).a else if i = 613 then (it k).h else ((it k).b.size : Nat)) (fun _ => (it k).b) (fun _ => []) W
        letI : Val := (nm k).val W
        exact { T := hT, LL := hL }
      exact stepH_outF { T := stpT false, LL := fwLL } [] ht (bR true) fw_out rfl
end Go.Proofs.Z

namespace Go.Proofs.Z
open Go Go.RowKit Go.Proofs Go.Ri Go.Proofs.Z.Fa
/-! sealed, Valid, HashOf: contracts; entries of a world: the model. -/
def entCs (p n x : Int) (s : ByteArray) (se : Nat → Int) : List Value := ([.int .i64 p, .int .i64 n, .int .u64 x, .string s] : List Value) ++ (List.range 16).map fun i => Value.int .u64 (se i)
theorem entCs_len (p n x : Int) (s : ByteArray) (se : Nat → Int) : (entCs p n x s se).length = 20 := by
  unfold entCs
  rw [List.length_append, List.length_map, List.length_range]
  rfl
theorem entCs_one {p n x : Int} {s : ByteArray} {se : Nat → Int} : ∀ v, v ∈ entCs p n x s se → v.oneCell' = true := by
  intro v hv
  rcases List.mem_append.1 hv with h | h
  · simp at h
    rcases h with rfl | rfl | rfl | rfl <;> rfl
  · obtain ⟨i, _, rfl⟩ := List.mem_map.1 h
    rfl
/-- The seal that sealed leaves. -/
def sealedSe (sd p n x : Int) (s : ByteArray) (se : Nat → Int) : Nat → Int := if eCls p n s.size < 5 then se else sealM sd p n x s
theorem sealedSe_in {sd p n x : Int} {s : ByteArray} {se : Nat → Int} (h : ∀ i, i < 16 → 0 ≤ se i ∧ se i < 18446744073709551616) : ∀ i, i < 16 → 0 ≤ sealedSe sd p n x s se i ∧ sealedSe sd p n x s se i < 18446744073709551616 := fun i hi => by
  unfold sealedSe
  split
  · exact h i hi
  · exact secretM_in _ _ _ _ _
theorem sealed_core {sd p n x : Int} {s : ByteArray} {se se2 : Nat → Int} (q : Bool) (h : Ans fRSeal [.int .u64 sd, entVal p n x s se] (if q then tup2 (entVal p n x s se2) (.int .i64 0) else tup2 zenVal (.int .i64 81))) : Ans fSealed [.int .u64 sd, entVal p n x s se] (entVal p n x s (if q then se2 else se)) := by
  have hold := sn_old (sd := sd) (p := p) (n := n) (x := x) (s := s) (se := se) (se2 := se2) (d := 0)
  have hnew := sn_new (sd := sd) (p := p) (n := n) (x := x) (s := s) (se := se) (se2 := se2) (d := 0)
  have h6 := s600 (sd := sd) (p := p) (n := n) (x := x) (s := s) (se := se) (se2 := se2) (d := 0)
  have hS : ∀ b (f : Nat → Int), (∀ i, i < 16 → snI sd p n x s.size se se2 0 (b + i) = f i) → ∀ e, e ∈ entS b → @okSE (snV sd p n x s se se2 0) (snV sd p n x s se se2 0) e := fun b f hb => by
    refine fapp (fa ⟨.i64, p, s50, show snI sd p n x s.size se se2 0 50 = p by simp [snI]⟩ (fa ⟨.i64, n, s51, show snI sd p n x s.size se se2 0 51 = n by simp [snI]⟩ (fa ⟨.u64, x, rfl, rfl⟩ (fa ⟨s, rfl, rfl⟩ fz)))) ?_
    intro e he
    obtain ⟨i, hi, rfl⟩ := List.mem_map.1 he
    exact ⟨.u64, f i, congrArg (Value.int .u64) (hb i (List.mem_range.1 hi)), hb i (List.mem_range.1 hi)⟩
  have hk := se_ok
  simp only [Bool.and_eq_true] at hk
  have e1 : @cvF (snV sd p n x s se se2 0) (sU 600) = .int .u64 sd := h6
  cases q
  · have ht : @TbOK (snV sd p n x s se se2 0) { Y := [⟨fRSeal, sealD, .tup [zenR, lI 81]⟩] } := by
      have y : Ans fRSeal [@cvF (snV sd p n x s se se2 0) (sU 600), @cvF (snV sd p n x s se se2 0) entR] (tup2 (@cv1 (snV sd p n x s se se2 0) zenR) (.int .i64 81)) := by
        rw [hold, e1, show @cv1 (snV sd p n x s se se2 0) zenR = zenVal from @zen_cv (snV sd p n x s se se2 0)]
        exact h
      letI : Val := snV sd p n x s se se2 0
      exact { Y := fa y fz }
    exact done_val _ ht hk.2 rfl (holds_all (hS 300 se snI_e)) rfl hold seal_args
  · have ht : @TbOK (snV sd p n x s se se2 0) { Y := [⟨fRSeal, sealD, .tup [senR, lI 0]⟩] } := by
      have y : Ans fRSeal [@cvF (snV sd p n x s se se2 0) (sU 600), @cvF (snV sd p n x s se se2 0) entR] (tup2 (@cv1 (snV sd p n x s se se2 0) senR) (.int .i64 0)) := by
        rw [hold, e1, hnew]
        exact h
      letI : Val := snV sd p n x s se se2 0
      exact { Y := fa y fz }
    exact done_val _ ht hk.1 rfl (holds_all (hS 500 se2 snI_2)) rfl hnew seal_args
theorem sealed_ans {sd p n x : Int} {s : ByteArray} {se : Nat → Int} (hx : 0 ≤ x ∧ x < 18446744073709551616) (hsd : 0 ≤ sd ∧ sd < 18446744073709551616) : Ans fSealed [.int .u64 sd, entVal p n x s se] (entVal p n x s (sealedSe sd p n x s se)) := by
  unfold sealedSe
  by_cases hc : eCls p n s.size < 5
  · rw [if_pos hc]
    exact sealed_core (se2 := se) false (seal_bad false hc hx)
  · rw [if_neg hc]
    have h5 : eCls p n s.size = 5 := by
      have := eCls_le p n s.size
      omega
    exact sealed_core (se := se) true (seal_ok false h5 hx hsd)
/-! Valid and HashOf. -/
set_option maxRecDepth 100000 in
theorem vd_run : (allU 6 fun m => doneQ { T := ecT m } [] fRValid [entR] [] [] (bR (Nat.beq m 5)) []) = true := by kernel_rfl
noncomputable def hoA : Tb := { Y := [⟨fREnc0, [entR], sT 4⟩, ⟨fRHash, [sT 4], sU 54⟩] }
set_option maxRecDepth 100000 in
theorem ho_run : doneQ hoA [] fRHashOf [entR] [.int 54 (sU 54)] [] (sU 54) [] = true := by kernel_rfl
theorem ec_args {p n x : Int} {s : ByteArray} {se : Nat → Int} (w : World) : All2 (@Go.Ri.NVal (ecV p n x s se) w) [entR] [entVal p n x s se] := by
  have h := @nval_flat (ecV p n x s se) w [entR] rfl
  rw [show [entR].map (@cvF (ecV p n x s se)) = [entVal p n x s se] from congrArg (fun z => [z]) ec_cv] at h
  exact h
theorem valid_ans {p n x : Int} {s : ByteArray} {se : Nat → Int} : Ans fRValid [entVal p n x s se] (.bool (Nat.beq (eCls p n s.size) 5)) := by
  have hT := @ecX_true (ecV p n x s se) p n s (eCls p n s.size) rfl rfl rfl rfl rfl
  have ht : @TbOK (ecV p n x s se) { T := ecT (eCls p n s.size) } := by
    letI : Val := ecV p n x s se
    exact { T := hT }
  have hle := eCls_le p n s.size
  exact done_val _ ht (allU_lt vd_run _ (by omega)) rfl (holds_all fz) rfl rfl ec_args
@[irreducible] def hashE (p n x : Int) (s : ByteArray) (se : Nat → Int) : Int := hashM (ba (encL p n x s se))
theorem hashE_is (p n x : Int) (s : ByteArray) (se : Nat → Int) : hashE p n x s se = hashM (ba (encL p n x s se)) := by unfold hashE; rfl
theorem hashE_in (p n x : Int) (s : ByteArray) (se : Nat → Int) : 0 ≤ hashE p n x s se ∧ hashE p n x s se < 18446744073709551616 := by
  rw [hashE_is]
  exact hashM_in _
def hoNm (p n x : Int) (s : ByteArray) (se : Nat → Int) (h : Int) (e : ByteArray) : Nm := ⟨fun k => if k = 54 then h else ecI p n x s.size se k, fun _ => false, fun k => if k = 4 then e else s, fun _ => []⟩
theorem ho_core {p n x : Int} {s : ByteArray} {se : Nat → Int} {h : Int} {e : ByteArray} (hE : Ans fREnc0 [entVal p n x s se] (.string e)) (hH : Ans fRHash [.string e] (.int .u64 h)) : Ans fRHashOf [entVal p n x s se] (.int .u64 h) := by
  have hc : @cvF ((hoNm p n x s se h e).val fun _ => undef) entR = entVal p n x s se := by
    refine @entG_of ((hoNm p n x s se h e).val fun _ => undef) _ _ _ _ 300 p n x s se rfl rfl rfl rfl fun i hi => ?_
    show (if 300 + i = 54 then h else ecI p n x s.size se (300 + i)) = se i
    rw [if_neg (by omega), ecI_se i hi]
  have ht : @TbOK ((hoNm p n x s se h e).val fun _ => undef) hoA := by
    have y : Ans fREnc0 [@cvF ((hoNm p n x s se h e).val fun _ => undef) entR] (.string e) := by
      rw [hc]
      exact hE
    letI : Val := (hoNm p n x s se h e).val fun _ => undef
    exact { Y := fa y (fa hH fz) }
  refine done_val _ ht ho_run rfl (holds_all (fa ⟨.u64, h, rfl, rfl⟩ fz)) rfl rfl fun w => ?_
  have h := @nval_flat ((hoNm p n x s se h e).val fun _ => undef) w [entR] rfl
  rw [show [entR].map (@cvF ((hoNm p n x s se _ e).val fun _ => undef)) = [entVal p n x s se] from congrArg (fun z => [z]) hc] at h
  exact h
theorem hashOf_ans {p n x : Int} {s : ByteArray} {se : Nat → Int} (hc : eCls p n s.size = 5) (hx : 0 ≤ x ∧ x < 18446744073709551616) (hse : ∀ i, i < 16 → 0 ≤ se i ∧ se i < 18446744073709551616) : Ans fRHashOf [entVal p n x s se] (.int .u64 (hashE p n x s se)) := by
  rw [hashE_is]
  refine ho_core (enc0_ans false hc hx hse) (hash_ans false _ ?_)
  have := (eCls_in hc).2.2.2.2
  rw [ba_size, encL_len]
  omega
/-- An entry. -/
structure Ent where
  p : Int
  n : Int
  x : Int
  s : ByteArray
  se : Nat → Int
structure EntOK (e : Ent) : Prop where
  x : 0 ≤ e.x ∧ e.x < 18446744073709551616
  se : ∀ i, i < 16 → 0 ≤ e.se i ∧ e.se i < 18446744073709551616
def Ent.cs (e : Ent) : List Value := entCs e.p e.n e.x e.s e.se
def entZ : Ent := ⟨0, 0, 0, ⟨#[]⟩, fun _ => 0⟩
theorem zero_in : (0 : Int) ≤ 0 ∧ (0 : Int) < 18446744073709551616 := by omega
theorem entZ_ok : EntOK entZ := ⟨zero_in, fun _ _ => zero_in⟩
def entsL (es : List Ent) : List Value := es.flatMap Ent.cs
theorem entsL_len : ∀ es : List Ent, (entsL es).length = es.length * 20
  | [] => rfl
  | e :: es => by
    show (e.cs ++ entsL es).length = _
    rw [List.length_append, entsL_len es, show e.cs.length = 20 from entCs_len _ _ _ _ _, List.length_cons]
    omega
theorem entsL_at : ∀ (es : List Ent) (k : Nat), k < es.length → ((entsL es).drop (k * 20)).take 20 = (es.getD k entZ).cs
  | e :: es, 0, _ => by
    show ((e.cs ++ entsL es).drop 0).take 20 = e.cs
    rw [List.drop_zero, List.take_append_of_le_length (by rw [show e.cs.length = 20 from entCs_len _ _ _ _ _]; omega), List.take_of_length_le (by rw [show e.cs.length = 20 from entCs_len _ _ _ _ _]; omega)]
  | e :: es, k + 1, h => by
    show ((e.cs ++ entsL es).drop ((k + 1) * 20)).take 20 = (es.getD k entZ).cs
    rw [show (k + 1) * 20 = e.cs.length + k * 20 by rw [show e.cs.length = 20 from entCs_len _ _ _ _ _]; omega, ← List.drop_drop, List.drop_left]
    exact entsL_at es k (by simpa using h)
theorem entsL_snoc (es : List Ent) (e : Ent) : entsL (es ++ [e]) = entsL es ++ e.cs := by
  unfold entsL
  rw [List.flatMap_append]
  simp
theorem entsL_one {es : List Ent} : ∀ v, v ∈ entsL es → v.oneCell' = true := by
  intro v hv
  obtain ⟨e, _, he⟩ := List.mem_flatMap.1 hv
  exact entCs_one v he
def wI (m : Int) : Int := IntKind.i64.wrap m
def bCls (es : List Ent) (i : Itm) : Nat := if i.a < 0 then 0 else if es.length ≤ i.a.toNat then 1 else if (es.getD i.a.toNat entZ).p ≠ i.p then 2 else if eCls (es.getD i.a.toNat entZ).p (es.getD i.a.toNat entZ).n (es.getD i.a.toNat entZ).s.size < 5 then 3 else 4
def hCls (i : Itm) : Nat := if i.h = 1 then 1 else if i.h = 2 then 2 else if i.h = 3 then 3 else if i.h = 4 then 4 else if i.h = 5 then 5 else 0
def nV (a : Nat) (n : Int) : Int := if Nat.blt a 3 then 0 else wI (n + 1)
def xV (a h : Nat) (x : Int) : Int := if Nat.beq a 4 then (if Nat.beq h 1 then w64 (x + 1) else x) else (if Nat.beq h 1 then 1 else 0)
/-- What becomes of an entry. -/
def lastE (sd : Int) (h : Nat) (p n x : Int) (s : ByteArray) (se : Nat → Int) : Ent := ⟨p, if Nat.beq h 5 then wI (n + 1) else n, x, if Nat.beq h 3 then s ++ ba [120] else s, if Nat.beq h 2 then (fun j => if j = 0 then w64 (se 0 + 1) else se j) else if Nat.beq h 4 then sealedSe (w64 (sd + 1)) p n x s se else se⟩
def nextE (sd : Int) (es : List Ent) (i : Itm) : Ent :=
  let pe := es.getD i.a.toNat entZ
  let n := nV (bCls es i) pe.n
  let x := xV (bCls es i) (hCls i) (hashE pe.p pe.n pe.x pe.s pe.se)
  lastE sd (hCls i) i.p n x i.b (sealedSe sd i.p n x i.b fun _ => 0)
def poolE (sd : Int) (it : Nat → Itm) : Nat → List Ent
  | 0 => []
  | k + 1 => poolE sd it k ++ [nextE sd (poolE sd it k) (it k)]
theorem poolE_len (sd : Int) (it : Nat → Itm) : ∀ k, (poolE sd it k).length = k
  | 0 => rfl
  | k + 1 => by
    show (poolE sd it k ++ [_]).length = _
    rw [List.length_append, poolE_len sd it k]
    rfl
theorem w64_rng (m : Int) : 0 ≤ w64 m ∧ w64 m < 18446744073709551616 := by
  show 0 ≤ m % 18446744073709551616 ∧ m % 18446744073709551616 < 18446744073709551616
  omega
theorem xV_in {a h : Nat} {x : Int} (hx : 0 ≤ x ∧ x < 18446744073709551616) : 0 ≤ xV a h x ∧ xV a h x < 18446744073709551616 := by
  unfold xV
  split <;> split
  · exact w64_rng _
  · exact hx
  · omega
  · omega
theorem lastE_ok {sd : Int} {h : Nat} {p n x : Int} {s : ByteArray} {se : Nat → Int} (hx : 0 ≤ x ∧ x < 18446744073709551616) (hse : ∀ i, i < 16 → 0 ≤ se i ∧ se i < 18446744073709551616) : EntOK (lastE sd h p n x s se) := by
  refine ⟨hx, fun i hi => ?_⟩
  show 0 ≤ (if Nat.beq h 2 then (fun j => if j = 0 then w64 (se 0 + 1) else se j) else if Nat.beq h 4 then sealedSe (w64 (sd + 1)) p n x s se else se) i ∧ (if Nat.beq h 2 then (fun j => if j = 0 then w64 (se 0 + 1) else se j) else if Nat.beq h 4 then sealedSe (w64 (sd + 1)) p n x s se else se) i < _
  split
  · show 0 ≤ (if i = 0 then w64 (se 0 + 1) else se i) ∧ (if i = 0 then w64 (se 0 + 1) else se i) < _
    split
    · exact w64_rng _
    · exact hse i hi
  · split
    · exact sealedSe_in hse i hi
    · exact hse i hi
theorem nextE_ok {sd : Int} {es : List Ent} {i : Itm} : EntOK (nextE sd es i) := lastE_ok (xV_in (hashE_in _ _ _ _ _)) (sealedSe_in fun _ _ => zero_in)
theorem poolE_ok {sd : Int} {it : Nat → Itm} : ∀ k e, e ∈ poolE sd it k → EntOK e
  | 0, e, h => by cases h
  | k + 1, e, h => by
    rcases List.mem_append.1 (show e ∈ poolE sd it k ++ [nextE sd (poolE sd it k) (it k)] from h) with h | h
    · exact poolE_ok k e h
    · rw [List.mem_singleton.1 h]
      exact nextE_ok
theorem getD_ok {es : List Ent} (h : ∀ e, e ∈ es → EntOK e) (k : Nat) : EntOK (es.getD k entZ) := by
  rw [List.getD_eq_getElem?_getD]
  cases hk : es[k]? with
  | none => exact entZ_ok
  | some e => exact h e (List.mem_of_getElem? hk)
end Go.Proofs.Z

namespace Go.Proofs.Z
open Go Go.RowKit Go.Proofs Go.Ri Go.Proofs.Z.Fa
/-! pool: contract. -/
def plX (ip ia ih pp pn px n0 x0 x1 sd1 s0 n1 : Int) (pse se1 se2 : Nat → Int) (k : Nat) : Int := if k = 610 then ip else if k = 611 then ia else if k = 613 then ih else if k = 620 then pp else if k = 621 then pn else if k = 622 then px else if k = 640 then n0 else if k = 650 then x0 else if k = 651 then x1 else if k = 652 then sd1 else if k = 680 then s0 else if k = 681 then n1 else if k < 600 then pse (k - 400) else if k < 720 then se1 (k - 700) else se2 (k - 720)
def plY (b ps b1 : ByteArray) (k : Nat) : ByteArray := if k = 3 then b else if k = 4 then ps else b1
def plZ (l9 l10 : List Value) (k : Nat) : List Value := if k = 9 then l9 else l10
def plNm (sd P N S : Int) (n k : Nat) (l : List Value) (i : Itm) (pe : Ent) (n0 x0 x1 sd1 s0 n1 : Int) (se1 se2 : Nat → Int) (b1 : ByteArray) (l9 l10 : List Value) : Nm := wdNm sd P N S n k l (plX i.p i.a i.h pe.p pe.n pe.x n0 x0 x1 sd1 s0 n1 pe.se se1 se2) (plY i.b pe.s b1) (plZ l9 l10)
def nU (a : Nat) (n0 : Int) : Int := if Nat.blt a 3 then 0 else n0
def xU (a h : Nat) (x0 x1 : Int) : Int := if Nat.beq a 4 then (if Nat.beq h 1 then x1 else x0) else (if Nat.beq h 1 then 1 else 0)
/-- What is known at an item. -/
structure PlK (sd : Int) (k a h : Nat) (i : Itm) (pe : Ent) (n0 x0 x1 sd1 s0 n1 : Int) (se1 se2 : Nat → Int) (b1 : ByteArray) (e : Ent) : Prop where
  a0 : decide (0 ≤ i.a) = !Nat.beq a 0
  a1 : a ≠ 0 → decide (i.a < (k : Int)) = !Nat.beq a 1
  a2 : 2 ≤ a → 0 ≤ i.a ∧ i.a < (k : Int) ∧ (pe.p == i.p) = !Nat.beq a 2
  hh : ∀ j, j < 5 → (i.h == ((j + 1 : Nat) : Int)) = Nat.beq h (j + 1)
  kn0 : n0 = wI (pe.n + 1)
  kx1 : x1 = w64 (x0 + 1)
  ksd1 : sd1 = w64 (sd + 1)
  ks0 : s0 = w64 (se1 0 + 1)
  kn1 : n1 = wI (n0 + 1)
  kb1 : b1 = i.b ++ ba [120]
  bs : i.b.size ≤ 200
  y1 : Ans fSealed [.int .u64 sd, entVal i.p (nU a n0) (xU a h x0 x1) i.b (fun _ => 0)] (entVal i.p (nU a n0) (xU a h x0 x1) i.b se1)
  y2 : Ans fSealed [.int .u64 sd1, entVal i.p (nU a n0) (xU a h x0 x1) i.b se1] (entVal i.p (nU a n0) (xU a h x0 x1) i.b se2)
  y3 : 3 ≤ a → Ans fRValid [entVal pe.p pe.n pe.x pe.s pe.se] (.bool (Nat.beq a 4))
  y4 : a = 4 → Ans fRHashOf [entVal pe.p pe.n pe.x pe.s pe.se] (.int .u64 x0)
  nx : e = ⟨i.p, if Nat.beq h 5 then (if Nat.blt a 3 then 1 else n1) else nU a n0, xU a h x0 x1, if Nat.beq h 3 then b1 else i.b, if Nat.beq h 2 then (fun j => if j = 0 then s0 else se1 j) else if Nat.beq h 4 then se2 else se1⟩
theorem bCls_cases (es : List Ent) (i : Itm) : (bCls es i = 0 ∧ i.a < 0) ∨ (bCls es i = 1 ∧ 0 ≤ i.a ∧ es.length ≤ i.a.toNat) ∨ (bCls es i = 2 ∧ 0 ≤ i.a ∧ i.a.toNat < es.length ∧ (es.getD i.a.toNat entZ).p ≠ i.p) ∨
    (bCls es i = 3 ∧ 0 ≤ i.a ∧ i.a.toNat < es.length ∧ (es.getD i.a.toNat entZ).p = i.p ∧ eCls (es.getD i.a.toNat entZ).p (es.getD i.a.toNat entZ).n (es.getD i.a.toNat entZ).s.size < 5) ∨
    (bCls es i = 4 ∧ 0 ≤ i.a ∧ i.a.toNat < es.length ∧ (es.getD i.a.toNat entZ).p = i.p ∧ eCls (es.getD i.a.toNat entZ).p (es.getD i.a.toNat entZ).n (es.getD i.a.toNat entZ).s.size = 5) := by
  have hle := eCls_le (es.getD i.a.toNat entZ).p (es.getD i.a.toNat entZ).n (es.getD i.a.toNat entZ).s.size
  unfold bCls
  generalize es.getD i.a.toNat entZ = pe at *
  by_cases h0 : i.a < 0
  · rw [if_pos h0]
    exact .inl ⟨rfl, h0⟩
  rw [if_neg h0]
  by_cases h1 : es.length ≤ i.a.toNat
  · rw [if_pos h1]
    exact .inr (.inl ⟨rfl, by omega, h1⟩)
  rw [if_neg h1]
  by_cases h2 : pe.p ≠ i.p
  · rw [if_pos h2]
    exact .inr (.inr (.inl ⟨rfl, by omega, by omega, h2⟩))
  rw [if_neg h2]
  have h2 : pe.p = i.p := Decidable.byContradiction h2
  by_cases h3 : eCls pe.p pe.n pe.s.size < 5
  · rw [if_pos h3]
    exact .inr (.inr (.inr (.inl ⟨rfl, by omega, by omega, h2, h3⟩)))
  · rw [if_neg h3]
    exact .inr (.inr (.inr (.inr ⟨rfl, by omega, by omega, h2, by omega⟩)))
theorem bCls_le (es : List Ent) (i : Itm) : bCls es i ≤ 4 := by
  rcases bCls_cases es i with h | h | h | h | h <;> rw [h.1] <;> omega
theorem hCls_le (i : Itm) : hCls i ≤ 5 := by
  unfold hCls
  split
  · omega
  · split
    · omega
    · split
      · omega
      · split
        · omega
        · split <;> omega
theorem hCls_is (i : Itm) : ∀ j, j < 5 → (i.h == ((j + 1 : Nat) : Int)) = Nat.beq (hCls i) (j + 1) := by
  intro j hj
  have key : ∀ c : Nat, hCls i = c → ((i.h = ((j + 1 : Nat) : Int)) ↔ c = j + 1) → (i.h == ((j + 1 : Nat) : Int)) = Nat.beq (hCls i) (j + 1) := fun c hc hiff => by
    rw [hc]
    by_cases h : c = j + 1
    · rw [h, Nat.beq_refl, beq_iff_eq.2 (hiff.2 h)]
    · rw [show Nat.beq c (j + 1) = false from Bool.eq_false_iff.2 fun hb => h (Nat.eq_of_beq_eq_true hb)]
      exact Bool.eq_false_iff.2 fun hb => h (hiff.1 (beq_iff_eq.1 hb))
  unfold hCls at key ⊢
  by_cases h1 : i.h = 1
  · exact key 1 (if_pos h1) (by omega)
  · rw [if_neg h1] at key ⊢
    by_cases h2 : i.h = 2
    · exact key 2 (if_pos h2) (by omega)
    · rw [if_neg h2] at key ⊢
      by_cases h3 : i.h = 3
      · exact key 3 (if_pos h3) (by omega)
      · rw [if_neg h3] at key ⊢
        by_cases h4 : i.h = 4
        · exact key 4 (if_pos h4) (by omega)
        · rw [if_neg h4] at key ⊢
          by_cases h5 : i.h = 5
          · exact key 5 (if_pos h5) (by omega)
          · exact key 0 (if_neg h5) (by omega)
theorem plK_is {sd : Int} {es : List Ent} {i : Itm} (hsd : 0 ≤ sd ∧ sd < 18446744073709551616) (hes : ∀ e, e ∈ es → EntOK e) (hb : i.b.size ≤ 200) : ∃ n0 x0 x1 sd1 s0 n1 se1 se2 b1, PlK sd es.length (bCls es i) (hCls i) i (es.getD i.a.toNat entZ) n0 x0 x1 sd1 s0 n1 se1 se2 b1 (nextE sd es i) := by
  have hpe := getD_ok hes i.a.toNat
  refine ⟨wI ((es.getD i.a.toNat entZ).n + 1), hashE (es.getD i.a.toNat entZ).p (es.getD i.a.toNat entZ).n (es.getD i.a.toNat entZ).x (es.getD i.a.toNat entZ).s (es.getD i.a.toNat entZ).se, _, _, _, _, sealedSe sd i.p (nV (bCls es i) (es.getD i.a.toNat entZ).n) (xV (bCls es i) (hCls i) (hashE (es.getD i.a.toNat entZ).p (es.getD i.a.toNat entZ).n (es.getD i.a.toNat entZ).x (es.getD i.a.toNat entZ).s (es.getD i.a.toNat entZ).se)) i.b fun _ => 0,
    sealedSe (w64 (sd + 1)) i.p (nV (bCls es i) (es.getD i.a.toNat entZ).n) (xV (bCls es i) (hCls i) (hashE (es.getD i.a.toNat entZ).p (es.getD i.a.toNat entZ).n (es.getD i.a.toNat entZ).x (es.getD i.a.toNat entZ).s (es.getD i.a.toNat entZ).se)) i.b (sealedSe sd i.p (nV (bCls es i) (es.getD i.a.toNat entZ).n) (xV (bCls es i) (hCls i) (hashE (es.getD i.a.toNat entZ).p (es.getD i.a.toNat entZ).n (es.getD i.a.toNat entZ).x (es.getD i.a.toNat entZ).s (es.getD i.a.toNat entZ).se)) i.b fun _ => 0), _,
    ⟨?_, ?_, ?_, hCls_is i, rfl, rfl, rfl, rfl, rfl, rfl, hb, ?_, ?_, ?_, ?_, ?_⟩⟩
  · rcases bCls_cases es i with ⟨h, g⟩ | ⟨h, g, _⟩ | ⟨h, g, _⟩ | ⟨h, g, _⟩ | ⟨h, g, _⟩ <;> rw [h]
    · exact decide_eq_false (by omega)
    all_goals exact decide_eq_true g
  · rcases bCls_cases es i with ⟨h, g⟩ | ⟨h, g, g1⟩ | ⟨h, g, g1, _⟩ | ⟨h, g, g1, _⟩ | ⟨h, g, g1, _⟩ <;> rw [h] <;> intro h0
    · exact absurd rfl h0
    · exact decide_eq_false (by omega)
    all_goals exact decide_eq_true (by omega)
  · rcases bCls_cases es i with ⟨h, g⟩ | ⟨h, g, g1⟩ | ⟨h, g, g1, g2⟩ | ⟨h, g, g1, g2, _⟩ | ⟨h, g, g1, g2, _⟩ <;> rw [h] <;> intro h0
    · omega
    · omega
    · exact ⟨g, by omega, beq_eq_false_iff_ne.2 g2⟩
    · exact ⟨g, by omega, beq_iff_eq.2 g2⟩
    · exact ⟨g, by omega, beq_iff_eq.2 g2⟩
  · exact sealed_ans (xV_in (hashE_in _ _ _ _ _)) hsd
  · exact sealed_ans (xV_in (hashE_in _ _ _ _ _)) (w64_rng _)
  · intro h3
    have hv := valid_ans (p := (es.getD i.a.toNat entZ).p) (n := (es.getD i.a.toNat entZ).n) (x := (es.getD i.a.toNat entZ).x) (s := (es.getD i.a.toNat entZ).s) (se := (es.getD i.a.toNat entZ).se)
    have he : Nat.beq (bCls es i) 4 = Nat.beq (eCls (es.getD i.a.toNat entZ).p (es.getD i.a.toNat entZ).n (es.getD i.a.toNat entZ).s.size) 5 := by
      rcases bCls_cases es i with ⟨h, _⟩ | ⟨h, _⟩ | ⟨h, _⟩ | ⟨h, _, _, _, g⟩ | ⟨h, _, _, _, g⟩
      · omega
      · omega
      · omega
      · rw [h]
        exact (Bool.eq_false_iff.2 fun hb => by have := Nat.eq_of_beq_eq_true hb; omega).symm
      · rw [h, g]
        rfl
    rw [he]
    exact hv
  · intro h4
    refine hashOf_ans ?_ hpe.x hpe.se
    rcases bCls_cases es i with ⟨h, _⟩ | ⟨h, _⟩ | ⟨h, _⟩ | ⟨h, _, _, _, g⟩ | ⟨h, _, _, _, g⟩
    · omega
    · omega
    · omega
    · omega
    · exact g
  · unfold nextE lastE
    have hn : (if Nat.beq (hCls i) 5 then wI (nV (bCls es i) (es.getD i.a.toNat entZ).n + 1) else nV (bCls es i) (es.getD i.a.toNat entZ).n) = if Nat.beq (hCls i) 5 then (if Nat.blt (bCls es i) 3 then 1 else wI (wI ((es.getD i.a.toNat entZ).n + 1) + 1)) else nU (bCls es i) (wI ((es.getD i.a.toNat entZ).n + 1)) := by
      unfold nV nU
      cases Nat.beq (hCls i) 5
      · rfl
      · cases Nat.blt (bCls es i) 3
        · rfl
        · rfl
    show Ent.mk _ _ _ _ _ = Ent.mk _ _ _ _ _
    rw [hn]
    rfl
end Go.Proofs.Z

namespace Go.Proofs.Z
open Go Go.RowKit Go.Proofs Go.Ri Go.Proofs.Z.Fa
/-! pool: contract. -/
theorem ent_cells [Val] {l c : List RV} {p n x : Int} {s : ByteArray} {f : Nat → Int} (h4 : l.map cv = [.int .i64 p, .int .i64 n, .int .u64 x, .string s]) (hc : c.map cv = (List.range 16).map fun i => Value.int .u64 (f i)) : (l ++ c).map cv = entCs p n x s f := by
  rw [List.map_append, h4, hc]
  rfl
theorem ss_cv [Val] {b : Nat} {f : Nat → Int} (hb : ∀ i, i < 16 → Val.I (b + i) = f i) : (ssR b).map cv = (List.range 16).map fun i => Value.int .u64 (f i) := by
  unfold ssR
  rw [List.map_map]
  exact List.map_congr_left fun i hi => congrArg (Value.int .u64) (hb i (List.mem_range.1 hi))
theorem zs_cv [Val] : zsR.map cv = (List.range 16).map fun _ => Value.int .u64 0 := by
  unfold zsR
  rw [List.map_map]
  rfl
theorem f_wadd [Val] {a b c : RV} {k : IntKind} {m n : Int} (ha : cv a = .int k m) (hb : cv b = .int k n) (hc : cv c = .int k (k.wrap (m + n))) (hf : flat0 c = true) : TETrue ⟨.bin .add, a, b, c⟩ := f_binop ha hb hc hf (t_add k m n)
theorem cv4 [Val] {a b c d : RV} {p n x : Int} {s : ByteArray} (h0 : cv a = .int .i64 p) (h1 : cv b = .int .i64 n) (h2 : cv c = .int .u64 x) (h3 : cv d = .string s) : [a, b, c, d].map cv = [.int .i64 p, .int .i64 n, .int .u64 x, .string s] := by
  show [cv a, cv b, cv c, cv d] = _
  rw [h0, h1, h2, h3]
section
variable {sd P N S : Int} {n k : Nat} {l : List Value} {i : Itm} {pe : Ent} {n0 x0 x1 sd1 s0 n1 : Int} {se1 se2 : Nat → Int} {b1 : ByteArray} {l9 l10 : List Value} {W : Nat → Value}
theorem pl610 : @cv ((plNm sd P N S n k l i pe n0 x0 x1 sd1 s0 n1 se1 se2 b1 l9 l10).val W) (sI 610) = .int .i64 i.p := congrArg (Value.int .i64) ((show wdI sd P N S n k (plX i.p i.a i.h pe.p pe.n pe.x n0 x0 x1 sd1 s0 n1 pe.se se1 se2) 610 = (plX i.p i.a i.h pe.p pe.n pe.x n0 x0 x1 sd1 s0 n1 pe.se se1 se2) 610 from wdI_x (by omega)).trans (by simp [plX]))
theorem pl611 : @cv ((plNm sd P N S n k l i pe n0 x0 x1 sd1 s0 n1 se1 se2 b1 l9 l10).val W) (sI 611) = .int .i64 i.a := congrArg (Value.int .i64) ((show wdI sd P N S n k (plX i.p i.a i.h pe.p pe.n pe.x n0 x0 x1 sd1 s0 n1 pe.se se1 se2) 611 = (plX i.p i.a i.h pe.p pe.n pe.x n0 x0 x1 sd1 s0 n1 pe.se se1 se2) 611 from wdI_x (by omega)).trans (by simp [plX]))
theorem pl613 : @cv ((plNm sd P N S n k l i pe n0 x0 x1 sd1 s0 n1 se1 se2 b1 l9 l10).val W) (sI 613) = .int .i64 i.h := congrArg (Value.int .i64) ((show wdI sd P N S n k (plX i.p i.a i.h pe.p pe.n pe.x n0 x0 x1 sd1 s0 n1 pe.se se1 se2) 613 = (plX i.p i.a i.h pe.p pe.n pe.x n0 x0 x1 sd1 s0 n1 pe.se se1 se2) 613 from wdI_x (by omega)).trans (by simp [plX]))
theorem pl620 : @cv ((plNm sd P N S n k l i pe n0 x0 x1 sd1 s0 n1 se1 se2 b1 l9 l10).val W) (sI 620) = .int .i64 pe.p := congrArg (Value.int .i64) ((show wdI sd P N S n k (plX i.p i.a i.h pe.p pe.n pe.x n0 x0 x1 sd1 s0 n1 pe.se se1 se2) 620 = (plX i.p i.a i.h pe.p pe.n pe.x n0 x0 x1 sd1 s0 n1 pe.se se1 se2) 620 from wdI_x (by omega)).trans (by simp [plX]))
theorem pl621 : @cv ((plNm sd P N S n k l i pe n0 x0 x1 sd1 s0 n1 se1 se2 b1 l9 l10).val W) (sI 621) = .int .i64 pe.n := congrArg (Value.int .i64) ((show wdI sd P N S n k (plX i.p i.a i.h pe.p pe.n pe.x n0 x0 x1 sd1 s0 n1 pe.se se1 se2) 621 = (plX i.p i.a i.h pe.p pe.n pe.x n0 x0 x1 sd1 s0 n1 pe.se se1 se2) 621 from wdI_x (by omega)).trans (by simp [plX]))
theorem pl622 : @cv ((plNm sd P N S n k l i pe n0 x0 x1 sd1 s0 n1 se1 se2 b1 l9 l10).val W) (sU 622) = .int .u64 pe.x := congrArg (Value.int .u64) ((show wdI sd P N S n k (plX i.p i.a i.h pe.p pe.n pe.x n0 x0 x1 sd1 s0 n1 pe.se se1 se2) 622 = (plX i.p i.a i.h pe.p pe.n pe.x n0 x0 x1 sd1 s0 n1 pe.se se1 se2) 622 from wdI_x (by omega)).trans (by simp [plX]))
theorem pl640 : @cv ((plNm sd P N S n k l i pe n0 x0 x1 sd1 s0 n1 se1 se2 b1 l9 l10).val W) (sI 640) = .int .i64 n0 := congrArg (Value.int .i64) ((show wdI sd P N S n k (plX i.p i.a i.h pe.p pe.n pe.x n0 x0 x1 sd1 s0 n1 pe.se se1 se2) 640 = (plX i.p i.a i.h pe.p pe.n pe.x n0 x0 x1 sd1 s0 n1 pe.se se1 se2) 640 from wdI_x (by omega)).trans (by simp [plX]))
theorem pl650 : @cv ((plNm sd P N S n k l i pe n0 x0 x1 sd1 s0 n1 se1 se2 b1 l9 l10).val W) (sU 650) = .int .u64 x0 := congrArg (Value.int .u64) ((show wdI sd P N S n k (plX i.p i.a i.h pe.p pe.n pe.x n0 x0 x1 sd1 s0 n1 pe.se se1 se2) 650 = (plX i.p i.a i.h pe.p pe.n pe.x n0 x0 x1 sd1 s0 n1 pe.se se1 se2) 650 from wdI_x (by omega)).trans (by simp [plX]))
theorem pl651 : @cv ((plNm sd P N S n k l i pe n0 x0 x1 sd1 s0 n1 se1 se2 b1 l9 l10).val W) (sU 651) = .int .u64 x1 := congrArg (Value.int .u64) ((show wdI sd P N S n k (plX i.p i.a i.h pe.p pe.n pe.x n0 x0 x1 sd1 s0 n1 pe.se se1 se2) 651 = (plX i.p i.a i.h pe.p pe.n pe.x n0 x0 x1 sd1 s0 n1 pe.se se1 se2) 651 from wdI_x (by omega)).trans (by simp [plX]))
theorem pl652 : @cv ((plNm sd P N S n k l i pe n0 x0 x1 sd1 s0 n1 se1 se2 b1 l9 l10).val W) (sU 652) = .int .u64 sd1 := congrArg (Value.int .u64) ((show wdI sd P N S n k (plX i.p i.a i.h pe.p pe.n pe.x n0 x0 x1 sd1 s0 n1 pe.se se1 se2) 652 = (plX i.p i.a i.h pe.p pe.n pe.x n0 x0 x1 sd1 s0 n1 pe.se se1 se2) 652 from wdI_x (by omega)).trans (by simp [plX]))
theorem pl680 : @cv ((plNm sd P N S n k l i pe n0 x0 x1 sd1 s0 n1 se1 se2 b1 l9 l10).val W) (sU 680) = .int .u64 s0 := congrArg (Value.int .u64) ((show wdI sd P N S n k (plX i.p i.a i.h pe.p pe.n pe.x n0 x0 x1 sd1 s0 n1 pe.se se1 se2) 680 = (plX i.p i.a i.h pe.p pe.n pe.x n0 x0 x1 sd1 s0 n1 pe.se se1 se2) 680 from wdI_x (by omega)).trans (by simp [plX]))
theorem pl681 : @cv ((plNm sd P N S n k l i pe n0 x0 x1 sd1 s0 n1 se1 se2 b1 l9 l10).val W) (sI 681) = .int .i64 n1 := congrArg (Value.int .i64) ((show wdI sd P N S n k (plX i.p i.a i.h pe.p pe.n pe.x n0 x0 x1 sd1 s0 n1 pe.se se1 se2) 681 = (plX i.p i.a i.h pe.p pe.n pe.x n0 x0 x1 sd1 s0 n1 pe.se se1 se2) 681 from wdI_x (by omega)).trans (by simp [plX]))
theorem pls400 (j : Nat) (hj : j < 16) : wdI sd P N S n k (plX i.p i.a i.h pe.p pe.n pe.x n0 x0 x1 sd1 s0 n1 pe.se se1 se2) (400 + j) = pe.se j := by
  rw [wdI_x (by omega)]
  unfold plX
  rw [if_neg (by omega), if_neg (by omega), if_neg (by omega), if_neg (by omega), if_neg (by omega), if_neg (by omega), if_neg (by omega), if_neg (by omega), if_neg (by omega), if_neg (by omega), if_neg (by omega), if_neg (by omega), if_pos (by omega), Nat.add_sub_cancel_left]
theorem pls700 (j : Nat) (hj : j < 16) : wdI sd P N S n k (plX i.p i.a i.h pe.p pe.n pe.x n0 x0 x1 sd1 s0 n1 pe.se se1 se2) (700 + j) = se1 j := by
  rw [wdI_x (by omega)]
  unfold plX
  rw [if_neg (by omega), if_neg (by omega), if_neg (by omega), if_neg (by omega), if_neg (by omega), if_neg (by omega), if_neg (by omega), if_neg (by omega), if_neg (by omega), if_neg (by omega), if_neg (by omega), if_neg (by omega), if_neg (by omega), if_pos (by omega), Nat.add_sub_cancel_left]
theorem pls720 (j : Nat) (hj : j < 16) : wdI sd P N S n k (plX i.p i.a i.h pe.p pe.n pe.x n0 x0 x1 sd1 s0 n1 pe.se se1 se2) (720 + j) = se2 j := by
  rw [wdI_x (by omega)]
  unfold plX
  rw [if_neg (by omega), if_neg (by omega), if_neg (by omega), if_neg (by omega), if_neg (by omega), if_neg (by omega), if_neg (by omega), if_neg (by omega), if_neg (by omega), if_neg (by omega), if_neg (by omega), if_neg (by omega), if_neg (by omega), if_neg (by omega), Nat.add_sub_cancel_left]
theorem plnR (a : Nat) : @cv ((plNm sd P N S n k l i pe n0 x0 x1 sd1 s0 n1 se1 se2 b1 l9 l10).val W) (nR a) = .int .i64 (nU a n0) := by
  unfold nR nU
  split
  · rfl
  · exact pl640
theorem plxR (a h : Nat) : @cv ((plNm sd P N S n k l i pe n0 x0 x1 sd1 s0 n1 se1 se2 b1 l9 l10).val W) (xR a h) = .int .u64 (xU a h x0 x1) := by
  unfold xR xU
  split <;> split
  · exact pl651
  · exact pl650
  · rfl
  · rfl
theorem pl_e0 (a h : Nat) : @cv1 ((plNm sd P N S n k l i pe n0 x0 x1 sd1 s0 n1 se1 se2 b1 l9 l10).val W) (e0R a h) = entVal i.p (nU a n0) (xU a h x0 x1) i.b fun _ => 0 := by
  have h4 := @cv4 ((plNm sd P N S n k l i pe n0 x0 x1 sd1 s0 n1 se1 se2 b1 l9 l10).val W) _ _ _ _ _ _ _ i.b pl610 (plnR a) (plxR a h) (show @cv ((plNm sd P N S n k l i pe n0 x0 x1 sd1 s0 n1 se1 se2 b1 l9 l10).val W) (sT 3) = _ from rfl)
  have := @ent_cells ((plNm sd P N S n k l i pe n0 x0 x1 sd1 s0 n1 se1 se2 b1 l9 l10).val W) _ _ _ _ _ _ _ h4 (@zs_cv ((plNm sd P N S n k l i pe n0 x0 x1 sd1 s0 n1 se1 se2 b1 l9 l10).val W))
  exact congrArg (fun z : List Value => Value.agg z.toArray) this
theorem pl_eb (a h b : Nat) (f : Nat → Int) (hb : ∀ j, j < 16 → wdI sd P N S n k (plX i.p i.a i.h pe.p pe.n pe.x n0 x0 x1 sd1 s0 n1 pe.se se1 se2) (b + j) = f j) : @cv1 ((plNm sd P N S n k l i pe n0 x0 x1 sd1 s0 n1 se1 se2 b1 l9 l10).val W) (.agg ([sI 610, nR a, xR a h, sT 3] ++ ssR b)) = entVal i.p (nU a n0) (xU a h x0 x1) i.b f := by
  have h4 := @cv4 ((plNm sd P N S n k l i pe n0 x0 x1 sd1 s0 n1 se1 se2 b1 l9 l10).val W) _ _ _ _ _ _ _ i.b pl610 (plnR a) (plxR a h) (show @cv ((plNm sd P N S n k l i pe n0 x0 x1 sd1 s0 n1 se1 se2 b1 l9 l10).val W) (sT 3) = _ from rfl)
  have := @ent_cells ((plNm sd P N S n k l i pe n0 x0 x1 sd1 s0 n1 se1 se2 b1 l9 l10).val W) _ _ _ _ _ _ _ h4 (@ss_cv ((plNm sd P N S n k l i pe n0 x0 x1 sd1 s0 n1 se1 se2 b1 l9 l10).val W) b f hb)
  exact congrArg (fun z : List Value => Value.agg z.toArray) this
theorem pl_pe : peR.map (@cv ((plNm sd P N S n k l i pe n0 x0 x1 sd1 s0 n1 se1 se2 b1 l9 l10).val W)) = pe.cs := by
  have h4 := @cv4 ((plNm sd P N S n k l i pe n0 x0 x1 sd1 s0 n1 se1 se2 b1 l9 l10).val W) _ _ _ _ _ _ _ pe.s pl620 pl621 pl622 (show @cv ((plNm sd P N S n k l i pe n0 x0 x1 sd1 s0 n1 se1 se2 b1 l9 l10).val W) (sT 4) = _ from rfl)
  exact @ent_cells ((plNm sd P N S n k l i pe n0 x0 x1 sd1 s0 n1 se1 se2 b1 l9 l10).val W) _ _ _ _ _ _ _ h4 (@ss_cv ((plNm sd P N S n k l i pe n0 x0 x1 sd1 s0 n1 se1 se2 b1 l9 l10).val W) 400 pe.se pls400)
/-- The cells of the entry then. -/
theorem pl_fc {a h : Nat} {e : Ent} (hK : PlK sd k a h i pe n0 x0 x1 sd1 s0 n1 se1 se2 b1 e) : (fcR a h).map (@cv ((plNm sd P N S n k l i pe n0 x0 x1 sd1 s0 n1 se1 se2 b1 l9 l10).val W)) = e.cs := by
  have h1 : @cv ((plNm sd P N S n k l i pe n0 x0 x1 sd1 s0 n1 se1 se2 b1 l9 l10).val W) (if Nat.beq h 5 then (if Nat.blt a 3 then lI 1 else sI 681) else nR a) = .int .i64 (if Nat.beq h 5 then (if Nat.blt a 3 then 1 else n1) else nU a n0) := by
    split
    · split
      · rfl
      · exact pl681
    · exact plnR a
  have h3 : @cv ((plNm sd P N S n k l i pe n0 x0 x1 sd1 s0 n1 se1 se2 b1 l9 l10).val W) (if Nat.beq h 3 then sT 6 else sT 3) = .string (if Nat.beq h 3 then b1 else i.b) := by
    split <;> rfl
  have h4 := @cv4 ((plNm sd P N S n k l i pe n0 x0 x1 sd1 s0 n1 se1 se2 b1 l9 l10).val W) _ _ _ _ _ _ _ _ pl610 h1 (plxR a h) h3
  have hs : (if Nat.beq h 2 then sU 680 :: (List.range 15).map (fun i => sU (701 + i)) else if Nat.beq h 4 then ssR 720 else ssR 700).map (@cv ((plNm sd P N S n k l i pe n0 x0 x1 sd1 s0 n1 se1 se2 b1 l9 l10).val W)) = (List.range 16).map fun j => Value.int .u64 ((if Nat.beq h 2 then (fun j => if j = 0 then s0 else se1 j) else if Nat.beq h 4 then se2 else se1) j) := by
    split
    · rw [List.map_cons, List.map_map, pl680, List.range_succ_eq_map (n := 15), List.map_cons, List.map_map]
      congr 1
    · split
      · exact @ss_cv ((plNm sd P N S n k l i pe n0 x0 x1 sd1 s0 n1 se1 se2 b1 l9 l10).val W) 720 se2 pls720
      · exact @ss_cv ((plNm sd P N S n k l i pe n0 x0 x1 sd1 s0 n1 se1 se2 b1 l9 l10).val W) 700 se1 pls700
  have := @ent_cells ((plNm sd P N S n k l i pe n0 x0 x1 sd1 s0 n1 se1 se2 b1 l9 l10).val W) _ _ _ _ _ _ _ h4 hs
  rw [hK.nx]
  exact this
theorem poT_true {a h : Nat} {e : Ent} (hK : PlK sd k a h i pe n0 x0 x1 sd1 s0 n1 se1 se2 b1 e) : ∀ t, t ∈ poA a ++ (poH h ++ poK) → @TETrue ((plNm sd P N S n k l i pe n0 x0 x1 sd1 s0 n1 se1 se2 b1 l9 l10).val W) t := by
  have e605 := w605 (sd := sd) (P := P) (N := N) (S := S) (n := n) (k := k) (l := l) (x := (plX i.p i.a i.h pe.p pe.n pe.x n0 x0 x1 sd1 s0 n1 pe.se se1 se2)) (y := plY i.b pe.s b1) (z := plZ l9 l10) (W := W)
  have e600 := w600 (sd := sd) (P := P) (N := N) (S := S) (n := n) (k := k) (l := l) (x := (plX i.p i.a i.h pe.p pe.n pe.x n0 x0 x1 sd1 s0 n1 pe.se se1 se2)) (y := plY i.b pe.s b1) (z := plZ l9 l10) (W := W)
  have q611 := pl611 (sd := sd) (P := P) (N := N) (S := S) (n := n) (k := k) (l := l) (i := i) (pe := pe) (n0 := n0) (x0 := x0) (x1 := x1) (sd1 := sd1) (s0 := s0) (n1 := n1) (se1 := se1) (se2 := se2) (b1 := b1) (l9 := l9) (l10 := l10) (W := W)
  have q700 : @cv ((plNm sd P N S n k l i pe n0 x0 x1 sd1 s0 n1 se1 se2 b1 l9 l10).val W) (sU 700) = .int .u64 (se1 0) := congrArg (Value.int .u64) (show wdI sd P N S n k (plX i.p i.a i.h pe.p pe.n pe.x n0 x0 x1 sd1 s0 n1 pe.se se1 se2) (700 + 0) = se1 0 from pls700 0 (by omega))
  have q640 : @cv ((plNm sd P N S n k l i pe n0 x0 x1 sd1 s0 n1 se1 se2 b1 l9 l10).val W) (sI 640) = .int .i64 (wI (pe.n + 1)) := by rw [pl640, hK.kn0]
  have q651 : @cv ((plNm sd P N S n k l i pe n0 x0 x1 sd1 s0 n1 se1 se2 b1 l9 l10).val W) (sU 651) = .int .u64 (w64 (x0 + 1)) := by rw [pl651, hK.kx1]
  have q652 : @cv ((plNm sd P N S n k l i pe n0 x0 x1 sd1 s0 n1 se1 se2 b1 l9 l10).val W) (sU 652) = .int .u64 (w64 (sd + 1)) := by rw [pl652, hK.ksd1]
  have q680 : @cv ((plNm sd P N S n k l i pe n0 x0 x1 sd1 s0 n1 se1 se2 b1 l9 l10).val W) (sU 680) = .int .u64 (w64 (se1 0 + 1)) := by rw [pl680, hK.ks0]
  have q681 : @cv ((plNm sd P N S n k l i pe n0 x0 x1 sd1 s0 n1 se1 se2 b1 l9 l10).val W) (sI 681) = .int .i64 (wI (n0 + 1)) := by rw [pl681, hK.kn1]
  have q6 : @cv ((plNm sd P N S n k l i pe n0 x0 x1 sd1 s0 n1 se1 se2 b1 l9 l10).val W) (sT 6) = .string (i.b ++ ba [120]) := congrArg Value.string hK.kb1
  have hA0 := hK.a0
  have hA1 := hK.a1
  have hA2 := hK.a2
  have hH := hK.hh
  have hbs := hK.bs
  refine fapp (fapp (fapp ?_ ?_) ?_) (fapp ?_ ?_)
  · exact fa (@f_geq ((plNm sd P N S n k l i pe n0 x0 x1 sd1 s0 n1 se1 se2 b1 l9 l10).val W) _ _ _ _ _ _ q611 rfl hA0) fz
  · by_cases h0 : a = 0
    · subst h0
      exact fz
    · have : Nat.beq a 0 = false := Bool.eq_false_iff.2 fun hb => h0 (Nat.eq_of_beq_eq_true hb)
      rw [this]
      exact fa (@f_lss ((plNm sd P N S n k l i pe n0 x0 x1 sd1 s0 n1 se1 se2 b1 l9 l10).val W) _ _ _ _ _ _ q611 e605 (hA1 h0)) fz
  · by_cases h2 : a < 2
    · rw [show Nat.blt a 2 = true from Nat.ble_eq_true_of_le h2]
      exact fz
    · rw [show Nat.blt a 2 = false from Bool.eq_false_iff.2 fun hb => h2 (Nat.le_of_ble_eq_true hb)]
      obtain ⟨g1, g2, g3⟩ := hA2 (by omega)
      refine fa ⟨rfl, .i64, .i64, i.a, (k : Int), q611, e605, ?_⟩ (fa (@f_ieq ((plNm sd P N S n k l i pe n0 x0 x1 sd1 s0 n1 se1 se2 b1 l9 l10).val W) _ _ _ _ _ _ pl620 pl610 g3) (fa (@f_wadd ((plNm sd P N S n k l i pe n0 x0 x1 sd1 s0 n1 se1 se2 b1 l9 l10).val W) _ _ _ _ _ _ pl621 rfl q640 rfl) fz))
      show Value.bool true = _
      congr 1
      exact (decide_eq_true ⟨g1, g2⟩).symm
  · intro t ht
    obtain ⟨j, hj, rfl⟩ := List.mem_map.1 ht
    exact @f_ieq ((plNm sd P N S n k l i pe n0 x0 x1 sd1 s0 n1 se1 se2 b1 l9 l10).val W) _ _ _ _ _ _ pl613 rfl (hH j (List.mem_range.1 hj))
  · refine fa (@f_wadd ((plNm sd P N S n k l i pe n0 x0 x1 sd1 s0 n1 se1 se2 b1 l9 l10).val W) _ _ _ _ _ _ pl650 rfl q651 rfl) (fa (@f_wadd ((plNm sd P N S n k l i pe n0 x0 x1 sd1 s0 n1 se1 se2 b1 l9 l10).val W) _ _ _ _ _ _ e600 rfl q652 rfl) (fa (@f_wadd ((plNm sd P N S n k l i pe n0 x0 x1 sd1 s0 n1 se1 se2 b1 l9 l10).val W) _ _ _ _ _ _ q700 rfl q680 rfl) (fa (@f_wadd ((plNm sd P N S n k l i pe n0 x0 x1 sd1 s0 n1 se1 se2 b1 l9 l10).val W) _ _ _ _ _ _ pl640 rfl q681 rfl) (fa (@f_sadd ((plNm sd P N S n k l i pe n0 x0 x1 sd1 s0 n1 se1 se2 b1 l9 l10).val W) _ _ _ i.b (ba [120]) rfl rfl q6 rfl ?_) fz))))
    rw [ba_size]
    show i.b.size + 1 ≤ 1000000000
    omega
theorem poY_true {a h : Nat} {e : Ent} (hK : PlK sd k a h i pe n0 x0 x1 sd1 s0 n1 se1 se2 b1 e) : ∀ t, t ∈ poY a h → Ans t.f (t.a.map (@cvF ((plNm sd P N S n k l i pe n0 x0 x1 sd1 s0 n1 se1 se2 b1 l9 l10).val W))) (@cvF ((plNm sd P N S n k l i pe n0 x0 x1 sd1 s0 n1 se1 se2 b1 l9 l10).val W) t.r) := by
  have e600 : @cvF ((plNm sd P N S n k l i pe n0 x0 x1 sd1 s0 n1 se1 se2 b1 l9 l10).val W) (sU 600) = .int .u64 sd := rfl
  have q652 : @cvF ((plNm sd P N S n k l i pe n0 x0 x1 sd1 s0 n1 se1 se2 b1 l9 l10).val W) (sU 652) = .int .u64 sd1 := pl652
  have q650 : @cvF ((plNm sd P N S n k l i pe n0 x0 x1 sd1 s0 n1 se1 se2 b1 l9 l10).val W) (sU 650) = .int .u64 x0 := pl650
  have qpe : @cvF ((plNm sd P N S n k l i pe n0 x0 x1 sd1 s0 n1 se1 se2 b1 l9 l10).val W) (.agg peR) = entVal pe.p pe.n pe.x pe.s pe.se := congrArg (fun z : List Value => Value.agg z.toArray) pl_pe
  have k0 := hK.y1
  have k1 := hK.y2
  have k2 := hK.y3
  have k3 := hK.y4
  refine fapp (fa ?_ (fa ?_ fz)) (fapp ?_ ?_)
  · show Ans fSealed [@cvF ((plNm sd P N S n k l i pe n0 x0 x1 sd1 s0 n1 se1 se2 b1 l9 l10).val W) (sU 600), @cv1 ((plNm sd P N S n k l i pe n0 x0 x1 sd1 s0 n1 se1 se2 b1 l9 l10).val W) (e0R a h)] (@cv1 ((plNm sd P N S n k l i pe n0 x0 x1 sd1 s0 n1 se1 se2 b1 l9 l10).val W) (e1R a h))
    rw [e600, pl_e0, show @cv1 ((plNm sd P N S n k l i pe n0 x0 x1 sd1 s0 n1 se1 se2 b1 l9 l10).val W) (e1R a h) = _ from pl_eb a h 700 se1 pls700]
    exact k0
  · show Ans fSealed [@cvF ((plNm sd P N S n k l i pe n0 x0 x1 sd1 s0 n1 se1 se2 b1 l9 l10).val W) (sU 652), @cv1 ((plNm sd P N S n k l i pe n0 x0 x1 sd1 s0 n1 se1 se2 b1 l9 l10).val W) (e1R a h)] (@cv1 ((plNm sd P N S n k l i pe n0 x0 x1 sd1 s0 n1 se1 se2 b1 l9 l10).val W) (.agg ([sI 610, nR a, xR a h, sT 3] ++ ssR 720)))
    rw [q652, show @cv1 ((plNm sd P N S n k l i pe n0 x0 x1 sd1 s0 n1 se1 se2 b1 l9 l10).val W) (e1R a h) = _ from pl_eb a h 700 se1 pls700, pl_eb a h 720 se2 pls720]
    exact k1
  · by_cases h3 : a < 3
    · rw [show Nat.blt a 3 = true from Nat.ble_eq_true_of_le h3]
      exact fz
    · rw [show Nat.blt a 3 = false from Bool.eq_false_iff.2 fun hb => h3 (Nat.le_of_ble_eq_true hb)]
      refine fa ?_ fz
      show Ans fRValid [@cvF ((plNm sd P N S n k l i pe n0 x0 x1 sd1 s0 n1 se1 se2 b1 l9 l10).val W) (.agg peR)] (.bool (Nat.beq a 4))
      rw [qpe]
      exact k2 (by omega)
  · by_cases h4 : a = 4
    · subst h4
      refine fa ?_ fz
      show Ans fRHashOf [@cvF ((plNm sd P N S n k l i pe n0 x0 x1 sd1 s0 n1 se1 se2 b1 l9 l10).val W) (.agg peR)] (@cvF ((plNm sd P N S n k l i pe n0 x0 x1 sd1 s0 n1 se1 se2 b1 l9 l10).val W) (sU 650))
      rw [qpe, q650]
      exact k3 rfl
    · rw [show Nat.beq a 4 = false from Bool.eq_false_iff.2 fun hb => h4 (Nat.eq_of_beq_eq_true hb)]
      exact fz
end
end Go.Proofs.Z

namespace Go.Proofs.Z
open Go Go.RowKit Go.Proofs Go.Ri Go.Proofs.Z.Fa
/-! pool: contract. -/
theorem poS_ok {sd P N S : Int} {n k k' : Nat} {l : List Value} {x x' : Nat → Int} {y y' : Nat → ByteArray} {z z' : Nat → List Value} {W W' : Nat → Value} {r : RV} {L : List SE} (hr : @cv ((wdNm sd P N S n k l x y z).val W) r = .int .i64 (k' : Nat)) (hL : ∀ e, e ∈ L → @okSE ((wdNm sd P N S n k l x y z).val W) ((wdNm sd P N S n k' l x' y' z').val W') e) : ∀ e, e ∈ poS r L → @okSE ((wdNm sd P N S n k l x y z).val W) ((wdNm sd P N S n k' l x' y' z').val W') e :=
  fapp (fwS_ok hr) hL
theorem entsL_LL {es : List Ent} {V : Val} {j : Nat} (hL : V.L 9 = entsL es) (hr : @cv V (sI j) = .int .i64 (es.length : Nat)) : @LLTrue V ⟨9, 20, sI j⟩ :=
  ⟨rfl, es.length, Nat.succ_pos 19, by show (V.L 9).length = _; rw [hL, entsL_len], hr⟩
section
variable {sd P N S : Int} {n k : Nat} {it : Nat → Itm} {i : Itm} {pe : Ent} {m0 e0 e1 sd1 s0 m1 : Int} {se1 se2 : Nat → Int} {b1 : ByteArray} {l9 l10 : List Value} {W : Nat → Value} {es : List Ent} {e : Ent}
theorem plL9 : ((plNm sd P N S n k (itL it n) i pe m0 e0 e1 sd1 s0 m1 se1 se2 b1 l9 l10).val W).L 9 = l9 := rfl
theorem plL10 : ((plNm sd P N S n k (itL it n) i pe m0 e0 e1 sd1 s0 m1 se1 se2 b1 l9 l10).val W).L 10 = l10 := rfl
theorem pl_LL (h9 : l9 = entsL es) (hk : es.length = k) (ne : Bool) : ∀ t, t ∈ (if ne then ⟨9, 20, sI 605⟩ :: fwLL else fwLL) → @LLTrue ((plNm sd P N S n k (itL it n) i pe m0 e0 e1 sd1 s0 m1 se1 se2 b1 l9 l10).val W) t := by
  have hLL := fwLL_true (sd := sd) (P := P) (N := N) (S := S) (n := n) (k := k) (l := itL it n) (x := (plX i.p i.a i.h pe.p pe.n pe.x m0 e0 e1 sd1 s0 m1 pe.se se1 se2)) (y := plY i.b pe.s b1) (z := plZ l9 l10) (W := W) (itL_len it n)
  split
  · exact fa (entsL_LL (es := es) (plL9.trans h9) (by rw [hk]; exact w605)) hLL
  · exact hLL
theorem pl_ok {a h : Nat} (hK : PlK sd k a h i pe m0 e0 e1 sd1 s0 m1 se1 se2 b1 e) (hlt : k < n) (hn : n ≤ 24) (hi : i = it k) (h9 : l9 = entsL es) (hk : es.length = k) (hpe : pe = es.getD i.a.toNat entZ) (h10 : l10 = l9 ++ e.cs) (ne : Bool) : @TbOK ((plNm sd P N S n k (itL it n) i pe m0 e0 e1 sd1 s0 m1 se1 se2 b1 l9 l10).val W) (poTb ne a h) := by
  have hstp := stp_true (sd := sd) (P := P) (N := N) (S := S) (n := n) (k := k) (l := itL it n) (x := (plX i.p i.a i.h pe.p pe.n pe.x m0 e0 e1 sd1 s0 m1 pe.se se1 se2)) (y := plY i.b pe.s b1) (z := plZ l9 l10) (W := W) (by omega) (decide_eq_true hlt)
  have hX := itX_true (sd := sd) (P := P) (N := N) (S := S) (n := n) (k := k) (it := it) (x := (plX i.p i.a i.h pe.p pe.n pe.x m0 e0 e1 sd1 s0 m1 pe.se se1 se2)) (y := plY i.b pe.s b1) (z := plZ l9 l10) (W := W) hlt (by rw [← hi]; simp [plX]) (by rw [← hi]; simp [plX]) (by rw [← hi]; simp [plX]) (by rw [← hi]; rfl)
  have hT := poT_true (P := P) (N := N) (S := S) (n := n) (l := itL it n) (l9 := l9) (l10 := l10) (W := W) hK
  have hY := poY_true (P := P) (N := N) (S := S) (n := n) (l := itL it n) (l9 := l9) (l10 := l10) (W := W) hK
  have hfc := pl_fc (P := P) (N := N) (S := S) (n := n) (l := itL it n) (l9 := l9) (l10 := l10) (W := W) hK
  have hLL := pl_LL (sd := sd) (P := P) (N := N) (S := S) (n := n) (it := it) (i := i) (pe := pe) (m0 := m0) (e0 := e0) (e1 := e1) (sd1 := sd1) (s0 := s0) (m1 := m1) (se1 := se1) (se2 := se2) (b1 := b1) (l10 := l10) (W := W) h9 hk ne
  have hX9 : ∀ t, t ∈ (if Nat.blt a 2 then [] else ([⟨9, 611, peR⟩] : List LEE)) → @LXTrue ((plNm sd P N S n k (itL it n) i pe m0 e0 e1 sd1 s0 m1 se1 se2 b1 l9 l10).val W) t := by
    by_cases h2 : a < 2
    · rw [show Nat.blt a 2 = true from Nat.ble_eq_true_of_le h2]
      exact fz
    · rw [show Nat.blt a 2 = false from Bool.eq_false_iff.2 fun hb => h2 (Nat.le_of_ble_eq_true hb)]
      obtain ⟨g1, g2, _⟩ := hK.a2 (by omega)
      have hi : wdI sd P N S n k (plX i.p i.a i.h pe.p pe.n pe.x m0 e0 e1 sd1 s0 m1 pe.se se1 se2) 611 = i.a := (wdI_x (by omega)).trans (by simp [plX])
      refine fa ⟨rfl, ?_, ?_⟩ fz
      · show (wdI sd P N S n k (plX i.p i.a i.h pe.p pe.n pe.x m0 e0 e1 sd1 s0 m1 pe.se se1 se2) 611).toNat * 20 + 20 ≤ l9.length
        rw [hi, h9, entsL_len, hk]
        omega
      · show (l9.drop ((wdI sd P N S n k (plX i.p i.a i.h pe.p pe.n pe.x m0 e0 e1 sd1 s0 m1 pe.se se1 se2) 611).toNat * 20)).take 20 = peR.map (@cv ((plNm sd P N S n k (itL it n) i pe m0 e0 e1 sd1 s0 m1 se1 se2 b1 l9 l10).val W))
        rw [hi, h9, entsL_at _ _ (by omega), ← hpe]
        exact pl_pe.symm
  have hA : ∀ t, t ∈ (if ne then [⟨9, fcR a h, 10⟩] else ([] : List LAE)) → @LATrue ((plNm sd P N S n k (itL it n) i pe m0 e0 e1 sd1 s0 m1 se1 se2 b1 l9 l10).val W) t := by
    split
    · refine fa ⟨?_, ?_, ?_⟩ fz
      · show l10 = l9 ++ (fcR a h).map (@cv ((plNm sd P N S n k (itL it n) i pe m0 e0 e1 sd1 s0 m1 se1 se2 b1 l9 l10).val W))
        rw [hfc]
        exact h10
      · show l10.length ≤ 1000000
        rw [h10, h9, List.length_append, entsL_len, hk, show e.cs.length = 20 from entCs_len _ _ _ _ _]
        omega
      · show ∀ v, v ∈ l9 → v.oneCell' = true
        rw [h9]
        exact entsL_one
    · exact fz
  letI : Val := ((plNm sd P N S n k (itL it n) i pe m0 e0 e1 sd1 s0 m1 se1 se2 b1 l9 l10).val W)
  exact { T := fapp hstp hT, LL := hLL, LX := fa hX hX9, LA := hA, Y := hY }
end
/-- Names at the k-th item. -/
structure PlG (sd P N S : Int) (n k : Nat) (it : Nat → Itm) (i : Itm) (pe : Ent) (n0 x0 x1 sd1 s0 n1 : Int) (se1 se2 : Nat → Int) (b1 : ByteArray) (es : List Ent) (e : Ent) (l9 l10 : List Value) (c : Nm) : Prop where
  gc : c = plNm sd P N S n k (itL it n) i pe n0 x0 x1 sd1 s0 n1 se1 se2 b1 l9 l10
  ges : es = poolE sd it k
  gl9 : l9 = entsL es
  gi : i = it k
  gk : k < n → pe = es.getD i.a.toNat entZ ∧ PlK sd k (bCls es i) (hCls i) i pe n0 x0 x1 sd1 s0 n1 se1 se2 b1 e ∧ e = nextE sd es i ∧ l10 = l9 ++ e.cs
def PlN (sd P N S : Int) (n k : Nat) (it : Nat → Itm) (c : Nm) : Prop := ∃ i pe n0 x0 x1 sd1 s0 n1 se1 se2 b1 es e l9 l10, PlG sd P N S n k it i pe n0 x0 x1 sd1 s0 n1 se1 se2 b1 es e l9 l10 c
theorem plN_ex {sd : Int} (P N S : Int) {n : Nat} {it : Nat → Itm} (hsd : 0 ≤ sd ∧ sd < 18446744073709551616) (hok : okB it n = true) (k : Nat) : ∃ c, PlN sd P N S n k it c := by
  by_cases hk : k < n
  · obtain ⟨n0, x0, x1, sd1, s0, n1, se1, se2, b1, h⟩ := plK_is (i := it k) hsd (poolE_ok (sd := sd) (it := it) k) (okB_at hok hk)
    rw [poolE_len] at h
    exact ⟨_, it k, _, n0, x0, x1, sd1, s0, n1, se1, se2, b1, poolE sd it k, _, _, _, ⟨rfl, rfl, rfl, rfl, fun _ => ⟨rfl, h, rfl, rfl⟩⟩⟩
  · exact ⟨_, it k, entZ, 0, 0, 0, 0, 0, 0, fun _ => 0, fun _ => 0, ⟨#[]⟩, poolE sd it k, entZ, _, [], ⟨rfl, rfl, rfl, rfl, fun h => absurd h hk⟩⟩
theorem poR_w (ne : Bool) : isW (poR ne) = false := by cases ne <;> rfl
theorem pool_ans {sd P N S : Int} {n : Nat} {it : Nat → Itm} {k0 : Nat} {x0 : Nat → Int} {y0 : Nat → ByteArray} {z0 : Nat → List Value} {W0 : Nat → Value} (hsd : 0 ≤ sd ∧ sd < 18446744073709551616) (hn : n ≤ 24) (hok : okB it n = true) (V : Val) (hV : V.L 9 = entsL (poolE sd it n)) :
    ∀ w, RoIn ro w → ∀ vs, All2 (@Go.Ri.NVal ((wdNm sd P N S n k0 (itL it n) x0 y0 z0).val W0) w) [wldR] vs → Calls Try.prog fPool vs.toArray w (DQ V (poR (!Nat.beq n 0)) (poHp (!Nat.beq n 0)) w) := by
  intro w hr vs hv
  have ht0 : @TbOK ((wdNm sd P N S n k0 (itL it n) x0 y0 z0).val W0) { LL := fwLL } := by
    have hL := fwLL_true (sd := sd) (P := P) (N := N) (S := S) (n := n) (k := k0) (l := itL it n) (x := x0) (y := y0) (z := z0) (W := W0) (itL_len it n)
    letI : Val := (wdNm sd P N S n k0 (itL it n) x0 y0 z0).val W0
    exact { LL := hL }
  obtain ⟨c1, hc1⟩ := plN_ex P N S hsd hok 0
  have hS0 : ∀ W' e, e ∈ poS (lI 0) [] → @okSE ((wdNm sd P N S n k0 (itL it n) x0 y0 z0).val W0) (c1.val W') e := by
    intro W' e he
    obtain ⟨i, pe, m0, e0, e1, sd1, s0, m1, se1, se2, b1, es, e', l9, l10, hG⟩ := hc1
    rw [hG.gc]
    exact poS_ok (k' := 0) rfl fz e he
  refine fn_headsN (κ := Bool) (wdNm sd P N S n k0 (itL it n) x0 y0 z0) W0 { LL := fwLL } [] fPool [wldR] (fun _ => 0) poP (fun m ne c => ∃ k, k ≤ n ∧ m = n - k ∧ ne = (!Nat.beq k 0) ∧ PlN sd P N S n k it c) ht0 (poS (lI 0) []) [0, 1] false n po_enter c1 (fun W' => holds_all (hS0 W')) ⟨0, Nat.zero_le _, rfl, rfl, hc1⟩ (DQ V (poR (!Nat.beq n 0)) (poHp (!Nat.beq n 0))) ?_ w hr vs hv
  clear hc1 hS0 hv hr
  rintro w m ne c ⟨k, hk, rfl, rfl, i, pe, m0, e0, e1, sd1, s0, m1, se1, se2, b1, es, e, l9, l10, hG⟩ W
  obtain ⟨rfl, hes, h9, hi, hK⟩ := hG
  have hlen9 : es.length = k := by rw [hes, poolE_len]
  rcases Nat.lt_or_ge k n with hlt | hge
  · obtain ⟨hpe, hK, hne, h10⟩ := hK hlt
    have ht := fun ne => pl_ok (P := P) (N := N) (S := S) (it := it) (W := W) hK hlt hn hi h9 hlen9 hpe h10 ne
    have hfc := pl_fc (P := P) (N := N) (S := S) (n := n) (l := itL it n) (l9 := l9) (l10 := l10) (W := W) hK
    obtain ⟨c2, hc2⟩ := plN_ex P N S hsd hok (k + 1)
    have ha4 := bCls_le es i
    have hh5 := hCls_le i
    have ha1 : k = 0 → bCls es i < 2 := fun h0 => by
      rcases bCls_cases es i with ⟨h, _⟩ | ⟨h, _⟩ | ⟨h, _, g, _⟩ | ⟨h, _, g, _⟩ | ⟨h, _, g, _⟩ <;> omega
    have hc2' := hc2
    obtain ⟨i', pe', m0', e0', e1', sd1', s0', m1', se1', se2', b1', es', e', l9', l10', hG'⟩ := hc2'
    obtain ⟨rfl, hes', h9', _, _⟩ := hG'
    have hnext : l9' = l9 ++ e.cs := by
      rw [h9', hes', h9]
      show entsL (poolE sd it k ++ [nextE sd (poolE sd it k) (it k)]) = _
      rw [entsL_snoc, ← hes, ← hi, ← hne]
    clear hes' h9' hes hne hpe hK hi
    by_cases h0 : k = 0
    · subst h0
      have h9n : l9 = [] := by
        rw [h9, List.length_eq_zero_iff.1 hlen9]
        rfl
      refine stepH_to (poTb false (bCls es i) (hCls i)) [] (ht false) (poS (sI 606) [.new 9 (fcR (bCls es i) (hCls i))]) [0, 1, 5] rfl true _ (allU_lt (allU_lt po_first _ (ha1 rfl)) _ (by omega)) (fun W' => holds_all (poS_ok (k' := 1) w606 (fa ?_ fz))) ⟨n - 1, by omega, 1, hlt, rfl, rfl, hc2⟩
      refine plL9.trans (Eq.trans ?_ hfc.symm)
      rw [hnext, h9n]
      rfl
    · have hb0 : Nat.beq k 0 = false := Bool.eq_false_iff.2 fun hb => h0 (Nat.eq_of_beq_eq_true hb)
      rw [hb0]
      refine stepH_to (poTb true (bCls es i) (hCls i)) [] (ht true) (poS (sI 606) [.lst 9 10]) [0, 1, 6] rfl true _ (allU_lt (allU_lt po_again _ (by omega)) _ (by omega)) (fun W' => holds_all (poS_ok (k' := k + 1) w606 (fa ?_ fz))) ⟨n - (k + 1), by omega, k + 1, hlt, rfl, rfl, hc2⟩
      exact plL9.trans ((hnext.trans h10.symm).trans plL10.symm)
  · obtain rfl : k = n := by omega
    have hstp := stp_true (sd := sd) (P := P) (N := N) (S := S) (n := k) (k := k) (l := itL it k) (x := plX i.p i.a i.h pe.p pe.n pe.x m0 e0 e1 sd1 s0 m1 pe.se se1 se2) (y := plY i.b pe.s b1) (z := plZ l9 l10) (W := W) (by omega) (decide_eq_false (Nat.lt_irrefl k))
    have hLL := pl_LL (sd := sd) (P := P) (N := N) (S := S) (n := k) (it := it) (i := i) (pe := pe) (m0 := m0) (e0 := e0) (e1 := e1) (sd1 := sd1) (s0 := s0) (m1 := m1) (se1 := se1) (se2 := se2) (b1 := b1) (l10 := l10) (W := W) h9 hlen9 (!Nat.beq k 0)
    have ht : @TbOK ((plNm sd P N S k k (itL it k) i pe m0 e0 e1 sd1 s0 m1 se1 se2 b1 l9 l10).val W) (poEnd (!Nat.beq k 0)) := by
      letI : Val := (plNm sd P N S k k (itL it k) i pe m0 e0 e1 sd1 s0 m1 se1 se2 b1 l9 l10).val W
      exact { T := hstp, LL := hLL }
    have hVl : V.L 9 = l9 := by rw [hV, h9, hes]
    have ho := all2_all po_out (!Nat.beq k 0)
    refine stepH_outQ (poEnd (!Nat.beq k 0)) [] ht V _ _ _ _ ho (poR_w _) (holds_all ?_)
    split
    · exact fa (hVl.trans plL9.symm) fz
    · exact fz
end Go.Proofs.Z

namespace Go.Proofs.Z
open Go Go.RowKit Go.Proofs Go.Ri Go.Proofs.Z.Fa
/-! sticksOf: contract. -/
def stCs (im : Nat → Int) : List Value := (List.range 32).map fun i => Value.int .u64 (im i)
theorem stCs_len (im : Nat → Int) : (stCs im).length = 32 := by
  unfold stCs
  rw [List.length_map, List.length_range]
theorem stCs_one {im : Nat → Int} : ∀ v, v ∈ stCs im → v.oneCell' = true := by
  intro v hv
  obtain ⟨i, _, rfl⟩ := List.mem_map.1 hv
  rfl
/-- A parish's sticks. -/
def rowM (sd : Int) (p : Nat) : Nat → List Value
  | 0 => []
  | j + 1 => rowM sd p j ++ stCs (stkM sd p j)
theorem rowM_len (sd : Int) (p : Nat) : ∀ j, (rowM sd p j).length = j * 32
  | 0 => rfl
  | j + 1 => by
    show (rowM sd p j ++ _).length = _
    rw [List.length_append, rowM_len sd p j, stCs_len]
    omega
theorem rowM_one {sd : Int} {p : Nat} : ∀ j v, v ∈ rowM sd p j → v.oneCell' = true
  | 0, v, h => by cases h
  | j + 1, v, h => by
    rcases List.mem_append.1 (show v ∈ rowM sd p j ++ stCs (stkM sd p j) from h) with h | h
    · exact rowM_one j v h
    · exact stCs_one v h
def outM (sd : Int) (N : Nat) : Nat → List Value
  | 0 => []
  | p + 1 => outM sd N p ++ [.agg (rowM sd p N).toArray]
theorem outM_len (sd : Int) (N : Nat) : ∀ p, (outM sd N p).length = p
  | 0 => rfl
  | p + 1 => by
    show (outM sd N p ++ _).length = _
    rw [List.length_append, outM_len sd N p]
    rfl
def sqX (j : Nat) (im : Nat → Int) (er : Int) (k : Nat) : Int := if k = 607 then (j : Int) else if k = 608 then (j : Int) + 1 else if k = 14 then er else im (k - 200)
def sqZ (l11 l12 l20 l21 : List Value) (k : Nat) : List Value := if k = 11 then l11 else if k = 12 then l12 else if k = 20 then l20 else l21
section
variable {sd P N S : Int} {n p : Nat} {l : List Value} {j : Nat} {im : Nat → Int} {er : Int} {y : Nat → ByteArray} {l11 l12 l20 l21 : List Value} {W : Nat → Value}
theorem sq11 : ((wdNm sd P N S n p l (sqX j im er) y (sqZ l11 l12 l20 l21)).val W).L 11 = l11 := rfl
theorem sq12 : ((wdNm sd P N S n p l (sqX j im er) y (sqZ l11 l12 l20 l21)).val W).L 12 = l12 := rfl
theorem sq20 : ((wdNm sd P N S n p l (sqX j im er) y (sqZ l11 l12 l20 l21)).val W).L 20 = l20 := rfl
theorem sq21 : ((wdNm sd P N S n p l (sqX j im er) y (sqZ l11 l12 l20 l21)).val W).L 21 = l21 := rfl
theorem sq607 : @cv ((wdNm sd P N S n p l (sqX j im er) y (sqZ l11 l12 l20 l21)).val W) (sI 607) = .int .i64 (j : Nat) := congrArg (Value.int .i64) ((show wdI sd P N S n p (sqX j im er) 607 = sqX j im er 607 from wdI_x (by omega)).trans (by simp [sqX]))
theorem sq608 : @cv ((wdNm sd P N S n p l (sqX j im er) y (sqZ l11 l12 l20 l21)).val W) (sI 608) = .int .i64 ((j : Int) + 1) := congrArg (Value.int .i64) ((show wdI sd P N S n p (sqX j im er) 608 = sqX j im er 608 from wdI_x (by omega)).trans (by simp [sqX]))
theorem sq14 : @cv ((wdNm sd P N S n p l (sqX j im er) y (sqZ l11 l12 l20 l21)).val W) (sI 14) = .int .i64 er := congrArg (Value.int .i64) ((show wdI sd P N S n p (sqX j im er) 14 = sqX j im er 14 from wdI_x (by omega)).trans (by simp [sqX]))
theorem sq_cs : skC.map (@cv ((wdNm sd P N S n p l (sqX j im er) y (sqZ l11 l12 l20 l21)).val W)) = stCs im := by
  unfold skC stCs
  rw [List.map_map]
  refine List.map_congr_left fun i hi => ?_
  have hi := List.mem_range.1 hi
  show Value.int .u64 (wdI sd P N S n p (sqX j im er) (200 + i)) = _
  rw [wdI_x (by omega)]
  unfold sqX
  rw [if_neg (by omega), if_neg (by omega), if_neg (by omega), Nat.add_sub_cancel_left]
theorem sqT_true (hp : p ≤ 1000) (hj : j ≤ 1000) : ∀ e, e ∈ sqT → @TETrue ((wdNm sd P N S n p l (sqX j im er) y (sqZ l11 l12 l20 l21)).val W) e := by
  have e5 := w605 (sd := sd) (P := P) (N := N) (S := S) (n := n) (k := p) (l := l) (x := sqX j im er) (y := y) (z := sqZ l11 l12 l20 l21) (W := W)
  have e6 := w606 (sd := sd) (P := P) (N := N) (S := S) (n := n) (k := p) (l := l) (x := sqX j im er) (y := y) (z := sqZ l11 l12 l20 l21) (W := W)
  have q7 := sq607 (sd := sd) (P := P) (N := N) (S := S) (n := n) (p := p) (l := l) (j := j) (im := im) (er := er) (y := y) (l11 := l11) (l12 := l12) (l20 := l20) (l21 := l21) (W := W)
  have q8 := sq608 (sd := sd) (P := P) (N := N) (S := S) (n := n) (p := p) (l := l) (j := j) (im := im) (er := er) (y := y) (l11 := l11) (l12 := l12) (l20 := l20) (l21 := l21) (W := W)
  letI : Val := ((wdNm sd P N S n p l (sqX j im er) y (sqZ l11 l12 l20 l21)).val W)
  exact fa (f_addL (m := (p : Int)) e5 e6 rfl (by omega) (by omega)) (fa (f_addL (m := (j : Int)) q7 q8 rfl (by omega) (by omega)) fz)
theorem sqp_true {b : Bool} (hb : decide ((p : Int) < P) = b) : ∀ e, e ∈ sqp b → @TETrue ((wdNm sd P N S n p l (sqX j im er) y (sqZ l11 l12 l20 l21)).val W) e := by
  have e5 := w605 (sd := sd) (P := P) (N := N) (S := S) (n := n) (k := p) (l := l) (x := sqX j im er) (y := y) (z := sqZ l11 l12 l20 l21) (W := W)
  have e1 := w601 (sd := sd) (P := P) (N := N) (S := S) (n := n) (k := p) (l := l) (x := sqX j im er) (y := y) (z := sqZ l11 l12 l20 l21) (W := W)
  letI : Val := ((wdNm sd P N S n p l (sqX j im er) y (sqZ l11 l12 l20 l21)).val W)
  exact fa (f_lss e5 e1 hb) fz
theorem sqn_true {b : Bool} (hb : decide ((j : Int) < N) = b) : ∀ e, e ∈ sqn b → @TETrue ((wdNm sd P N S n p l (sqX j im er) y (sqZ l11 l12 l20 l21)).val W) e := by
  have e2 := w602 (sd := sd) (P := P) (N := N) (S := S) (n := n) (k := p) (l := l) (x := sqX j im er) (y := y) (z := sqZ l11 l12 l20 l21) (W := W)
  have q7 := sq607 (sd := sd) (P := P) (N := N) (S := S) (n := n) (p := p) (l := l) (j := j) (im := im) (er := er) (y := y) (l11 := l11) (l12 := l12) (l20 := l20) (l21 := l21) (W := W)
  letI : Val := ((wdNm sd P N S n p l (sqX j im er) y (sqZ l11 l12 l20 l21)).val W)
  exact fa (f_lss q7 e2 hb) fz
theorem sqO_ok (hp : p ≤ 1000) (hj : j ≤ 1000) {b : Bool} (hb : decide ((p : Int) < P) = b) : @TbOK ((wdNm sd P N S n p l (sqX j im er) y (sqZ l11 l12 l20 l21)).val W) (sqO b) := by
  have h1 := sqT_true (sd := sd) (P := P) (N := N) (S := S) (n := n) (l := l) (im := im) (er := er) (y := y) (l11 := l11) (l12 := l12) (l20 := l20) (l21 := l21) (W := W) hp hj
  have h2 := sqp_true (sd := sd) (N := N) (S := S) (n := n) (l := l) (j := j) (im := im) (er := er) (y := y) (l11 := l11) (l12 := l12) (l20 := l20) (l21 := l21) (W := W) hb
  letI : Val := ((wdNm sd P N S n p l (sqX j im er) y (sqZ l11 l12 l20 l21)).val W)
  exact { T := fapp h1 h2 }
theorem sqI_ok (hp : p ≤ 1000) (hj : j ≤ 1000) (hN : (j : Int) < N) (hM : Ans fRMk [.int .u64 sd, .int .i64 (p : Nat), .int .i64 (j : Nat)] (tup2 (stkV im) (.int .i64 er))) (h12 : l12 = l11 ++ stCs im) (hl : l11.length ≤ 100000) (h1 : ∀ v, v ∈ l11 → v.oneCell' = true) (nb : Bool) : @TbOK ((wdNm sd P N S n p l (sqX j im er) y (sqZ l11 l12 l20 l21)).val W) (sqI nb) := by
  have g1 := sqT_true (sd := sd) (P := P) (N := N) (S := S) (n := n) (l := l) (im := im) (er := er) (y := y) (l11 := l11) (l12 := l12) (l20 := l20) (l21 := l21) (W := W) hp hj
  have g2 := sqn_true (sd := sd) (P := P) (S := S) (n := n) (p := p) (l := l) (im := im) (er := er) (y := y) (l11 := l11) (l12 := l12) (l20 := l20) (l21 := l21) (W := W) (decide_eq_true hN)
  have e5 : @cvF ((wdNm sd P N S n p l (sqX j im er) y (sqZ l11 l12 l20 l21)).val W) (sI 605) = .int .i64 (p : Nat) := w605
  have e0 : @cvF ((wdNm sd P N S n p l (sqX j im er) y (sqZ l11 l12 l20 l21)).val W) (sU 600) = .int .u64 sd := w600
  have q7 : @cvF ((wdNm sd P N S n p l (sqX j im er) y (sqZ l11 l12 l20 l21)).val W) (sI 607) = .int .i64 (j : Nat) := sq607
  have q14 : @cv ((wdNm sd P N S n p l (sqX j im er) y (sqZ l11 l12 l20 l21)).val W) (sI 14) = .int .i64 er := sq14
  have hs : @cv1 ((wdNm sd P N S n p l (sqX j im er) y (sqZ l11 l12 l20 l21)).val W) (.agg skC) = stkV im := congrArg (fun z : List Value => Value.agg z.toArray) sq_cs
  have hY : Ans fRMk [@cvF ((wdNm sd P N S n p l (sqX j im er) y (sqZ l11 l12 l20 l21)).val W) (sU 600), @cvF ((wdNm sd P N S n p l (sqX j im er) y (sqZ l11 l12 l20 l21)).val W) (sI 605), @cvF ((wdNm sd P N S n p l (sqX j im er) y (sqZ l11 l12 l20 l21)).val W) (sI 607)] (tup2 (@cv1 ((wdNm sd P N S n p l (sqX j im er) y (sqZ l11 l12 l20 l21)).val W) (.agg skC)) (@cv ((wdNm sd P N S n p l (sqX j im er) y (sqZ l11 l12 l20 l21)).val W) (sI 14))) := by
    rw [e0, e5, q7, q14, hs]
    exact hM
  have hA : ∀ t, t ∈ (if nb then [⟨11, skC, 12⟩] else ([] : List LAE)) → @LATrue ((wdNm sd P N S n p l (sqX j im er) y (sqZ l11 l12 l20 l21)).val W) t := by
    split
    · refine fa ⟨?_, ?_, ?_⟩ fz
      · show l12 = l11 ++ skC.map (@cv ((wdNm sd P N S n p l (sqX j im er) y (sqZ l11 l12 l20 l21)).val W))
        rw [sq_cs]
        exact h12
      · show l12.length ≤ 1000000
        rw [h12, List.length_append, stCs_len]
        omega
      · exact h1
    · exact fz
  letI : Val := ((wdNm sd P N S n p l (sqX j im er) y (sqZ l11 l12 l20 l21)).val W)
  exact { T := fapp g1 g2, Y := fa hY fz, LA := hA }
theorem sqE_ok (hp : p ≤ 1000) (hj : j ≤ 1000) (hN : N ≤ (j : Int)) (ne : Bool) (h20 : ne = false → l20 = []) (h21 : l21 = l20 ++ [.agg l11.toArray]) (hl : l20.length ≤ 1000) : @TbOK ((wdNm sd P N S n p l (sqX j im er) y (sqZ l11 l12 l20 l21)).val W) (sqE ne) := by
  have g1 := sqT_true (sd := sd) (P := P) (N := N) (S := S) (n := n) (l := l) (im := im) (er := er) (y := y) (l11 := l11) (l12 := l12) (l20 := l20) (l21 := l21) (W := W) hp hj
  have g2 := sqn_true (sd := sd) (P := P) (S := S) (n := n) (p := p) (l := l) (im := im) (er := er) (y := y) (l11 := l11) (l12 := l12) (l20 := l20) (l21 := l21) (W := W) (b := false) (decide_eq_false (show ¬ ((j : Int) < N) by omega))
  have hA : ∀ t, t ∈ [(⟨if ne then some 20 else none, 11, 21⟩ : LNL)] → @LNATrue ((wdNm sd P N S n p l (sqX j im er) y (sqZ l11 l12 l20 l21)).val W) t := by
    refine fa ⟨?_, ?_⟩ fz
    · cases ne
      · show l21 = [] ++ [.agg l11.toArray]
        rw [h21, h20 rfl]
      · show l21 = l20 ++ [.agg l11.toArray]
        exact h21
    · show l21.length ≤ 1000000
      rw [h21, List.length_append]
      show l20.length + 1 ≤ _
      omega
  letI : Val := ((wdNm sd P N S n p l (sqX j im er) y (sqZ l11 l12 l20 l21)).val W)
  exact { T := fapp g1 g2, LNA := hA }
theorem sqS_ok {p' : Nat} {j' : Nat} {im' : Nat → Int} {er' : Int} {y' : Nat → ByteArray} {m11 m12 m20 m21 : List Value} {W' : Nat → Value} {a b : RV} {J : Nat} {L : List SE} (ha : @cv ((wdNm sd P N S n p l (sqX j im er) y (sqZ l11 l12 l20 l21)).val W) a = .int .i64 (p' : Nat)) (hb : @cv ((wdNm sd P N S n p l (sqX j im er) y (sqZ l11 l12 l20 l21)).val W) b = .int .i64 (j' : Nat)) (hJ : m20 = ((wdNm sd P N S n p l (sqX j im er) y (sqZ l11 l12 l20 l21)).val W).L J) (hL : ∀ e, e ∈ L → @okSE ((wdNm sd P N S n p l (sqX j im er) y (sqZ l11 l12 l20 l21)).val W) ((wdNm sd P N S n p' l (sqX j' im' er') y' (sqZ m11 m12 m20 m21)).val W') e) :
    ∀ e, e ∈ sqS a b J L → @okSE ((wdNm sd P N S n p l (sqX j im er) y (sqZ l11 l12 l20 l21)).val W) ((wdNm sd P N S n p' l (sqX j' im' er') y' (sqZ m11 m12 m20 m21)).val W') e := by
  have q7 : wdI sd P N S n p' (sqX j' im' er') 607 = (j' : Nat) := (wdI_x (by omega)).trans (by simp [sqX])
  have hJ' : ((wdNm sd P N S n p' l (sqX j' im' er') y' (sqZ m11 m12 m20 m21)).val W').L 20 = ((wdNm sd P N S n p l (sqX j im er) y (sqZ l11 l12 l20 l21)).val W).L J := sq20.trans hJ
  refine fapp (fa ⟨.u64, sd, w600, rfl⟩ (fa ⟨.i64, P, w601, rfl⟩ (fa ⟨.i64, N, w602, show wdI sd P N S n p' (sqX j' im' er') 602 = N by simp [wdI]⟩ (fa ⟨.i64, S, w603, show wdI sd P N S n p' (sqX j' im' er') 603 = S by simp [wdI]⟩ (fa ⟨.i64, (n : Nat), w604, show wdI sd P N S n p' (sqX j' im' er') 604 = (n : Nat) by simp [wdI]⟩ (fa ⟨.i64, (p' : Nat), ha, show wdI sd P N S n p' (sqX j' im' er') 605 = (p' : Nat) by simp [wdI]⟩ (fa ⟨.i64, (j' : Nat), hb, q7⟩ (fa rfl (fa hJ' fz))))))))) hL
end
end Go.Proofs.Z

namespace Go.Proofs.Z
open Go Go.RowKit Go.Proofs Go.Ri Go.Proofs.Z.Fa
/-! sticksOf: contract. -/
structure SqG (sd P N S : Int) (n p : Nat) (l : List Value) (j : Nat) (im : Nat → Int) (er : Int) (y : Nat → ByteArray) (l11 l12 l20 l21 : List Value) (c : Nm) : Prop where
  gc : c = wdNm sd P N S n p l (sqX j im er) y (sqZ l11 l12 l20 l21)
  g11 : l11 = rowM sd p j
  g12 : l12 = rowM sd p (j + 1)
  g12' : l12 = l11 ++ stCs im
  g20 : l20 = outM sd N.toNat p
  g21 : j = N.toNat → l21 = outM sd N.toNat (p + 1)
  g21' : l21 = l20 ++ [.agg l11.toArray]
  gm : Ans fRMk [.int .u64 sd, .int .i64 (p : Nat), .int .i64 (j : Nat)] (tup2 (stkV im) (.int .i64 er))
def SqN (sd P N S : Int) (n p : Nat) (l : List Value) (j : Nat) (c : Nm) : Prop := ∃ im er y l11 l12 l20 l21, SqG sd P N S n p l j im er y l11 l12 l20 l21 c
theorem sqN_ex {sd : Int} (P N S : Int) (n : Nat) (l : List Value) (hsd : 0 ≤ sd ∧ sd < 18446744073709551616) (p j : Nat) : ∃ c, SqN sd P N S n p l j c := by
  have hm := mk_ans false (x := sd) (p := (p : Nat)) (n := (j : Nat)) hsd.1 hsd.2
  exact ⟨_, stkM sd (p : Nat) (j : Nat), secE (p : Nat) (j : Nat) 0 0, fun _ => ⟨#[]⟩, rowM sd p j, rowM sd p (j + 1), outM sd N.toNat p, outM sd N.toNat p ++ [.agg (rowM sd p j).toArray], ⟨rfl, rfl, rfl, rfl, rfl, (fun h => by rw [h]; rfl), rfl, hm⟩⟩
theorem sticks_ans {sd P N S : Int} {n : Nat} {l : List Value} {k0 : Nat} {x0 : Nat → Int} {y0 : Nat → ByteArray} {z0 : Nat → List Value} {W0 : Nat → Value} (hl : l.length = n * 4) (hsd : 0 ≤ sd ∧ sd < 18446744073709551616) (hP : 1 ≤ P ∧ P ≤ 3) (hN : 1 ≤ N ∧ N ≤ 6) (V : Val) (hV : V.L 20 = outM sd N.toNat P.toNat) :
    ∀ w, RoIn ro w → ∀ vs, All2 (@Go.Ri.NVal ((wdNm sd P N S n k0 l x0 y0 z0).val W0) w) [wldR] vs → Calls Try.prog fSticksOf vs.toArray w (DQ V (.slN 0 20 1) [some (.lstL 20 tSticks 32)] w) := by
  intro w hr vs hv
  have ht0 : @TbOK ((wdNm sd P N S n k0 l x0 y0 z0).val W0) { LL := fwLL } := by
    have hL := fwLL_true (sd := sd) (P := P) (N := N) (S := S) (n := n) (k := k0) (l := l) (x := x0) (y := y0) (z := z0) (W := W0) hl
    letI : Val := (wdNm sd P N S n k0 l x0 y0 z0).val W0
    exact { LL := hL }
  obtain ⟨c1, hc1⟩ := sqN_ex P N S n l hsd 0 0
  have hS0 : ∀ W' e, e ∈ fwS (lI 0) ++ [SE.int 607 (lI 0)] → @okSE ((wdNm sd P N S n k0 l x0 y0 z0).val W0) (c1.val W') e := by
    intro W'
    obtain ⟨im, er, y, l11, l12, l20, l21, hG⟩ := hc1
    obtain ⟨rfl, _, _, _, _, _, _, _⟩ := hG
    have q7 : wdI sd P N S n 0 (sqX 0 im er) 607 = (0 : Nat) := (wdI_x (by omega)).trans (by simp [sqX])
    exact fapp (fwS_ok (k' := 0) rfl) (fa ⟨.i64, 0, rfl, q7⟩ fz)
  refine fn_headsN (κ := Bool × Option Bool) (wdNm sd P N S n k0 l x0 y0 z0) W0 { LL := fwLL } [] fSticksOf [wldR] (fun κ => if κ.2.isSome then 1 else 0) (fun κ => sqP κ.1 κ.2)
    (fun m κ c => ∃ p j : Nat, SqN sd P N S n p l j c ∧ κ.1 = (!Nat.beq p 0) ∧ ((κ.2 = none ∧ p ≤ P.toNat ∧ j = 0 ∧ m = (P.toNat - p) * (N.toNat + 2)) ∨ (κ.2 = some (!Nat.beq j 0) ∧ p < P.toNat ∧ j ≤ N.toNat ∧ m = (P.toNat - p - 1) * (N.toNat + 2) + (N.toNat + 1 - j))))
    ht0 (fwS (lI 0) ++ [SE.int 607 (lI 0)]) [0, 1] (false, none) (P.toNat * (N.toNat + 2)) sq_enter c1 (fun W' => holds_all (hS0 W')) ⟨0, 0, hc1, rfl, .inl ⟨rfl, Nat.zero_le _, rfl, rfl⟩⟩ (DQ V (.slN 0 20 1) [some (.lstL 20 tSticks 32)]) ?_ w hr vs hv
  clear hc1 hS0 hr ht0 hv
  rintro w m ⟨ne, o⟩ c ⟨p, j, ⟨im, er, y, l11, l12, l20, l21, hG⟩, hne, hor⟩ W
  obtain ⟨rfl, g11, g12, g12', g20, g21, g21', gm⟩ := hG
  have hne : ne = (!Nat.beq p 0) := hne
  subst hne
  have hl20 : l20.length = p := by rw [g20, outM_len]
  have hl11 : l11.length = j * 32 := by rw [g11, rowM_len]
  rcases hor with ⟨ho, hp, rfl, hm⟩ | ⟨ho, hp, hj, hm⟩
  · have ho : o = none := ho
    subst ho
    rcases Nat.lt_or_ge p P.toNat with hlt | hge
    · obtain ⟨c2, hc2⟩ := sqN_ex P N S n l hsd p 0
      have ht := sqO_ok (sd := sd) (P := P) (N := N) (S := S) (n := n) (l := l) (j := 0) (im := im) (er := er) (y := y) (l11 := l11) (l12 := l12) (l20 := l20) (l21 := l21) (W := W) (b := true) (show p ≤ 1000 by omega) (by omega) (decide_eq_true (by omega))
      have hc2' := hc2
      obtain ⟨im', er', y', m11, m12, m20, m21, hG'⟩ := hc2'
      obtain ⟨rfl, _, _, _, g20', _, _, _⟩ := hG'
      refine stepH_to (sqO true) [] ht (sqS (sI 605) (lI 0) 20 []) (sqB (!Nat.beq p 0)) rfl (!Nat.beq p 0, some false) _ (all2_all sq_in (!Nat.beq p 0)) (fun W' => holds_all (sqS_ok (j' := 0) w605 rfl (g20'.trans (g20.symm.trans sq20.symm)) fz)) ⟨(P.toNat - p - 1) * (N.toNat + 2) + (N.toNat + 1), ?_, p, 0, hc2, rfl, .inr ⟨rfl, hlt, Nat.zero_le _, rfl⟩⟩
      have h1 : P.toNat - p = (P.toNat - p - 1) + 1 := by omega
      have h2 : (P.toNat - p) * (N.toNat + 2) = (P.toNat - p - 1) * (N.toNat + 2) + (N.toNat + 2) := by
        conv => lhs; rw [h1, Nat.succ_mul]
      omega
    · obtain rfl : p = P.toNat := by omega
      have ht := sqO_ok (sd := sd) (P := P) (N := N) (S := S) (n := n) (l := l) (j := 0) (im := im) (er := er) (y := y) (l11 := l11) (l12 := l12) (l20 := l20) (l21 := l21) (W := W) (b := false) (show P.toNat ≤ 1000 by omega) (by omega) (decide_eq_false (by omega))
      have hb : (!Nat.beq P.toNat 0) = true := by
        rw [show Nat.beq P.toNat 0 = false from Bool.eq_false_iff.2 fun hb => by have := Nat.eq_of_beq_eq_true hb; omega]
        rfl
      rw [hb]
      exact stepH_outQ (sqO false) [] ht V _ _ _ _ sq_out rfl (holds_all (fa ((hV.trans g20.symm).trans sq20.symm) fz))
  · have ho : o = some (!Nat.beq j 0) := ho
    subst ho
    have hjb : ∀ q, Nat.beq j 0 = q → j = 0 ∨ q = false := fun q hq => by
      cases q
      · exact .inr rfl
      · exact .inl (Nat.eq_of_beq_eq_true hq)
    rcases Nat.lt_or_ge j N.toNat with hlt | hge
    · obtain ⟨c2, hc2⟩ := sqN_ex P N S n l hsd p (j + 1)
      have ht := fun nb => sqI_ok (sd := sd) (P := P) (N := N) (S := S) (n := n) (l := l) (im := im) (er := er) (y := y) (l20 := l20) (l21 := l21) (W := W) (show p ≤ 1000 by omega) (show j ≤ 1000 by omega) (by omega) gm g12' (by omega) (by rw [g11]; exact rowM_one j) nb
      have hc2' := hc2
      obtain ⟨im', er', y', m11, m12, m20, m21, hG'⟩ := hc2'
      obtain ⟨rfl, g11', _, _, g20', _, _, _⟩ := hG'
      have hmes : (P.toNat - p - 1) * (N.toNat + 2) + (N.toNat + 1 - (j + 1)) < m := by omega
      by_cases h0 : j = 0
      · subst h0
        have h11n : l11 = [] := List.length_eq_zero_iff.1 (by omega)
        refine stepH_to (sqI false) [] (ht false) (sqS (sI 605) (sI 608) 20 [.new 11 skC]) (sqB (!Nat.beq p 0) ++ [if (!Nat.beq p 0) = true then 5 else 4]) rfl (!Nat.beq p 0, some true) _ (all2_all sq_first (!Nat.beq p 0)) (fun W' => holds_all (sqS_ok (j' := 1) w605 sq608 (g20'.trans (g20.symm.trans sq20.symm)) (fa ?_ fz))) ⟨_, hmes, p, 1, hc2, rfl, .inr ⟨rfl, hp, hlt, rfl⟩⟩
        refine sq11.trans (Eq.trans ?_ sq_cs.symm)
        rw [g11', ← g12, g12', h11n]
        rfl
      · have hb0 : Nat.beq j 0 = false := Bool.eq_false_iff.2 fun hb => h0 (Nat.eq_of_beq_eq_true hb)
        rw [hb0]
        refine stepH_to (sqI true) [] (ht true) (sqS (sI 605) (sI 608) 20 [.lst 11 12]) (sqB (!Nat.beq p 0) ++ [if (!Nat.beq p 0) = true then 6 else 5]) rfl (!Nat.beq p 0, some true) _ (all2_all sq_next (!Nat.beq p 0)) (fun W' => holds_all (sqS_ok (j' := j + 1) w605 sq608 (g20'.trans (g20.symm.trans sq20.symm)) (fa ?_ fz))) ⟨_, hmes, p, j + 1, hc2, rfl, .inr ⟨rfl, hp, hlt, rfl⟩⟩
        exact sq11.trans ((g11'.trans g12.symm).trans sq12.symm)
    · obtain rfl : j = N.toNat := by omega
      have hb0 : Nat.beq N.toNat 0 = false := Bool.eq_false_iff.2 fun hb => by have := Nat.eq_of_beq_eq_true hb; omega
      rw [hb0]
      obtain ⟨c2, hc2⟩ := sqN_ex P N S n l hsd (p + 1) 0
      have ht := sqE_ok (sd := sd) (P := P) (N := N) (S := S) (n := n) (l := l) (im := im) (er := er) (y := y) (l11 := l11) (l12 := l12) (l20 := l20) (l21 := l21) (W := W) (show p ≤ 1000 by omega) (show N.toNat ≤ 1000 by omega) (by omega) (!Nat.beq p 0) (fun h => by
        have : Nat.beq p 0 = true := by simpa using h
        exact List.length_eq_zero_iff.1 (by rw [hl20]; exact Nat.eq_of_beq_eq_true this)) g21' (by omega)
      have hc2' := hc2
      obtain ⟨im', er', y', m11, m12, m20, m21, hG'⟩ := hc2'
      obtain ⟨rfl, _, _, _, g20', _, _, _⟩ := hG'
      refine stepH_to (sqE (!Nat.beq p 0)) [] ht (sqS (sI 606) (lI 0) 21 []) [0, 1, if (!Nat.beq p 0) = true then 5 else 4] rfl (true, none) _ (all2_all sq_row (!Nat.beq p 0)) (fun W' => holds_all (sqS_ok (p' := p + 1) (j' := 0) w606 rfl (g20'.trans ((g21 rfl).symm.trans sq21.symm)) fz)) ⟨(P.toNat - (p + 1)) * (N.toNat + 2), ?_, p + 1, 0, hc2, rfl, .inl ⟨rfl, hp, rfl, rfl⟩⟩
      rw [hm, show P.toNat - p - 1 = P.toNat - (p + 1) by omega]
      omega
end Go.Proofs.Z
