/- A part of the proofs that the laws of layer four answer true for every input. -/
import Derived.Test.YtjjmnoiiihcoiaaGreatDoorZPQ
namespace Go.Proofs.Z
open Go Go.RowKit Go.Proofs Go.Ri Go.Proofs.Z.Fa
/-! The program's Parse: runs. 0 the fell's grazings, 2 the line's number; strings: 0 what is left, 30 the line, 1 what comes behind it; lists: 9 the gates, 10 with one more. -/
abbrev fParse : Nat := 60
noncomputable def zcH (ne : Bool) : RH := [some (.cells [lI 0, nilR] tFell false false), some (.cells [sI 0, if ne then .slN 2 9 4 else nilR] tFell false false)] ++ if ne then [some (.lst 9 tGate true)] else []
noncomputable def zcP (ne : Bool) : St := ⟨patW [(0, sS 0), (2, .ptr 0 0), (5, .ptr 1 0), (6, sI 2)] 39 0, zcH ne⟩
def zcS (s g n : RV) : List SE := [.int 0 g, .int 2 n, .str 0 s]
noncomputable def zcE : Tb := { T := [⟨.len, sS 0, sS 0, sI 1⟩, ⟨.bin .gtr, sI 1, lI 65536, bR false⟩] }
set_option maxRecDepth 100000 in
theorem zc_enter : atH (entN zcE [] fParse [sS 0]) fParse 0 (zcS (sS 0) (lI 0) (lI 1)) [0, 1] (zcP false) = true := by kernel_rfl
def zcT (one : Bool) : List TE := [⟨.ieq, sI 2, lI 1, bR one⟩, ⟨.bin .add, sI 2, lI 1, sI 7⟩] ++ if one then [] else [⟨.seq, sS 0, lB [], bR false⟩]
def zcY (q : Bool) : YE := ⟨fCut, [sS 0, lB [10]], .tup [sS 30, sS 1, bR q]⟩
noncomputable def zcNo (g : Bool) : QE := ⟨fNA, naD g, naNo, []⟩
noncomputable def zcYes (g : Bool) : QE := ⟨fNA, naD g, naYes g, [some (.cells (naC g) tInt true false)]⟩
/-- No line, and a line that says nothing: 0 there is no end, 1 neither, 2 a fell once more. -/
noncomputable def zcN (one : Bool) (c : Nat) : Tb := { T := zcT one ++ if Nat.beq c 2 then [⟨.ieq, sI 0, lI 0, bR false⟩] else [], Y := [zcY (!(Nat.beq c 0))], LL := [⟨9, 4, sI 42⟩], U := qnU (if Nat.beq c 0 then [] else [if Nat.beq c 2 then zcYes false else zcNo false, zcNo true]) }
set_option maxRecDepth 100000 in
theorem zc_bad : (all2 fun one => all2 fun ne => allU 3 fun c => endF (zcN one c) fParse (fromH (zcN one c) [] fParse 0 (zcP ne)) (zrErr (sI 2))) = true := by kernel_rfl
/-- The fell's line. -/
noncomputable def zcF (one ok : Bool) : Tb := { T := zcT one ++ [⟨.ieq, sI 0, lI 0, bR true⟩], Y := [zcY true, ⟨fCheck, [.agg [sI 20, nilR]], if ok then lI 0 else lI 40⟩], U := qnU [zcYes false] }
set_option maxRecDepth 100000 in
theorem zc_fbad : (all2 fun one => endF (zcF one false) fParse (fromH (zcF one false) [] fParse 0 (zcP false)) (zrErr (sI 2))) = true := by kernel_rfl
set_option maxRecDepth 100000 in
theorem zc_fell : (all2 fun one => atH (fromH (zcF one true) [] fParse 0 (zcP false)) fParse 0 (zcS (sS 1) (sI 20) (sI 7)) [0, 1] (zcP false)) = true := by kernel_rfl
/-- A gate's line. -/
noncomputable def zcG (one ok ne : Bool) : Tb := { T := zcT one, Y := [zcY true], LL := [⟨9, 4, sI 42⟩], LA := if ne then [⟨9, [sI 20, sI 21, sI 22, sI 23], 10⟩] else [], U := qdU (if ne then [] else [(10, [sI 20, sI 21, sI 22, sI 23])]) [zcNo false, zcYes true, ⟨fCheck, [.agg [sI 0, .slN 0 10 4]], if ok then lI 0 else lI 40, []⟩] }
set_option maxRecDepth 100000 in
theorem zc_gbad : (all2 fun one => all2 fun ne => endF (zcG one false ne) fParse (fromH (zcG one false ne) [] fParse 0 (zcP ne)) (zrErr (sI 2))) = true := by kernel_rfl
def zcQ (ne : Bool) : List SE := zcS (sS 1) (sI 0) (sI 7) ++ [if ne then .lst 9 10 else .new 9 [sI 20, sI 21, sI 22, sI 23]]
set_option maxRecDepth 100000 in
theorem zc_gate : (all2 fun one => all2 fun ne => atH (fromH (zcG one true ne) [] fParse 0 (zcP ne)) fParse 0 (zcQ ne) [0, 1, if ne then 5 else 4] (zcP true)) = true := by kernel_rfl
noncomputable def zcO : Tb := { T := [⟨.ieq, sI 2, lI 1, bR false⟩, ⟨.seq, sS 0, lB [], bR true⟩] }
set_option maxRecDepth 100000 in
theorem zc_okn : endF zcO fParse (fromH zcO [] fParse 0 (zcP false)) (.tup [.agg [sI 0, nilR], lI 0, lI 0]) = true := by kernel_rfl
set_option maxRecDepth 100000 in
theorem zc_okg : endQ zcO fParse (fromH zcO [] fParse 0 (zcP true)) [.int 0 (sI 0), .lst 9 9] [2] zrOk [some (.lst 9 tGate true)] = true := by kernel_rfl
set_option maxRecDepth 100000 in
theorem zc_long : doneQ { T := [⟨.len, sS 0, sS 0, sI 1⟩, ⟨.bin .gtr, sI 1, lI 65536, bR true⟩] } [] fParse [sS 0] [] [] (.tup [.agg [lI 0, nilR], lI 0, lI 2]) [] = true := by kernel_rfl
end Go.Proofs.Z

namespace Go.Proofs.Z
open Go Go.RowKit Go.Proofs Go.Ri Go.Proofs.Z.Fa
/-! The program's Parse: its contract. -/
def zcA (s : List UInt8) : List UInt8 := (Lib.cut s [10]).1
def zcB (s : List UInt8) : List UInt8 := (Lib.cut s [10]).2.1
def zcNs (line : List UInt8) : List Int := match fw line with | some v => [v] | none => match gw line with | some q => q.map intOf | none => []
theorem zc_cut {s : List UInt8} (hs : s.length ≤ 65536) : Ans fCut [strB s, strB [10]] (.tuple #[strB (zcA s), strB (zcB s), .bool (Lib.cut s [10]).2.2]) := by
  have h := cut_ans (bs s) (bs [10]) (by rw [bs_size]; omega)
  rw [bs_list, bs_list] at h
  exact h
theorem check_nil (V : Val) {r : RV} {G : Int} (h : @cvF V r = .agg #[.int .i64 G, .slice none 0 0]) : Ans fCheck [@cvF V r] (.int .i64 (errM G [] 0)) := by
  intro w hr
  let V1 : Val := (gnm G [] 0 0 nx ny nz).val fun _ => undef
  refine check_ans V1 (G := G) (l := []) (n := 0) rfl rfl (fun v hv => by cases hv) rfl w hr _ (.cons ?_ .nil)
  rw [h]
  exact ⟨#[.int .i64 G, .slice none 0 0], rfl, .cons rfl (.cons ⟨none, 0, 0, rfl, fun h => absurd rfl h, by decide, rfl, Nat.le_refl _, fun a ha => by cases ha⟩ .nil)⟩
theorem zc_check (V : Val) {G : Int} {M : List Value} {n : Nat} {r : RV} (hG : V.I 0 = G) (hL : V.L 10 = M) (hi : ints M) (hn : M.length = n * 4) (hf : flat r = true) (hv : @cvF V r = .int .i64 (errM G M n)) : @QNTrue V ⟨fCheck, [.agg [sI 0, .slN 0 10 4]], r, []⟩ := by
  refine qn_flat hf hv fun w hr vs hv => ?_
  let V2 : Val := (gnm G M n 0 nx ny nz).val fun _ => undef
  refine check_ans V2 (G := G) (l := M) (n := n) rfl rfl hi hn w hr vs ?_
  cases hv with
  | cons h1 h2 => cases h2; exact .cons (fell_nvalG (V := V) (V' := V2) (i := 10) (j := 0) hG hL h1) .nil
theorem prs_next (n : Nat) (G : Int) (L : List Value) (a b : List UInt8) : prs n G L (a :: spl 10 b) = match rdP G L a with | none => .error n | some (G', L') => if b = [] then .ok (G', L') else prs (n + 1) G' L' (spl 10 b) := by
  obtain ⟨ls, hls⟩ : ∃ ls, spl 10 b = ls := ⟨_, rfl⟩
  have hj := join_spl 10 _ b (Nat.le_refl _)
  rw [hls] at hj ⊢
  match ls, hls, hj with
  | [], hls, _ => exact absurd hls (spl_ne 10 b)
  | x :: r, hls, hj =>
    show (match rdP G L a with | none => _ | some (G', L') => if x = [] ∧ r = [] then Except.ok (G', L') else prs (n + 1) G' L' (x :: r)) = _
    cases rdP G L a with
    | none => rfl
    | some y =>
      obtain ⟨G', L'⟩ := y
      simp only
      by_cases hb : b = []
      · subst hb
        have : [[]] = x :: r := hls
        injection this with e1 e2
        rw [if_pos ⟨e1.symm, e2.symm⟩, if_pos rfl]
      · rw [if_neg hb, if_neg]
        rintro ⟨rfl, rfl⟩
        exact hb hj.symm
theorem fw_gw {line : List UInt8} {v : Int} (h : fw line = some v) : gw line = none := by
  by_cases h2 : (spl 32 line).length = 2
  · exact gw_none (by omega)
  · rw [fw_none h2] at h
    cases h
def zcI (G : Int) (L : List Value) (t n : Nat) (ns : List Int) (j : Nat) : Int :=
  if j = 0 then G else if j = 1 then (t : Nat) else if j = 2 then (n : Nat) else if j = 7 then (n : Int) + 1 else if j = 20 then ns.getD 0 0 else if j = 21 then ns.getD 1 0 else if j = 22 then ns.getD 2 0 else if j = 23 then ns.getD 3 0 else ((L.length / 4 : Nat) : Int)
def zcNm (s : List UInt8) (G : Int) (L : List Value) (n : Nat) : Nm := ⟨zcI G L s.length n (zcNs (zcA s)), ny, fun j => bs (if j = 0 then s else if j = 30 then zcA s else zcB s), fun j => if j = 9 then L else L ++ (zcNs (zcA s)).map iZ⟩
theorem zc_ids (s s' : List UInt8) (G G' : Int) (L L' : List Value) (n n' : Nat) (W W' : Nat → Value) (x g m : RV) (hx : @cv ((zcNm s G L n).val W) x = strB s') (hg : @cv ((zcNm s G L n).val W) g = .int .i64 G') (hm : @cv ((zcNm s G L n).val W) m = .int .i64 (n' : Nat)) : ∀ q, q ∈ zcS x g m → okSE ((zcNm s G L n).val W) ((zcNm s' G' L' n').val W') q :=
  fa ⟨.i64, G', hg, rfl⟩ (fa ⟨.i64, (n' : Nat), hm, rfl⟩ (fa ⟨_, hx, rfl⟩ fz))
def ZcI (R : Except Nat (Int × List Value)) (m : Nat) (ne : Bool) (d : Nm) : Prop := ∃ n G L s, ((n = 1 ∧ G = 0 ∧ L = []) ∨ (2 ≤ n ∧ Rgt G L)) ∧ (if n ≠ 1 ∧ s = [] then .ok (G, L) else prs n G L (spl 10 s)) = R ∧ s.length ≤ 65536 ∧ n + s.length ≤ 65537 ∧ m = s.length ∧ ne = !L.isEmpty ∧ d = zcNm s G L n
theorem zc_step (V : Val) {R : Except Nat (Int × List Value)} (hV : ∀ G v L, R = .ok (G, v :: L) → V.I 0 = G ∧ V.L 9 = v :: L) (w : World) (m : Nat) (ne : Bool) (d : Nm) (hΦ : ZcI R m ne d) (W : Nat → Value) :
    StepH fParse (fun _ => 0) zcP w.heap.size w [] (zrD V R w) (fun k' c' => ∃ n', n' < m ∧ ZcI R n' k' c') ne d W := by
  obtain ⟨n, G, L, s, hst, hpr, hs, hns, rfl, rfl, rfl⟩ := hΦ
  have hL4 : ints L ∧ L.length = L.length / 4 * 4 := by
    rcases hst with ⟨_, _, rfl⟩ | ⟨_, h⟩
    · exact ⟨fun v hv => (by cases hv), rfl⟩
    · exact ⟨h.1, h.2.1⟩
  by_cases hout : n ≠ 1 ∧ s = []
  · rw [if_pos hout] at hpr
    subst hpr
    have ht : @TbOK ((zcNm s G L n).val W) zcO := by
      letI : Val := (zcNm s G L n).val W
      exact { T := fa (f_ieq (k := .i64) (m := (n : Int)) (n := 1) rfl rfl (by rw [eqdec]; exact decide_eq_false (by omega))) (fa (f_seq (x := s) (y := []) rfl rfl (decide_eq_true hout.2)) fz) }
    cases L with
    | nil => exact stepH_outF zcO [] ht (.tup [.agg [sI 0, nilR], lI 0, lI 0]) zc_okn rfl
    | cons v L =>
      obtain ⟨v1, v2⟩ := hV G v L rfl
      exact stepH_outQ zcO [] ht V _ _ _ _ zc_okg rfl (holds_all (fa ⟨.i64, G, rfl, v1⟩ (fa (okLs (v :: L) v2 rfl) fz)))
  · rw [if_neg hout] at hpr
    obtain ⟨one, hone⟩ : ∃ one, decide (n = 1) = one := ⟨_, rfl⟩
    have hT : ∀ e, e ∈ zcT one → @TETrue ((zcNm s G L n).val W) e := by
      letI : Val := (zcNm s G L n).val W
      refine fapp (fa (f_ieq (k := .i64) (m := (n : Int)) (n := 1) rfl rfl (by rw [eqdec, ← hone]; exact decide_eq_decide.2 (by omega))) (fa (f_add1 (m := (n : Int)) rfl rfl rfl (by omega) (by omega)) fz)) ?_
      cases one with
      | true => exact fz
      | false =>
        have h1 : n ≠ 1 := of_decide_eq_false hone
        exact fa (f_seq (x := s) (y := []) rfl rfl (decide_eq_false fun h => hout ⟨h1, h⟩)) fz
    have hLL : ∀ e, e ∈ ([⟨9, 4, sI 42⟩] : List LNE) → @LLTrue ((zcNm s G L n).val W) e := fa ⟨rfl, L.length / 4, Nat.succ_pos 3, hL4.2, rfl⟩ fz
    have hcut : Ans fCut [strB s, strB [10]] (.tuple #[strB (zcA s), strB (zcB s), .bool (Lib.cut s [10]).2.2]) := zc_cut hs
    have herr : @cvF ((zcNm s G L n).val W) (zrErr (sI 2)) = zrEV n := rfl
    rcases spl_case 10 s with hc | ⟨a, b, hc, hsab⟩
    · rw [spl_miss hc] at hpr
      have hpr : Except.error n = R := hpr
      subst hpr
      rw [show (Lib.cut s [10]).2.2 = false by rw [cut_miss hc]] at hcut
      have ht : @TbOK ((zcNm s G L n).val W) (zcN one 0) := by
        letI : Val := (zcNm s G L n).val W
        exact { T := fapp hT fz, Y := fa hcut fz, LL := hLL, U := qnU_ok _ fz }
      exact stepH_outF (zcN one 0) [] ht (zrErr (sI 2)) (allU_lt (all2_all (all2_all zc_bad one) _) 0 (by decide)) herr
    · have hcc : Lib.cut s [10] = (a, b, true) := by rw [hsab]; exact cut_hit hc
      have hA : zcA s = a := by unfold zcA; rw [hcc]
      have hB : zcB s = b := by unfold zcB; rw [hcc]
      have hlen : s.length = a.length + b.length + 1 := by rw [hsab, List.length_append]; rfl
      rw [show (Lib.cut s [10]).2.2 = true by rw [hcc]] at hcut
      have hspl : spl 10 s = a :: spl 10 b := by rw [hsab]; exact spl_hit hc
      rw [hspl, prs_next] at hpr
      have h30 : ((zcNm s G L n).val W).S 30 = bs a := by rw [← hA]; rfl
      have hl : a.length ≤ 100000 := by omega
      obtain ⟨f1, f2⟩ := na_fell ((zcNm s G L n).val W) h30 hl
      obtain ⟨g1, g2⟩ := na_gate ((zcNm s G L n).val W) h30 hl
      have no : ∀ g, @AnsN ((zcNm s G L n).val W) fNA (naD g) (.tuple #[.slice none 0 0, .bool false]) → @QNTrue ((zcNm s G L n).val W) (zcNo g) := fun g h => qn_flat rfl rfl h
      have bad : ∀ c, c < 3 → @TbOK ((zcNm s G L n).val W) (zcN one c) → rdP G L a = none → StepH fParse (fun _ => 0) zcP w.heap.size w [] (zrD V R w) (fun k' c' => ∃ n', n' < s.length ∧ ZcI R n' k' c') (!L.isEmpty) (zcNm s G L n) W := fun c hc ht hr => by
        rw [hr] at hpr
        subst hpr
        exact stepH_outF (zcN one c) [] ht (zrErr (sI 2)) (allU_lt (all2_all (all2_all zc_bad one) _) c hc) herr
      have nxt : ∀ G' L', Rgt G' L' → (if b = [] then .ok (G', L') else prs (n + 1) G' L' (spl 10 b)) = R → ZcI R b.length (!L'.isEmpty) (zcNm b G' L' (n + 1)) := fun G' L' hR h => by
        refine ⟨n + 1, G', L', b, .inr ⟨by omega, hR⟩, ?_, by omega, by omega, rfl, rfl, rfl⟩
        by_cases hb : b = []
        · rw [if_pos ⟨by omega, hb⟩]
          rw [if_pos hb] at h
          exact h
        · rw [if_neg fun hh => hb hh.2]
          rw [if_neg hb] at h
          exact h
      have hx : @cv ((zcNm s G L n).val W) (sS 1) = strB b := by
        show Value.string (bs (zcB s)) = _
        rw [hB]
        rfl
      cases hfw : fw a with
      | some v =>
        have hgw := fw_gw hfw
        have hnn : zcNs (zcA s) = [v] := by
          unfold zcNs
          rw [hA, hfw]
        have h20 : ((zcNm s G L n).val W).I 20 = v := by
          show (zcNs (zcA s)).getD 0 0 = v
          rw [hnn]
          rfl
        by_cases hG : G = 0
        · obtain ⟨hn1, rfl⟩ : n = 1 ∧ L = [] := by
            rcases hst with ⟨h, _, h'⟩ | ⟨_, h⟩
            · exact ⟨h, h'⟩
            · have := (validM_iff _ _ _).1 h.2.2
              omega
          subst hG
          have hrd : rdP 0 [] a = chk v [] := by
            unfold rdP
            rw [hfw]
            rfl
          have ht : ∀ ok, validM v [] 0 = ok → @TbOK ((zcNm s 0 [] n).val W) (zcF one ok) := fun ok hok => by
            have hck := check_nil ((zcNm s 0 [] n).val W) (r := .agg [sI 20, nilR]) (G := v) (by
              show Value.agg #[.int .i64 (((zcNm s 0 [] n).val W).I 20), .slice none 0 0] = _
              rw [h20])
            unfold errM at hck
            rw [hok] at hck
            letI : Val := (zcNm s 0 [] n).val W
            refine { T := fapp hT (fa (f_ieq (k := .i64) (m := 0) (n := 0) rfl rfl rfl) fz), Y := fa hcut (fa ?_ fz), U := qnU_ok _ (fa (f2 v hfw h20) fz) }
            cases ok
            · exact hck
            · exact hck
          cases hv : validM v [] 0 with
          | false =>
            rw [hrd, chk_none hv] at hpr
            subst hpr
            exact stepH_outF (zcF one false) [] (ht false hv) (zrErr (sI 2)) (all2_all zc_fbad one) herr
          | true =>
            have hck : chk v [] = some (v, []) := by
              unfold chk
              exact if_pos hv
            rw [hrd, hck] at hpr
            exact stepH_to (zcF one true) [] (ht true hv) (zcS (sS 1) (sI 20) (sI 7)) [0, 1] rfl false (zcNm b v [] (n + 1)) (all2_all zc_fell one) (fun W' => holds_all (zc_ids s b 0 v [] [] n (n + 1) W W' (sS 1) (sI 20) (sI 7) hx (congrArg (Value.int .i64) h20) rfl)) ⟨b.length, by omega, nxt v [] ⟨fun x hx => (by cases hx), rfl, hv⟩ hpr⟩
        · have hrd : rdP G L a = none := by
            unfold rdP
            rw [hfw]
            simp only [if_neg hG]
          have ht : @TbOK ((zcNm s G L n).val W) (zcN one 2) := by
            letI : Val := (zcNm s G L n).val W
            exact { T := fapp hT (fa (f_ieq (k := .i64) (m := G) (n := 0) rfl rfl (by rw [eqdec]; exact decide_eq_false hG)) fz), Y := fa hcut fz, LL := hLL, U := qnU_ok _ (fa (f2 v hfw h20) (fa (no true (g1 hgw)) fz)) }
          exact bad 2 (by decide) ht hrd
      | none =>
        have hno := no false (f1 hfw)
        cases hgw : gw a with
        | none =>
          have hrd : rdP G L a = none := by
            unfold rdP
            rw [hfw]
            simp only
            rw [hgw]
          have ht : @TbOK ((zcNm s G L n).val W) (zcN one 1) := by
            letI : Val := (zcNm s G L n).val W
            exact { T := fapp hT fz, Y := fa hcut fz, LL := hLL, U := qnU_ok _ (fa hno (fa (no true (g1 hgw)) fz)) }
          exact bad 1 (by decide) ht hrd
        | some q =>
          obtain ⟨x1, x2, x3, x4, _, rfl⟩ := gw_back hgw
          have hnn : zcNs (zcA s) = [x1, x2, x3, x4] := by
            unfold zcNs
            rw [hA, hfw, hgw]
            rfl
          have i0 : ((zcNm s G L n).val W).I 20 = x1 := by show (zcNs (zcA s)).getD 0 0 = _; rw [hnn]; rfl
          have i1 : ((zcNm s G L n).val W).I 21 = x2 := by show (zcNs (zcA s)).getD 1 0 = _; rw [hnn]; rfl
          have i2 : ((zcNm s G L n).val W).I 22 = x3 := by show (zcNs (zcA s)).getD 2 0 = _; rw [hnn]; rfl
          have i3 : ((zcNm s G L n).val W).I 23 = x4 := by show (zcNs (zcA s)).getD 3 0 = _; rw [hnn]; rfl
          have hrd : rdP G L a = chk G (L ++ [iZ x1, iZ x2, iZ x3, iZ x4]) := by
            unfold rdP
            rw [hfw]
            simp only
            rw [hgw]
          obtain ⟨M, hM⟩ : ∃ M, M = L ++ [iZ x1, iZ x2, iZ x3, iZ x4] := ⟨_, rfl⟩
          rw [← hM] at hrd
          have h10 : ((zcNm s G L n).val W).L 10 = M := by
            show L ++ (zcNs (zcA s)).map iZ = _
            rw [hnn, hM]
            rfl
          have hMl : M.length = L.length + 4 := by rw [hM, List.length_append]; rfl
          have hMi : ints M := fun v hv => by
            rw [hM] at hv
            rcases List.mem_append.1 hv with h | h
            · exact hL4.1 v h
            · simp only [List.mem_cons, List.not_mem_nil, or_false] at h
              rcases h with rfl | rfl | rfl | rfl <;> exact ⟨_, rfl⟩
          have hL32 : L.length ≤ 200 := by
            rcases hst with ⟨_, _, rfl⟩ | ⟨_, h⟩
            · exact Nat.zero_le _
            · have := ((validM_iff _ _ _).1 h.2.2).2.2.1
              have := h.2.1
              omega
          have ht : ∀ ok, validM G M (M.length / 4) = ok → ∀ ne, (!L.isEmpty) = ne → @TbOK ((zcNm s G L n).val W) (zcG one ok ne) := fun ok hok ne hne => by
            have hck := zc_check ((zcNm s G L n).val W) (G := G) (M := M) (n := M.length / 4) (r := if ok then lI 0 else lI 40) rfl h10 hMi (by omega) (by cases ok <;> rfl) (by
              unfold errM
              rw [hok]
              cases ok <;> rfl)
            letI : Val := (zcNm s G L n).val W
            have hcs : [sI 20, sI 21, sI 22, sI 23].map cv = [iZ x1, iZ x2, iZ x3, iZ x4] := by
              show [Value.int .i64 (Val.I 20), .int .i64 (Val.I 21), .int .i64 (Val.I 22), .int .i64 (Val.I 23)] = _
              rw [show Val.I 20 = x1 from i0, show Val.I 21 = x2 from i1, show Val.I 22 = x3 from i2, show Val.I 23 = x4 from i3]
              rfl
            refine { T := hT, Y := fa hcut fz, LL := hLL, LA := ?_, U := qdU_ok _ _ ?_ (fa hno (fa (g2 x1 x2 x3 x4 hgw i0 i1 i2 i3) (fa hck fz))) }
            · cases ne with
              | false => exact fz
              | true =>
                refine fa ⟨?_, ?_, fun v hv => ?_⟩ fz
                · show Val.L 10 = L ++ [sI 20, sI 21, sI 22, sI 23].map cv
                  rw [hcs, show Val.L 10 = M from h10, hM]
                · show (Val.L 10).length ≤ 1000000
                  rw [show Val.L 10 = M from h10]
                  omega
                · obtain ⟨k, rfl⟩ := hL4.1 v hv
                  rfl
            · cases ne with
              | true => exact fz
              | false =>
                have hLn : L = [] := by
                  cases L with
                  | nil => rfl
                  | cons _ _ => cases hne
                refine fa ?_ fz
                show Val.L 10 = [sI 20, sI 21, sI 22, sI 23].map cv
                rw [hcs, show Val.L 10 = M from h10, hM, hLn]
                rfl
          cases hv : validM G M (M.length / 4) with
          | false =>
            rw [hrd, chk_none hv] at hpr
            subst hpr
            exact stepH_outF (zcG one false (!L.isEmpty)) [] (ht false hv _ rfl) (zrErr (sI 2)) (all2_all (all2_all zc_gbad one) (!L.isEmpty)) herr
          | true =>
            have hck : chk G M = some (G, M) := by
              unfold chk
              exact if_pos hv
            rw [hrd, hck] at hpr
            have hne : (!M.isEmpty) = true := by
              rw [hM]
              cases L <;> rfl
            have hh := ht true hv
            have hz := nxt G M ⟨hMi, by omega, hv⟩ hpr
            rw [hne] at hz
            refine stepH_to (zcG one true (!L.isEmpty)) [] (ht true hv _ rfl) (zcQ (!L.isEmpty)) [0, 1, if !L.isEmpty then 5 else 4] rfl true (zcNm b G M (n + 1)) (all2_all (all2_all zc_gate one) (!L.isEmpty)) (fun W' => holds_all (fapp (zc_ids s b G G L M n (n + 1) W W' (sS 1) (sI 0) (sI 7) hx rfl rfl) ?_)) ⟨b.length, by omega, hz⟩
            have hLA : ∀ ne, (!L.isEmpty) = ne → okSE ((zcNm s G L n).val W) ((zcNm b G M (n + 1)).val W') (if ne then .lst 9 10 else .new 9 [sI 20, sI 21, sI 22, sI 23]) := fun ne hn => by
              cases ne with
              | true => exact okLs M rfl h10
              | false =>
                have hLn : L = [] := by
                  cases L with
                  | nil => rfl
                  | cons _ _ => cases hn
                show M = [Value.int .i64 (((zcNm s G L n).val W).I 20), .int .i64 (((zcNm s G L n).val W).I 21), .int .i64 (((zcNm s G L n).val W).I 22), .int .i64 (((zcNm s G L n).val W).I 23)]
                rw [i0, i1, i2, i3, hM, hLn]
                rfl
            exact fa (hLA _ rfl) fz
/-- What the program's Parse answers. -/
theorem parse_D (V : Val) {s : List UInt8} {R : Except Nat (Int × List Value)} (hs : s.length ≤ 65536) (hR : prs 1 0 [] (spl 10 s) = R) (hV : ∀ G v L, R = .ok (G, v :: L) → V.I 0 = G ∧ V.L 9 = v :: L) (w : World) (hr : RoIn ro w) : Calls Tryz.prog fParse [strB s].toArray w (zrD V R w) := by
  let V1 : Val := (zcNm s 0 [] 1).val fun _ => undef
  have hv : All2 (@Go.Ri.NVal V1 w) [sS 0] [strB s] := .cons rfl .nil
  have ht0 : @TbOK V1 zcE := by
    letI := V1
    exact { T := fa (f_len (s := bs s) rfl (by rw [bs_list]; rfl) rfl) (fa (f_gtr (k := .i64) (m := (s.length : Int)) (n := 65536) rfl rfl (decide_eq_false (by omega))) fz) }
  exact fn_headsN (κ := Bool) (zcNm s 0 [] 1) (fun _ => undef) zcE [] fParse [sS 0] (fun _ => 0) zcP (fun m ne d => ZcI R m ne d) ht0 (zcS (sS 0) (lI 0) (lI 1)) [0, 1] false s.length zc_enter (zcNm s 0 [] 1) (fun W' => holds_all (zc_ids s s 0 0 [] [] 1 1 _ W' (sS 0) (lI 0) (lI 1) rfl rfl rfl)) ⟨1, 0, [], s, .inl ⟨rfl, rfl, rfl⟩, by rw [if_neg fun h => h.1 rfl]; exact hR, hs, by omega, rfl, rfl, rfl⟩ (zrD V R) (fun w m ne d hΦ W => zc_step V hV w m ne d hΦ W) w hr [strB s] hv
theorem parse_long {s : List UInt8} (hs : 65536 < s.length) (hs' : s.length ≤ 1000000000) : Ans fParse [strB s] (.tuple #[.agg #[.int .i64 0, .slice none 0 0], .int .i64 0, .int .i64 2]) := by
  intro w hr
  let V1 : Val := (zcNm s 0 [] 1).val fun _ => undef
  have ht : @TbOK V1 { T := [⟨.len, sS 0, sS 0, sI 1⟩, ⟨.bin .gtr, sI 1, lI 65536, bR true⟩] } := by
    letI := V1
    exact { T := fa (f_len (s := bs s) rfl (by rw [bs_list]; rfl) rfl) (fa (f_gtr (k := .i64) (m := (s.length : Int)) (n := 65536) rfl rfl (decide_eq_true (by omega))) fz) }
  exact done_flat V1 ht zc_long rfl rfl rfl w hr [strB s] (.cons rfl .nil)
end Go.Proofs.Z
