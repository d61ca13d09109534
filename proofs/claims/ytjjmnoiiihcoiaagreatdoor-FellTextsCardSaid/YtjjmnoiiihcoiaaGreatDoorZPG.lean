/- A part of the proofs that the laws of layer four answer true for every input. -/
import Derived.Test.YtjjmnoiiihcoiaaGreatDoorZPE
namespace Go.Proofs.Z
open Go Go.RowKit Go.Proofs Go.Ri Go.Proofs.Z.Fa
/-! The specification's Split: runs. 6 the byte; 2 the place, 3 where the piece begins; strings: 20 the piece up to the place, 21 all that is left; lists: 9 the pieces, 10 and 11 with one more. -/
abbrev fRSplit : Nat := 110
abbrev tStr : TypeId := 9
def zsD : List RV := [sS 0, sU8 6]
def zsH (c : Bool) : List TE := [⟨.len, sS 0, sS 0, sI 1⟩, ⟨.bin .lss, sI 2, sI 1, bR c⟩]
noncomputable def zsP (ne : Bool) : St := ⟨patW [(0, sS 0), (1, sU8 6), (5, if ne then .slN 0 9 1 else nilR), (6, sI 3), (7, sI 2)] 34 0, if ne then [some (.lst 9 tStr true)] else []⟩
def zsS (fr i : RV) : List SE := [.str 0 (sS 0), .int 1 (sI 1), .int 6 (sU8 6), .int 3 fr, .int 2 i]
set_option maxRecDepth 100000 in
theorem zs_enter : atH (entN {} [] fRSplit zsD) fRSplit 0 [.str 0 (sS 0), .int 6 (sU8 6), .int 3 (lI 0), .int 2 (lI 0)] [] (zsP false) = true := by kernel_rfl
/-- Is the byte the one. -/
noncomputable def zsT (q : Bool) : Tb := { T := zsH true ++ [⟨.idx, sS 0, sI 2, sU8 5⟩, ⟨.ieq, sU8 5, sU8 6, bR q⟩, ⟨.bin .add, sI 2, lI 1, sI 4⟩], SS := if q then [⟨sS 0, sI 3, sI 2, sS 20⟩] else [], LA := if q then [⟨9, [sS 20], 10⟩] else [], LL := [⟨9, 1, sI 7⟩] }
def zsO (ne q : Bool) : List SE := if q then (if ne then [.lst 9 10] else [.new 9 [sS 20]]) else (if ne then [.lst 9 9] else [])
def zsR (ne q : Bool) : List Nat := if q then (if ne then [2] else [1]) else (if ne then [0] else [])
set_option maxRecDepth 100000 in
theorem zs_round : (all2 fun ne => all2 fun q => atH (fromH (zsT q) [] fRSplit 0 (zsP ne)) fRSplit 0 (zsO ne q ++ zsS (if q then sI 4 else sI 3) (sI 4)) (zsR ne q) (zsP (ne || q))) = true := by kernel_rfl
noncomputable def zsE : Tb := { T := zsH false, SS := [⟨sS 0, sI 3, sI 1, sS 21⟩], LA := [⟨9, [sS 21], 11⟩], LL := [⟨9, 1, sI 7⟩] }
set_option maxRecDepth 100000 in
theorem zs_out : (all2 fun ne => endQ zsE fRSplit (fromH zsE [] fRSplit 0 (zsP ne)) (if ne then [.lst 9 11] else [.new 9 [sS 21]]) (if ne then [2] else [1]) (.slN 0 9 1) [some (.lst 9 tStr true)]) = true := by kernel_rfl
end Go.Proofs.Z

namespace Go.Proofs.Z
open Go Go.RowKit Go.Proofs Go.Ri Go.Proofs.Z.Fa
/-! The specification's Split: its contract. -/
theorem bs_list (l : List UInt8) : (bs l).data.toList = l := by show l.toArray.toList = l; simp
theorem bs_ext (l : List UInt8) (a b : Nat) : (bs l).extract a b = bs ((l.drop a).take (b - a)) := ba_ext (by
  rw [bs_list, Lib.extract_data, bs_list])
theorem dr_step {l : List UInt8} {i : Nat} (h : i < l.length) : l.drop i = l.getD i 0 :: l.drop (i + 1) := by
  rw [List.drop_eq_getElem_cons h, List.getD_eq_getElem?_getD, List.getElem?_eq_getElem h]
  rfl
theorem tk_step {l : List UInt8} {a i : Nat} (h : i < l.length) (ha : a ≤ i) : (l.drop a).take (i + 1 - a) = (l.drop a).take (i - a) ++ [l.getD i 0] := by
  rw [show i + 1 - a = (i - a) + 1 by omega, List.take_succ_eq_append_getElem (by rw [List.length_drop]; omega)]
  rw [List.getElem_drop, List.getD_eq_getElem?_getD]
  congr 2
  rw [List.getElem?_eq_getElem h]
  show l[a + (i - a)] = l[i]
  congr 1
  omega
/-- The pieces are what was found, and what is left. -/
def ZsI (c : UInt8) (l : List UInt8) (i fr : Nat) (P : List (List UInt8)) : Prop := fr ≤ i ∧ i ≤ l.length ∧ P.length ≤ i ∧ spl c l = P ++ ((l.drop fr).take (i - fr) ++ (spl c (l.drop i)).headD []) :: (spl c (l.drop i)).tail
theorem head_tail {α : Type} (d : α) : ∀ {l : List α}, l ≠ [] → l.headD d :: l.tail = l
  | [], h => absurd rfl h
  | _ :: _, _ => rfl
theorem zsI_start (c : UInt8) (l : List UInt8) : ZsI c l 0 0 [] := ⟨Nat.le_refl _, Nat.zero_le _, Nat.zero_le _, (head_tail [] (spl_ne c l)).symm⟩
theorem zsI_hit {c : UInt8} {l : List UInt8} {i fr : Nat} {P : List (List UInt8)} (h : ZsI c l i fr P) (hi : i < l.length) (hc : l.getD i 0 = c) : ZsI c l (i + 1) (i + 1) (P ++ [(l.drop fr).take (i - fr)]) := by
  obtain ⟨h1, h2, h3, h4⟩ := h
  refine ⟨Nat.le_refl _, hi, by rw [List.length_append]; simp only [List.length_cons, List.length_nil]; omega, ?_⟩
  rw [dr_step hi, hc] at h4
  have e : spl c (c :: l.drop (i + 1)) = [] :: spl c (l.drop (i + 1)) := by
    show (if c = c then _ else _) = _
    rw [if_pos rfl]
  rw [e] at h4
  rw [h4, Nat.sub_self, List.take_zero, List.nil_append, head_tail [] (spl_ne c _), List.append_assoc]
  simp
theorem zsI_miss {c : UInt8} {l : List UInt8} {i fr : Nat} {P : List (List UInt8)} (h : ZsI c l i fr P) (hi : i < l.length) (hc : l.getD i 0 ≠ c) : ZsI c l (i + 1) fr P := by
  obtain ⟨h1, h2, h3, h4⟩ := h
  refine ⟨by omega, hi, by omega, ?_⟩
  rw [dr_step hi] at h4
  have e : spl c (l.getD i 0 :: l.drop (i + 1)) = (l.getD i 0 :: (spl c (l.drop (i + 1))).headD []) :: (spl c (l.drop (i + 1))).tail := by
    show (if l.getD i 0 = c then _ else _) = _
    rw [if_neg hc]
  rw [e] at h4
  rw [h4, tk_step hi h1, List.append_assoc]
  rfl
theorem zsI_end {c : UInt8} {l : List UInt8} {fr : Nat} {P : List (List UInt8)} (h : ZsI c l l.length fr P) : spl c l = P ++ [l.drop fr] := by
  obtain ⟨h1, h2, h3, h4⟩ := h
  rw [List.drop_of_length_le (Nat.le_refl _)] at h4
  rw [h4, List.take_of_length_le (by rw [List.length_drop]; exact Nat.le_refl _)]
  show P ++ [l.drop fr ++ []] = _
  rw [List.append_nil]
def zsI (l : List UInt8) (c : UInt8) (i fr m : Nat) (j : Nat) : Int := if j = 1 then (l.length : Nat) else if j = 2 then (i : Nat) else if j = 3 then (fr : Nat) else if j = 4 then (i : Nat) + 1 else if j = 5 then (l.getD i 0).toNat else if j = 6 then c.toNat else (m : Nat)
def zsSt (l : List UInt8) (i fr : Nat) (j : Nat) : ByteArray := if j = 0 then bs l else if j = 20 then bs ((l.drop fr).take (i - fr)) else bs (l.drop fr)
def zsLs (l : List UInt8) (i fr : Nat) (P : List (List UInt8)) (j : Nat) : List Value := if j = 9 then P.map strB else if j = 10 then (P ++ [(l.drop fr).take (i - fr)]).map strB else (P ++ [l.drop fr]).map strB
def zsNm (l : List UInt8) (c : UInt8) (i fr : Nat) (P : List (List UInt8)) : Nm := ⟨zsI l c i fr P.length, ny, zsSt l i fr, zsLs l i fr P⟩
theorem zs_ids (l : List UInt8) (c : UInt8) (i fr : Nat) (P : List (List UInt8)) (i' fr' : Nat) (P' : List (List UInt8)) (W W' : Nat → Value) (f x : RV) (hf : @cv ((zsNm l c i fr P).val W) f = .int .i64 (fr' : Nat)) (hx : @cv ((zsNm l c i fr P).val W) x = .int .i64 (i' : Nat)) : ∀ q, q ∈ zsS f x → okSE ((zsNm l c i fr P).val W) ((zsNm l c i' fr' P').val W') q :=
  fa ⟨bs l, rfl, rfl⟩ (fa ⟨.i64, (l.length : Nat), rfl, rfl⟩ (fa ⟨.u8, (c.toNat : Nat), rfl, rfl⟩ (fa ⟨.i64, (fr' : Nat), hf, rfl⟩ (fa ⟨.i64, (i' : Nat), hx, rfl⟩ fz))))
theorem strs_one (P : List (List UInt8)) : ∀ v, v ∈ P.map strB → v.oneCell' = true := fun v hv => by
  obtain ⟨p, _, rfl⟩ := List.mem_map.1 hv
  rfl
theorem rsplit_q (V : Val) (l : List UInt8) (c : UInt8) (hl : l.length ≤ 100000) {x y : RV} (fx : flat x = true) (fy : flat y = true) (hx : @cvF V x = strB l) (hy : @cvF V y = .int .u8 (c.toNat : Nat)) (h9 : V.L 9 = (spl c l).map strB) : @QNTrue V ⟨fRSplit, [x, y], .slN 0 9 1, [some (.lst 9 tStr true)]⟩ := by
  intro w hr vs hv
  let V1 : Val := (zsNm l c 0 0 []).val fun _ => undef
  have hv : All2 (@Go.Ri.NVal V1 w) zsD vs := by
    cases hv with
    | cons h1 h2 => cases h2 with
      | cons h2 h3 =>
        cases h3
        exact .cons (nval_re (V := V) (V' := V1) (y := sS 0) fx rfl hx rfl h1) (.cons (nval_re (V := V) (V' := V1) (y := sU8 6) fy rfl hy rfl h2) .nil)
  have ht0 : @TbOK V1 {} := by
    letI := V1
    exact {}
  refine fn_headsN (κ := Bool) (zsNm l c 0 0 []) (fun _ => undef) {} [] fRSplit zsD (fun _ => 0) zsP (fun m ne d => ∃ i fr P, ZsI c l i fr P ∧ m = l.length - i ∧ ne = !P.isEmpty ∧ d = zsNm l c i fr P) ht0 [.str 0 (sS 0), .int 6 (sU8 6), .int 3 (lI 0), .int 2 (lI 0)] [] false l.length zs_enter (zsNm l c 0 0 []) (fun W' => holds_all (fa ⟨bs l, rfl, rfl⟩ (fa ⟨.u8, (c.toNat : Nat), rfl, rfl⟩ (fa ⟨.i64, 0, rfl, rfl⟩ (fa ⟨.i64, 0, rfl, rfl⟩ fz))))) ⟨0, 0, [], zsI_start c l, rfl, rfl, rfl⟩ (DQ V (.slN 0 9 1) [some (.lst 9 tStr true)]) ?_ w hr vs hv
  rintro w m ne d ⟨i, fr, P, hI, rfl, rfl, rfl⟩ W
  obtain ⟨h1, h2, h3, h4⟩ := id hI
  have hlen : @TETrue ((zsNm l c i fr P).val W) ⟨.len, sS 0, sS 0, sI 1⟩ := by
    letI : Val := (zsNm l c i fr P).val W
    exact f_len (s := bs l) rfl (by rw [bs_list]; rfl) rfl
  have hlss : ∀ q, decide (i < l.length) = q → ∀ e, e ∈ zsH q → @TETrue ((zsNm l c i fr P).val W) e := fun q hq => by
    letI : Val := (zsNm l c i fr P).val W
    exact fa hlen (fa (f_lss (k := .i64) (m := (i : Int)) (n := (l.length : Int)) rfl rfl (by rw [← hq]; exact decide_eq_decide.2 (by omega))) fz)
  have hLL : @LLTrue ((zsNm l c i fr P).val W) ⟨9, 1, sI 7⟩ := ⟨rfl, P.length, Nat.succ_pos 0, by rw [Nat.mul_one]; exact List.length_map _, rfl⟩
  have hLA : ∀ (j : Nat) (x : List UInt8) (r : RV), ((zsNm l c i fr P).val W).L j = (P ++ [x]).map strB → @cv ((zsNm l c i fr P).val W) r = strB x → @LATrue ((zsNm l c i fr P).val W) ⟨9, [r], j⟩ := fun j x r hj hx => by
    refine ⟨?_, ?_, strs_one P⟩
    · rw [show ((zsNm l c i fr P).val W).L j = _ from hj]
      show (P ++ [x]).map strB = P.map strB ++ [@cv ((zsNm l c i fr P).val W) r]
      rw [hx, List.map_append]
      rfl
    · rw [show ((zsNm l c i fr P).val W).L j = _ from hj, List.length_map, List.length_append]
      simp only [List.length_cons, List.length_nil]
      omega
  rcases Nat.lt_or_ge i l.length with hlt | hge
  · have ht : ∀ q, decide (l.getD i 0 = c) = q → @TbOK ((zsNm l c i fr P).val W) (zsT q) := fun q hq => by
      letI : Val := (zsNm l c i fr P).val W
      have hix : TETrue ⟨.idx, sS 0, sI 2, sU8 5⟩ := f_idx (s := bs l) (j := i) rfl rfl (by rw [bs_list]; rfl) rfl (by rw [bs_list]; exact hlt)
      have hieq : TETrue ⟨.ieq, sU8 5, sU8 6, bR q⟩ := f_ieq (k := .u8) (m := ((l.getD i 0).toNat : Int)) (n := (c.toNat : Int)) rfl rfl (by
        rw [eqdec, ← hq]
        exact decide_eq_decide.2 ⟨fun h => by rw [← UInt8.toNat_inj]; omega, fun h => by rw [h]⟩)
      refine { T := fapp (hlss true (decide_eq_true hlt)) (fa hix (fa hieq (fa (f_add1 (m := (i : Int)) rfl rfl rfl (by omega) (by omega)) fz))), SS := ?_, LA := ?_, LL := fa hLL fz }
      · cases q
        · exact fz
        · exact fa (hLA 10 _ (sS 20) rfl rfl) fz
      · cases q
        · exact fz
        · refine fa ⟨rfl, bs l, .i64, .i64, fr, i, rfl, rfl, rfl, h1, by rw [bs_size]; omega, ?_⟩ fz
          rw [bs_ext]
          rfl
    cases hq : decide (l.getD i 0 = c) with
    | true =>
      have hI' := zsI_hit hI hlt (of_decide_eq_true hq)
      have hne : (!(P ++ [(l.drop fr).take (i - fr)]).isEmpty) = (!P.isEmpty || true) := by
        rw [Bool.or_true]
        cases P <;> rfl
      refine stepH_to (zsT true) [] (ht true hq) _ _ ?_ (!(P ++ [(l.drop fr).take (i - fr)]).isEmpty) (zsNm l c (i + 1) (i + 1) (P ++ [(l.drop fr).take (i - fr)])) (by rw [hne]; exact all2_all (all2_all zs_round (!P.isEmpty)) true) (fun W' => holds_all (fapp ?_ (zs_ids l c i fr P (i + 1) (i + 1) _ W W' (sI 4) (sI 4) rfl rfl))) ⟨l.length - (i + 1), by omega, i + 1, i + 1, _, hI', rfl, rfl, rfl⟩
      · rfl
      · cases P with
        | nil => exact fa rfl fz
        | cons _ _ => exact fa rfl fz
    | false =>
      have hI' := zsI_miss hI hlt (of_decide_eq_false hq)
      refine stepH_to (zsT false) [] (ht false hq) _ _ ?_ (!P.isEmpty) (zsNm l c (i + 1) fr P) (by have := all2_all (all2_all zs_round (!P.isEmpty)) false; rwa [Bool.or_false] at this) (fun W' => holds_all (fapp ?_ (zs_ids l c i fr P (i + 1) fr _ W W' (sI 3) (sI 4) rfl rfl))) ⟨l.length - (i + 1), by omega, i + 1, fr, _, hI', rfl, rfl, rfl⟩
      · rfl
      · cases P with
        | nil => exact fz
        | cons _ _ => exact fa rfl fz
  · obtain rfl : i = l.length := by omega
    have ht : @TbOK ((zsNm l c l.length fr P).val W) zsE := by
      letI : Val := (zsNm l c l.length fr P).val W
      refine { T := hlss false (decide_eq_false (Nat.lt_irrefl _)), SS := fa ⟨rfl, bs l, .i64, .i64, fr, l.length, rfl, rfl, rfl, h1, by rw [bs_size]; omega, ?_⟩ fz, LA := fa (hLA 11 _ (sS 21) rfl rfl) fz, LL := fa hLL fz }
      rw [bs_ext, List.take_of_length_le (by rw [List.length_drop]; exact Nat.le_refl _)]
      rfl
    refine stepH_outQ zsE [] ht V _ _ _ _ (all2_all zs_out (!P.isEmpty)) rfl (holds_all ?_)
    rw [zsI_end hI] at h9
    cases P with
    | nil => exact fa (h9.trans rfl) fz
    | cons _ _ => exact fa (h9.trans rfl) fz
end Go.Proofs.Z
