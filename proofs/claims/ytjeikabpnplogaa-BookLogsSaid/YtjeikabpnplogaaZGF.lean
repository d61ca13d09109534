/- A part of the proofs that the laws of layer eight answer true for every input. -/
import Derived.Test.YtjeikabpnplogaaZFD
namespace Go.Proofs.Z
open Go Go.RowKit Go.Proofs Go.Ri Go.Proofs.Z.Fa
/-! sticksOf of one to three parishes: runs; each parish's sticks a list of their own: 41 to 43. 607 the number, 608 the next one; 11 the sticks so far, 12 then. -/
def wlpR (P : Nat) : RV := .agg [sU 600, lI (P : Nat), sI 602, sI 603, .slN 0 3 4]
def wlpB (P : Nat) : RH := [some (.lstA 3), some (.cells [sU 600, lI (P : Nat), sI 602, sI 603, .slA 0 3 4] tWorld false false)]
def rowR (b p : Nat) : List RV := (List.range p).map fun r => .slN (b + 1 + r) (41 + r) 32
noncomputable def outB (b p : Nat) : RH := if Nat.beq p 0 then [] else some (.cells (rowR b p) tSticks true false) :: (List.range p).map fun r => some (.lst (41 + r) tStick true)
def n0 (p : Nat) : Nat := if Nat.beq p 0 then 2 else 3 + p
noncomputable def ssP (P p : Nat) (o : Option Bool) : St := match o with
  | none => ⟨patW [(1, .ptr 1 0), (3, if Nat.beq p 0 then nilR else .sl 2 0 p 1 none), (4, lI (p : Nat))] 38 0, wlpB P ++ outB 2 p⟩
  | some nb => ⟨patW [(1, .ptr 1 0), (3, if Nat.beq p 0 then nilR else .sl 2 0 p 1 none), (4, lI (p : Nat)), (5, if nb then .slN (n0 p) 11 32 else nilR), (6, sI 607)] 38 0, wlpB P ++ (outB 2 p ++ if nb then [some (.lst 11 tStick true)] else [])⟩
def ssS (n : RV) (p : Nat) (L : List SE) : List SE := [.int 600 (sU 600), .int 602 (sI 602), .int 603 (sI 603), .int 604 (sI 604), .int 607 n, .lst 3 3] ++ ((List.range p).map (fun r => SE.lst (41 + r) (41 + r)) ++ L)
noncomputable def ssI (p : Nat) (nb : Bool) : Tb := { T := [⟨.bin .add, sI 607, lI 1, sI 608⟩, ⟨.bin .lss, sI 607, sI 602, bR true⟩], Y := [⟨fRMk, [sU 600, lI (p : Nat), sI 607], .tup [.agg skC, sI 14]⟩], LA := if nb then [⟨11, skC, 12⟩] else [] }
noncomputable def ssE : Tb := { T := [⟨.bin .lss, sI 607, sI 602, bR false⟩] }
set_option maxRecDepth 100000 in
theorem ss_enter : (allU 3 fun P => atH (entN { LL := fwLL } [] fSticksOf [wlpR (P + 1)]) fSticksOf 0 (ssS (lI 0) 0 []) [0, 1] (ssP (P + 1) 0 none)) = true := by kernel_rfl
set_option maxRecDepth 100000 in
theorem ss_in : (allU 3 fun P => allU 3 fun p => Nat.ble (P + 1) p || atH (fromH {} [] fSticksOf 0 (ssP (P + 1) p none)) fSticksOf 1 (ssS (lI 0) p []) (List.range (n0 p)) (ssP (P + 1) p (some false))) = true := by kernel_rfl
set_option maxRecDepth 100000 in
theorem ss_first : (allU 3 fun P => allU 3 fun p => atH (fromH (ssI p false) [] fSticksOf 1 (ssP (P + 1) p (some false))) fSticksOf 1 (ssS (sI 608) p [.new 11 skC]) (List.range (n0 p) ++ [n0 p + 2]) (ssP (P + 1) p (some true))) = true := by kernel_rfl
set_option maxRecDepth 100000 in
theorem ss_next : (allU 3 fun P => allU 3 fun p => atH (fromH (ssI p true) [] fSticksOf 1 (ssP (P + 1) p (some true))) fSticksOf 1 (ssS (sI 608) p [.lst 11 12]) (List.range (n0 p) ++ [n0 p + 3]) (ssP (P + 1) p (some true))) = true := by kernel_rfl
set_option maxRecDepth 100000 in
theorem ss_row : (allU 3 fun P => allU 3 fun p => atH (fromH ssE [] fSticksOf 1 (ssP (P + 1) p (some true))) fSticksOf 0 (ssS (lI 0) p [.lst (41 + p) 11]) ([0, 1, n0 p + 2] ++ ((List.range p).map (fun r => 3 + r) ++ [n0 p])) (ssP (P + 1) (p + 1) none)) = true := by kernel_rfl
set_option maxRecDepth 100000 in
theorem ss_out : (allU 3 fun P => endQ {} fSticksOf (fromH {} [] fSticksOf 0 (ssP (P + 1) (P + 1) none)) ((List.range (P + 1)).map fun r => SE.lst (41 + r) (41 + r)) ((List.range (P + 2)).map fun r => 2 + r) (.sl 0 0 (P + 1) 1 none) (outB 0 (P + 1))) = true := by kernel_rfl
end Go.Proofs.Z

namespace Go.Proofs.Z
open Go Go.RowKit Go.Proofs Go.Ri Go.Proofs.Z.Fa
/-! sticksOf of one to three parishes, each parish's sticks a list of their own: contract. -/
def ssZ (l11 l12 r0 r1 r2 : List Value) (k : Nat) : List Value := if k = 11 then l11 else if k = 12 then l12 else if k = 41 then r0 else if k = 42 then r1 else r2
section
variable {sd P0 N S : Int} {n : Nat} {l : List Value} {j : Nat} {im : Nat → Int} {er : Int} {y : Nat → ByteArray} {l11 l12 r0 r1 r2 : List Value} {W : Nat → Value}
theorem ss11 : ((wdNm sd P0 N S n 0 l (sqX j im er) y (ssZ l11 l12 r0 r1 r2)).val W).L 11 = l11 := rfl
theorem ss12 : ((wdNm sd P0 N S n 0 l (sqX j im er) y (ssZ l11 l12 r0 r1 r2)).val W).L 12 = l12 := rfl
theorem ss41 : ((wdNm sd P0 N S n 0 l (sqX j im er) y (ssZ l11 l12 r0 r1 r2)).val W).L 41 = r0 := rfl
theorem ss42 : ((wdNm sd P0 N S n 0 l (sqX j im er) y (ssZ l11 l12 r0 r1 r2)).val W).L 42 = r1 := rfl
theorem ss43 : ((wdNm sd P0 N S n 0 l (sqX j im er) y (ssZ l11 l12 r0 r1 r2)).val W).L 43 = r2 := rfl
theorem ss607 : @cv ((wdNm sd P0 N S n 0 l (sqX j im er) y (ssZ l11 l12 r0 r1 r2)).val W) (sI 607) = .int .i64 (j : Nat) := congrArg (Value.int .i64) ((show wdI sd P0 N S n 0 (sqX j im er) 607 = sqX j im er 607 from wdI_x (by omega)).trans (by simp [sqX]))
theorem ss608 : @cv ((wdNm sd P0 N S n 0 l (sqX j im er) y (ssZ l11 l12 r0 r1 r2)).val W) (sI 608) = .int .i64 ((j : Int) + 1) := congrArg (Value.int .i64) ((show wdI sd P0 N S n 0 (sqX j im er) 608 = sqX j im er 608 from wdI_x (by omega)).trans (by simp [sqX]))
theorem ss14 : @cv ((wdNm sd P0 N S n 0 l (sqX j im er) y (ssZ l11 l12 r0 r1 r2)).val W) (sI 14) = .int .i64 er := congrArg (Value.int .i64) ((show wdI sd P0 N S n 0 (sqX j im er) 14 = sqX j im er 14 from wdI_x (by omega)).trans (by simp [sqX]))
theorem ss_cs : skC.map (@cv ((wdNm sd P0 N S n 0 l (sqX j im er) y (ssZ l11 l12 r0 r1 r2)).val W)) = stCs im := by
  unfold skC stCs
  rw [List.map_map]
  refine List.map_congr_left fun i hi => ?_
  have hi := List.mem_range.1 hi
  show Value.int .u64 (wdI sd P0 N S n 0 (sqX j im er) (200 + i)) = _
  rw [wdI_x (by omega)]
  unfold sqX
  rw [if_neg (by omega), if_neg (by omega), if_neg (by omega), Nat.add_sub_cancel_left]
theorem ssI_ok {p : Nat} (hj : j ≤ 1000) (hN : (j : Int) < N) (hM : Ans fRMk [.int .u64 sd, .int .i64 (p : Nat), .int .i64 (j : Nat)] (tup2 (stkV im) (.int .i64 er))) (h12 : l12 = l11 ++ stCs im) (hl : l11.length ≤ 100000) (h1 : ∀ v, v ∈ l11 → v.oneCell' = true) (nb : Bool) : @TbOK ((wdNm sd P0 N S n 0 l (sqX j im er) y (ssZ l11 l12 r0 r1 r2)).val W) (ssI p nb) := by
  have e2 : @cv ((wdNm sd P0 N S n 0 l (sqX j im er) y (ssZ l11 l12 r0 r1 r2)).val W) (sI 602) = .int .i64 N := w602
  have q7 := ss607 (sd := sd) (P0 := P0) (N := N) (S := S) (n := n) (l := l) (j := j) (im := im) (er := er) (y := y) (l11 := l11) (l12 := l12) (r0 := r0) (r1 := r1) (r2 := r2) (W := W)
  have q8 := ss608 (sd := sd) (P0 := P0) (N := N) (S := S) (n := n) (l := l) (j := j) (im := im) (er := er) (y := y) (l11 := l11) (l12 := l12) (r0 := r0) (r1 := r1) (r2 := r2) (W := W)
  have e0 : @cvF ((wdNm sd P0 N S n 0 l (sqX j im er) y (ssZ l11 l12 r0 r1 r2)).val W) (sU 600) = .int .u64 sd := w600
  have q7' : @cvF ((wdNm sd P0 N S n 0 l (sqX j im er) y (ssZ l11 l12 r0 r1 r2)).val W) (sI 607) = .int .i64 (j : Nat) := q7
  have q14 : @cv ((wdNm sd P0 N S n 0 l (sqX j im er) y (ssZ l11 l12 r0 r1 r2)).val W) (sI 14) = .int .i64 er := ss14
  have hs : @cv1 ((wdNm sd P0 N S n 0 l (sqX j im er) y (ssZ l11 l12 r0 r1 r2)).val W) (.agg skC) = stkV im := congrArg (fun z : List Value => Value.agg z.toArray) ss_cs
  have hY : Ans fRMk [@cvF ((wdNm sd P0 N S n 0 l (sqX j im er) y (ssZ l11 l12 r0 r1 r2)).val W) (sU 600), .int .i64 (p : Nat), @cvF ((wdNm sd P0 N S n 0 l (sqX j im er) y (ssZ l11 l12 r0 r1 r2)).val W) (sI 607)] (tup2 (@cv1 ((wdNm sd P0 N S n 0 l (sqX j im er) y (ssZ l11 l12 r0 r1 r2)).val W) (.agg skC)) (@cv ((wdNm sd P0 N S n 0 l (sqX j im er) y (ssZ l11 l12 r0 r1 r2)).val W) (sI 14))) := by
    rw [e0, q7', q14, hs]
    exact hM
  have hA : ∀ t, t ∈ (if nb then [⟨11, skC, 12⟩] else ([] : List LAE)) → @LATrue ((wdNm sd P0 N S n 0 l (sqX j im er) y (ssZ l11 l12 r0 r1 r2)).val W) t := by
    split
    · refine fa ⟨?_, ?_, ?_⟩ fz
      · show l12 = l11 ++ skC.map (@cv ((wdNm sd P0 N S n 0 l (sqX j im er) y (ssZ l11 l12 r0 r1 r2)).val W))
        rw [ss_cs]
        exact h12
      · show l12.length ≤ 1000000
        rw [h12, List.length_append, stCs_len]
        omega
      · exact h1
    · exact fz
  letI : Val := ((wdNm sd P0 N S n 0 l (sqX j im er) y (ssZ l11 l12 r0 r1 r2)).val W)
  exact { T := fa (f_addL (m := (j : Int)) q7 q8 rfl (by omega) (by omega)) (fa (f_lss q7 e2 (decide_eq_true hN)) fz), Y := fa hY fz, LA := hA }
theorem ssE_ok (hN : N ≤ (j : Int)) : @TbOK ((wdNm sd P0 N S n 0 l (sqX j im er) y (ssZ l11 l12 r0 r1 r2)).val W) ssE := by
  have e2 : @cv ((wdNm sd P0 N S n 0 l (sqX j im er) y (ssZ l11 l12 r0 r1 r2)).val W) (sI 602) = .int .i64 N := w602
  have q7 := ss607 (sd := sd) (P0 := P0) (N := N) (S := S) (n := n) (l := l) (j := j) (im := im) (er := er) (y := y) (l11 := l11) (l12 := l12) (r0 := r0) (r1 := r1) (r2 := r2) (W := W)
  letI : Val := ((wdNm sd P0 N S n 0 l (sqX j im er) y (ssZ l11 l12 r0 r1 r2)).val W)
  exact { T := fa (f_lss q7 e2 (decide_eq_false (show ¬ ((j : Int) < N) by omega))) fz }
end
/-- Names at a place: the rows so far are right. -/
structure SsG (sd P0 N S : Int) (n : Nat) (l : List Value) (p j : Nat) (im : Nat → Int) (er : Int) (y : Nat → ByteArray) (l11 l12 r0 r1 r2 : List Value) (c : Nm) : Prop where
  gc : c = wdNm sd P0 N S n 0 l (sqX j im er) y (ssZ l11 l12 r0 r1 r2)
  g11 : l11 = rowM sd p j
  g12 : l12 = rowM sd p (j + 1)
  g12' : l12 = l11 ++ stCs im
  g0 : r0 = rowM sd 0 N.toNat
  g1 : r1 = rowM sd 1 N.toNat
  g2 : r2 = rowM sd 2 N.toNat
  gm : Ans fRMk [.int .u64 sd, .int .i64 (p : Nat), .int .i64 (j : Nat)] (tup2 (stkV im) (.int .i64 er))
def SsN (sd P0 N S : Int) (n : Nat) (l : List Value) (p j : Nat) (c : Nm) : Prop := ∃ im er y l11 l12 r0 r1 r2, SsG sd P0 N S n l p j im er y l11 l12 r0 r1 r2 c
theorem ssN_ex {sd : Int} (P0 N S : Int) (n : Nat) (l : List Value) (hsd : 0 ≤ sd ∧ sd < 18446744073709551616) (p j : Nat) : ∃ c, SsN sd P0 N S n l p j c := by
  have hm := mk_ans false (x := sd) (p := (p : Nat)) (n := (j : Nat)) hsd.1 hsd.2
  exact ⟨_, stkM sd (p : Nat) (j : Nat), secE (p : Nat) (j : Nat) 0 0, fun _ => ⟨#[]⟩, rowM sd p j, rowM sd p (j + 1), _, _, _, ⟨rfl, rfl, rfl, rfl, rfl, rfl, rfl, hm⟩⟩
/-- What two places' names say of each other. -/
theorem ssS_ok {sd P0 N S : Int} {n : Nat} {l : List Value} {p p' j j' : Nat} {im im' : Nat → Int} {er er' : Int} {y y' : Nat → ByteArray} {l11 l12 r0 r1 r2 m11 m12 s0 s1 s2 : List Value} {W W' : Nat → Value} {a : RV} {q : Nat} {L : List SE} {c c' : Nm}
    (h : SsG sd P0 N S n l p j im er y l11 l12 r0 r1 r2 c) (h' : SsG sd P0 N S n l p' j' im' er' y' m11 m12 s0 s1 s2 c') (ha : @cv (c.val W) a = .int .i64 (j' : Nat)) (hq : q ≤ 3) (hL : ∀ e, e ∈ L → @okSE (c.val W) (c'.val W') e) : ∀ e, e ∈ ssS a q L → @okSE (c.val W) (c'.val W') e := by
  obtain ⟨rfl, _, _, _, g0, g1, g2, _⟩ := h
  obtain ⟨rfl, _, _, _, k0, k1, k2, _⟩ := h'
  have q7 : wdI sd P0 N S n 0 (sqX j' im' er') 607 = (j' : Nat) := (wdI_x (by omega)).trans (by simp [sqX])
  refine fapp (fa ⟨.u64, sd, w600, rfl⟩ (fa ⟨.i64, N, w602, show wdI sd P0 N S n 0 (sqX j' im' er') 602 = N by simp [wdI]⟩ (fa ⟨.i64, S, w603, show wdI sd P0 N S n 0 (sqX j' im' er') 603 = S by simp [wdI]⟩ (fa ⟨.i64, (n : Nat), w604, show wdI sd P0 N S n 0 (sqX j' im' er') 604 = (n : Nat) by simp [wdI]⟩ (fa ⟨.i64, (j' : Nat), ha, q7⟩ (fa rfl fz)))))) (fapp ?_ hL)
  intro e he
  obtain ⟨r, hr, rfl⟩ := List.mem_map.1 he
  have hr := List.mem_range.1 hr
  have h3 : r = 0 ∨ r = 1 ∨ r = 2 := by omega
  rcases h3 with rfl | rfl | rfl
  · exact ss41.trans ((k0.trans g0.symm).trans ss41.symm)
  · exact ss42.trans ((k1.trans g1.symm).trans ss42.symm)
  · exact ss43.trans ((k2.trans g2.symm).trans ss43.symm)
/-- sticksOf: P + 1 parishes. -/
theorem sticksP_ans {sd P0 N S : Int} {n : Nat} {l : List Value} {k0 : Nat} {x0 : Nat → Int} {y0 : Nat → ByteArray} {z0 : Nat → List Value} {W0 : Nat → Value} {P : Nat} (hP : P < 3) (hl : l.length = n * 4) (hsd : 0 ≤ sd ∧ sd < 18446744073709551616) (hN : 1 ≤ N ∧ N ≤ 6) (V : Val) (hV : ∀ r, r < P + 1 → V.L (41 + r) = rowM sd r N.toNat) :
    ∀ w, RoIn ro w → ∀ vs, All2 (@Go.Ri.NVal ((wdNm sd P0 N S n k0 l x0 y0 z0).val W0) w) [wlpR (P + 1)] vs → Calls Try.prog fSticksOf vs.toArray w (DQ V (.sl 0 0 (P + 1) 1 none) (outB 0 (P + 1)) w) := by
  intro w hr vs hv
  have ht0 : @TbOK ((wdNm sd P0 N S n k0 l x0 y0 z0).val W0) { LL := fwLL } := by
    have hL := fwLL_true (sd := sd) (P := P0) (N := N) (S := S) (n := n) (k := k0) (l := l) (x := x0) (y := y0) (z := z0) (W := W0) hl
    letI : Val := (wdNm sd P0 N S n k0 l x0 y0 z0).val W0
    exact { LL := hL }
  obtain ⟨c1, hc1⟩ := ssN_ex P0 N S n l hsd 0 0
  have hS0 : ∀ W' e, e ∈ ssS (lI 0) 0 [] → @okSE ((wdNm sd P0 N S n k0 l x0 y0 z0).val W0) (c1.val W') e := by
    intro W'
    obtain ⟨im, er, y, l11, l12, r0, r1, r2, hG⟩ := hc1
    obtain ⟨rfl, _, _, _, _, _, _, _⟩ := hG
    have q7 : wdI sd P0 N S n 0 (sqX 0 im er) 607 = (0 : Nat) := (wdI_x (by omega)).trans (by simp [sqX])
    exact fapp (fa ⟨.u64, sd, w600, rfl⟩ (fa ⟨.i64, N, w602, show wdI sd P0 N S n 0 (sqX 0 im er) 602 = N by simp [wdI]⟩ (fa ⟨.i64, S, w603, show wdI sd P0 N S n 0 (sqX 0 im er) 603 = S by simp [wdI]⟩ (fa ⟨.i64, (n : Nat), w604, show wdI sd P0 N S n 0 (sqX 0 im er) 604 = (n : Nat) by simp [wdI]⟩ (fa ⟨.i64, 0, rfl, q7⟩ (fa rfl fz)))))) (fapp fz fz)
  refine fn_headsN (κ := Nat × Option Bool) (wdNm sd P0 N S n k0 l x0 y0 z0) W0 { LL := fwLL } [] fSticksOf [wlpR (P + 1)] (fun κ => if κ.2.isSome then 1 else 0) (fun κ => ssP (P + 1) κ.1 κ.2)
    (fun m κ c => ∃ j : Nat, SsN sd P0 N S n l κ.1 j c ∧ ((κ.2 = none ∧ κ.1 ≤ P + 1 ∧ j = 0 ∧ m = (P + 1 - κ.1) * (N.toNat + 2)) ∨ (κ.2 = some (!Nat.beq j 0) ∧ κ.1 < P + 1 ∧ j ≤ N.toNat ∧ m = (P + 1 - κ.1 - 1) * (N.toNat + 2) + (N.toNat + 1 - j))))
    ht0 (ssS (lI 0) 0 []) [0, 1] (0, none) ((P + 1) * (N.toNat + 2)) (allU_lt ss_enter P hP) c1 (fun W' => holds_all (hS0 W')) ⟨0, hc1, .inl ⟨rfl, Nat.zero_le _, rfl, rfl⟩⟩ (DQ V (.sl 0 0 (P + 1) 1 none) (outB 0 (P + 1))) ?_ w hr vs hv
  clear hc1 hS0 hr ht0 hv
  rintro w m ⟨p, o⟩ c ⟨j, ⟨im, er, y, l11, l12, r0, r1, r2, hG⟩, hor⟩ W
  have hG0 := hG
  obtain ⟨rfl, g11, g12, g12', g0, g1, g2, gm⟩ := hG
  have hl11 : l11.length = j * 32 := by rw [g11, rowM_len]
  have g11 : l11 = rowM sd p j := g11
  have g12 : l12 = rowM sd p (j + 1) := g12
  rcases hor with ⟨ho, hp, rfl, hm⟩ | ⟨ho, hp, hj, hm⟩
  · have ho : o = none := ho
    subst ho
    have hp : p ≤ P + 1 := hp
    have hm : m = (P + 1 - p) * (N.toNat + 2) := hm
    rcases Nat.lt_or_ge p (P + 1) with hlt | hge
    · obtain ⟨c2, hc2⟩ := ssN_ex P0 N S n l hsd p 0
      have ht : @TbOK ((wdNm sd P0 N S n 0 l (sqX 0 im er) y (ssZ l11 l12 r0 r1 r2)).val W) {} := by
        letI : Val := (wdNm sd P0 N S n 0 l (sqX 0 im er) y (ssZ l11 l12 r0 r1 r2)).val W
        exact {}
      have hc2' := hc2
      obtain ⟨im', er', y', m11, m12, s0, s1, s2, hG'⟩ := hc2'
      have hat := allU_lt (allU_lt ss_in P hP) p (by omega)
      rw [show Nat.ble (P + 1) p = false from Bool.eq_false_iff.2 fun hb => by have := Nat.le_of_ble_eq_true hb; omega, Bool.false_or] at hat
      refine stepH_to {} [] ht (ssS (lI 0) p []) (List.range (n0 p)) rfl (p, some false) _ hat (fun W' => holds_all (ssS_ok hG0 hG' rfl (by omega) fz)) ⟨(P + 1 - p - 1) * (N.toNat + 2) + (N.toNat + 1), ?_, 0, hc2, .inr ⟨rfl, hlt, Nat.zero_le _, rfl⟩⟩
      have h1 : P + 1 - p = (P + 1 - p - 1) + 1 := by omega
      have h2 : (P + 1 - p) * (N.toNat + 2) = (P + 1 - p - 1) * (N.toNat + 2) + (N.toNat + 2) := by
        conv => lhs; rw [h1, Nat.succ_mul]
      omega
    · obtain rfl : p = P + 1 := by omega
      have ht : @TbOK ((wdNm sd P0 N S n 0 l (sqX 0 im er) y (ssZ l11 l12 r0 r1 r2)).val W) {} := by
        letI : Val := (wdNm sd P0 N S n 0 l (sqX 0 im er) y (ssZ l11 l12 r0 r1 r2)).val W
        exact {}
      refine stepH_outQ {} [] ht V _ _ _ _ (allU_lt ss_out P hP) rfl (holds_all fun e he => ?_)
      obtain ⟨r, hr, rfl⟩ := List.mem_map.1 he
      have hr := List.mem_range.1 hr
      have hVr := hV r hr
      have h3 : r = 0 ∨ r = 1 ∨ r = 2 := by omega
      rcases h3 with rfl | rfl | rfl
      · exact (hVr.trans g0.symm).trans ss41.symm
      · exact (hVr.trans g1.symm).trans ss42.symm
      · exact (hVr.trans g2.symm).trans ss43.symm
  · have ho : o = some (!Nat.beq j 0) := ho
    subst ho
    have hp : p < P + 1 := hp
    have hm : m = (P + 1 - p - 1) * (N.toNat + 2) + (N.toNat + 1 - j) := hm
    rcases Nat.lt_or_ge j N.toNat with hlt | hge
    · obtain ⟨c2, hc2⟩ := ssN_ex P0 N S n l hsd p (j + 1)
      have ht := fun nb => ssI_ok (sd := sd) (P0 := P0) (N := N) (S := S) (n := n) (l := l) (im := im) (er := er) (y := y) (r0 := r0) (r1 := r1) (r2 := r2) (W := W) (p := p) (show j ≤ 1000 by omega) (by omega) gm g12' (by omega) (by rw [g11]; exact rowM_one j) nb
      have hc2' := hc2
      obtain ⟨im', er', y', m11, m12, s0, s1, s2, hG'⟩ := hc2'
      have hG2 := hG'
      obtain ⟨rfl, g11', _, _, _, _, _, _⟩ := hG'
      have hmes : (P + 1 - p - 1) * (N.toNat + 2) + (N.toNat + 1 - (j + 1)) < m := by omega
      by_cases h0 : j = 0
      · subst h0
        have h11n : l11 = [] := List.length_eq_zero_iff.1 (by omega)
        refine stepH_to (ssI p false) [] (ht false) (ssS (sI 608) p [.new 11 skC]) (List.range (n0 p) ++ [n0 p + 2]) rfl (p, some true) _ (allU_lt (allU_lt ss_first P hP) p (by omega)) (fun W' => holds_all (ssS_ok hG0 hG2 ss608 (by omega) (fa ?_ fz))) ⟨_, hmes, 1, hc2, .inr ⟨rfl, hp, hlt, rfl⟩⟩
        refine ss11.trans (Eq.trans ?_ ss_cs.symm)
        rw [g11', ← g12, g12', h11n]
        rfl
      · have hb0 : Nat.beq j 0 = false := Bool.eq_false_iff.2 fun hb => h0 (Nat.eq_of_beq_eq_true hb)
        rw [hb0]
        refine stepH_to (ssI p true) [] (ht true) (ssS (sI 608) p [.lst 11 12]) (List.range (n0 p) ++ [n0 p + 3]) rfl (p, some true) _ (allU_lt (allU_lt ss_next P hP) p (by omega)) (fun W' => holds_all (ssS_ok hG0 hG2 ss608 (by omega) (fa ?_ fz))) ⟨_, hmes, j + 1, hc2, .inr ⟨rfl, hp, hlt, rfl⟩⟩
        exact ss11.trans ((g11'.trans g12.symm).trans ss12.symm)
    · obtain rfl : j = N.toNat := by omega
      have hb0 : Nat.beq N.toNat 0 = false := Bool.eq_false_iff.2 fun hb => by have := Nat.eq_of_beq_eq_true hb; omega
      rw [hb0]
      obtain ⟨c2, hc2⟩ := ssN_ex P0 N S n l hsd (p + 1) 0
      have ht := ssE_ok (sd := sd) (P0 := P0) (N := N) (S := S) (n := n) (l := l) (im := im) (er := er) (y := y) (l11 := l11) (l12 := l12) (r0 := r0) (r1 := r1) (r2 := r2) (W := W) (show N ≤ ((N.toNat : Nat) : Int) by omega)
      have hc2' := hc2
      obtain ⟨im', er', y', m11, m12, s0, s1, s2, hG'⟩ := hc2'
      have hG2 := hG'
      obtain ⟨rfl, _, _, _, k0, k1, k2, _⟩ := hG'
      refine stepH_to ssE [] ht (ssS (lI 0) p [.lst (41 + p) 11]) ([0, 1, n0 p + 2] ++ ((List.range p).map (fun r => 3 + r) ++ [n0 p])) rfl (p + 1, none) _ (allU_lt (allU_lt ss_row P hP) p (by omega)) (fun W' => holds_all (ssS_ok hG0 hG2 rfl (by omega) (fa ?_ fz))) ⟨(P + 1 - (p + 1)) * (N.toNat + 2), ?_, 0, hc2, .inl ⟨rfl, hp, rfl, rfl⟩⟩
      · have h3 : p = 0 ∨ p = 1 ∨ p = 2 := by omega
        rcases h3 with rfl | rfl | rfl
        · exact ss41.trans ((k0.trans g11.symm).trans ss11.symm)
        · exact ss42.trans ((k1.trans g11.symm).trans ss11.symm)
        · exact ss43.trans ((k2.trans g11.symm).trans ss11.symm)
      · rw [hm, show P + 1 - p - 1 = P + 1 - (p + 1) by omega]
        omega
end Go.Proofs.Z

namespace Go.Proofs.Z
open Go Go.RowKit Go.Proofs Go.Ri Go.Proofs.Z.Fa
/-! pick: runs. List 9 the entries, 740 how many; list 8 the indices, 741 how many; 605 the place, 606 the next one; 742 the index; list 19 what was picked, 18 then; entR the entry. -/
def pkD : List RV := [.slN 0 9 20, .slN 0 8 1]
noncomputable def pkP (ne : Bool) : St := ⟨patW [(0, .slA 0 9 20), (1, .slA 1 8 1), (5, if ne then .slN 2 19 20 else nilR), (6, sI 605)] 38 0, [some (.lstA 9), some (.lstA 8)] ++ if ne then [some (.lst 19 tEntry true)] else []⟩
def pkS (k : RV) (L : List SE) : List SE := [.int 605 k, .int 740 (sI 740), .int 741 (sI 741), .lst 9 9, .lst 8 8] ++ L
def pkLL : List LNE := [⟨9, 20, sI 740⟩, ⟨8, 1, sI 741⟩]
def pkT (b : Bool) : List TE := [⟨.bin .lss, sI 605, sI 741, bR b⟩, ⟨.inb, sI 605, sI 741, bR b⟩, ⟨.bin .add, sI 605, lI 1, sI 606⟩]
/-- c: 0 below, 1 beyond, 2 within. -/
def pkI (c : Nat) : List TE := [⟨.bin .geq, sI 742, lI 0, bR (!Nat.beq c 0)⟩] ++ (if Nat.beq c 0 then [] else [⟨.bin .lss, sI 742, sI 740, bR (!Nat.beq c 1)⟩, ⟨.inb, sI 742, sI 740, bR (!Nat.beq c 1)⟩])
noncomputable def pkA (ne : Bool) (c : Nat) : Tb := { T := pkT true ++ pkI c, LL := pkLL, LX := ⟨8, 605, [sI 742]⟩ :: (if Nat.beq c 2 then [⟨9, 742, entKB⟩] else []), LA := if ne then [⟨19, entKB, 18⟩] else [] }
set_option maxRecDepth 100000 in
theorem pk_enter : atH (entN { LL := pkLL } [] fPick pkD) fPick 0 (pkS (lI 0) []) [0, 1] (pkP false) = true := by kernel_rfl
set_option maxRecDepth 100000 in
theorem pk_take : (atH (fromH (pkA false 2) [] fPick 0 (pkP false)) fPick 0 (pkS (sI 606) [.new 19 entKB]) [0, 1, 3] (pkP true) && atH (fromH (pkA true 2) [] fPick 0 (pkP true)) fPick 0 (pkS (sI 606) [.lst 19 18]) [0, 1, 4] (pkP true)) = true := by kernel_rfl
set_option maxRecDepth 100000 in
theorem pk_skip : (allU 2 fun c => atH (fromH (pkA false c) [] fPick 0 (pkP false)) fPick 0 (pkS (sI 606) []) [0, 1] (pkP false) && atH (fromH (pkA true c) [] fPick 0 (pkP true)) fPick 0 (pkS (sI 606) [.lst 19 19]) [0, 1, 2] (pkP true)) = true := by kernel_rfl
noncomputable def pkE : Tb := { T := pkT false, LL := pkLL }
def pkR (ne : Bool) : RV := if ne then .slN 0 19 20 else nilR
noncomputable def pkH (ne : Bool) : RH := if ne then [some (.lst 19 tEntry true)] else []
set_option maxRecDepth 100000 in
theorem pk_out : (all2 fun ne => endQ pkE fPick (fromH pkE [] fPick 0 (pkP ne)) (if ne then [.lst 19 19] else []) (if ne then [2] else []) (pkR ne) (pkH ne)) = true := by kernel_rfl
/-! Of no entries. -/
def pzD : List RV := [nilR, .slN 0 8 1]
noncomputable def pzP : St := ⟨patW [(0, nilR), (1, .slA 0 8 1), (5, nilR), (6, sI 605)] 38 0, [some (.lstA 8)]⟩
def pzS (k : RV) : List SE := [.int 605 k, .int 741 (sI 741), .lst 8 8]
def pzLL : List LNE := [⟨8, 1, sI 741⟩]
noncomputable def pzA (q : Bool) : Tb := { T := pkT true ++ [⟨.bin .geq, sI 742, lI 0, bR q⟩, ⟨.bin .lss, sI 742, lI 0, bR (!q)⟩], LL := pzLL, LX := [⟨8, 605, [sI 742]⟩] }
set_option maxRecDepth 100000 in
theorem pz_enter : atH (entN { LL := pzLL } [] fPick pzD) fPick 0 (pzS (lI 0)) [0] pzP = true := by kernel_rfl
set_option maxRecDepth 100000 in
theorem pz_skip : (all2 fun q => atH (fromH (pzA q) [] fPick 0 pzP) fPick 0 (pzS (sI 606)) [0] pzP) = true := by kernel_rfl
set_option maxRecDepth 100000 in
theorem pz_out : endQ { T := pkT false, LL := pzLL } fPick (fromH { T := pkT false, LL := pzLL } [] fPick 0 pzP) [] [] nilR [] = true := by kernel_rfl
end Go.Proofs.Z

namespace Go.Proofs.Z
open Go Go.RowKit Go.Proofs Go.Ri Go.Proofs.Z.Fa
/-! pick: contract. -/
def pkX (A : Ent) (c d : Nat) (a : Int) (k : Nat) : Int := if k = 0 then A.x else if k = 50 then A.p else if k = 51 then A.n else if k = 740 then (c : Int) else if k = 741 then (d : Int) else if k = 742 then a else A.se (k - 300)
def pkZ (l9 l8 l19 l18 : List Value) (k : Nat) : List Value := if k = 9 then l9 else if k = 8 then l8 else if k = 19 then l19 else l18
def idL (ix : Nat → Int) (d : Nat) : List Value := (List.range d).map fun j => Value.int .i64 (ix j)
theorem idL_len (ix : Nat → Int) (d : Nat) : (idL ix d).length = d := by
  unfold idL
  rw [List.length_map, List.length_range]
def pkC (es : List Ent) (a : Int) : Nat := if a < 0 then 0 else if (es.length : Int) ≤ a then 1 else 2
def pkM (es : List Ent) (ix : Nat → Int) : Nat → List Ent
  | 0 => []
  | k + 1 => if Nat.beq (pkC es (ix k)) 2 then pkM es ix k ++ [es.getD (ix k).toNat entZ] else pkM es ix k
theorem pkM_len (es : List Ent) (ix : Nat → Int) : ∀ k, (pkM es ix k).length ≤ k
  | 0 => Nat.le_refl _
  | k + 1 => by
    have := pkM_len es ix k
    unfold pkM
    split
    · rw [List.length_append]
      simp
      omega
    · omega
theorem pkM_ok {es : List Ent} {ix : Nat → Int} (hes : ∀ e, e ∈ es → EntOK e) : ∀ k e, e ∈ pkM es ix k → EntOK e
  | 0, e, h => by cases h
  | k + 1, e, h => by
    unfold pkM at h
    split at h
    · rcases List.mem_append.1 h with h | h
      · exact pkM_ok hes k e h
      · rw [List.mem_singleton.1 h]
        exact getD_ok hes _
    · exact pkM_ok hes k e h
section
variable {k : Nat} {A : Ent} {c d : Nat} {a : Int} {l9 l8 l19 l18 : List Value} {W : Nat → Value}
theorem pk9 : ((wdNm 0 0 0 0 0 k [] (pkX A c d a) (fun _ => A.s) (pkZ l9 l8 l19 l18)).val W).L 9 = l9 := rfl
theorem pk8 : ((wdNm 0 0 0 0 0 k [] (pkX A c d a) (fun _ => A.s) (pkZ l9 l8 l19 l18)).val W).L 8 = l8 := rfl
theorem pk19 : ((wdNm 0 0 0 0 0 k [] (pkX A c d a) (fun _ => A.s) (pkZ l9 l8 l19 l18)).val W).L 19 = l19 := rfl
theorem pk18 : ((wdNm 0 0 0 0 0 k [] (pkX A c d a) (fun _ => A.s) (pkZ l9 l8 l19 l18)).val W).L 18 = l18 := rfl
theorem pk_50 : @cv ((wdNm 0 0 0 0 0 k [] (pkX A c d a) (fun _ => A.s) (pkZ l9 l8 l19 l18)).val W) (sI 50) = .int .i64 A.p := congrArg (Value.int .i64) ((show wdI 0 0 0 0 0 k (pkX A c d a) 50 = (pkX A c d a) 50 from wdI_x (by omega)).trans (by simp [pkX]))
theorem pk_51 : @cv ((wdNm 0 0 0 0 0 k [] (pkX A c d a) (fun _ => A.s) (pkZ l9 l8 l19 l18)).val W) (sI 51) = .int .i64 A.n := congrArg (Value.int .i64) ((show wdI 0 0 0 0 0 k (pkX A c d a) 51 = (pkX A c d a) 51 from wdI_x (by omega)).trans (by simp [pkX]))
theorem pk_0 : @cv ((wdNm 0 0 0 0 0 k [] (pkX A c d a) (fun _ => A.s) (pkZ l9 l8 l19 l18)).val W) (sU 0) = .int .u64 A.x := congrArg (Value.int .u64) ((show wdI 0 0 0 0 0 k (pkX A c d a) 0 = (pkX A c d a) 0 from wdI_x (by omega)).trans (by simp [pkX]))
theorem pk_740 : @cv ((wdNm 0 0 0 0 0 k [] (pkX A c d a) (fun _ => A.s) (pkZ l9 l8 l19 l18)).val W) (sI 740) = .int .i64 (c : Nat) := congrArg (Value.int .i64) ((show wdI 0 0 0 0 0 k (pkX A c d a) 740 = (pkX A c d a) 740 from wdI_x (by omega)).trans (by simp [pkX]))
theorem pk_741 : @cv ((wdNm 0 0 0 0 0 k [] (pkX A c d a) (fun _ => A.s) (pkZ l9 l8 l19 l18)).val W) (sI 741) = .int .i64 (d : Nat) := congrArg (Value.int .i64) ((show wdI 0 0 0 0 0 k (pkX A c d a) 741 = (pkX A c d a) 741 from wdI_x (by omega)).trans (by simp [pkX]))
theorem pk_742 : @cv ((wdNm 0 0 0 0 0 k [] (pkX A c d a) (fun _ => A.s) (pkZ l9 l8 l19 l18)).val W) (sI 742) = .int .i64 a := congrArg (Value.int .i64) ((show wdI 0 0 0 0 0 k (pkX A c d a) 742 = (pkX A c d a) 742 from wdI_x (by omega)).trans (by simp [pkX]))
theorem pk_se (i : Nat) (_ : i < 16) : wdI 0 0 0 0 0 k (pkX A c d a) (300 + i) = A.se i := by
  rw [wdI_x (by omega)]
  unfold pkX
  rw [if_neg (by omega), if_neg (by omega), if_neg (by omega), if_neg (by omega), if_neg (by omega), if_neg (by omega), Nat.add_sub_cancel_left]
theorem pk_cs : entKB.map (@cv ((wdNm 0 0 0 0 0 k [] (pkX A c d a) (fun _ => A.s) (pkZ l9 l8 l19 l18)).val W)) = A.cs := @ent_cells ((wdNm 0 0 0 0 0 k [] (pkX A c d a) (fun _ => A.s) (pkZ l9 l8 l19 l18)).val W) [sI 50, sI 51, sU 0, sT 1] ((List.range 16).map fun i => sU (300 + i)) A.p A.n A.x A.s A.se (@cv4 ((wdNm 0 0 0 0 0 k [] (pkX A c d a) (fun _ => A.s) (pkZ l9 l8 l19 l18)).val W) _ _ _ _ _ _ _ _ pk_50 pk_51 pk_0 rfl) (@ss_cv ((wdNm 0 0 0 0 0 k [] (pkX A c d a) (fun _ => A.s) (pkZ l9 l8 l19 l18)).val W) 300 A.se pk_se)
theorem pkT_true (hk : k ≤ 1000000) {b : Bool} (hb : decide (k < d) = b) : ∀ t, t ∈ pkT b → @TETrue ((wdNm 0 0 0 0 0 k [] (pkX A c d a) (fun _ => A.s) (pkZ l9 l8 l19 l18)).val W) t := by
  have e5 : @cv ((wdNm 0 0 0 0 0 k [] (pkX A c d a) (fun _ => A.s) (pkZ l9 l8 l19 l18)).val W) (sI 605) = .int .i64 (k : Nat) := w605
  have e6 : @cv ((wdNm 0 0 0 0 0 k [] (pkX A c d a) (fun _ => A.s) (pkZ l9 l8 l19 l18)).val W) (sI 606) = .int .i64 ((k : Int) + 1) := w606
  have e1 := pk_741 (k := k) (A := A) (c := c) (d := d) (a := a) (l9 := l9) (l8 := l8) (l19 := l19) (l18 := l18) (W := W)
  letI : Val := ((wdNm 0 0 0 0 0 k [] (pkX A c d a) (fun _ => A.s) (pkZ l9 l8 l19 l18)).val W)
  exact fa (f_lss (k := .i64) (m := (k : Int)) (n := (d : Int)) e5 e1 (by rw [← hb]; exact decide_eq_decide.2 (by omega))) (fa ⟨rfl, .i64, .i64, (k : Int), (d : Int), e5, e1, by
    show Value.bool b = _
    rw [← hb]
    congr 1
    exact decide_eq_decide.2 (by omega)⟩ (fa (f_addL (m := (k : Int)) e5 e6 rfl (by omega) (by omega)) fz))
theorem pk_LL {es : List Ent} {ix : Nat → Int} (h9 : l9 = entsL es) (h8 : l8 = idL ix d) (hc : c = es.length) : ∀ t, t ∈ pkLL → @LLTrue ((wdNm 0 0 0 0 0 k [] (pkX A c d a) (fun _ => A.s) (pkZ l9 l8 l19 l18)).val W) t := by
  refine fa ⟨rfl, c, Nat.succ_pos 19, ?_, pk_740⟩ (fa ⟨rfl, d, Nat.succ_pos 0, ?_, pk_741⟩ fz)
  · show l9.length = _
    rw [h9, entsL_len, hc]
  · show l8.length = _
    rw [h8, idL_len, Nat.mul_one]
theorem pk_X8 {ix : Nat → Int} (h8 : l8 = idL ix d) (hk : k < d) (ha : a = ix k) : @LXTrue ((wdNm 0 0 0 0 0 k [] (pkX A c d a) (fun _ => A.s) (pkZ l9 l8 l19 l18)).val W) ⟨8, 605, [sI 742]⟩ := by
  have e5 : wdI 0 0 0 0 0 k (pkX A c d a) 605 = (k : Nat) := by simp [wdI]
  have e42 : wdI 0 0 0 0 0 k (pkX A c d a) 742 = a := (wdI_x (by omega)).trans (by simp [pkX])
  refine ⟨rfl, ?_, ?_⟩
  · show (wdI 0 0 0 0 0 k (pkX A c d a) 605).toNat * 1 + 1 ≤ l8.length
    rw [e5, h8, idL_len, Int.toNat_natCast]
    omega
  · show (l8.drop ((wdI 0 0 0 0 0 k (pkX A c d a) 605).toNat * 1)).take 1 = [Value.int .i64 (wdI 0 0 0 0 0 k (pkX A c d a) 742)]
    rw [e5, e42, Int.toNat_natCast, row1 k (by rw [h8, idL_len]; exact hk), h8, ha, List.getD_eq_getElem?_getD]
    unfold idL
    rw [List.getElem?_map, List.getElem?_range hk]
    rfl
theorem pkI_true {es : List Ent} (hc : c = es.length) : ∀ t, t ∈ pkI (pkC es a) → @TETrue ((wdNm 0 0 0 0 0 k [] (pkX A c d a) (fun _ => A.s) (pkZ l9 l8 l19 l18)).val W) t := by
  have e1 := pk_740 (k := k) (A := A) (c := c) (d := d) (a := a) (l9 := l9) (l8 := l8) (l19 := l19) (l18 := l18) (W := W)
  have e2 := pk_742 (k := k) (A := A) (c := c) (d := d) (a := a) (l9 := l9) (l8 := l8) (l19 := l19) (l18 := l18) (W := W)
  unfold pkC
  by_cases h0 : a < 0
  · rw [if_pos h0]
    exact fa (@f_geq ((wdNm 0 0 0 0 0 k [] (pkX A c d a) (fun _ => A.s) (pkZ l9 l8 l19 l18)).val W) _ _ _ _ _ _ e2 rfl (decide_eq_false (by omega))) fz
  · rw [if_neg h0]
    by_cases h1 : (es.length : Int) ≤ a
    · rw [if_pos h1]
      refine fa (@f_geq ((wdNm 0 0 0 0 0 k [] (pkX A c d a) (fun _ => A.s) (pkZ l9 l8 l19 l18)).val W) _ _ _ _ _ _ e2 rfl (decide_eq_true (by omega))) (fa (@f_lss ((wdNm 0 0 0 0 0 k [] (pkX A c d a) (fun _ => A.s) (pkZ l9 l8 l19 l18)).val W) _ _ _ _ _ _ e2 e1 (decide_eq_false (by omega))) (fa ⟨rfl, .i64, .i64, a, (c : Int), e2, e1, ?_⟩ fz))
      show Value.bool false = _
      congr 1
      exact (decide_eq_false (by omega)).symm
    · rw [if_neg h1]
      refine fa (@f_geq ((wdNm 0 0 0 0 0 k [] (pkX A c d a) (fun _ => A.s) (pkZ l9 l8 l19 l18)).val W) _ _ _ _ _ _ e2 rfl (decide_eq_true (by omega))) (fa (@f_lss ((wdNm 0 0 0 0 0 k [] (pkX A c d a) (fun _ => A.s) (pkZ l9 l8 l19 l18)).val W) _ _ _ _ _ _ e2 e1 (decide_eq_true (by omega))) (fa ⟨rfl, .i64, .i64, a, (c : Int), e2, e1, ?_⟩ fz))
      show Value.bool true = _
      congr 1
      exact (decide_eq_true (by omega)).symm
theorem pkA_ok {es : List Ent} {ix : Nat → Int} {so : List Ent} (h9 : l9 = entsL es) (h8 : l8 = idL ix d) (hc : c = es.length) (hk : k < d) (hd : d ≤ 1000) (ha : a = ix k) (hA : Nat.beq (pkC es a) 2 = true → A = es.getD a.toNat entZ) (h19 : l19 = entsL so) (hso : so.length ≤ 1000) (h18 : l18 = l19 ++ A.cs) (ne : Bool) : @TbOK ((wdNm 0 0 0 0 0 k [] (pkX A c d a) (fun _ => A.s) (pkZ l9 l8 l19 l18)).val W) (pkA ne (pkC es a)) := by
  have t1 := pkT_true (A := A) (c := c) (a := a) (l9 := l9) (l8 := l8) (l19 := l19) (l18 := l18) (W := W) (show k ≤ 1000000 by omega) (decide_eq_true hk)
  have t2 := pkI_true (k := k) (A := A) (d := d) (a := a) (l9 := l9) (l8 := l8) (l19 := l19) (l18 := l18) (W := W) hc
  have hL := pk_LL (k := k) (A := A) (a := a) (l19 := l19) (l18 := l18) (W := W) h9 h8 hc
  have hX := pk_X8 (A := A) (c := c) (l9 := l9) (l19 := l19) (l18 := l18) (W := W) h8 hk ha
  have e42 : wdI 0 0 0 0 0 k (pkX A c d a) 742 = a := (wdI_x (by omega)).trans (by simp [pkX])
  have hin : Nat.beq (pkC es a) 2 = true → 0 ≤ a ∧ a < (es.length : Int) := fun hb => by
    have h2 := Nat.eq_of_beq_eq_true hb
    unfold pkC at h2
    split at h2
    · omega
    · split at h2
      · omega
      · omega
  have hX2 : ∀ t, t ∈ (if Nat.beq (pkC es a) 2 then [⟨9, 742, entKB⟩] else ([] : List LEE)) → @LXTrue ((wdNm 0 0 0 0 0 k [] (pkX A c d a) (fun _ => A.s) (pkZ l9 l8 l19 l18)).val W) t := by
    split
    · rename_i hb
      obtain ⟨g1, g2⟩ := hin hb
      refine fa ⟨rfl, ?_, ?_⟩ fz
      · show (wdI 0 0 0 0 0 k (pkX A c d a) 742).toNat * 20 + 20 ≤ l9.length
        rw [e42, h9, entsL_len]
        omega
      · show (l9.drop ((wdI 0 0 0 0 0 k (pkX A c d a) 742).toNat * 20)).take 20 = entKB.map (@cv ((wdNm 0 0 0 0 0 k [] (pkX A c d a) (fun _ => A.s) (pkZ l9 l8 l19 l18)).val W))
        rw [e42, h9, entsL_at _ _ (by omega), ← hA hb]
        exact pk_cs.symm
    · exact fz
  have hLA : ∀ t, t ∈ (if ne then [⟨19, entKB, 18⟩] else ([] : List LAE)) → @LATrue ((wdNm 0 0 0 0 0 k [] (pkX A c d a) (fun _ => A.s) (pkZ l9 l8 l19 l18)).val W) t := by
    split
    · refine fa ⟨?_, ?_, ?_⟩ fz
      · show l18 = l19 ++ entKB.map (@cv ((wdNm 0 0 0 0 0 k [] (pkX A c d a) (fun _ => A.s) (pkZ l9 l8 l19 l18)).val W))
        rw [pk_cs]
        exact h18
      · show l18.length ≤ 1000000
        rw [h18, h19, List.length_append, entsL_len, show A.cs.length = 20 from entCs_len _ _ _ _ _]
        omega
      · show ∀ v, v ∈ l19 → v.oneCell' = true
        rw [h19]
        exact entsL_one
    · exact fz
  letI : Val := ((wdNm 0 0 0 0 0 k [] (pkX A c d a) (fun _ => A.s) (pkZ l9 l8 l19 l18)).val W)
  exact { T := fapp t1 t2, LL := hL, LX := fa hX hX2, LA := hLA }
end
structure PkG (es : List Ent) (ix : Nat → Int) (d k : Nat) (A : Ent) (a : Int) (l9 l8 l19 l18 : List Value) (so : List Ent) (c : Nm) : Prop where
  gc : c = wdNm 0 0 0 0 0 k [] (pkX A es.length d a) (fun _ => A.s) (pkZ l9 l8 l19 l18)
  ga : a = ix k
  gA : A = es.getD a.toNat entZ
  g9 : l9 = entsL es
  g8 : l8 = idL ix d
  gs : so = pkM es ix k
  g19 : l19 = entsL so
  g18 : l18 = l19 ++ A.cs
def PkN (es : List Ent) (ix : Nat → Int) (d k : Nat) (c : Nm) : Prop := ∃ A a l9 l8 l19 l18 so, PkG es ix d k A a l9 l8 l19 l18 so c
theorem pkN_ex (es : List Ent) (ix : Nat → Int) (d k : Nat) : ∃ c, PkN es ix d k c := ⟨_, _, _, _, _, _, _, _, ⟨rfl, rfl, rfl, rfl, rfl, rfl, rfl, rfl⟩⟩
theorem pkS_ok {es : List Ent} {ix : Nat → Int} {d k k' : Nat} {A A' : Ent} {a a' : Int} {l9 l8 l19 l18 m9 m8 m19 m18 : List Value} {so so' : List Ent} {c c' : Nm} {W W' : Nat → Value} {r : RV} {L : List SE} (h : PkG es ix d k A a l9 l8 l19 l18 so c) (h' : PkG es ix d k' A' a' m9 m8 m19 m18 so' c') (hr : @cv (c.val W) r = .int .i64 (k' : Nat)) (hL : ∀ e, e ∈ L → @okSE (c.val W) (c'.val W') e) : ∀ e, e ∈ pkS r L → @okSE (c.val W) (c'.val W') e := by
  obtain ⟨rfl, _, _, g9, g8, _, _, _⟩ := h
  obtain ⟨rfl, _, _, h9, h8, _, _, _⟩ := h'
  have q : ∀ j (v : Int), 606 < j → pkX A' es.length d a' j = v → wdI 0 0 0 0 0 k' (pkX A' es.length d a') j = v := fun j v hj hv => (wdI_x (by omega)).trans hv
  exact fapp (fa ⟨.i64, (k' : Nat), hr, show wdI 0 0 0 0 0 k' (pkX A' es.length d a') 605 = (k' : Nat) by simp [wdI]⟩ (fa ⟨.i64, (es.length : Nat), pk_740, q 740 _ (by omega) (by simp [pkX])⟩ (fa ⟨.i64, (d : Nat), pk_741, q 741 _ (by omega) (by simp [pkX])⟩ (fa (pk9.trans ((h9.trans g9.symm).trans pk9.symm)) (fa (pk8.trans ((h8.trans g8.symm).trans pk8.symm)) fz))))) hL
theorem pkR_w (ne : Bool) : isW (pkR ne) = false := by cases ne <;> rfl
theorem pick_core {es : List Ent} {ix : Nat → Int} {d : Nat} (hd : d ≤ 1000) (V : Val) (hV : V.L 19 = entsL (pkM es ix d)) {c0 : Nm} (hc0 : PkN es ix d 0 c0) :
    ∀ w, RoIn ro w → ∀ vs, All2 (@Go.Ri.NVal (c0.val fun _ => undef) w) pkD vs → Calls Try.prog fPick vs.toArray w (DQ V (pkR (!(pkM es ix d).isEmpty)) (pkH (!(pkM es ix d).isEmpty)) w) := by
  intro w hr vs hv
  obtain ⟨c1, hc1⟩ := pkN_ex es ix d 0
  have hall : @TbOK (c0.val fun _ => undef) { LL := pkLL } ∧ ∀ W' e, e ∈ pkS (lI 0) [] → @okSE (c0.val fun _ => undef) (c1.val W') e := by
    obtain ⟨A, a, l9, l8, l19, l18, so, hG⟩ := hc0
    obtain ⟨A', a', m9, m8, m19, m18, so', hG'⟩ := hc1
    have hG0 := hG
    obtain ⟨rfl, ga, gA, g9, g8, gs, g19, g18⟩ := hG
    have hL := pk_LL (k := 0) (A := A) (a := a) (l19 := l19) (l18 := l18) (W := fun _ => undef) g9 g8 rfl
    refine ⟨?_, fun W' => pkS_ok hG0 hG' rfl fz⟩
    letI : Val := (wdNm 0 0 0 0 0 0 [] (pkX A es.length d a) (fun _ => A.s) (pkZ l9 l8 l19 l18)).val fun _ => undef
    exact { LL := hL }
  refine fn_headsN (κ := Bool) c0 (fun _ => undef) { LL := pkLL } [] fPick pkD (fun _ => 0) pkP (fun m ne c => ∃ k, k ≤ d ∧ m = d - k ∧ ne = (!(pkM es ix k).isEmpty) ∧ PkN es ix d k c) hall.1 (pkS (lI 0) []) [0, 1] false d pk_enter c1 (fun W' => holds_all (hall.2 W')) ⟨0, Nat.zero_le _, rfl, rfl, hc1⟩ (DQ V (pkR (!(pkM es ix d).isEmpty)) (pkH (!(pkM es ix d).isEmpty))) ?_ w hr vs hv
  clear hall hv hr hc1 hc0
  rintro w m ne c ⟨k, hk, rfl, rfl, A, a, l9, l8, l19, l18, so, hG⟩ W
  have hG0 := hG
  obtain ⟨rfl, ga, gA, g9, g8, gs, g19, g18⟩ := hG
  have hso : so.length ≤ 1000 := by
    rw [gs]
    have := pkM_len es ix k
    omega
  rcases Nat.lt_or_ge k d with hlt | hge
  · have ht := fun ne => pkA_ok (W := W) g9 g8 rfl hlt hd ga (fun _ => gA) g19 hso g18 ne
    obtain ⟨c2, hc2⟩ := pkN_ex es ix d (k + 1)
    have hc2' := hc2
    obtain ⟨A', a', m9, m8, m19, m18, so', hG'⟩ := hc2'
    have hnx : so' = if Nat.beq (pkC es a) 2 then so ++ [A] else so := by
      rw [hG'.gs]
      show (if Nat.beq (pkC es (ix k)) 2 then pkM es ix k ++ [es.getD (ix k).toNat entZ] else pkM es ix k) = _
      rw [← ga, ← gs, ← gA]
    have hk1 := pk_take
    simp only [Bool.and_eq_true] at hk1
    have hneq : (!(pkM es ix (k + 1)).isEmpty) = !so'.isEmpty := by rw [hG'.gs]
    rw [← gs]
    have hm19 := hG'.g19
    have hc2n : ∀ q, (!so'.isEmpty) = q → ∃ n', n' < d - k ∧ ∃ k', k' ≤ d ∧ n' = d - k' ∧ q = (!(pkM es ix k').isEmpty) ∧ PkN es ix d k' c2 := fun q hq => ⟨d - (k + 1), by omega, k + 1, hlt, rfl, by rw [hneq, hq], hc2⟩
    clear hc2
    have hc2e := hG'.gc
    cases hb : Nat.beq (pkC es a) 2
    · rw [hb, if_neg (by simp)] at hnx
      have hle : pkC es a < 2 := by
        have hne2 : pkC es a ≠ 2 := fun h => by rw [h] at hb; cases hb
        have : pkC es a ≤ 2 := by
          unfold pkC
          split
          · omega
          · split <;> omega
        omega
      have hks := allU_lt pk_skip _ hle
      simp only [Bool.and_eq_true] at hks
      cases he : so.isEmpty
      · refine stepH_to (pkA true (pkC es a)) [] (ht true) (pkS (sI 606) [.lst 19 19]) [0, 1, 2] rfl true c2 hks.2 (fun W' => holds_all (pkS_ok hG0 hG' w606 (fa ?_ fz))) (hc2n true (by rw [hnx, he]; rfl))
        subst hc2e
        exact pk19.trans ((by rw [hm19, hnx, g19] : m19 = l19).trans pk19.symm)
      · exact stepH_to (pkA false (pkC es a)) [] (ht false) (pkS (sI 606) []) [0, 1] rfl false c2 hks.1 (fun W' => holds_all (pkS_ok hG0 hG' w606 fz)) (hc2n false (by rw [hnx, he]; rfl))
    · rw [hb, if_pos rfl] at hnx
      have h2 : pkC es a = 2 := Nat.eq_of_beq_eq_true hb
      rw [h2] at ht
      have hne' : (!so'.isEmpty) = true := by rw [hnx]; simp
      cases he : so.isEmpty
      · refine stepH_to (pkA true 2) [] (ht true) (pkS (sI 606) [.lst 19 18]) [0, 1, 4] rfl true c2 hk1.2 (fun W' => holds_all (pkS_ok hG0 hG' w606 (fa ?_ fz))) (hc2n true hne')
        subst hc2e
        exact pk19.trans ((by rw [hm19, hnx, g18, g19]; exact entsL_snoc _ _ : m19 = l18).trans pk18.symm)
      · refine stepH_to (pkA false 2) [] (ht false) (pkS (sI 606) [.new 19 entKB]) [0, 1, 3] rfl true c2 hk1.1 (fun W' => holds_all (pkS_ok hG0 hG' w606 (fa ?_ fz))) (hc2n true hne')
        subst hc2e
        refine pk19.trans (Eq.trans ?_ pk_cs.symm)
        rw [hm19, hnx, List.isEmpty_iff.1 he]
        show entsL [A] = A.cs
        exact List.append_nil _
  · obtain rfl : k = d := by omega
    have hstp := pkT_true (A := A) (c := es.length) (a := a) (l9 := l9) (l8 := l8) (l19 := l19) (l18 := l18) (W := W) (show k ≤ 1000000 by omega) (decide_eq_false (Nat.lt_irrefl k))
    have hL := pk_LL (k := k) (A := A) (a := a) (l19 := l19) (l18 := l18) (W := W) g9 g8 rfl
    have ht : @TbOK ((wdNm 0 0 0 0 0 k [] (pkX A es.length k a) (fun _ => A.s) (pkZ l9 l8 l19 l18)).val W) pkE := by
      letI : Val := (wdNm 0 0 0 0 0 k [] (pkX A es.length k a) (fun _ => A.s) (pkZ l9 l8 l19 l18)).val W
      exact { T := hstp, LL := hL }
    have hVl : V.L 19 = l19 := by rw [hV, g19, gs]
    refine stepH_outQ pkE [] ht V _ _ _ _ (all2_all pk_out _) (pkR_w _) (holds_all ?_)
    split
    · exact fa (hVl.trans pk19.symm) fz
    · exact fz
/-- pick, by any names. -/
theorem pick_ans {es : List Ent} {ix : Nat → Int} {d : Nat} (hd : d ≤ 1000) {V : Val} {e1 e2 i j : Nat} (hi : V.L i = entsL es) (hj : V.L j = idL ix d) (hV : V.L 19 = entsL (pkM es ix d)) : @QNTrue V ⟨fPick, [.slN e1 i 20, .slN e2 j 1], pkR (!(pkM es ix d).isEmpty), pkH (!(pkM es ix d).isEmpty)⟩ := by
  intro w hr vs hv
  cases hv with
  | cons h1 h2 => cases h2 with
    | cons h3 h4 =>
      cases h4
      obtain ⟨c0, A, a, l9, l8, l19, l18, so, hG⟩ := pkN_ex es ix d 0
      have hG0 := hG
      obtain ⟨rfl, ga, gA, g9, g8, gs, g19, g18⟩ := hG
      exact pick_core hd V hV ⟨A, a, l9, l8, l19, l18, so, hG0⟩ w hr _ (.cons (nval_list (j := 9) (hi.trans (g9.symm.trans pk9.symm)) h1) (.cons (nval_list (j := 8) (hj.trans (g8.symm.trans pk8.symm)) h3) .nil))
end Go.Proofs.Z
