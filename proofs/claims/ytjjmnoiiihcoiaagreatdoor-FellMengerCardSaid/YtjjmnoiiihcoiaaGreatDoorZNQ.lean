/- A part of the proofs that the laws of layer four answer true for every input. -/
import Derived.Test.YtjjmnoiiihcoiaaGreatDoorZNM
import Derived.Test.YtjjmnoiiihcoiaaGreatDoorZHH
import Derived.Test.YtjjmnoiiihcoiaaGreatDoorZLO
namespace Go.Proofs.Z
open Go Go.RowKit Go.Proofs Go.Ri Go.Proofs.Z.Fa
/-! The law's leads: 62 the list, 17 how many, 22 the place, 23 the next one, 2 the gate, 8 the grazing, 9 the next one. -/
abbrev fLds : Nat := 62
def ldsD : List RV := [fellR, sI 20, sI 21, .slN 0 62 1]
def ldsLL : List LNE := [⟨0, 4, sI 1⟩, ⟨62, 1, sI 17⟩]
noncomputable def ldsE : Tb := { LL := ldsLL }
noncomputable def ldW : St := ⟨patW [(1, sI 20), (2, sI 21), (3, .slA 1 62 1), (4, .ptr 2 0), (9, sI 8), (10, sI 22)] 70 0, [some (.lstA 0), some (.lstA 62), some (.cells [sI 0, .slA 0 0 4] tFell false false)]⟩
def ldsS (i x : RV) : List SE := [.int 0 (sI 0), .int 1 (sI 1), .int 17 (sI 17), .int 20 (sI 20), .int 21 (sI 21), .int 22 i, .int 8 x, .lst 0 0, .lst 62 62]
def ldsT (p : Bool) : List TE := [⟨.bin .lss, sI 22, sI 17, bR true⟩, ⟨.inb, sI 22, sI 17, bR true⟩, ⟨.bin .add, sI 22, lI 1, sI 23⟩, ⟨.bin .lss, sI 2, lI 0, bR false⟩, ⟨.bin .geq, sI 2, sI 1, bR false⟩, ⟨.inb, sI 2, sI 1, bR true⟩, ⟨.ieq, sI 5, sI 6, bR false⟩, ⟨.ieq, sI 3, sI 8, bR p⟩] ++ if p then [] else [⟨.ieq, sI 4, sI 8, bR true⟩]
noncomputable def ldsTb (p : Bool) : Tb := { T := ldsT p, LL := ldsLL, LX := [⟨62, 22, [sI 2]⟩, ⟨0, 2, [sI 3, sI 4, sI 5, sI 6]⟩] }
noncomputable def ldsEd : Tb := { T := [⟨.bin .lss, sI 22, sI 17, bR false⟩, ⟨.ieq, sI 8, sI 21, bR true⟩], LL := ldsLL }
set_option maxRecDepth 100000 in
theorem lds_enter : atH (entN ldsE [] fLds ldsD) fLds 0 (ldsS (lI 0) (sI 20)) [0, 1, 2] ldW = true := by kernel_rfl
set_option maxRecDepth 100000 in
theorem lds_again : (all2 fun p => atH (fromH (ldsTb p) [] fLds 0 ldW) fLds 0 (ldsS (sI 23) (if p then sI 4 else sI 3)) [0, 1, 2] ldW) = true := by kernel_rfl
set_option maxRecDepth 100000 in
theorem lds_out : endF ldsEd fLds (fromH ldsEd [] fLds 0 ldW) (bR true) = true := by kernel_rfl
end Go.Proofs.Z

namespace Go.Proofs.Z
open Go Go.RowKit Go.Proofs Go.Ri Go.Proofs.Z.Fa
/-! The law's leads: contract. -/
def ldsI (a b m k x : Nat) (j : Nat) : Int := if j = 8 then (x : Int) else if j = 17 then (m : Int) else if j = 20 then (a : Int) else if j = 21 then (b : Int) else if j = 22 then (k : Int) else if j = 23 then (k : Int) + 1 else 0
def ldsNm (G : Int) (l : List Value) (n a b : Nat) (L : List Nat) (k x : Nat) : Nm := gnm G l n (L.getD k 0) (ldsI a b L.length k x) ny (fun _ => intsL L)
section
variable {G : Int} {l : List Value} {n a b : Nat}
theorem lds_ids {V V' : Val} (G n m a b : Int) (l q : List Value) (i x : RV) (mi mx : Int) (hi : @cv V i = .int .i64 mi) (hx : @cv V x = .int .i64 mx) (h22 : V'.I 22 = mi) (h8 : V'.I 8 = mx) (g0 : V.I 0 = G) (g1 : V.I 1 = n) (g17 : V.I 17 = m) (g2 : V.I 20 = a) (g3 : V.I 21 = b) (g4 : V.L 0 = l) (g5 : V.L 62 = q) (h0 : V'.I 0 = G) (h1 : V'.I 1 = n) (h17 : V'.I 17 = m) (h20 : V'.I 20 = a) (h21 : V'.I 21 = b) (hl : V'.L 0 = l) (hq : V'.L 62 = q) : ∀ e, e ∈ ldsS i x → okSE V V' e :=
  fa ⟨.i64, G, congrArg _ g0, h0⟩ (fa ⟨.i64, n, congrArg _ g1, h1⟩ (fa ⟨.i64, m, congrArg _ g17, h17⟩ (fa ⟨.i64, a, congrArg _ g2, h20⟩ (fa ⟨.i64, b, congrArg _ g3, h21⟩ (fa ⟨.i64, mi, hi, h22⟩ (fa ⟨.i64, mx, hx, h8⟩ (fa (okLs l hl g4) (fa (okLs q hq g5) fz))))))))
theorem lds_ans (V : Val) (hG : V.I 0 = G) (hL : V.L 0 = l) (hl : ints l) (hn : l.length = n * 4) (hva : validM G l n = true) (hV20 : V.I 20 = (a : Int)) (hV21 : V.I 21 = (b : Int)) {L : List Nat} (h62 : V.L 62 = intsL L) (hm : L.length ≤ n) (hld : LeadsL (gA' l) (gB' l) n (usP l) a L b) : @AnsN V fLds ldsD (.bool true) := by
  intro w hr vs hv
  have hb32 : n ≤ 32 := ((validM_iff _ _ _).1 hva).2.2.1
  let V1 : Val := (ldsNm G l n a b L 0 a).val fun _ => undef
  have hv : All2 (@Go.Ri.NVal V1 w) ldsD vs := by
    cases hv with
    | cons h1 h2 => cases h2 with
      | cons h2 h3 => cases h3 with
        | cons h3 h4 => cases h4 with
          | cons h4 h5 =>
            cases h5
            refine .cons (fell_nval1 hG hL h1) (.cons ?_ (.cons ?_ (.cons (lst_nval (V := V) (V' := V1) (j := 62) h62 h4) .nil)))
            · have := @flat_of_nval V w (sI 20) _ rfl h2
              rw [this, show @cvF V (sI 20) = .int .i64 (a : Int) from congrArg (Value.int .i64) hV20]
              exact @nval_of_flat V1 w (sI 20) rfl
            · have := @flat_of_nval V w (sI 21) _ rfl h3
              rw [this, show @cvF V (sI 21) = .int .i64 (b : Int) from congrArg (Value.int .i64) hV21]
              exact @nval_of_flat V1 w (sI 21) rfl
  have hLL : ∀ k x W, ∀ e, e ∈ ldsLL → @LLTrue ((ldsNm G l n a b L k x).val W) e := fun k x W => fa ⟨rfl, n, Nat.succ_pos 3, hn, rfl⟩ (fa ⟨rfl, L.length, Nat.succ_pos 0, by rw [Nat.mul_one]; exact intsL_len L, rfl⟩ fz)
  refine fn_headsN (κ := Unit) (ldsNm G l n a b L 0 a) (fun _ => undef) ldsE [] fLds ldsD (fun _ => 0) (fun _ => ldW) (fun m _ nm => ∃ k x, k ≤ L.length ∧ m = L.length - k ∧ LeadsL (gA' l) (gB' l) n (usP l) x (L.drop k) b ∧ nm = ldsNm G l n a b L k x) (by letI : Val := V1; exact { LL := hLL _ _ _ }) (ldsS (lI 0) (sI 20)) [0, 1, 2] () L.length lds_enter (ldsNm G l n a b L 0 a) (fun W' => holds_all (lds_ids G n L.length a b l (intsL L) (lI 0) (sI 20) 0 a rfl rfl rfl rfl rfl rfl rfl rfl rfl rfl rfl rfl rfl rfl rfl rfl rfl rfl)) ⟨0, a, Nat.zero_le _, rfl, hld, rfl⟩ (DF (.bool true)) ?_ w hr vs hv
  rintro w m _ nm ⟨k, x, hk, rfl, hlk, rfl⟩ W
  rcases Nat.lt_or_ge k L.length with hlt | hge
  · have hgd : L.getD k 0 = L[k] := by rw [List.getD_eq_getElem?_getD, List.getElem?_eq_getElem hlt]; rfl
    rw [List.drop_eq_getElem_cons hlt, ← hgd] at hlk
    obtain ⟨g1, g2, g3, g4⟩ := hlk
    obtain ⟨i, hi⟩ : ∃ i, i = L.getD k 0 := ⟨_, rfl⟩
    rw [← hi] at g1 g2 g3 g4
    obtain ⟨a0, a1, b0, b1, _, _⟩ := gate_range hva g1
    have hT : ∀ p, decide (gtA l i = (x : Int)) = p → ∀ e, e ∈ ldsT p → @TETrue ((ldsNm G l n a b L k x).val W) e := fun p hp => by
      letI V2 : Val := (ldsNm G l n a b L k x).val W
      have e2 : cv (sI 2) = .int .i64 (i : Int) := by rw [hi]; rfl
      have e3 : cv (sI 3) = .int .i64 (gtA l i) := by rw [hi]; rfl
      have e4 : cv (sI 4) = .int .i64 (gtB l i) := by rw [hi]; rfl
      have e5 : cv (sI 5) = .int .i64 (gtF l i) := by rw [hi]; rfl
      have e6 : cv (sI 6) = .int .i64 (gtT l i) := by rw [hi]; rfl
      refine fapp (fa (f_lss (k := .i64) (m := (k : Int)) (n := (L.length : Int)) rfl rfl (decide_eq_true (by omega))) (fa (f_inb (m := (k : Int)) (n := (L.length : Int)) rfl rfl (by omega)) (fa (f_add1 (m := (k : Int)) rfl rfl rfl (by omega) (by omega)) (fa (f_lss (k := .i64) (m := (i : Int)) (n := 0) e2 rfl (decide_eq_false (by omega))) (fa (f_geq (k := .i64) (m := (i : Int)) (n := (n : Int)) e2 rfl (decide_eq_false (by omega))) (fa (f_inb (m := (i : Int)) (n := (n : Int)) e2 rfl (by omega)) (fa (f_ieq (k := .i64) (m := gtF l i) (n := gtT l i) e5 e6 ?_) (fa (f_ieq (k := .i64) (m := gtA l i) (n := (x : Int)) e3 rfl (by rw [eqdec]; exact hp)) fz)))))))) ?_
      · unfold usP at g2
        cases h : gtF l i == gtT l i with
        | false => rfl
        | true => rw [h] at g2; cases g2
      · cases p with
        | true => exact fz
        | false =>
          refine fa (f_ieq (k := .i64) (m := gtB l i) (n := (x : Int)) e4 rfl ?_) fz
          rw [eqdec]
          refine decide_eq_true ?_
          have hp := of_decide_eq_false hp
          unfold wayF at g3
          rw [if_neg (by unfold gA'; omega)] at g3
          by_cases hxb : x = gB' l i
          · rw [hxb]
            unfold gB'
            omega
          · rw [if_neg hxb] at g3
            exact absurd rfl g3
    have ht : ∀ p, decide (gtA l i = (x : Int)) = p → @TbOK ((ldsNm G l n a b L k x).val W) (ldsTb p) := fun p hp => by
      letI V2 : Val := (ldsNm G l n a b L k x).val W
      refine { T := hT p hp, LL := hLL _ _ _, LX := fa ⟨rfl, ?_, ?_⟩ (fa ⟨rfl, ?_, ?_⟩ fz) }
      · show ((k : Int)).toNat * 1 + 1 ≤ (intsL L).length
        rw [Int.toNat_natCast, intsL_len]
        omega
      · show ((intsL L).drop (((k : Int)).toNat * 1)).take 1 = [.int .i64 (L.getD k 0 : Nat)]
        rw [Int.toNat_natCast, row1 k (by rw [intsL_len]; exact hlt), intsL_get hlt]
      · show ((L.getD k 0 : Nat) : Int).toNat * 4 + 4 ≤ l.length
        rw [Int.toNat_natCast, ← hi]
        omega
      · show (l.drop (((L.getD k 0 : Nat) : Int).toNat * 4)).take 4 = _
        rw [Int.toNat_natCast]
        exact row4 hl _ (by rw [← hi]; omega)
    by_cases hp : gtA l i = (x : Int)
    · have hx : othF (gA' l) (gB' l) i x = gB' l i := by
        unfold othF
        rw [if_pos (by unfold gA'; omega)]
      rw [hx] at g4
      refine stepH_to _ [] (ht true (decide_eq_true hp)) _ _ rfl () (ldsNm G l n a b L (k + 1) (gB' l i)) (all2_all lds_again true) (fun W' => holds_all (lds_ids G n L.length a b l (intsL L) (sI 23) (sI 4) ((k : Int) + 1) (gB' l i : Int) rfl ?_ rfl rfl rfl rfl rfl rfl rfl rfl rfl rfl rfl rfl rfl rfl rfl rfl)) ⟨L.length - (k + 1), by omega, k + 1, _, hlt, rfl, g4, rfl⟩
      show Value.int .i64 (gtB l (L.getD k 0)) = _
      rw [← hi, show ((gB' l i : Nat) : Int) = gtB l i by unfold gB'; omega]
    · have hx : othF (gA' l) (gB' l) i x = gA' l i := by
        unfold othF
        rw [if_neg (by unfold gA'; omega)]
      rw [hx] at g4
      refine stepH_to _ [] (ht false (decide_eq_false hp)) _ _ rfl () (ldsNm G l n a b L (k + 1) (gA' l i)) (all2_all lds_again false) (fun W' => holds_all (lds_ids G n L.length a b l (intsL L) (sI 23) (sI 3) ((k : Int) + 1) (gA' l i : Int) rfl ?_ rfl rfl rfl rfl rfl rfl rfl rfl rfl rfl rfl rfl rfl rfl rfl rfl)) ⟨L.length - (k + 1), by omega, k + 1, _, hlt, rfl, g4, rfl⟩
      show Value.int .i64 (gtA l (L.getD k 0)) = _
      rw [← hi, show ((gA' l i : Nat) : Int) = gtA l i by unfold gA'; omega]
  · obtain rfl : k = L.length := by omega
    rw [List.drop_length] at hlk
    have hlk : x = b := hlk
    exact stepH_outF ldsEd [] (by letI : Val := (ldsNm G l n a b L L.length x).val W; exact { T := fa (f_lss (k := .i64) (m := (L.length : Int)) (n := (L.length : Int)) rfl rfl (decide_eq_false (by omega))) (fa (f_ieq (k := .i64) (m := (x : Int)) (n := (b : Int)) rfl rfl (by rw [eqdec]; exact decide_eq_true (by omega))) fz), LL := hLL _ _ _ }) (bR true) lds_out rfl
end
end Go.Proofs.Z

namespace Go.Proofs.Z
open Go Go.RowKit Go.Proofs Go.Ri Go.Proofs.Z.Fa
/-! The law FellMenger: runs. 46 how many lanes, 22 which, 23 the next one, 24 a gate of it, 25 the next one, 17 how many it has, 2 the gate; lists: 72 the lanes, 40 the shut gates, 62 a lane, 50 the gates so far, 51 then, 41 the fell then, 9 its fold, 43, 44 what is before and behind a shut gate, 45 both. -/
abbrev fMenger : Nat := 12
def mnD : List RV := [fellR, sI 20, sI 21]
noncomputable def mnE : Tb := { X := saneX, T := [⟨.bin .gtr, sI 1, lI 200, bR false⟩], LL := [⟨0, 4, sI 1⟩, ⟨72, 1, sI 46⟩, ⟨80, 1, sI 46⟩], U := qnU [⟨fLanes, [fellR, sI 20, sI 21], (lnAns true).1, (lnAns true).2⟩, ⟨fShut, [fellR, sI 20, sI 21], (shAns true).1, (shAns true).2⟩] }
noncomputable def mnRH (c : Bool) : RH := [some (.lstA 0), some (.cells [sI 0, .slA 0 0 4] tFell false false), some (.lstL 72 tInts 1), some (.lst 40 tInt true)] ++ if c then [some (.lst 50 tInt true)] else []
noncomputable def mnP0 (c : Bool) : St := ⟨patW [(1, sI 20), (2, sI 21), (3, .ptr 1 0), (7, .slN 2 72 1), (9, .slN 3 40 1), (11, if c then .slN 4 50 1 else nilR), (12, sI 22)] 173 0, mnRH c⟩
def mnS (i : RV) : List SE := [.int 0 (sI 0), .int 1 (sI 1), .int 46 (sI 46), .int 20 (sI 20), .int 21 (sI 21), .int 22 i, .lst 0 0, .lst 72 72]
set_option maxRecDepth 100000 in
theorem mn_enter : atH (entN mnE [] fMenger mnD) fMenger 0 (.lst 40 80 :: mnS (lI 0)) [0, 1, 2, 3] (mnP0 false) = true := by kernel_rfl
def mnLL : List LNE := [⟨0, 4, sI 1⟩, ⟨72, 1, sI 46⟩, ⟨40, 1, sI 46⟩, ⟨62, 1, sI 17⟩]
noncomputable def mnT0 : Tb := { T := [⟨.bin .lss, sI 22, sI 46, bR true⟩, ⟨.inb, sI 22, sI 46, bR true⟩, ⟨.ieq, sI 17, lI 0, bR false⟩], LL := mnLL, LNE := [⟨72, 22, 62⟩], C := [⟨fLds, ldsD, bR true⟩] }
noncomputable def mnP1 (c : Bool) : St := ⟨patW [(1, sI 20), (2, sI 21), (3, .ptr 1 0), (7, .slN 2 72 1), (9, .slN 3 40 1), (11, if c then .slN 4 50 1 else nilR), (12, sI 22), (13, sI 24)] 173 0, mnRH c⟩
def mnU (c : Bool) (j : Nat) : List SE := if c then [.lst 50 j] else []
def mnR (c : Bool) : List Nat := if c then [0, 1, 2, 3, 4] else [0, 1, 2, 3]
set_option maxRecDepth 100000 in
theorem mn_01 : (all2 fun c => atH (fromH mnT0 [] fMenger 0 (mnP0 c)) fMenger 1 (.int 24 (lI 0) :: .int 17 (sI 17) :: .lst 40 40 :: .lst 62 62 :: (mnU c 50 ++ mnS (sI 22))) (mnR c) (mnP1 c)) = true := by kernel_rfl
noncomputable def mnT1 (c : Bool) : Tb := { T := [⟨.bin .lss, sI 24, sI 17, bR true⟩, ⟨.inb, sI 24, sI 17, bR true⟩, ⟨.inb, sI 22, sI 46, bR true⟩, ⟨.bin .add, sI 24, lI 1, sI 25⟩], LL := mnLL, LNE := [⟨72, 22, 62⟩], LX := [⟨62, 24, [sI 2]⟩], C := [⟨fIn, [if c then .slN 0 50 1 else nilR, sI 2], bR false⟩], LA := if c then [⟨50, [sI 2], 51⟩] else [] }
def mnV (c : Bool) : SE := if c then .lst 50 51 else .new 50 [sI 2]
noncomputable def mnT2 : Tb := { T := [⟨.bin .lss, sI 24, sI 17, bR false⟩, ⟨.inb, sI 22, sI 46, bR true⟩, ⟨.bin .add, sI 22, lI 1, sI 23⟩], LL := mnLL, LNE := [⟨72, 22, 62⟩] }
set_option maxRecDepth 100000 in
theorem mn_11 : (all2 fun c => atH (fromH (mnT1 c) [] fMenger 1 (mnP1 c)) fMenger 1 (.int 24 (sI 25) :: .int 17 (sI 17) :: .lst 40 40 :: .lst 62 62 :: mnV c :: mnS (sI 22)) (if c then [0, 1, 2, 3, 6] else [0, 1, 2, 3, 5]) (mnP1 true)) = true := by kernel_rfl
set_option maxRecDepth 100000 in
theorem mn_10 : (all2 fun c => atH (fromH mnT2 [] fMenger 1 (mnP1 c)) fMenger 0 (.lst 40 40 :: (mnU c 50 ++ mnS (sI 23))) (mnR c) (mnP0 c)) = true := by kernel_rfl
noncomputable def woA (j : Nat) : List RV := [fellR, .slN 0 j 1]
def evA1 : List RV := [.agg [sI 0, .slN 0 41 4], sI 20]
noncomputable def mnT3 : Tb := { T := [⟨.bin .lss, sI 22, sI 46, bR false⟩], LL := mnLL, U := qnU [⟨fWithout, woA 40, .tup [woR, lI 0], [some (.lst 41 tGate true)]⟩, ⟨fEver, evA1, .tup [.slN 0 9 1, lI 0], [some (.lst 9 tInt true)]⟩], C := [⟨fIn, [.slN 0 9 1, sI 21], bR false⟩] }
noncomputable def mnP2 : St := ⟨patW [(1, sI 20), (2, sI 21), (3, .ptr 1 0), (9, .slN 3 40 1), (18, sI 22)] 173 0, mnRH false⟩
set_option maxRecDepth 100000 in
theorem mn_02 : atH (fromH mnT3 [] fMenger 0 (mnP0 true)) fMenger 2 (.lst 40 40 :: mnS (lI 0)) [0, 1, 2, 3] mnP2 = true := by kernel_rfl
noncomputable def mnT4 (p q : Bool) : Tb := { T := [⟨.bin .lss, sI 22, sI 46, bR true⟩, ⟨.inb, sI 22, sI 46, bR true⟩, ⟨.bin .add, sI 22, lI 1, sI 23⟩], LL := mnLL, LP := [⟨40, 1, none, some (sI 22), 43, 47⟩, ⟨40, 1, some (sI 23), none, 44, 23⟩], LZ := (if p then [43] else []) ++ (if q then [44] else []), LB := (if p then [] else [⟨none, 43, if q then 45 else 49⟩]) ++ (if q then [] else [⟨if p then none else some 49, 44, 45⟩]), U := qnU [⟨fWithout, if p && q then [fellR, nilR] else woA 45, .tup [woR, lI 0], [some (.lst 41 tGate true)]⟩, ⟨fEver, evA1, .tup [.slN 0 9 1, lI 0], [some (.lst 9 tInt true)]⟩], C := [⟨fIn, [.slN 0 9 1, sI 21], bR true⟩] }
noncomputable def mnT5 : Tb := { T := [⟨.bin .lss, sI 22, sI 46, bR false⟩], LL := mnLL }
set_option maxRecDepth 100000 in
theorem mn_22 : (all2 fun p => all2 fun q => atH (fromH (mnT4 p q) [] fMenger 2 mnP2) fMenger 2 (.lst 40 40 :: mnS (sI 23)) [0, 1, 2, 3] mnP2) = true := by kernel_rfl
set_option maxRecDepth 100000 in
theorem mn_out : endF mnT5 fMenger (fromH mnT5 [] fMenger 2 mnP2) (bR true) = true := by kernel_rfl
noncomputable def mnZL : List QE := [⟨fLanes, mnD, (lnAns false).1, (lnAns false).2⟩, ⟨fShut, mnD, (shAns false).1, (shAns false).2⟩]
noncomputable def mnZ1 : Tb := { X := saneX, T := [⟨.bin .gtr, sI 1, lI 200, bR false⟩], LL := [⟨0, 4, sI 1⟩], U := qnU (mnZL ++ [⟨fWithout, [fellR, nilR], .tup [woR, lI 0], [some (.lst 41 tGate true)]⟩, ⟨fEver, evA1, .tup [.slN 0 9 1, lI 0], [some (.lst 9 tInt true)]⟩]), C := [⟨fIn, [.slN 0 9 1, sI 21], bR false⟩] }
set_option maxRecDepth 100000 in
theorem mn_zero1 : doneQ mnZ1 [true, true, true] fMenger mnD [] [] (bR true) [] = true := by kernel_rfl
noncomputable def mnZ0 : Tb := { X := saneX, LL := [⟨0, 4, lI 0⟩], LZ := [0], U := orU (ceU 0) (qnU (mnZL ++ [⟨fEver, [fellR, sI 20], .tup [.slN 0 9 1, lI 0], [some (.lst 9 tInt true)]⟩])), C := [⟨fIn, [.slN 0 9 1, sI 21], bR false⟩, ⟨fCheck, [fellR], lI 0⟩] }
set_option maxRecDepth 100000 in
theorem mn_zero0 : doneQ mnZ0 [true, true, true] fMenger mnD [] [] (bR true) [] = true := by kernel_rfl
noncomputable def mnEr (v : Bool) : Tb := { X := saneX, T := [⟨.bin .gtr, sI 1, lI 200, bR false⟩], LL := [⟨0, 4, sI 1⟩], C := [⟨fLanes, mnD, if v then tupN 1 else tupN 40⟩, ⟨fShut, mnD, if v then tupN 1 else tupN 40⟩] }
set_option maxRecDepth 100000 in
theorem mn_err : (all2 fun v => doneQ (mnEr v) [] fMenger mnD [] [] (bR true) []) = true := by kernel_rfl
noncomputable def mnBig : Tb := { X := saneX, T := [⟨.bin .gtr, sI 1, lI 200, bR true⟩], LL := [⟨0, 4, sI 1⟩] }
set_option maxRecDepth 100000 in
theorem mn_big : doneQ mnBig [] fMenger mnD [] [] (bR true) [] = true := by kernel_rfl
end Go.Proofs.Z

namespace Go.Proofs.Z
open Go Go.RowKit Go.Proofs Go.Ri Go.Proofs.Z.Fa
/-! The law FellMenger: what its calls answer. -/
theorem mem_intsL {L : List Nat} {x : Nat} : Value.int .i64 (x : Int) ∈ intsL L ↔ x ∈ L := by
  unfold intsL
  rw [List.mem_map]
  constructor
  · rintro ⟨y, hy, e⟩
    have e : Value.int .i64 (y : Int) = Value.int .i64 (x : Int) := e
    injection e with _ e
    rw [show x = y by omega]
    exact hy
  · exact fun h => ⟨x, h, rfl⟩
theorem nil_an1 {V : Val} {f : FuncId} {d : RV} {i : Nat} {v : Value} (hnil : V.L i = []) (q : @AnsN V f [.slN 0 i 1, d] v) : @AnsN V f [nilR, d] v := fun w hr vs hv => by
  refine q w hr vs ?_
  cases hv with
  | cons h1 h2 =>
    refine .cons ?_ h2
    have h : _ = Value.slice none 0 0 := h1
    rw [h]
    refine ⟨none, 0, 0, rfl, fun h => absurd hnil h, by decide, ?_, Nat.le_refl _, fun a ha => by cases ha⟩
    rw [hnil]
    rfl
def wqNm (G : Int) (l q X : List Value) : Nm := ⟨fun _ => G, ny, fun _ => ⟨#[]⟩, fun i => if i = 0 then l else if i = 40 then q else X⟩
theorem inr_L {n : Nat} {R : List Nat} (hR : ∀ x, x ∈ R → x < n) : InR (intsL R) n R.length := fun k hk => by
  rw [intsL_get hk]
  have : R.getD k 0 < n := by
    rw [List.getD_eq_getElem?_getD, List.getElem?_eq_getElem hk]
    exact hR _ (List.getElem_mem hk)
  show (0 : Int) ≤ ((R.getD k 0 : Nat) : Int) ∧ ((R.getD k 0 : Nat) : Int) < n
  omega
section
variable {G : Int} {l : List Value} {n a b : Nat}
set_option maxRecDepth 10000 in
theorem wout_j (V : Val) (j : Nat) (hG : V.I 0 = G) (hL : V.L 0 = l) (hl : ints l) (hn : l.length = n * 4) (hva : validM G l n = true) (hn1 : 1 ≤ n) (R : List Nat) (hR : ∀ x, x ∈ R → x < n) (hRn : R.length ≤ 1000000) (hj : V.L j = intsL R) (h41 : V.L 41 = wiL l R) : @QNTrue V ⟨fWithout, woA j, .tup [woR, lI 0], [some (.lst 41 tGate true)]⟩ := by
  intro w hr vs hv
  let V1 : Val := (wqNm G l (intsL R) (wiL l R)).val fun _ => undef
  have hv : All2 (@Go.Ri.NVal V1 w) woD vs := by
    cases hv with
    | cons h1 h2 => cases h2 with
      | cons h2 h3 =>
        cases h3
        exact .cons (fell_nval1 hG hL h1) (.cons (lst_nval (V := V) (V' := V1) (i := j) (j := 40) hj h2) .nil)
  have h := wout_good V1 (G := G) (l := l) (n := n) rfl rfl hl hn hva hn1 (intsL R) (intsL_ints _) R.length (intsL_len _) hRn rfl (inr_L hR) rfl w hr vs hv
  refine h.mono fun x w' ⟨u, E', he, hu, H⟩ => ?_
  have q := mtQ_ok (V := V1) (V' := V) (S := [.int 0 (sI 0), .lst 41 41]) (R := [0]) (r := .tup [woR, lI 0]) (r0 := .tup [woR, lI 0]) (h' := [some (.lst 41 tGate true)]) (h0 := [some (.lst 41 tGate true)]) (by kernel_rfl) rfl (holds_all (fa ⟨.i64, G, rfl, hG⟩ (fa h41 fz))) hu H
  exact ⟨u, _, he, q.1, q.2⟩
def evqNm (G a : Int) (X Y : List Value) : Nm := ⟨fun i => if i = 0 then G else a, ny, fun _ => ⟨#[]⟩, fun i => if i = 0 then X else Y⟩
set_option maxRecDepth 10000 in
theorem ever_41 (V : Val) {X : List Value} (hG : V.I 0 = G) (hL : V.L 41 = X) (hX : ints X) (hn : X.length = n * 4) (hva : validM G X n = true) (ha : (a : Int) < G) (h20 : V.I 20 = (a : Int)) (h9 : V.L 9 = sL (clS X n (usP X) (2 ^ a))) : @QNTrue V ⟨fEver, evA1, .tup [.slN 0 9 1, lI 0], [some (.lst 9 tInt true)]⟩ := by
  intro w hr vs hv
  obtain ⟨Y, hY⟩ : ∃ Y, Y = sL (clS X n (usP X) (2 ^ a)) := ⟨_, rfl⟩
  rw [← hY] at h9
  let V1 : Val := (evqNm G a X Y).val fun _ => undef
  have hv : All2 (@Go.Ri.NVal V1 w) [fellR, sI 20] vs := by
    cases hv with
    | cons h1 h2 => cases h2 with
      | cons h2 h3 =>
        cases h3
        refine .cons (fell_nvalG (V := V) (V' := V1) (i := 41) (j := 0) hG hL h1) (.cons ?_ .nil)
        have := @flat_of_nval V w (sI 20) _ rfl h2
        rw [this, show @cvF V (sI 20) = .int .i64 (a : Int) from congrArg (Value.int .i64) h20]
        exact @nval_of_flat V1 w (sI 20) rfl
  have h := ever_q V1 (G := G) (l := X) (n := n) (a := a) rfl rfl hX hn hva ha rfl (show V1.L 9 = _ from hY) w hr vs hv
  refine h.mono fun x w' ⟨u, E', he, hu, H⟩ => ?_
  have q := mtQ_ok (V := V1) (V' := V) (S := [.lst 9 9]) (R := [0]) (r := .tup [.slN 0 9 1, lI 0]) (r0 := .tup [.slN 0 9 1, lI 0]) (h' := [some (.lst 9 tInt true)]) (h0 := [some (.lst 9 tInt true)]) (by kernel_rfl) rfl (holds_all (fa h9 fz)) hu H
  exact ⟨u, _, he, q.1, q.2⟩
open Classical in
theorem in_fold (V : Val) {s : Nat} (h21 : V.I 21 = (b : Int)) (hb : b < 16) (h9 : V.L 9 = sL s) {q : Bool} (hq : s.testBit b = q) : @AnsN V fIn [.slN 0 9 1, sI 21] (.bool q) := by
  have h := in_ans V (sL s) (sL_ints' s) (Nat.le_trans (gl_len ogC_len 16) (by decide)) h9 (x := sI 21) rfl (congrArg (Value.int .i64) h21)
  have hm : Value.int .i64 (b : Int) ∈ sL s ↔ s.testBit b = true := by
    rw [sL_mem, Int.toNat_natCast]
    exact ⟨fun h => h.2.2, fun h => ⟨by omega, by omega, h⟩⟩
  cases q with
  | true => rwa [decide_eq_true (hm.2 hq)] at h
  | false => rwa [decide_eq_false (fun h2 => by rw [hm.1 h2] at hq; cases hq)] at h
open Classical in
theorem in_used (V : Val) {U : List Nat} {g : Nat} (hU : U.length ≤ 1000000) (h50 : V.L 50 = intsL U) (h2 : V.I 2 = (g : Int)) (hq : g ∉ U) (c : Bool) (hc : c = !U.isEmpty) : @AnsN V fIn [if c then .slN 0 50 1 else nilR, sI 2] (.bool false) := by
  have h := in_ans V (intsL U) (intsL_ints U) (by rw [intsL_len]; exact hU) h50 (x := sI 2) rfl (congrArg (Value.int .i64) h2)
  rw [decide_eq_false (fun h2 => hq (mem_intsL.1 h2))] at h
  cases U with
  | nil =>
    subst hc
    exact nil_an1 h50 h
  | cons _ _ =>
    subst hc
    exact h
end
end Go.Proofs.Z
