/- A part of the proofs that the laws of layer four answer true for every input. -/
import Derived.Test.YtjjmnoiiihcoiaaGreatDoorZHE
namespace Go.Proofs.Z
open Go Go.RowKit Go.Proofs Go.Ri Go.Proofs.Z.Fa
/-! Ever, Earliest of package fell and in of the laws: runs. -/
/-! Ever -/
/-! Earliest -/
def eaD : List RV := [fellR, sI 20, sI 21, sI 22]
noncomputable def eaE : Tb := { T := agT 0 true ++ (agT 1 true ++ (agT 2 true ++ (agT 3 true ++ (agT 4 true ++ agT 5 true)))), LL := hLL, C := [⟨fCheck, [fellR], lI 0⟩], Y := [⟨fOnly, [sI 20], sU 10⟩] }
noncomputable def eaP : St := ⟨patW [(4, .ptr 1 0), (2, sI 21), (12, sU 10), (13, sI 24)] 42 0, fellB⟩
def eaS (u D : RV) : List SE := .int 10 u :: .int 24 D :: (idI [0, 1, 20, 21, 22] ++ [.lst 0 0])
noncomputable def eaLB : Code := hB eaE [] fEarliest eaD
noncomputable def eaLK : List Fr := hK eaE [] fEarliest eaD
set_option maxRecDepth 100000 in
theorem ea_enter : enterT eaE [] fEarliest eaD (eaS (sU 10) (sI 22)) [0, 1] eaP = true := by kernel_rfl
noncomputable def eaT (late : Bool) : Tb := { T := [⟨.bin .gtr, sI 25, lI 1048576, bR late⟩], Y := [⟨fHas, [sU 10, sI 21], bR false⟩], C := ⟨fLeaving, [fellR, sU 10, sI 24], sI 25⟩ :: if late then [] else [⟨fEndOf, [fellR, sU 10, sI 25], sU 11⟩] }
set_option maxRecDepth 100000 in
theorem ea_again : againT (eaT false) [] eaLB eaLK eaP (eaS (sU 11) (sI 25)) [0, 1] eaP = true := by kernel_rfl
set_option maxRecDepth 100000 in
theorem ea_late : outF (eaT true) [] fEarliest eaLB eaLK eaP (.pl (.tuple #[.int .i64 0, .bool false, .int .i64 0])) = true := by kernel_rfl
set_option maxRecDepth 100000 in
theorem ea_found : outF { Y := [⟨fHas, [sU 10, sI 21], bR true⟩] } [] fEarliest eaLB eaLK eaP (.tup [sI 24, bR true, lI 0]) = true := by kernel_rfl
/-! in -/
end Go.Proofs.Z

namespace Go.Proofs.Z
open Go Go.RowKit Go.Proofs Go.Ri Go.Proofs.Z.Fa
/-! Ever, Earliest of package fell and in of the laws: contracts. -/
/-! in -/
/-! Tests that hold. -/
theorem ag_gen (V : Val) {G a : Int} (h0 : V.I 0 = G) (h20 : V.I 20 = a) (p0 : 0 ≤ a) (p1 : a < G) : ∀ e, e ∈ agT 0 true ++ agT 1 true → @TETrue V e := by
  letI := V
  have e0 : cv (sI 0) = .int .i64 G := congrArg (Value.int .i64) h0
  have e20 : cv (sI 20) = .int .i64 a := congrArg (Value.int .i64) h20
  exact fa (f_lss (k := .i64) (m := a) (n := 0) e20 rfl (decide_eq_false (by omega))) (fa (f_geq (k := .i64) (m := a) (n := 0) e20 rfl (decide_eq_true (by omega))) (fa (f_geq (k := .i64) (m := a) (n := G) e20 e0 (decide_eq_false (by omega))) (fa (f_lss (k := .i64) (m := a) (n := G) e20 e0 (decide_eq_true p1)) fz)))
theorem ag_gen2 (V : Val) {G b fr : Int} (h0 : V.I 0 = G) (h21 : V.I 21 = b) (h22 : V.I 22 = fr) (p2 : 0 ≤ b) (p3 : b < G) (p4 : 0 ≤ fr) (p5 : fr ≤ 1048576) : ∀ e, e ∈ agT 2 true ++ (agT 3 true ++ (agT 4 true ++ agT 5 true)) → @TETrue V e := by
  letI := V
  have e0 : cv (sI 0) = .int .i64 G := congrArg (Value.int .i64) h0
  have e21 : cv (sI 21) = .int .i64 b := congrArg (Value.int .i64) h21
  have e22 : cv (sI 22) = .int .i64 fr := congrArg (Value.int .i64) h22
  exact fa (f_lss (k := .i64) (m := b) (n := 0) e21 rfl (decide_eq_false (by omega))) (fa (f_geq (k := .i64) (m := b) (n := 0) e21 rfl (decide_eq_true (by omega))) (fa (f_geq (k := .i64) (m := b) (n := G) e21 e0 (decide_eq_false (by omega))) (fa (f_lss (k := .i64) (m := b) (n := G) e21 e0 (decide_eq_true p3)) (fa (f_lss (k := .i64) (m := fr) (n := 0) e22 rfl (decide_eq_false (by omega))) (fa (f_geq (k := .i64) (m := fr) (n := 0) e22 rfl (decide_eq_true (by omega))) (fa (f_gtr (k := .i64) (m := fr) (n := 1048576) e22 rfl (decide_eq_false (by omega))) (fa (f_leq (k := .i64) (m := fr) (n := 1048576) e22 rfl (decide_eq_true p5)) fz)))))))
/-! Ever -/
/-! Earliest -/
noncomputable def eaK (l : List Value) (n S : Nat) (b : Nat) (fr : Int) : Nat := firstBad (fun j => !(runS l n S fr j).testBit b) ((1048577 - fr).toNat + 1) 0
def eaV (d : Int) (c : Bool) : Value := .tuple #[.int .i64 d, .bool c, .int .i64 0]
noncomputable def eaM (l : List Value) (n S : Nat) (b : Nat) (fr : Int) : Value := if eaK l n S b fr < (1048577 - fr).toNat + 1 then eaV (if eaK l n S b fr = 0 then fr else fr + eaK l n S b fr - 1) true else eaV 0 false
def EarI (l : List Value) (n S0 : Nat) (b : Nat) (fr : Int) (s : Nat) (D : Int) : Prop :=
  ∃ i : Nat, s = runS l n S0 fr i ∧ (i = 0 ∧ D = fr ∨ 1 ≤ i ∧ D = fr + i - 1) ∧ ∀ j, j < i → (runS l n S0 fr j).testBit b = false
section
variable {G : Int} {l : List Value} {n S0 s b : Nat} {fr D : Int}
theorem ear_stay (hva : validM G l n = true) (hS : S0 < 65536) (h0 : 0 ≤ fr) {i : Nat} (hi : s = runS l n S0 fr i) (hD : i = 0 ∧ D = fr ∨ 1 ≤ i ∧ D = fr + i - 1) {j : Nat} (hE : fr + j ≤ lvM l s D n) : i ≤ j → runS l n S0 fr j = s := fun hij => by
  have := runS_stay (l := l) (n := n) (S := S0) (fr := fr) (i := i) (E := lvM l s D n) (fun e h1 h2 => by
    rw [← hi]
    exact lv_stay hva (hi ▸ runS_lt hS i) (by omega) (by omega : D ≤ e) h2) (j - i) (by omega)
  rw [show i + (j - i) = j by omega] at this
  rw [this, hi]
theorem ear_next (hva : validM G l n = true) (hS : S0 < 65536) (h0 : 0 ≤ fr) (hb : s.testBit b = false) (hm : lvM l s D n ≤ 1048576) (h : EarI l n S0 b fr s D) :
    EarI l n S0 b fr (dayS l n s (lvM l s D n)) (lvM l s D n) ∧ 0 ≤ lvM l s D n ∧ cnt (fun x => s.testBit x) 16 < cnt (fun x => (dayS l n s (lvM l s D n)).testBit x) 16 := by
  obtain ⟨i, hi, hD, hj⟩ := h
  have hs : s < 65536 := hi ▸ runS_lt hS i
  have hD0 : 0 ≤ D := by omega
  obtain ⟨hop, k, hk, hl, ho⟩ := lv_open (S := s) hva hD0 hm
  have hE : fr + i ≤ lvM l s D n := by
    rcases hD with ⟨rfl, rfl⟩ | ⟨h1, rfl⟩
    · omega
    · obtain ⟨i, rfl⟩ : ∃ k, i = k + 1 := ⟨i - 1, by omega⟩
      have e : s = dayS l n (runS l n S0 fr i) (fr + (i + 1 : Nat) - 1) := by
        rw [hi, show fr + ((i + 1 : Nat) : Int) - 1 = fr + i by omega]
        rfl
      have := (lv_next hva hD0 (runS l n S0 fr i) (runS_lt hS i) (by rw [← e]; exact hm)).1
      rw [← e] at this
      omega
  refine ⟨⟨(lvM l s D n - fr).toNat + 1, ?_, .inr ⟨by omega, by omega⟩, fun j hjlt => ?_⟩, by omega, clS_grow hva hs hk ho hl⟩
  · have := ear_stay hva hS h0 hi hD (j := (lvM l s D n - fr).toNat) (by omega) (by omega)
    show _ = dayS l n (runS l n S0 fr (lvM l s D n - fr).toNat) (fr + (lvM l s D n - fr).toNat)
    rw [this, show fr + ((lvM l s D n - fr).toNat : Int) = lvM l s D n by omega]
  · rcases Nat.lt_or_ge j i with h | h
    · exact hj j h
    · rw [ear_stay hva hS h0 hi hD (j := j) (by omega) h]
      exact hb
theorem ear_late (hva : validM G l n = true) (hS : S0 < 65536) (h0 : 0 ≤ fr) (hb : s.testBit b = false) (hm : 1048576 < lvM l s D n) (h : EarI l n S0 b fr s D) : ∀ j, j < (1048577 - fr).toNat + 1 → fr ≤ 1048577 → (runS l n S0 fr j).testBit b = false := by
  obtain ⟨i, hi, hD, hj⟩ := h
  intro j hjM hfr
  rcases Nat.lt_or_ge j i with h | h
  · exact hj j h
  · rw [ear_stay hva hS h0 hi hD (j := j) (by omega) h]
    exact hb
end
def eanm (G : Int) (l : List Value) (n : Nat) (a b : Nat) (fr : Int) (s : Nat) (D E : Int) (s' : Nat) : Nm := ⟨fun i => if i = 0 then G else if i = 1 then (n : Int) else if i = 20 then (a : Int) else if i = 21 then (b : Int) else if i = 22 then fr else if i = 10 then (s : Int) else if i = 24 then D else if i = 25 then E else (s' : Int), ny, fun _ => ⟨#[]⟩, fun _ => l⟩
theorem eaS_ok {G : Int} {l : List Value} {n : Nat} {a b : Nat} {fr : Int} (s : Nat) (D E : Int) (s' : Nat) (s2 : Nat) (D2 E2 : Int) (s3 : Nat) {u r : RV} (W W' : Nat → Value) (hu : @cv ((eanm G l n a b fr s D E s').val W) u = .int .u16 (s2 : Nat)) (h : @cv ((eanm G l n a b fr s D E s').val W) r = .int .i64 D2) : ∀ e, e ∈ eaS u r → okSE ((eanm G l n a b fr s D E s').val W) ((eanm G l n a b fr s2 D2 E2 s3).val W') e :=
  fa ⟨.u16, (s2 : Int), hu, rfl⟩ (fa ⟨.i64, D2, h, rfl⟩ (fapp (ids_ok [0, 1, 20, 21, 22] (fa rfl (fa rfl (fa rfl (fa rfl (fa rfl fz)))))) (fa (show l = l from rfl) fz)))
theorem earliest_ans (V : Val) {G : Int} {l : List Value} {n : Nat} {a b : Nat} {fr : Int} (hG : V.I 0 = G) (hL : V.L 0 = l) (hl : ints l) (hn : l.length = n * 4) (hva : validM G l n = true) (ha : (a : Int) < G) (hb : (b : Int) < G) (p4 : 0 ≤ fr) (p5 : fr ≤ 1048576) (hx : V.I 20 = a) (hy : V.I 21 = b) (hz : V.I 22 = fr) :
    @AnsN V fEarliest [fellR, sI 20, sI 21, sI 22] (eaM l n (2 ^ a) b fr) := by
  intro w hr vs hv
  have hG16 := ((validM_iff _ _ _).1 hva).2.1
  have hv : ∀ s D E s', All2 (@Go.Ri.NVal ((eanm G l n a b fr s D E s').val fun _ => undef) w) eaD vs := fun s D E s' => by
    cases hv with
    | cons h1 h2 => cases h2 with
      | cons h2 h3 => cases h3 with
        | cons h3 h4 => cases h4 with
          | cons h4 h5 =>
            cases h5
            exact .cons (fell_nval1 (hG.trans rfl) (hL.trans rfl) h1) (.cons (nval_re (V := V) (x := sI 20) rfl rfl (congrArg (Value.int .i64) hx) rfl h2) (.cons (nval_re (V := V) (x := sI 21) rfl rfl (congrArg (Value.int .i64) hy) rfl h3) (.cons (nval_re (V := V) (x := sI 22) rfl rfl (congrArg (Value.int .i64) hz) rfl h4) .nil)))
  have hon := only_ans (show a < 16 by omega)
  have hS0 : 2 ^ a < 65536 := pow_lt16 (by omega)
  have hlv : ∀ s d, 0 ≤ d → 0 ≤ lvM l s d n := fun s d hd => by
    rcases Int.lt_or_le 1048576 (lvM l s d n) with h | h
    · omega
    · have := (lv_open (S := s) hva hd h).1
      omega
  show Calls Tryz.prog fEarliest vs.toArray w (DF (eaM l n (2 ^ a) b fr) w)
  unfold eaM
  generalize 2 ^ a = S0 at *
  let nm : Nat → Int → Nm := fun s D => eanm G l n a b fr s D (lvM l s D n) (dayS l n s (lvM l s D n))
  have ht : @TbOK ((nm S0 fr).val fun _ => undef) eaE := by
    letI : Val := (nm S0 fr).val fun _ => undef
    have hck := check_ans ((nm S0 fr).val fun _ => undef) (G := G) (l := l) (n := n) rfl rfl hl hn
    rw [show errM G l n = 0 by unfold errM; rw [hva]; rfl] at hck
    have t1 := ag_gen ((nm S0 fr).val fun _ => undef) (G := G) (a := (a : Int)) rfl rfl (by omega) ha
    have t2 := ag_gen2 ((nm S0 fr).val fun _ => undef) (G := G) (b := (b : Int)) (fr := fr) rfl rfl rfl (by omega) hb p4 p5
    refine { T := ?_, LL := fa ⟨rfl, n, Nat.succ_pos 3, hn, rfl⟩ fz, C := fa hck fz, Y := fa hon fz }
    intro e he
    have he : e ∈ agT 0 true ++ (agT 1 true ++ (agT 2 true ++ (agT 3 true ++ (agT 4 true ++ agT 5 true)))) := he
    rw [← List.append_assoc] at he
    rcases List.mem_append.1 he with h | h
    · exact t1 e h
    · exact t2 e h
  refine fn_loop (κ := Unit) (nm S0 fr) (fun _ => undef) eaE [] fEarliest eaD (fun _ => eaP) (fun m _ c => ∃ s D, s < 65536 ∧ EarI l n S0 b fr s D ∧ 0 ≤ D ∧ D ≤ 1048576 ∧ c = nm s D ∧ m = 16 - cnt (fun x => s.testBit x) 16) ht (eaS (sU 10) (sI 22)) [0, 1] () _ ea_enter (nm S0 fr) (fun W' => holds_all (eaS_ok _ _ _ _ _ _ _ _ _ W' rfl rfl)) ⟨S0, fr, hS0, ⟨0, rfl, .inl ⟨rfl, rfl⟩, fun j hj => absurd hj (Nat.not_lt_zero _)⟩, p4, p5, rfl, rfl⟩ _ ?_ w hr vs (hv _ _ _ _)
  rintro w m _ c ⟨s, D, hs, hI, hDa, hDb, rfl, rfl⟩ W
  have hhas := has_ans hs (show b < 16 by omega)
  cases hsb : s.testBit b with
  | true =>
    rw [hsb] at hhas
    obtain ⟨i, hi, hD, hj⟩ := hI
    have hk : eaK l n S0 b fr = i := fb_eq (fun j h => by rw [hj j h]; rfl) (by omega) (by rw [← hi, hsb]; rfl)
    have hd : (if i = 0 then fr else fr + (i : Int) - 1) = D := by
      split <;> omega
    rw [hk, if_pos (show i < (1048577 - fr).toNat + 1 by omega), hd]
    letI : Val := (nm s D).val W
    exact step_outF { Y := [⟨fHas, [sU 10, sI 21], bR true⟩] } [] { Y := fa hhas fz } _ ea_found rfl
  | false =>
    rw [hsb] at hhas
    have hlea := leaving_ans ((nm s D).val W) (G := G) (l := l) (d := D) (s := s) (x := sU 10) (y := sI 24) rfl rfl hl hn hva hDa (by omega) hs rfl rfl rfl rfl
    by_cases hlate : lvM l s D n > 1048576
    · have hz := ear_late hva hS0 p4 hsb hlate hI
      have hk : eaK l n S0 b fr = (1048577 - fr).toNat + 1 := fb_end fun j h => by rw [hz j h (by omega)]; rfl
      rw [hk, if_neg (Nat.lt_irrefl _)]
      letI : Val := (nm s D).val W
      exact step_outF (eaT true) [] { T := fa (f_gtr (k := .i64) (m := lvM l s D n) (n := 1048576) rfl rfl (decide_eq_true hlate)) fz, Y := fa hhas fz, C := fa hlea fz } _ ea_late rfl
    · obtain ⟨hI', hE, hc⟩ := ear_next hva hS0 p4 hsb (by omega) hI
      have hend := endOf_ans ((nm s D).val W) (G := G) (l := l) (d := lvM l s D n) (s := s) (x := sU 10) (y := sI 25) rfl rfl hl hn hva hE hs rfl rfl rfl rfl
      rw [show clS l n (odP l (lvM l s D n)) s = dayS l n s (lvM l s D n) from rfl] at hend
      have hs' : dayS l n s (lvM l s D n) < 65536 := clS_lt _ _ _ _
      have hle16 := cnt_le (fun x => (dayS l n s (lvM l s D n)).testBit x) 16
      letI : Val := (nm s D).val W
      exact step_to (eaT false) [] { T := fa (f_gtr (k := .i64) (m := lvM l s D n) (n := 1048576) rfl rfl (decide_eq_false hlate)) fz, Y := fa hhas fz, C := fa hlea (fa hend fz) } (eaS (sU 11) (sI 25)) [0, 1] () (nm (dayS l n s (lvM l s D n)) (lvM l s D n)) ea_again (fun W' => holds_all (eaS_ok s D _ _ _ _ _ _ W W' rfl rfl)) ⟨16 - cnt (fun x => (dayS l n s (lvM l s D n)).testBit x) 16, by omega, _, _, hs', hI', hE, by omega, rfl, rfl⟩
end Go.Proofs.Z
