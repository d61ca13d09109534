/- A part of the proofs that the laws of layer four answer true for every input. -/
import Derived.Test.YtjjmnoiiihcoiaaGreatDoorZGE
namespace Go.Proofs.Z
open Go Go.RowKit Go.Proofs Go.Ri Go.Proofs.Z.Fa
/-! Open gates: contracts. -/
/-! OpenOn -/
def onT (p q r s : Bool) : List TE := [⟨.bin .rem, sI 4, lI 360, sI 5⟩, ⟨.bin .lss, sI 2, sI 3, bR p⟩, ⟨.bin .gtr, sI 2, sI 3, bR q⟩, ⟨.bin .geq, sI 5, sI 2, bR r⟩, ⟨.bin .leq, sI 2, sI 5, bR r⟩, ⟨.bin .lss, sI 5, sI 3, bR s⟩]
noncomputable def onRun (p q r s : Bool) : Bool := runOK noX (onT p q r s) [] 1000 20 fOpenOn [gateR 0, sI 4] (bR (if p then r && s else q && (r || s)))
set_option maxRecDepth 100000 in
theorem onon_run : (all2 fun p => all2 fun q => all2 fun r => all2 fun s => onRun p q r s) = true := by kernel_rfl
theorem openOn_ans (a b fr to d : Int) (h : 0 ≤ d) : Ans fOpenOn [gateV a b fr to, .int .i64 d] (.bool (openM fr to d)) := by
  have hr := all2_all (all2_all (all2_all (all2_all onon_run (decide (fr < to))) (decide (fr > to))) (decide (d % 360 ≥ fr))) (decide (d % 360 < to))
  unfold onRun at hr
  letI V : Val := VE (fun i => if i = 0 then a else if i = 1 then b else if i = 2 then fr else if i = 3 then to else if i = 4 then d else d % 360) (fun _ => false)
  have := @ans V noX _ _ noX_true (fa (f_rem (k := .i64) (m := d) (n := 360) (r := d % 360) rfl rfl rfl rfl h (by decide) rfl) (fa (f_lss (k := .i64) (m := fr) (n := to) rfl rfl rfl) (fa (f_gtr (k := .i64) (m := fr) (n := to) rfl rfl rfl) (fa (f_geq (k := .i64) (m := d % 360) (n := fr) rfl rfl rfl) (fa (f_leq (k := .i64) (m := fr) (n := d % 360) rfl rfl rfl) (fa (f_lss (k := .i64) (m := d % 360) (n := to) rfl rfl rfl) fz)))))) (by intro q hq; cases hq) _ _ _ _ _ hr
  have e : (.bool (openM fr to d) : Value) = @cvF V (bR (if decide (fr < to) = true then decide (d % 360 ≥ fr) && decide (d % 360 < to) else decide (fr > to) && (decide (d % 360 ≥ fr) || decide (d % 360 < to)))) := by
    refine congrArg Value.bool ?_
    unfold openM
    by_cases hp : fr > to
    · have h1 : ¬ fr < to := by omega
      simp [hp, h1]
    · by_cases hq : fr < to
      · simp [hp, hq]
      · have : to = fr := by omega
        subst this
        simp
  rw [e]
  exact this
theorem nval_conv {V V' : Val} {w : World} {d : RV} {v : Value} (hf : flat d = true) (e : @cvF V d = @cvF V' d) (h : @Go.Ri.NVal V w d v) : @Go.Ri.NVal V' w d v := by
  have := @flat_of_nval V w d v hf h
  rw [this, e]
  exact @nval_of_flat V' w d hf
theorem fell_nval1 {V V' : Val} {w : World} {v : Value} (h0 : V.I 0 = V'.I 0) (hi : V.L 0 = V'.L 0) (h : @Go.Ri.NVal V w fellR v) : @Go.Ri.NVal V' w fellR v := by
  cases fell_nval h0 hi (.cons h .nil : All2 (@Go.Ri.NVal V w) [fellR] [v]) with
  | cons h1 _ => exact h1
/-- A named list in a world. -/
theorem lst_nval {V V' : Val} {w : World} {v : Value} {i j s : Nat} (hi : V.L i = V'.L j) (h : @Go.Ri.NVal V w (.slN 0 i s) v) : @Go.Ri.NVal V' w (.slN 0 j s) v := by
  obtain ⟨a, m, cap, k1, k2, k3, k4, k5, k6⟩ := h
  rw [hi] at k2 k4 k6
  exact ⟨a, m, cap, k1, k2, k3, k4, k5, k6⟩
def dcls (d : Int) : Nat := if d < 0 then 0 else if d > 1048576 then 1 else 2
def dayE (d : Int) : Int := if 0 ≤ d ∧ d ≤ 1048576 then 0 else 1
theorem dcls_lt {d : Int} (h : ¬ (0 ≤ d ∧ d ≤ 1048576)) : dcls d < 2 := by
  unfold dcls
  split
  · omega
  · split
    · omega
    · omega
theorem dcls_lt3 (d : Int) : dcls d < 3 := by
  unfold dcls
  split
  · omega
  · split <;> omega
theorem dcls_two {d : Int} (h : 0 ≤ d ∧ d ≤ 1048576) : dcls d = 2 := by
  unfold dcls
  rw [if_neg (by omega), if_neg (by omega)]
theorem dayT_ok (V : Val) {d : Int} (h : V.I 8 = d) : ∀ e, e ∈ dayT (dcls d) → @TETrue V e := by
  subst h
  letI := V
  unfold dcls
  by_cases h0 : V.I 8 < 0
  · rw [if_pos h0]
    exact fa (f_lss (k := .i64) (m := V.I 8) (n := 0) rfl rfl (by simp [h0])) (fa (f_geq (k := .i64) (m := V.I 8) (n := 0) rfl rfl (by simp; omega)) fz)
  · rw [if_neg h0]
    have h0' : ¬ V.I 8 < 0 := h0
    by_cases h1 : V.I 8 > 1048576
    · rw [if_pos h1]
      exact fa (f_lss (k := .i64) (m := V.I 8) (n := 0) rfl rfl (by simp; omega)) (fa (f_geq (k := .i64) (m := V.I 8) (n := 0) rfl rfl (by simp; omega)) (fa (f_gtr (k := .i64) (m := V.I 8) (n := 1048576) rfl rfl (by simp; omega)) (fa (f_leq (k := .i64) (m := V.I 8) (n := 1048576) rfl rfl (by simp; omega)) fz)))
    · rw [if_neg h1]
      exact fa (f_lss (k := .i64) (m := V.I 8) (n := 0) rfl rfl (by simp; omega)) (fa (f_geq (k := .i64) (m := V.I 8) (n := 0) rfl rfl (by simp; omega)) (fa (f_gtr (k := .i64) (m := V.I 8) (n := 1048576) rfl rfl (by simp; omega)) (fa (f_leq (k := .i64) (m := V.I 8) (n := 1048576) rfl rfl (by simp; omega)) fz)))
def odP (l : List Value) (d : Int) (k : Nat) : Bool := openM (gtF l k) (gtT l k) d
def ogC (k : Nat) : List Value := [.int .i64 k]
def ogL (l : List Value) (n : Nat) (d : Int) : List Value := gl (odP l d) ogC n
theorem ogC_len (k : Nat) : (ogC k).length = 1 := rfl
theorem ogC_one (k : Nat) : ∀ u, u ∈ ogC k → u.oneCell' = true := fa rfl fz
/-- The names in a loop that gathers. -/
def hnm (G : Int) (l : List Value) (n k : Nat) (x : Nat → Int) (y : Nat → Bool) (p : Nat → Bool) (cells : Nat → List Value) : Nm := gnm G l n k x y (fun i => if i = 9 then gl p cells k else if i = 10 then gl p cells (k + 1) else [])
noncomputable def ogAns (e : Int) (ne : Bool) : RV × RH := if e = 0 then (if ne then (.tup [.slN 0 9 1, lI 0], [some (.lst 9 tInt true)]) else (tupN 0, [])) else (tupN e, [])
def fdE (G : Int) (l : List Value) (n : Nat) (d : Int) : Int := if validM G l n then dayE d else 40
theorem ogS_ok {G : Int} {l : List Value} {n k : Nat} {d : Int} {y y' p cells} (W W' : Nat → Value) : ∀ e, e ∈ ogS (sI 7) → okSE ((hnm G l n k (fun _ => d) y p cells).val W) ((hnm G l n (k + 1) (fun _ => d) y' p cells).val W') e :=
  fa ⟨.i64, (k : Int) + 1, rfl, rfl⟩ (fa ⟨.i64, G, rfl, rfl⟩ (fa ⟨.i64, (n : Int), rfl, rfl⟩ (fa ⟨.i64, d, rfl, rfl⟩ (fa rfl fz))))
theorem ogS0_ok {G : Int} {l : List Value} {n : Nat} {d : Int} {y y' z p cells} (W W' : Nat → Value) : ∀ e, e ∈ ogS (lI 0) → okSE ((gnm G l n 0 (fun _ => d) y z).val W) ((hnm G l n 0 (fun _ => d) y' p cells).val W') e :=
  fa ⟨.i64, 0, rfl, rfl⟩ (fa ⟨.i64, G, rfl, rfl⟩ (fa ⟨.i64, (n : Int), rfl, rfl⟩ (fa ⟨.i64, d, rfl, rfl⟩ (fa rfl fz))))
section
variable (V : Val) {G : Int} {l : List Value} {n : Nat} {d : Int}
theorem opengates_q (hG : V.I 0 = G) (hL : V.L 0 = l) (hl : ints l) (hn : l.length = n * 4) (hd : V.I 8 = d) (h9 : V.L 9 = ogL l n d) :
    ∀ w, RoIn ro w → ∀ vs, All2 (@Go.Ri.NVal V w) [fellR, sI 8] vs → Calls Tryz.prog fOpenGates vs.toArray w (DQ V (ogAns (fdE G l n d) (!(ogL l n d).isEmpty)).1 (ogAns (fdE G l n d) (!(ogL l n d).isEmpty)).2 w) := by
  intro w hr vs hv
  have hv : All2 (@Go.Ri.NVal ((gnm G l n 0 (fun _ => d) ny nz).val fun _ => undef) w) [fellR, sI 8] vs := by
    cases hv with
    | cons h1 h2 => cases h2 with
      | cons h2 h3 =>
        cases h3
        exact .cons (fell_nval1 hG hL h1) (.cons (nval_conv rfl (show Value.int .i64 (V.I 8) = Value.int .i64 d by rw [hd]) h2) .nil)
  have hC : ∀ W, @AnsN ((gnm G l n 0 (fun _ => d) ny nz).val W) fCheck [fellR] (.int .i64 (errM G l n)) := fun W => check_ans _ rfl rfl hl hn
  have ht : ∀ e, errM G l n = e → @TbOK ((gnm G l n 0 (fun _ => d) ny nz).val fun _ => undef) (oaTb e (dcls d)) := fun e he => by
    letI : Val := (gnm G l n 0 (fun _ => d) ny nz).val fun _ => undef
    refine { T := dayT_ok _ rfl, LL := hLL_ok _ _ _ hn 0 _, C := fa ?_ fz }
    have := hC fun _ => undef
    rw [he] at this
    exact this
  unfold fdE
  cases hva : validM G l n with
  | false =>
    have he : errM G l n = 40 := by unfold errM; rw [hva]; rfl
    have ht := ht 40 he
    have key : doneQ (oaTb 40 (dcls d)) [] fOpenGates [fellR, sI 8] [] [] (tupN 40) [] = true := by
      have : (allU 3 fun c => doneQ (oaTb 40 c) [] fOpenGates [fellR, sI 8] [] [] (tupN 40) []) = true := oa_bad'
      exact allU_lt this _ (dcls_lt3 d)
    exact done_calls _ V ht key rfl (holds_all fz) w hr vs hv
  | true =>
    have he : errM G l n = 0 := by unfold errM; rw [hva]; rfl
    have ht := ht 0 he
    by_cases hday : 0 ≤ d ∧ d ≤ 1048576
    · rw [dcls_two hday] at ht
      have e0 : (if true = true then dayE d else 40) = 0 := by simp [dayE, hday]
      rw [e0]
      refine gather oaQ oa_runs (fun ne => by cases ne <;> rfl) (gnm G l n 0 (fun _ => d) ny nz) (fun _ => undef) (fun k => hnm G l n k (fun _ => d) ny (odP l d) ogC) n (odP l d) ogC (fun k => rfl) (fun k => rfl) ht (fun W' => ogS0_ok _ W') ?_ (fun k _ W W' => ogS_ok W W') (fun k _ _ W => rfl) (fun k => by simp [ogC]) (fun h => by cases h) (fun W => ?_) V h9 w hr vs hv
      · intro k hk W
        have hb : n ≤ 32 := ((validM_iff _ _ _).1 hva).2.2.1
        letI : Val := (hnm G l n k (fun _ => d) ny (odP l d) ogC).val W
        refine { T := hT_ok _ _ _ (by omega) W (by simp [hk]), LL := hLL_ok _ _ _ hn k W, LX := hLX_ok _ _ _ hl hn hk W, Y := fa (open_ans (gtA l k) (gtB l k) (gtF l k) (gtT l k) d hday.1) fz, LA := ?_ }
        show ∀ e, e ∈ (if odP l d k = true then [(⟨9, [sI 2], 10⟩ : LAE)] else []) → _
        split
        · rename_i hp
          exact fa (gl_la (p := odP l d) (cells := ogC) (s := 1) ogC_len ogC_one rfl rfl hp rfl (by omega)) fz
        · exact fz
      · letI : Val := (hnm G l n n (fun _ => d) ny (odP l d) ogC).val W
        have hb : n ≤ 32 := ((validM_iff _ _ _).1 hva).2.2.1
        exact { T := hT_ok _ _ _ (by omega) W (by simp), LL := hLL_ok _ _ _ hn n W }
    · have e0 : (if true = true then dayE d else 40) = 1 := by simp only [dayE, if_true]; rw [if_neg hday]
      rw [e0]
      have key : doneQ (oaTb 0 (dcls d)) [] fOpenGates [fellR, sI 8] [] [] (tupN 1) [] = true := by
        have := dcls_lt hday
        rcases (show dcls d = 0 ∨ dcls d = 1 by omega) with h | h
        · rw [h]; exact all2_all oa_bad1 true
        · rw [h]; exact all2_all oa_bad1 false
      exact done_calls _ V ht key rfl (holds_all fz) w hr vs hv
def onC (l : List Value) (d : Int) (k : Nat) : List Value := [.bool (odP l d k)]
def onL (l : List Value) (n : Nat) (d : Int) : List Value := gl (fun _ => true) (onC l d) n
theorem on_q (hG : V.I 0 = G) (hL : V.L 0 = l) (hl : ints l) (hn : l.length = n * 4) (hb : n ≤ 32) (hd : V.I 8 = d) (h0 : 0 ≤ d) (h9 : V.L 11 = onL l n d) :
    ∀ w, RoIn ro w → ∀ vs, All2 (@Go.Ri.NVal V w) [fellR, sI 8] vs → Calls Tryz.prog fOn vs.toArray w (DQ V (if (onL l n d).isEmpty then nilR else .slN 0 11 1) (if (onL l n d).isEmpty then [] else [some (.lst 11 tBool true)]) w) := by
  intro w hr vs hv
  have hv : All2 (@Go.Ri.NVal ((gnm G l n 0 (fun _ => d) ny nz).val fun _ => undef) w) [fellR, sI 8] vs := by
    cases hv with
    | cons h1 h2 => cases h2 with
      | cons h2 h3 =>
        cases h3
        exact .cons (fell_nval1 hG hL h1) (.cons (nval_conv rfl (show Value.int .i64 (V.I 8) = Value.int .i64 d by rw [hd]) h2) .nil)
  have ht : @TbOK ((gnm G l n 0 (fun _ => d) ny nz).val fun _ => undef) { LL := hLL } := by
    letI : Val := (gnm G l n 0 (fun _ => d) ny nz).val fun _ => undef
    exact { LL := hLL_ok _ _ _ hn 0 _ }
  let V' : Val := { V with L := fun i => if i = 9 then onL l n d else V.L i }
  have := gather onQ on_runs (fun ne => by cases ne <;> rfl) (gnm G l n 0 (fun _ => d) ny nz) (fun _ => undef) (fun k => hnm G l n k (fun _ => d) (fun _ => odP l d k) (fun _ => true) (onC l d)) n (fun _ => true) (onC l d) (fun k => rfl) (fun k => rfl) ht (fun W' => ogS0_ok _ W') ?_ (fun k _ W W' => ogS_ok W W') (fun k _ _ W => rfl) (fun k => by simp [onC]) (fun _ _ _ => rfl) (fun W => ?_) V' rfl w hr vs hv
  · refine this.mono fun e w' ⟨u, E', he, hu, H⟩ => ?_
    show DQ V (if (gl (fun _ => true) (onC l d) n).isEmpty = true then nilR else .slN 0 11 1) (if (gl (fun _ => true) (onC l d) n).isEmpty = true then [] else [some (.lst 11 tBool true)]) w e w'
    cases hE : (gl (fun _ => true) (onC l d) n).isEmpty with
    | true =>
      rw [hE] at hu H
      have q := mtQ_ok (V := V') (V' := V) (S := []) (R := []) (r := nilR) (r0 := nilR) (h' := []) (h0 := []) (by kernel_rfl) rfl (holds_all fz) hu H
      exact ⟨u, _, he, q.1, q.2⟩
    | false =>
      rw [hE] at hu H
      have q := mtQ_ok (V := V') (V' := V) (S := [.lst 11 9]) (R := [0]) (r := .slN 0 9 1) (r0 := .slN 0 11 1) (h' := [some (.lst 9 tBool true)]) (h0 := [some (.lst 11 tBool true)]) ?_ rfl (holds_all (fa ?_ fz)) hu H
      · exact ⟨u, _, he, q.1, q.2⟩
      · kernel_rfl
      · show V.L 11 = V'.L 9
        rw [h9]
        rfl
  · intro k hk W
    letI : Val := (hnm G l n k (fun _ => d) (fun _ => odP l d k) (fun _ => true) (onC l d)).val W
    refine { T := hT_ok _ _ _ (by omega) W (by simp [hk]), LL := hLL_ok _ _ _ hn k W, LX := hLX_ok _ _ _ hl hn hk W, Y := fa (openOn_ans (gtA l k) (gtB l k) (gtF l k) (gtT l k) d h0) fz, LA := ?_ }
    exact fa (gl_la (p := fun _ => true) (cells := onC l d) (s := 1) (fun _ => rfl) (fun _ => fa rfl fz) rfl rfl rfl rfl (by omega)) fz
  · letI : Val := (hnm G l n n (fun _ => d) (fun _ => odP l d n) (fun _ => true) (onC l d)).val W
    exact { T := hT_ok _ _ _ (by omega) W (by simp), LL := hLL_ok _ _ _ hn n W }
end
end Go.Proofs.Z
