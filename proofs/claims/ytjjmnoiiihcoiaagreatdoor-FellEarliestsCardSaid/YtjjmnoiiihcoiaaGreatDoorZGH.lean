/- A part of the proofs that the laws of layer four answer true for every input. -/
import Derived.Test.YtjjmnoiiihcoiaaGreatDoorZGD
namespace Go.Proofs.Z
open Go Go.RowKit Go.Proofs Go.Ri Go.Proofs.Z.Fa
/-! Open gates: runs. -/
abbrev fOn : Nat := 72
abbrev fList : Nat := 71
/-! OpenGates of package fell -/
def ogS (r : RV) : List SE := [.int 2 r, .int 0 (sI 0), .int 1 (sI 1), .int 8 (sI 8), .lst 0 0]
def gateQ : RV := .agg [sI 3, sI 4, sI 5, sI 6]
/-! on -/
noncomputable def onQ : GP where
  f := fOn
  ds := [fellR, sI 8]
  tb := { LL := hLL }
  plan := []
  n := 25
  l := 5
  ov := [(1, sI 8), (2, .ptr 1 0), (6, sI 2)]
  pre := fellB
  e := tBool
  s := 1
  S0 := ogS (lI 0)
  rt := fun b => { T := hT true, LL := hLL, LX := hLX true, Y := [⟨fOpenOn, [gateQ, sI 8], sB 0⟩], LA := if b then [⟨9, [sB 0], 10⟩] else [] }
  S := ogS (sI 7)
  cr := [sB 0]
  bt := 4
  bf := 3
  et := hEnd
  er := fun ne => if ne then (.slN 0 9 1, [some (.lst 9 tBool true)]) else (nilR, [])
  al := true
set_option maxRecDepth 100000 in
theorem on_enter : genter onQ = true := by kernel_rfl
set_option maxRecDepth 100000 in
theorem on_rounds : (all2 fun ne => ground onQ ne true) = true := by kernel_rfl
set_option maxRecDepth 100000 in
theorem on_outs : (all2 (gout onQ)) = true := by kernel_rfl
theorem on_runs : GRuns onQ := ⟨on_enter, on_rounds, .inl rfl, on_outs⟩
/-! list -/
def bLL : List LNE := [⟨0, 1, sI 1⟩]
/-! ints, of two slices that hold one list -/
noncomputable def inE : Tb := { LL := bLL }
/-! OpenGates of the specification -/
/-! Open -/
/-! YearDay -/
end Go.Proofs.Z

namespace Go.Proofs.Z
open Go Go.RowKit Go.Proofs Go.Ri Go.Proofs.Z.Fa
/-! Open gates: contracts. -/
/-! OpenOn -/
def onT (p q r s : Bool) : List TE := [⟨.bin .rem, sI 4, lI 360, sI 5⟩, ⟨.bin .lss, sI 2, sI 3, bR p⟩, ⟨.bin .gtr, sI 2, sI 3, bR q⟩, ⟨.bin .geq, sI 5, sI 2, bR r⟩, ⟨.bin .leq, sI 2, sI 5, bR r⟩, ⟨.bin .lss, sI 5, sI 3, bR s⟩]
noncomputable def onRun (p q r s : Bool) : Bool := runOK noX (onT p q r s) [] 1000 20 fOpenOn [gateR 0, sI 4] (bR (if p then r && s else q && (r || s)))
set_option maxRecDepth 100000 in
theorem onon_run : (all2 fun p => all2 fun q => all2 fun r => all2 fun s => onRun p q r s) = true := by kernel_rfl
theorem openOn_ans (a b fr to d : Int) (h : 0 ≤ d) : Ans fOpenOn [gateV a b fr to, .int .i64 d] (.bool (openM fr to d)) := by
  have hr := all2_all (all2_all (all2_all (all2_all onon_run (decide (fr < to))) (decide (fr > to))) (decide (d % 360 ≥ fr))) (decide (d % 360 < to))
  unfold onRun at hr
  letI V : Val := VE (fun i => if i = 0 then a else if i = 1 then b else if i = 2 then fr else if i = 3 then to else if i = 4 then d else d % 360) (fun _ => false)
  have := @ans V noX _ _ noX_true (fa (f_rem (k := .i64) (m := d) (n := 360) (r := d % 360) rfl rfl rfl rfl h (by decide) rfl) (fa (f_lss (k := .i64) (m := fr) (n := to) rfl rfl rfl) (fa (f_gtr (k := .i64) (m := fr) (n := to) rfl rfl rfl) (fa (f_geq (k := .i64) (m := d % 360) (n := fr) rfl rfl rfl) (fa (f_leq (k := .i64) (m := fr) (n := d % 360) rfl rfl rfl) (fa (f_lss (k := .i64) (m := d % 360) (n := to) rfl rfl rfl) fz)))))) (by intro q hq; cases hq) _ _ _ _ _ hr
  have e : (.bool (openM fr to d) : Value) = @cvF V (bR (if decide (fr < to) = true then decide (d % 360 ≥ fr) && decide (d % 360 < to) else decide (fr > to) && (decide (d % 360 ≥ fr) || decide (d % 360 < to)))) := by
    refine congrArg Value.bool ?_
    unfold openM
    by_cases hp : fr > to
    · have h1 : ¬ fr < to := by omega
      simp [hp, h1]
    · by_cases hq : fr < to
      · simp [hp, hq]
      · have : to = fr := by omega
        subst this
        simp
  rw [e]
  exact this
theorem nval_conv {V V' : Val} {w : World} {d : RV} {v : Value} (hf : flat d = true) (e : @cvF V d = @cvF V' d) (h : @Go.Ri.NVal V w d v) : @Go.Ri.NVal V' w d v := by
  have := @flat_of_nval V w d v hf h
  rw [this, e]
  exact @nval_of_flat V' w d hf
theorem fell_nval1 {V V' : Val} {w : World} {v : Value} (h0 : V.I 0 = V'.I 0) (hi : V.L 0 = V'.L 0) (h : @Go.Ri.NVal V w fellR v) : @Go.Ri.NVal V' w fellR v := by
  cases fell_nval h0 hi (.cons h .nil : All2 (@Go.Ri.NVal V w) [fellR] [v]) with
  | cons h1 _ => exact h1
/-- A named list in a world. -/
theorem lst_nval {V V' : Val} {w : World} {v : Value} {i j s : Nat} (hi : V.L i = V'.L j) (h : @Go.Ri.NVal V w (.slN 0 i s) v) : @Go.Ri.NVal V' w (.slN 0 j s) v := by
  obtain ⟨a, m, cap, k1, k2, k3, k4, k5, k6⟩ := h
  rw [hi] at k2 k4 k6
  exact ⟨a, m, cap, k1, k2, k3, k4, k5, k6⟩
def odP (l : List Value) (d : Int) (k : Nat) : Bool := openM (gtF l k) (gtT l k) d
/-- The names in a loop that gathers. -/
def hnm (G : Int) (l : List Value) (n k : Nat) (x : Nat → Int) (y : Nat → Bool) (p : Nat → Bool) (cells : Nat → List Value) : Nm := gnm G l n k x y (fun i => if i = 9 then gl p cells k else if i = 10 then gl p cells (k + 1) else [])
theorem ogS_ok {G : Int} {l : List Value} {n k : Nat} {d : Int} {y y' p cells} (W W' : Nat → Value) : ∀ e, e ∈ ogS (sI 7) → okSE ((hnm G l n k (fun _ => d) y p cells).val W) ((hnm G l n (k + 1) (fun _ => d) y' p cells).val W') e :=
  fa ⟨.i64, (k : Int) + 1, rfl, rfl⟩ (fa ⟨.i64, G, rfl, rfl⟩ (fa ⟨.i64, (n : Int), rfl, rfl⟩ (fa ⟨.i64, d, rfl, rfl⟩ (fa rfl fz))))
theorem ogS0_ok {G : Int} {l : List Value} {n : Nat} {d : Int} {y y' z p cells} (W W' : Nat → Value) : ∀ e, e ∈ ogS (lI 0) → okSE ((gnm G l n 0 (fun _ => d) y z).val W) ((hnm G l n 0 (fun _ => d) y' p cells).val W') e :=
  fa ⟨.i64, 0, rfl, rfl⟩ (fa ⟨.i64, G, rfl, rfl⟩ (fa ⟨.i64, (n : Int), rfl, rfl⟩ (fa ⟨.i64, d, rfl, rfl⟩ (fa rfl fz))))
section
variable (V : Val) {G : Int} {l : List Value} {n : Nat} {d : Int}
def onC (l : List Value) (d : Int) (k : Nat) : List Value := [.bool (odP l d k)]
def onL (l : List Value) (n : Nat) (d : Int) : List Value := gl (fun _ => true) (onC l d) n
theorem on_q (hG : V.I 0 = G) (hL : V.L 0 = l) (hl : ints l) (hn : l.length = n * 4) (hb : n ≤ 32) (hd : V.I 8 = d) (h0 : 0 ≤ d) (h9 : V.L 11 = onL l n d) :
    ∀ w, RoIn ro w → ∀ vs, All2 (@Go.Ri.NVal V w) [fellR, sI 8] vs → Calls Tryz.prog fOn vs.toArray w (DQ V (if (onL l n d).isEmpty then nilR else .slN 0 11 1) (if (onL l n d).isEmpty then [] else [some (.lst 11 tBool true)]) w) := by
  intro w hr vs hv
  have hv : All2 (@Go.Ri.NVal ((gnm G l n 0 (fun _ => d) ny nz).val fun _ => undef) w) [fellR, sI 8] vs := by
    cases hv with
    | cons h1 h2 => cases h2 with
      | cons h2 h3 =>
        cases h3
        exact .cons (fell_nval1 hG hL h1) (.cons (nval_conv rfl (show Value.int .i64 (V.I 8) = Value.int .i64 d by rw [hd]) h2) .nil)
  have ht : @TbOK ((gnm G l n 0 (fun _ => d) ny nz).val fun _ => undef) { LL := hLL } := by
    letI : Val := (gnm G l n 0 (fun _ => d) ny nz).val fun _ => undef
    exact { LL := hLL_ok _ _ _ hn 0 _ }
  let V' : Val := { V with L := fun i => if i = 9 then onL l n d else V.L i }
  have := gather onQ on_runs (fun ne => by cases ne <;> rfl) (gnm G l n 0 (fun _ => d) ny nz) (fun _ => undef) (fun k => hnm G l n k (fun _ => d) (fun _ => odP l d k) (fun _ => true) (onC l d)) n (fun _ => true) (onC l d) (fun k => rfl) (fun k => rfl) ht (fun W' => ogS0_ok _ W') ?_ (fun k _ W W' => ogS_ok W W') (fun k _ _ W => rfl) (fun k => by simp [onC]) (fun _ _ _ => rfl) (fun W => ?_) V' rfl w hr vs hv
  · refine this.mono fun e w' ⟨u, E', he, hu, H⟩ => ?_
    show DQ V (if (gl (fun _ => true) (onC l d) n).isEmpty = true then nilR else .slN 0 11 1) (if (gl (fun _ => true) (onC l d) n).isEmpty = true then [] else [some (.lst 11 tBool true)]) w e w'
    cases hE : (gl (fun _ => true) (onC l d) n).isEmpty with
    | true =>
      rw [hE] at hu H
      have q := mtQ_ok (V := V') (V' := V) (S := []) (R := []) (r := nilR) (r0 := nilR) (h' := []) (h0 := []) (by kernel_rfl) rfl (holds_all fz) hu H
      exact ⟨u, _, he, q.1, q.2⟩
    | false =>
      rw [hE] at hu H
      have q := mtQ_ok (V := V') (V' := V) (S := [.lst 11 9]) (R := [0]) (r := .slN 0 9 1) (r0 := .slN 0 11 1) (h' := [some (.lst 9 tBool true)]) (h0 := [some (.lst 11 tBool true)]) ?_ rfl (holds_all (fa ?_ fz)) hu H
      · exact ⟨u, _, he, q.1, q.2⟩
      · kernel_rfl
      · show V.L 11 = V'.L 9
        rw [h9]
        rfl
  · intro k hk W
    letI : Val := (hnm G l n k (fun _ => d) (fun _ => odP l d k) (fun _ => true) (onC l d)).val W
    refine { T := hT_ok _ _ _ (by omega) W (by simp [hk]), LL := hLL_ok _ _ _ hn k W, LX := hLX_ok _ _ _ hl hn hk W, Y := fa (openOn_ans (gtA l k) (gtB l k) (gtF l k) (gtT l k) d h0) fz, LA := ?_ }
    exact fa (gl_la (p := fun _ => true) (cells := onC l d) (s := 1) (fun _ => rfl) (fun _ => fa rfl fz) rfl rfl rfl rfl (by omega)) fz
  · letI : Val := (hnm G l n n (fun _ => d) (fun _ => odP l d n) (fun _ => true) (onC l d)).val W
    exact { T := hT_ok _ _ _ (by omega) W (by simp), LL := hLL_ok _ _ _ hn n W }
end
end Go.Proofs.Z

namespace Go.Proofs.Z
open Go Go.RowKit Go.Proofs Go.Ri Go.Proofs.Z.Fa
/-! list, ints, OpenGates of the specification. -/
def bC (b : Nat → Bool) (k : Nat) : List Value := [.bool (b k)]
def bls (b : Nat → Bool) (n : Nat) : List Value := gl (fun _ => true) (bC b) n
theorem bls_len (b : Nat → Bool) : ∀ n, (bls b n).length = n
  | 0 => rfl
  | n + 1 => by
    show (bls b n ++ bC b n).length = n + 1
    rw [List.length_append, bls_len b n]
    rfl
theorem bls_get (b : Nat → Bool) : ∀ n k, k < n → (bls b n)[k]? = some (.bool (b k))
  | n + 1, k, h => by
    show (bls b n ++ bC b n)[k]? = _
    rcases Nat.lt_or_eq_of_le (Nat.le_of_lt_succ h) with h1 | rfl
    · rw [List.getElem?_append_left (by rw [bls_len]; exact h1), bls_get b n k h1]
    · rw [List.getElem?_append_right (by rw [bls_len]; exact Nat.le_refl _), bls_len, Nat.sub_self]
      rfl
theorem hT_gen (V : Val) {n k : Nat} (h1 : V.I 1 = n) (h2 : V.I 2 = k) (h7 : V.I 7 = k + 1) (hk : k ≤ 1000000000) {b : Bool} (hb : decide (k < n) = b) : ∀ e, e ∈ hT b → @TETrue V e := by
  letI := V
  refine fa (f_lss (k := .i64) (m := V.I 2) (n := V.I 1) rfl rfl ?_) (fa ⟨rfl, .i64, .i64, V.I 2, V.I 1, rfl, rfl, ?_⟩ (fa ?_ fz))
  · rw [h1, h2, ← hb]; exact decide_eq_decide.2 (by omega)
  · rw [h1, h2, ← hb]
    exact congrArg Value.bool (decide_eq_decide.2 (by omega))
  · exact f_add1 (m := V.I 2) rfl (show Value.int .i64 (V.I 7) = Value.int .i64 (V.I 2 + 1) by rw [h7, h2]) rfl (by omega) (by omega)
/-! ints -/
/-! OpenGates of the specification -/
section
variable (V : Val) {G : Int} {l : List Value} {n : Nat} {d : Int}
end
end Go.Proofs.Z

namespace Go.Proofs.Z
open Go Go.RowKit Go.Proofs Go.Ri Go.Proofs.Z.Fa
/-! Open, YearDay, Check of the specification: contracts; FellDays. -/
def saneX (f : FuncId) (vs : List Value) : Option Value := match Nat.beq f fSane with
  | true => match vs with
    | [] => some (.bool true)
    | _ => none
  | false => none
theorem saneX_true : XTrue saneX := by
  intro f vs v h
  unfold saneX at h
  split at h
  · rename_i hf
    split at h
    · obtain rfl := Nat.eq_of_beq_eq_true hf
      cases h
      exact sane_ans
    · cases h
  · cases h
/-! Check of the specification -/
section
variable (V : Val) {G : Int} {l : List Value} {n : Nat} {d : Int}
end
/-! YearDay -/
/-! Open -/
section
variable (V : Val) {G : Int} {l : List Value} {n : Nat} {g d : Int}
end
end Go.Proofs.Z
