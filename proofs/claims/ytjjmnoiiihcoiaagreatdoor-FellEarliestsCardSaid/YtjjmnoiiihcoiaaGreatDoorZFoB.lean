/- A part of the proofs that the laws of layer four answer true for every input. -/
import Derived.Test.YtjjmnoiiihcoiaaGreatDoorZLoop6
import Derived.Test.YtjjmnoiiihcoiaaGreatDoorZQN
import Derived.Test.YtjjmnoiiihcoiaaGreatDoorZFi0f
namespace Go.Proofs.Z
open Go Go.RowKit Go.Proofs Go.Ri
/-! Gates and days: the models of isOpen, opening, closing. -/
abbrev fIsOpen : Nat := 68
abbrev fOpenOn : Nat := 70
abbrev fOpening : Nat := 115
abbrev fClosing : Nat := 126
abbrev fItoa : Nat := 122
abbrev fAtoi : Nat := 130
abbrev fCut : Nat := 108
abbrev fSplitS : Nat := 129
abbrev fSane : Nat := 18
def openM (fr to day : Int) : Bool := if fr > to then (decide (day % 360 ≥ fr) || decide (day % 360 < to)) else (decide (fr ≤ day % 360) && decide (day % 360 < to))
def openingM (fr to day : Int) : Int := if fr = to then 1048577 else if openM fr to day then day else day + (fr - day % 360) % 360
def closingM (fr to day : Int) : Int := if day < 0 ∨ fr = to then -1 else if openM fr to day then day else if (day % 360 - to + 1) % 360 ≤ day then day - (day % 360 - to + 1) % 360 else -1
/-- A gate and a day. -/
noncomputable def gateD (vs : List Value) : Option (Int × Int × Int) := match vs with
  | [.agg a, .int .i64 d] => match a.toList with
    | [.int .i64 _, .int .i64 _, .int .i64 fr, .int .i64 to] => match decide (0 ≤ fr) && decide (fr < 360) && decide (0 ≤ to) && decide (to < 360) && decide (d ≤ 10000000) && decide (-1 ≤ d) with
      | true => some (fr, to, d)
      | false => none
    | _ => none
  | _ => none
noncomputable def onDay (d : Int) (v : Value) : Option Value := match decide (0 ≤ d) with | true => some v | false => none
noncomputable def gateY (f : FuncId) (fr to d : Int) : Option Value := match Nat.beq f fIsOpen with
  | true => onDay d (.bool (openM fr to d))
  | false => match Nat.beq f fOpening with
    | true => onDay d (.int .i64 (openingM fr to d))
    | false => none
noncomputable def gateF (f : FuncId) : Bool := Nat.beq f fIsOpen || Nat.beq f fOpening
noncomputable def gateX (f : FuncId) (vs : List Value) : Option Value := match gateF f with
  | true => (match gateD vs with
    | some (fr, to, d) => gateY f fr to d
    | none => none)
  | false => none
def str (s : List UInt8) : Value := .string ⟨s.toArray⟩
end Go.Proofs.Z

namespace Go.Proofs.Z
open Go Go.RowKit Go.Proofs Go.Ri Go.Proofs.Z.Fa
/-! isOpen, OpenOn, opening: runs and contracts. -/
def gateR (k : Nat) : RV := .agg [sI k, sI (k + 1), sI (k + 2), sI (k + 3)]
def gateV (a b fr to : Int) : Value := .agg #[.int .i64 a, .int .i64 b, .int .i64 fr, .int .i64 to]
def opT (p q r : Bool) : List TE := [⟨.bin .rem, sI 4, lI 360, sI 5⟩, ⟨.bin .gtr, sI 2, sI 3, bR p⟩, ⟨.bin .geq, sI 5, sI 2, bR q⟩, ⟨.bin .leq, sI 2, sI 5, bR q⟩, ⟨.bin .lss, sI 5, sI 3, bR r⟩]
noncomputable def opRun (p q r : Bool) : Bool := runOK noX (opT p q r) [] 1000 20 fIsOpen [gateR 0, sI 4] (bR (if p then q || r else q && r))
set_option maxRecDepth 100000 in
theorem op_run : (all2 fun p => all2 fun q => all2 fun r => opRun p q r) = true := by kernel_rfl
theorem f_rem [Val] {k : IntKind} {a b c : RV} {m n r : Int} (ha : cv a = .int k m) (hb : cv b = .int k n) (hc : cv c = .int k r) (hf : flat0 c = true) (h0 : 0 ≤ m) (h1 : 0 < n) (h : m % n = r) : TETrue ⟨.bin .rem, a, b, c⟩ := by
  refine ⟨hf, ?_⟩
  show TCTrue _ (cv a) (cv b) (cv c)
  rw [ha, hb, hc, ← h]
  have := t_rem k m n (by omega)
  rw [Int.tmod_eq_emod_of_nonneg h0] at this
  exact this
theorem f_add [Val] {a b c : RV} {m n r : Int} (ha : cv a = .int .i64 m) (hb : cv b = .int .i64 n) (hc : cv c = .int .i64 r) (hf : flat0 c = true) (hr : r = m + n) (h0 : -9000000000000000000 ≤ r) (h1 : r ≤ 9000000000000000000) : TETrue ⟨.bin .add, a, b, c⟩ := by
  refine ⟨hf, ?_⟩
  show TCTrue _ (cv a) (cv b) (cv c)
  rw [ha, hb, hc]
  have := t_add .i64 m n
  rw [← hr, IntWalk.i64_in _ (by omega)] at this
  exact this
theorem open_ans (a b fr to d : Int) (h : 0 ≤ d) : Ans fIsOpen [gateV a b fr to, .int .i64 d] (.bool (openM fr to d)) := by
  have hr := all2_all (all2_all (all2_all op_run (decide (fr > to))) (decide (d % 360 ≥ fr))) (decide (d % 360 < to))
  unfold opRun at hr
  letI V : Val := VE (fun i => if i = 0 then a else if i = 1 then b else if i = 2 then fr else if i = 3 then to else if i = 4 then d else d % 360) (fun _ => false)
  have := @ans V noX _ _ noX_true (by
    intro q hq
    simp only [opT, List.mem_cons, List.not_mem_nil, or_false] at hq
    rcases hq with rfl | rfl | rfl | rfl | rfl
    · exact f_rem (k := .i64) (m := d) (n := 360) (r := d % 360) rfl rfl rfl rfl h (by decide) rfl
    · exact f_gtr (k := .i64) (m := fr) (n := to) rfl rfl rfl
    · exact f_geq (k := .i64) (m := d % 360) (n := fr) rfl rfl rfl
    · exact f_leq (k := .i64) (m := fr) (n := d % 360) rfl rfl rfl
    · exact f_lss (k := .i64) (m := d % 360) (n := to) rfl rfl rfl) (by intro q hq; cases hq) _ _ _ _ _ hr
  have e : (.bool (openM fr to d) : Value) = @cvF V (bR (if decide (fr > to) = true then decide (d % 360 ≥ fr) || decide (d % 360 < to) else decide (d % 360 ≥ fr) && decide (d % 360 < to))) := by
    show Value.bool _ = Value.bool _
    unfold openM
    by_cases hp : fr > to
    · rw [if_pos hp, if_pos (decide_eq_true hp)]
    · rw [if_neg hp, if_neg (by simpa using hp)]
  rw [e]
  exact this
/-! opening -/
noncomputable def ogP : St := ⟨patW [(1, sI 4), (2, .ptr 0 0), (6, sI 6)] 18 0, [some (.cells [sI 0, sI 1, sI 2, sI 3] 75 false false)]⟩
def ogA : List RV := [gateR 0, sI 4]
noncomputable def ogB : Code := hB {} [] fOpening ogA
noncomputable def ogK : List Fr := hK {} [] fOpening ogA
def ogI : List SE := idI [0, 1, 2, 3, 4]
set_option maxRecDepth 100000 in
theorem og_enter : enterT {} [] fOpening ogA (.int 6 (lI 0) :: ogI) [0] ogP = true := by kernel_rfl
def ogT : List TE := [⟨.bin .lss, sI 6, lI 360, bR true⟩, ⟨.bin .add, sI 4, sI 6, sI 7⟩, ⟨.bin .add, sI 6, lI 1, sI 8⟩]
noncomputable def ogTb (o : Bool) : Tb := { T := ogT, Y := [⟨fIsOpen, [gateR 0, sI 7], bR o⟩] }
set_option maxRecDepth 100000 in
theorem og_again : againT (ogTb false) [] ogB ogK ogP (.int 6 (sI 8) :: ogI) [0] ogP = true := by kernel_rfl
set_option maxRecDepth 100000 in
theorem og_out : outF (ogTb true) [] fOpening ogB ogK ogP (sI 7) = true := by kernel_rfl
set_option maxRecDepth 100000 in
theorem og_end : outF { T := [⟨.bin .lss, sI 6, lI 360, bR false⟩] } [] fOpening ogB ogK ogP (lI 1048577) = true := by kernel_rfl
end Go.Proofs.Z

namespace Go.Proofs.Z
open Go Go.RowKit Go.Proofs Go.Ri Go.Proofs.Z.Fa
/-! opening: its contract; gates and days as closed answers. -/
theorem openM_iff (fr to d : Int) : openM fr to d = true ↔ (fr > to ∧ (d % 360 ≥ fr ∨ d % 360 < to)) ∨ (¬ fr > to ∧ fr ≤ d % 360 ∧ d % 360 < to) := by
  unfold openM
  split
  · rename_i h
    simp only [Bool.or_eq_true, decide_eq_true_eq]
    constructor
    · intro h2; exact .inl ⟨h, h2⟩
    · rintro (⟨_, h2⟩ | ⟨h2, _⟩)
      · exact h2
      · exact absurd h h2
  · rename_i h
    simp only [Bool.and_eq_true, decide_eq_true_eq]
    constructor
    · intro h2; exact .inr ⟨h, h2⟩
    · rintro (⟨h2, _⟩ | ⟨_, h2⟩)
      · exact absurd h2 h
      · exact h2
theorem openM_not (fr to d : Int) : openM fr to d = false ↔ ¬ ((fr > to ∧ (d % 360 ≥ fr ∨ d % 360 < to)) ∨ (¬ fr > to ∧ fr ≤ d % 360 ∧ d % 360 < to)) := by
  rw [← openM_iff]
  simp
theorem opening_at {fr to d : Int} {n : Nat} (h0 : 0 ≤ fr) (h1 : fr < 360) (h2 : 0 ≤ to) (h3 : to < 360) (_ : 0 ≤ d) (hn : n < 360) (ho : openM fr to (d + n) = true) (hc : ∀ k : Nat, k < n → openM fr to (d + k) = false) : openingM fr to d = d + n := by
  have ho' := (openM_iff _ _ _).1 ho
  unfold openingM
  by_cases hz : n = 0
  · subst hz
    have ho0 : openM fr to d = true := by simpa using ho
    rw [if_neg (by omega), if_pos ho0]
    simp
  · have hc0 : openM fr to d = false := by simpa using hc 0 (by omega)
    have hc1 := (openM_not _ _ _).1 (hc (n - 1) (by omega))
    rw [if_neg (by omega), hc0, if_neg (by decide)]
    omega
theorem opening_no {fr to d : Int} (h0 : 0 ≤ fr) (h1 : fr < 360) (h2 : 0 ≤ to) (h3 : to < 360) (_ : 0 ≤ d) (hc : ∀ k : Nat, k < 360 → openM fr to (d + k) = false) : openingM fr to d = 1048577 := by
  unfold openingM
  have := (openM_not _ _ _).1 (hc ((fr - d % 360) % 360).toNat (by omega))
  rw [if_pos (by omega)]
def ogNm (a b fr to d : Int) (n : Nat) : Nm := ⟨fun i => if i = 0 then a else if i = 1 then b else if i = 2 then fr else if i = 3 then to else if i = 4 then d else if i = 6 then (n : Int) else if i = 7 then d + n else (n : Int) + 1, fun _ => false, fun _ => ⟨#[]⟩, fun _ => []⟩
theorem og_ids (a b fr to d : Int) (n n' : Nat) (W W' : Nat → Value) : ∀ q, q ∈ ogI → okSE ((ogNm a b fr to d n).val W) ((ogNm a b fr to d n').val W') q := fun q hq => by
  simp only [ogI, idI, List.map_cons, List.map_nil, List.mem_cons, List.not_mem_nil, or_false] at hq
  rcases hq with rfl | rfl | rfl | rfl | rfl
  · exact ⟨.i64, a, rfl, rfl⟩
  · exact ⟨.i64, b, rfl, rfl⟩
  · exact ⟨.i64, fr, rfl, rfl⟩
  · exact ⟨.i64, to, rfl, rfl⟩
  · exact ⟨.i64, d, rfl, rfl⟩
theorem opening_ans (a b fr to d : Int) (h0 : 0 ≤ fr) (h1 : fr < 360) (h2 : 0 ≤ to) (h3 : to < 360) (hd : 0 ≤ d) (hb : d ≤ 10000000) : Ans fOpening [gateV a b fr to, .int .i64 d] (.int .i64 (openingM fr to d)) := by
  intro w hr
  refine fn_loop (κ := Unit) (ogNm a b fr to d 0) (fun _ => undef) {} [] fOpening ogA (fun _ => ogP) (fun m _ c => ∃ n : Nat, n ≤ 360 ∧ c = ogNm a b fr to d n ∧ m = 360 - n ∧ ∀ k : Nat, k < n → openM fr to (d + k) = false) (tb0 _) (.int 6 (lI 0) :: ogI) [0] () 360 og_enter (ogNm a b fr to d 0) (fun W' => holds_all fun q hq => ?_) ⟨0, by omega, rfl, rfl, fun k hk => by omega⟩ (DF (.int .i64 (openingM fr to d))) ?_ w hr [gateV a b fr to, .int .i64 d] (@nval_flat ((ogNm a b fr to d 0).val fun _ => undef) w ogA rfl)
  · rcases List.mem_cons.1 hq with rfl | hq
    · exact ⟨.i64, 0, rfl, rfl⟩
    · exact og_ids a b fr to d 0 0 _ _ q hq
  · rintro w m _ c ⟨n, hn, rfl, rfl, hcl⟩ W
    letI V : Val := (ogNm a b fr to d n).val W
    have fT : ∀ q, q ∈ ogT → n < 360 → TETrue q := fun q hq hlt => by
      simp only [ogT, List.mem_cons, List.not_mem_nil, or_false] at hq
      rcases hq with rfl | rfl | rfl
      · exact f_lss (k := .i64) (m := (n : Int)) (n := 360) rfl rfl (decide_eq_true (by omega))
      · exact f_add (m := d) (n := (n : Int)) (r := d + n) rfl rfl rfl rfl rfl (by omega) (by omega)
      · exact f_add1 (m := (n : Int)) rfl rfl rfl (by omega) (by omega)
    have fY : ∀ o, openM fr to (d + n) = o → ∀ q, q ∈ (ogTb o).Y → Ans q.f (q.a.map cvF) (cvF q.r) := fun o ho q hq => by
      obtain rfl := List.mem_singleton.1 hq
      have := open_ans a b fr to (d + n) (by omega)
      rw [ho] at this
      exact this
    by_cases hlt : n < 360
    · cases ho : openM fr to (d + n) with
      | true =>
        refine step_outF (ogTb true) [] { T := fun q hq => fT q hq hlt, Y := fY true ho } (sI 7) og_out ?_
        show Value.int .i64 (d + n) = _
        rw [opening_at h0 h1 h2 h3 hd hlt ho hcl]
      | false =>
        refine step_to (ogTb false) [] { T := fun q hq => fT q hq hlt, Y := fY false ho } (.int 6 (sI 8) :: ogI) [0] () (ogNm a b fr to d (n + 1)) og_again (fun W' => holds_all fun q hq => ?_) ⟨360 - (n + 1), by omega, n + 1, by omega, rfl, rfl, fun k hk => ?_⟩
        · rcases List.mem_cons.1 hq with rfl | hq
          · exact ⟨.i64, (n : Int) + 1, rfl, rfl⟩
          · exact og_ids a b fr to d n (n + 1) _ _ q hq
        · rcases Nat.lt_or_eq_of_le (Nat.le_of_lt_succ hk) with h | rfl
          · exact hcl k h
          · exact ho
    · obtain rfl : n = 360 := by omega
      refine step_outF { T := [⟨.bin .lss, sI 6, lI 360, bR false⟩] } [] { T := fun q hq => ?_ } (lI 1048577) og_end ?_
      · obtain rfl := List.mem_singleton.1 hq
        exact f_lss (k := .i64) (m := ((360 : Nat) : Int)) (n := 360) rfl rfl rfl
      · show Value.int .i64 1048577 = _
        rw [opening_no h0 h1 h2 h3 hd hcl]
theorem gateX_true : XTrue gateX := by
  intro f vs v h
  unfold gateX at h
  split at h
  · split at h
    · rename_i fr to d hg
      unfold gateD at hg
      split at hg
      · rename_i a d'
        split at hg
        · rename_i x1 x2 fr' to' ha
          split at hg
          · rename_i hc
            cases hg
            have ea : a = #[.int .i64 x1, .int .i64 x2, .int .i64 fr, .int .i64 to] := Array.ext' ha
            subst ea
            simp only [Bool.and_eq_true, decide_eq_true_eq] at hc
            obtain ⟨⟨⟨⟨⟨c1, c2⟩, c3⟩, c4⟩, c5⟩, c6⟩ := hc
            have day : ∀ {u : Value}, onDay d u = some v → 0 ≤ d ∧ u = v := fun hu => by
              unfold onDay at hu
              split at hu
              · rename_i hd
                cases hu
                exact ⟨of_decide_eq_true hd, rfl⟩
              · cases hu
            unfold gateY at h
            split at h
            · rename_i hf
              obtain rfl := Nat.eq_of_beq_eq_true hf
              obtain ⟨hd, rfl⟩ := day h
              exact open_ans x1 x2 fr to d hd
            · split at h
              · rename_i hf
                obtain rfl := Nat.eq_of_beq_eq_true hf
                obtain ⟨hd, rfl⟩ := day h
                exact opening_ans x1 x2 fr to d c1 c2 c3 c4 hd c5
              · cases h
          · cases hg
        · cases hg
      · cases hg
    · cases h
  · cases h
end Go.Proofs.Z
