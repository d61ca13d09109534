/- A part of the proofs that the laws of layer four answer true for every input. -/
import Derived.Test.YtjjmnoiiihcoiaaGreatDoorZHL
namespace Go.Proofs.Z
open Go Go.RowKit Go.Proofs Go.Ri Go.Proofs.Z.Fa
/-! The law FellComposes. -/
theorem dq_t9 {V1 V : Val} {w : World} {x : Ending} {w' : World} (hL : V.L 9 = V1.L 9) (h : DQ V1 (.tup [.slN 0 9 1, lI 0]) [some (.lst 9 tInt true)] w x w') : DQ V (.tup [.slN 0 9 1, lI 0]) [some (.lst 9 tInt true)] w x w' := by
  obtain ⟨u, E', he, hu, H⟩ := h
  have q := mtQ_ok (V := V1) (V' := V) (S := [.lst 9 9]) (R := [0]) (r := .tup [.slN 0 9 1, lI 0]) (r0 := .tup [.slN 0 9 1, lI 0]) (h' := [some (.lst 9 tInt true)]) (h0 := [some (.lst 9 tInt true)]) (by kernel_rfl) rfl (holds_all (fa hL fz)) hu H
  exact ⟨u, _, he, q.1, q.2⟩
theorem dq_t10 {V1 V : Val} {w : World} {x : Ending} {w' : World} (hL : V.L 10 = V1.L 9) (h : DQ V1 (.tup [.slN 0 9 1, lI 0]) [some (.lst 9 tInt true)] w x w') : DQ V (.tup [.slN 0 10 1, lI 0]) [some (.lst 10 tInt true)] w x w' := by
  obtain ⟨u, E', he, hu, H⟩ := h
  have q := mtQ_ok (V := V1) (V' := V) (S := [.lst 10 9]) (R := [0]) (r := .tup [.slN 0 9 1, lI 0]) (r0 := .tup [.slN 0 10 1, lI 0]) (h' := [some (.lst 9 tInt true)]) (h0 := [some (.lst 10 tInt true)]) (by kernel_rfl) rfl (holds_all (fa hL fz)) hu H
  exact ⟨u, _, he, q.1, q.2⟩
theorem dq_t11 {V1 V : Val} {w : World} {x : Ending} {w' : World} (hL : V.L 11 = V1.L 9) (h : DQ V1 (.tup [.slN 0 9 1, lI 0]) [some (.lst 9 tInt true)] w x w') : DQ V (.tup [.slN 0 11 1, lI 0]) [some (.lst 11 tInt true)] w x w' := by
  obtain ⟨u, E', he, hu, H⟩ := h
  have q := mtQ_ok (V := V1) (V' := V) (S := [.lst 11 9]) (R := [0]) (r := .tup [.slN 0 9 1, lI 0]) (r0 := .tup [.slN 0 11 1, lI 0]) (h' := [some (.lst 9 tInt true)]) (h0 := [some (.lst 11 tInt true)]) (by kernel_rfl) rfl (holds_all (fa hL fz)) hu H
  exact ⟨u, _, he, q.1, q.2⟩
section
variable {G : Int} {l : List Value} {n : Nat}
def rgnm (G : Int) (l : List Value) (n : Nat) (a fr to : Int) (s : Nat) : Nm := ⟨fun i => if i = 0 then G else if i = 1 then (n : Int) else if i = 20 then a else if i = 22 then fr else to, ny, fun _ => ⟨#[]⟩, fun i => if i = 0 then l else sL s⟩
/-- Reach, for what is valid. -/
theorem reach_good (V : Val) {a fr to : Int} {x y z : RV} (hG : V.I 0 = G) (hL : V.L 0 = l) (hl : ints l) (hn : l.length = n * 4) (hva : validM G l n = true) (fx : flat x = true) (hx : @cvF V x = .int .i64 a) (fy : flat y = true) (hy : @cvF V y = .int .i64 fr) (fz' : flat z = true) (hz : @cvF V z = .int .i64 to) (p0 : 0 ≤ a) (p1 : a < G) (p4 : 0 ≤ fr) (p6 : fr ≤ to) (p7 : to ≤ 1048576) :
    ∀ w, RoIn ro w → ∀ vs, All2 (@Go.Ri.NVal V w) [fellR, x, y, z] vs → Calls Tryz.prog fReach vs.toArray w (DQ ((rgnm G l n a fr to (rcSet l n a fr to)).val fun _ => undef) (.tup [.slN 0 9 1, lI 0]) [some (.lst 9 tInt true)] w) := by
  intro w hr vs hv
  have hG16 := ((validM_iff _ _ _).1 hva).2.1
  have hne : (sL (rcSet l n a fr to)).isEmpty = false := sL_some (a := a.toNat) (by omega) (runS_self hva (by omega) _)
  have h := reach_q ((rgnm G l n a fr to (rcSet l n a fr to)).val fun _ => undef) (G := G) (l := l) (n := n) (a := a) (fr := fr) (to := to) (x := sI 20) (y := sI 22) (z := sI 23) rfl rfl hl hn rfl rfl rfl rfl rfl rfl (show sL (rcSet l n a fr to) = sL (rcSet l n a fr to) from rfl)
  rw [show rcErr G l n a fr to = 0 by
    unfold rcErr
    rw [if_pos hva, if_pos (agCls_ok p0 p1 p0 p1 p4 (by omega) p6 p7)], hne] at h
  refine h w hr vs ?_
  cases hv with
  | cons h1 h2 => cases h2 with
    | cons h2 h3 => cases h3 with
      | cons h3 h4 => cases h4 with
        | cons h4 h5 =>
          cases h5
          exact .cons (fell_nval1 (hG.trans rfl) (hL.trans rfl) h1) (.cons (nval_re fx rfl hx rfl h2) (.cons (nval_re fy rfl hy rfl h3) (.cons (nval_re fz' rfl hz rfl h4) .nil)))
/-! The lists of the law. -/
def elI (s i : Nat) : Int := intOf ((sL s).getD i undef)
theorem elI_at {s i : Nat} (hi : i < (sL s).length) : Value.int .i64 (elI s i) = (sL s).getD i undef ∧ 0 ≤ elI s i ∧ elI s i < 16 ∧ s.testBit (elI s i).toNat = true := by
  have hm : (sL s).getD i undef ∈ sL s := by
    rw [List.getD_eq_getElem?_getD, List.getElem?_eq_getElem hi]
    exact List.getElem_mem _
  obtain ⟨z, hz⟩ := sL_ints s _ hm
  have e : Value.int .i64 (elI s i) = (sL s).getD i undef := by
    unfold elI
    rw [hz]
    rfl
  rw [← e] at hm
  exact ⟨e, sL_mem.1 hm⟩
theorem elI_of {s y : Nat} (hy : y < 16) (h : s.testBit y = true) : ∃ i, i < (sL s).length ∧ elI s i = y := by
  have hm : Value.int .i64 (y : Int) ∈ sL s := sL_mem.2 ⟨by omega, by omega, by rw [Int.toNat_natCast]; exact h⟩
  obtain ⟨i, hi, he⟩ := List.mem_iff_getElem.1 hm
  refine ⟨i, hi, ?_⟩
  unfold elI
  rw [List.getD_eq_getElem?_getD, List.getElem?_eq_getElem hi]
  show intOf ((sL s)[i]) = y
  rw [he]
  rfl
noncomputable def kS (l : List Value) (n : Nat) (d to : Int) (y : Int) : Nat := rcSet l n y d to
noncomputable def cL (l : List Value) (n s : Nat) (d to : Int) : Nat → List Value
  | 0 => []
  | i + 1 => cL l n s d to i ++ sL (kS l n d to (elI s i))
theorem cL_mem {s : Nat} {d to : Int} {v : Value} : ∀ {i : Nat}, v ∈ cL l n s d to i ↔ ∃ j, j < i ∧ v ∈ sL (kS l n d to (elI s j))
  | 0 => ⟨fun h => (by cases h), fun ⟨j, h, _⟩ => absurd h (Nat.not_lt_zero _)⟩
  | i + 1 => by
    show v ∈ cL l n s d to i ++ sL (kS l n d to (elI s i)) ↔ _
    rw [List.mem_append, cL_mem (i := i)]
    constructor
    · rintro (⟨j, h1, h2⟩ | h)
      · exact ⟨j, by omega, h2⟩
      · exact ⟨i, by omega, h⟩
    · rintro ⟨j, h1, h2⟩
      rcases Nat.lt_or_eq_of_le (Nat.le_of_lt_succ h1) with h | rfl
      · exact .inl ⟨j, h, h2⟩
      · exact .inr h2
theorem cL_ints (s : Nat) (d to : Int) (i : Nat) : ints (cL l n s d to i) := fun v hv => by
  obtain ⟨j, _, h⟩ := cL_mem.1 hv
  exact sL_ints _ v h
theorem sL_len (s : Nat) : (sL s).length ≤ 16 := by
  have : (sL s).length ≤ 1 * 16 := gl_len ogC_len 16
  omega
theorem cL_len (s : Nat) (d to : Int) : ∀ i, (cL l n s d to i).length ≤ 16 * i
  | 0 => Nat.le_refl _
  | i + 1 => by
    have h1 := cL_len s d to i
    have h2 := sL_len (kS l n d to (elI s i))
    show (cL l n s d to i ++ sL (kS l n d to (elI s i))).length ≤ _
    rw [List.length_append]
    omega
theorem sL_cnt (s : Nat) : (sL s).length = cnt (fun x => s.testBit x) 16 := by
  have : ∀ m, (gl (fun x => s.testBit x) ogC m).length = cnt (fun x => s.testBit x) m := fun m => by
    induction m with
    | zero => rfl
    | succ m ih =>
      show (gl (fun x => s.testBit x) ogC m ++ (if s.testBit m then ogC m else [])).length = cnt (fun x => s.testBit x) m + (if s.testBit m = true then 1 else 0)
      rw [List.length_append, ih]
      split <;> rfl
  exact this 16
theorem cnt_trunc {p : Nat → Bool} {m : Nat} (h : ∀ i, m ≤ i → p i = false) : ∀ j, cnt p (m + j) = cnt p m
  | 0 => rfl
  | j + 1 => by
    show cnt p (m + j) + (if p (m + j) = true then 1 else 0) = _
    rw [cnt_trunc h j, h (m + j) (by omega)]
    simp
/-- The sets of the law. -/
theorem comp_math {a : Nat} {fr mid to : Int} (hva : validM G l n = true) (ha : (a : Int) < G) (p5 : fr ≤ mid) (p6 : mid < to) :
    rcSet l n a (fr + 360) (to + 360) = rcSet l n a fr to ∧ (∀ x, (rcSet l n a fr mid).testBit x = true → (rcSet l n a fr to).testBit x = true) ∧
      ∀ x : Nat, x < 16 → (Value.int .i64 (x : Int) ∈ cL l n (rcSet l n a fr mid) (mid + 1) to (sL (rcSet l n a fr mid)).length ↔ (rcSet l n a fr to).testBit x = true) := by
  have hG16 := ((validM_iff _ _ _).1 hva).2.1
  have hS := pow_lt16 (show a < 16 by omega)
  have e1 : ∀ b, rcSet l n a fr b = runS l n (2 ^ a) fr (b + 1 - fr).toNat := fun b => by unfold rcSet; rw [Int.toNat_natCast]
  have e2 : (to + 1 - fr).toNat = (mid + 1 - fr).toNat + (to - mid).toNat := by omega
  refine ⟨?_, fun x hx => ?_, fun x hx => ?_⟩
  · unfold rcSet
    rw [runS_year, show to + 360 + 1 - (fr + 360) = to + 1 - fr by omega]
  · rw [e1] at hx ⊢
    rw [e2]
    exact runS_sub hva hS _ _ x hx
  · have key := runS_pt (fr := mid + 1) hva (runS_lt (l := l) (n := n) (fr := fr) hS (mid + 1 - fr).toNat) (to - mid).toNat x
    have e3 : rcSet l n a fr to = runS l n (runS l n (2 ^ a) fr (mid + 1 - fr).toNat) (mid + 1) (to - mid).toNat := by
      rw [e1, e2, runS_add, show fr + ((mid + 1 - fr).toNat : Int) = mid + 1 by omega]
    rw [e3, key, ← e1, cL_mem]
    have hs : rcSet l n a fr mid < 65536 := by rw [e1]; exact runS_lt hS _
    have ek : ∀ y : Nat, kS l n (mid + 1) to y = runS l n (2 ^ y) (mid + 1) (to - mid).toNat := fun y => by
      unfold kS rcSet
      rw [Int.toNat_natCast, show to + 1 - (mid + 1) = to - mid by omega]
    constructor
    · rintro ⟨j, h1, h2⟩
      obtain ⟨_, q1, q2, q3⟩ := elI_at h1
      obtain ⟨y, hy⟩ : ∃ y : Nat, elI (rcSet l n a fr mid) j = y := ⟨(elI (rcSet l n a fr mid) j).toNat, by omega⟩
      rw [hy, Int.toNat_natCast] at q3
      rw [hy, ek] at h2
      have := (sL_mem.1 h2).2.2
      rw [Int.toNat_natCast] at this
      exact ⟨y, q3, this⟩
    · rintro ⟨y, h1, h2⟩
      obtain ⟨j, hj, he⟩ := elI_of (bit_lt hs h1) h1
      refine ⟨j, hj, ?_⟩
      rw [he, ek]
      exact sL_mem.2 ⟨by omega, by omega, by rw [Int.toNat_natCast]; exact h2⟩
end
end Go.Proofs.Z

namespace Go.Proofs.Z
open Go Go.RowKit Go.Proofs Go.Ri Go.Proofs.Z.Fa
/-! The law FellComposes. -/
def fcTest (G a fr mid to : Int) (i : Nat) : Bool := if i = 0 then decide (0 ≤ a) else if i = 1 then decide (a < G) else if i = 2 then decide (0 ≤ fr) else if i = 3 then decide (fr ≤ mid) else if i = 4 then decide (mid < to) else decide (to ≤ 1048216)
def fcCls (G a fr mid to : Int) : Nat := firstBad (fcTest G a fr mid to) 6 0
theorem nle' (a b : Int) : decide (a ≤ b) = !decide (b < a) := by by_cases h : a ≤ b <;> simp [h] <;> omega
theorem fcT_ok (V : Val) {G a fr mid to : Int} (h0 : V.I 0 = G) (h20 : V.I 20 = a) (h22 : V.I 22 = fr) (h23 : V.I 23 = mid) (h24 : V.I 24 = to) (j : Nat) (p : Bool) (hp : fcTest G a fr mid to j = p) : ∀ e, e ∈ fcT j p → @TETrue V e := by
  letI := V
  have e0 : cv (sI 0) = .int .i64 G := congrArg (Value.int .i64) h0
  have e20 : cv (sI 20) = .int .i64 a := congrArg (Value.int .i64) h20
  have e22 : cv (sI 22) = .int .i64 fr := congrArg (Value.int .i64) h22
  have e23 : cv (sI 23) = .int .i64 mid := congrArg (Value.int .i64) h23
  have e24 : cv (sI 24) = .int .i64 to := congrArg (Value.int .i64) h24
  subst hp
  by_cases h0 : j = 0
  · subst h0
    exact fa (f_lss (k := .i64) (m := a) (n := 0) e20 rfl (nd' _ _)) fz
  by_cases h1 : j = 1
  · subst h1
    exact fa (f_geq (k := .i64) (m := a) (n := G) e20 e0 (ng' _ _)) fz
  by_cases h2 : j = 2
  · subst h2
    exact fa (f_lss (k := .i64) (m := fr) (n := 0) e22 rfl (nd' _ _)) fz
  by_cases h3 : j = 3
  · subst h3
    exact fa (f_lss (k := .i64) (m := mid) (n := fr) e23 e22 (nd' _ _)) fz
  by_cases h4 : j = 4
  · subst h4
    exact fa (f_leq (k := .i64) (m := to) (n := mid) e24 e23 (nle' _ _)) fz
  have et : fcTest G a fr mid to j = decide (to ≤ 1048216) := by unfold fcTest; rw [if_neg h0, if_neg h1, if_neg h2, if_neg h3, if_neg h4]
  have eT : fcT j (fcTest G a fr mid to j) = [⟨.bin .gtr, sI 24, lI 1048216, bR (!(fcTest G a fr mid to j))⟩] := by unfold fcT; rw [if_neg h0, if_neg h1, if_neg h2, if_neg h3, if_neg h4]
  rw [eT, et]
  exact fa (f_gtr (k := .i64) (m := to) (n := 1048216) e24 rfl (ngt' _ _)) fz
theorem fcN_ok (V : Val) {G a fr mid to : Int} (h0 : V.I 0 = G) (h20 : V.I 20 = a) (h22 : V.I 22 = fr) (h23 : V.I 23 = mid) (h24 : V.I 24 = to) : ∀ m, m ≤ 6 → ∀ e, e ∈ fcN (fcCls G a fr mid to) m → @TETrue V e
  | 0, _ => fz
  | j + 1, hj => by
    refine fapp (fcN_ok V h0 h20 h22 h23 h24 j (by omega)) ?_
    split
    · rename_i h
      exact fcT_ok V h0 h20 h22 h23 h24 j true (firstBad_pass _ 6 0 j (Nat.zero_le _) h)
    · split
      · rename_i h
        refine fcT_ok V h0 h20 h22 h23 h24 j false ?_
        have := firstBad_fail (fcTest G a fr mid to) 6 0 (by show fcCls G a fr mid to < 6; omega)
        rw [show firstBad (fcTest G a fr mid to) 6 0 = j from h.symm] at this
        exact this
      · exact fz
def fcnm (G : Int) (l : List Value) (n : Nat) (a fr mid to : Int) (i : Nat) (e : Int) (u x : Nat) (L9 L10 L11 L12 L13 : List Value) : Nm :=
  ⟨fun j => if j = 0 then G else if j = 1 then (n : Int) else if j = 20 then a else if j = 22 then fr else if j = 23 then mid else if j = 24 then to else if j = 32 then fr + 360 else if j = 34 then to + 360 else if j = 33 then mid + 1 else if j = 2 then (i : Int) else if j = 7 then (i : Int) + 1 else if j = 3 then e else if j = 41 then (L9.length : Int) else if j = 44 then (L10.length : Int) else if j = 42 then (u : Int) else if j = 45 then (u : Int) + 1 else if j = 43 then (x : Int) else (x : Int) + 1, ny, fun _ => ⟨#[]⟩,
   fun j => if j = 0 then l else if j = 9 then L9 else if j = 10 then L10 else if j = 11 then L11 else if j = 12 then L12 else L13⟩
section
variable {G : Int} {l : List Value} {n : Nat} {a fr mid to : Int}
theorem fcS_ok {i i' : Nat} {e e' : Int} {u x u' x' : Nat} {L9 L10 L11 L12 L13 L11' L12' L13' : List Value} {r : RV} (W W' : Nat → Value) (hr : @cv ((fcnm G l n a fr mid to i e u x L9 L10 L11 L12 L13).val W) r = .int .i64 (i' : Nat)) (q : Bool) (hq : q = true → L12' = L13) : ∀ s, s ∈ fcS r (if q then some 13 else none) → okSE ((fcnm G l n a fr mid to i e u x L9 L10 L11 L12 L13).val W) ((fcnm G l n a fr mid to i' e' u' x' L9 L10 L11' L12' L13').val W') s := by
  cases q with
  | true => exact fa ⟨.i64, (i' : Int), hr, rfl⟩ (fapp (ids_ok [0, 1, 23, 24] (fa rfl (fa rfl (fa rfl (fa rfl fz))))) (fapp (fa (show l = l from rfl) (fa (show L9 = L9 from rfl) (fa (show L10 = L10 from rfl) fz))) (fa (show L12' = L13 from hq rfl) fz)))
  | false => exact fa ⟨.i64, (i' : Int), hr, rfl⟩ (fapp (ids_ok [0, 1, 23, 24] (fa rfl (fa rfl (fa rfl (fa rfl fz))))) (fapp (fa (show l = l from rfl) (fa (show L9 = L9 from rfl) (fa (show L10 = L10 from rfl) fz))) fz))
theorem fcS2_ok {i i' : Nat} {e e' : Int} {u x u' x' : Nat} {L9 L10 L11 L12 L13 L11' L13' : List Value} {r r2 : RV} (W W' : Nat → Value) (hr : @cv ((fcnm G l n a fr mid to i e u x L9 L10 L11 L12 L13).val W) r = .int .i64 (u' : Nat)) (hr2 : @cv ((fcnm G l n a fr mid to i e u x L9 L10 L11 L12 L13).val W) r2 = .int .i64 (x' : Nat)) : ∀ s, s ∈ fcS2 r r2 → okSE ((fcnm G l n a fr mid to i e u x L9 L10 L11 L12 L13).val W) ((fcnm G l n a fr mid to i' e' u' x' L9 L10 L11' L12 L13').val W') s :=
  fa ⟨.i64, (u' : Int), hr, rfl⟩ (fa ⟨.i64, (x' : Int), hr2, rfl⟩ (fapp (ids_ok [0, 1] (fa rfl (fa rfl fz))) (fa (show l = l from rfl) (fa (show L9 = L9 from rfl) (fa (show L10 = L10 from rfl) (fa (show L12 = L12 from rfl) fz))))))
end
/-- The second loop: the grazings are counted. -/
theorem fc_head2 {G : Int} {l : List Value} {n : Nat} {a fr mid to : Int} (SL SM : Nat) (C : List Value) (hsub : ∀ x, SL.testBit x = true → SM.testBit x = true) (hG : 0 ≤ G) (hG16 : G ≤ 16) (hC : ints C) (hClen : C.length ≤ 1000) (hmem : ∀ x : Nat, x < 16 → (Value.int .i64 (x : Int) ∈ C ↔ SM.testBit x = true)) (hin : ∀ x, SM.testBit x = true → (x : Int) < G) (w : World) :
    AtHead fFellComposes (oB fcR) (oK fcR) w.heap.size w (DF (.bool true) w) fcQ (fcnm G l n a fr mid to 0 0 0 0 (sL SL) (sL SM) [] C []) := by
  intro fn hf W1 E act w1 S
  refine loop_wp (κ := Unit) hf (oB fcR) (oK fcR) (fun _ => fcQ) w.heap.size w (DF (.bool true) w) (fun m _ c => ∃ x, x ≤ G.toNat ∧ m = G.toNat - x ∧ c = fcnm G l n a fr mid to 0 0 (cnt (fun x => SM.testBit x) x) x (sL SL) (sL SM) [] C []) ?_ G.toNat () _ W1 E act w1 ⟨0, Nat.zero_le _, rfl, rfl⟩ S
  rintro m _ c ⟨x, hx, rfl, rfl⟩ W
  letI : Val := (fcnm G l n a fr mid to 0 0 (cnt (fun x => SM.testBit x) x) x (sL SL) (sL SM) [] C []).val W
  have hcnt := cnt_le (fun x => SM.testBit x) x
  rcases Nat.lt_or_ge x G.toNat with hlt | hge
  · have h12 := in_ansq ((fcnm G l n a fr mid to 0 0 (cnt (fun x => SM.testBit x) x) x (sL SL) (sL SM) [] C []).val W) C hC (by omega) (i := 12) (show C = C from rfl) (x := sI 43) (v := (x : Int)) rfl rfl (hmem x (by omega))
    have hmm : ∀ s : Nat, Value.int .i64 (x : Int) ∈ sL s ↔ s.testBit x = true := fun s => by
      rw [sL_mem, Int.toNat_natCast]
      exact ⟨fun h => h.2.2, fun h => ⟨by omega, by omega, h⟩⟩
    have l1 := sL_len SM
    have l2 := sL_len SL
    have h10 := in_ansq ((fcnm G l n a fr mid to 0 0 (cnt (fun x => SM.testBit x) x) x (sL SL) (sL SM) [] C []).val W) (sL SM) (sL_ints SM) (by omega) (i := 10) (show sL SM = sL SM from rfl) (x := sI 43) (v := (x : Int)) rfl rfl (hmm SM)
    have h9 := in_ansq ((fcnm G l n a fr mid to 0 0 (cnt (fun x => SM.testBit x) x) x (sL SL) (sL SM) [] C []).val W) (sL SL) (sL_ints SL) (by omega) (i := 9) (show sL SL = sL SL from rfl) (x := sI 43) (v := (x : Int)) rfl rfl (hmm SL)
    have tb : TbOK (fcI (SM.testBit x) (SL.testBit x)) := { T := fa (f_lss (k := .i64) (m := (x : Int)) (n := G) rfl rfl (decide_eq_true (by omega))) (fa (f_add1 (m := ((cnt (fun x => SM.testBit x) x : Nat) : Int)) rfl rfl rfl (by omega) (by omega)) (fa (f_add1 (m := (x : Int)) rfl rfl rfl (by omega) (by omega)) fz)), C := fa h12 (fa h10 (fa h9 fz)) }
    have hrun := all2_all (all2_all fc_again2 (SM.testBit x)) (SL.testBit x)
    have hqp : (SL.testBit x && !SM.testBit x) = false := by
      cases hq : SL.testBit x with
      | false => rfl
      | true => rw [hsub x hq]; rfl
    rw [hqp, Bool.false_or] at hrun
    refine step_to _ [] tb _ _ () (fcnm G l n a fr mid to 0 0 (cnt (fun x => SM.testBit x) (x + 1)) (x + 1) (sL SL) (sL SM) [] C []) hrun (fun W' => holds_all (fcS2_ok W W' ?_ rfl)) ⟨G.toNat - (x + 1), by omega, x + 1, hlt, rfl, rfl⟩
    show cv _ = Value.int .i64 ((cnt (fun x => SM.testBit x) x + (if SM.testBit x = true then 1 else 0) : Nat) : Int)
    cases SM.testBit x <;> rfl
  · obtain rfl : x = G.toNat := by omega
    have hc : ((cnt (fun x => SM.testBit x) G.toNat : Nat) : Int) = ((sL SM).length : Int) := by
      rw [sL_cnt]
      have := cnt_trunc (p := fun x => SM.testBit x) (m := G.toNat) (fun i hi => by
        show SM.testBit i = false
        rw [Bool.eq_false_iff]
        intro h
        have := hin i h
        omega) (16 - G.toNat)
      rw [show G.toNat + (16 - G.toNat) = 16 by omega] at this
      rw [this]
    exact step_outF _ [] { T := fa (f_lss (k := .i64) (m := ((G.toNat : Nat) : Int)) (n := G) rfl rfl (decide_eq_false (by omega))) (fa (f_ieq (k := .i64) (m := ((cnt (fun x => SM.testBit x) G.toNat : Nat) : Int)) (n := ((sL SM).length : Int)) rfl rfl (by rw [hc]; simp)) fz), LL := fa ⟨rfl, (sL SM).length, Nat.succ_pos 0, by rw [Nat.mul_one]; rfl, rfl⟩ fz } _ fc_out rfl
end Go.Proofs.Z
