/- A part of the proofs that the laws of layer four answer true for every input. -/
import Derived.Test.YtjjmnoiiihcoiaaGreatDoorZJJ
import Derived.Test.YtjjmnoiiihcoiaaGreatDoorZHd
import Derived.Test.YtjjmnoiiihcoiaaGreatDoorZNC
namespace Go.Proofs.Z
open Go Go.RowKit Go.Proofs Go.Ri Go.Proofs.Z.Fa
/-! The specification's Path: the least numbers of passes, day by day, and the first path. -/
section
variable {G : Int} {l : List Value} {n b : Nat} {to : Int}
/-- v tells for each grazing the least number of passes that lead from there to b, from the day d on; 1048576 where none do. -/
def FwD (G : Int) (l : List Value) (n b : Nat) (to d : Int) (v : Nat → Int) : Prop := ∀ x : Nat, (x : Int) < G → (∀ L, Leads l n to L x d b → v x ≤ (L.length : Int)) ∧ (v x < 1048576 → ∃ L, (L.length : Int) = v x ∧ Leads l n to L x d b) ∧ 0 ≤ v x ∧ v x ≤ 1048576
/-- What is so while one day's numbers go down. -/
def RxD (G : Int) (l : List Value) (n b : Nat) (to d : Int) (af v : Nat → Int) : Prop := ∀ x : Nat, (x : Int) < G → (v x < 1048576 → ∃ L, (L.length : Int) = v x ∧ Leads l n to L x d b) ∧ 0 ≤ v x ∧ v x ≤ 1048576 ∧ v x ≤ af x
theorem leads_down {d d' : Int} (h : d' ≤ d) {y : Int} : ∀ {L : List (Int × Nat)} {x : Int}, Leads l n to L x d y → Leads l n to L x d' y
  | [], _, hL => hL
  | (D, g) :: L, x, hL => by
    obtain ⟨h1, h2⟩ := hL
    exact ⟨by omega, h2⟩
theorem fw_base (af : Nat → Int) (hb : af b = 0) (ho : ∀ x : Nat, x ≠ b → af x = 1048576) : FwD G l n b to (to + 1) af := by
  intro x _
  by_cases hx : x = b
  · subst hx
    exact ⟨fun L _ => by rw [hb]; omega, fun _ => ⟨[], by rw [hb]; rfl, rfl⟩, by omega, by omega⟩
  · rw [ho x hx]
    refine ⟨fun L hL => ?_, fun h => absurd h (by omega), by omega, by omega⟩
    cases L with
    | nil =>
      have hL : (x : Int) = (b : Int) := hL
      exact absurd (by omega) hx
    | cons p L =>
      obtain ⟨D, g⟩ := p
      obtain ⟨h1, h2, _⟩ := hL
      omega
theorem rx_start {d : Int} {af : Nat → Int} (h : FwD G l n b to (d + 1) af) : RxD G l n b to d af af := fun x hx => by
  obtain ⟨_, h2, h3, h4⟩ := h x hx
  refine ⟨fun hv => ?_, h3, h4, Int.le_refl _⟩
  obtain ⟨L, hL, hl⟩ := h2 hv
  exact ⟨L, hL, leads_down (by omega) hl⟩
/-- One number goes down, through the gate g. -/
theorem rx_step {d : Int} {af v : Nat → Int} (h : RxD G l n b to d af v) (hd : d ≤ to) {g x y : Nat} (hg : g < n) (ho : odP l d g = true) (hx : (x : Int) = gtA l g ∨ (x : Int) = gtB l g) (hy : nextG l g x = (y : Int)) (hyG : (y : Int) < G) (hlt : v y + 1 < v x) : RxD G l n b to d af (fun z => if z = x then v y + 1 else v z) := fun z hz => by
  obtain ⟨h1, h2, h3, h4⟩ := h z hz
  by_cases hzx : z = x
  · subst hzx
    obtain ⟨k1, k2, _, _⟩ := h y hyG
    simp only [if_true]
    refine ⟨fun _ => ?_, by omega, by omega, by omega⟩
    obtain ⟨L, hL, hl⟩ := k1 (by omega)
    refine ⟨(d, g) :: L, by rw [List.length_cons]; omega, Int.le_refl _, hd, hg, ho, hx, ?_⟩
    rw [hy]
    exact hl
  · simp only [if_neg hzx]
    exact ⟨h1, h2, h3, h4⟩
theorem rx_end {d : Int} {af v : Nat → Int} (hva : validM G l n = true) (haf : FwD G l n b to (d + 1) af) (h : RxD G l n b to d af v) (hst : ∀ g x y : Nat, g < n → odP l d g = true → ((x : Int) = gtA l g ∨ (x : Int) = gtB l g) → nextG l g x = (y : Int) → v x ≤ v y + 1) : FwD G l n b to d v := by
  have key : ∀ (L : List (Int × Nat)) (x : Nat), (x : Int) < G → Leads l n to L x d b → v x ≤ (L.length : Int) := by
    intro L
    induction L with
    | nil =>
      intro x hx hL
      have e : (x : Int) = (b : Int) := hL
      have := (h x hx).2.2.2
      have := (haf x hx).1 [] hL
      have e0 : (([] : List (Int × Nat)).length : Int) = 0 := rfl
      omega
    | cons p L ih =>
      intro x hx hL
      obtain ⟨D, g⟩ := p
      obtain ⟨h1, h2, h3, h4, h5, h6⟩ := hL
      by_cases hD : D = d
      · subst hD
        have hn := next_nat hva h3 (x : Int)
        have hg := (gOk_iff _ _ _ _ _).1 (okL_at ((validM_iff _ _ _).1 hva).2.2.2 h3)
        have hyG : (((nextG l g x).toNat : Nat) : Int) < G := by
          rw [hn.2.2]
          unfold nextG
          split <;> omega
        have := ih (nextG l g x).toNat hyG (by rw [hn.2.2]; exact h6)
        have := hst g x (nextG l g x).toNat h3 h4 h5 hn.2.2.symm
        rw [List.length_cons]
        omega
      · have := (haf x hx).1 ((D, g) :: L) ⟨by omega, h2, h3, h4, h5, h6⟩
        have := (h x hx).2.2.2
        omega
  exact fun x hx => ⟨fun L hL => key L x hx hL, (h x hx).1, (h x hx).2.1, (h x hx).2.2.1⟩
theorem fw_st {d : Int} {v : Nat → Int} (hva : validM G l n = true) (h : FwD G l n b to d v) (h0 : 0 ≤ d) (h1 : d ≤ to) {x j : Nat} (hx : (x : Int) < G) (hj : j < 1048576) : v x = (j : Int) ↔ (d ≤ stN l n b to j x ∧ ∀ i, i < j → ¬ d ≤ stN l n b to i x) := by
  have hto : 0 ≤ to := by omega
  obtain ⟨a1, a2, a3, a4⟩ := h x hx
  constructor
  · intro e
    refine ⟨?_, fun i hi hd => ?_⟩
    · obtain ⟨L, hL, hl⟩ := a2 (by omega)
      exact (stN_iff hva hto j x d h0 h1).1 ⟨L, by omega, hl⟩
    · obtain ⟨L, hL, hl⟩ := (stN_iff hva hto i x d h0 h1).2 hd
      have := a1 L hl
      omega
  · rintro ⟨h2, h3⟩
    obtain ⟨L, hL, hl⟩ := (stN_iff hva hto j x d h0 h1).2 h2
    have hle := a1 L hl
    rcases Int.lt_or_eq_of_le (show v x ≤ (j : Int) by omega) with hlt | he
    · obtain ⟨L2, hL2, hl2⟩ := a2 (by omega)
      exact absurd ((stN_iff hva hto L2.length x d h0 h1).1 ⟨L2, rfl, hl2⟩) (h3 L2.length (by omega))
    · exact he
/-- The first pass, as the specification looks for it. -/
theorem pass_is {vD : Int → Nat → Int} (hva : validM G l n = true) (htm : to ≤ 1048576) {day : Int} (h0 : 0 ≤ day) (h1 : day ≤ to) (hF : ∀ D, day ≤ D → D ≤ to → FwD G l n b to D (vD D)) {x j : Nat} (hx : (x : Int) < G) (hj : j + 1 < 1048576) (hv : vD day x = ((j + 1 : Nat) : Int)) :
    ∃ K D, npX l (stN l n b to j) x day n = (D, K) ∧ K < n ∧ day ≤ D ∧ D ≤ to ∧ odP l D K = true ∧ ((x : Int) = gtA l K ∨ (x : Int) = gtB l K) ∧ vD D (nextG l K x).toNat = (j : Int) ∧
      ∀ (d : Int) (i : Nat), day ≤ d → d ≤ to → i < n → odP l d i = true → ((x : Int) = gtA l i ∨ (x : Int) = gtB l i) → vD d (nextG l i x).toNat = (j : Int) → D < d ∨ (D = d ∧ K ≤ i) := by
  have hto : 0 ≤ to := by omega
  have hin := fun k (hk : k < n) => (gOk_iff _ _ _ _ _).1 (okL_at ((validM_iff _ _ _).1 hva).2.2.2 hk)
  have hnG : ∀ k, k < n → (((nextG l k x).toNat : Nat) : Int) < G := fun k hk => by
    rw [(next_nat hva hk (x : Int)).2.2]
    have := hin k hk
    unfold nextG
    split <;> omega
  obtain ⟨s1, s2⟩ := (fw_st hva (hF day (Int.le_refl _) h1) h0 h1 hx hj).1 hv
  obtain ⟨K, D, e, hK, hdD, hDs, ho, ht⟩ := np_ok hva hto htm h0 s1
  have hDto : D ≤ to := by
    have := stN_hi (b := b) hva hto j (nextG l K x).toNat
    omega
  refine ⟨K, D, e, hK, hdD, hDto, ho, ht, ?_, fun d i hd1 hd2 hi hod htc hvd => ?_⟩
  · refine (fw_st hva (hF D hdD hDto) (by omega) hDto (hnG K hK) (by omega)).2 ⟨hDs, fun i hi hle => ?_⟩
    obtain ⟨L, hL, hl⟩ := (stN_iff hva hto i (nextG l K x).toNat D (by omega) hDto).2 hle
    rw [(next_nat hva hK (x : Int)).2.2] at hl
    have hlead : Leads l n to ((D, K) :: L) x day b := ⟨hdD, hDto, hK, ho, ht, hl⟩
    have := (hF day (Int.le_refl _) h1 x hx).1 _ hlead
    rw [hv, List.length_cons] at this
    omega
  · have g := hin i hi
    obtain ⟨t1, _⟩ := (fw_st hva (hF d hd1 hd2) (by omega) hd2 (hnG i hi) (by omega)).1 hvd
    have hop : openingM (gtF l i) (gtT l i) day ≤ d := by
      rcases Int.lt_or_le d (openingM (gtF l i) (gtT l i) day) with h | h
      · have := op_not g.2.2.2.1 g.2.2.2.2.1 g.2.2.2.2.2.1 g.2.2.2.2.2.2 h0 hd1 h
        have hod : openM (gtF l i) (gtT l i) d = true := hod
        rw [hod] at this
        cases this
      · exact h
    have := npX_min l (stN l n b to j) x day n i hi (tch_iff.2 htc) (by omega) (by omega)
    rw [e] at this
    have this : D < openingM (gtF l i) (gtT l i) day ∨ (D = openingM (gtF l i) (gtT l i) day ∧ K ≤ i) := this
    omega
end
end Go.Proofs.Z

namespace Go.Proofs.Z
open Go Go.RowKit Go.Proofs Go.Ri Go.Proofs.Z.Fa
/-! The specification's pass: runs. 22 the first day, 23 the day, 24 the grazing, 25 how many passes are left; 26 the day looked at, 27 its row, 28 the rows, 2 the gate, 29 a row's length, 30 the number there; lists: 30 the rows, 31 the row. -/
abbrev fRPass : Nat := 90
def ppD : List RV := [fellR, .slL 30 1, sI 22, sI 23, sI 24, sI 25]
noncomputable def ppH : RH := [some (.lstA 0), some (.lstB 30 1), some (.cells [sI 0, .slA 0 0 4] tFell false false), some (.cells [lI 0, lI 0] 73 false false)]
noncomputable def ppT : List (Nat × RV) := [(1, .slA 1 30 1), (2, sI 22), (4, sI 24), (5, sI 25), (6, .ptr 2 0), (12, .ptr 3 0), (14, sI 26)]
noncomputable def ppP (inn : Bool) : St := ⟨patW (ppT ++ if inn then [(15, sI 2)] else []) 73 0, ppH⟩
def ppIx (inn : Bool) : Nat := if inn then 1 else 0
def ppS (d i : RV) : List SE := [.int 0 (sI 0), .int 1 (sI 1), .int 22 (sI 22), .int 24 (sI 24), .int 25 (sI 25), .int 26 d, .int 2 i, .int 28 (sI 28), .lst 0 0, .lst 30 30]
noncomputable def ppE : Tb := { LL := hLL }
set_option maxRecDepth 100000 in
theorem pp_enter : atH (entN ppE [] fRPass ppD) fRPass 0 (ppS (sI 23) (lI 0)) [0, 1, 2, 3] (ppP false) = true := by kernel_rfl
def ppLL : List LNE := [⟨0, 4, sI 1⟩, ⟨30, 1, sI 28⟩, ⟨31, 1, sI 29⟩]
def ppO : List TE := [⟨.bin .sub, sI 26, sI 22, sI 27⟩, ⟨.bin .lss, sI 27, sI 28, bR true⟩]
noncomputable def ppB : Tb := { T := ppO, LL := [⟨0, 4, sI 1⟩, ⟨30, 1, sI 28⟩] }
set_option maxRecDepth 100000 in
theorem pp_in : atH (fromH ppB [] fRPass 0 (ppP false)) fRPass 1 (ppS (sI 26) (lI 0)) [0, 1, 2, 3] (ppP true) = true := by kernel_rfl
noncomputable def ppN : Tb := { T := [⟨.bin .lss, sI 2, sI 1, bR false⟩, ⟨.bin .add, sI 26, lI 1, sI 32⟩], LL := [⟨0, 4, sI 1⟩] }
set_option maxRecDepth 100000 in
theorem pp_next : atH (fromH ppN [] fRPass 1 (ppP true)) fRPass 0 (ppS (sI 32) (sI 2)) [0, 1, 2, 3] (ppP false) = true := by kernel_rfl
/-- p: the gate's first grazing is the one; c: 0 the gate does not touch it, 1 it is shut, 2 another number there, 3 found. -/
def ppG (p : Bool) (c : Nat) : List TE := [⟨.bin .lss, sI 2, sI 1, bR true⟩, ⟨.inb, sI 2, sI 1, bR true⟩, ⟨.bin .add, sI 2, lI 1, sI 7⟩, ⟨.ieq, sI 3, sI 24, bR p⟩] ++ (if p then [] else [⟨.ieq, sI 4, sI 24, bR (!(Nat.beq c 0))⟩]) ++ (if Nat.ble 2 c then [⟨.bin .sub, sI 26, sI 22, sI 27⟩, ⟨.inb, sI 27, sI 28, bR true⟩, ⟨.inb, if p then sI 4 else sI 3, sI 29, bR true⟩, ⟨.ieq, sI 30, sI 25, bR (Nat.beq c 3)⟩] else [])
noncomputable def ppX (p : Bool) (c : Nat) : Tb := { T := ppG p c, LL := if Nat.ble 2 c then ppLL else [⟨0, 4, sI 1⟩], LX := ⟨0, 2, [sI 3, sI 4, sI 5, sI 6]⟩ :: (if Nat.ble 2 c then [⟨31, if p then 4 else 3, [sI 30]⟩] else []), LNE := if Nat.ble 2 c then [⟨30, 27, 31⟩] else [], Y := if Nat.ble 1 c then [⟨fOpenOn, [gateQ, sI 26], bR (Nat.ble 2 c)⟩] else [] }
set_option maxRecDepth 100000 in
theorem pp_skip : (all2 fun p => allU 3 fun c => (p && Nat.beq c 0) || atH (fromH (ppX p c) [] fRPass 1 (ppP true)) fRPass 1 (ppS (sI 26) (sI 7)) [0, 1, 2, 3] (ppP true)) = true := by kernel_rfl
set_option maxRecDepth 100000 in
theorem pp_found : (all2 fun p => endF (ppX p 3) fRPass (fromH (ppX p 3) [] fRPass 1 (ppP true)) (.tup [.agg [sI 26, sI 2], if p then sI 4 else sI 3])) = true := by kernel_rfl
end Go.Proofs.Z

namespace Go.Proofs.Z
open Go Go.RowKit Go.Proofs Go.Ri Go.Proofs.Z.Fa
/-! The specification's pass: its contract. -/
def rowD (v : Nat → Int) (g : Nat) : List Value := (List.range g).map fun x => .int .i64 (v x)
def tabD (vD : Int → Nat → Int) (fr : Int) (N g : Nat) : List Value := (List.range N).map fun k => .agg (rowD (vD (fr + (k : Nat))) g).toArray
theorem rowD_at {v : Nat → Int} {g x : Nat} (h : x < g) : ((rowD v g).drop (x * 1)).take 1 = [.int .i64 (v x)] := by
  unfold rowD
  rw [Nat.mul_one, List.drop_eq_getElem_cons (by rw [List.length_map, List.length_range]; exact h)]
  rw [List.getElem_map, List.getElem_range]
  rfl
theorem tabD_at {vD : Int → Nat → Int} {fr : Int} {N g k : Nat} (h : k < N) : (tabD vD fr N g)[k]? = some (.agg (rowD (vD (fr + (k : Nat))) g).toArray) := by
  unfold tabD
  rw [List.getElem?_map, List.getElem?_range h]
  rfl
theorem slL_nval {V V' : Val} {w : World} {v : Value} {i j s : Nat} (hi : V.L i = V'.L j) (h : @Go.Ri.NVal V w (.slL i s) v) : @Go.Ri.NVal V' w (.slL j s) v := by
  obtain ⟨oa, n, cap, ss, k1, k2, k3, k4, k5, k6⟩ := h
  rw [hi] at k2 k3 k6
  exact ⟨oa, n, cap, ss, k1, k2, k3, k4, k5, k6⟩
def ppI (G : Int) (l : List Value) (n : Nat) (fr day x j d : Int) (i N g : Nat) (v : Int) (m : Nat) : Int :=
  if m = 0 then G else if m = 1 then (n : Nat) else if m = 22 then fr else if m = 23 then day else if m = 24 then x else if m = 25 then j else if m = 26 then d else if m = 2 then (i : Nat) else if m = 28 then (N : Nat) else if m = 27 then d - fr else if m = 29 then (g : Nat) else if m = 30 then v else if m = 3 then gtA l i else if m = 4 then gtB l i else if m = 5 then gtF l i else if m = 6 then gtT l i else if m = 7 then (i : Int) + 1 else d + 1
def ppNm (G : Int) (l : List Value) (n : Nat) (fr day x j : Int) (vD : Int → Nat → Int) (N g : Nat) (d : Int) (i : Nat) : Nm := ⟨ppI G l n fr day x j d i N g (vD d (nextG l i x).toNat), ny, fun _ => ⟨#[]⟩, fun m => if m = 0 then l else if m = 30 then tabD vD fr N g else rowD (vD d) g⟩
section
variable {G : Int} {l : List Value} {n : Nat} {fr day x j : Int} {vD : Int → Nat → Int} {N g : Nat}
theorem pp_ids (d d' : Int) (i i' : Nat) (W W' : Nat → Value) (a b : RV) (ha : @cv ((ppNm G l n fr day x j vD N g d i).val W) a = .int .i64 d') (hb : @cv ((ppNm G l n fr day x j vD N g d i).val W) b = .int .i64 (i' : Nat)) : ∀ q, q ∈ ppS a b → okSE ((ppNm G l n fr day x j vD N g d i).val W) ((ppNm G l n fr day x j vD N g d' i').val W') q :=
  fa ⟨.i64, G, rfl, rfl⟩ (fa ⟨.i64, (n : Nat), rfl, rfl⟩ (fa ⟨.i64, fr, rfl, rfl⟩ (fa ⟨.i64, x, rfl, rfl⟩ (fa ⟨.i64, j, rfl, rfl⟩ (fa ⟨.i64, d', ha, rfl⟩ (fa ⟨.i64, (i' : Nat), hb, rfl⟩ (fa ⟨.i64, (N : Nat), rfl, rfl⟩ (fa (okLs l rfl rfl) (fa (okLs (tabD vD fr N g) rfl rfl) fz)))))))))
theorem rpass_ans (V : Val) {to D : Int} {K : Nat} (hG : V.I 0 = G) (hL : V.L 0 = l) (hl : ints l) (hn : l.length = n * 4) (hva : validM G l n = true) (h22 : V.I 22 = fr) (h23 : V.I 23 = day) (h24 : V.I 24 = x) (h25 : V.I 25 = j) (h30 : V.L 30 = tabD vD fr N g)
    (hfr : 0 ≤ fr) (hfd : fr ≤ day) (hto : to ≤ 1048576) (hN : (N : Int) = to - fr + 1) (hgG : (g : Int) = G) (hK : K < n) (hdD : day ≤ D) (hDt : D ≤ to) (hoD : odP l D K = true) (htD : x = gtA l K ∨ x = gtB l K) (hvD : vD D (nextG l K x).toNat = j)
    (hmin : ∀ (d : Int) (i : Nat), day ≤ d → d ≤ to → i < n → odP l d i = true → (x = gtA l i ∨ x = gtB l i) → vD d (nextG l i x).toNat = j → D < d ∨ (D = d ∧ K ≤ i)) : @AnsN V fRPass ppD (.tuple #[.agg #[.int .i64 D, .int .i64 (K : Nat)], .int .i64 (nextG l K x)]) := by
  intro w hr vs hv
  have h32 := (validM_iff _ _ _).1 hva
  let V1 : Val := (ppNm G l n fr day x j vD N g day 0).val fun _ => undef
  have hv : All2 (@Go.Ri.NVal V1 w) ppD vs := by
    have one : ∀ {a : Nat} {b : Nat} {z u}, V.I a = z → V1.I b = z → @Go.Ri.NVal V w (sI a) u → @Go.Ri.NVal V1 w (sI b) u := fun {a b z u} h1 h2 h => nval_re (V := V) (V' := V1) (x := sI a) (y := sI b) (v := .int .i64 z) rfl rfl (congrArg (Value.int .i64) h1) (congrArg (Value.int .i64) h2) h
    cases hv with
    | cons h1 h => cases h with
      | cons h2 h => cases h with
        | cons h3 h => cases h with
          | cons h4 h => cases h with
            | cons h5 h => cases h with
              | cons h6 h =>
                cases h
                exact .cons (fell_nval1 (V := V) (V' := V1) hG hL h1) (.cons (slL_nval (V := V) (V' := V1) (i := 30) (j := 30) h30 h2) (.cons (one h22 rfl h3) (.cons (one h23 rfl h4) (.cons (one h24 rfl h5) (.cons (one h25 rfl h6) .nil)))))
  have hl1 : ∀ d i W, @LLTrue ((ppNm G l n fr day x j vD N g d i).val W) ⟨0, 4, sI 1⟩ := fun d i W => ⟨rfl, n, Nat.succ_pos 3, hn, rfl⟩
  have hl2 : ∀ d i W, @LLTrue ((ppNm G l n fr day x j vD N g d i).val W) ⟨30, 1, sI 28⟩ := fun d i W => ⟨rfl, N, Nat.succ_pos 0, by
    rw [Nat.mul_one]
    show (tabD vD fr N g).length = N
    unfold tabD
    rw [List.length_map, List.length_range], rfl⟩
  have hl3 : ∀ d i W, @LLTrue ((ppNm G l n fr day x j vD N g d i).val W) ⟨31, 1, sI 29⟩ := fun d i W => ⟨rfl, g, Nat.succ_pos 0, by
    rw [Nat.mul_one]
    show (rowD (vD d) g).length = g
    unfold rowD
    rw [List.length_map, List.length_range], rfl⟩
  have ht0 : @TbOK V1 ppE := by
    letI := V1
    exact { LL := fa (hl1 _ _ _) fz }
  refine fn_headsN (κ := Bool) (ppNm G l n fr day x j vD N g day 0) (fun _ => undef) ppE [] fRPass ppD ppIx ppP (fun m inn c => ∃ d i, day ≤ d ∧ d ≤ D ∧ (d = D → inn = true → i ≤ K) ∧ i ≤ n ∧ m = (D - d).toNat * (n + 2) + (if inn then n - i else n + 1) ∧ c = ppNm G l n fr day x j vD N g d i) ht0 (ppS (sI 23) (lI 0)) [0, 1, 2, 3] false ((D - day).toNat * (n + 2) + (n + 1)) pp_enter (ppNm G l n fr day x j vD N g day 0) (fun W' => holds_all (pp_ids day day 0 0 _ W' (sI 23) (lI 0) rfl rfl)) ⟨day, 0, Int.le_refl _, hdD, fun _ h => (by cases h), Nat.zero_le _, rfl, rfl⟩ (DF (.tuple #[.agg #[.int .i64 D, .int .i64 (K : Nat)], .int .i64 (nextG l K x)])) ?_ w hr vs hv
  rintro w m inn c ⟨d, i, hd1, hd2, hdK, hi, rfl, rfl⟩ W
  cases inn with
  | false =>
    have ht : @TbOK ((ppNm G l n fr day x j vD N g d i).val W) ppB := by
      letI : Val := (ppNm G l n fr day x j vD N g d i).val W
      exact { T := fa (f_sub (m := d) (n := fr) (r := d - fr) rfl rfl rfl rfl rfl (by omega) (by omega)) (fa (f_lss (k := .i64) (m := d - fr) (n := (N : Int)) rfl rfl (decide_eq_true (by omega))) fz), LL := fa (hl1 _ _ _) (fa (hl2 _ _ _) fz) }
    refine stepH_to ppB [] ht (ppS (sI 26) (lI 0)) [0, 1, 2, 3] rfl true (ppNm G l n fr day x j vD N g d 0) pp_in (fun W' => holds_all (pp_ids d d i 0 W W' (sI 26) (lI 0) rfl rfl)) ⟨_, ?_, d, 0, hd1, hd2, fun _ _ => Nat.zero_le _, Nat.zero_le _, rfl, rfl⟩
    simp only [if_true, Bool.false_eq_true, if_false]
    omega
  | true =>
    rcases Nat.lt_or_ge i n with hlt | hge
    · have hgt := (gOk_iff _ _ _ _ _).1 (okL_at h32.2.2.2 hlt)
      have hnx := next_nat hva hlt x
      have hnG : (nextG l i x).toNat < g := by
        have : ((nextG l i x).toNat : Int) < (g : Int) := by
          rw [hnx.2.2, hgG]
          unfold nextG
          split <;> omega
        omega
      have hlx : @LXTrue ((ppNm G l n fr day x j vD N g d i).val W) ⟨0, 2, [sI 3, sI 4, sI 5, sI 6]⟩ := ⟨rfl, by
        show ((i : Nat) : Int).toNat * 4 + 4 ≤ l.length
        rw [Int.toNat_natCast]
        omega, by
        show (l.drop (((i : Nat) : Int).toNat * 4)).take 4 = _
        rw [Int.toNat_natCast, row4 hl i (by omega)]
        rfl⟩
      obtain ⟨p, hp⟩ : ∃ p, decide (gtA l i = x) = p := ⟨_, rfl⟩
      have hbase : ∀ e, e ∈ ([⟨.bin .lss, sI 2, sI 1, bR true⟩, ⟨.inb, sI 2, sI 1, bR true⟩, ⟨.bin .add, sI 2, lI 1, sI 7⟩, ⟨.ieq, sI 3, sI 24, bR p⟩] : List TE) → @TETrue ((ppNm G l n fr day x j vD N g d i).val W) e := by
        letI : Val := (ppNm G l n fr day x j vD N g d i).val W
        exact fa (f_lss (k := .i64) (m := (i : Int)) (n := (n : Int)) rfl rfl (decide_eq_true (by omega))) (fa (f_inb (m := (i : Int)) (n := (n : Int)) rfl rfl (by omega)) (fa (f_add1 (m := (i : Int)) rfl rfl rfl (by omega) (by omega)) (fa (f_ieq (k := .i64) (m := gtA l i) (n := x) rfl rfl (by rw [eqdec]; exact hp)) fz)))
      have hB : ∀ q, decide (gtB l i = x) = q → @TETrue ((ppNm G l n fr day x j vD N g d i).val W) ⟨.ieq, sI 4, sI 24, bR q⟩ := fun q hq => by
        letI : Val := (ppNm G l n fr day x j vD N g d i).val W
        exact f_ieq (k := .i64) (m := gtB l i) (n := x) rfl rfl (by rw [eqdec]; exact hq)
      have hO : ∀ o, odP l d i = o → Ans fOpenOn [@cvF ((ppNm G l n fr day x j vD N g d i).val W) gateQ, @cvF ((ppNm G l n fr day x j vD N g d i).val W) (sI 26)] (.bool o) := fun o ho => by
        have := openOn_ans (gtA l i) (gtB l i) (gtF l i) (gtT l i) d (by omega)
        rw [show openM (gtF l i) (gtT l i) d = o from ho] at this
        exact this
      have skip : ∀ c, c < 3 → (p = true → c ≠ 0) → @TbOK ((ppNm G l n fr day x j vD N g d i).val W) (ppX p c) → (d = D → i ≠ K) → StepH fRPass ppIx ppP w.heap.size w [] (DF (.tuple #[.agg #[.int .i64 D, .int .i64 (K : Nat)], .int .i64 (nextG l K x)]) w) (fun k' c' => ∃ n', n' < (D - d).toNat * (n + 2) + (if true then n - i else n + 1) ∧ ∃ d i, day ≤ d ∧ d ≤ D ∧ (d = D → k' = true → i ≤ K) ∧ i ≤ n ∧ n' = (D - d).toNat * (n + 2) + (if k' then n - i else n + 1) ∧ c' = ppNm G l n fr day x j vD N g d i) true (ppNm G l n fr day x j vD N g d i) W := fun c hc hpc ht hne => by
        have hrun := allU_lt (all2_all pp_skip p) c hc
        have hrun2 : (p && Nat.beq c 0) = false := by
          cases p with
          | false => rfl
          | true =>
            show Nat.beq c 0 = false
            have := hpc rfl
            cases c with
            | zero => exact absurd rfl this
            | succ c => rfl
        rw [hrun2, Bool.false_or] at hrun
        refine stepH_to (ppX p c) [] ht (ppS (sI 26) (sI 7)) [0, 1, 2, 3] rfl true (ppNm G l n fr day x j vD N g d (i + 1)) hrun (fun W' => holds_all (pp_ids d d i (i + 1) W W' (sI 26) (sI 7) rfl rfl)) ⟨_, ?_, d, i + 1, hd1, hd2, fun h _ => ?_, hlt, rfl, rfl⟩
        · simp only [if_true]
          omega
        · have := hdK h rfl
          have := hne h
          omega
      have extra : ∀ q, decide (vD d (nextG l i x).toNat = j) = q → ∀ c, (c = 2 ∧ q = false) ∨ (c = 3 ∧ q = true) → odP l d i = true → (p = false → gtB l i = x) → @TbOK ((ppNm G l n fr day x j vD N g d i).val W) (ppX p c) := fun q hq c hc ho hpB => by
        have hy : nextG l i x = if p then gtB l i else gtA l i := by
          unfold nextG
          by_cases h : gtA l i = x
          · rw [if_pos h, ← hp, decide_eq_true h]
            rfl
          · rw [if_neg h, ← hp, decide_eq_false h]
            rfl
        have hT2 : ∀ e, e ∈ ([⟨.bin .sub, sI 26, sI 22, sI 27⟩, ⟨.inb, sI 27, sI 28, bR true⟩, ⟨.inb, if p then sI 4 else sI 3, sI 29, bR true⟩, ⟨.ieq, sI 30, sI 25, bR q⟩] : List TE) → @TETrue ((ppNm G l n fr day x j vD N g d i).val W) e := by
          letI : Val := (ppNm G l n fr day x j vD N g d i).val W
          refine fa (f_sub (m := d) (n := fr) (r := d - fr) rfl rfl rfl rfl rfl (by omega) (by omega)) (fa (f_inb (m := d - fr) (n := (N : Int)) rfl rfl (by omega)) (fa (f_inb (m := nextG l i x) (n := (g : Int)) ?_ rfl (by omega)) (fa (f_ieq (k := .i64) (m := vD d (nextG l i x).toNat) (n := j) rfl rfl (by rw [eqdec]; exact hq)) fz)))
          rw [hy]
          cases p <;> rfl
        have hx2 : @LXTrue ((ppNm G l n fr day x j vD N g d i).val W) ⟨31, if p then 4 else 3, [sI 30]⟩ := by
          have e0 : ((ppNm G l n fr day x j vD N g d i).val W).I (if p then 4 else 3) = nextG l i x := by
            rw [hy]
            cases p <;> rfl
          refine ⟨rfl, ?_, ?_⟩
          · show (((ppNm G l n fr day x j vD N g d i).val W).I (if p then 4 else 3)).toNat * 1 + 1 ≤ (rowD (vD d) g).length
            rw [e0]
            unfold rowD
            rw [List.length_map, List.length_range]
            omega
          · show ((rowD (vD d) g).drop ((((ppNm G l n fr day x j vD N g d i).val W).I (if p then 4 else 3)).toNat * 1)).take 1 = [.int .i64 (vD d (nextG l i x).toNat)]
            rw [e0]
            exact rowD_at hnG
        have hnx2 : @LNXTrue ((ppNm G l n fr day x j vD N g d i).val W) ⟨30, 27, 31⟩ := by
          show (tabD vD fr N g)[(d - fr).toNat]? = some (.agg (rowD (vD d) g).toArray)
          rw [tabD_at (by omega), show fr + (((d - fr).toNat : Nat) : Int) = d by omega]
        have hpf : ∀ q', (p = false → decide (gtB l i = x) = q') → ∀ e, e ∈ (if p then [] else [⟨.ieq, sI 4, sI 24, bR q'⟩] : List TE) → @TETrue ((ppNm G l n fr day x j vD N g d i).val W) e := fun q' h => by
          cases p with
          | true => exact fz
          | false => exact fa (hB q' (h rfl)) fz
        letI : Val := (ppNm G l n fr day x j vD N g d i).val W
        rcases hc with ⟨rfl, rfl⟩ | ⟨rfl, rfl⟩
        · exact { T := fapp (fapp hbase (hpf true fun h => decide_eq_true (hpB h))) hT2, LL := fa (hl1 _ _ _) (fa (hl2 _ _ _) (fa (hl3 _ _ _) fz)), LX := fa hlx (fa hx2 fz), LNE := fa hnx2 fz, Y := fa (hO true ho) fz }
        · exact { T := fapp (fapp hbase (hpf true fun h => decide_eq_true (hpB h))) hT2, LL := fa (hl1 _ _ _) (fa (hl2 _ _ _) (fa (hl3 _ _ _) fz)), LX := fa hlx (fa hx2 fz), LNE := fa hnx2 fz, Y := fa (hO true ho) fz }
      have hpf : ∀ q', (p = false → decide (gtB l i = x) = q') → ∀ e, e ∈ (if p then [] else [⟨.ieq, sI 4, sI 24, bR q'⟩] : List TE) → @TETrue ((ppNm G l n fr day x j vD N g d i).val W) e := fun q' h => by
        cases p with
        | true => exact fz
        | false => exact fa (hB q' (h rfl)) fz
      by_cases htc : x = gtA l i ∨ x = gtB l i
      · have hpB : p = false → gtB l i = x := fun h => by
          rw [h] at hp
          rcases htc with h' | h'
          · exact absurd h'.symm (of_decide_eq_false hp)
          · exact h'.symm
        by_cases ho : odP l d i = true
        · by_cases hvj : vD d (nextG l i x).toNat = j
          · have hm := hmin d i hd1 (by omega) hlt ho htc hvj
            have eD : d = D := by omega
            have hiK := hdK eD rfl
            have eK : i = K := by omega
            have hval : @cvF ((ppNm G l n fr day x j vD N g d i).val W) (.tup [.agg [sI 26, sI 2], if p then sI 4 else sI 3]) = .tuple #[.agg #[.int .i64 D, .int .i64 (K : Nat)], .int .i64 (nextG l K x)] := by
              rw [← eD, ← eK]
              have hy : nextG l i x = if p then gtB l i else gtA l i := by
                unfold nextG
                by_cases h : gtA l i = x
                · rw [if_pos h, ← hp, decide_eq_true h]
                  rfl
                · rw [if_neg h, ← hp, decide_eq_false h]
                  rfl
              rw [hy]
              cases p <;> rfl
            exact stepH_outF (ppX p 3) [] (extra true (decide_eq_true hvj) 3 (.inr ⟨rfl, rfl⟩) ho hpB) _ (all2_all pp_found p) hval
          · exact skip 2 (by decide) (fun _ => by decide) (extra false (decide_eq_false hvj) 2 (.inl ⟨rfl, rfl⟩) ho hpB) (fun e1 e2 => hvj (by rw [e1, e2]; exact hvD))
        · have ht : @TbOK ((ppNm G l n fr day x j vD N g d i).val W) (ppX p 1) := by
            letI : Val := (ppNm G l n fr day x j vD N g d i).val W
            exact { T := fapp (fapp hbase (hpf true fun h => decide_eq_true (hpB h))) fz, LL := fa (hl1 _ _ _) fz, LX := fa hlx fz, Y := fa (hO false (Bool.eq_false_iff.2 ho)) fz }
          exact skip 1 (by decide) (fun _ => by decide) ht (fun e1 e2 => ho (by rw [e1, e2]; exact hoD))
      · have hpf0 : p = false := by
          rw [← hp]
          exact decide_eq_false fun h => htc (.inl h.symm)
        have ht : @TbOK ((ppNm G l n fr day x j vD N g d i).val W) (ppX p 0) := by
          letI : Val := (ppNm G l n fr day x j vD N g d i).val W
          exact { T := fapp (fapp hbase (hpf false fun _ => decide_eq_false fun h => htc (.inr h.symm))) fz, LL := fa (hl1 _ _ _) fz, LX := fa hlx fz }
        exact skip 0 (by decide) (fun h => by rw [hpf0] at h; cases h) ht (fun _ e2 => htc (by rw [e2]; exact htD))
    · obtain rfl : i = n := by omega
      have hdlt : d < D := by
        rcases Int.lt_or_eq_of_le hd2 with h | h
        · exact h
        · have := hdK h rfl
          omega
      have ht : @TbOK ((ppNm G l i fr day x j vD N g d i).val W) ppN := by
        letI : Val := (ppNm G l i fr day x j vD N g d i).val W
        exact { T := fa (f_lss (k := .i64) (m := (i : Int)) (n := (i : Int)) rfl rfl (decide_eq_false (by omega))) (fa (f_add1 (m := d) rfl rfl rfl (by omega) (by omega)) fz), LL := fa (hl1 _ _ _) fz }
      refine stepH_to ppN [] ht (ppS (sI 32) (sI 2)) [0, 1, 2, 3] rfl false (ppNm G l i fr day x j vD N g (d + 1) i) pp_next (fun W' => holds_all (pp_ids d (d + 1) i i W W' (sI 32) (sI 2) rfl rfl)) ⟨_, ?_, d + 1, i, by omega, by omega, fun _ h => (by cases h), Nat.le_refl _, rfl, rfl⟩
      simp only [if_true, Bool.false_eq_true, if_false]
      obtain ⟨q, hq⟩ : ∃ q, (D - (d + 1)).toNat = q := ⟨_, rfl⟩
      have hq2 : (D - d).toNat = q + 1 := by omega
      rw [hq, hq2, Nat.succ_mul]
      omega
end
end Go.Proofs.Z
