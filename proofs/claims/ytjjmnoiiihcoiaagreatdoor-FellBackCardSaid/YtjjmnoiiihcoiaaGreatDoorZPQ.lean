/- A part of the proofs that the laws of layer four answer true for every input. -/
import Derived.Test.YtjjmnoiiihcoiaaGreatDoorZPL
import Derived.Test.YtjjmnoiiihcoiaaGreatDoorZFoW
import Derived.Lib.AtoiAllCases
namespace Go.Proofs.Z
open Go Go.RowKit Go.Proofs Go.Ri Go.Shelf Go.Proofs.Z.Fa
/-! The library's Split and Atoi at any string. -/
theorem splitB_eq (l : List UInt8) (c : UInt8) : Lib.splitB (bs [c]) 0 (Lib.countB (bs l) (bs [c])) (bs l) = (spl c l).map bs ∧ Lib.countB (bs l) (bs [c]) + 1 = (spl c l).length := by
  obtain ⟨h1, h2⟩ := split_spl c l.length l (Nat.le_refl _)
  have hc : Lib.countB (bs l) (bs [c]) = Lib.count l [c] := rfl
  refine ⟨?_, by rw [hc]; exact h2⟩
  have h := Lib.splitB_data (bs [c]) 0 (Lib.countB (bs l) (bs [c])) (bs l)
  rw [hc] at h ⊢
  rw [show (bs [c]).data.toList = [c] from rfl, bs_list, h1] at h
  rw [← h, List.map_map]
  have e : (bs ∘ fun (x : ByteArray) => x.data.toList) = id := funext fun x => (bs_of x).symm
  rw [e, List.map_id]
theorem splt_q (V : Val) (l : List UInt8) (c : UInt8) (hl : l.length ≤ 100000) {x y : RV} (fx : flat x = true) (fy : flat y = true) (hx : @cvF V x = strB l) (hy : @cvF V y = strB [c]) (h9 : V.L 9 = (spl c l).map strB) : @QNTrue V ⟨fSplitS, [x, y], .slN 0 9 1, [some (.lst 9 9 true)]⟩ := by
  intro w hr vs hv
  obtain rfl : vs = [strB l, strB [c]] := by
    cases hv with
    | cons h1 h2 => cases h2 with
      | cons h2 h3 =>
        cases h3
        rw [@flat_of_nval V w x _ fx h1, @flat_of_nval V w y _ fy h2, hx, hy]
  obtain ⟨m, hm⟩ := roIn_one hr
  obtain ⟨e1, e2⟩ := splitB_eq l c
  refine (Any.strings_Split W.Xsplit (by kernel_rfl) (bs l) (bs [c]) m w (by rw [bs_size]; omega) hm (by rw [bs_size]; exact Nat.le_refl 1)).mono fun e w' ⟨he, hw⟩ => ?_
  rw [e2, e1, List.map_map] at *
  have hL : V.L 9 = (spl c l).map (Value.string ∘ bs) := h9
  have hlen : (V.L 9).length = (spl c l).length := by rw [hL, List.length_map]
  let p : EP := ⟨w.heap.size, (spl c l).length, undef⟩
  have hrow : w'.heap[w.heap.size]? = some (.cells ((spl c l).map (Value.string ∘ bs)).toArray 9 (0, 0)) := by
    rw [hw]
    show (w.heap.push _)[w.heap.size]? = _
    rw [Array.getElem?_push_size]
    rfl
  have hb : Below w.heap.size w w' := by
    rw [hw]
    exact (Below.refl _ w).alloc (Nat.le_refl _) _
  have one : ∀ {x : RO} {b : Nat} {o : RO}, at? [some x] b = some o → b = 0 ∧ o = x := fun {x b o} h => by
    cases b with
    | zero => simp [at?] at h; exact ⟨rfl, h.symm⟩
    | succ b => simp [at?] at h
  have H0 := @HInv.world V _ _ _ _ _ _ _ (@HInv.start V _ _ hr) hb
  have i1 := @HInv.below V _ _ _ _ _ _ H0
  have i2 := @HInv.lb V _ _ _ _ _ _ H0
  have i4 := @HInv.ro V _ _ _ _ _ _ H0
  refine ⟨_, [p], he, ⟨p, (spl c l).length, rfl, Nat.succ_pos 0, by rw [hlen, Nat.mul_one], by rw [Nat.div_one]; exact Nat.le_refl _, ?_⟩, @HInv.mk V ro w.heap.size w [p] _ w' i1 i2 rfl i4 (fun b o hb => ?_) (fun b b' o o' p p' hb hb' _ _ _ _ _ => by rw [(one hb).1, (one hb').1]) (fun b o p hb hn => ?_)⟩
  · show _ = Value.slice _ _ ((spl c l).length / 1)
    rw [Nat.div_one]
  · obtain ⟨rfl, rfl⟩ := one hb
    refine ⟨p, rfl, Nat.le_refl _, ((spl c l).map (Value.string ∘ bs)).toArray, (0, 0), hrow, ?_, ?_, fun _ => rfl⟩
    · rw [List.size_toArray, List.length_map]
    · rw [hL]
      exact List.take_of_length_le (Nat.le_refl _)
  · rw [(one hb).2] at hn
    cases hn
/-- The number that Atoi answers, beside an error too. -/
def atoiV (l : List UInt8) : Int := match Lib.atoiAll l with | .ok n => n | .range => Lib.atoiSat l | _ => 0
abbrev tNumErr : TypeId := 173
def atoiBad (l : List UInt8) : Bool := match Lib.atoiAll l with | .ok _ => false | _ => true
theorem atoi_bad (V : Val) {l : List UInt8} (hl : l.length ≤ 100000) (hb : atoiBad l = true) {x y : RV} (fx : flat x = true) (hx : @cvF V x = strB l) (fy : flat0 y = true) (hy : @cv V y = .int .i64 (atoiV l)) : @QNTrue V ⟨fAtoi, [x], .tup [y, .ifc 0 tNumErr], [none]⟩ := by
  intro w hr vs hv
  obtain rfl : vs = [strB l] := by
    cases hv with
    | cons h1 h2 => cases h2; rw [@flat_of_nval V w x _ fx h1, hx]
  have fin : ∀ (e : Ending) (w' : World), (∃ N, e = .returned (.tuple #[.int .i64 (atoiV l), .iface tNumErr (.pointer (some ⟨N, 0, none⟩))]) ∧ Below w.heap.size w w') → ∃ v E', e = .returned v ∧ @VRel V E' (.tup [y, .ifc 0 tNumErr]) v ∧ @HInv V ro w.heap.size w E' [none] w' := fun e w' ⟨N, he, hbw⟩ => by
    have H0 := @HInv.world V _ _ _ _ _ _ _ (@HInv.start V _ _ hr) hbw
    have i1 := @HInv.below V _ _ _ _ _ _ H0
    have i2 := @HInv.lb V _ _ _ _ _ _ H0
    have i4 := @HInv.ro V _ _ _ _ _ _ H0
    have no : ∀ {b : Nat} {o : RO}, at? [none] b = some o → False := fun {b o} h => by
      cases b with
      | zero => simp [at?] at h
      | succ b => simp [at?] at h
    refine ⟨_, [⟨N, 0, undef⟩], he, ⟨#[.int .i64 (atoiV l), .iface tNumErr (.pointer (some ⟨N, 0, none⟩))], rfl, ?_⟩, @HInv.mk V ro w.heap.size w [⟨N, 0, undef⟩] _ w' i1 i2 rfl i4 (fun b o hb => (no hb).elim) (fun b b' o o' p p' hb => (no hb).elim) (fun b o p hb => (no hb).elim)⟩
    refine VRels_iff.2 (.cons ?_ (.cons ⟨⟨N, 0, undef⟩, rfl, rfl⟩ .nil))
    rw [← hy]
    exact @rel_cv V _ y fy
  have hsz : (bs l).size ≤ 281474976710656 := by rw [bs_size]; omega
  unfold atoiBad at hb
  cases h : Lib.atoiAll l
  · rw [h] at hb; cases hb
  · obtain ⟨ev, h1, h2⟩ := roIn_if hr (k := 3) rfl
    refine (Any.strconv_Atoi_syntax W.Xatoi (bs l) hsz (by rw [bs_list]; exact h) ev w h1 h2).mono fun e w' ⟨N, he, _, _, hbw⟩ => fin e w' ⟨N, ?_, hbw⟩
    rw [he]
    unfold atoiV
    rw [h]
    rfl
  · obtain ⟨ev, h1, h2⟩ := roIn_if hr (k := 4) rfl
    refine (Any.strconv_Atoi_range W.Xatoi (bs l) hsz (by rw [bs_list]; exact h) ev w h1 h2).mono fun e w' ⟨N, he, _, _, hbw⟩ => fin e w' ⟨N, ?_, hbw⟩
    rw [he]
    unfold atoiV
    rw [h, bs_list]
    rfl
theorem atoi_good {l : List UInt8} (hl : l.length ≤ 100000) (hb : atoiBad l = false) : Ans fAtoi [strB l] (.tuple #[.int .i64 (atoiV l), .nilIface]) ∧ Ans fItoa [.int .i64 (atoiV l)] (strB (Lib.itoa (atoiV l))) := by
  unfold atoiBad at hb
  unfold atoiV
  cases h : Lib.atoiAll l
  · rename_i n
    have := Lib.atoiAll_bounds h
    exact ⟨atoi_ans (bs l) n (by rw [bs_size]; omega) (by rw [bs_list]; exact h), itoa_ans n this.1 this.2⟩
  · rw [h] at hb; cases hb
  · rw [h] at hb; cases hb
theorem numC_eq (l : List UInt8) : numC l = if atoiBad l = true then none else if Lib.itoa (atoiV l) = l then some (atoiV l) else none := by
  unfold numC atoiBad atoiV
  cases Lib.atoiAll l
  · simp
  · rfl
  · rfl
end Go.Proofs.Z

namespace Go.Proofs.Z
open Go Go.RowKit Go.Proofs Go.Ri Go.Proofs.Z.Fa
/-! The program's numbersAfter: runs. Strings: 30 the line, 40 to 44 its words, 61 to 64 the numbers as they are written. -/
abbrev fNA : Nat := 124
noncomputable def naW (k : Nat) : QE := ⟨fSplitS, [sS 30, lB [32]], if Nat.beq k 0 then .slN 0 31 1 else .sl 0 0 k 1 none, if Nat.beq k 0 then [some (.lst 31 9 true)] else if Nat.beq k 2 then [some (.cells [sS 40, sS 41] 9 true false)] else [some (.cells [sS 40, sS 41, sS 42, sS 43, sS 44] 9 true false)]⟩
def naD (g : Bool) : List RV := [if g then lB wGate else lB wFell, sS 30, if g then lI 4 else lI 1]
def naN (g : Bool) : Nat := if g then 4 else 1
noncomputable def naT0 (g : Bool) : Tb := { T := [⟨.ieq, sI 41, lI (if g then 5 else 2), bR false⟩], LL := [⟨31, 1, sI 41⟩], U := qnU [naW 0] }
noncomputable def naT1 (g : Bool) : Tb := { T := [⟨.seq, sS 40, if g then lB wGate else lB wFell, bR false⟩], U := qnU [naW (if g then 5 else 2)] }
noncomputable def naY : Nat → List YE := fun n => Nat.rec (motive := fun _ => List YE) [] (fun p ih => ih ++ [⟨fAtoi, [sS (41 + p)], .tup [sI (20 + p), .pl .nilIface]⟩, ⟨fItoa, [sI (20 + p)], sS (61 + p)⟩]) n
noncomputable def naQ : Nat → List TE := fun n => Nat.rec (motive := fun _ => List TE) [] (fun p ih => ih ++ [⟨.seq, sS (61 + p), sS (41 + p), bR true⟩]) n
noncomputable def naA (g : Bool) (p : Nat) : Tb := { T := ⟨.seq, sS 40, if g then lB wGate else lB wFell, bR true⟩ :: naQ p, Y := naY p, U := qnU [naW (if g then 5 else 2), ⟨fAtoi, [sS (41 + p)], .tup [sI (20 + p), .ifc 0 tNumErr], [none]⟩] }
noncomputable def naB (g : Bool) (p : Nat) : Tb := { T := ⟨.seq, sS 40, if g then lB wGate else lB wFell, bR true⟩ :: (naQ p ++ [⟨.seq, sS (61 + p), sS (41 + p), bR false⟩]), Y := naY (p + 1), U := qnU [naW (if g then 5 else 2)] }
noncomputable def naG (g : Bool) : Tb := { T := ⟨.seq, sS 40, if g then lB wGate else lB wFell, bR true⟩ :: naQ (naN g), Y := naY (naN g), U := qnU [naW (if g then 5 else 2)] }
def naNo : RV := .tup [nilR, bR false]
def naC (g : Bool) : List RV := if g then [sI 20, sI 21, sI 22, sI 23] else [sI 20]
def naYes (g : Bool) : RV := .tup [.sl 0 0 (naN g) 1 none, bR true]
set_option maxRecDepth 100000 in
theorem na_run0 : (all2 fun g => doneQ (naT0 g) [true] fNA (naD g) [] [] naNo []) = true := by kernel_rfl
set_option maxRecDepth 100000 in
theorem na_run1 : (all2 fun g => doneQ (naT1 g) [true] fNA (naD g) [] [] naNo []) = true := by kernel_rfl
set_option maxRecDepth 100000 in
theorem na_runA : (allU 4 fun p => doneQ (naA true p) [true] fNA (naD true) [] [] naNo []) = true := by kernel_rfl
set_option maxRecDepth 100000 in
theorem na_runB : (allU 4 fun p => doneQ (naB true p) [true] fNA (naD true) [] [] naNo []) = true := by kernel_rfl
set_option maxRecDepth 100000 in
theorem na_runA0 : doneQ (naA false 0) [true] fNA (naD false) [] [] naNo [] = true := by kernel_rfl
set_option maxRecDepth 100000 in
theorem na_runB0 : doneQ (naB false 0) [true] fNA (naD false) [] [] naNo [] = true := by kernel_rfl
def naIds (g : Bool) : List SE := if g then [.int 20 (sI 20), .int 21 (sI 21), .int 22 (sI 22), .int 23 (sI 23)] else [.int 20 (sI 20)]
set_option maxRecDepth 100000 in
theorem na_yes : (all2 fun g => doneQ (naG g) [true] fNA (naD g) (naIds g) [if g then 8 else 2] (naYes g) [some (.cells (naC g) tInt true false)]) = true := by kernel_rfl
end Go.Proofs.Z

namespace Go.Proofs.Z
open Go Go.RowKit Go.Proofs Go.Ri Go.Proofs.Z.Fa
/-! The program's numbersAfter: its contract. -/
def naNm (line : List UInt8) (ws : List (List UInt8)) : Nm := ⟨fun j => if j = 41 then (ws.length : Nat) else atoiV (ws.getD (j - 19) []), ny, fun j => bs (if j = 30 then line else if j < 50 then ws.getD (j - 40) [] else Lib.itoa (atoiV (ws.getD (j - 60) []))), fun _ => ws.map strB⟩
theorem na_words (V : Val) {line : List UInt8} {ws : List (List UInt8)} (h30 : V.S 30 = bs line) (hws : spl 32 line = ws) (hl : line.length ≤ 100000) (h31 : V.L 31 = ws.map strB) (h40 : ∀ j, j < 5 → V.S (40 + j) = bs (ws.getD j [])) (k : Nat) (hk : k = 0 ∨ ((k = 2 ∨ k = 5) ∧ ws.length = k)) : @QNTrue V (naW k) := by
  let V1 : Val := (⟨fun _ => 0, ny, fun _ => bs line, fun _ => ws.map strB⟩ : Nm).val fun _ => undef
  have conv : ∀ w vs, All2 (@Go.Ri.NVal V w) [sS 30, lB [32]] vs → All2 (@Go.Ri.NVal V1 w) [sS 30, lB [32]] vs := fun w vs hv => by
    cases hv with
    | cons h1 h2 => cases h2 with
      | cons h2 h3 =>
        cases h3
        exact .cons (nval_re (V := V) (V' := V1) (x := sS 30) (y := sS 30) (v := strB line) rfl rfl (congrArg Value.string h30) rfl h1) (.cons (nval_re (V := V) (V' := V1) (x := lB [32]) (y := lB [32]) (v := strB [32]) rfl rfl rfl rfl h2) .nil)
  have q := splt_q V1 line 32 hl (x := sS 30) (y := lB [32]) rfl rfl rfl rfl (by rw [hws]; exact rfl)
  rcases hk with rfl | ⟨rfl | rfl, hlen⟩
  · exact fun w hr vs hv => (q w hr vs (conv w vs hv)).mono fun x w' ⟨u, E', he, hu, H⟩ => by
      have qq := mtQ_ok (V := V1) (V' := V) (S := [.lst 31 9]) (R := [0]) (r := .slN 0 9 1) (r0 := .slN 0 31 1) (h' := [some (.lst 9 tStr true)]) (h0 := [some (.lst 31 tStr true)]) (by kernel_rfl) rfl (holds_all (fa h31 fz)) hu H
      exact ⟨u, _, he, qq.1, qq.2⟩
  · exact fun w hr vs hv => (q w hr vs (conv w vs hv)).mono fun x w' ⟨u, E', he, hu, H⟩ => by
      obtain ⟨a, b, rfl⟩ := len2 hlen
      have qq := q_cells (V := V) (V' := V1) (cs := [sS 40, sS 41]) (by
        show [strB a, strB b] = [.string (V.S 40), .string (V.S 41)]
        rw [h40 0 (by decide), h40 1 (by decide)]
        rfl) rfl hu H
      exact ⟨u, _, he, qq.1, qq.2⟩
  · exact fun w hr vs hv => (q w hr vs (conv w vs hv)).mono fun x w' ⟨u, E', he, hu, H⟩ => by
      obtain ⟨a, b, c, d, e, rfl⟩ := len5 hlen
      have qq := q_cells (V := V) (V' := V1) (cs := [sS 40, sS 41, sS 42, sS 43, sS 44]) (by
        show [strB a, strB b, strB c, strB d, strB e] = [.string (V.S 40), .string (V.S 41), .string (V.S 42), .string (V.S 43), .string (V.S 44)]
        rw [h40 0 (by decide), h40 1 (by decide), h40 2 (by decide), h40 3 (by decide), h40 4 (by decide)]
        rfl) rfl hu H
      exact ⟨u, _, he, qq.1, qq.2⟩
theorem first_not {P : Nat → Prop} : ∀ n, (∀ p, p < n → P p) ∨ ∃ p, p < n ∧ ¬ P p ∧ ∀ q, q < p → P q
  | 0 => .inl fun p h => absurd h (Nat.not_lt_zero _)
  | n + 1 => by
    rcases first_not (P := P) n with h | ⟨p, h1, h2, h3⟩
    · by_cases hn : P n
      · refine .inl fun p hp => ?_
        rcases Nat.lt_or_ge p n with h' | h'
        · exact h p h'
        · rw [show p = n by omega]
          exact hn
      · exact .inr ⟨n, Nat.lt_succ_self n, hn, h⟩
    · exact .inr ⟨p, by omega, h2, h3⟩
section
variable {line : List UInt8} {ws : List (List UInt8)}
theorem na_S (W : Nat → Value) {p : Nat} (hp : p < 4) : ((naNm line ws).val W).S (41 + p) = bs (ws.getD (p + 1) []) ∧ ((naNm line ws).val W).I (20 + p) = atoiV (ws.getD (p + 1) []) ∧ ((naNm line ws).val W).S (61 + p) = bs (Lib.itoa (atoiV (ws.getD (p + 1) []))) := by
  refine ⟨?_, ?_, ?_⟩
  · show bs (if 41 + p = 30 then line else if 41 + p < 50 then ws.getD (41 + p - 40) [] else _) = _
    rw [if_neg (by omega), if_pos (by omega), show 41 + p - 40 = p + 1 by omega]
  · show (if 20 + p = 41 then _ else atoiV (ws.getD (20 + p - 19) [])) = _
    rw [if_neg (by omega), show 20 + p - 19 = p + 1 by omega]
  · show bs (if 61 + p = 30 then line else if 61 + p < 50 then _ else Lib.itoa (atoiV (ws.getD (61 + p - 60) []))) = _
    rw [if_neg (by omega), if_neg (by omega), show 61 + p - 60 = p + 1 by omega]
theorem naY_ok (W : Nat → Value) (hl : ∀ j, (ws.getD j []).length ≤ 100000) : ∀ n, n ≤ 4 → (∀ p, p < n → atoiBad (ws.getD (p + 1) []) = false) → ∀ e, e ∈ naY n → Ans e.f (e.a.map (@cvF ((naNm line ws).val W))) (@cvF ((naNm line ws).val W) e.r)
  | 0, _, _ => fz
  | n + 1, hn, h => by
    refine fapp (naY_ok W hl n (by omega) fun p hp => h p (by omega)) (fa ?_ (fa ?_ fz))
    · obtain ⟨h1, h2, _⟩ := na_S (line := line) (ws := ws) W (show n < 4 by omega)
      show Ans fAtoi [.string (((naNm line ws).val W).S (41 + n))] (.tuple #[.int .i64 (((naNm line ws).val W).I (20 + n)), .nilIface])
      rw [h1, h2]
      exact (atoi_good (hl _) (h n (Nat.lt_succ_self n))).1
    · obtain ⟨_, h2, h3⟩ := na_S (line := line) (ws := ws) W (show n < 4 by omega)
      show Ans fItoa [.int .i64 (((naNm line ws).val W).I (20 + n))] (.string (((naNm line ws).val W).S (61 + n)))
      rw [h2, h3]
      exact (atoi_good (hl _) (h n (Nat.lt_succ_self n))).2
theorem na_seq (W : Nat → Value) {p : Nat} (hp : p < 4) {q : Bool} (h : decide (Lib.itoa (atoiV (ws.getD (p + 1) [])) = ws.getD (p + 1) []) = q) : @TETrue ((naNm line ws).val W) ⟨.seq, sS (61 + p), sS (41 + p), bR q⟩ := by
  obtain ⟨h1, _, h3⟩ := na_S (line := line) (ws := ws) W hp
  letI : Val := (naNm line ws).val W
  exact f_seq (x := Lib.itoa (atoiV (ws.getD (p + 1) []))) (y := ws.getD (p + 1) []) (congrArg Value.string h3) (congrArg Value.string h1) h
theorem naQ_ok (W : Nat → Value) : ∀ n, n ≤ 4 → (∀ p, p < n → Lib.itoa (atoiV (ws.getD (p + 1) [])) = ws.getD (p + 1) []) → ∀ e, e ∈ naQ n → @TETrue ((naNm line ws).val W) e
  | 0, _, _ => fz
  | n + 1, hn, h => fapp (naQ_ok W n (by omega) fun p hp => h p (by omega)) (fa (na_seq W (by omega) (decide_eq_true (h n (Nat.lt_succ_self n)))) fz)
theorem numC_some {l : List UInt8} (h : numC l ≠ none) : atoiBad l = false ∧ Lib.itoa (atoiV l) = l ∧ numC l = some (atoiV l) := by
  have e := numC_eq l
  cases hb : atoiBad l with
  | true =>
    rw [hb, if_pos rfl] at e
    exact absurd e h
  | false =>
    rw [hb, if_neg (by decide)] at e
    by_cases hi : Lib.itoa (atoiV l) = l
    · rw [if_pos hi] at e
      exact ⟨rfl, hi, e⟩
    · rw [if_neg hi] at e
      exact absurd e h
theorem numC_not {l : List UInt8} (h : numC l = none) (hb : atoiBad l = false) : Lib.itoa (atoiV l) ≠ l := fun hi => by
  rw [numC_eq, hb, if_neg (by decide), if_pos hi] at h
  cases h
def wordG (g : Bool) : List UInt8 := if g then wGate else wFell
theorem na_cases (V : Val) (h30 : V.S 30 = bs line) (hws : spl 32 line = ws) (hl : line.length ≤ 100000) (g : Bool) :
    (¬ (ws.length = naN g + 1 ∧ ws.getD 0 [] = wordG g ∧ ∀ p, p < naN g → numC (ws.getD (p + 1) []) ≠ none) → @AnsN V fNA (naD g) (.tuple #[.slice none 0 0, .bool false])) ∧
    (ws.length = naN g + 1 → ws.getD 0 [] = wordG g → (∀ p, p < naN g → numC (ws.getD (p + 1) []) ≠ none) → (∀ p, p < naN g → V.I (20 + p) = atoiV (ws.getD (p + 1) [])) → @QNTrue V ⟨fNA, naD g, naYes g, [some (.cells (naC g) tInt true false)]⟩) := by
  let V1 : Val := (naNm line ws).val fun _ => undef
  have hg4 : naN g ≤ 4 := by cases g <;> decide
  have conv : ∀ w vs, All2 (@Go.Ri.NVal V w) (naD g) vs → All2 (@Go.Ri.NVal V1 w) (naD g) vs := fun w vs hv => by
    have c1 : ∀ x : RV, x = lB wGate ∨ x = lB wFell ∨ x = lI 4 ∨ x = lI 1 → ∀ u, @Go.Ri.NVal V w x u → @Go.Ri.NVal V1 w x u := fun x hx u h => by
      rcases hx with rfl | rfl | rfl | rfl <;> exact h
    cases hv with
    | cons h1 h2 => cases h2 with
      | cons h2 h3 => cases h3 with
        | cons h3 h4 =>
          cases h4
          refine .cons (c1 _ ?_ _ h1) (.cons (nval_re (V := V) (V' := V1) (x := sS 30) (y := sS 30) (v := strB line) rfl rfl (congrArg Value.string h30) rfl h2) (.cons (c1 _ ?_ _ h3) .nil))
          · cases g
            · exact .inr (.inl rfl)
            · exact .inl rfl
          · cases g
            · exact .inr (.inr (.inr rfl))
            · exact .inr (.inr (.inl rfl))
  have hlw : ∀ j, (ws.getD j []).length ≤ 100000 := fun j => by
    rcases Nat.lt_or_ge j ws.length with h | h
    · rw [List.getD_eq_getElem?_getD, List.getElem?_eq_getElem h]
      have := (spl_wlen 32 _ line (Nat.le_refl _)).1 ws[j] (by rw [hws]; exact List.getElem_mem h)
      show (ws[j]).length ≤ _
      omega
    · rw [List.getD_eq_getElem?_getD, List.getElem?_eq_none h]
      exact Nat.zero_le _
  have hU : ∀ k, k = 0 ∨ ((k = 2 ∨ k = 5) ∧ ws.length = k) → @QNTrue V1 (naW k) := fun k hk => na_words V1 rfl hws hl rfl (fun j hj => by
    show bs (if 40 + j = 30 then line else if 40 + j < 50 then ws.getD (40 + j - 40) [] else _) = _
    rw [if_neg (by omega), if_pos (by omega), Nat.add_sub_cancel_left]) k hk
  have hUg : ws.length = naN g + 1 → @QNTrue V1 (naW (if g then 5 else 2)) := fun h => by
    cases g
    · exact hU 2 (.inr ⟨.inl rfl, h⟩)
    · exact hU 5 (.inr ⟨.inr rfl, h⟩)
  have hseq : ∀ q, decide (ws.getD 0 [] = wordG g) = q → @TETrue V1 ⟨.seq, sS 40, if g then lB wGate else lB wFell, bR q⟩ := fun q h => by
    letI := V1
    refine f_seq (x := ws.getD 0 []) (y := wordG g) rfl ?_ h
    cases g <;> rfl
  have flat_no : ∀ {t : Tb} (ht : @TbOK V1 t), doneQ t [true] fNA (naD g) [] [] naNo [] = true → @AnsN V fNA (naD g) (.tuple #[.slice none 0 0, .bool false]) := fun ht hq w hr vs hv => done_flat V1 ht hq rfl rfl rfl w hr vs (conv w vs hv)
  refine ⟨fun hno => ?_, fun hlen hw hall hI => ?_⟩
  · by_cases hlen : ws.length = naN g + 1
    · by_cases hw : ws.getD 0 [] = wordG g
      · rcases first_not (P := fun p => numC (ws.getD (p + 1) []) ≠ none) (naN g) with h | ⟨p, hp, hbad, hgood⟩
        · exact absurd ⟨hlen, hw, h⟩ hno
        · have hnum : numC (ws.getD (p + 1) []) = none := by
            cases hc : numC (ws.getD (p + 1) []) with
            | none => rfl
            | some v => exact absurd (by rw [hc]; simp) hbad
          have hp4 : p < 4 := by omega
          have hQ := naQ_ok (line := line) (ws := ws) (fun _ => undef) p (by omega) fun q hq => (numC_some (hgood q hq)).2.1
          cases hb : atoiBad (ws.getD (p + 1) []) with
          | true =>
            obtain ⟨s1, s2, _⟩ := na_S (line := line) (ws := ws) (fun _ => undef) hp4
            have hA : @QNTrue V1 ⟨fAtoi, [sS (41 + p)], .tup [sI (20 + p), .ifc 0 tNumErr], [none]⟩ := atoi_bad V1 (hlw _) hb rfl (congrArg Value.string s1) rfl (congrArg (Value.int .i64) s2)
            have hY := naY_ok (line := line) (ws := ws) (fun _ => undef) hlw p (by omega) fun q hq => (numC_some (hgood q hq)).1
            have ht : @TbOK V1 (naA g p) := by
              letI := V1
              exact { T := fa (hseq true (decide_eq_true hw)) hQ, Y := hY, U := qnU_ok _ (fa (hUg hlen) (fa hA fz)) }
            cases g with
            | true => exact flat_no ht (allU_lt na_runA p hp)
            | false =>
              obtain rfl : p = 0 := by
                have : p < 1 := hp
                omega
              exact flat_no ht na_runA0
          | false =>
            have hY := naY_ok (line := line) (ws := ws) (fun _ => undef) hlw (p + 1) (by omega) fun q hq => by
              rcases Nat.lt_or_ge q p with h' | h'
              · exact (numC_some (hgood q h')).1
              · rw [show q = p by omega]
                exact hb
            have ht : @TbOK V1 (naB g p) := by
              letI := V1
              exact { T := fa (hseq true (decide_eq_true hw)) (fapp hQ (fa (na_seq (fun _ => undef) hp4 (decide_eq_false (numC_not hnum hb))) fz)), Y := hY, U := qnU_ok _ (fa (hUg hlen) fz) }
            cases g with
            | true => exact flat_no ht (allU_lt na_runB p hp)
            | false =>
              obtain rfl : p = 0 := by
                have : p < 1 := hp
                omega
              exact flat_no ht na_runB0
      · have ht : @TbOK V1 (naT1 g) := by
          letI := V1
          exact { T := fa (hseq false (decide_eq_false hw)) fz, U := qnU_ok _ (fa (hUg hlen) fz) }
        exact flat_no ht (all2_all na_run1 g)
    · have ht : @TbOK V1 (naT0 g) := by
        letI := V1
        refine { T := fa ?_ fz, LL := fa ⟨rfl, ws.length, Nat.succ_pos 0, by rw [Nat.mul_one]; exact List.length_map _, rfl⟩ fz, U := qnU_ok _ (fa (hU 0 (.inl rfl)) fz) }
        refine f_ieq (k := .i64) (m := (ws.length : Int)) (n := (naN g : Int) + 1) rfl ?_ (by rw [eqdec]; exact decide_eq_false (by omega))
        cases g <;> rfl
      exact flat_no ht (all2_all na_run0 g)
  · have ht : @TbOK V1 (naG g) := by
      letI := V1
      exact { T := fa (hseq true (decide_eq_true hw)) (naQ_ok (line := line) (ws := ws) (fun _ => undef) (naN g) hg4 fun q hq => (numC_some (hall q hq)).2.1), Y := naY_ok (line := line) (ws := ws) (fun _ => undef) hlw (naN g) hg4 fun q hq => (numC_some (hall q hq)).1, U := qnU_ok _ (fa (hUg hlen) fz) }
    intro w hr vs hv
    have hid : ∀ e, e ∈ naIds g → okSE V1 V e := by
      cases g
      · exact fa ⟨.i64, _, rfl, hI 0 (by decide)⟩ fz
      · exact fa ⟨.i64, _, rfl, hI 0 (by decide)⟩ (fa ⟨.i64, _, rfl, hI 1 (by decide)⟩ (fa ⟨.i64, _, rfl, hI 2 (by decide)⟩ (fa ⟨.i64, _, rfl, hI 3 (by decide)⟩ fz)))
    exact done_calls V1 V ht (all2_all na_yes g) (by cases g <;> rfl) (holds_all hid) w hr vs (conv w vs hv)
/-- A fell's line. -/
theorem na_fell (V : Val) (h30 : V.S 30 = bs line) (hl : line.length ≤ 100000) : (fw line = none → @AnsN V fNA (naD false) (.tuple #[.slice none 0 0, .bool false])) ∧ (∀ v, fw line = some v → V.I 20 = v → @QNTrue V ⟨fNA, naD false, naYes false, [some (.cells (naC false) tInt true false)]⟩) := by
  obtain ⟨h1, h2⟩ := na_cases V h30 rfl hl false
  refine ⟨fun h => h1 fun ⟨g1, g2, g3⟩ => ?_, fun v h hv => ?_⟩
  · obtain ⟨a, b, e⟩ := len2 g1
    rw [e] at g2 g3
    have g2 : a = wFell := g2
    rw [fw_two e, if_pos g2] at h
    exact g3 0 (by decide) h
  · have h2' : (spl 32 line).length = 2 := by
      by_cases hh : (spl 32 line).length = 2
      · exact hh
      · rw [fw_none hh] at h
        cases h
    obtain ⟨a, b, e⟩ := len2 h2'
    rw [fw_two e] at h
    by_cases ha : a = wFell
    · rw [if_pos ha] at h
      have hb := numC_some (l := b) (by rw [h]; simp)
      rw [hb.2.2] at h
      refine h2 h2' (by rw [e]; exact ha) (fun p hp => ?_) fun p hp => ?_
      · obtain rfl : p = 0 := by
          have : p < 1 := hp
          omega
        rw [e]
        show numC b ≠ none
        rw [hb.2.2]
        simp
      · obtain rfl : p = 0 := by
          have : p < 1 := hp
          omega
        rw [e]
        show V.I 20 = atoiV b
        rw [hv]
        exact (Option.some.inj h).symm
    · rw [if_neg ha] at h
      cases h
/-- A gate's line. -/
theorem na_gate (V : Val) (h30 : V.S 30 = bs line) (hl : line.length ≤ 100000) : (gw line = none → @AnsN V fNA (naD true) (.tuple #[.slice none 0 0, .bool false])) ∧ (∀ p q r s, gw line = some [iZ p, iZ q, iZ r, iZ s] → V.I 20 = p → V.I 21 = q → V.I 22 = r → V.I 23 = s → @QNTrue V ⟨fNA, naD true, naYes true, [some (.cells (naC true) tInt true false)]⟩) := by
  obtain ⟨h1, h2⟩ := na_cases V h30 rfl hl true
  have four : ∀ p, p < 4 → p = 0 ∨ p = 1 ∨ p = 2 ∨ p = 3 := fun p hp => by omega
  refine ⟨fun h => h1 fun ⟨g1, g2, g3⟩ => ?_, fun p q r s h hp hq hr hs => ?_⟩
  · obtain ⟨a, b, c, d, x, e⟩ := len5 g1
    rw [e] at g2 g3
    have g2 : a = wGate := g2
    have k1 := (numC_some (g3 0 (by decide))).2.2
    have k2 := (numC_some (g3 1 (by decide))).2.2
    have k3 := (numC_some (g3 2 (by decide))).2.2
    have k4 := (numC_some (g3 3 (by decide))).2.2
    have k1 : numC b = some (atoiV b) := k1
    have k2 : numC c = some (atoiV c) := k2
    have k3 : numC d = some (atoiV d) := k3
    have k4 : numC x = some (atoiV x) := k4
    rw [gw_five e, if_pos g2, k1, k2, k3, k4] at h
    cases h
  · have h5 := gw_len h
    obtain ⟨a, b, c, d, x, e⟩ := len5 h5
    rw [gw_five e] at h
    by_cases ha : a = wGate
    · rw [if_pos ha] at h
      split at h
      · rename_i p' q' r' s' k1 k2 k3 k4
        have e1 := numC_some (l := b) (by rw [k1]; simp)
        have e2 := numC_some (l := c) (by rw [k2]; simp)
        have e3 := numC_some (l := d) (by rw [k3]; simp)
        have e4 := numC_some (l := x) (by rw [k4]; simp)
        have i1 : p' = atoiV b := by rw [e1.2.2] at k1; exact (Option.some.inj k1).symm
        have i2 : q' = atoiV c := by rw [e2.2.2] at k2; exact (Option.some.inj k2).symm
        have i3 : r' = atoiV d := by rw [e3.2.2] at k3; exact (Option.some.inj k3).symm
        have i4 : s' = atoiV x := by rw [e4.2.2] at k4; exact (Option.some.inj k4).symm
        simp only [iZ, Option.some.injEq, List.cons.injEq, Value.int.injEq, true_and, and_true] at h
        obtain ⟨j1, j2, j3, j4⟩ := h
        refine h2 h5 (by rw [e]; exact ha) (fun t ht => ?_) fun t ht => ?_
        · rw [e]
          rcases four t ht with rfl | rfl | rfl | rfl
          · show numC b ≠ none
            rw [k1]; simp
          · show numC c ≠ none
            rw [k2]; simp
          · show numC d ≠ none
            rw [k3]; simp
          · show numC x ≠ none
            rw [k4]; simp
        · rw [e]
          rcases four t ht with rfl | rfl | rfl | rfl
          · show V.I 20 = atoiV b
            rw [hp, ← j1, i1]
          · show V.I 21 = atoiV c
            rw [hq, ← j2, i2]
          · show V.I 22 = atoiV d
            rw [hr, ← j3, i3]
          · show V.I 23 = atoiV x
            rw [hs, ← j4, i4]
      · cases h
    · rw [if_neg ha] at h
      cases h
end
end Go.Proofs.Z
