/- A part of the proofs that the laws of layer one answer true for every input. -/
import Derived.Test.YtedbdpaioikhgaaGreatDoorZLoop2
import Derived.Test.YtedbdpaioikhgaaGreatDoorZIn0
import Derived.Test.YtedbdpaioikhgaaGreatDoorZCmp3
import Derived.Test.YtedbdpaioikhgaaGreatDoorZHook
namespace Go.Proofs.Z
open Go Go.RowKit Go.Proofs Go.Ri
/-! Calls over named lists that answer blocks of their own. -/
noncomputable def qnlook (T : List QE) (f : FuncId) (ds : List RV) : Option (RV × RH) :=
  List.rec (motive := fun _ => Option (RV × RH)) none (fun e _ ih => match Nat.beq e.f f with
    | true => match eqSL eqA e.a ds with | true => some (e.r, e.h) | false => ih
    | false => ih) T
noncomputable def qnU (T : List QE) : CallF := fun f args h =>
  match absArgs h args with
  | some ds => match qnlook T f ds with
    | some (r, h2) => match shiftableB r && h2.all shiftableO with
      | true => some (shiftB h.length r, h ++ h2.map (shiftO h.length))
      | false => none
    | none => none
  | none => none
section
variable [Val]
def QNTrue (e : QE) : Prop := ∀ w, RoIn ro w → ∀ vs, All2 (Go.Ri.NVal w) e.a vs → Calls Tryz.prog e.f vs.toArray w (fun x w' => ∃ v E', x = .returned v ∧ VRel E' e.r v ∧ HInv ro w.heap.size w E' e.h w')
theorem qnlook_mem : ∀ (T : List QE) (f : FuncId) (ds : List RV) (r : RV) (h : RH), qnlook T f ds = some (r, h) → ∃ e, e ∈ T ∧ e.f = f ∧ (∀ w vs, All2 (Go.Ri.NVal w) ds vs → All2 (Go.Ri.NVal w) e.a vs) ∧ e.r = r ∧ e.h = h
  | [], _, _, _, _, h => by cases h
  | e :: T, f, ds, r, hh, h => by
    have h : (match Nat.beq e.f f with
      | true => match eqSL eqA e.a ds with | true => some (e.r, e.h) | false => qnlook T f ds
      | false => qnlook T f ds) = some (r, hh) := h
    have go : qnlook T f ds = some (r, hh) → ∃ e', e' ∈ e :: T ∧ e'.f = f ∧ (∀ w vs, All2 (Go.Ri.NVal w) ds vs → All2 (Go.Ri.NVal w) e'.a vs) ∧ e'.r = r ∧ e'.h = hh := fun h => by
      obtain ⟨e', he, q⟩ := qnlook_mem T f ds r hh h
      exact ⟨e', List.mem_cons_of_mem _ he, q⟩
    split at h
    · rename_i h1
      split at h
      · rename_i h2
        cases h
        exact ⟨e, List.mem_cons_self, Nat.eq_of_beq_eq_true h1, fun w vs hv => eqSLA_nval h2 hv, rfl, rfl⟩
      · exact go h
    · exact go h
theorem qnU_ok (T : List QE) (hT : ∀ e, e ∈ T → QNTrue e) : UOK (qnU T) := by
  intro f args h r h' hu base w0 E w vs H ha
  unfold qnU at hu
  split at hu
  · rename_i ds hds
    split at hu
    · rename_i r0 h2 hq
      split at hu
      · rename_i hsh
        simp only [Bool.and_eq_true] at hsh
        cases hu
        obtain ⟨e, he, rfl, hcv, rfl, rfl⟩ := qnlook_mem T f ds _ _ hq
        refine (hT e he w H.roIn vs (hcv w vs (absArgs_nval H hds ha))).mono fun x w' ⟨u, E', hx, hv, H'⟩ => ?_
        refine ⟨u, E ++ E', hx, List.prefix_append _ _, ?_, H.join H' hsh.2⟩
        rw [H.len]
        exact shiftB_rel hsh.1 hv
      · cases hu
    · cases hu
  · cases hu
end
/-! The same, where a slice of known cells goes by a name. -/
noncomputable def nameOf (D : List (Nat × List RV)) (l : List RV) : Option Nat :=
  List.rec (motive := fun _ => Option Nat) none (fun d _ ih => match eqSs d.2 l with | true => some d.1 | false => ih) D
noncomputable def absArgD (D : List (Nat × List RV)) (h : RH) (r : RV) : Option RV :=
  match r with
  | .sl b 0 n s none => match lkp h b with
    | some (.cells l _ _ _) => match nameOf D l, Nat.beq l.length (n * s) && Nat.blt 0 s && l.all flat0 with
      | some i, true => some (.slN 0 i s)
      | _, _ => none
    | _ => none
  | r => absArg h r
noncomputable def absArgsD (D : List (Nat × List RV)) (h : RH) (l : List RV) : Option (List RV) :=
  List.rec (motive := fun _ => Option (List RV)) (some []) (fun r _ ih => match absArgD D h r with
    | some d => match ih with | some ds => some (d :: ds) | none => none
    | none => none) l
noncomputable def qdU (D : List (Nat × List RV)) (T : List QE) : CallF := fun f args h =>
  match absArgsD D h args with
  | some ds => match qnlook T f ds with
    | some (r, h2) => match shiftableB r && h2.all shiftableO with
      | true => some (shiftB h.length r, h ++ h2.map (shiftO h.length))
      | false => none
    | none => none
  | none => none
section
variable [Val]
omit [Val] in
theorem nameOf_mem : ∀ (D : List (Nat × List RV)) (l : List RV) (i : Nat), nameOf D l = some i → (i, l) ∈ D
  | [], _, _, h => by cases h
  | d :: D, l, i, h => by
    have h : (match eqSs d.2 l with | true => some d.1 | false => nameOf D l) = some i := h
    split at h
    · rename_i he
      cases h
      rw [← eqSs_eq _ _ he]
      exact List.mem_cons_self
    · exact List.mem_cons_of_mem _ (nameOf_mem D l i h)
theorem rel_flat0s {E : Env} : ∀ {l : List RV} {vs : List Value}, l.all flat0 = true → All2 (VRel E) l vs → vs = l.map cv
  | [], _, _, h => by cases h; rfl
  | r :: l, _, hf, h => by
    simp only [List.all_cons, Bool.and_eq_true] at hf
    cases h with
    | cons h1 h2 =>
      rw [List.map_cons, rel_flat0s hf.2 h2]
      congr 1
      cases r <;> first | exact h1 | (cases hf.1; done)
theorem absArgD_nval {D : List (Nat × List RV)} (hD : ∀ d, d ∈ D → Val.L d.1 = d.2.map cv) {base : Nat} {w0 : World} {E : Env} {h : RH} {w : World} (H : HInv ro base w0 E h w) {r d : RV} {v : Value} (hd : absArgD D h r = some d) (hv : VRel E r v) : Go.Ri.NVal w d v := by
  unfold absArgD at hd
  split at hd
  · rename_i b n s
    split at hd
    · rename_i l e rm fz hl
      split at hd
      · rename_i i hi hc
        cases hd
        simp only [Bool.and_eq_true] at hc
        obtain ⟨⟨c1, c2⟩, c3⟩ := hc
        have hat : at? h b = some (.cells l e rm fz) := by rw [lkp_eq] at hl; exact hl
        obtain ⟨q, hq, _, cur, fr, k1, k2, k3, _⟩ := H.blk b _ hat
        obtain ⟨p, k, hp, hk, hn, rfl⟩ := hv
        have hpq : p = q := by
          rw [hp] at hq
          exact Option.some.inj hq
        subst hpq
        have hm := hD _ (nameOf_mem D l i hi)
        have hcs := rel_flat0s c3 k3
        have hlen := Nat.eq_of_beq_eq_true c1
        refine ⟨⟨p.1, 0, none⟩, n, k, rfl, fun _ => H.heap_ne hat hp, blt_lt c2, ?_, hn, ?_⟩
        · show (Val.L i).length = n * s
          rw [hm, List.length_map]
          exact hlen
        · intro j u hj
          rw [hm, ← hcs, List.getElem?_take] at hj
          split at hj
          · rw [add_lit, Nat.zero_add, cell_of_row w p.1 j cur e fr k1]
            simpa using hj
          · cases hj
      · cases hd
    · cases hd
  · exact absArg_nval H hd hv
theorem absArgsD_nval {D : List (Nat × List RV)} (hD : ∀ d, d ∈ D → Val.L d.1 = d.2.map cv) {base : Nat} {w0 : World} {E : Env} {hh : RH} {w : World} (H : HInv ro base w0 E hh w) : ∀ {args ds : List RV} {vs : List Value}, absArgsD D hh args = some ds → All2 (VRel E) args vs → All2 (Go.Ri.NVal w) ds vs
  | [], _, _, hd, h => by cases hd; cases h; exact .nil
  | r :: l, _, _, hd, h => by
    have hd : (match absArgD D hh r with
      | some d => match absArgsD D hh l with | some ds => some (d :: ds) | none => none
      | none => none) = some _ := hd
    split at hd
    · rename_i d hd1
      split at hd
      · rename_i ds hd2
        cases hd
        cases h with
        | cons h1 h2 => exact .cons (absArgD_nval hD H hd1 h1) (absArgsD_nval hD H hd2 h2)
      · cases hd
    · cases hd
theorem qdU_ok (D : List (Nat × List RV)) (T : List QE) (hD : ∀ d, d ∈ D → Val.L d.1 = d.2.map cv) (hT : ∀ e, e ∈ T → QNTrue e) : UOK (qdU D T) := by
  intro f args h r h' hu base w0 E w vs H ha
  unfold qdU at hu
  split at hu
  · rename_i ds hds
    split at hu
    · rename_i r0 h2 hq
      split at hu
      · rename_i hsh
        simp only [Bool.and_eq_true] at hsh
        cases hu
        obtain ⟨e, he, rfl, hcv, rfl, rfl⟩ := qnlook_mem T f ds _ _ hq
        refine (hT e he w H.roIn vs (hcv w vs (absArgsD_nval hD H hds ha))).mono fun x w' ⟨u, E', hx, hv, H'⟩ => ?_
        refine ⟨u, E ++ E', hx, List.prefix_append _ _, ?_, H.join H' hsh.2⟩
        rw [H.len]
        exact shiftB_rel hsh.1 hv
      · cases hu
    · cases hu
  · cases hu
end
end Go.Proofs.Z

namespace Go.Proofs.Z
open Go Go.RowKit Go.Proofs Go.Ri W
/-! The specification's put: runs. -/
abbrev fPut : Nat := 88
noncomputable def pTb (b : Bool) (c : Nat) : Tb := { LL := [⟨0, 12, sI 101⟩], T := [⟨.bin .lss, sI 100, sI 101, bR b⟩, ⟨.inb, sI 100, sI 101, bR b⟩, ⟨.bin .add, sI 100, lI 1, sI 106⟩], LX := if b then [⟨0, 100, e12⟩] else [], Y := if b then [⟨fRCompare, [.agg e12, .agg nbE], lI (sgn c)⟩] else [], LA := [⟨1, e12, 2⟩, ⟨1, nbE, 3⟩] }
noncomputable def pDs : List RV := [.slN 0 0 12, .agg nbE]
noncomputable def ppat (on : Bool) : St := ⟨patW [(0, .slA 0 0 12), (3, .ptr 1 0), (5, if on then nilR else .slN 2 1 12), (6, sI 100)] 47 0, [some (.lstA 0), some (.cells nbE 25 false false)] ++ if on then [] else [some (.lst 1 25 true)]⟩
noncomputable def ppat2 (_ : Unit) : St := ⟨patW [(0, .slA 0 0 12), (5, .slN 1 1 12), (6, sI 100)] 47 0, [some (.lstA 0), some (.lst 1 25 true)]⟩
noncomputable def pEnter : Tb := { LL := [⟨0, 12, sI 101⟩] }
set_option maxRecDepth 100000 in
theorem p_enter : enterT pEnter [] fPut pDs (.int 100 (lI 0) :: inIds) [0, 1] (ppat true) = true := by kernel_rfl
noncomputable def pBo : Code := hB pEnter [] fPut pDs
noncomputable def pKo : List Fr := hK pEnter [] fPut pDs
def pS1 (on : Bool) : List SE := .int 100 (sI 106) :: (if on then .new 1 e12 else .lst 1 2) :: inIds
def pR1 (on : Bool) : List Nat := [0, 1, if on then 3 else 4]
set_option maxRecDepth 100000 in
theorem p_again : (all2 fun on => againT (pTb true 0) [] pBo pKo (ppat on) (pS1 on) (pR1 on) (ppat false)) = true := by kernel_rfl
def pS2 (on : Bool) : List SE := [.int 100 (sI 100), .lst 0 0, if on then .new 1 nbE else .lst 1 3]
def pR2 (on : Bool) : List Nat := [0, if on then 3 else 4]
/-- The ways out of the first loop: behind the end, at an equal one, at a greater one. -/
noncomputable def pW (m : Nat) (on : Bool) : Option Rnd := rndT (pTb (!(Nat.beq m 0)) m) [] pBo pKo (ppat on)
set_option maxRecDepth 100000 in
theorem p_out : (all3 fun m => all2 fun on => oM (pW m on) (pS2 on) (pR2 on) (ppat2 ())) = true := by kernel_rfl
noncomputable def pTb2 (b : Bool) : Tb := { LL := [⟨0, 12, sI 101⟩], T := [⟨.bin .lss, sI 100, sI 101, bR b⟩, ⟨.inb, sI 100, sI 101, bR b⟩, ⟨.bin .add, sI 100, lI 1, sI 106⟩], LX := if b then [⟨0, 100, e12⟩] else [], LA := [⟨1, e12, 2⟩] }
set_option maxRecDepth 100000 in
theorem p2_again : (all3 fun m => all2 fun on => againT (pTb2 true) [] (oB (pW m on)) (oK (pW m on)) (ppat2 ()) [.int 100 (sI 106), .lst 0 0, .lst 1 2] [0, 3] (ppat2 ())) = true := by kernel_rfl
set_option maxRecDepth 100000 in
theorem p2_out : (all3 fun m => all2 fun on => outQ (pTb2 false) [] fPut (oB (pW m on)) (oK (pW m on)) (ppat2 ()) [.lst 0 1] [1] (.slN 0 0 12) [some (.lst 0 25 true)]) = true := by kernel_rfl
end Go.Proofs.Z

namespace Go.Proofs.Z
open Go Go.RowKit Go.Proofs Go.Ri W
/-! The specification's put: what it answers. -/
theorem cmpI_W (a b : Int) : Z.cmpI a b = W.cmpI a b := rfl
theorem lex_fd (t u : Nat → Int) : ∀ (n i : Nat) (a b : List Int), W.lexI ((List.range' i n).map t ++ a) ((List.range' i n).map u ++ b) = if fd (eqP t u) i n = i + n then W.lexI a b else W.cmpI (t (fd (eqP t u) i n)) (u (fd (eqP t u) i n))
  | 0, i, a, b => by
    rw [if_pos (show fd (eqP t u) i 0 = i + 0 from rfl)]
    rfl
  | n + 1, i, a, b => by
    have h := (fd_spec (eqP t u) n (i + 1)).2.2
    rw [List.range'_succ, List.map_cons, List.map_cons, List.cons_append, List.cons_append, W.lexI_cons]
    by_cases e : t i = u i
    · have hp : eqP t u i = true := by unfold eqP; rw [e]; simp
      have ef : fd (eqP t u) i (n + 1) = fd (eqP t u) (i + 1) n := by show (if eqP t u i then _ else _) = _; rw [if_pos hp]
      rw [if_pos ((W.cmpI_zero _ _).2 e), lex_fd t u n (i + 1) a b, ef, show i + 1 + n = i + (n + 1) by omega]
    · have hp : eqP t u i = false := by unfold eqP; simpa using e
      have ef : fd (eqP t u) i (n + 1) = i := by show (if eqP t u i then _ else _) = _; rw [hp]; rfl
      rw [if_neg (fun z => e ((W.cmpI_zero _ _).1 z)), ef, if_neg (by omega)]
theorem bit_bI (t : Nat → Int) (i : Nat) : bit (bitY t i) = W.bI (t (9 + i)) := by
  unfold bitY W.bI
  by_cases h : t (9 + i) = 0
  · rw [if_pos h, h]; rfl
  · rw [if_neg h, show (t (9 + i) == 0) = false by simpa using h]; rfl
theorem cmpE_lex (t u : Nat → Int) : cmpE t (bitY t) u (bitY u) = W.lexI (W.rk t) (W.rk u) := by
  have h := lex_fd t u 9 0 [4 * W.bI (t 9) + 2 * W.bI (t 10) + W.bI (t 11)] [4 * W.bI (u 9) + 2 * W.bI (u 10) + W.bI (u 11)]
  have e : ∀ t : Nat → Int, hc (bitY t) = 4 * W.bI (t 9) + 2 * W.bI (t 10) + W.bI (t 11) := fun t => by
    unfold hc
    rw [bit_bI, bit_bI, bit_bI]
  unfold cmpE
  rw [e, e, Nat.zero_add] at *
  rw [W.lexI_one] at h
  exact h.symm
def cR (t u : Nat → Int) : Int := cmpE t (bitY t) u (bitY u)
/-- A row put into a list of rows. -/
def insR (u : Nat → Int) : List (Nat → Int) → List (Nat → Int)
  | [] => [u]
  | t :: l => if cR t u < 0 then t :: insR u l else u :: t :: l
theorem insR_at (u : Nat → Int) : ∀ (l : List (Nat → Int)) (k : Nat), k ≤ l.length → (∀ j, j < k → ∀ h2 : j < l.length, cR l[j] u < 0) → (∀ h : k < l.length, ¬ cR l[k] u < 0) → insR u l = l.take k ++ u :: l.drop k
  | [], k, hk, _, _ => by
    obtain rfl : k = 0 := by simpa using hk
    rfl
  | t :: l, 0, _, _, h0 => by
    have h : ¬ cR t u < 0 := h0 (Nat.succ_pos _)
    show (if cR t u < 0 then _ else _) = _
    rw [if_neg h]
    rfl
  | t :: l, k + 1, hk, hl, hn => by
    have h : cR t u < 0 := hl 0 (Nat.succ_pos _) (Nat.succ_pos _)
    show (if cR t u < 0 then _ else _) = _
    rw [if_pos h, insR_at u l k (by simpa using hk) (fun j hj h2 => hl (j + 1) (by omega) (by simpa using h2)) (fun h2 => hn (by simpa using h2))]
    rfl
theorem insR_len (u : Nat → Int) : ∀ l, (insR u l).length = l.length + 1
  | [] => rfl
  | t :: l => by
    show (if cR t u < 0 then t :: insR u l else u :: t :: l).length = _
    split
    · rw [List.length_cons, insR_len u l, List.length_cons]
    · rfl
theorem ins_rows (s : Nat → Int) (q : Nat × Nat) : ∀ l, (W.ins s q l).map (stw s) = insR (stw s q) (l.map (stw s))
  | [] => rfl
  | a :: l => by
    have e : cR (stw s a) (stw s q) = W.cf s a q := cmpE_lex _ _
    show (if W.cf s a q < 0 then a :: W.ins s q l else q :: a :: l).map (stw s) = if cR (stw s a) (stw s q) < 0 then _ else _
    rw [e]
    split
    · rw [List.map_cons, ins_rows s q l]
    · rfl
theorem rowsC_app (l m : List (Nat → Int)) : rowsC (l ++ m) = rowsC l ++ rowsC m := List.flatMap_append
theorem rowsC_one (l : List (Nat → Int)) : ∀ v, v ∈ rowsC l → v.oneCell' = true := by
  intro v hv
  obtain ⟨t, _, ht⟩ := List.mem_flatMap.1 hv
  exact earC_one t v ht
theorem rowsC_single (t : Nat → Int) : rowsC [t] = earC t := by
  show earC t ++ [] = _
  rw [List.append_nil]
/-- What the names stand for: the list, the ear, the place, what is there so far. -/
structure PutD where
  ts : List (Nat → Int)
  u : Nat → Int
  len : Nat
  l0 : List Value
def pN (z : PutD) (k : Nat) (el : Nat → Int) (l1 l2 l3 : List Value) : Nm := ⟨fun j => if j < 20 then z.u j else if j < 40 then el (j - 20) else if j = 100 then (k : Int) else if j = 101 then (z.len : Int) else (k : Int) + 1, fun j => if j < 20 then bitY z.u j else bitY el (j - 20), fun _ => ⟨#[]⟩, fun j => if j = 0 then z.l0 else if j = 1 then l1 else if j = 2 then l2 else l3⟩
structure PutOK (z : PutD) : Prop where
  len : z.ts.length = z.len
  le : z.len ≤ 1000
  l0 : z.l0 = rowsC z.ts
def elK (z : PutD) (k : Nat) : Nat → Int := z.ts.getD k fun _ => 0
/-- At the first loop's head. -/
def p1 (z : PutD) (k : Nat) : Nm := pN z k (elK z k) (rowsC (z.ts.take k)) (rowsC (z.ts.take k) ++ earC (elK z k)) (rowsC (z.ts.take k) ++ earC z.u)
/-- At the second loop's head, the put one standing at place m. -/
def p2 (z : PutD) (m k : Nat) : Nm := pN z k (elK z k) (rowsC (z.ts.take m) ++ earC z.u ++ rowsC ((z.ts.drop m).take (k - m))) (rowsC (z.ts.take m) ++ earC z.u ++ rowsC ((z.ts.drop m).take (k - m)) ++ earC (elK z k)) []
section
variable {z : PutD} (Z : PutOK z)
include Z
theorem el_row {k : Nat} (hk : k < z.len) : (z.l0.drop (k * 12)).take 12 = earC (elK z k) := by
  have hk' : k < z.ts.length := by have := Z.len; omega
  rw [Z.l0, rowsC_row z.ts k hk']
  unfold elK
  rw [List.getD_eq_getElem?_getD, List.getElem?_eq_getElem hk']
  rfl
theorem l0_len : z.l0.length = z.len * 12 := by rw [Z.l0, rowsC_len, Z.len]
theorem take_next {k : Nat} (hk : k < z.len) : rowsC (z.ts.take (k + 1)) = rowsC (z.ts.take k) ++ earC (elK z k) := by
  have hk' : k < z.ts.length := by have := Z.len; omega
  rw [List.take_add_one, List.getElem?_eq_getElem hk', rowsC_app]
  unfold elK
  rw [List.getD_eq_getElem?_getD, List.getElem?_eq_getElem hk']
  exact congrArg _ (rowsC_single _)
theorem drop_next {m k : Nat} (hm : m ≤ k) (hk : k < z.len) : rowsC ((z.ts.drop m).take (k + 1 - m)) = rowsC ((z.ts.drop m).take (k - m)) ++ earC (elK z k) := by
  have hk' : k < z.ts.length := by have := Z.len; omega
  have e : k + 1 - m = (k - m) + 1 := by omega
  rw [e, List.take_add_one, List.getElem?_drop, show m + (k - m) = k by omega, List.getElem?_eq_getElem hk', rowsC_app]
  unfold elK
  rw [List.getD_eq_getElem?_getD, List.getElem?_eq_getElem hk']
  exact congrArg _ (rowsC_single _)
theorem basic_T (N : Nm) (W1 : Nat → Value) (k : Nat) (hk : k ≤ z.len) (b : Bool) (hb : b = decide (k < z.len)) (h0 : N.I 100 = k) (h1 : N.I 101 = z.len) (h6 : N.I 106 = (k : Int) + 1) : ∀ e, e ∈ ([⟨.bin .lss, sI 100, sI 101, bR b⟩, ⟨.inb, sI 100, sI 101, bR b⟩, ⟨.bin .add, sI 100, lI 1, sI 106⟩] : List TE) → @TETrue (N.val W1) e := by
  letI : Val := N.val W1
  have hle := Z.le
  intro e he
  simp only [List.mem_cons, List.not_mem_nil, or_false] at he
  rcases he with rfl | rfl | rfl
  · refine te_lss 100 101 b ?_
    show decide (N.I 100 < N.I 101) = b
    rw [h0, h1, hb]
    simp
  · refine te_inb 100 101 b ?_
    show decide (0 ≤ N.I 100 ∧ N.I 100 < N.I 101) = b
    rw [h0, h1, hb]
    simp
  · exact te_add1 100 106 k h0 h6 (by omega) (by omega)
theorem el_LX (N : Nm) (W1 : Nat → Value) (k : Nat) (hk : k < z.len) (h0 : N.I 100 = k) (hL : N.L 0 = z.l0) (hI : ∀ j, j < 9 → N.I (20 + j) = elK z k j) (hB : ∀ j, j < 3 → N.B (20 + j) = bitY (elK z k) j) : @LXTrue (N.val W1) ⟨0, 100, e12⟩ := by
  refine ⟨rfl, ?_, ?_⟩
  · show (N.I 100).toNat * 12 + 12 ≤ (N.L 0).length
    rw [h0, hL, l0_len Z, Int.toNat_natCast]
    omega
  · show ((N.L 0).drop ((N.I 100).toNat * 12)).take 12 = [.int .i64 (N.I (20 + 0)), .int .i64 (N.I (20 + 1)), .int .i64 (N.I (20 + 2)), .int .i64 (N.I (20 + 3)), .int .i64 (N.I (20 + 4)), .int .i64 (N.I (20 + 5)), .int .i64 (N.I (20 + 6)), .int .i64 (N.I (20 + 7)), .int .i64 (N.I (20 + 8)), .bool (N.B (20 + 0)), .bool (N.B (20 + 1)), .bool (N.B (20 + 2))]
    rw [h0, hL, Int.toNat_natCast, el_row Z hk, hI 0 (by decide), hI 1 (by decide), hI 2 (by decide), hI 3 (by decide), hI 4 (by decide), hI 5 (by decide), hI 6 (by decide), hI 7 (by decide), hI 8 (by decide), hB 0 (by decide), hB 1 (by decide), hB 2 (by decide)]
    rfl
end
end Go.Proofs.Z

namespace Go.Proofs.Z
open Go Go.RowKit Go.Proofs Go.Ri W
/-! The specification's put: the contract. -/
section
variable {z : PutD} (Z : PutOK z)
theorem earC_l (t : Nat → Int) : (earC t).length = 12 := rfl
include Z
theorem take_len (k : Nat) : (rowsC (z.ts.take k)).length ≤ z.len * 12 := by
  have := Z.len
  rw [rowsC_len, List.length_take]
  exact Nat.mul_le_mul_right _ (by omega)
theorem drop_len (m k : Nat) : (rowsC ((z.ts.drop m).take k)).length ≤ z.len * 12 := by
  have := Z.len
  rw [rowsC_len, List.length_take, List.length_drop]
  exact Nat.mul_le_mul_right _ (by omega)
theorem pTb_ok (k : Nat) (hk : k ≤ z.len) (b : Bool) (hb : b = decide (k < z.len)) (c : Nat) (hc : b = true → sgn c = cR (elK z k) z.u) (W1 : Nat → Value) : @TbOK ((p1 z k).val W1) (pTb b c) := by
  letI : Val := (p1 z k).val W1
  have hl0 := l0_len Z
  have htk := take_len Z k
  have hle := Z.le
  refine { T := basic_T Z (p1 z k) W1 k hk b hb rfl rfl rfl, Y := ?_, LL := ?_, LX := ?_, LA := ?_ }
  · intro e he
    cases b with
    | false => cases he
    | true =>
      obtain rfl := List.mem_singleton.1 (show e ∈ [(⟨fRCompare, [.agg e12, .agg nbE], lI (sgn c)⟩ : YE)] from he)
      have := rcmp_ans (elK z k) z.u (bitY (elK z k)) (bitY z.u)
      rw [show cmpE (elK z k) (bitY (elK z k)) z.u (bitY z.u) = sgn c from (hc rfl).symm] at this
      exact this
  · intro e he
    obtain rfl := List.mem_singleton.1 (show e ∈ [(⟨0, 12, sI 101⟩ : LNE)] from he)
    exact ⟨rfl, z.len, by decide, hl0, rfl⟩
  · intro e he
    cases b with
    | false => cases he
    | true =>
      obtain rfl := List.mem_singleton.1 (show e ∈ [(⟨0, 100, e12⟩ : LEE)] from he)
      exact el_LX Z (p1 z k) W1 k (by simpa using hb.symm) rfl rfl (fun j hj => by
        show (if 20 + j < 20 then _ else if 20 + j < 40 then elK z k (20 + j - 20) else _) = _
        rw [if_neg (by omega), if_pos (by omega), Nat.add_sub_cancel_left]) (fun j hj => by
        show (if 20 + j < 20 then _ else bitY (elK z k) (20 + j - 20)) = _
        rw [if_neg (by omega), Nat.add_sub_cancel_left])
  · intro e he
    simp only [pTb, List.mem_cons, List.not_mem_nil, or_false] at he
    rcases he with rfl | rfl
    · refine ⟨rfl, ?_, rowsC_one _⟩
      show (rowsC (z.ts.take k) ++ earC (elK z k)).length ≤ 1000000
      rw [List.length_append, earC_l]
      omega
    · refine ⟨rfl, ?_, rowsC_one _⟩
      show (rowsC (z.ts.take k) ++ earC z.u).length ≤ 1000000
      rw [List.length_append, earC_l]
      omega
omit Z in
theorem pIds_ok (k k' : Nat) (W W' : Nat → Value) : ∀ e, e ∈ inIds → okSE ((p1 z k).val W) ((p1 z k').val W') e := by
  intro e he
  simp only [inIds, idI, idB, List.map_cons, List.map_nil, List.cons_append, List.nil_append, List.mem_cons, List.not_mem_nil, or_false] at he
  rcases he with rfl | rfl | rfl | rfl | rfl | rfl | rfl | rfl | rfl | rfl | rfl | rfl | rfl
  all_goals first | exact ⟨.i64, _, rfl, rfl⟩ | exact ⟨_, rfl, rfl⟩ | rfl
theorem pS1_ok (k : Nat) (hk : k < z.len) (W W' : Nat → Value) : Holds (pS1 (Nat.beq k 0)) ((p1 z k).val W) ((p1 z (k + 1)).val W') := holds_all fun e he => by
  simp only [pS1, List.mem_cons] at he
  have hn := take_next Z hk
  rcases he with rfl | rfl | he
  · exact ⟨.i64, (k : Int) + 1, rfl, rfl⟩
  · split
    · rename_i h
      obtain rfl := Nat.eq_of_beq_eq_true h
      show rowsC (z.ts.take (0 + 1)) = earC (elK z 0)
      rw [hn]
      rfl
    · show rowsC (z.ts.take (k + 1)) = rowsC (z.ts.take k) ++ earC (elK z k)
      exact hn
  · exact pIds_ok k (k + 1) W W' e he
omit Z in
theorem pS2_ok (k : Nat) (W W' : Nat → Value) : Holds (pS2 (Nat.beq k 0)) ((p1 z k).val W) ((p2 z k k).val W') := holds_all fun e he => by
  simp only [pS2, List.mem_cons, List.not_mem_nil, or_false] at he
  have hz : (p2 z k k).L 1 = rowsC (z.ts.take k) ++ earC z.u := by
    show rowsC (z.ts.take k) ++ earC z.u ++ rowsC ((z.ts.drop k).take (k - k)) = _
    rw [Nat.sub_self, List.take_zero]
    exact List.append_nil _
  rcases he with rfl | rfl | rfl
  · exact ⟨.i64, (k : Int), rfl, rfl⟩
  · rfl
  · split
    · rename_i h
      obtain rfl := Nat.eq_of_beq_eq_true h
      show (p2 z 0 0).L 1 = earC z.u
      rw [hz]
      rfl
    · show (p2 z k k).L 1 = rowsC (z.ts.take k) ++ earC z.u
      exact hz
theorem pTb2_ok (m k : Nat) (hk : k ≤ z.len) (b : Bool) (hb : b = decide (k < z.len)) (W1 : Nat → Value) : @TbOK ((p2 z m k).val W1) (pTb2 b) := by
  letI : Val := (p2 z m k).val W1
  have hl0 := l0_len Z
  have htk := take_len Z m
  have hdr := drop_len Z m (k - m)
  have hle := Z.le
  refine { T := basic_T Z (p2 z m k) W1 k hk b hb rfl rfl rfl, LL := ?_, LX := ?_, LA := ?_ }
  · intro e he
    obtain rfl := List.mem_singleton.1 (show e ∈ [(⟨0, 12, sI 101⟩ : LNE)] from he)
    exact ⟨rfl, z.len, by decide, hl0, rfl⟩
  · intro e he
    cases b with
    | false => cases he
    | true =>
      obtain rfl := List.mem_singleton.1 (show e ∈ [(⟨0, 100, e12⟩ : LEE)] from he)
      exact el_LX Z (p2 z m k) W1 k (by simpa using hb.symm) rfl rfl (fun j hj => by
        show (if 20 + j < 20 then _ else if 20 + j < 40 then elK z k (20 + j - 20) else _) = _
        rw [if_neg (by omega), if_pos (by omega), Nat.add_sub_cancel_left]) (fun j hj => by
        show (if 20 + j < 20 then _ else bitY (elK z k) (20 + j - 20)) = _
        rw [if_neg (by omega), Nat.add_sub_cancel_left])
  · intro e he
    obtain rfl := List.mem_singleton.1 (show e ∈ [(⟨1, e12, 2⟩ : LAE)] from he)
    refine ⟨rfl, ?_, ?_⟩
    · show (rowsC (z.ts.take m) ++ earC z.u ++ rowsC ((z.ts.drop m).take (k - m)) ++ earC (elK z k)).length ≤ 1000000
      rw [List.length_append, List.length_append, List.length_append, earC_l, earC_l]
      omega
    · intro v hv
      rcases List.mem_append.1 (show v ∈ (rowsC (z.ts.take m) ++ earC z.u) ++ rowsC ((z.ts.drop m).take (k - m)) from hv) with hv | hv
      · rcases List.mem_append.1 hv with hv | hv
        · exact rowsC_one _ v hv
        · exact earC_one _ v hv
      · exact rowsC_one _ v hv
theorem put_head2 (m mm : Nat) (on : Bool) (hmm : mm < 3) (hm : m ≤ z.len) (V : Val) (hV : V.L 0 = rowsC (z.ts.take m) ++ earC z.u ++ rowsC (z.ts.drop m)) (w0 : World) :
    AtHead fPut (oB (pW mm on)) (oK (pW mm on)) w0.heap.size w0 (DQ V (.slN 0 0 12) [some (.lst 0 25 true)] w0) (ppat2 ()) (p2 z m m) := by
  intro fn hf W1 E a w S
  refine loop_wp (κ := Unit) hf (oB (pW mm on)) (oK (pW mm on)) (fun _ => ppat2 ()) w0.heap.size w0 (DQ V (.slN 0 0 12) [some (.lst 0 25 true)] w0) (fun n _ N => ∃ k, m ≤ k ∧ k ≤ z.len ∧ n = z.len - k ∧ N = p2 z m k) ?_ (z.len - m) () (p2 z m m) W1 E a w ⟨m, Nat.le_refl _, hm, rfl, rfl⟩ S
  rintro n _ N ⟨k, hmk, hk, rfl, rfl⟩ W2
  by_cases hlt : k < z.len
  · refine step_to (pTb2 true) [] (pTb2_ok Z m k hk true (by simp [hlt]) W2) [.int 100 (sI 106), .lst 0 0, .lst 1 2] [0, 3] () (p2 z m (k + 1)) (all2_all (all3_lt p2_again mm hmm) on) ?_ ⟨z.len - (k + 1), by omega, k + 1, by omega, hlt, rfl, rfl⟩
    intro W'
    refine holds_all fun e he => ?_
    simp only [List.mem_cons, List.not_mem_nil, or_false] at he
    rcases he with rfl | rfl | rfl
    · exact ⟨.i64, (k : Int) + 1, rfl, rfl⟩
    · rfl
    · show rowsC (z.ts.take m) ++ earC z.u ++ rowsC ((z.ts.drop m).take (k + 1 - m)) = rowsC (z.ts.take m) ++ earC z.u ++ rowsC ((z.ts.drop m).take (k - m)) ++ earC (elK z k)
      rw [drop_next Z hmk hlt, List.append_assoc (rowsC (z.ts.take m) ++ earC z.u)]
  · refine step_outQ (pTb2 false) [] (pTb2_ok Z m k hk false (by simp [hlt]) W2) V [.lst 0 1] [1] (.slN 0 0 12) [some (.lst 0 25 true)] (all2_all (all3_lt p2_out mm hmm) on) rfl ?_
    refine holds_all fun e he => ?_
    obtain rfl := List.mem_singleton.1 he
    show V.L 0 = rowsC (z.ts.take m) ++ earC z.u ++ rowsC ((z.ts.drop m).take (k - m))
    have := Z.len
    have e : (z.ts.drop m).take (k - m) = z.ts.drop m := List.take_of_length_le (by rw [List.length_drop]; omega)
    rw [hV, e]
theorem put_list (V : Val) (hV : V.L 0 = rowsC (insR z.u z.ts)) (w : World) (hr : RoIn ro w) (vs : List Value) (hv : All2 (@Go.Ri.NVal ((p1 z 0).val fun _ => undef) w) pDs vs) :
    Calls Tryz.prog fPut vs.toArray w (DQ V (.slN 0 0 12) [some (.lst 0 25 true)] w) := by
  have hlen := Z.len
  refine fn_loopL (κ := Bool) (p1 z 0) (fun _ => undef) pEnter [] fPut pDs ppat (fun n on N => ∃ k, k ≤ z.len ∧ n = z.len - k ∧ on = Nat.beq k 0 ∧ N = p1 z k ∧ ∀ j, j < k → cR (elK z j) z.u < 0) ?_ (.int 100 (lI 0) :: inIds) [0, 1] true z.len p_enter (p1 z 0) ?_ ⟨0, Nat.zero_le _, rfl, rfl, rfl, fun j hj => absurd hj (Nat.not_lt_zero _)⟩ (DQ V (.slN 0 0 12) [some (.lst 0 25 true)]) ?_ w hr vs hv
  · letI : Val := (p1 z 0).val fun _ => undef
    refine { LL := ?_ }
    intro e he
    obtain rfl := List.mem_singleton.1 (show e ∈ [(⟨0, 12, sI 101⟩ : LNE)] from he)
    exact ⟨rfl, z.len, by decide, l0_len Z, rfl⟩
  · intro W'
    refine holds_all fun e he => ?_
    rcases List.mem_cons.1 he with rfl | he
    · exact ⟨.i64, 0, rfl, rfl⟩
    · exact pIds_ok 0 0 _ W' e he
  · rintro w n on N ⟨k, hk, rfl, rfl, rfl, hneg⟩ W1
    have out : ∀ mm, mm < 3 → (!(Nat.beq mm 0)) = decide (k < z.len) → (k < z.len → sgn mm = cR (elK z k) z.u) → (∀ h : k < z.ts.length, ¬ cR z.ts[k] z.u < 0) → StepL fPut pBo pKo ppat w.heap.size w (DQ V (.slN 0 0 12) [some (.lst 0 25 true)] w) (fun k' c' => ∃ n', n' < z.len - k ∧ ∃ k, k ≤ z.len ∧ n' = z.len - k ∧ k' = Nat.beq k 0 ∧ c' = p1 z k ∧ ∀ j, j < k → cR (elK z j) z.u < 0) (Nat.beq k 0) (p1 z k) W1 := fun mm hmm hb hs hge => by
      refine .inr ⟨pTb (!(Nat.beq mm 0)) mm, [], pS2 (Nat.beq k 0), pR2 (Nat.beq k 0), ppat2 (), p2 z k k, ?_, all2_all (all3_lt p_out mm hmm) (Nat.beq k 0), fun W' => pS2_ok k W1 W', ?_⟩
      · exact pTb_ok Z k hk _ hb mm (fun h => hs (by rw [hb] at h; simpa using h)) W1
      · refine put_head2 Z k mm (Nat.beq k 0) hmm hk V ?_ w
        have hin := insR_at z.u z.ts k (by omega) (fun j hj h2 => by
          have := hneg j hj
          unfold elK at this
          rw [List.getD_eq_getElem?_getD, List.getElem?_eq_getElem h2] at this
          exact this) hge
        rw [hV, hin, rowsC_app]
        show rowsC (z.ts.take k) ++ (earC z.u ++ rowsC (z.ts.drop k)) = _
        rw [List.append_assoc]
    by_cases hlt : k < z.len
    · have hlt' : k < z.ts.length := by omega
      have hel : elK z k = z.ts[k] := by
        unfold elK
        rw [List.getD_eq_getElem?_getD, List.getElem?_eq_getElem hlt']
        rfl
      obtain ⟨c, hc, hs⟩ := cmpE_sgn (elK z k) (bitY (elK z k)) z.u (bitY z.u)
      have hs : sgn c = cR (elK z k) z.u := hs
      by_cases h0 : c = 0
      · subst h0
        refine .inl (step_to (pTb true 0) [] (pTb_ok Z k hk true (by simp [hlt]) 0 (fun _ => hs) W1) (pS1 (Nat.beq k 0)) (pR1 (Nat.beq k 0)) false (p1 z (k + 1)) (all2_all p_again (Nat.beq k 0)) (fun W' => pS1_ok Z k hlt W1 W') ⟨z.len - (k + 1), by omega, k + 1, hlt, rfl, rfl, rfl, fun j hj => ?_⟩)
        rcases Nat.lt_succ_iff_lt_or_eq.1 hj with h1 | rfl
        · exact hneg j h1
        · rw [← hs]
          decide
      · refine out c hc ?_ (fun _ => hs) (fun _ => ?_)
        · rw [beq_ne h0]
          simp [hlt]
        · rw [← hel, ← hs]
          have : c = 1 ∨ c = 2 := by omega
          rcases this with rfl | rfl <;> decide
    · exact out 0 (by decide) (by simp [hlt]) (fun h => absurd h hlt) (fun h => absurd h (by omega))
end
/-- The contract, for any list, any ear, told with any name. -/
theorem put_any (ts : List (Nat → Int)) (u : Nat → Int) (hle : ts.length ≤ 1000) (V : Val) (i j : Nat) (l : List RV) (hi : V.L i = rowsC ts) (hu : @cvF V (.agg l) = earF u (bitY u)) (hj : V.L j = rowsC (insR u ts)) : @QNTrue V ⟨fPut, [.slN 0 i 12, .agg l], .slN 0 j 12, [some (.lst j 25 true)]⟩ := by
  intro w hr vs hv
  let V0 : Val := ⟨fun _ => 0, fun _ => false, fun _ => ⟨#[]⟩, fun _ => ⟨.int .i64 0, rfl⟩, fun _ => V.L j, fun _ => undef⟩
  have Z : PutOK ⟨ts, u, ts.length, rowsC ts⟩ := ⟨rfl, hle, rfl⟩
  have hv' : All2 (@Go.Ri.NVal ((p1 ⟨ts, u, ts.length, rowsC ts⟩ 0).val fun _ => undef) w) pDs vs := by
    cases hv with
    | cons h1 h2 =>
      cases h2 with
      | cons h3 h4 =>
        cases h4
        obtain ⟨a, m, cap, g1, g2, g3, g4, g5, g6⟩ := h1
        rw [hi] at g2 g4 g6
        exact .cons ⟨a, m, cap, g1, g2, g3, g4, g5, g6⟩ (.cons (show _ = earF u (bitY u) from (show _ = @cvF V (.agg l) from h3).trans hu) .nil)
  refine (put_list Z V0 hj w hr vs hv').mono fun x w' ⟨v, E, hx, hvr, H⟩ => ?_
  obtain ⟨p, n, hp, h12, hn, hcap, rfl⟩ := hvr
  refine ⟨_, E, hx, ⟨p, n, hp, h12, hn, hcap, rfl⟩, ?_⟩
  refine @HInv.mk V _ _ _ _ _ _ (@HInv.below V0 _ _ _ _ _ _ H) (@HInv.lb V0 _ _ _ _ _ _ H) ?_ (@HInv.ro V0 _ _ _ _ _ _ H) ?_ ?_
  · have := @HInv.len V0 _ _ _ _ _ _ H
    exact this
  · intro b o hb
    obtain ⟨rfl, rfl⟩ := at_one hb
    obtain ⟨q, hq, hown, cur, fr, k1, k2, k3, k4⟩ := @HInv.blk V0 _ _ _ _ _ _ H 0 (.lst 0 25 true) rfl
    exact ⟨q, hq, hown, cur, fr, k1, k2, k3, k4⟩
  · intro b b' o o' p' q' hb hb' _ _ _ _ _
    rw [(at_one hb).1, (at_one hb').1]
end Go.Proofs.Z
