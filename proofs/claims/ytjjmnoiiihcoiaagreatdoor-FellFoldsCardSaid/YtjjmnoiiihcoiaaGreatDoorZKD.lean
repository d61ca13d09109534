/- A part of the proofs that the laws of layer four answer true for every input. -/
import Derived.Test.YtjjmnoiiihcoiaaGreatDoorZGX
import Derived.Test.YtjjmnoiiihcoiaaGreatDoorZGQ
import Derived.Test.YtjjmnoiiihcoiaaGreatDoorZHI
import Derived.Test.YtjjmnoiiihcoiaaGreatDoorZGY
namespace Go.Proofs.Z
open Go Go.RowKit Go.Proofs Go.Ri Go.Proofs.Z.Fa
/-! split, sets, lists: runs. -/
abbrev fSplit : Nat := 74
abbrev fSets : Nat := 76
abbrev fLists : Nat := 33
abbrev tInts : Nat := 32
/-! split: 10 done, 11 the set of this one, 12 only this one, 13 done then; lists: 9 the set, 20 so far, 21 then -/
noncomputable def ptD (c : Bool) : List RV := [fellR, fnA c]
def ptB (c : Bool) : Nat := if c then 3 else 2
noncomputable def ptP (c ne : Bool) : St := ⟨patW [(1, fnP c), (2, spR c), (5, if ne then .slN (ptB c) 20 1 else nilR), (6, sU 10), (10, sI 0), (11, sI 2)] 33 0, spH c ++ if ne then [some (.lstL 20 tInts 1)] else []⟩
def ptS (r u : RV) (j : Nat) : List SE := [.int 2 r, .int 10 u, .int 0 (sI 0), .int 1 (sI 1), .int 8 (sI 8), .lst 0 0, .lst 20 j]
noncomputable def ptN (c : Bool) : List Nat := if c then [0, 1, 2] else [0, 1]
noncomputable def ptL (c : Bool) : Code := hB spE [] fSplit (ptD c)
noncomputable def ptK (c : Bool) : List Fr := hK spE [] fSplit (ptD c)
def ptT (b : Bool) : List TE := [⟨.bin .lss, sI 2, sI 0, bR b⟩, ⟨.bin .add, sI 2, lI 1, sI 7⟩, ⟨.bin .or, sU 10, sU 11, sU 13⟩]
noncomputable def ptTb (c ne : Bool) (q : Bool) : Tb := { T := ptT true, Y := [⟨fHas, [sU 10, sI 2], bR q⟩, ⟨fOnly, [sI 2], sU 12⟩], C := [⟨fSpread, [fellR, sU 12, fnA c], sU 11⟩], Q := [⟨fSetList, [sU 11], (lstA1 false).1, (lstA1 false).2⟩], LNA := if q then [] else [⟨if ne then some 20 else none, 9, 21⟩] }
set_option maxRecDepth 100000 in
theorem pt_enter : (all2 fun c => enterT spE [] fSplit (ptD c) (ptS (lI 0) (.pl (.int .u16 0)) 20) (ptN c) (ptP c false)) = true := by kernel_rfl
set_option maxRecDepth 100000 in
theorem pt_skip : (all2 fun c => all2 fun ne => againT (ptTb c ne true) [] (ptL c) (ptK c) (ptP c ne) (ptS (sI 7) (sU 10) 20) (ptN c ++ if ne then [ptB c] else []) (ptP c ne)) = true := by kernel_rfl
set_option maxRecDepth 100000 in
theorem pt_again : (all2 fun c => all2 fun ne => againT (ptTb c ne false) [] (ptL c) (ptK c) (ptP c ne) (ptS (sI 7) (sU 13) 21) (ptN c ++ [ptB c + (if ne then 3 else 2)]) (ptP c true)) = true := by kernel_rfl
set_option maxRecDepth 100000 in
theorem pt_out : (all2 fun c => outQ { T := ptT false } [] fSplit (ptL c) (ptK c) (ptP c true) [.lst 20 20] [ptB c] (.slN 0 20 1) [some (.lstL 20 tInts 1)]) = true := by kernel_rfl
/-! sets -/
noncomputable def pzD : List RV := [fellR, .slN 0 11 1]
noncomputable def pzP (ne : Bool) : St := ⟨patW [(1, .slA 1 11 1), (2, .ptr 2 0), (5, if ne then .slN 3 20 1 else nilR), (6, sI 2)] 31 0, [some (.lstA 0), some (.lstA 11), some (.cells [sI 0, .slA 0 0 4] tFell false false)] ++ if ne then [some (.lstL 20 tInts 1)] else []⟩
def pzS (r : RV) (j : Nat) : List SE := [.int 2 r, .int 0 (sI 0), .int 1 (sI 1), .lst 0 0, .lst 11 11, .lst 20 j]
noncomputable def pzLL : List LNE := [⟨0, 4, sI 1⟩, ⟨11, 1, sI 1⟩]
noncomputable def pzE : Tb := { LL := pzLL }
noncomputable def pzL : Code := hB pzE [] fSets pzD
noncomputable def pzK : List Fr := hK pzE [] fSets pzD
def pzT (b q : Bool) : List TE := [⟨.bin .lss, sI 2, sI 0, bR b⟩, ⟨.bin .add, sI 2, lI 1, sI 7⟩, ⟨.inb, sI 30, sI 32, bR true⟩, ⟨.ieq, sI 31, sI 2, bR q⟩]
noncomputable def pzU : List QE := [⟨fOne, [fellR, sI 2], .slN 0 13 1, [some (.lst 13 tBool true)]⟩, ⟨fRSpread, [fellR, .slN 0 13 1, .slN 0 11 1], .slN 0 14 1, [some (.lst 14 tBool true)]⟩, ⟨fList, [.slN 0 14 1], .slN 0 9 1, [some (.lst 9 tInt true)]⟩]
noncomputable def pzTb (ne : Bool) (q : Bool) : Tb := { T := pzT true q, LL := ⟨9, 1, sI 32⟩ :: pzLL, U := qnU pzU, IZ := [(30, 0)], LX := [⟨9, 30, [sI 31]⟩], LNA := if q then [⟨if ne then some 20 else none, 9, 21⟩] else [] }
set_option maxRecDepth 100000 in
theorem pz_enter : enterT pzE [] fSets pzD (pzS (lI 0) 20) [0, 1, 2] (pzP false) = true := by kernel_rfl
set_option maxRecDepth 100000 in
theorem pz_skip : (all2 fun ne => againT (pzTb ne false) [] pzL pzK (pzP ne) (pzS (sI 7) 20) ([0, 1, 2] ++ if ne then [3] else []) (pzP ne)) = true := by kernel_rfl
set_option maxRecDepth 100000 in
theorem pz_again : (all2 fun ne => againT (pzTb ne true) [] pzL pzK (pzP ne) (pzS (sI 7) 21) [0, 1, 2, if ne then 8 else 7] (pzP true)) = true := by kernel_rfl
set_option maxRecDepth 100000 in
theorem pz_out : outQ { T := [⟨.bin .lss, sI 2, sI 0, bR false⟩] } [] fSets pzL pzK (pzP true) [.lst 20 20] [3] (.slN 0 20 1) [some (.lstL 20 tInts 1)] = true := by kernel_rfl
/-! lists: 1 how many, 2 the place; lists: 20, 22 the element -/
noncomputable def lsD : List RV := [.slL 20 1, .slL 20 1]
noncomputable def lsP : St := ⟨patW [(0, .slA 0 20 1), (1, .slA 1 20 1), (5, sI 2)] 27 0, [some (.lstB 20 1), some (.lstB 20 1)]⟩
def lsS (r : RV) : List SE := [.int 2 r, .int 1 (sI 1), .lst 20 20]
noncomputable def lsE : Tb := { T := [⟨.ieq, sI 1, sI 1, bR true⟩], LL := [⟨20, 1, sI 1⟩] }
noncomputable def lsL : Code := hB lsE [] fLists lsD
noncomputable def lsK : List Fr := hK lsE [] fLists lsD
set_option maxRecDepth 100000 in
theorem ls_enter : enterT lsE [] fLists lsD (lsS (lI 0)) [0, 1] lsP = true := by kernel_rfl
set_option maxRecDepth 100000 in
theorem ls_again : againT { T := hT true, LL := [⟨20, 1, sI 1⟩], LNE := [⟨20, 2, 22⟩], C := [⟨fInts, [.slN 0 22 1, .slN 0 22 1], bR true⟩] } [] lsL lsK lsP (lsS (sI 7)) [0, 1] lsP = true := by kernel_rfl
set_option maxRecDepth 100000 in
theorem ls_out : outF { T := hT false, LL := [⟨20, 1, sI 1⟩] } [] fLists lsL lsK lsP (bR true) = true := by kernel_rfl
end Go.Proofs.Z

namespace Go.Proofs.Z
open Go Go.RowKit Go.Proofs Go.Ri Go.Proofs.Z.Fa
/-! Sets of grazings that are connected: how both packages gather them. -/
section
variable {G : Int} {l : List Value} {n : Nat} {e : Nat → Bool} {a b : Nat}
theorem kl_self (hva : validM G l n = true) (ha : a < 16) : (clS l n e (2 ^ a)).testBit a = true := clS_sub hva (pow_lt16 ha) Nat.testBit_two_pow_self
theorem kl_apart (hva : validM G l n = true) (ha : a < 16) (hb : b < 16) {x : Nat} (h1 : (clS l n e (2 ^ a)).testBit x = true) (h2 : (clS l n e (2 ^ b)).testBit x = true) : (clS l n e (2 ^ a)).testBit b = true := by
  cases hn : (clS l n e (2 ^ a)).testBit b with
  | true => rfl
  | false =>
    rw [clS_bit hva (pow_lt16 hb)] at h2
    have := clo_min (u := fun y => !(clS l n e (2 ^ a)).testBit y) (fun y hy => by
      have hy : (2 ^ b).testBit y = true := hy
      rw [Nat.testBit_two_pow] at hy
      have := of_decide_eq_true hy
      subst this
      show (!(clS l n e (2 ^ a)).testBit b) = true
      rw [hn]
      rfl) (fun k hk hu => by
      have := clS_cl hva (pow_lt16 ha) hk hu
      unfold ldP at this
      have e : (clS l n e (2 ^ a)).testBit (gA' l k) = (clS l n e (2 ^ a)).testBit (gB' l k) := by simpa using this
      show (!(clS l n _ (2 ^ a)).testBit (gA' l k)) = !(clS l n _ (2 ^ a)).testBit (gB' l k)
      rw [e]) h2
    have this : (!(clS l n e (2 ^ a)).testBit x) = true := this
    rw [h1] at this
    cases this
theorem kl_symm (hva : validM G l n = true) (ha : a < 16) (hb : b < 16) (h : (clS l n e (2 ^ a)).testBit b = true) : (clS l n e (2 ^ b)).testBit a = true :=
  kl_apart hva hb ha (kl_self hva hb) h
theorem kl_trans (hva : validM G l n = true) (ha : a < 16) (hb : b < 16) (h : (clS l n e (2 ^ a)).testBit b = true) {x : Nat} (h2 : (clS l n e (2 ^ b)).testBit x = true) : (clS l n e (2 ^ a)).testBit x = true := by
  rw [clS_bit hva (pow_lt16 hb)] at h2
  refine clo_min (u := fun y => (clS l n e (2 ^ a)).testBit y) (fun y hy => ?_) (fun k hk hu => ?_) h2
  · have hy : (2 ^ b).testBit y = true := hy
    rw [Nat.testBit_two_pow] at hy
    have := of_decide_eq_true hy
    subst this
    exact h
  · have := clS_cl hva (pow_lt16 ha) hk hu
    unfold ldP at this
    simpa using this
/-- What has been gathered before k. -/
noncomputable def dnS (l : List Value) (n : Nat) (e : Nat → Bool) : Nat → Nat
  | 0 => 0
  | k + 1 => if (dnS l n e k).testBit k then dnS l n e k else dnS l n e k ||| clS l n e (2 ^ k)
theorem dnS_lt (l : List Value) (n : Nat) (e : Nat → Bool) : ∀ k, dnS l n e k < 65536
  | 0 => by unfold dnS; omega
  | k + 1 => by
    unfold dnS
    split
    · exact dnS_lt l n e k
    · exact Nat.or_lt_two_pow (n := 16) (dnS_lt l n e k) (clS_lt l n e _)
theorem dnS_iff (hva : validM G l n = true) (x : Nat) : ∀ k, k ≤ 16 → ((dnS l n e k).testBit x = true ↔ ∃ j, j < k ∧ (clS l n e (2 ^ j)).testBit x = true)
  | 0, _ => by
    unfold dnS
    simp
  | k + 1, hk => by
    have ih := dnS_iff hva x k (by omega)
    have ihk := dnS_iff hva k k (by omega)
    unfold dnS
    split
    · rename_i h
      obtain ⟨j, hj, hjk⟩ := ihk.1 h
      rw [ih]
      refine ⟨fun ⟨i, hi, q⟩ => ⟨i, by omega, q⟩, fun ⟨i, hi, q⟩ => ?_⟩
      rcases Nat.lt_or_eq_of_le (Nat.le_of_lt_succ hi) with h1 | rfl
      · exact ⟨i, h1, q⟩
      · exact ⟨j, hj, kl_trans hva (by omega) (by omega) hjk q⟩
    · rw [Nat.testBit_or, Bool.or_eq_true, ih]
      refine ⟨fun h => ?_, fun ⟨i, hi, q⟩ => ?_⟩
      · rcases h with ⟨i, hi, q⟩ | h
        · exact ⟨i, by omega, q⟩
        · exact ⟨k, by omega, h⟩
      · rcases Nat.lt_or_eq_of_le (Nat.le_of_lt_succ hi) with h1 | rfl
        · exact .inl ⟨i, h1, q⟩
        · exact .inr q
/-- Whether the set of k begins with k. -/
noncomputable def ptF (l : List Value) (n : Nat) (e : Nat → Bool) (k : Nat) : Bool := !(dnS l n e k).testBit k
noncomputable def ptC (l : List Value) (n : Nat) (e : Nat → Bool) (k : Nat) : List Value := [.agg (sL (clS l n e (2 ^ k))).toArray]
/-- The list of the sets. -/
noncomputable def ptG (l : List Value) (n : Nat) (e : Nat → Bool) (G : Nat) : List Value := gl (ptF l n e) (ptC l n e) G
theorem ptF_iff (hva : validM G l n = true) {k : Nat} (hk : k < 16) : ptF l n e k = true ↔ ∀ j, j < k → (clS l n e (2 ^ k)).testBit j = false := by
  unfold ptF
  rw [Bool.not_eq_true', Bool.eq_false_iff, Ne, dnS_iff hva k k (by omega)]
  refine ⟨fun h j hj => ?_, fun h ⟨j, hj, q⟩ => ?_⟩
  · rw [Bool.eq_false_iff]
    exact fun q => h ⟨j, hj, kl_symm hva hk (by omega) q⟩
  · have := h j hj
    rw [kl_symm hva (by omega) hk q] at this
    cases this
end
theorem gl_none {p : Nat → Bool} {c : Nat → List Value} : ∀ {k : Nat}, (∀ j, j < k → p j = false) → gl p c k = []
  | 0, _ => rfl
  | k + 1, h => by
    show gl p c k ++ (if p k then c k else []) = []
    rw [gl_none fun j hj => h j (by omega), h k (by omega)]
    rfl
theorem gl_head {p : Nat → Bool} {k : Nat} (hp : p k = true) (hl : ∀ j, j < k → p j = false) : ∀ m, (gl p ogC (k + 1 + m)).getD 0 undef = .int .i64 k
  | 0 => by
    show (gl p ogC k ++ (if p k then ogC k else [])).getD 0 undef = _
    rw [gl_none hl, hp]
    rfl
  | m + 1 => by
    have ih := gl_head hp hl m
    show (gl p ogC (k + 1 + m) ++ (if p (k + 1 + m) then ogC (k + 1 + m) else [])).getD 0 undef = _
    have hne : 0 < (gl p ogC (k + 1 + m)).length := by
      cases hg : gl p ogC (k + 1 + m) with
      | nil => rw [hg] at ih; cases ih
      | cons => simp
    rw [List.getD_eq_getElem?_getD, List.getElem?_append_left hne, ← List.getD_eq_getElem?_getD]
    exact ih
/-- The first of the members of a set. -/
theorem sL_first {s k : Nat} (hk : k < 16) (h : s.testBit k = true) : ∃ j, j ≤ k ∧ (sL s).getD 0 undef = .int .i64 (j : Nat) ∧ (j = k ↔ ∀ i, i < k → s.testBit i = false) := by
  have key : ∀ m, m ≤ k → (∃ j, j < m ∧ s.testBit j = true ∧ ∀ i, i < j → s.testBit i = false) ∨ ∀ i, i < m → s.testBit i = false := by
    intro m
    induction m with
    | zero => exact fun _ => .inr fun i hi => absurd hi (Nat.not_lt_zero _)
    | succ m ih =>
      intro hm
      rcases ih (by omega) with ⟨j, h1, h2⟩ | h1
      · exact .inl ⟨j, by omega, h2⟩
      · cases hb : s.testBit m with
        | true => exact .inl ⟨m, by omega, hb, h1⟩
        | false =>
          refine .inr fun i hi => ?_
          rcases Nat.lt_or_eq_of_le (Nat.le_of_lt_succ hi) with h2 | rfl
          · exact h1 i h2
          · exact hb
  rcases key k (Nat.le_refl _) with ⟨j, h1, h2, h3⟩ | h1
  · refine ⟨j, by omega, ?_, fun e => by omega, fun hh => ?_⟩
    · have := gl_head (p := fun x => s.testBit x) h2 h3 (16 - (j + 1))
      rw [show j + 1 + (16 - (j + 1)) = 16 by omega] at this
      exact this
    · rw [hh j h1] at h2
      cases h2
  · refine ⟨k, Nat.le_refl _, ?_, fun _ => h1, fun _ => rfl⟩
    have := gl_head (p := fun x => s.testBit x) h h1 (16 - (k + 1))
    rw [show k + 1 + (16 - (k + 1)) = 16 by omega] at this
    exact this
end Go.Proofs.Z

namespace Go.Proofs.Z
open Go Go.RowKit Go.Proofs Go.Ri Go.Proofs.Z.Fa
/-! split, sets, lists: contracts. -/
theorem ptG_ne {l : List Value} {n : Nat} {e : Nat → Bool} : ∀ m, ptG l n e (m + 1) ≠ []
  | 0 => by
    have h : ptF l n e 0 = true := by unfold ptF dnS; simp
    show gl (ptF l n e) (ptC l n e) 0 ++ (if ptF l n e 0 then ptC l n e 0 else []) ≠ []
    rw [h]
    exact fun h => by cases h
  | m + 1 => by
    show ptG l n e (m + 1) ++ _ ≠ []
    exact fun h => ptG_ne m (List.append_eq_nil_iff.1 h).1
theorem ptG_len (l : List Value) (n : Nat) (e : Nat → Bool) (m : Nat) : (ptG l n e m).length ≤ 1 * m := gl_len (s := 1) (fun _ => rfl) m
theorem ptG_succ (l : List Value) (n : Nat) (e : Nat → Bool) (m : Nat) : ptG l n e (m + 1) = ptG l n e m ++ if ptF l n e m then ptC l n e m else [] := rfl
theorem sL_ints' (s : Nat) : ints (sL s) := gl_mem (Q := fun v => ∃ n, v = .int .i64 n) (fun k => fa ⟨k, rfl⟩ fz) 16
theorem sL_ne {s k : Nat} (hk : k < 16) (h : s.testBit k = true) : (sL s).isEmpty = false := by
  obtain ⟨j, _, h2, _⟩ := sL_first hk h
  cases hq : sL s with
  | nil => rw [hq] at h2; cases h2
  | cons => rfl
theorem nest_nval {V V' : Val} {w : World} {v : Value} {i j s : Nat} (hi : V.L i = V'.L j) (h : @Go.Ri.NVal V w (.slL i s) v) : @Go.Ri.NVal V' w (.slL j s) v := by
  obtain ⟨a, m, cap, ss, k1, k2, k3, k4, k5, k6⟩ := h
  rw [hi] at k2 k3 k6
  exact ⟨a, m, cap, ss, k1, k2, k3, k4, k5, k6⟩
section
variable (V : Val) {G : Int} {l : List Value} {n : Nat} {d : Int}
noncomputable def ptnm (G : Int) (l : List Value) (n : Nat) (d : Int) (e : Nat → Bool) (k : Nat) : Nm := gnm G l n k (fun i => if i = 8 then d else if i = 10 then (dnS l n e k : Int) else if i = 11 then (clS l n e (2 ^ k) : Int) else if i = 12 then ((2 ^ k : Nat) : Int) else ((dnS l n e k ||| clS l n e (2 ^ k) : Nat) : Int)) ny (fun i => if i = 9 then sL (clS l n e (2 ^ k)) else if i = 20 then ptG l n e k else ptG l n e (k + 1))
theorem ptS_ok (e : Nat → Bool) (k k' : Nat) {r u : RV} {j : Nat} (W W' : Nat → Value) (h2 : @cv ((ptnm G l n d e k).val W) r = .int .i64 (k' : Int)) (h10 : @cv ((ptnm G l n d e k).val W) u = .int .u16 (dnS l n e k' : Int)) (h20 : ptG l n e k' = (ptnm G l n d e k).L j) : ∀ q, q ∈ ptS r u j → okSE ((ptnm G l n d e k).val W) ((ptnm G l n d e k').val W') q :=
  fa ⟨.i64, (k' : Int), h2, rfl⟩ (fa ⟨.u16, (dnS l n e k' : Int), h10, rfl⟩ (fa ⟨.i64, G, rfl, rfl⟩ (fa ⟨.i64, (n : Int), rfl, rfl⟩ (fa ⟨.i64, d, rfl, rfl⟩ (fa (show l = l from rfl) (fa h20 fz))))))
theorem split_q (c : Bool) (hG : V.I 0 = G) (hL : V.L 0 = l) (hl : ints l) (hn : l.length = n * 4) (hva : validM G l n = true) (hd : V.I 8 = d) (hd0 : c = true → 0 ≤ d) (h20 : V.L 20 = ptG l n (srv c l d) G.toNat) :
    @QNTrue V ⟨fSplit, [fellR, fnA c], .slN 0 20 1, [some (.lstL 20 tInts 1)]⟩ := by
  intro w hr vs hv
  have hg := (validM_iff _ _ _).1 hva
  obtain ⟨N, hN⟩ : ∃ N, N = G.toNat := ⟨_, rfl⟩
  have hN1 : 1 ≤ N := by omega
  have hN2 : N ≤ 16 := by omega
  rw [← hN] at h20
  obtain ⟨e, he⟩ : ∃ e, e = srv c l d := ⟨_, rfl⟩
  rw [← he] at h20
  have hv : All2 (@Go.Ri.NVal ((ptnm G l n d e 0).val fun _ => undef) w) (ptD c) vs := by
    cases hv with
    | cons h1 h2 => cases h2 with
      | cons h2 h3 =>
        cases h3
        exact .cons (fell_nval1 hG hL h1) (.cons (fn_nval c (hd.trans rfl) h2) .nil)
  have ht0 : @TbOK ((ptnm G l n d e 0).val fun _ => undef) spE := by
    letI : Val := (ptnm G l n d e 0).val fun _ => undef
    exact { LL := hLL_ok _ _ _ hn 0 _ }
  refine fn_loop (κ := Bool) (ptnm G l n d e 0) (fun _ => undef) spE [] fSplit (ptD c) (ptP c) (fun m ne cc => ∃ k, k ≤ N ∧ m = N - k ∧ cc = ptnm G l n d e k ∧ ne = !(ptG l n e k).isEmpty) ht0 (ptS (lI 0) (.pl (.int .u16 0)) 20) (ptN c) false N (all2_all pt_enter c) (ptnm G l n d e 0) (fun W' => holds_all (ptS_ok e 0 0 _ W' rfl rfl rfl)) ⟨0, Nat.zero_le _, rfl, rfl, rfl⟩ (DQ V (.slN 0 20 1) [some (.lstL 20 tInts 1)]) ?_ w hr vs hv
  rintro w m ne cc ⟨k, hk, rfl, rfl, rfl⟩ W
  rcases Nat.lt_or_ge k N with hlt | hge
  · have hk16 : k < 16 := by omega
    have hT : ∀ q, q ∈ ptT true → @TETrue ((ptnm G l n d e k).val W) q := by
      letI : Val := (ptnm G l n d e k).val W
      exact fa (f_lss (k := .i64) (m := (k : Int)) (n := G) rfl rfl (decide_eq_true (by omega))) (fa (f_add1 (m := (k : Int)) rfl rfl rfl (by omega) (by omega)) (fa (f_bin rfl rfl rfl rfl (t_or16 (dnS_lt l n e k) (clS_lt l n e _))) fz))
    have hhas := has_ans (dnS_lt l n e k) hk16
    have hsp := spread_ans ((ptnm G l n d e k).val W) (G := G) (l := l) (n := n) (d := d) c rfl rfl hl hn hva rfl hd0 (s := 2 ^ k) (pow_lt16 hk16) (x := sU 12) rfl rfl
    rw [← he] at hsp
    have hli := setList_q ((ptnm G l n d e k).val W) (s := clS l n e (2 ^ k)) (clS_lt l n e _) rfl
    rw [sL_ne hk16 (kl_self hva hk16)] at hli
    have tb : ∀ q, (dnS l n e k).testBit k = q → @TbOK ((ptnm G l n d e k).val W) (ptTb c (!(ptG l n e k).isEmpty) q) := fun q hq => by
      letI : Val := (ptnm G l n d e k).val W
      rw [hq] at hhas
      refine { T := hT, Y := fa hhas (fa (only_ans hk16) fz), C := fa hsp fz, Q := fa hli fz, LNA := ?_ }
      show ∀ x, x ∈ (if q then [] else [⟨if (!(ptG l n e k).isEmpty) = true then some 20 else none, 9, 21⟩] : List LNL) → _
      cases q with
      | true => exact fz
      | false =>
        have hF : ptF l n e k = true := by unfold ptF; rw [hq]; rfl
        have hs := ptG_succ l n e k
        rw [hF, if_pos rfl] at hs
        refine fa ⟨?_, ?_⟩ fz
        · show ptG l n e (k + 1) = _
          rw [hs]
          cases hE : (ptG l n e k).isEmpty with
          | false => rfl
          | true =>
            rw [List.isEmpty_iff.1 hE]
            rfl
        · show (ptG l n e (k + 1)).length ≤ 1000000
          have := ptG_len l n e (k + 1)
          omega
    cases hq : (dnS l n e k).testBit k with
    | true =>
      have hF : ptF l n e k = false := by unfold ptF; rw [hq]; rfl
      have hs := ptG_succ l n e k
      rw [hF, if_neg (by decide), List.append_nil] at hs
      have hd1 : dnS l n e (k + 1) = dnS l n e k := by
        show (if (dnS l n e k).testBit k then _ else _) = _
        rw [if_pos hq]
      refine step_to _ [] (tb true hq) (ptS (sI 7) (sU 10) 20) _ _ (ptnm G l n d e (k + 1)) (all2_all (all2_all pt_skip c) (!(ptG l n e k).isEmpty)) (fun W' => holds_all (ptS_ok e k (k + 1) W W' rfl (by rw [hd1]; rfl) (hs.trans rfl))) ⟨N - (k + 1), by omega, k + 1, hlt, rfl, rfl, by rw [hs]⟩
    | false =>
      have hd1 : dnS l n e (k + 1) = dnS l n e k ||| clS l n e (2 ^ k) := by
        show (if (dnS l n e k).testBit k then _ else _) = _
        rw [if_neg (by rw [hq]; decide)]
      refine step_to _ [] (tb false hq) (ptS (sI 7) (sU 13) 21) _ _ (ptnm G l n d e (k + 1)) (all2_all (all2_all pt_again c) (!(ptG l n e k).isEmpty)) (fun W' => holds_all (ptS_ok e k (k + 1) W W' rfl (by rw [hd1]; rfl) rfl)) ⟨N - (k + 1), by omega, k + 1, hlt, rfl, rfl, ?_⟩
      have := ptG_ne (l := l) (n := n) (e := e) k
      cases hE : ptG l n e (k + 1) with
      | nil => exact absurd hE this
      | cons => rfl
  · obtain rfl : k = N := by omega
    have hE : (ptG l n e k).isEmpty = false := by
      obtain ⟨m, rfl⟩ : ∃ m, k = m + 1 := ⟨k - 1, by omega⟩
      cases hE : ptG l n e (m + 1) with
      | nil => exact absurd hE (ptG_ne m)
      | cons => rfl
    have ht : @TbOK ((ptnm G l n d e k).val W) { T := ptT false } := by
      letI : Val := (ptnm G l n d e k).val W
      exact { T := fa (f_lss (k := .i64) (m := (k : Int)) (n := G) rfl rfl (decide_eq_false (by omega))) (fa (f_add1 (m := (k : Int)) rfl rfl rfl (by omega) (by omega)) (fa (f_bin rfl rfl rfl rfl (t_or16 (dnS_lt l n e k) (clS_lt l n e _))) fz)) }
    rw [hE]
    exact step_outQ _ [] ht V _ _ _ _ (all2_all pt_out c) rfl (holds_all (fa h20 fz))
end
end Go.Proofs.Z

namespace Go.Proofs.Z
open Go Go.RowKit Go.Proofs Go.Ri Go.Proofs.Z.Fa
/-! sets of the specification, lists of the laws: contracts. -/
section
variable (V : Val) {G : Int} {l : List Value} {n : Nat} {d : Int}
noncomputable def pznm (G : Int) (l : List Value) (n : Nat) (e : Nat → Bool) (S : Nat → List Value) (F : Nat → Int) (k : Nat) : Nm :=
  gnm G l n k (fun i => if i = 30 then 0 else if i = 31 then F k else ((S k).length : Int)) ny
    (fun i => if i = 9 then S k else if i = 11 then bls e n else if i = 13 then bls (fun x => (2 ^ k).testBit x) G.toNat else if i = 14 then bls (cloL l n e (fun x => (2 ^ k).testBit x)) G.toNat else if i = 20 then ptG l n e k else ptG l n e (k + 1))
theorem pzS_ok (e : Nat → Bool) (S : Nat → List Value) (F : Nat → Int) (k k' : Nat) {r : RV} {j : Nat} (W W' : Nat → Value) (h2 : @cv ((pznm G l n e S F k).val W) r = .int .i64 (k' : Int)) (h20 : ptG l n e k' = (pznm G l n e S F k).L j) : ∀ q, q ∈ pzS r j → okSE ((pznm G l n e S F k).val W) ((pznm G l n e S F k').val W') q :=
  fa ⟨.i64, (k' : Int), h2, rfl⟩ (fa ⟨.i64, G, rfl, rfl⟩ (fa ⟨.i64, (n : Int), rfl, rfl⟩ (fa (show l = l from rfl) (fa (show bls e n = bls e n from rfl) (fa h20 fz)))))
theorem pzLL_ok (e : Nat → Bool) (S : Nat → List Value) (F : Nat → Int) (hn : l.length = n * 4) (k : Nat) (W : Nat → Value) : ∀ q, q ∈ pzLL → @LLTrue ((pznm G l n e S F k).val W) q :=
  fa ⟨rfl, n, Nat.succ_pos 3, hn, rfl⟩ (fa ⟨rfl, n, Nat.succ_pos 0, by rw [Nat.mul_one]; exact bls_len e n, rfl⟩ fz)
/-- The set of a grazing, as a list of the grazings. -/
theorem kl_gl (hva : validM G l n = true) {e : Nat → Bool} {k : Nat} (hk : (k : Int) < G) : gl (cloL l n e (fun x => (2 ^ k).testBit x)) ogC G.toNat = sL (clS l n e (2 ^ k)) := by
  have hg := (validM_iff _ _ _).1 hva
  have hk16 : k < 16 := by omega
  have e1 : gl (cloL l n e (fun x => (2 ^ k).testBit x)) ogC G.toNat = gl (fun x => (clS l n e (2 ^ k)).testBit x) ogC G.toNat := gl_congr fun x _ => (clS_bit (e := e) hva (pow_lt16 hk16) x).symm
  have e2 := gl_trunc (b := fun x => (clS l n e (2 ^ k)).testBit x) (c := ogC) (m := G.toNat) (fun j hj => by
    show (clS l n e (2 ^ k)).testBit j = false
    rw [Bool.eq_false_iff]
    intro h
    rw [clS_bit hva (pow_lt16 hk16)] at h
    have := clo_min (u := fun x => decide ((x : Int) < G)) (fun y hy => by
      have hy : (2 ^ k).testBit y = true := hy
      rw [Nat.testBit_two_pow] at hy
      have := of_decide_eq_true hy
      subst this
      exact decide_eq_true hk) (fun i hi _ => by
      obtain ⟨a0, _, b0, _, a2, b2⟩ := gate_range hva hi
      show decide (((gA' l i : Nat) : Int) < G) = decide (((gB' l i : Nat) : Int) < G)
      rw [decide_eq_true (by unfold gA'; omega), decide_eq_true (by unfold gB'; omega)]) h
    have := of_decide_eq_true this
    omega) (16 - G.toNat)
  rw [show G.toNat + (16 - G.toNat) = 16 by omega] at e2
  rw [e1, ← e2]
  rfl
theorem sets_q (hG : V.I 0 = G) (hL : V.L 0 = l) (hl : ints l) (hn : l.length = n * 4) (hva : validM G l n = true) (e : Nat → Bool) (h11 : V.L 11 = bls e n) (h20 : V.L 20 = ptG l n e G.toNat) :
    @QNTrue V ⟨fSets, [fellR, .slN 0 11 1], .slN 0 20 1, [some (.lstL 20 tInts 1)]⟩ := by
  intro w hr vs hv
  have hg := (validM_iff _ _ _).1 hva
  obtain ⟨N, hN⟩ : ∃ N, N = G.toNat := ⟨_, rfl⟩
  have hN1 : 1 ≤ N := by omega
  have hN2 : N ≤ 16 := by omega
  rw [← hN] at h20
  obtain ⟨S, hS⟩ : ∃ S : Nat → List Value, S = fun k => sL (clS l n e (2 ^ k)) := ⟨_, rfl⟩
  obtain ⟨F, hF0⟩ : ∃ F : Nat → Int, F = fun k => intOf ((S k).getD 0 undef) := ⟨_, rfl⟩
  have hSk : ∀ k, S k = sL (clS l n e (2 ^ k)) := fun k => by rw [hS]
  have hFk : ∀ k, F k = intOf ((S k).getD 0 undef) := fun k => by rw [hF0]
  have hv : All2 (@Go.Ri.NVal ((pznm G l n e S F 0).val fun _ => undef) w) pzD vs := by
    cases hv with
    | cons h1 h2 => cases h2 with
      | cons h2 h3 =>
        cases h3
        exact .cons (fell_nval1 hG hL h1) (.cons (lst_nval (V := V) (V' := (pznm G l n e S F 0).val fun _ => undef) (j := 11) h11 h2) .nil)
  have ht0 : @TbOK ((pznm G l n e S F 0).val fun _ => undef) pzE := by
    letI : Val := (pznm G l n e S F 0).val fun _ => undef
    exact { LL := pzLL_ok e S F hn 0 _ }
  refine fn_loop (κ := Bool) (pznm G l n e S F 0) (fun _ => undef) pzE [] fSets pzD pzP (fun m ne cc => ∃ k, k ≤ N ∧ m = N - k ∧ cc = pznm G l n e S F k ∧ ne = !(ptG l n e k).isEmpty) ht0 (pzS (lI 0) 20) [0, 1, 2] false N pz_enter (pznm G l n e S F 0) (fun W' => holds_all (pzS_ok e S F 0 0 _ W' rfl rfl)) ⟨0, Nat.zero_le _, rfl, rfl, rfl⟩ (DQ V (.slN 0 20 1) [some (.lstL 20 tInts 1)]) ?_ w hr vs hv
  rintro w m ne cc ⟨k, hk, rfl, rfl, rfl⟩ W
  rcases Nat.lt_or_ge k N with hlt | hge
  · have hk16 : k < 16 := by omega
    have hkG : (k : Int) < G := by omega
    have hself := kl_self (e := e) hva hk16
    obtain ⟨j, hjk, hfst, hjiff⟩ := sL_first hk16 hself
    have hne := sL_ne hk16 hself
    have hlen2 : (sL (clS l n e (2 ^ k))).length ≤ 1 * 16 := gl_len ogC_len 16
    have egl := kl_gl (e := e) hva hkG
    rw [← hSk] at hfst hne hlen2 egl
    have hFj : F k = (j : Int) := by rw [hFk, hfst]; rfl
    have hone := one_q ((pznm G l n e S F k).val W) (G := G) (l := l) (x := sI 2) (a := k) rfl rfl hn hva hkG rfl rfl (bls_congr fun x _ => by
      show (2 ^ k).testBit x = decide (x = k)
      rw [Nat.testBit_two_pow]
      exact decide_eq_decide.2 ⟨fun h => h.symm, fun h => h.symm⟩)
    have hsp := rspread_q ((pznm G l n e S F k).val W) (G := G) (l := l) (n := n) rfl rfl hl hn hva (fun x => (2 ^ k).testBit x) e rfl rfl rfl
    have hli := list_q ((pznm G l n e S F k).val W) (cloL l n e (fun x => (2 ^ k).testBit x)) G.toNat (by omega) (i := 14) rfl (show S k = _ from egl.symm)
    rw [egl, hne] at hli
    have hlen : 1 ≤ (S k).length := by
      cases hq : S k with
      | nil => rw [hq] at hne; cases hne
      | cons => simp
    have hq : (F k == (k : Int)) = ptF l n e k := by
      rw [hFj]
      have h2 := ptF_iff (e := e) hva hk16
      cases hF : ptF l n e k with
      | true =>
        have := hjiff.2 (h2.1 hF)
        subst this
        simp
      | false =>
        have : j ≠ k := fun h => by
          have := h2.2 (hjiff.1 h)
          rw [hF] at this
          cases this
        simp
        omega
    have tb : @TbOK ((pznm G l n e S F k).val W) (pzTb (!(ptG l n e k).isEmpty) (ptF l n e k)) := by
      letI : Val := (pznm G l n e S F k).val W
      refine { T := fa (f_lss (k := .i64) (m := (k : Int)) (n := G) rfl rfl (decide_eq_true hkG)) (fa (f_add1 (m := (k : Int)) rfl rfl rfl (by omega) (by omega)) (fa ⟨rfl, .i64, .i64, 0, ((S k).length : Int), rfl, rfl, congrArg Value.bool (decide_eq_true ⟨by omega, by omega⟩).symm⟩ (fa (f_ieq (k := .i64) (m := F k) (n := (k : Int)) rfl rfl hq) fz))), LL := fa ⟨rfl, (S k).length, Nat.succ_pos 0, (Nat.mul_one _).symm, rfl⟩ (pzLL_ok e S F hn k W), LX := fa ⟨rfl, ?_, ?_⟩ fz, U := qnU_ok _ (fa hone (fa hsp (fa hli fz))), IZ := fa rfl fz, LNA := ?_ }
      · show ((0 : Int)).toNat * 1 + 1 ≤ (S k).length
        exact hlen
      · show ((S k).drop (((0 : Int)).toNat * 1)).take 1 = [.int .i64 (F k)]
        have e0 := row1 (l := S k) 0 hlen
        rw [hfst, ← hFj] at e0
        exact e0
      · show ∀ x, x ∈ (if ptF l n e k then [⟨if (!(ptG l n e k).isEmpty) = true then some 20 else none, 9, 21⟩] else [] : List LNL) → _
        cases hF : ptF l n e k with
        | false => exact fz
        | true =>
          have hs := ptG_succ l n e k
          rw [hF, if_pos rfl] at hs
          have hs : ptG l n e (k + 1) = ptG l n e k ++ [.agg (S k).toArray] := by rw [hs, hSk]; rfl
          refine fa ⟨?_, ?_⟩ fz
          · show ptG l n e (k + 1) = (match (if (!(ptG l n e k).isEmpty) = true then some 20 else none : Option Nat) with | none => [] | some i => ((pznm G l n e S F k).val W).L i) ++ [.agg (S k).toArray]
            rw [hs]
            cases hE : (ptG l n e k).isEmpty with
            | false => rfl
            | true =>
              rw [List.isEmpty_iff.1 hE]
              rfl
          · show (ptG l n e (k + 1)).length ≤ 1000000
            have := ptG_len l n e (k + 1)
            omega
    cases hF : ptF l n e k with
    | false =>
      rw [hF] at tb
      have hs := ptG_succ l n e k
      rw [hF, if_neg (by decide), List.append_nil] at hs
      exact step_to _ [] tb (pzS (sI 7) 20) _ _ (pznm G l n e S F (k + 1)) (all2_all pz_skip (!(ptG l n e k).isEmpty)) (fun W' => holds_all (pzS_ok e S F k (k + 1) W W' rfl (hs.trans rfl))) ⟨N - (k + 1), by omega, k + 1, hlt, rfl, rfl, by rw [hs]⟩
    | true =>
      rw [hF] at tb
      refine step_to _ [] tb (pzS (sI 7) 21) _ _ (pznm G l n e S F (k + 1)) (all2_all pz_again (!(ptG l n e k).isEmpty)) (fun W' => holds_all (pzS_ok e S F k (k + 1) W W' rfl rfl)) ⟨N - (k + 1), by omega, k + 1, hlt, rfl, rfl, ?_⟩
      have := ptG_ne (l := l) (n := n) (e := e) k
      cases hE : ptG l n e (k + 1) with
      | nil => exact absurd hE this
      | cons => rfl
  · obtain rfl : k = N := by omega
    have hE : (ptG l n e k).isEmpty = false := by
      obtain ⟨m, rfl⟩ : ∃ m, k = m + 1 := ⟨k - 1, by omega⟩
      cases hE : ptG l n e (m + 1) with
      | nil => exact absurd hE (ptG_ne m)
      | cons => rfl
    have ht : @TbOK ((pznm G l n e S F k).val W) { T := [⟨.bin .lss, sI 2, sI 0, bR false⟩] } := by
      letI : Val := (pznm G l n e S F k).val W
      exact { T := fa (f_lss (k := .i64) (m := (k : Int)) (n := G) rfl rfl (decide_eq_false (by omega))) fz }
    rw [hE]
    exact step_outQ _ [] ht V _ _ _ _ pz_out rfl (holds_all (fa h20 fz))
end
/-! lists -/
def inL : Value → List Value
  | .agg a => a.toList
  | _ => []
def lsnm (l : List Value) (n k : Nat) : Nm := ⟨fun i => if i = 1 then (n : Int) else if i = 2 then (k : Int) else (k : Int) + 1, ny, fun _ => ⟨#[]⟩, fun i => if i = 20 then l else inL (l.getD k undef)⟩
theorem lists_ans (V : Val) (l : List Value) (hl : ∀ v, v ∈ l → ∃ s, v = .agg (sL s).toArray) (n : Nat) (hn : l.length = n) (hb : n ≤ 1000000) {i : Nat} (hL : V.L i = l) : @AnsN V fLists [.slL i 1, .slL i 1] (.bool true) := by
  intro w hr vs hv
  have hv : All2 (@Go.Ri.NVal ((lsnm l n 0).val fun _ => undef) w) lsD vs := by
    cases hv with
    | cons h1 h2 => cases h2 with
      | cons h2 h3 =>
        cases h3
        exact .cons (nest_nval (V := V) (V' := (lsnm l n 0).val fun _ => undef) (j := 20) hL h1) (.cons (nest_nval (V := V) (V' := (lsnm l n 0).val fun _ => undef) (j := 20) hL h2) .nil)
  have hLL : ∀ k W, ∀ e, e ∈ ([⟨20, 1, sI 1⟩] : List LNE) → @LLTrue ((lsnm l n k).val W) e := fun k W => fa ⟨rfl, n, Nat.succ_pos 0, by rw [Nat.mul_one]; exact hn, rfl⟩ fz
  refine scan2 fLists lsD lsE [] lsP (lsS (lI 0)) [0, 1] (lsnm l n 0) (fun _ => undef) (fun k => lsnm l n k) n _ (fun _ => True) ls_enter ?_ (fun W' => fa ⟨.i64, 0, rfl, rfl⟩ (fa ⟨.i64, (n : Int), rfl, rfl⟩ (fa rfl fz))) trivial ?_ w hr vs hv
  · letI : Val := (lsnm l n 0).val fun _ => undef
    exact { T := fa (f_ieq (k := .i64) (m := (n : Int)) (n := (n : Int)) rfl rfl (by simp)) fz, LL := hLL 0 _ }
  · intro k hk _ W
    letI : Val := (lsnm l n k).val W
    rcases Nat.lt_or_ge k n with hlt | hge
    · have hget : l[k]? = some (l.getD k undef) := by
        rw [List.getD_eq_getElem?_getD, List.getElem?_eq_getElem (by omega)]
        rfl
      obtain ⟨s, hs⟩ := hl (l.getD k undef) (List.mem_of_getElem? hget)
      have hin : inL (l.getD k undef) = sL s := by rw [hs]; rfl
      have hlen2 : (sL s).length ≤ 1 * 16 := gl_len ogC_len 16
      have tb : TbOK { T := hT true, LL := [⟨20, 1, sI 1⟩], LNE := [⟨20, 2, 22⟩], C := [⟨fInts, [.slN 0 22 1, .slN 0 22 1], bR true⟩] } := by
        refine { T := hT_gen _ rfl rfl rfl (by omega) (by simp [hlt]), LL := hLL k W, LNE := fa ?_ fz, C := fa (ints_ans ((lsnm l n k).val W) (sL s) (sL_ints' s) _ rfl (by omega) (i := 22) hin) fz }
        show l[((k : Int)).toNat]? = some (.agg (inL (l.getD k undef)).toArray)
        rw [Int.toNat_natCast, hget, hin, hs]
      exact .inr ⟨hlt, trivial, _, _, _, tb, ls_again, fun W' => fa ⟨.i64, (k : Int) + 1, rfl, rfl⟩ (fa ⟨.i64, (n : Int), rfl, rfl⟩ (fa rfl fz))⟩
    · obtain rfl : k = n := by omega
      exact .inl ⟨_, bR true, { T := hT_gen _ rfl rfl rfl (by omega) (by simp), LL := hLL k W }, ls_out, rfl⟩
theorem ptG_agg (l : List Value) (n : Nat) (e : Nat → Bool) (m : Nat) : ∀ v, v ∈ ptG l n e m → ∃ s, v = .agg (sL s).toArray :=
  gl_mem (Q := fun v => ∃ s, v = .agg (sL s).toArray) (fun _ => fa ⟨_, rfl⟩ fz) m
end Go.Proofs.Z
