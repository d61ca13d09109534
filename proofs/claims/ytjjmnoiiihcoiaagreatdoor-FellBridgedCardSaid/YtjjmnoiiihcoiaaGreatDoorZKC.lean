/- A part of the proofs that the laws of layer four answer true for every input. -/
import Derived.Test.YtjjmnoiiihcoiaaGreatDoorZHH
import Derived.Test.YtjjmnoiiihcoiaaGreatDoorZGR
import Derived.Test.YtjjmnoiiihcoiaaGreatDoorZGK
import Derived.Test.YtjjmnoiiihcoiaaGreatDoorZGQ
namespace Go.Proofs.Z
open Go Go.RowKit Go.Proofs Go.Ri Go.Proofs.Z.Fa
/-! Sets of grazings that are connected: how both packages gather them. -/
section
variable {G : Int} {l : List Value} {n : Nat} {e : Nat → Bool} {a b : Nat}
theorem kl_self (hva : validM G l n = true) (ha : a < 16) : (clS l n e (2 ^ a)).testBit a = true := clS_sub hva (pow_lt16 ha) Nat.testBit_two_pow_self
theorem kl_apart (hva : validM G l n = true) (ha : a < 16) (hb : b < 16) {x : Nat} (h1 : (clS l n e (2 ^ a)).testBit x = true) (h2 : (clS l n e (2 ^ b)).testBit x = true) : (clS l n e (2 ^ a)).testBit b = true := by
  cases hn : (clS l n e (2 ^ a)).testBit b with
  | true => rfl
  | false =>
    rw [clS_bit hva (pow_lt16 hb)] at h2
    have := clo_min (u := fun y => !(clS l n e (2 ^ a)).testBit y) (fun y hy => by
      have hy : (2 ^ b).testBit y = true := hy
      rw [Nat.testBit_two_pow] at hy
      have := of_decide_eq_true hy
      subst this
      show (!(clS l n e (2 ^ a)).testBit b) = true
      rw [hn]
      rfl) (fun k hk hu => by
      have := clS_cl hva (pow_lt16 ha) hk hu
      unfold ldP at this
      have e : (clS l n e (2 ^ a)).testBit (gA' l k) = (clS l n e (2 ^ a)).testBit (gB' l k) := by simpa using this
      show (!(clS l n _ (2 ^ a)).testBit (gA' l k)) = !(clS l n _ (2 ^ a)).testBit (gB' l k)
      rw [e]) h2
    have this : (!(clS l n e (2 ^ a)).testBit x) = true := this
    rw [h1] at this
    cases this
theorem kl_symm (hva : validM G l n = true) (ha : a < 16) (hb : b < 16) (h : (clS l n e (2 ^ a)).testBit b = true) : (clS l n e (2 ^ b)).testBit a = true :=
  kl_apart hva hb ha (kl_self hva hb) h
theorem kl_trans (hva : validM G l n = true) (ha : a < 16) (hb : b < 16) (h : (clS l n e (2 ^ a)).testBit b = true) {x : Nat} (h2 : (clS l n e (2 ^ b)).testBit x = true) : (clS l n e (2 ^ a)).testBit x = true := by
  rw [clS_bit hva (pow_lt16 hb)] at h2
  refine clo_min (u := fun y => (clS l n e (2 ^ a)).testBit y) (fun y hy => ?_) (fun k hk hu => ?_) h2
  · have hy : (2 ^ b).testBit y = true := hy
    rw [Nat.testBit_two_pow] at hy
    have := of_decide_eq_true hy
    subst this
    exact h
  · have := clS_cl hva (pow_lt16 ha) hk hu
    unfold ldP at this
    simpa using this
/-- What has been gathered before k. -/
noncomputable def dnS (l : List Value) (n : Nat) (e : Nat → Bool) : Nat → Nat
  | 0 => 0
  | k + 1 => if (dnS l n e k).testBit k then dnS l n e k else dnS l n e k ||| clS l n e (2 ^ k)
theorem dnS_lt (l : List Value) (n : Nat) (e : Nat → Bool) : ∀ k, dnS l n e k < 65536
  | 0 => by unfold dnS; omega
  | k + 1 => by
    unfold dnS
    split
    · exact dnS_lt l n e k
    · exact Nat.or_lt_two_pow (n := 16) (dnS_lt l n e k) (clS_lt l n e _)
/-- Whether the set of k begins with k. -/
noncomputable def ptF (l : List Value) (n : Nat) (e : Nat → Bool) (k : Nat) : Bool := !(dnS l n e k).testBit k
noncomputable def ptC (l : List Value) (n : Nat) (e : Nat → Bool) (k : Nat) : List Value := [.agg (sL (clS l n e (2 ^ k))).toArray]
/-- The list of the sets. -/
noncomputable def ptG (l : List Value) (n : Nat) (e : Nat → Bool) (G : Nat) : List Value := gl (ptF l n e) (ptC l n e) G
end
theorem gl_none {p : Nat → Bool} {c : Nat → List Value} : ∀ {k : Nat}, (∀ j, j < k → p j = false) → gl p c k = []
  | 0, _ => rfl
  | k + 1, h => by
    show gl p c k ++ (if p k then c k else []) = []
    rw [gl_none fun j hj => h j (by omega), h k (by omega)]
    rfl
theorem gl_head {p : Nat → Bool} {k : Nat} (hp : p k = true) (hl : ∀ j, j < k → p j = false) : ∀ m, (gl p ogC (k + 1 + m)).getD 0 undef = .int .i64 k
  | 0 => by
    show (gl p ogC k ++ (if p k then ogC k else [])).getD 0 undef = _
    rw [gl_none hl, hp]
    rfl
  | m + 1 => by
    have ih := gl_head hp hl m
    show (gl p ogC (k + 1 + m) ++ (if p (k + 1 + m) then ogC (k + 1 + m) else [])).getD 0 undef = _
    have hne : 0 < (gl p ogC (k + 1 + m)).length := by
      cases hg : gl p ogC (k + 1 + m) with
      | nil => rw [hg] at ih; cases ih
      | cons => simp
    rw [List.getD_eq_getElem?_getD, List.getElem?_append_left hne, ← List.getD_eq_getElem?_getD]
    exact ih
/-- The first of the members of a set. -/
theorem sL_first {s k : Nat} (hk : k < 16) (h : s.testBit k = true) : ∃ j, j ≤ k ∧ (sL s).getD 0 undef = .int .i64 (j : Nat) ∧ (j = k ↔ ∀ i, i < k → s.testBit i = false) := by
  have key : ∀ m, m ≤ k → (∃ j, j < m ∧ s.testBit j = true ∧ ∀ i, i < j → s.testBit i = false) ∨ ∀ i, i < m → s.testBit i = false := by
    intro m
    induction m with
    | zero => exact fun _ => .inr fun i hi => absurd hi (Nat.not_lt_zero _)
    | succ m ih =>
      intro hm
      rcases ih (by omega) with ⟨j, h1, h2⟩ | h1
      · exact .inl ⟨j, by omega, h2⟩
      · cases hb : s.testBit m with
        | true => exact .inl ⟨m, by omega, hb, h1⟩
        | false =>
          refine .inr fun i hi => ?_
          rcases Nat.lt_or_eq_of_le (Nat.le_of_lt_succ hi) with h2 | rfl
          · exact h1 i h2
          · exact hb
  rcases key k (Nat.le_refl _) with ⟨j, h1, h2, h3⟩ | h1
  · refine ⟨j, by omega, ?_, fun e => by omega, fun hh => ?_⟩
    · have := gl_head (p := fun x => s.testBit x) h2 h3 (16 - (j + 1))
      rw [show j + 1 + (16 - (j + 1)) = 16 by omega] at this
      exact this
    · rw [hh j h1] at h2
      cases h2
  · refine ⟨k, Nat.le_refl _, ?_, fun _ => h1, fun _ => rfl⟩
    have := gl_head (p := fun x => s.testBit x) h h1 (16 - (k + 1))
    rw [show k + 1 + (16 - (k + 1)) = 16 by omega] at this
    exact this
end Go.Proofs.Z

namespace Go.Proofs.Z
open Go Go.RowKit Go.Proofs Go.Ri Go.Proofs.Z.Fa
/-! split, sets, lists: runs. -/
abbrev fSplit : Nat := 74
abbrev tInts : Nat := 32
/-! split: 10 done, 11 the set of this one, 12 only this one, 13 done then; lists: 9 the set, 20 so far, 21 then -/
noncomputable def ptD (c : Bool) : List RV := [fellR, fnA c]
def ptB (c : Bool) : Nat := if c then 3 else 2
noncomputable def ptP (c ne : Bool) : St := ⟨patW [(1, fnP c), (2, spR c), (5, if ne then .slN (ptB c) 20 1 else nilR), (6, sU 10), (10, sI 0), (11, sI 2)] 33 0, spH c ++ if ne then [some (.lstL 20 tInts 1)] else []⟩
def ptS (r u : RV) (j : Nat) : List SE := [.int 2 r, .int 10 u, .int 0 (sI 0), .int 1 (sI 1), .int 8 (sI 8), .lst 0 0, .lst 20 j]
noncomputable def ptN (c : Bool) : List Nat := if c then [0, 1, 2] else [0, 1]
noncomputable def ptL (c : Bool) : Code := hB spE [] fSplit (ptD c)
noncomputable def ptK (c : Bool) : List Fr := hK spE [] fSplit (ptD c)
def ptT (b : Bool) : List TE := [⟨.bin .lss, sI 2, sI 0, bR b⟩, ⟨.bin .add, sI 2, lI 1, sI 7⟩, ⟨.bin .or, sU 10, sU 11, sU 13⟩]
noncomputable def ptTb (c ne : Bool) (q : Bool) : Tb := { T := ptT true, Y := [⟨fHas, [sU 10, sI 2], bR q⟩, ⟨fOnly, [sI 2], sU 12⟩], C := [⟨fSpread, [fellR, sU 12, fnA c], sU 11⟩], Q := [⟨fSetList, [sU 11], (lstA1 false).1, (lstA1 false).2⟩], LNA := if q then [] else [⟨if ne then some 20 else none, 9, 21⟩] }
set_option maxRecDepth 100000 in
theorem pt_enter : (all2 fun c => enterT spE [] fSplit (ptD c) (ptS (lI 0) (.pl (.int .u16 0)) 20) (ptN c) (ptP c false)) = true := by kernel_rfl
set_option maxRecDepth 100000 in
theorem pt_skip : (all2 fun c => all2 fun ne => againT (ptTb c ne true) [] (ptL c) (ptK c) (ptP c ne) (ptS (sI 7) (sU 10) 20) (ptN c ++ if ne then [ptB c] else []) (ptP c ne)) = true := by kernel_rfl
set_option maxRecDepth 100000 in
theorem pt_again : (all2 fun c => all2 fun ne => againT (ptTb c ne false) [] (ptL c) (ptK c) (ptP c ne) (ptS (sI 7) (sU 13) 21) (ptN c ++ [ptB c + (if ne then 3 else 2)]) (ptP c true)) = true := by kernel_rfl
set_option maxRecDepth 100000 in
theorem pt_out : (all2 fun c => outQ { T := ptT false } [] fSplit (ptL c) (ptK c) (ptP c true) [.lst 20 20] [ptB c] (.slN 0 20 1) [some (.lstL 20 tInts 1)]) = true := by kernel_rfl
/-! sets -/
/-! lists: 1 how many, 2 the place; lists: 20, 22 the element -/
end Go.Proofs.Z

namespace Go.Proofs.Z
open Go Go.RowKit Go.Proofs Go.Ri Go.Proofs.Z.Fa
/-! split, sets, lists: contracts. -/
theorem ptG_ne {l : List Value} {n : Nat} {e : Nat → Bool} : ∀ m, ptG l n e (m + 1) ≠ []
  | 0 => by
    have h : ptF l n e 0 = true := by unfold ptF dnS; simp
    show gl (ptF l n e) (ptC l n e) 0 ++ (if ptF l n e 0 then ptC l n e 0 else []) ≠ []
    rw [h]
    exact fun h => by cases h
  | m + 1 => by
    show ptG l n e (m + 1) ++ _ ≠ []
    exact fun h => ptG_ne m (List.append_eq_nil_iff.1 h).1
theorem ptG_len (l : List Value) (n : Nat) (e : Nat → Bool) (m : Nat) : (ptG l n e m).length ≤ 1 * m := gl_len (s := 1) (fun _ => rfl) m
theorem ptG_succ (l : List Value) (n : Nat) (e : Nat → Bool) (m : Nat) : ptG l n e (m + 1) = ptG l n e m ++ if ptF l n e m then ptC l n e m else [] := rfl
theorem sL_ints' (s : Nat) : ints (sL s) := gl_mem (Q := fun v => ∃ n, v = .int .i64 n) (fun k => fa ⟨k, rfl⟩ fz) 16
theorem sL_ne {s k : Nat} (hk : k < 16) (h : s.testBit k = true) : (sL s).isEmpty = false := by
  obtain ⟨j, _, h2, _⟩ := sL_first hk h
  cases hq : sL s with
  | nil => rw [hq] at h2; cases h2
  | cons => rfl
section
variable (V : Val) {G : Int} {l : List Value} {n : Nat} {d : Int}
noncomputable def ptnm (G : Int) (l : List Value) (n : Nat) (d : Int) (e : Nat → Bool) (k : Nat) : Nm := gnm G l n k (fun i => if i = 8 then d else if i = 10 then (dnS l n e k : Int) else if i = 11 then (clS l n e (2 ^ k) : Int) else if i = 12 then ((2 ^ k : Nat) : Int) else ((dnS l n e k ||| clS l n e (2 ^ k) : Nat) : Int)) ny (fun i => if i = 9 then sL (clS l n e (2 ^ k)) else if i = 20 then ptG l n e k else ptG l n e (k + 1))
theorem ptS_ok (e : Nat → Bool) (k k' : Nat) {r u : RV} {j : Nat} (W W' : Nat → Value) (h2 : @cv ((ptnm G l n d e k).val W) r = .int .i64 (k' : Int)) (h10 : @cv ((ptnm G l n d e k).val W) u = .int .u16 (dnS l n e k' : Int)) (h20 : ptG l n e k' = (ptnm G l n d e k).L j) : ∀ q, q ∈ ptS r u j → okSE ((ptnm G l n d e k).val W) ((ptnm G l n d e k').val W') q :=
  fa ⟨.i64, (k' : Int), h2, rfl⟩ (fa ⟨.u16, (dnS l n e k' : Int), h10, rfl⟩ (fa ⟨.i64, G, rfl, rfl⟩ (fa ⟨.i64, (n : Int), rfl, rfl⟩ (fa ⟨.i64, d, rfl, rfl⟩ (fa (show l = l from rfl) (fa h20 fz))))))
theorem split_q (c : Bool) (hG : V.I 0 = G) (hL : V.L 0 = l) (hl : ints l) (hn : l.length = n * 4) (hva : validM G l n = true) (hd : V.I 8 = d) (hd0 : c = true → 0 ≤ d) (h20 : V.L 20 = ptG l n (srv c l d) G.toNat) :
    @QNTrue V ⟨fSplit, [fellR, fnA c], .slN 0 20 1, [some (.lstL 20 tInts 1)]⟩ := by
  intro w hr vs hv
  have hg := (validM_iff _ _ _).1 hva
  obtain ⟨N, hN⟩ : ∃ N, N = G.toNat := ⟨_, rfl⟩
  have hN1 : 1 ≤ N := by omega
  have hN2 : N ≤ 16 := by omega
  rw [← hN] at h20
  obtain ⟨e, he⟩ : ∃ e, e = srv c l d := ⟨_, rfl⟩
  rw [← he] at h20
  have hv : All2 (@Go.Ri.NVal ((ptnm G l n d e 0).val fun _ => undef) w) (ptD c) vs := by
    cases hv with
    | cons h1 h2 => cases h2 with
      | cons h2 h3 =>
        cases h3
        exact .cons (fell_nval1 hG hL h1) (.cons (fn_nval c (hd.trans rfl) h2) .nil)
  have ht0 : @TbOK ((ptnm G l n d e 0).val fun _ => undef) spE := by
    letI : Val := (ptnm G l n d e 0).val fun _ => undef
    exact { LL := hLL_ok _ _ _ hn 0 _ }
  refine fn_loop (κ := Bool) (ptnm G l n d e 0) (fun _ => undef) spE [] fSplit (ptD c) (ptP c) (fun m ne cc => ∃ k, k ≤ N ∧ m = N - k ∧ cc = ptnm G l n d e k ∧ ne = !(ptG l n e k).isEmpty) ht0 (ptS (lI 0) (.pl (.int .u16 0)) 20) (ptN c) false N (all2_all pt_enter c) (ptnm G l n d e 0) (fun W' => holds_all (ptS_ok e 0 0 _ W' rfl rfl rfl)) ⟨0, Nat.zero_le _, rfl, rfl, rfl⟩ (DQ V (.slN 0 20 1) [some (.lstL 20 tInts 1)]) ?_ w hr vs hv
  rintro w m ne cc ⟨k, hk, rfl, rfl, rfl⟩ W
  rcases Nat.lt_or_ge k N with hlt | hge
  · have hk16 : k < 16 := by omega
    have hT : ∀ q, q ∈ ptT true → @TETrue ((ptnm G l n d e k).val W) q := by
      letI : Val := (ptnm G l n d e k).val W
      exact fa (f_lss (k := .i64) (m := (k : Int)) (n := G) rfl rfl (decide_eq_true (by omega))) (fa (f_add1 (m := (k : Int)) rfl rfl rfl (by omega) (by omega)) (fa (f_bin rfl rfl rfl rfl (t_or16 (dnS_lt l n e k) (clS_lt l n e _))) fz))
    have hhas := has_ans (dnS_lt l n e k) hk16
    have hsp := spread_ans ((ptnm G l n d e k).val W) (G := G) (l := l) (n := n) (d := d) c rfl rfl hl hn hva rfl hd0 (s := 2 ^ k) (pow_lt16 hk16) (x := sU 12) rfl rfl
    rw [← he] at hsp
    have hli := setList_q ((ptnm G l n d e k).val W) (s := clS l n e (2 ^ k)) (clS_lt l n e _) rfl
    rw [sL_ne hk16 (kl_self hva hk16)] at hli
    have tb : ∀ q, (dnS l n e k).testBit k = q → @TbOK ((ptnm G l n d e k).val W) (ptTb c (!(ptG l n e k).isEmpty) q) := fun q hq => by
      letI : Val := (ptnm G l n d e k).val W
      rw [hq] at hhas
      refine { T := hT, Y := fa hhas (fa (only_ans hk16) fz), C := fa hsp fz, Q := fa hli fz, LNA := ?_ }
      show ∀ x, x ∈ (if q then [] else [⟨if (!(ptG l n e k).isEmpty) = true then some 20 else none, 9, 21⟩] : List LNL) → _
      cases q with
      | true => exact fz
      | false =>
        have hF : ptF l n e k = true := by unfold ptF; rw [hq]; rfl
        have hs := ptG_succ l n e k
        rw [hF, if_pos rfl] at hs
        refine fa ⟨?_, ?_⟩ fz
        · show ptG l n e (k + 1) = _
          rw [hs]
          cases hE : (ptG l n e k).isEmpty with
          | false => rfl
          | true =>
            rw [List.isEmpty_iff.1 hE]
            rfl
        · show (ptG l n e (k + 1)).length ≤ 1000000
          have := ptG_len l n e (k + 1)
          omega
    cases hq : (dnS l n e k).testBit k with
    | true =>
      have hF : ptF l n e k = false := by unfold ptF; rw [hq]; rfl
      have hs := ptG_succ l n e k
      rw [hF, if_neg (by decide), List.append_nil] at hs
      have hd1 : dnS l n e (k + 1) = dnS l n e k := by
        show (if (dnS l n e k).testBit k then _ else _) = _
        rw [if_pos hq]
      refine step_to _ [] (tb true hq) (ptS (sI 7) (sU 10) 20) _ _ (ptnm G l n d e (k + 1)) (all2_all (all2_all pt_skip c) (!(ptG l n e k).isEmpty)) (fun W' => holds_all (ptS_ok e k (k + 1) W W' rfl (by rw [hd1]; rfl) (hs.trans rfl))) ⟨N - (k + 1), by omega, k + 1, hlt, rfl, rfl, by rw [hs]⟩
    | false =>
      have hd1 : dnS l n e (k + 1) = dnS l n e k ||| clS l n e (2 ^ k) := by
        show (if (dnS l n e k).testBit k then _ else _) = _
        rw [if_neg (by rw [hq]; decide)]
      refine step_to _ [] (tb false hq) (ptS (sI 7) (sU 13) 21) _ _ (ptnm G l n d e (k + 1)) (all2_all (all2_all pt_again c) (!(ptG l n e k).isEmpty)) (fun W' => holds_all (ptS_ok e k (k + 1) W W' rfl (by rw [hd1]; rfl) rfl)) ⟨N - (k + 1), by omega, k + 1, hlt, rfl, rfl, ?_⟩
      have := ptG_ne (l := l) (n := n) (e := e) k
      cases hE : ptG l n e (k + 1) with
      | nil => exact absurd hE this
      | cons => rfl
  · obtain rfl : k = N := by omega
    have hE : (ptG l n e k).isEmpty = false := by
      obtain ⟨m, rfl⟩ : ∃ m, k = m + 1 := ⟨k - 1, by omega⟩
      cases hE : ptG l n e (m + 1) with
      | nil => exact absurd hE (ptG_ne m)
      | cons => rfl
    have ht : @TbOK ((ptnm G l n d e k).val W) { T := ptT false } := by
      letI : Val := (ptnm G l n d e k).val W
      exact { T := fa (f_lss (k := .i64) (m := (k : Int)) (n := G) rfl rfl (decide_eq_false (by omega))) (fa (f_add1 (m := (k : Int)) rfl rfl rfl (by omega) (by omega)) (fa (f_bin rfl rfl rfl rfl (t_or16 (dnS_lt l n e k) (clS_lt l n e _))) fz)) }
    rw [hE]
    exact step_outQ _ [] ht V _ _ _ _ (all2_all pt_out c) rfl (holds_all (fa h20 fz))
end
end Go.Proofs.Z
