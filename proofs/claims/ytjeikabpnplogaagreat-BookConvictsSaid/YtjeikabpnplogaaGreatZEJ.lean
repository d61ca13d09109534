/- A part of the proofs that the laws of layer eight answer true for every input. -/
import Derived.Test.YtjeikabpnplogaaGreatZEGa
import Derived.Test.YtjeikabpnplogaaGreatZEGb
import Derived.Test.YtjeikabpnplogaaGreatZEGc
import Derived.Test.YtjeikabpnplogaaGreatZEGd
import Derived.Test.YtjeikabpnplogaaGreatZEGe
import Derived.Test.YtjeikabpnplogaaGreatZEGf
namespace Go.Proofs.Z
open Go Go.RowKit Go.Proofs Go.Ri Go.Proofs.Z.Fa
/-! The law BookConvicts: its tables are true. -/
def bcX (A B : Ent) (st : Nat → Int) (i k e80 e81 e82 : Int) (m : Nat) : Int := if m = 630 then i else if m = 631 then k else if m = 80 then e80 else if m = 81 then e81 else if m = 82 then e82 else prI A B st 0 0 0 m
def bcT (A B : Ent) (m : Nat) : ByteArray := if m = 1 then A.s else B.s
def bcZ (l9 l20 l22 : List Value) (m : Nat) : List Value := if m = 9 then l9 else if m = 20 then l20 else l22
section
variable {sd P N S : Int} {n : Nat} {it : Nat → Itm} {A B : Ent} {st : Nat → Int} {i k e80 e81 e82 : Int} {l9 l20 l22 : List Value}
theorem bc9 : ((wdNm sd P N S n 0 (itL it n) (bcX A B st i k e80 e81 e82) (bcT A B) (bcZ l9 l20 l22)).val fun _ => undef).L 9 = l9 := rfl
theorem bc20 : ((wdNm sd P N S n 0 (itL it n) (bcX A B st i k e80 e81 e82) (bcT A B) (bcZ l9 l20 l22)).val fun _ => undef).L 20 = l20 := rfl
theorem bcX_pr {m : Nat} (h : m < 80 ∨ (82 < m ∧ m < 600)) : wdI sd P N S n 0 (bcX A B st i k e80 e81 e82) m = prI A B st 0 0 0 m := by
  rw [wdI_x (by omega)]
  unfold bcX
  rw [if_neg (by omega), if_neg (by omega), if_neg (by omega), if_neg (by omega), if_neg (by omega)]
theorem bc630 : @cv ((wdNm sd P N S n 0 (itL it n) (bcX A B st i k e80 e81 e82) (bcT A B) (bcZ l9 l20 l22)).val fun _ => undef) (sI 630) = .int .i64 i := congrArg (Value.int .i64) ((show wdI sd P N S n 0 (bcX A B st i k e80 e81 e82) 630 = (bcX A B st i k e80 e81 e82) 630 from wdI_x (by omega)).trans (by simp [bcX]))
theorem bc631 : @cv ((wdNm sd P N S n 0 (itL it n) (bcX A B st i k e80 e81 e82) (bcT A B) (bcZ l9 l20 l22)).val fun _ => undef) (sI 631) = .int .i64 k := congrArg (Value.int .i64) ((show wdI sd P N S n 0 (bcX A B st i k e80 e81 e82) 631 = (bcX A B st i k e80 e81 e82) 631 from wdI_x (by omega)).trans (by simp [bcX]))
theorem bc80 : @cv ((wdNm sd P N S n 0 (itL it n) (bcX A B st i k e80 e81 e82) (bcT A B) (bcZ l9 l20 l22)).val fun _ => undef) (sI 80) = .int .i64 e80 := congrArg (Value.int .i64) ((show wdI sd P N S n 0 (bcX A B st i k e80 e81 e82) 80 = (bcX A B st i k e80 e81 e82) 80 from wdI_x (by omega)).trans (by simp [bcX]))
theorem bc81 : @cv ((wdNm sd P N S n 0 (itL it n) (bcX A B st i k e80 e81 e82) (bcT A B) (bcZ l9 l20 l22)).val fun _ => undef) (sI 81) = .int .i64 e81 := congrArg (Value.int .i64) ((show wdI sd P N S n 0 (bcX A B st i k e80 e81 e82) 81 = (bcX A B st i k e80 e81 e82) 81 from wdI_x (by omega)).trans (by simp [bcX]))
theorem bc82 : @cv ((wdNm sd P N S n 0 (itL it n) (bcX A B st i k e80 e81 e82) (bcT A B) (bcZ l9 l20 l22)).val fun _ => undef) (sI 82) = .int .i64 e82 := congrArg (Value.int .i64) ((show wdI sd P N S n 0 (bcX A B st i k e80 e81 e82) 82 = (bcX A B st i k e80 e81 e82) 82 from wdI_x (by omega)).trans (by simp [bcX]))
theorem bc50 : @cv ((wdNm sd P N S n 0 (itL it n) (bcX A B st i k e80 e81 e82) (bcT A B) (bcZ l9 l20 l22)).val fun _ => undef) (sI 50) = .int .i64 A.p := congrArg (Value.int .i64) ((show wdI sd P N S n 0 (bcX A B st i k e80 e81 e82) 50 = prI A B st 0 0 0 50 from bcX_pr (by omega)).trans (by simp [prI]))
theorem bc51 : @cv ((wdNm sd P N S n 0 (itL it n) (bcX A B st i k e80 e81 e82) (bcT A B) (bcZ l9 l20 l22)).val fun _ => undef) (sI 51) = .int .i64 A.n := congrArg (Value.int .i64) ((show wdI sd P N S n 0 (bcX A B st i k e80 e81 e82) 51 = prI A B st 0 0 0 51 from bcX_pr (by omega)).trans (by simp [prI]))
theorem bc60 : @cv ((wdNm sd P N S n 0 (itL it n) (bcX A B st i k e80 e81 e82) (bcT A B) (bcZ l9 l20 l22)).val fun _ => undef) (sI 60) = .int .i64 B.p := congrArg (Value.int .i64) ((show wdI sd P N S n 0 (bcX A B st i k e80 e81 e82) 60 = prI A B st 0 0 0 60 from bcX_pr (by omega)).trans (by simp [prI]))
theorem bc61 : @cv ((wdNm sd P N S n 0 (itL it n) (bcX A B st i k e80 e81 e82) (bcT A B) (bcZ l9 l20 l22)).val fun _ => undef) (sI 61) = .int .i64 B.n := congrArg (Value.int .i64) ((show wdI sd P N S n 0 (bcX A B st i k e80 e81 e82) 61 = prI A B st 0 0 0 61 from bcX_pr (by omega)).trans (by simp [prI]))
theorem bcU0 : @cv ((wdNm sd P N S n 0 (itL it n) (bcX A B st i k e80 e81 e82) (bcT A B) (bcZ l9 l20 l22)).val fun _ => undef) (sU 0) = .int .u64 A.x := congrArg (Value.int .u64) ((show wdI sd P N S n 0 (bcX A B st i k e80 e81 e82) 0 = prI A B st 0 0 0 0 from bcX_pr (by omega)).trans (by simp [prI]))
theorem bcU1 : @cv ((wdNm sd P N S n 0 (itL it n) (bcX A B st i k e80 e81 e82) (bcT A B) (bcZ l9 l20 l22)).val fun _ => undef) (sU 1) = .int .u64 B.x := congrArg (Value.int .u64) ((show wdI sd P N S n 0 (bcX A B st i k e80 e81 e82) 1 = prI A B st 0 0 0 1 from bcX_pr (by omega)).trans (by simp [prI]))
theorem bcse_a (j : Nat) (hj : j < 16) : wdI sd P N S n 0 (bcX A B st i k e80 e81 e82) (300 + j) = A.se j := (bcX_pr (by omega)).trans (pr_a j hj)
theorem bcse_b (j : Nat) (hj : j < 16) : wdI sd P N S n 0 (bcX A B st i k e80 e81 e82) (320 + j) = B.se j := (bcX_pr (by omega)).trans (pr_b j)
theorem bc_st (j : Nat) (hj : j < 32) : wdI sd P N S n 0 (bcX A B st i k e80 e81 e82) (200 + j) = st j := (bcX_pr (by omega)).trans (by
  unfold prI
  rw [if_neg (by omega), if_neg (by omega), if_neg (by omega), if_neg (by omega), if_neg (by omega), if_neg (by omega), if_neg (by omega), if_neg (by omega), if_neg (by omega), if_pos (by omega), Nat.add_sub_cancel_left])
theorem bcA_cs : entK.map (@cv ((wdNm sd P N S n 0 (itL it n) (bcX A B st i k e80 e81 e82) (bcT A B) (bcZ l9 l20 l22)).val fun _ => undef)) = A.cs := @ent_cells ((wdNm sd P N S n 0 (itL it n) (bcX A B st i k e80 e81 e82) (bcT A B) (bcZ l9 l20 l22)).val fun _ => undef) [sI 50, sI 51, sU 0, sT 1] ((List.range 16).map fun i => sU (300 + i)) A.p A.n A.x A.s A.se (@cv4 ((wdNm sd P N S n 0 (itL it n) (bcX A B st i k e80 e81 e82) (bcT A B) (bcZ l9 l20 l22)).val fun _ => undef) _ _ _ _ _ _ _ _ bc50 bc51 bcU0 rfl) (@ss_cv ((wdNm sd P N S n 0 (itL it n) (bcX A B st i k e80 e81 e82) (bcT A B) (bcZ l9 l20 l22)).val fun _ => undef) 300 A.se bcse_a)
theorem bcB_cs : enfK.map (@cv ((wdNm sd P N S n 0 (itL it n) (bcX A B st i k e80 e81 e82) (bcT A B) (bcZ l9 l20 l22)).val fun _ => undef)) = B.cs := @ent_cells ((wdNm sd P N S n 0 (itL it n) (bcX A B st i k e80 e81 e82) (bcT A B) (bcZ l9 l20 l22)).val fun _ => undef) [sI 60, sI 61, sU 1, sT 2] ((List.range 16).map fun i => sU (320 + i)) B.p B.n B.x B.s B.se (@cv4 ((wdNm sd P N S n 0 (itL it n) (bcX A B st i k e80 e81 e82) (bcT A B) (bcZ l9 l20 l22)).val fun _ => undef) _ _ _ _ _ _ _ _ bc60 bc61 bcU1 rfl) (@ss_cv ((wdNm sd P N S n 0 (itL it n) (bcX A B st i k e80 e81 e82) (bcT A B) (bcZ l9 l20 l22)).val fun _ => undef) 320 B.se bcse_b)
theorem bc_A : @cv1 ((wdNm sd P N S n 0 (itL it n) (bcX A B st i k e80 e81 e82) (bcT A B) (bcZ l9 l20 l22)).val fun _ => undef) entR = A.val := congrArg (fun z : List Value => Value.agg z.toArray) bcA_cs
theorem bc_B : @cv1 ((wdNm sd P N S n 0 (itL it n) (bcX A B st i k e80 e81 e82) (bcT A B) (bcZ l9 l20 l22)).val fun _ => undef) en2R = B.val := congrArg (fun z : List Value => Value.agg z.toArray) bcB_cs
theorem bc_sk : skC.map (@cv ((wdNm sd P N S n 0 (itL it n) (bcX A B st i k e80 e81 e82) (bcT A B) (bcZ l9 l20 l22)).val fun _ => undef)) = stCs st := by
  unfold skC stCs
  rw [List.map_map]
  exact List.map_congr_left fun j hj => congrArg (Value.int .u64) (bc_st j (List.mem_range.1 hj))
def bcSt (has : Bool) (st : Nat → Int) : Nat → Int := if has then st else fun _ => 0
theorem bc_stk (has : Bool) : @cv1 ((wdNm sd P N S n 0 (itL it n) (bcX A B st i k e80 e81 e82) (bcT A B) (bcZ l9 l20 l22)).val fun _ => undef) (.agg (bcS has)) = stkV (bcSt has st) := by
  cases has
  · show Value.agg (((List.range 32).map fun _ => lU 0).map (@cv ((wdNm sd P N S n 0 (itL it n) (bcX A B st i k e80 e81 e82) (bcT A B) (bcZ l9 l20 l22)).val fun _ => undef))).toArray = _
    rw [List.map_map]
    rfl
  · exact congrArg (fun z : List Value => Value.agg z.toArray) bc_sk
theorem bc_prf (v : Nat) : @cv1 ((wdNm sd P N S n 0 (itL it n) (bcX A B st i k e80 e81 e82) (bcT A B) (bcZ l9 l20 l22)).val fun _ => undef) (bcP v) = if Nat.beq v 0 then prV entZ entZ else if Nat.beq v 1 then prV A B else prV B A := by
  unfold bcP
  split
  · exact prR_cv (zenK_cv ((wdNm sd P N S n 0 (itL it n) (bcX A B st i k e80 e81 e82) (bcT A B) (bcZ l9 l20 l22)).val fun _ => undef)) (zenK_cv ((wdNm sd P N S n 0 (itL it n) (bcX A B st i k e80 e81 e82) (bcT A B) (bcZ l9 l20 l22)).val fun _ => undef))
  · split
    · exact prR_cv bcA_cs bcB_cs
    · exact prR_cv bcB_cs bcA_cs
theorem bc_pAB : @cv1 ((wdNm sd P N S n 0 (itL it n) (bcX A B st i k e80 e81 e82) (bcT A B) (bcZ l9 l20 l22)).val fun _ => undef) (prR entK enfK) = prV A B := prR_cv bcA_cs bcB_cs
/-- What is known of the answers: v, 0 no proof, 1 the entries as they are, 2 the other way round. -/
structure BcK (v : Nat) (A B : Ent) (st : Nat → Int) (e80 e81 e82 : Int) : Prop where
  c : ∀ q, Ans (cvF2 q) [stkV st, A.val, B.val] (tupC (if Nat.beq v 0 then prV entZ entZ else if Nat.beq v 1 then prV A B else prV B A) (!Nat.beq v 0) e80)
  p : ∀ q, Ans (cpF2 q) [stkV st, prV A B] (.int .i64 (if Nat.beq v 1 then 0 else e81))
  r : ∀ q, Ans (cpF2 q) [stkV st, if Nat.beq v 0 then prV entZ entZ else if Nat.beq v 1 then prV A B else prV B A] (.int .i64 (if Nat.beq v 0 then e82 else 0))
theorem bc_prfF (v : Nat) : @cvF ((wdNm sd P N S n 0 (itL it n) (bcX A B st i k e80 e81 e82) (bcT A B) (bcZ l9 l20 l22)).val fun _ => undef) (bcP v) = if Nat.beq v 0 then prV entZ entZ else if Nat.beq v 1 then prV A B else prV B A := by
  unfold bcP
  split
  · exact prR_cv (zenK_cv ((wdNm sd P N S n 0 (itL it n) (bcX A B st i k e80 e81 e82) (bcT A B) (bcZ l9 l20 l22)).val fun _ => undef)) (zenK_cv ((wdNm sd P N S n 0 (itL it n) (bcX A B st i k e80 e81 e82) (bcT A B) (bcZ l9 l20 l22)).val fun _ => undef))
  · split
    · exact prR_cv bcA_cs bcB_cs
    · exact prR_cv bcB_cs bcA_cs
theorem bc_tup (v : Nat) : @cvF ((wdNm sd P N S n 0 (itL it n) (bcX A B st i k e80 e81 e82) (bcT A B) (bcZ l9 l20 l22)).val fun _ => undef) (.tup [bcP v, bR (!Nat.beq v 0), sI 80]) = tupC (if Nat.beq v 0 then prV entZ entZ else if Nat.beq v 1 then prV A B else prV B A) (!Nat.beq v 0) e80 := by
  show Value.tuple #[@cv1 ((wdNm sd P N S n 0 (itL it n) (bcX A B st i k e80 e81 e82) (bcT A B) (bcZ l9 l20 l22)).val fun _ => undef) (bcP v), .bool (!Nat.beq v 0), @cv ((wdNm sd P N S n 0 (itL it n) (bcX A B st i k e80 e81 e82) (bcT A B) (bcZ l9 l20 l22)).val fun _ => undef) (sI 80)] = _
  rw [bc_prf, bc80]
  rfl
theorem bcY_true {has : Bool} {v : Nat} (h : BcK v A B (bcSt has st) e80 e81 e82) : ∀ t, t ∈ bcY has v → Ans t.f (t.a.map (@cvF ((wdNm sd P N S n 0 (itL it n) (bcX A B st i k e80 e81 e82) (bcT A B) (bcZ l9 l20 l22)).val fun _ => undef))) (@cvF ((wdNm sd P N S n 0 (itL it n) (bcX A B st i k e80 e81 e82) (bcT A B) (bcZ l9 l20 l22)).val fun _ => undef) t.r) := by
  have hc := h.c
  have hp := h.p
  have hr := h.r
  have eS : @cvF ((wdNm sd P N S n 0 (itL it n) (bcX A B st i k e80 e81 e82) (bcT A B) (bcZ l9 l20 l22)).val fun _ => undef) (.agg (bcS has)) = stkV (bcSt has st) := bc_stk has
  have eA : @cvF ((wdNm sd P N S n 0 (itL it n) (bcX A B st i k e80 e81 e82) (bcT A B) (bcZ l9 l20 l22)).val fun _ => undef) entR = A.val := bc_A
  have eB : @cvF ((wdNm sd P N S n 0 (itL it n) (bcX A B st i k e80 e81 e82) (bcT A B) (bcZ l9 l20 l22)).val fun _ => undef) en2R = B.val := bc_B
  have eQ : @cvF ((wdNm sd P N S n 0 (itL it n) (bcX A B st i k e80 e81 e82) (bcT A B) (bcZ l9 l20 l22)).val fun _ => undef) (prR entK enfK) = prV A B := bc_pAB
  have eP := bc_prfF (sd := sd) (P := P) (N := N) (S := S) (n := n) (it := it) (A := A) (B := B) (st := st) (i := i) (k := k) (e80 := e80) (e81 := e81) (e82 := e82) (l9 := l9) (l20 := l20) (l22 := l22) v
  have eT := bc_tup (sd := sd) (P := P) (N := N) (S := S) (n := n) (it := it) (A := A) (B := B) (st := st) (i := i) (k := k) (e80 := e80) (e81 := e81) (e82 := e82) (l9 := l9) (l20 := l20) (l22 := l22) v
  have e1 : @cvF ((wdNm sd P N S n 0 (itL it n) (bcX A B st i k e80 e81 e82) (bcT A B) (bcZ l9 l20 l22)).val fun _ => undef) (if Nat.beq v 1 then lI 0 else sI 81) = .int .i64 (if Nat.beq v 1 then 0 else e81) := by
    split
    · rfl
    · exact bc81
  have e2 : @cvF ((wdNm sd P N S n 0 (itL it n) (bcX A B st i k e80 e81 e82) (bcT A B) (bcZ l9 l20 l22)).val fun _ => undef) (if Nat.beq v 0 then sI 82 else lI 0) = .int .i64 (if Nat.beq v 0 then e82 else 0) := by
    split
    · exact bc82
    · rfl
  have k1 : ∀ f, Ans f [stkV (bcSt has st), A.val, B.val] (tupC (if Nat.beq v 0 then prV entZ entZ else if Nat.beq v 1 then prV A B else prV B A) (!Nat.beq v 0) e80) → Ans f ([.agg (bcS has), entR, en2R].map (@cvF ((wdNm sd P N S n 0 (itL it n) (bcX A B st i k e80 e81 e82) (bcT A B) (bcZ l9 l20 l22)).val fun _ => undef))) (@cvF ((wdNm sd P N S n 0 (itL it n) (bcX A B st i k e80 e81 e82) (bcT A B) (bcZ l9 l20 l22)).val fun _ => undef) (.tup [bcP v, bR (!Nat.beq v 0), sI 80])) := fun f hf => by
    rw [List.map_cons, List.map_cons, List.map_cons, List.map_nil, eS, eA, eB, eT]
    exact hf
  have k2 : ∀ f, Ans f [stkV (bcSt has st), prV A B] (.int .i64 (if Nat.beq v 1 then 0 else e81)) → Ans f ([.agg (bcS has), prR entK enfK].map (@cvF ((wdNm sd P N S n 0 (itL it n) (bcX A B st i k e80 e81 e82) (bcT A B) (bcZ l9 l20 l22)).val fun _ => undef))) (@cvF ((wdNm sd P N S n 0 (itL it n) (bcX A B st i k e80 e81 e82) (bcT A B) (bcZ l9 l20 l22)).val fun _ => undef) (if Nat.beq v 1 then lI 0 else sI 81)) := fun f hf => by
    rw [List.map_cons, List.map_cons, List.map_nil, eS, eQ, e1]
    exact hf
  have k3 : ∀ f, Ans f [stkV (bcSt has st), if Nat.beq v 0 then prV entZ entZ else if Nat.beq v 1 then prV A B else prV B A] (.int .i64 (if Nat.beq v 0 then e82 else 0)) → Ans f ([.agg (bcS has), bcP v].map (@cvF ((wdNm sd P N S n 0 (itL it n) (bcX A B st i k e80 e81 e82) (bcT A B) (bcZ l9 l20 l22)).val fun _ => undef))) (@cvF ((wdNm sd P N S n 0 (itL it n) (bcX A B st i k e80 e81 e82) (bcT A B) (bcZ l9 l20 l22)).val fun _ => undef) (if Nat.beq v 0 then sI 82 else lI 0)) := fun f hf => by
    rw [List.map_cons, List.map_cons, List.map_nil, eS, eP, e2]
    exact hf
  clear eS eA eB eQ eP eT e1 e2
  intro t ht
  rcases List.mem_append.1 ht with ht | ht
  · rcases List.mem_cons.1 ht with rfl | ht
    · exact k1 _ (hc true)
    · rcases List.mem_cons.1 ht with rfl | ht
      · exact k1 _ (hc false)
      · cases ht
  · rcases List.mem_append.1 ht with ht | ht
    · rcases List.mem_cons.1 ht with rfl | ht
      · exact k2 _ (hp true)
      · rcases List.mem_cons.1 ht with rfl | ht
        · exact k2 _ (hp false)
        · cases ht
    · rcases List.mem_cons.1 ht with rfl | ht
      · exact k3 _ (hr true)
      · rcases List.mem_cons.1 ht with rfl | ht
        · exact k3 _ (hr false)
        · cases ht
/-- The class of an entry for Has. -/
def haCls (P N : Int) (A : Ent) : Nat := if A.cls < 5 then 0 else if P ≤ A.p then 1 else if N ≤ A.n then 2 else 3
theorem haCls_le (P N : Int) (A : Ent) : haCls P N A ≤ 3 := by
  unfold haCls
  split
  · omega
  · split
    · omega
    · split <;> omega
theorem has_ans (hP : 1 ≤ P ∧ P ≤ 3) (hN : 1 ≤ N ∧ N ≤ 6) (h20 : l20 = outM sd N.toNat P.toNat) (h22 : l22 = rowM sd A.p.toNat N.toNat) : @AnsN ((wdNm sd P N S n 0 (itL it n) (bcX A B st i k e80 e81 e82) (bcT A B) (bcZ l9 l20 l22)).val fun _ => undef) fHas haD (.bool (Nat.beq (haCls P N A) 3)) := by
  intro w hr vs hv
  have hle := haCls_le P N A
  have q50 := bc50 (sd := sd) (P := P) (N := N) (S := S) (n := n) (it := it) (A := A) (B := B) (st := st) (i := i) (k := k) (e80 := e80) (e81 := e81) (e82 := e82) (l9 := l9) (l20 := l20) (l22 := l22)
  have q51 := bc51 (sd := sd) (P := P) (N := N) (S := S) (n := n) (it := it) (A := A) (B := B) (st := st) (i := i) (k := k) (e80 := e80) (e81 := e81) (e82 := e82) (l9 := l9) (l20 := l20) (l22 := l22)
  have q601 : @cv ((wdNm sd P N S n 0 (itL it n) (bcX A B st i k e80 e81 e82) (bcT A B) (bcZ l9 l20 l22)).val fun _ => undef) (sI 601) = .int .i64 P := w601
  have q602 : @cv ((wdNm sd P N S n 0 (itL it n) (bcX A B st i k e80 e81 e82) (bcT A B) (bcZ l9 l20 l22)).val fun _ => undef) (sI 602) = .int .i64 N := w602
  have hLL : ∀ t, t ∈ [(⟨20, 1, sI 601⟩ : LNE), ⟨22, 32, sI 602⟩] → @LLTrue ((wdNm sd P N S n 0 (itL it n) (bcX A B st i k e80 e81 e82) (bcT A B) (bcZ l9 l20 l22)).val fun _ => undef) t := by
    refine fa ⟨rfl, P.toNat, Nat.succ_pos 0, ?_, ?_⟩ (fa ⟨rfl, N.toNat, Nat.succ_pos 31, ?_, ?_⟩ fz)
    · show l20.length = _
      rw [h20, outM_len, Nat.mul_one]
    · show @cv ((wdNm sd P N S n 0 (itL it n) (bcX A B st i k e80 e81 e82) (bcT A B) (bcZ l9 l20 l22)).val fun _ => undef) (sI 601) = _
      rw [q601, Int.toNat_of_nonneg (by omega)]
    · show l22.length = _
      rw [h22, rowM_len]
    · show @cv ((wdNm sd P N S n 0 (itL it n) (bcX A B st i k e80 e81 e82) (bcT A B) (bcZ l9 l20 l22)).val fun _ => undef) (sI 602) = _
      rw [q602, Int.toNat_of_nonneg (by omega)]
  have hcls : A.cls ≤ 5 := eCls_le _ _ _
  have hval : Nat.beq A.cls 5 = !Nat.beq (haCls P N A) 0 := by
    unfold haCls
    by_cases h : A.cls < 5
    · rw [if_pos h]
      exact Bool.eq_false_iff.2 fun hb => by have := Nat.eq_of_beq_eq_true hb; omega
    · rw [if_neg h, show A.cls = 5 by omega]
      split
      · rfl
      · split <;> rfl
  have hY : ∀ t, t ∈ [(⟨fRValid, [entR], bR (!Nat.beq (haCls P N A) 0)⟩ : YE)] → Ans t.f (t.a.map (@cvF ((wdNm sd P N S n 0 (itL it n) (bcX A B st i k e80 e81 e82) (bcT A B) (bcZ l9 l20 l22)).val fun _ => undef))) (@cvF ((wdNm sd P N S n 0 (itL it n) (bcX A B st i k e80 e81 e82) (bcT A B) (bcZ l9 l20 l22)).val fun _ => undef) t.r) := by
    have y : Ans fRValid [@cv1 ((wdNm sd P N S n 0 (itL it n) (bcX A B st i k e80 e81 e82) (bcT A B) (bcZ l9 l20 l22)).val fun _ => undef) entR] (.bool (!Nat.beq (haCls P N A) 0)) := by
      rw [bc_A, ← hval]
      exact valid_ans
    exact fa y fz
  have h1 : 1 ≤ haCls P N A → 0 ≤ A.p ∧ decide (A.p < P) = !Nat.beq (haCls P N A) 1 := fun h => by
    unfold haCls at h ⊢
    by_cases h0 : A.cls < 5
    · rw [if_pos h0] at h
      omega
    · rw [if_neg h0]
      refine ⟨(eCls_in (show eCls A.p A.n A.s.size = 5 by unfold Ent.cls at *; omega)).1, ?_⟩
      by_cases hp : P ≤ A.p
      · rw [if_pos hp]
        exact decide_eq_false (by omega)
      · rw [if_neg hp, decide_eq_true (by omega)]
        split <;> rfl
  have h2 : 2 ≤ haCls P N A → A.p < P ∧ decide (A.n < N) = !Nat.beq (haCls P N A) 2 := fun h => by
    unfold haCls at h ⊢
    by_cases h0 : A.cls < 5
    · rw [if_pos h0] at h
      omega
    · rw [if_neg h0] at h ⊢
      by_cases hp : P ≤ A.p
      · rw [if_pos hp] at h
        omega
      · rw [if_neg hp]
        refine ⟨by omega, ?_⟩
        by_cases hn : N ≤ A.n
        · rw [if_pos hn]
          exact decide_eq_false (by omega)
        · rw [if_neg hn]
          exact decide_eq_true (by omega)
  generalize haCls P N A = m at *
  have hT : ∀ t, t ∈ haT m → @TETrue ((wdNm sd P N S n 0 (itL it n) (bcX A B st i k e80 e81 e82) (bcT A B) (bcZ l9 l20 l22)).val fun _ => undef) t := by
    refine fapp ?_ ?_
    · by_cases g : m < 1
      · rw [show Nat.blt m 1 = true from Nat.ble_eq_true_of_le g]
        exact fz
      · rw [show Nat.blt m 1 = false from Bool.eq_false_iff.2 fun hb => g (Nat.le_of_ble_eq_true hb)]
        exact fa (@f_lss ((wdNm sd P N S n 0 (itL it n) (bcX A B st i k e80 e81 e82) (bcT A B) (bcZ l9 l20 l22)).val fun _ => undef) _ _ _ _ _ _ q50 q601 (h1 (by omega)).2) fz
    · by_cases g : m < 2
      · rw [show Nat.blt m 2 = true from Nat.ble_eq_true_of_le g]
        exact fz
      · rw [show Nat.blt m 2 = false from Bool.eq_false_iff.2 fun hb => g (Nat.le_of_ble_eq_true hb)]
        refine fa ⟨rfl, .i64, .i64, A.p, P, q50, q601, ?_⟩ (fa (@f_lss ((wdNm sd P N S n 0 (itL it n) (bcX A B st i k e80 e81 e82) (bcT A B) (bcZ l9 l20 l22)).val fun _ => undef) _ _ _ _ _ _ q51 q602 (h2 (by omega)).2) fz)
        show Value.bool true = _
        congr 1
        exact (decide_eq_true ⟨(h1 (by omega)).1, (h2 (by omega)).1⟩).symm
  have hN2 : ∀ t, t ∈ (if Nat.blt m 2 then [] else ([⟨20, 50, 22⟩] : List LNX)) → @LNXTrue ((wdNm sd P N S n 0 (itL it n) (bcX A B st i k e80 e81 e82) (bcT A B) (bcZ l9 l20 l22)).val fun _ => undef) t := by
    by_cases g : m < 2
    · rw [show Nat.blt m 2 = true from Nat.ble_eq_true_of_le g]
      exact fz
    · rw [show Nat.blt m 2 = false from Bool.eq_false_iff.2 fun hb => g (Nat.le_of_ble_eq_true hb)]
      have a1 := (h1 (by omega)).1
      have a2 := (h2 (by omega)).1
      have e : wdI sd P N S n 0 (bcX A B st i k e80 e81 e82) 50 = A.p := (bcX_pr (by omega)).trans (by simp [prI])
      refine fa ?_ fz
      show l20[(wdI sd P N S n 0 (bcX A B st i k e80 e81 e82) 50).toNat]? = some (.agg l22.toArray)
      rw [e, h20, h22]
      exact outM_at sd N.toNat P.toNat (by omega)
  have ht : @TbOK ((wdNm sd P N S n 0 (itL it n) (bcX A B st i k e80 e81 e82) (bcT A B) (bcZ l9 l20 l22)).val fun _ => undef) (haA m) := by
    letI : Val := ((wdNm sd P N S n 0 (itL it n) (bcX A B st i k e80 e81 e82) (bcT A B) (bcZ l9 l20 l22)).val fun _ => undef)
    exact { T := hT, Y := hY, LL := hLL, LNE := hN2 }
  exact done_flat _ ht (allU_lt ha_run m (by omega)) rfl rfl rfl w hr vs hv
end
end Go.Proofs.Z

namespace Go.Proofs.Z
open Go Go.RowKit Go.Proofs Go.Ri Go.Proofs.Z.Fa
/-! BookConvicts answers true. -/
def ixTest (n : Nat) (i k : Int) (j : Nat) : Bool := if j = 0 then decide (0 ≤ i) else if j = 1 then decide (i < (n : Int)) else if j = 2 then decide (0 ≤ k) else decide (k < (n : Int))
def ixCls (n : Nat) (i k : Int) : Nat := firstBad (ixTest n i k) 4 0
theorem ixCls_le (n : Nat) (i k : Int) : ixCls n i k ≤ 4 := by
  have : ixCls n i k ≤ 0 + 4 := firstBad_le (ixTest n i k) 4 0
  omega
theorem ixCls_in {n : Nat} {i k : Int} (h : ixCls n i k = 4) : 0 ≤ i ∧ i < (n : Int) ∧ 0 ≤ k ∧ k < (n : Int) := by
  have g := fun j hj => firstBad_pass (ixTest n i k) 4 0 j (Nat.zero_le _) (show j < ixCls n i k by rw [h]; exact hj)
  have g0 := g 0 (by omega); have g1 := g 1 (by omega); have g2 := g 2 (by omega); have g3 := g 3 (by omega)
  simp [ixTest] at g0 g1 g2 g3
  exact ⟨g0, g1, g2, g3⟩
section
variable {sd P N S : Int} {n : Nat} {it : Nat → Itm} {A B : Ent} {st : Nat → Int} {i k e80 e81 e82 : Int} {l9 l20 l22 : List Value}
theorem ixT_true {m : Nat} (hm : ixCls n i k = m) : ∀ t, t ∈ ixT m → @TETrue ((wdNm sd P N S n 0 (itL it n) (bcX A B st i k e80 e81 e82) (bcT A B) (bcZ l9 l20 l22)).val fun _ => undef) t := by
  have e4 : @cv ((wdNm sd P N S n 0 (itL it n) (bcX A B st i k e80 e81 e82) (bcT A B) (bcZ l9 l20 l22)).val fun _ => undef) (sI 604) = .int .i64 (n : Nat) := w604
  intro t ht
  obtain ⟨j, hj, ht⟩ := List.mem_flatMap.1 ht
  subst hm
  have hj : j < Nat.min (ixCls n i k + 1) 4 := List.mem_range.1 hj
  have g1 : j < ixCls n i k + 1 := Nat.lt_of_lt_of_le hj (Nat.min_le_left _ _)
  have g2 : j < 4 := Nat.lt_of_lt_of_le hj (Nat.min_le_right _ _)
  have hq : Nat.blt j (ixCls n i k) = ixTest n i k j := by
    rcases Nat.lt_or_ge j (ixCls n i k) with hl | hl
    · rw [firstBad_pass (ixTest n i k) 4 0 j (Nat.zero_le _) hl]
      exact Nat.ble_eq_true_of_le hl
    · obtain rfl : j = ixCls n i k := by omega
      rw [show ixTest n i k (ixCls n i k) = false from firstBad_fail (ixTest n i k) 4 0 (by show ixCls n i k < 0 + 4; omega)]
      have := Nat.lt_irrefl (ixCls n i k)
      exact Bool.eq_false_iff.2 fun hc => this (Nat.le_of_ble_eq_true hc)
  have hprev : ∀ a, a < j → ixTest n i k a = true := fun a ha => firstBad_pass (ixTest n i k) 4 0 a (Nat.zero_le _) (show a < ixCls n i k by omega)
  rw [hq] at ht
  have key : ∀ t, t ∈ ixt j (ixTest n i k j) → @TETrue ((wdNm sd P N S n 0 (itL it n) (bcX A B st i k e80 e81 e82) (bcT A B) (bcZ l9 l20 l22)).val fun _ => undef) t := by
    match j, g2, hprev with
    | 0, _, _ => exact fa (@f_lss ((wdNm sd P N S n 0 (itL it n) (bcX A B st i k e80 e81 e82) (bcT A B) (bcZ l9 l20 l22)).val fun _ => undef) _ _ _ _ _ _ bc630 rfl (by show decide (i < 0) = !decide (0 ≤ i); rw [← decide_not]; exact decide_eq_decide.2 (by omega))) fz
    | 1, _, hp =>
      have p0 : decide (0 ≤ i) = true := hp 0 (by omega)
      have p0 := of_decide_eq_true p0
      refine fa (@f_geq ((wdNm sd P N S n 0 (itL it n) (bcX A B st i k e80 e81 e82) (bcT A B) (bcZ l9 l20 l22)).val fun _ => undef) _ _ _ _ _ _ bc630 e4 (by show decide (i ≥ (n : Int)) = !decide (i < (n : Int)); rw [← decide_not]; exact decide_eq_decide.2 (by omega))) (fa ⟨rfl, .i64, .i64, i, (n : Int), bc630, e4, ?_⟩ fz)
      show Value.bool (decide (i < (n : Int))) = _
      congr 1
      exact decide_eq_decide.2 ⟨fun h => ⟨p0, h⟩, fun h => h.2⟩
    | 2, _, _ => exact fa (@f_lss ((wdNm sd P N S n 0 (itL it n) (bcX A B st i k e80 e81 e82) (bcT A B) (bcZ l9 l20 l22)).val fun _ => undef) _ _ _ _ _ _ bc631 rfl (by show decide (k < 0) = !decide (0 ≤ k); rw [← decide_not]; exact decide_eq_decide.2 (by omega))) fz
    | 3, _, hp =>
      have p0 : decide (0 ≤ k) = true := hp 2 (by omega)
      have p0 := of_decide_eq_true p0
      refine fa (@f_geq ((wdNm sd P N S n 0 (itL it n) (bcX A B st i k e80 e81 e82) (bcT A B) (bcZ l9 l20 l22)).val fun _ => undef) _ _ _ _ _ _ bc631 e4 (by show decide (k ≥ (n : Int)) = !decide (k < (n : Int)); rw [← decide_not]; exact decide_eq_decide.2 (by omega))) (fa ⟨rfl, .i64, .i64, k, (n : Int), bc631, e4, ?_⟩ fz)
      show Value.bool (decide (k < (n : Int))) = _
      congr 1
      exact decide_eq_decide.2 ⟨fun h => ⟨p0, h⟩, fun h => h.2⟩
  exact key t ht
theorem bcC_few : @AnsN ((wdNm sd P N S n 0 (itL it n) (bcX A B st i k e80 e81 e82) (bcT A B) (bcZ l9 l20 l22)).val fun _ => undef) fFew [wldR] (.bool (fewM P N S n it)) := few_ans
theorem bcU_ok (hsd : 0 ≤ sd ∧ sd < 18446744073709551616) (hP : 1 ≤ P ∧ P ≤ 3) (hN : 1 ≤ N ∧ N ≤ 6) (hn : n ≤ 24) (hok : okB it n = true) (h9 : l9 = entsL (poolE sd it n)) (h20 : l20 = outM sd N.toNat P.toNat) (ne : Bool) (hne : (!Nat.beq n 0) = ne) : @UOK ((wdNm sd P N S n 0 (itL it n) (bcX A B st i k e80 e81 e82) (bcT A B) (bcZ l9 l20 l22)).val fun _ => undef) (@qnU (bcU ne)) := by
  have hp := pool_ans (sd := sd) (P := P) (N := N) (S := S) (n := n) (it := it) (k0 := 0) (x0 := (bcX A B st i k e80 e81 e82)) (y0 := bcT A B) (z0 := bcZ l9 l20 l22) (W0 := fun _ => undef) hsd hn hok ((wdNm sd P N S n 0 (itL it n) (bcX A B st i k e80 e81 e82) (bcT A B) (bcZ l9 l20 l22)).val fun _ => undef) (bc9.trans h9)
  have hs := sticks_ans (sd := sd) (P := P) (N := N) (S := S) (n := n) (l := itL it n) (k0 := 0) (x0 := (bcX A B st i k e80 e81 e82)) (y0 := bcT A B) (z0 := bcZ l9 l20 l22) (W0 := fun _ => undef) (itL_len it n) hsd hP hN ((wdNm sd P N S n 0 (itL it n) (bcX A B st i k e80 e81 e82) (bcT A B) (bcZ l9 l20 l22)).val fun _ => undef) (bc20.trans h20)
  rw [hne] at hp
  have q1 : @QNTrue ((wdNm sd P N S n 0 (itL it n) (bcX A B st i k e80 e81 e82) (bcT A B) (bcZ l9 l20 l22)).val fun _ => undef) ⟨fPool, [wldR], poR ne, poHp ne⟩ := hp
  have q2 : @QNTrue ((wdNm sd P N S n 0 (itL it n) (bcX A B st i k e80 e81 e82) (bcT A B) (bcZ l9 l20 l22)).val fun _ => undef) ⟨fSticksOf, [wldR], .slN 0 20 1, [some (.lstL 20 tSticks 32)]⟩ := hs
  letI : Val := ((wdNm sd P N S n 0 (itL it n) (bcX A B st i k e80 e81 e82) (bcT A B) (bcZ l9 l20 l22)).val fun _ => undef)
  exact qnU_ok (bcU ne) (fa q1 (fa q2 fz))
theorem bcLL9 (h9 : l9 = entsL (poolE sd it n)) : @LLTrue ((wdNm sd P N S n 0 (itL it n) (bcX A B st i k e80 e81 e82) (bcT A B) (bcZ l9 l20 l22)).val fun _ => undef) ⟨9, 20, sI 604⟩ := entsL_LL (es := poolE sd it n) (bc9.trans h9) (by rw [poolE_len]; exact w604)
end
/-- The law, where the entries do not come up. -/
theorem bc_none {sd P N S : Int} {n : Nat} {it : Nat → Itm} {i k : Int} (hsd : 0 ≤ sd ∧ sd < 18446744073709551616) (h : fewM P N S n it = false ∨ n = 0) : ∀ w, RoIn ro w → ∀ vs, All2 (@Go.Ri.NVal ((wdNm sd P N S n 0 (itL it n) (bcX entZ entZ (fun _ => 0) i k 0 0 0) (bcT entZ entZ) (bcZ [] (outM sd N.toNat P.toNat) [])).val fun _ => undef) w) bcD vs → Calls Tryz.prog fBookConvicts vs.toArray w (DF (.bool true) w) := by
  intro w hr vs hv
  have t1 := @f_lss ((wdNm sd P N S n 0 (itL it n) (bcX entZ entZ (fun _ => 0) i k 0 0 0) (bcT entZ entZ) (bcZ [] (outM sd N.toNat P.toNat) [])).val fun _ => undef) (sI 630) (lI 0) .i64 i 0 (decide (i < 0)) bc630 rfl rfl
  have t2 := @f_geq ((wdNm sd P N S n 0 (itL it n) (bcX entZ entZ (fun _ => 0) i k 0 0 0) (bcT entZ entZ) (bcZ [] (outM sd N.toNat P.toNat) [])).val fun _ => undef) (sI 630) (lI 0) .i64 i 0 (!decide (i < 0)) bc630 rfl (by rw [← decide_not]; exact decide_eq_decide.2 (by omega))
  have hC := bcC_few (sd := sd) (P := P) (N := N) (S := S) (n := n) (it := it) (A := entZ) (B := entZ) (st := fun _ => 0) (i := i) (k := k) (e80 := 0) (e81 := 0) (e82 := 0) (l9 := []) (l20 := outM sd N.toNat P.toNat) (l22 := [])
  have ht : @TbOK ((wdNm sd P N S n 0 (itL it n) (bcX entZ entZ (fun _ => 0) i k 0 0 0) (bcT entZ entZ) (bcZ [] (outM sd N.toNat P.toNat) [])).val fun _ => undef) (bcN (fewM P N S n it) (decide (i < 0))) := by
    by_cases hf : fewM P N S n it = false
    · rw [hf] at hC ⊢
      letI : Val := (wdNm sd P N S n 0 (itL it n) (bcX entZ entZ (fun _ => 0) i k 0 0 0) (bcT entZ entZ) (bcZ [] (outM sd N.toNat P.toNat) [])).val fun _ => undef
      exact { X := saneX_true, T := fa t1 (fa t2 fz), C := fa hC fz }
    · have hf : fewM P N S n it = true := by simpa using hf
      have h0 : n = 0 := h.resolve_left (by rw [hf]; simp)
      subst h0
      have hf' := hf
      unfold fewM at hf'
      simp only [Bool.and_eq_true] at hf'
      obtain ⟨h1, h2, h3, h4, _⟩ := wCls_in (Nat.eq_of_beq_eq_true hf'.1)
      have hU := bcU_ok (S := S) (A := entZ) (B := entZ) (st := fun _ => 0) (i := i) (k := k) (e80 := 0) (e81 := 0) (e82 := 0) (l9 := []) (l22 := []) (n := 0) (it := it) hsd ⟨h1, h2⟩ ⟨h3, h4⟩ (by omega) rfl rfl rfl false rfl
      rw [hf] at hC ⊢
      letI : Val := (wdNm sd P N S 0 0 (itL it 0) (bcX entZ entZ (fun _ => 0) i k 0 0 0) (bcT entZ entZ) (bcZ [] (outM sd N.toNat P.toNat) [])).val fun _ => undef
      exact { X := saneX_true, T := fa t1 (fa t2 fz), C := fa hC fz, U := hU }
  exact done_flat _ ht (all2_all (all2_all bc_no (fewM P N S n it)) (decide (i < 0))) rfl rfl rfl w hr vs hv
end Go.Proofs.Z

namespace Go.Proofs.Z
open Go Go.RowKit Go.Proofs Go.Ri Go.Proofs.Z.Fa
/-! BookConvicts answers true. -/
theorem enc_dig {A B : Ent} (h : A.enc = B.enc) : digEn A = digEn B := by
  have h : coreL A.p A.n A.x A.s ++ seB A.se 16 = coreL B.p B.n B.x B.s ++ seB B.se 16 := h
  have hl : (coreL A.p A.n A.x A.s).length = (coreL B.p B.n B.x B.s).length := by
    have := congrArg List.length h
    rw [List.length_append, List.length_append, seB_len, seB_len] at this
    omega
  have hc := (List.append_inj h hl).1
  unfold digEn
  rw [digM_is, digM_is]
  unfold coreL at hc
  rw [hc]
theorem pCls_swap {A B : Ent} (h : pCls A B = 4) : pCls B A = 4 := by
  obtain ⟨h1, h2, h3, h4⟩ := pCls_in h
  have t0 : pTest B A 0 = true := by show Nat.beq B.cls 5 = true; rw [h2]; rfl
  have t1 : pTest B A 1 = true := by show Nat.beq A.cls 5 = true; rw [h1]; rfl
  have t2 : pTest B A 2 = true := by show (B.p == A.p) = true; rw [h3]; exact beq_self_eq_true _
  have t3 : pTest B A 3 = true := by show (B.n == A.n) = true; rw [h4]; exact beq_self_eq_true _
  show firstBad (pTest B A) 4 0 = 4
  simp [firstBad, t0, t1, t2, t3]
theorem chp_zero {st : Nat → Int} {A B : Ent} (h4 : pCls A B = 4) (hA : fitE st A = true) (hB : fitE st B = true) (hl : cmpEn A B < 0) (hd : (digEn A == digEn B) = false) : chpM st A B = 0 := by
  unfold chpM cpV
  rw [h4, hA, hB, hd, decide_eq_true hl]
  rfl
/-- What Convict and CheckProof answer, by classes. -/
theorem bcK_is {A B : Ent} {st : Nat → Int} (hA : EntOK A) (hB : EntOK B) : ∃ v e80 e81 e82, v < 3 ∧ BcK v A B st e80 e81 e82 := by
  have hC := fun q => conv_ans q (st := st) hA hB
  have hP := fun q => chp_ans q (st := st) hA hB
  have hQ := fun q => chp_ans q (st := st) hB hA
  have hZ := fun q => chp_ans q (st := st) entZ_ok entZ_ok
  have none0 : ∀ e, convM st A B = tupC (prV entZ entZ) false e → ∃ v e80 e81 e82, v < 3 ∧ BcK v A B st e80 e81 e82 := fun e he => by
    rw [he] at hC
    obtain ⟨pv, hpv⟩ : ∃ pv, pv = chpM st A B := ⟨_, rfl⟩
    obtain ⟨zv, hzv⟩ : ∃ zv, zv = chpM st entZ entZ := ⟨_, rfl⟩
    rw [← hpv] at hP
    rw [← hzv] at hZ
    exact ⟨0, e, pv, zv, by omega, ⟨hC, hP, hZ⟩⟩
  unfold convM convV at hC none0
  by_cases h : pCls A B < 4
  · exact none0 81 (if_pos h)
  · have h4 : pCls A B = 4 := by have := pCls_le A B; omega
    rw [if_neg h] at hC none0
    cases ha : fitE st A
    · rw [ha] at none0
      exact none0 82 rfl
    · cases hb : fitE st B
      · rw [ha, hb] at none0
        exact none0 82 rfl
      · cases hd : (digEn A == digEn B)
        · have hne : cmpEn A B ≠ 0 := fun h0 => by
            have := enc_dig (cb_zero _ _ h0)
            rw [this, beq_self_eq_true] at hd
            cases hd
          by_cases hg : 0 < cmpEn A B
          · rw [ha, hb, hd, decide_eq_true hg] at hC
            have hd' : (digEn B == digEn A) = false := by rw [← hd]; exact Bool.beq_comm
            have hz := chp_zero (pCls_swap h4) hb ha (by rw [cmpEn_swap]; omega) hd'
            rw [hz] at hQ
            obtain ⟨pv, hpv⟩ : ∃ pv, pv = chpM st A B := ⟨_, rfl⟩
            rw [← hpv] at hP
            exact ⟨2, 0, pv, 0, by omega, ⟨hC, hP, hQ⟩⟩
          · rw [ha, hb, hd, decide_eq_false hg] at hC
            have hz := chp_zero h4 ha hb (by omega) hd
            rw [hz] at hP
            exact ⟨1, 0, 0, 0, by omega, ⟨hC, hP, hP⟩⟩
        · rw [ha, hb, hd] at none0
          exact none0 0 rfl
section
variable {sd P N S : Int} {n : Nat} {it : Nat → Itm} {A B : Ent} {st : Nat → Int} {i k e80 e81 e82 : Int} {l9 l20 l22 : List Value}
theorem bcI_ok (hsd : 0 ≤ sd ∧ sd < 18446744073709551616) (hP : 1 ≤ P ∧ P ≤ 3) (hN : 1 ≤ N ∧ N ≤ 6) (hn : n ≤ 24) (hok : okB it n = true) (hf : fewM P N S n it = true) (h9 : l9 = entsL (poolE sd it n)) (h20 : l20 = outM sd N.toNat P.toNat) (h0 : n ≠ 0) : @TbOK ((wdNm sd P N S n 0 (itL it n) (bcX A B st i k e80 e81 e82) (bcT A B) (bcZ l9 l20 l22)).val fun _ => undef) (bcI (ixCls n i k)) := by
  have hT := ixT_true (sd := sd) (P := P) (N := N) (S := S) (it := it) (A := A) (B := B) (st := st) (i := i) (k := k) (e80 := e80) (e81 := e81) (e82 := e82) (l9 := l9) (l20 := l20) (l22 := l22) (n := n) rfl
  have hC := bcC_few (sd := sd) (P := P) (N := N) (S := S) (n := n) (it := it) (A := A) (B := B) (st := st) (i := i) (k := k) (e80 := e80) (e81 := e81) (e82 := e82) (l9 := l9) (l20 := l20) (l22 := l22)
  have hU := bcU_ok (S := S) (A := A) (B := B) (st := st) (i := i) (k := k) (e80 := e80) (e81 := e81) (e82 := e82) (l22 := l22) hsd hP hN hn hok h9 h20 true (by
    rw [show Nat.beq n 0 = false from Bool.eq_false_iff.2 fun hb => h0 (Nat.eq_of_beq_eq_true hb)]
    rfl)
  have hL := bcLL9 (P := P) (N := N) (S := S) (A := A) (B := B) (st := st) (i := i) (k := k) (e80 := e80) (e81 := e81) (e82 := e82) (l20 := l20) (l22 := l22) h9
  rw [hf] at hC
  letI : Val := ((wdNm sd P N S n 0 (itL it n) (bcX A B st i k e80 e81 e82) (bcT A B) (bcZ l9 l20 l22)).val fun _ => undef)
  exact { X := saneX_true, T := hT, C := fa hC fz, U := hU, LL := fa hL fz }
theorem bcA_ok (hsd : 0 ≤ sd ∧ sd < 18446744073709551616) (hP : 1 ≤ P ∧ P ≤ 3) (hN : 1 ≤ N ∧ N ≤ 6) (hn : n ≤ 24) (hok : okB it n = true) (hf : fewM P N S n it = true) (h9 : l9 = entsL (poolE sd it n)) (h20 : l20 = outM sd N.toNat P.toNat) (h22 : l22 = rowM sd A.p.toNat N.toNat) (h0 : n ≠ 0)
    (hi : ixCls n i k = 4) (hA : A = (poolE sd it n).getD i.toNat entZ) (hB : B = (poolE sd it n).getD k.toNat entZ) (hst : st = stkM sd (A.p.toNat : Nat) (A.n.toNat : Nat)) {v : Nat} (hK : BcK v A B (bcSt (Nat.beq (haCls P N A) 3) st) e80 e81 e82) : @TbOK ((wdNm sd P N S n 0 (itL it n) (bcX A B st i k e80 e81 e82) (bcT A B) (bcZ l9 l20 l22)).val fun _ => undef) (bcA (Nat.beq (haCls P N A) 3) v) := by
  have hT := ixT_true (sd := sd) (P := P) (N := N) (S := S) (it := it) (A := A) (B := B) (st := st) (i := i) (k := k) (e80 := e80) (e81 := e81) (e82 := e82) (l9 := l9) (l20 := l20) (l22 := l22) (n := n) hi
  have hC := bcC_few (sd := sd) (P := P) (N := N) (S := S) (n := n) (it := it) (A := A) (B := B) (st := st) (i := i) (k := k) (e80 := e80) (e81 := e81) (e82 := e82) (l9 := l9) (l20 := l20) (l22 := l22)
  have hU := bcU_ok (S := S) (A := A) (B := B) (st := st) (i := i) (k := k) (e80 := e80) (e81 := e81) (e82 := e82) (l22 := l22) hsd hP hN hn hok h9 h20 true (by
    rw [show Nat.beq n 0 = false from Bool.eq_false_iff.2 fun hb => h0 (Nat.eq_of_beq_eq_true hb)]
    rfl)
  have hL := bcLL9 (P := P) (N := N) (S := S) (A := A) (B := B) (st := st) (i := i) (k := k) (e80 := e80) (e81 := e81) (e82 := e82) (l20 := l20) (l22 := l22) h9
  have hH := has_ans (S := S) (n := n) (it := it) (A := A) (B := B) (st := st) (i := i) (k := k) (e80 := e80) (e81 := e81) (e82 := e82) (l9 := l9) hP hN h20 h22
  have hY := bcY_true (sd := sd) (P := P) (N := N) (S := S) (n := n) (it := it) (i := i) (k := k) (l9 := l9) (l20 := l20) (l22 := l22) hK
  obtain ⟨i1, i2, i3, i4⟩ := ixCls_in hi
  have q601 : @cv ((wdNm sd P N S n 0 (itL it n) (bcX A B st i k e80 e81 e82) (bcT A B) (bcZ l9 l20 l22)).val fun _ => undef) (sI 601) = .int .i64 P := w601
  have q602 : @cv ((wdNm sd P N S n 0 (itL it n) (bcX A B st i k e80 e81 e82) (bcT A B) (bcZ l9 l20 l22)).val fun _ => undef) (sI 602) = .int .i64 N := w602
  have hL2 : @LLTrue ((wdNm sd P N S n 0 (itL it n) (bcX A B st i k e80 e81 e82) (bcT A B) (bcZ l9 l20 l22)).val fun _ => undef) ⟨20, 1, sI 601⟩ := ⟨rfl, P.toNat, Nat.succ_pos 0, by show l20.length = _; rw [h20, outM_len, Nat.mul_one], by show @cv ((wdNm sd P N S n 0 (itL it n) (bcX A B st i k e80 e81 e82) (bcT A B) (bcZ l9 l20 l22)).val fun _ => undef) (sI 601) = _; rw [q601, Int.toNat_of_nonneg (by omega)]⟩
  have hL3 : @LLTrue ((wdNm sd P N S n 0 (itL it n) (bcX A B st i k e80 e81 e82) (bcT A B) (bcZ l9 l20 l22)).val fun _ => undef) ⟨22, 32, sI 602⟩ := ⟨rfl, N.toNat, Nat.succ_pos 31, by show l22.length = _; rw [h22, rowM_len], by show @cv ((wdNm sd P N S n 0 (itL it n) (bcX A B st i k e80 e81 e82) (bcT A B) (bcZ l9 l20 l22)).val fun _ => undef) (sI 602) = _; rw [q602, Int.toNat_of_nonneg (by omega)]⟩
  have e630 : wdI sd P N S n 0 (bcX A B st i k e80 e81 e82) 630 = i := (wdI_x (by omega)).trans (by simp [bcX])
  have e631 : wdI sd P N S n 0 (bcX A B st i k e80 e81 e82) 631 = k := (wdI_x (by omega)).trans (by simp [bcX])
  have e50 : wdI sd P N S n 0 (bcX A B st i k e80 e81 e82) 50 = A.p := (bcX_pr (by omega)).trans (by simp [prI])
  have e51 : wdI sd P N S n 0 (bcX A B st i k e80 e81 e82) 51 = A.n := (bcX_pr (by omega)).trans (by simp [prI])
  have hX1 : @LXTrue ((wdNm sd P N S n 0 (itL it n) (bcX A B st i k e80 e81 e82) (bcT A B) (bcZ l9 l20 l22)).val fun _ => undef) ⟨9, 630, entK⟩ := by
    refine ⟨rfl, ?_, ?_⟩
    · show (wdI sd P N S n 0 (bcX A B st i k e80 e81 e82) 630).toNat * 20 + 20 ≤ l9.length
      rw [e630, h9, entsL_len, poolE_len]
      omega
    · show (l9.drop ((wdI sd P N S n 0 (bcX A B st i k e80 e81 e82) 630).toNat * 20)).take 20 = entK.map (@cv ((wdNm sd P N S n 0 (itL it n) (bcX A B st i k e80 e81 e82) (bcT A B) (bcZ l9 l20 l22)).val fun _ => undef))
      rw [e630, h9, entsL_at _ _ (by rw [poolE_len]; omega), ← hA]
      exact bcA_cs.symm
  have hX2 : @LXTrue ((wdNm sd P N S n 0 (itL it n) (bcX A B st i k e80 e81 e82) (bcT A B) (bcZ l9 l20 l22)).val fun _ => undef) ⟨9, 631, enfK⟩ := by
    refine ⟨rfl, ?_, ?_⟩
    · show (wdI sd P N S n 0 (bcX A B st i k e80 e81 e82) 631).toNat * 20 + 20 ≤ l9.length
      rw [e631, h9, entsL_len, poolE_len]
      omega
    · show (l9.drop ((wdI sd P N S n 0 (bcX A B st i k e80 e81 e82) 631).toNat * 20)).take 20 = enfK.map (@cv ((wdNm sd P N S n 0 (itL it n) (bcX A B st i k e80 e81 e82) (bcT A B) (bcZ l9 l20 l22)).val fun _ => undef))
      rw [e631, h9, entsL_at _ _ (by rw [poolE_len]; omega), ← hB]
      exact bcB_cs.symm
  have hin : Nat.beq (haCls P N A) 3 = true → 0 ≤ A.p ∧ A.p < P ∧ 0 ≤ A.n ∧ A.n < N := fun hb => by
    have h3 : haCls P N A = 3 := Nat.eq_of_beq_eq_true hb
    unfold haCls at h3
    by_cases g0 : A.cls < 5
    · rw [if_pos g0] at h3
      omega
    · rw [if_neg g0] at h3
      have hle : A.cls ≤ 5 := eCls_le _ _ _
      obtain ⟨a, _, b, _, _⟩ := eCls_in (show eCls A.p A.n A.s.size = 5 by unfold Ent.cls at *; omega)
      by_cases g1 : P ≤ A.p
      · rw [if_pos g1] at h3
        omega
      · rw [if_neg g1] at h3
        by_cases g2 : N ≤ A.n
        · rw [if_pos g2] at h3
          omega
        · exact ⟨a, by omega, b, by omega⟩
  generalize Nat.beq (haCls P N A) 3 = has at *
  have hT2 : ∀ t, t ∈ (if has then [⟨.inb, sI 50, sI 601, bR true⟩, ⟨.inb, sI 51, sI 602, bR true⟩] else ([] : List TE)) → @TETrue ((wdNm sd P N S n 0 (itL it n) (bcX A B st i k e80 e81 e82) (bcT A B) (bcZ l9 l20 l22)).val fun _ => undef) t := by
    split
    · rename_i hb
      obtain ⟨a, b, c, d⟩ := hin hb
      refine fa ⟨rfl, .i64, .i64, A.p, P, bc50, q601, ?_⟩ (fa ⟨rfl, .i64, .i64, A.n, N, bc51, q602, ?_⟩ fz)
      · show Value.bool true = _
        congr 1
        exact (decide_eq_true ⟨a, b⟩).symm
      · show Value.bool true = _
        congr 1
        exact (decide_eq_true ⟨c, d⟩).symm
    · exact fz
  have hX3 : ∀ t, t ∈ (if has then [⟨22, 51, skC⟩] else ([] : List LEE)) → @LXTrue ((wdNm sd P N S n 0 (itL it n) (bcX A B st i k e80 e81 e82) (bcT A B) (bcZ l9 l20 l22)).val fun _ => undef) t := by
    split
    · rename_i hb
      obtain ⟨a, b, c, d⟩ := hin hb
      refine fa ⟨rfl, ?_, ?_⟩ fz
      · show (wdI sd P N S n 0 (bcX A B st i k e80 e81 e82) 51).toNat * 32 + 32 ≤ l22.length
        rw [e51, h22, rowM_len]
        omega
      · show (l22.drop ((wdI sd P N S n 0 (bcX A B st i k e80 e81 e82) 51).toNat * 32)).take 32 = skC.map (@cv ((wdNm sd P N S n 0 (itL it n) (bcX A B st i k e80 e81 e82) (bcT A B) (bcZ l9 l20 l22)).val fun _ => undef))
        rw [e51, h22, rowM_at _ _ _ (show A.n.toNat < N.toNat by omega), ← hst]
        exact bc_sk.symm
    · exact fz
  have hN2 : ∀ t, t ∈ (if has then [⟨20, 50, 22⟩] else ([] : List LNX)) → @LNXTrue ((wdNm sd P N S n 0 (itL it n) (bcX A B st i k e80 e81 e82) (bcT A B) (bcZ l9 l20 l22)).val fun _ => undef) t := by
    split
    · rename_i hb
      obtain ⟨a, b, c, d⟩ := hin hb
      refine fa ?_ fz
      show l20[(wdI sd P N S n 0 (bcX A B st i k e80 e81 e82) 50).toNat]? = some (.agg l22.toArray)
      rw [e50, h20, h22]
      exact outM_at sd N.toNat P.toNat (by omega)
    · exact fz
  rw [hf] at hC
  letI : Val := ((wdNm sd P N S n 0 (itL it n) (bcX A B st i k e80 e81 e82) (bcT A B) (bcZ l9 l20 l22)).val fun _ => undef)
  exact { X := saneX_true, T := fapp hT hT2, C := fa hC (fa hH fz), U := hU, LL := fa hL (fa hL2 (fa hL3 fz)), LX := fapp (fa hX1 (fa hX2 fz)) hX3, LNE := hN2, Y := hY }
theorem bc_zr {has : Bool} {v : Nat} (h : @TbOK ((wdNm sd P N S n 0 (itL it n) (bcX A B st i k e80 e81 e82) (bcT A B) (bcZ l9 l20 l22)).val fun _ => undef) (bcA has v)) : @TbOK ((wdNm sd P N S n 0 (itL it n) (bcX A B st i k e80 e81 e82) (bcT A B) (bcZ l9 l20 l22)).val fun _ => undef) { bcA has v with X := zrX } := by
  letI : Val := ((wdNm sd P N S n 0 (itL it n) (bcX A B st i k e80 e81 e82) (bcT A B) (bcZ l9 l20 l22)).val fun _ => undef)
  exact { X := zrX_true, T := h.T, C := h.C, U := h.U, LL := h.LL, LX := h.LX, LNE := h.LNE, Y := h.Y }
end
/-- What the law's arguments are: a world, its items by a list's name, and two indices. -/
def BcArgs (sd P N S : Int) (n : Nat) (it : Nat → Itm) (i k : Int) (w : World) (vs : List Value) : Prop := ∀ (x : Nat → Int) (y : Nat → ByteArray) (z : Nat → List Value), x 630 = i → x 631 = k → All2 (@Go.Ri.NVal ((wdNm sd P N S n 0 (itL it n) x y z).val fun _ => undef) w) bcD vs
/-- BookConvicts answers true. -/
theorem bookConvicts_ans {sd P N S : Int} {n : Nat} {it : Nat → Itm} {i k : Int} (hsd : 0 ≤ sd ∧ sd < 18446744073709551616) (w : World) (hr : RoIn ro w) (vs : List Value) (hv : BcArgs sd P N S n it i k w vs) : Calls Tryz.prog fBookConvicts vs.toArray w (fun e w' => e = .returned (.bool true) ∧ Below w.heap.size w w') := by
  by_cases hf : fewM P N S n it = true
  · by_cases h0 : n = 0
    · exact bc_none hsd (.inr h0) w hr vs (hv (bcX entZ entZ (fun _ => 0) i k 0 0 0) (bcT entZ entZ) (bcZ [] (outM sd N.toNat P.toNat) []) (by simp [bcX]) (by simp [bcX]))
    · have hf' := hf
      unfold fewM at hf'
      simp only [Bool.and_eq_true] at hf'
      obtain ⟨h1, h2, h3, h4, hn⟩ := wCls_in (Nat.eq_of_beq_eq_true hf'.1)
      have hok := hf'.2
      obtain ⟨A, hA⟩ : ∃ A, A = (poolE sd it n).getD i.toNat entZ := ⟨_, rfl⟩
      obtain ⟨B, hB⟩ : ∃ B, B = (poolE sd it n).getD k.toNat entZ := ⟨_, rfl⟩
      obtain ⟨st, hst⟩ : ∃ st, st = stkM sd (A.p.toNat : Nat) (A.n.toNat : Nat) := ⟨_, rfl⟩
      obtain ⟨l9, h9⟩ : ∃ l9, l9 = entsL (poolE sd it n) := ⟨_, rfl⟩
      obtain ⟨l20, h20⟩ : ∃ l20, l20 = outM sd N.toNat P.toNat := ⟨_, rfl⟩
      obtain ⟨l22, h22⟩ : ∃ l22, l22 = rowM sd A.p.toNat N.toNat := ⟨_, rfl⟩
      by_cases hi : ixCls n i k < 4
      · have ht := bcI_ok (S := S) (A := A) (B := B) (st := st) (i := i) (k := k) (e80 := 0) (e81 := 0) (e82 := 0) (l22 := l22) hsd ⟨h1, h2⟩ ⟨h3, h4⟩ hn hok hf h9 h20 h0
        exact done_flat _ ht (allU_lt bc_ix _ hi) rfl rfl rfl w hr vs (hv (bcX A B st i k 0 0 0) (bcT A B) (bcZ l9 l20 l22) (by simp [bcX]) (by simp [bcX]))
      · have hi4 : ixCls n i k = 4 := by have := ixCls_le n i k; omega
        have oA : EntOK A := by rw [hA]; exact getD_ok (poolE_ok n) _
        have oB : EntOK B := by rw [hB]; exact getD_ok (poolE_ok n) _
        obtain ⟨v, e80, e81, e82, hv3, hK⟩ := bcK_is (st := bcSt (Nat.beq (haCls P N A) 3) st) oA oB
        have ht := bcA_ok (S := S) (l9 := l9) (l20 := l20) (l22 := l22) hsd ⟨h1, h2⟩ ⟨h3, h4⟩ hn hok hf h9 h20 h22 h0 hi4 hA hB hst hK
        have hargs := hv (bcX A B st i k e80 e81 e82) (bcT A B) (bcZ l9 l20 l22) (by simp [bcX]) (by simp [bcX])
        clear hv hA hB hst h9 h20 h22 hK
        generalize Nat.beq (haCls P N A) 3 = has at *
        have hv0 : v = 0 ∨ v = 1 ∨ v = 2 := by omega
        cases has
        · rcases hv0 with rfl | rfl | rfl
          · exact done_flat _ (bc_zr ht) bc_false0 rfl rfl rfl w hr vs hargs
          · exact done_flat _ ht bc_false1 rfl rfl rfl w hr vs hargs
          · exact done_flat _ ht bc_false2 rfl rfl rfl w hr vs hargs
        · rcases hv0 with rfl | rfl | rfl
          · exact done_flat _ ht bc_true0 rfl rfl rfl w hr vs hargs
          · exact done_flat _ ht bc_true1 rfl rfl rfl w hr vs hargs
          · exact done_flat _ ht bc_true2 rfl rfl rfl w hr vs hargs
  · exact bc_none hsd (.inl (by simpa using hf)) w hr vs (hv (bcX entZ entZ (fun _ => 0) i k 0 0 0) (bcT entZ entZ) (bcZ [] (outM sd N.toNat P.toNat) []) (by simp [bcX]) (by simp [bcX]))
end Go.Proofs.Z
