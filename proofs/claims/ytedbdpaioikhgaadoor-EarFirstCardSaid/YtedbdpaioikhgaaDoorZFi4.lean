/- A part of the proofs that the laws of layer one answer true for every input. -/
import Derived.Test.YtedbdpaioikhgaaDoorZFi1
import Derived.Test.YtedbdpaioikhgaaDoorZTkW
import Derived.Test.YtedbdpaioikhgaaDoorZFi0f
import Derived.Test.YtedbdpaioikhgaaDoorZTkS
namespace Go.Proofs.Z.Fi
open Go Go.RowKit Go.Proofs Go.Ri Go.Proofs.Z
open Go.Proofs.Z.W (tfr tto tlen byteIn)
open Go.Proofs.Z.Ps (wd)
open Go.Proofs.Z.Fa
/-! EarFirst: the names, and what is told of them. -/
/-- The law's word. -/
theorem wd_ans (c : UInt8) : Ans fWd [.int .u8 (c.toNat : Nat)] (intV (wd c)) := by
  let V : Val := VE (fun _ => (c.toNat : Int)) fun _ => false
  have h := @ans V noX _ [] noX_true (by
    intro e he
    simp only [wdT, List.mem_cons, List.not_mem_nil, or_false] at he
    rcases he with rfl | rfl | rfl | rfl
    · exact @f_geq V _ _ .u8 (c.toNat : Int) 97 (decide (97 ≤ c.toNat)) rfl rfl (by simp; omega)
    · exact @f_leq V _ _ .u8 (c.toNat : Int) 122 (decide (c.toNat ≤ 122)) rfl rfl (by simp; omega)
    · exact @f_geq V _ _ .u8 (c.toNat : Int) 48 (decide (48 ≤ c.toNat)) rfl rfl (by simp; omega)
    · exact @f_leq V _ _ .u8 (c.toNat : Int) 57 (decide (c.toNat ≤ 57)) rfl rfl (by simp; omega)) (by intro e he; cases he) _ _ _ _ _ (all2_all (all2_all (all2_all (all2_all wd_run (decide (97 ≤ c.toNat))) (decide (c.toNat ≤ 122))) (decide (48 ≤ c.toNat))) (decide (c.toNat ≤ 57)))
  exact h
/-- What the names stand for. -/
structure FD where
  s : ByteArray
  t : ByteArray
  X : Nat → Int
  Y : Nat → Bool
  k2 : Nat
  e2 : Int
def fnm (D : FD) (k : Nat) (e : Int) (n : Nat) : Nm where
  I := fun j => if j = 1 then (k : Int) else if j = 2 then e else if j = 3 then (D.k2 : Int) else if j = 4 then D.e2 else if j = 5 then ((byt D.s k).toNat : Int) else if j = 6 then (n : Int) else if j = 7 then (n : Int) + 1 else if j = 10 then wd (byt D.s k) else if j = 11 then wd (byt D.s n) else if j = 15 then ((byt D.s n).toNat : Int) else if j = 18 then (k : Int) + 1 else if j = 20 then (D.k2 : Int) + 1 else if j = 25 then ((byt D.s D.k2).toNat : Int) else if j = 90 then (D.s.data.toList.length : Int) else if j = 91 then (D.t.data.toList.length : Int) else D.X j
  B := D.Y
  S := fun j => if j = 0 then D.s else if j = 1 then D.t else if j = 5 then D.s.extract 0 n else if j = 6 then D.s.extract 0 n ++ ⟨#[32]⟩ else D.s.extract 0 n ++ ⟨#[32]⟩ ++ D.t
  L := fun _ => []
/-- The class of a parser's answer. -/
def cls2 (s : ByteArray) (k : Nat) (e : Int) : Nat := if e = 0 then 0 else if k < s.data.toList.length then (if e = 3 then 4 else 1) else (if e = 3 then 3 else 2)
def okA (s : ByteArray) (k : Nat) (e : Int) : Prop := e = 0 ∨ (k ≤ s.data.toList.length ∧ byt s k ≠ 32 ∨ k = s.data.toList.length)
theorem cut_list (s t : ByteArray) (n : Nat) : (s.extract 0 n ++ ⟨#[32]⟩ ++ t).data.toList = s.data.toList.take n ++ 32 :: t.data.toList := by
  simp
theorem stF_ok [Val] {s : ByteArray} {k : Nat} {e : Int} {ik ie u : Nat} (h0 : Val.S 0 = s) (hk : Val.I ik = (k : Int)) (he : Val.I ie = e) (hu : Val.I u = ((byt s k).toNat : Int)) (hl : Val.I 90 = (s.data.toList.length : Int)) (h1 : Val.I (ik + 17) = (k : Int) + 1) (hs : s.data.toList.length ≤ 3000) (hok : okA s k e) :
    ∀ q, q ∈ stF ik ie u (cls2 s k e) → TETrue q := by
  have vk : cv (sI ik) = .int .i64 (k : Int) := congrArg (Value.int .i64) hk
  have ve : cv (sI ie) = .int .i64 e := congrArg (Value.int .i64) he
  have vl : cv (sI 90) = .int .i64 (s.data.toList.length : Int) := congrArg (Value.int .i64) hl
  have v1 : cv (sI (ik + 17)) = .int .i64 ((k : Int) + 1) := congrArg (Value.int .i64) h1
  have vu : cv (sU u) = .int .u8 ((byt s k).toNat : Int) := congrArg (Value.int .u8) hu
  have vs : cv (sT 0) = .string s := congrArg Value.string h0
  have f0 : ∀ q, (e == 0) = q → TETrue ⟨.ieq, sI ie, lI 0, bR q⟩ := fun q h => f_ieq ve rfl h
  have f3 : ∀ q, (e == 3) = q → TETrue ⟨.ieq, sI ie, lI 3, bR q⟩ := fun q h => f_ieq ve rfl h
  have g0 : TETrue ⟨.bin .lss, sI ik, lI 0, bR false⟩ := f_lss vk rfl (by simp)
  have g1 : ∀ q, decide ((k : Int) < s.data.toList.length) = q → TETrue ⟨.bin .lss, sI ik, sI 90, bR q⟩ := fun q h => f_lss vk vl h
  have g3 : ∀ q, ((k : Int) == s.data.toList.length) = q → TETrue ⟨.ieq, sI ik, sI 90, bR q⟩ := fun q h => f_ieq vk vl h
  intro q hq
  unfold cls2 at hq
  by_cases c0 : e = 0
  · rw [if_pos c0] at hq
    simp only [stF, List.mem_cons, List.not_mem_nil, or_false] at hq
    subst hq
    exact f0 _ (by rw [c0]; rfl)
  · rw [if_neg c0] at hq
    have f0' := f0 false (beq_eq_false_iff_ne.2 c0)
    have hk2 : k ≤ s.data.toList.length := by
      rcases hok with h | h | h
      · exact absurd h c0
      · exact h.1
      · omega
    have g2 : TETrue ⟨.bin .gtr, sI ik, sI 90, bR false⟩ := f_gtr vk vl (by simp; simpa using hk2)
    by_cases c1 : k < s.data.toList.length
    · rw [if_pos c1] at hq
      have g1' := g1 true (decide_eq_true (by omega))
      have hb : byt s k ≠ 32 := by
        rcases hok with h | h | h
        · exact absurd h c0
        · exact h.2
        · omega
      have i1 : TETrue ⟨.idx, sT 0, sI ik, sU u⟩ := f_idx vs vk vu rfl c1
      have i2 : TETrue ⟨.ieq, sU u, lU 32, bR false⟩ := f_ieq vu rfl (beq_eq_false_iff_ne.2 fun h => hb (UInt8.toNat_inj.1 (by have : (32 : UInt8).toNat = 32 := rfl; omega)))
      by_cases c3 : e = 3
      · rw [if_pos c3] at hq
        simp only [stF, List.mem_cons, List.not_mem_nil, or_false] at hq
        rcases hq with rfl | rfl | rfl | rfl | rfl | rfl | rfl | rfl | rfl
        · exact f0'
        · exact g0
        · exact g2
        · exact g1'
        · exact i1
        · exact i2
        · exact f3 _ (by rw [c3]; rfl)
        · exact g3 _ (beq_eq_false_iff_ne.2 (by omega))
        · exact f_add1 vk v1 rfl (by omega) (by omega)
      · rw [if_neg c3] at hq
        simp only [stF, List.mem_cons, List.not_mem_nil, or_false] at hq
        rcases hq with rfl | rfl | rfl | rfl | rfl | rfl | rfl
        · exact f0'
        · exact g0
        · exact g2
        · exact g1'
        · exact i1
        · exact i2
        · exact f3 _ (beq_eq_false_iff_ne.2 c3)
    · rw [if_neg c1] at hq
      have g1' := g1 false (decide_eq_false (by omega))
      by_cases c3 : e = 3
      · rw [if_pos c3] at hq
        simp only [stF, List.mem_cons, List.not_mem_nil, or_false] at hq
        rcases hq with rfl | rfl | rfl | rfl | rfl | rfl
        · exact f0'
        · exact g0
        · exact g2
        · exact g1'
        · exact f3 _ (by rw [c3]; rfl)
        · exact g3 _ (by rw [show k = s.data.toList.length by omega]; exact beq_self_eq_true _)
      · rw [if_neg c3] at hq
        simp only [stF, List.mem_cons, List.not_mem_nil, or_false] at hq
        rcases hq with rfl | rfl | rfl | rfl | rfl
        · exact f0'
        · exact g0
        · exact g2
        · exact g1'
        · exact f3 _ (beq_eq_false_iff_ne.2 c3)
section
variable (D : FD) (k : Nat) (e : Int) (n : Nat) (W : Nat → Value)
theorem hd_ok (x : Nat) (hs : D.s.data.toList.length ≤ 3000) (hk : k < D.s.data.toList.length) (hx : x ≤ 3)
    (h0 : decide (n < D.s.data.toList.length) = !(x == 0)) (h1 : 1 ≤ x → decide (0 < wd (byt D.s k)) = !(x == 1)) (h2 : 2 ≤ x → (wd (byt D.s n) == wd (byt D.s k)) = !(x == 2)) : ∀ q, q ∈ hdF x → @TETrue ((fnm D k e n).val W) q := by
  letI : Val := (fnm D k e n).val W
  have fl : TETrue ⟨.len, sT 0, sT 0, sI 90⟩ := f_len (s := D.s) rfl rfl rfl
  have f1 : ∀ q, decide (n < D.s.data.toList.length) = q → TETrue ⟨.bin .lss, sI 6, sI 90, bR q⟩ := fun q h => f_lss (m := (n : Int)) (n := (D.s.data.toList.length : Int)) rfl rfl (by rw [← h]; simp)
  have i1 : TETrue ⟨.idx, sT 0, sI 1, sU 5⟩ := f_idx (s := D.s) (j := k) rfl rfl rfl rfl hk
  have g1 : ∀ q, decide (0 < wd (byt D.s k)) = q → TETrue ⟨.bin .gtr, sI 10, lI 0, bR q⟩ := fun q h => f_gtr (m := wd (byt D.s k)) (n := 0) rfl rfl h
  have i2 : n < D.s.data.toList.length → TETrue ⟨.idx, sT 0, sI 6, sU 15⟩ := fun h => f_idx (s := D.s) (j := n) rfl rfl rfl rfl h
  have g2 : ∀ q, (wd (byt D.s n) == wd (byt D.s k)) = q → TETrue ⟨.ieq, sI 11, sI 10, bR q⟩ := fun q h => f_ieq (m := wd (byt D.s n)) (n := wd (byt D.s k)) rfl rfl h
  intro q hq
  obtain rfl | rfl | rfl | rfl : x = 0 ∨ x = 1 ∨ x = 2 ∨ x = 3 := by omega
  · simp only [hdF, List.mem_cons, List.not_mem_nil, or_false] at hq
    rcases hq with rfl | rfl
    · exact fl
    · exact f1 _ h0
  · simp only [hdF, List.mem_cons, List.not_mem_nil, or_false] at hq
    rcases hq with rfl | rfl | rfl | rfl
    · exact fl
    · exact f1 _ h0
    · exact i1
    · exact g1 _ (h1 (by omega))
  · have hn : n < D.s.data.toList.length := of_decide_eq_true h0
    simp only [hdF, List.mem_cons, List.not_mem_nil, or_false] at hq
    rcases hq with rfl | rfl | rfl | rfl | rfl | rfl
    · exact fl
    · exact f1 _ h0
    · exact i1
    · exact g1 _ (h1 (by omega))
    · exact i2 hn
    · exact g2 _ (h2 (by omega))
  · have hn : n < D.s.data.toList.length := of_decide_eq_true h0
    simp only [hdF, List.mem_cons, List.not_mem_nil, or_false] at hq
    rcases hq with rfl | rfl | rfl | rfl | rfl | rfl | rfl
    · exact fl
    · exact f1 _ h0
    · exact i1
    · exact g1 _ (h1 (by omega))
    · exact i2 hn
    · exact g2 _ (h2 (by omega))
    · exact f_add1 (m := (n : Int)) rfl rfl rfl (by omega) (by omega)
theorem yW_ok (x : Nat) : ∀ q, q ∈ yW x → Ans q.f (q.a.map (@cvF ((fnm D k e n).val W))) (@cvF ((fnm D k e n).val W) q.r) := by
  have a1 : Ans fWd ([sU 5].map (@cvF ((fnm D k e n).val W))) (@cvF ((fnm D k e n).val W) (sI 10)) := wd_ans (byt D.s k)
  have a2 : Ans fWd ([sU 15].map (@cvF ((fnm D k e n).val W))) (@cvF ((fnm D k e n).val W) (sI 11)) := wd_ans (byt D.s n)
  intro q hq
  unfold yW at hq
  split at hq
  · cases hq
  · simp only [List.mem_cons, List.not_mem_nil, or_false] at hq
    subst hq
    exact a1
  · simp only [List.mem_cons, List.not_mem_nil, or_false] at hq
    rcases hq with rfl | rfl
    · exact a1
    · exact a2
theorem cut_ok (hs : D.s.data.toList.length ≤ 3000) (ht : D.t.data.toList.length ≤ 3000) : ∀ q, q ∈ cutF → @TETrue ((fnm D k e n).val W) q := by
  letI : Val := (fnm D k e n).val W
  have h1 : D.s.size ≤ 3000 := by simpa using hs
  have h2 : D.t.size ≤ 3000 := by simpa using ht
  intro q hq
  simp only [cutF, List.mem_cons, List.not_mem_nil, or_false] at hq
  rcases hq with rfl | rfl | rfl
  · refine f_sadd (x := D.s.extract 0 n) (y := ⟨#[32]⟩) rfl rfl rfl rfl ?_
    have : (⟨#[32]⟩ : ByteArray).size = 1 := rfl
    rw [ByteArray.size_extract, this]
    omega
  · refine f_sadd (x := D.s.extract 0 n ++ ⟨#[32]⟩) (y := D.t) rfl rfl rfl rfl ?_
    have : (⟨#[32]⟩ : ByteArray).size = 1 := rfl
    rw [ByteArray.size_append, ByteArray.size_extract, this]
    omega
  · exact f_ieq (m := (k : Int)) (n := (k : Int)) rfl rfl (beq_self_eq_true _)
theorem ss_ok (hn : n ≤ D.s.data.toList.length) : ∀ q, q ∈ ssA → @Go.Ri.SSTrue ((fnm D k e n).val W) q := by
  letI : Val := (fnm D k e n).val W
  intro q hq
  simp only [ssA, List.mem_cons, List.not_mem_nil, or_false] at hq
  subst hq
  exact ⟨rfl, D.s, .i64, .i64, 0, n, rfl, rfl, rfl, Nat.zero_le _, by simpa using hn, rfl⟩
end
end Go.Proofs.Z.Fi

namespace Go.Proofs.Z.Fi
open Go Go.RowKit Go.Proofs Go.Ri Go.Proofs.Z
open Go.Proofs.Z.W (tfr tto tlen byteIn)
open Go.Proofs.Z.Fa
open Go.Proofs.Z.Ps (wd pwR pmR earP plc tok pwBad pmQ Agree)
/-! EarFirst: the law. -/
def cellsV (X : Nat → Int) (Y : Nat → Bool) : List Value := [.int .i64 (X 0), .int .i64 (X 1), .int .i64 (X 2), .int .i64 (X 3), .int .i64 (X 4), .int .i64 (X 5), .int .i64 (X 6), .int .i64 (X 7), .int .i64 (X 8), .bool (Y 0), .bool (Y 1), .bool (Y 2)]
theorem pw_shape (s : ByteArray) (r : Ps.ER) : ∃ X Y k e, pwR s r = .tuple #[.agg (cellsV X Y).toArray, intV k, intV e] := by
  unfold pwR
  split
  · exact ⟨fun _ => 0, fun _ => false, _, _, rfl⟩
  · split
    · split
      · split
        · exact ⟨_, _, _, _, rfl⟩
        · exact ⟨fun _ => 0, fun _ => false, _, _, rfl⟩
      · exact ⟨fun _ => 0, fun _ => false, _, _, rfl⟩
    · exact ⟨fun _ => 0, fun _ => false, _, _, rfl⟩
def MS (v : Value) : Prop := ∃ X Y X' Y' k e', v = .tuple #[.agg (cellsV X Y ++ cellsV X' Y').toArray, intV k, intV e']
theorem bad_shape (n e : Int) : MS (Ps.mBad n e) := ⟨fun _ => 0, fun _ => false, fun _ => 0, fun _ => false, n, e, rfl⟩
theorem good_shape (a b : Ps.ER) : MS (.tuple #[Ps.markV a b, intV 0, intV 0]) := ⟨_, _, _, _, 0, 0, rfl⟩
theorem ms_ite {c : Prop} [Decidable c] {a b : Value} (ha : MS a) (hb : MS b) : MS (if c then a else b) := by
  split
  · exact ha
  · exact hb
theorem pm_shape (s : ByteArray) (a b : Ps.ER) : MS (pmR s a b) := by
  unfold pmR
  repeat' with_reducible apply ms_ite
  all_goals first | with_reducible exact bad_shape _ _ | with_reducible exact good_shape _ _
/-- What is told of a parser's answer. -/
def PA (s : ByteArray) (Q : Nat → Prop) (k : Nat) (e : Int) : Prop := e = 0 ∨ ∃ q, q ≤ s.data.toList.length ∧ k = tfr s.data.toList q ∧ (e = 3 → Q q)
theorem told_pa {s : ByteArray} {Q : Nat → Prop} {x : Value} {k e : Int} (h : Ps.Told s.data.toList Q (.tuple #[x, intV k, intV e])) : ∃ k' : Nat, k = k' ∧ PA s Q k' e := by
  obtain ⟨y, k2, e2, he, h⟩ := h
  have h3 : #[x, intV k, intV e] = #[y, intV k2, intV e2] := Value.tuple.inj he
  have h4 : [x, intV k, intV e] = [y, intV k2, intV e2] := congrArg Array.toList h3
  simp only [List.cons.injEq] at h4
  have hk : k = k2 := by
    have := h4.2.1
    unfold intV at this
    exact (Value.int.inj this).2
  have hE : e = e2 := by
    have := h4.2.2.1
    unfold intV at this
    exact (Value.int.inj this).2
  subst hk
  subst hE
  rcases h with ⟨h1, h2⟩ | ⟨q, h1, h2, h3⟩
  · exact ⟨0, h2, .inl h1⟩
  · exact ⟨_, h2, .inr ⟨q, h1, rfl, h3⟩⟩
theorem pa_ok {s : ByteArray} {Q : Nat → Prop} {k : Nat} {e : Int} (h : PA s Q k e) : okA s k e := by
  rcases h with h | ⟨q, h1, rfl, _⟩
  · exact .inl h
  · refine .inr ?_
    have hle := Ps.tfr_le h1
    rcases Nat.lt_or_ge (tfr s.data.toList q) s.data.toList.length with hlt | hge
    · refine .inl ⟨hle, fun hb => Ps.no_blank s.data.toList q ?_⟩
      rw [byt_get hlt, hb]
    · exact .inr (by omega)
theorem pa_four {s : ByteArray} {Q : Nat → Prop} {k : Nat} {e : Int} (h : PA s Q k e) (hc : cls2 s k e = 4) : e = 3 ∧ ∃ q, q ≤ s.data.toList.length ∧ k = tfr s.data.toList q ∧ k < s.data.toList.length ∧ Q q := by
  unfold cls2 at hc
  split at hc
  · cases hc
  · rename_i h0
    split at hc
    · rename_i hk
      split at hc
      · rename_i h3
        rcases h with h | ⟨q, h1, h2, h4⟩
        · exact absurd h h0
        · exact ⟨h3, q, h1, h2, hk, h4 h3⟩
      · cases hc
    · split at hc <;> cases hc
theorem cls_lt (s : ByteArray) (k : Nat) (e : Int) : cls2 s k e < 4 ∨ cls2 s k e = 4 := by
  unfold cls2
  repeat' split
  all_goals first | exact .inl (by decide) | exact .inr rfl
/-- The loop's head: on, or at the token's end. -/
theorem hd_cls (D : FD) (k : Nat) (e : Int) (n : Nat) (W : Nat → Value) (hs : D.s.data.toList.length ≤ 3000) (hk : k < D.s.data.toList.length) (h1 : k + 1 ≤ n) (h2 : n ≤ k + tlen (D.s.data.toList.drop k)) :
    (n < k + tlen (D.s.data.toList.drop k) ∧ ∀ q, q ∈ hdF 3 → @TETrue ((fnm D k e n).val W) q) ∨ (n = k + tlen (D.s.data.toList.drop k) ∧ ∃ x, x < 3 ∧ ∀ q, q ∈ hdF x → @TETrue ((fnm D k e n).val W) q) := by
  have key := Ps.end_iff (byt_get hk) h1 h2
  have no : ¬ (0 < wd (byt D.s k) ∧ ∃ d, D.s.data.toList[n]? = some d ∧ wd d = wd (byt D.s k)) → n = k + tlen (D.s.data.toList.drop k) := fun h => by
    have : ¬ n < k + tlen (D.s.data.toList.drop k) := fun hn => h (key.2 hn)
    omega
  by_cases c0 : n < D.s.data.toList.length
  · by_cases c1 : 0 < wd (byt D.s k)
    · by_cases c2 : wd (byt D.s n) = wd (byt D.s k)
      · exact .inl ⟨key.1 ⟨c1, _, byt_get c0, c2⟩, hd_ok D k e n W 3 hs hk (by omega) (decide_eq_true c0) (fun _ => decide_eq_true c1) (fun _ => by rw [c2]; exact beq_self_eq_true _)⟩
      · refine .inr ⟨no fun h => ?_, 2, by omega, hd_ok D k e n W 2 hs hk (by omega) (decide_eq_true c0) (fun _ => decide_eq_true c1) (fun _ => beq_eq_false_iff_ne.2 c2)⟩
        obtain ⟨_, d, h3, h4⟩ := h
        rw [byt_get c0] at h3
        cases h3
        exact c2 h4
    · exact .inr ⟨no fun h => c1 h.1, 1, by omega, hd_ok D k e n W 1 hs hk (by omega) (decide_eq_true c0) (fun _ => decide_eq_false c1) (fun h => absurd h (by omega))⟩
  · refine .inr ⟨no fun h => ?_, 0, by omega, hd_ok D k e n W 0 hs hk (by omega) (decide_eq_false c0) (fun h => absurd h (by omega)) (fun h => absurd h (by omega))⟩
    obtain ⟨_, d, h3, _⟩ := h
    rw [List.getElem?_eq_none (by omega)] at h3
    cases h3
theorem tend_le {s : ByteArray} {k : Nat} (hk : k < s.data.toList.length) : 1 ≤ tlen (s.data.toList.drop k) ∧ k + tlen (s.data.toList.drop k) ≤ s.data.toList.length := by
  have h1 := Go.Proofs.Z.W.tlen_le (s.data.toList.drop k)
  have h2 : 1 ≤ tlen (s.data.toList.drop k) := by
    unfold tlen
    rw [List.length_drop]
    omega
  rw [List.length_drop] at h1
  omega
theorem ag_ok (D : FD) (k : Nat) (e : Int) (n : Nat) (W : Nat → Value) (hf : ∀ q, q ∈ hdF 3 → @TETrue ((fnm D k e n).val W) q) : @TbOK ((fnm D k e n).val W) agT := by
  letI : Val := (fnm D k e n).val W
  exact { T := hf, Y := yW_ok D k e n W 3 }
theorem sag_ok (D : FD) (k : Nat) (e : Int) (n : Nat) (W W' : Nat → Value) : Holds Sag ((fnm D k e n).val W) ((fnm D k e (n + 1)).val W') := holds_all fun q hq => by
  simp only [Sag, ids, List.mem_cons, List.not_mem_nil, or_false] at hq
  rcases hq with rfl | rfl | rfl | rfl | rfl
  · exact ⟨.i64, k, rfl, rfl⟩
  · exact ⟨.i64, e, rfl, rfl⟩
  · exact ⟨.i64, (n : Int) + 1, rfl, rfl⟩
  · exact ⟨D.s, rfl, rfl⟩
  · exact ⟨D.t, rfl, rfl⟩
/-- The names of the answers to the cut text. -/
def cutV (D : FD) (n : Nat) : ByteArray := D.s.extract 0 n ++ ⟨#[32]⟩ ++ D.t
section
variable (D : FD) (k : Nat) (w : World)
def Phi (n : Nat) (_ : Unit) (c : Nm) : Prop := ∃ j, k + 1 ≤ j ∧ j ≤ k + tlen (D.s.data.toList.drop k) ∧ n = k + tlen (D.s.data.toList.drop k) - j ∧ c = fnm D k 3 j
variable (hs : D.s.data.toList.length ≤ 3000) (ht : D.t.data.toList.length ≤ 3000) (hk : k < D.s.data.toList.length)
include hs ht hk
/-- The second loop. -/
theorem step2 {B : Code} {K : List Fr} (hag : againT agT [] B K (pat 1) Sag [] (pat 1) = true) (hou : (allU 3 fun x => outF (ou2T x) [] fFi B K (pat 1) (bR true)) = true)
    (hY : ∀ q, q ∈ yC2 → Ans q.f (q.a.map (@cvF ((fnm D k 3 (k + tlen (D.s.data.toList.drop k))).val fun _ => undef))) (@cvF ((fnm D k 3 (k + tlen (D.s.data.toList.drop k))).val fun _ => undef) q.r)) (n : Nat) (u : Unit) (c : Nm) (h : Phi D k n u c) (W : Nat → Value) :
    StepT fFi B K (fun _ : Unit => pat 1) w.heap.size w (DF (.bool true) w) (fun k' c' => ∃ n', n' < n ∧ Phi D k n' k' c') u c W := by
  obtain ⟨j, h1, h2, rfl, rfl⟩ := h
  rcases hd_cls D k 3 j W hs hk h1 h2 with ⟨hlt, hf⟩ | ⟨rfl, x, hx, hf⟩
  · exact step_to agT [] (ag_ok D k 3 j W hf) Sag [] () (fnm D k 3 (j + 1)) hag (sag_ok D k 3 j W) ⟨_, by omega, j + 1, by omega, by omega, rfl, rfl⟩
  · refine step_outF (ou2T x) [] ?_ (bR true) (allU_lt hou x hx) rfl
    letI : Val := (fnm D k 3 (k + tlen (D.s.data.toList.drop k))).val W
    refine { T := ?_, Y := ?_, SS := ss_ok D k 3 _ W (tend_le hk).2 }
    · intro q hq
      rcases List.mem_append.1 hq with hq | hq
      · exact hf q hq
      · exact cut_ok D k 3 _ W hs ht q hq
    · intro q hq
      rcases List.mem_append.1 hq with hq | hq
      · exact yW_ok D k 3 _ W x q hq
      · simp only [yC2, List.mem_cons, List.not_mem_nil, or_false] at hq
        rcases hq with rfl | rfl
        · exact hY _ (List.mem_cons_self)
        · exact hY _ (List.mem_cons_of_mem _ List.mem_cons_self)
end
end Go.Proofs.Z.Fi

namespace Go.Proofs.Z.Fi
open Go Go.RowKit Go.Proofs Go.Ri Go.Proofs.Z
open Go.Proofs.Z.W (tfr tto tlen byteIn)
open Go.Proofs.Z.Fa
open Go.Proofs.Z.Ps (wd pwR pmR earP plc tok pwBad pmQ Agree)
/-! EarFirst: the law. -/
theorem noH (V V' : Val) : Holds [] V V' := ⟨(fun j r h => by cases h), (fun j r h => by cases h), (fun j r h => by cases h), (fun j r h => by cases h), (fun j r h => by cases h)⟩
theorem sanexF : XTrue saneX := by
  intro f vs v h
  unfold saneX at h
  split at h
  · split at h
    · rename_i hf
      obtain rfl := Nat.eq_of_beq_eq_true hf
      cases h
      exact sane_ans
    · cases h
  · cases h
theorem cutV_list (D : FD) (n : Nat) : (cutV D n).data.toList = D.s.data.toList.take n ++ 32 :: D.t.data.toList := cut_list D.s D.t n
theorem cut_len (D : FD) (n : Nat) (hs : D.s.data.toList.length ≤ 3000) (ht : D.t.data.toList.length ≤ 3000) : (cutV D n).data.toList.length ≤ 6001 := by
  rw [cutV_list, List.length_append, List.length_cons, List.length_take]
  omega
theorem size_len (s : ByteArray) : s.size = s.data.toList.length := by simp
theorem cut_pw (D : FD) (hs : D.s.data.toList.length ≤ 3000) (ht : D.t.data.toList.length ≤ 3000) {r : Ps.ER} (hr : earP D.s.data.toList 0 = r) {q : Nat} (hq : q ≤ D.s.data.toList.length) (hlt : tfr D.s.data.toList q < D.s.data.toList.length) (hb : pwBad D.s r ∧ q = r.i) :
    Ans fPW [.string (cutV D (tto D.s.data.toList q))] (.tuple #[.agg zL.toArray, intV (tfr D.s.data.toList q : Nat), intV 3]) := by
  obtain ⟨hb, rfl⟩ := hb
  have hl := cut_len D (tto D.s.data.toList r.i) hs ht
  have h := Ps.pw_ans (cutV D (tto D.s.data.toList r.i)) (by rw [size_len]; omega)
  have h2 := Ps.pw_same (s' := cutV D (tto D.s.data.toList r.i)) hr hb hlt (by omega) (by rw [cutV_list]; exact Ps.agree_cut _ _ _ (Ps.tto_le hq))
  rw [h2] at h
  exact h
theorem cut_pm (D : FD) (hs : D.s.data.toList.length ≤ 3000) (ht : D.t.data.toList.length ≤ 3000) {a b : Ps.ER} (ha : earP D.s.data.toList (plc D.s.data.toList 0 2) = a) (hb : earP D.s.data.toList (plc D.s.data.toList a.i 3) = b) {q : Nat} (hq : q ≤ D.s.data.toList.length) (hlt : tfr D.s.data.toList q < D.s.data.toList.length) (hQ : pmQ D.s.data.toList a b = some q) :
    Ans fPM [.string (cutV D (tto D.s.data.toList q))] (.tuple #[.agg (zL ++ zL).toArray, intV (tfr D.s.data.toList q : Nat), intV 3]) := by
  have hl := cut_len D (tto D.s.data.toList q) hs ht
  have A : Agree D.s.data.toList (cutV D (tto D.s.data.toList q)).data.toList (tto D.s.data.toList q) := by rw [cutV_list]; exact Ps.agree_cut _ _ _ (Ps.tto_le hq)
  have h := Ps.pm_ans (cutV D (tto D.s.data.toList q)) (by rw [size_len]; omega) rfl rfl
  have h2 := Ps.pmQ_same ha hb hQ hlt A
  rw [Ps.pmR_bad rfl rfl (by omega) h2, Ps.tfr_same A (Ps.tto_gt hlt)] at h
  exact h
theorem pw_any (s : ByteArray) (hs : s.data.toList.length ≤ 6001) : ∃ X Y k e, Ans fPW [.string s] (.tuple #[.agg (cellsV X Y).toArray, intV k, intV e]) := by
  obtain ⟨X, Y, k, e, h⟩ := pw_shape s (earP s.data.toList 0)
  exact ⟨X, Y, k, e, h ▸ Ps.pw_ans s (by rw [size_len]; omega)⟩
def mkX (k e : Int) (X1 X2 X3 X4 : Nat → Int) : Nat → Int := fun j => if j = 32 then k else if j = 33 then e else if j < 220 then X1 (j - 200) else if j < 240 then X2 (j - 220) else if j < 260 then X3 (j - 240) else X4 (j - 260)
def mkY (Y1 Y2 Y3 Y4 : Nat → Bool) : Nat → Bool := fun j => if j < 220 then Y1 (j - 200) else if j < 240 then Y2 (j - 220) else if j < 260 then Y3 (j - 240) else Y4 (j - 260)
/-- All that is told of the two answers. -/
structure Data (s t : ByteArray) where
  k1 : Nat
  e1 : Int
  k2 : Nat
  e2 : Int
  X1 : Nat → Int
  Y1 : Nat → Bool
  X2 : Nat → Int
  Y2 : Nat → Bool
  X3 : Nat → Int
  Y3 : Nat → Bool
  r : Ps.ER
  a : Ps.ER
  b : Ps.ER
  hr : earP s.data.toList 0 = r
  ha : earP s.data.toList (plc s.data.toList 0 2) = a
  hb : earP s.data.toList (plc s.data.toList a.i 3) = b
  w : Ans fPW [.string s] (.tuple #[.agg (cellsV X1 Y1).toArray, intV k1, intV e1])
  m : Ans fPM [.string s] (.tuple #[.agg (cellsV X2 Y2 ++ cellsV X3 Y3).toArray, intV k2, intV e2])
  p1 : PA s (fun q => pwBad s r ∧ q = r.i) k1 e1
  p2 : PA s (fun q => pmQ s.data.toList a b = some q) k2 e2
theorem data_ex (s t : ByteArray) (hs : s.data.toList.length ≤ 3000) : Nonempty (Data s t) := by
  obtain ⟨r, hr⟩ : ∃ r, earP s.data.toList 0 = r := ⟨_, rfl⟩
  obtain ⟨a, ha⟩ : ∃ a, earP s.data.toList (plc s.data.toList 0 2) = a := ⟨_, rfl⟩
  obtain ⟨b, hb⟩ : ∃ b, earP s.data.toList (plc s.data.toList a.i 3) = b := ⟨_, rfl⟩
  have hw := Ps.pw_ans s (by rw [size_len]; omega)
  have hm := Ps.pm_ans s (by rw [size_len]; omega) ha hb
  have tw := Ps.pw_told hr (by omega)
  have tm := Ps.pm_told ha hb (by omega)
  rw [hr] at hw
  obtain ⟨X1, Y1, k1, e1, h1⟩ := pw_shape s r
  obtain ⟨X2, Y2, X3, Y3, k2, e2, h2⟩ := pm_shape s a b
  rw [h1] at hw tw
  rw [h2] at hm tm
  obtain ⟨k1', rfl, p1⟩ := told_pa tw
  obtain ⟨k2', rfl, p2⟩ := told_pa tm
  exact ⟨⟨k1', e1, k2', e2, X1, Y1, X2, Y2, X3, Y3, r, a, b, hr, ha, hb, hw, hm, p1, p2⟩⟩
def fd1 {s t : ByteArray} (d : Data s t) : FD := ⟨s, t, mkX 0 0 d.X1 d.X2 d.X3 fun _ => 0, mkY d.Y1 d.Y2 d.Y3 fun _ => false, d.k2, d.e2⟩
def fd2 {s t : ByteArray} (X : Nat → Int) (Y : Nat → Bool) (k e : Int) : FD := ⟨s, t, mkX k e (fun _ => 0) (fun _ => 0) (fun _ => 0) X, mkY (fun _ => false) (fun _ => false) (fun _ => false) Y, 0, 0⟩
section
variable {s t : ByteArray} (d : Data s t)
theorem yA_ok (e : Int) (he : e = d.e1) (n : Nat) (W : Nat → Value) : ∀ q, q ∈ yA → Ans q.f (q.a.map (@cvF ((fnm (fd1 d) d.k1 e n).val W))) (@cvF ((fnm (fd1 d) d.k1 e n).val W) q.r) := by
  subst he
  intro q hq
  simp only [yA, List.mem_cons, List.not_mem_nil, or_false] at hq
  rcases hq with rfl | rfl
  · exact d.w
  · exact d.m
theorem st2_ok (hs : s.data.toList.length ≤ 3000) (e : Int) (n : Nat) (W : Nat → Value) : ∀ q, q ∈ stF 3 4 25 (cls2 s d.k2 d.e2) → @TETrue ((fnm (fd1 d) d.k1 e n).val W) q :=
  @stF_ok ((fnm (fd1 d) d.k1 e n).val W) s d.k2 d.e2 3 4 25 rfl rfl rfl rfl rfl rfl hs (pa_ok d.p2)
theorem st1_ok (hs : s.data.toList.length ≤ 3000) (n : Nat) (W : Nat → Value) : ∀ q, q ∈ stF 1 2 5 (cls2 s d.k1 d.e1) → @TETrue ((fnm (fd1 d) d.k1 d.e1 n).val W) q :=
  @stF_ok ((fnm (fd1 d) d.k1 d.e1 n).val W) s d.k1 d.e1 1 2 5 rfl rfl rfl rfl rfl rfl hs (pa_ok d.p1)
theorem tA_ok (D : FD) (k : Nat) (e : Int) (n : Nat) (W : Nat → Value) (hs : D.s.data.toList.length ≤ 3000) (ht : D.t.data.toList.length ≤ 3000) : ∀ q, q ∈ tA → @TETrue ((fnm D k e n).val W) q := by
  letI : Val := (fnm D k e n).val W
  intro q hq
  simp only [tA, List.mem_cons, List.not_mem_nil, or_false] at hq
  rcases hq with rfl | rfl | rfl | rfl
  · exact f_len (s := D.s) rfl rfl rfl
  · exact f_len (s := D.t) rfl rfl rfl
  · exact f_gtr (m := (D.s.data.toList.length : Int)) (n := 3000) rfl rfl (decide_eq_false (by omega))
  · exact f_gtr (m := (D.t.data.toList.length : Int)) (n := 3000) rfl rfl (decide_eq_false (by omega))
theorem en_ok (hs : s.data.toList.length ≤ 3000) (ht : t.data.toList.length ≤ 3000) (n : Nat) (W : Nat → Value) : @TbOK ((fnm (fd1 d) d.k1 d.e1 n).val W) (en2T (cls2 s d.k1 d.e1) (cls2 s d.k2 d.e2)) := by
  letI : Val := (fnm (fd1 d) d.k1 d.e1 n).val W
  refine { X := sanexF, T := ?_, Y := yA_ok d _ rfl n W }
  intro q hq
  rcases List.mem_append.1 hq with hq | hq
  · exact tA_ok (fd1 d) d.k1 d.e1 n W hs ht q hq
  · rcases List.mem_append.1 hq with hq | hq
    · exact st1_ok d hs n W q hq
    · exact st2_ok d hs _ n W q hq
theorem en1_ok (hs : s.data.toList.length ≤ 3000) (ht : t.data.toList.length ≤ 3000) (hc : cls2 s d.k1 d.e1 = 4) (n : Nat) (W : Nat → Value) : @TbOK ((fnm (fd1 d) d.k1 d.e1 n).val W) en1T := by
  letI : Val := (fnm (fd1 d) d.k1 d.e1 n).val W
  refine { X := sanexF, T := ?_, Y := yA_ok d _ rfl n W }
  intro q hq
  rcases List.mem_append.1 hq with hq | hq
  · exact tA_ok (fd1 d) d.k1 d.e1 n W hs ht q hq
  · exact st1_ok d hs n W q (by rw [hc]; exact hq)
theorem ou1_ok (hs : s.data.toList.length ≤ 3000) (ht : t.data.toList.length ≤ 3000) (h3 : d.e1 = 3) (m : Nat) (hm : m ≤ s.data.toList.length) (hcut : Ans fPW [.string (cutV (fd1 d) m)] (.tuple #[.agg zL.toArray, intV d.k1, intV 3])) (x : Nat) (W : Nat → Value) (hf : ∀ q, q ∈ hdF x → @TETrue ((fnm (fd1 d) d.k1 3 m).val W) q) : @TbOK ((fnm (fd1 d) d.k1 3 m).val W) (ou1T x (cls2 s d.k2 d.e2)) := by
  letI : Val := (fnm (fd1 d) d.k1 3 m).val W
  refine { T := ?_, Y := ?_, SS := ss_ok (fd1 d) d.k1 3 m W hm }
  · intro q hq
    rcases List.mem_append.1 hq with hq | hq
    · exact hf q hq
    · rcases List.mem_append.1 hq with hq | hq
      · exact cut_ok (fd1 d) d.k1 3 m W hs ht q hq
      · exact st2_ok d hs 3 m W q hq
  · intro q hq
    rcases List.mem_append.1 hq with hq | hq
    · exact yW_ok (fd1 d) d.k1 3 m W x q hq
    · rcases List.mem_cons.1 hq with rfl | hq
      · exact hcut
      · exact yA_ok d 3 h3.symm m W q hq
/-- From the first loop, or from the start, to the second one. -/
theorem s2_ok (e : Int) (n : Nat) (W : Nat → Value) (D2 : FD) (hD : D2.s = s) (hDt : D2.t = t) (h3 : d.e2 = 3) (W' : Nat → Value) : Holds S2 ((fnm (fd1 d) d.k1 e n).val W) ((fnm D2 d.k2 3 (d.k2 + 1)).val W') := holds_all fun q hq => by
  subst hD
  subst hDt
  simp only [S2, ids, List.mem_cons, List.not_mem_nil, or_false] at hq
  rcases hq with rfl | rfl | rfl | rfl | rfl
  · exact ⟨.i64, d.k2, rfl, rfl⟩
  · exact ⟨.i64, d.e2, rfl, h3.symm⟩
  · exact ⟨.i64, (d.k2 : Int) + 1, rfl, rfl⟩
  · exact ⟨D2.s, rfl, rfl⟩
  · exact ⟨D2.t, rfl, rfl⟩
end
/-- What the second loop wants. -/
theorem second {s t : ByteArray} (d : Data s t) (hs : s.data.toList.length ≤ 3000) (ht : t.data.toList.length ≤ 3000) (hc : cls2 s d.k2 d.e2 = 4) : d.e2 = 3 ∧ d.k2 < s.data.toList.length ∧ ∃ D2 : FD, D2.s = s ∧ D2.t = t ∧
    ∀ q, q ∈ yC2 → Ans q.f (q.a.map (@cvF ((fnm D2 d.k2 3 (d.k2 + tlen (D2.s.data.toList.drop d.k2))).val fun _ => undef))) (@cvF ((fnm D2 d.k2 3 (d.k2 + tlen (D2.s.data.toList.drop d.k2))).val fun _ => undef) q.r) := by
  obtain ⟨h3, q, hq, hk, hlt, hQ⟩ := pa_four d.p2 hc
  obtain ⟨X, Y, k, e, hw⟩ := pw_any (cutV (fd1 d) (tto s.data.toList q)) (cut_len (fd1 d) _ hs ht)
  have hm := cut_pm (fd1 d) hs ht d.ha d.hb hq (by show tfr s.data.toList q < s.data.toList.length; rw [← hk]; exact hlt) hQ
  have hto : tto s.data.toList q = d.k2 + tlen (s.data.toList.drop d.k2) := by rw [hk]; rfl
  have hto' : tto (fd1 d).s.data.toList q = d.k2 + tlen (s.data.toList.drop d.k2) := hto
  have hk' : tfr (fd1 d).s.data.toList q = d.k2 := hk.symm
  rw [hto', hk'] at hm
  rw [hto] at hw
  refine ⟨h3, hlt, fd2 (s := s) (t := t) X Y k e, rfl, rfl, ?_⟩
  intro y hy
  simp only [yC2, List.mem_cons, List.not_mem_nil, or_false] at hy
  rcases hy with rfl | rfl
  · exact hw
  · exact hm
theorem bigT_ok (s t : ByteArray) (b : Bool) (h : if b then 3000 < s.data.toList.length else ¬ 3000 < s.data.toList.length ∧ 3000 < t.data.toList.length) : @TbOK ((fnm ⟨s, t, fun _ => 0, fun _ => false, 0, 0⟩ 0 0 0).val fun _ => undef) (bigT b) := by
  letI : Val := (fnm ⟨s, t, fun _ => 0, fun _ => false, 0, 0⟩ 0 0 0).val fun _ => undef
  refine { X := sanexF, T := ?_ }
  intro q hq
  have hq : q ∈ tBig b := hq
  cases b with
  | true =>
    simp only [if_true] at h
    simp only [tBig, if_true, List.mem_cons, List.not_mem_nil, or_false] at hq
    rcases hq with rfl | rfl
    · exact f_len (s := s) rfl rfl rfl
    · exact f_gtr (m := (s.data.toList.length : Int)) (n := 3000) rfl rfl (decide_eq_true (by omega))
  | false =>
    simp only [Bool.false_eq_true, if_false] at h
    simp only [tBig, Bool.false_eq_true, if_false, List.mem_cons, List.not_mem_nil, or_false] at hq
    rcases hq with rfl | rfl | rfl | rfl
    · exact f_len (s := s) rfl rfl rfl
    · exact f_len (s := t) rfl rfl rfl
    · exact f_gtr (m := (s.data.toList.length : Int)) (n := 3000) rfl rfl (decide_eq_false (by omega))
    · exact f_gtr (m := (t.data.toList.length : Int)) (n := 3000) rfl rfl (decide_eq_true (by omega))
/-- THE LAW. -/
theorem first_law (s t : ByteArray) : Ans fFi [.string s, .string t] (.bool true) := by
  by_cases h1 : 3000 < s.data.toList.length
  · exact @ans_dq ((fnm ⟨s, t, fun _ => 0, fun _ => false, 0, 0⟩ 0 0 0).val fun _ => undef) _ _ _ [] fun w hr => done_calls _ _ (bigT_ok s t true (by rw [if_pos rfl]; exact h1)) (all2_all fi_big true) rfl (noH _ _) w hr [.string s, .string t] (@nval_flat ((fnm ⟨s, t, fun _ => 0, fun _ => false, 0, 0⟩ 0 0 0).val fun _ => undef) w dA rfl)
  by_cases h2 : 3000 < t.data.toList.length
  · exact @ans_dq ((fnm ⟨s, t, fun _ => 0, fun _ => false, 0, 0⟩ 0 0 0).val fun _ => undef) _ _ _ [] fun w hr => done_calls _ _ (bigT_ok s t false (by rw [if_neg (by decide)]; exact ⟨h1, h2⟩)) (all2_all fi_big false) rfl (noH _ _) w hr [.string s, .string t] (@nval_flat ((fnm ⟨s, t, fun _ => 0, fun _ => false, 0, 0⟩ 0 0 0).val fun _ => undef) w dA rfl)
  have hs : s.data.toList.length ≤ 3000 := by omega
  have ht : t.data.toList.length ≤ 3000 := by omega
  obtain ⟨d⟩ := data_ex s t hs
  rcases cls_lt s d.k1 d.e1 with hq | hq
  · have hen := en_ok d hs ht 0 fun _ => undef
    rcases cls_lt s d.k2 d.e2 with hp | hp
    · exact @ans_dq ((fnm (fd1 d) d.k1 d.e1 0).val fun _ => undef) _ _ _ [] fun w hr => done_calls _ _ hen (allU_lt (allU_lt fi_dn _ hq) _ hp) rfl (noH _ _) w hr [.string s, .string t] (@nval_flat ((fnm (fd1 d) d.k1 d.e1 0).val fun _ => undef) w dA rfl)
    · obtain ⟨h3, hk, D2, hD, hDt, hY⟩ := second d hs ht hp
      rw [hp] at hen
      have h0 := s2_ok d d.e1 0 (fun _ => undef) D2 hD hDt h3
      subst hD
      subst hDt
      have ht2 := tend_le hk
      intro w hr
      exact fn_loop (κ := Unit) (fnm (fd1 d) d.k1 d.e1 0) (fun _ => undef) (en2T (cls2 D2.s d.k1 d.e1) 4) [false] fFi dA (fun _ => pat 1) (Phi D2 d.k2) hen S2 [] () _ (allU_lt fi_en2 _ hq) (fnm D2 d.k2 3 (d.k2 + 1)) h0 ⟨d.k2 + 1, by omega, by omega, rfl, rfl⟩ (DF (.bool true)) (fun w n u c h W => step2 D2 d.k2 w hs ht hk (allU_lt fi_ag3 _ hq) (allU_lt fi_ou3 _ hq) hY n u c h W) w hr [.string D2.s, .string D2.t] (@nval_flat ((fnm (fd1 d) d.k1 d.e1 0).val fun _ => undef) w dA rfl)
  · obtain ⟨h3, q, hq1, hk1, hlt1, hQ1⟩ := pa_four d.p1 hq
    have hcut := cut_pw (fd1 d) hs ht d.hr hq1 (by show tfr s.data.toList q < s.data.toList.length; rw [← hk1]; exact hlt1) hQ1
    have hto : tto (fd1 d).s.data.toList q = d.k1 + tlen (s.data.toList.drop d.k1) := by rw [hk1]; rfl
    have hk' : tfr (fd1 d).s.data.toList q = d.k1 := hk1.symm
    rw [hto, hk'] at hcut
    have ht1 := tend_le hlt1
    intro w hr
    refine fn_loopL (κ := Unit) (fnm (fd1 d) d.k1 d.e1 0) (fun _ => undef) en1T [false] fFi dA (fun _ => pat 0) (Phi (fd1 d) d.k1) (en1_ok d hs ht hq 0 _) S1 [] () _ fi_en1 (fnm (fd1 d) d.k1 3 (d.k1 + 1)) ?_ ⟨d.k1 + 1, by omega, ht1.1 |> fun _ => (by show d.k1 + 1 ≤ d.k1 + tlen (s.data.toList.drop d.k1); omega), rfl, rfl⟩ (DF (.bool true)) ?_ w hr [.string s, .string t] (@nval_flat ((fnm (fd1 d) d.k1 d.e1 0).val fun _ => undef) w dA rfl)
    · intro W'
      refine holds_all fun y hy => ?_
      simp only [S1, ids, List.mem_cons, List.not_mem_nil, or_false] at hy
      rcases hy with rfl | rfl | rfl | rfl | rfl
      · exact ⟨.i64, d.k1, rfl, rfl⟩
      · exact ⟨.i64, d.e1, rfl, h3.symm⟩
      · exact ⟨.i64, (d.k1 : Int) + 1, rfl, rfl⟩
      · exact ⟨s, rfl, rfl⟩
      · exact ⟨t, rfl, rfl⟩
    · rintro w n u c ⟨j, g1, g2, rfl, rfl⟩ W
      rcases hd_cls (fd1 d) d.k1 3 j W hs hlt1 g1 g2 with ⟨hlt, hf⟩ | ⟨rfl, x, hx, hf⟩
      · exact .inl (step_to agT [] (ag_ok (fd1 d) d.k1 3 j W hf) Sag [] () (fnm (fd1 d) d.k1 3 (j + 1)) fi_ag1 (sag_ok (fd1 d) d.k1 3 j W) ⟨_, by omega, j + 1, by omega, by omega, rfl, rfl⟩)
      · have htb := ou1_ok d hs ht h3 (d.k1 + tlen (s.data.toList.drop d.k1)) ht1.2 hcut x W hf
        rcases cls_lt s d.k2 d.e2 with hp | hp
        · exact .inl (step_outF (ou1T x (cls2 s d.k2 d.e2)) [] htb (bR true) (allU_lt (allU_lt fi_ou1 x hx) _ hp) rfl)
        · obtain ⟨h4, hk, D2, hD, hDt, hY⟩ := second d hs ht hp
          rw [hp] at htb
          have h0 := s2_ok d 3 (d.k1 + tlen (s.data.toList.drop d.k1)) W D2 hD hDt h4
          subst hD
          subst hDt
          have ht2 := tend_le hk
          refine .inr ⟨ou1T x 4, [], S2, [], pat 1, fnm D2 d.k2 3 (d.k2 + 1), htb, allU_lt fi_to2 x hx, h0, ?_⟩
          intro fn hfn W2 E2 a2 w2 Sm
          exact loop_wp hfn (B2 x) (K2 x) (fun _ : Unit => pat 1) w.heap.size w (DF (.bool true) w) (Phi D2 d.k2) (fun n u c h W => step2 D2 d.k2 w hs ht hk (allU_lt fi_ag2 x hx) (allU_lt fi_ou2 x hx) hY n u c h W) _ () (fnm D2 d.k2 3 (d.k2 + 1)) W2 E2 a2 w2 ⟨d.k2 + 1, by omega, by omega, rfl, rfl⟩ Sm
end Go.Proofs.Z.Fi
