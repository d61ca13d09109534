/- A part of the proofs that the laws of layer four answer true for every input. -/
import Derived.Test.YtjjmnoiiihcoiaaGreatDoorZGH
namespace Go.Proofs.Z
open Go Go.RowKit Go.Proofs Go.Ri Go.Proofs.Z.Fa
/-! CheckPath of both packages: runs. -/
/-- What is known of grazings (20, 21) and days (22, 23), one test behind the other. -/
def agT (i : Nat) (p : Bool) : List TE :=
  if i = 0 then [⟨.bin .lss, sI 20, lI 0, bR (!p)⟩, ⟨.bin .geq, sI 20, lI 0, bR p⟩]
  else if i = 1 then [⟨.bin .geq, sI 20, sI 0, bR (!p)⟩, ⟨.bin .lss, sI 20, sI 0, bR p⟩]
  else if i = 2 then [⟨.bin .lss, sI 21, lI 0, bR (!p)⟩, ⟨.bin .geq, sI 21, lI 0, bR p⟩]
  else if i = 3 then [⟨.bin .geq, sI 21, sI 0, bR (!p)⟩, ⟨.bin .lss, sI 21, sI 0, bR p⟩]
  else if i = 4 then [⟨.bin .lss, sI 22, lI 0, bR (!p)⟩, ⟨.bin .geq, sI 22, lI 0, bR p⟩]
  else if i = 5 then [⟨.bin .gtr, sI 22, lI 1048576, bR (!p)⟩, ⟨.bin .leq, sI 22, lI 1048576, bR p⟩]
  else if i = 6 then [⟨.bin .lss, sI 23, sI 22, bR (!p)⟩]
  else [⟨.bin .gtr, sI 23, lI 1048576, bR (!p)⟩, ⟨.bin .leq, sI 23, lI 1048576, bR p⟩]
def agN (c : Nat) : Nat → List TE
  | 0 => []
  | j + 1 => agN c j ++ if j < c then agT j true else if j = c then agT j false else []
def agX (c : Nat) (s : Bool) : List TE := if c < 6 then [] else if c = 6 then [⟨.bin .geq, sI 23, lI 0, bR s⟩, ⟨.bin .leq, sI 23, lI 1048576, bR true⟩] else [⟨.bin .geq, sI 23, lI 0, bR true⟩]
def vld (e : Int) : Bool := if e = 0 then true else false
end Go.Proofs.Z

namespace Go.Proofs.Z
open Go Go.RowKit Go.Proofs Go.Ri Go.Proofs.Z.Fa
/-! CheckPath: contracts; the law FellPaths. -/
theorem row2 {l : List Value} (hl : ints l) (i : Nat) (h : i * 2 + 2 ≤ l.length) : (l.drop (i * 2)).take 2 = [.int .i64 (intOf (l.getD (i * 2) undef)), .int .i64 (intOf (l.getD (i * 2 + 1) undef))] := by
  have cell : ∀ j, j < l.length → Value.int .i64 (intOf (l.getD j undef)) = l.getD j undef := fun j hj => by
    obtain ⟨n, hn⟩ := hl (l[j]) (List.getElem_mem hj)
    have e : l.getD j undef = l[j] := by rw [List.getD_eq_getElem?_getD, List.getElem?_eq_getElem hj]; rfl
    rw [e, hn]
    rfl
  rw [cell _ (by omega), cell _ (by omega)]
  apply List.ext_getElem?
  intro j
  rw [List.getElem?_take]
  split
  · rename_i hj
    rw [List.getElem?_drop]
    have g : ∀ k, k < l.length → l[k]? = some (l.getD k undef) := fun k hk => by
      rw [List.getD_eq_getElem?_getD, List.getElem?_eq_getElem hk]; rfl
    rw [g _ (by omega)]
    match j, hj with
    | 0, _ => rfl
    | 1, _ => rfl
  · rename_i hj
    rw [List.getElem?_eq_none]
    simp
    omega
def psD (q : List Value) (i : Nat) : Int := intOf (q.getD (i * 2) undef)
def psG (q : List Value) (i : Nat) : Int := intOf (q.getD (i * 2 + 1) undef)
def nextG (l : List Value) (g : Nat) (x : Int) : Int := if gtA l g = x then gtB l g else gtA l g
/-- Where sheep are, and on what day, behind the first i passes. -/
def pst (l q : List Value) (x d : Int) : Nat → Int × Int
  | 0 => (x, d)
  | i + 1 => (nextG l (psG q i).toNat (pst l q x d i).1, psD q i)
def pqTest (n : Nat) (to day pd pg : Int) (i : Nat) : Bool := if i = 0 then decide (day ≤ pd) else if i = 1 then decide (pd ≤ to) else if i = 2 then decide (0 ≤ pg) else decide (pg < n)
def pqCls (n : Nat) (to day pd pg : Int) : Nat := firstBad (pqTest n to day pd pg) 4 0
def pokM (l : List Value) (n : Nat) (q : List Value) (to : Int) (s : Int × Int) (i : Nat) : Bool :=
  pqCls n to s.2 (psD q i) (psG q i) == 4 && (odP l (psD q i) (psG q i).toNat && (decide (s.1 = gtA l (psG q i).toNat) || decide (s.1 = gtB l (psG q i).toNat)))
def okP (l : List Value) (n : Nat) (q : List Value) (to x d : Int) : Nat → Bool
  | 0 => true
  | i + 1 => okP l n q to x d i && pokM l n q to (pst l q x d i) i
theorem okP_at {l : List Value} {n : Nat} {q : List Value} {to x d : Int} : ∀ {m i : Nat}, okP l n q to x d m = true → i < m → pokM l n q to (pst l q x d i) i = true
  | m + 1, i, h, hi => by
    have h : (okP l n q to x d m && pokM l n q to (pst l q x d m) m) = true := h
    simp only [Bool.and_eq_true] at h
    rcases Nat.lt_or_eq_of_le (Nat.le_of_lt_succ hi) with h1 | rfl
    · exact okP_at h.1 h1
    · exact h.2
def agTest (G a b fr to : Int) (i : Nat) : Bool :=
  if i = 0 then decide (0 ≤ a) else if i = 1 then decide (a < G) else if i = 2 then decide (0 ≤ b) else if i = 3 then decide (b < G) else if i = 4 then decide (0 ≤ fr) else if i = 5 then decide (fr ≤ 1048576) else if i = 6 then decide (fr ≤ to) else decide (to ≤ 1048576)
def agCls (G a b fr to : Int) : Nat := firstBad (agTest G a b fr to) 8 0
def cpM (G : Int) (l : List Value) (n : Nat) (q : List Value) (m : Nat) (a b fr to : Int) : Int :=
  if validM G l n then (if agCls G a b fr to = 8 then (if okP l n q to a fr m && decide ((pst l q a fr m).1 = b) then 0 else 41) else 1) else 40
def pnm (G : Int) (l : List Value) (n : Nat) (q : List Value) (m : Nat) (a b fr to : Int) (i : Nat) : Nm :=
  ⟨fun j => if j = 0 then G else if j = 1 then (n : Int) else if j = 3 then gtA l (psG q i).toNat else if j = 4 then gtB l (psG q i).toNat else if j = 5 then gtF l (psG q i).toNat else if j = 6 then gtT l (psG q i).toNat else if j = 20 then a else if j = 21 then b else if j = 22 then fr else if j = 23 then to else if j = 24 then (i : Int) else if j = 25 then (m : Int) else if j = 26 then (i : Int) + 1 else if j = 30 then (pst l q a fr i).1 else if j = 31 then (pst l q a fr i).2 else if j = 32 then psD q i else psG q i,
   fun _ => false, fun _ => ⟨#[]⟩, fun j => if j = 0 then l else q⟩
section
variable {G : Int} {l : List Value} {n : Nat} {q : List Value} {m : Nat} {a b fr to : Int}
theorem nd' (a b : Int) : decide (a < b) = !decide (b ≤ a) := by by_cases h : a < b <;> simp [h] <;> omega
theorem ng' (a b : Int) : decide (a ≥ b) = !decide (a < b) := by by_cases h : a ≥ b <;> simp [h] <;> omega
theorem ngt' (a b : Int) : decide (a > b) = !decide (a ≤ b) := by by_cases h : a > b <;> simp [h] <;> omega
theorem eqdec (a b : Int) : (a == b) = decide (a = b) := by by_cases h : a = b <;> simp [h]
theorem agT_ok (i : Nat) (W : Nat → Value) (j : Nat) (p : Bool) (hp : agTest G a b fr to j = p) : ∀ e, e ∈ agT j p → @TETrue ((pnm G l n q m a b fr to i).val W) e := by
  letI : Val := (pnm G l n q m a b fr to i).val W
  subst hp
  by_cases h0 : j = 0
  · subst h0
    exact fa (f_lss (k := .i64) (m := a) (n := 0) rfl rfl (nd' _ _)) (fa (f_geq (k := .i64) (m := a) (n := 0) rfl rfl rfl) fz)
  by_cases h1 : j = 1
  · subst h1
    exact fa (f_geq (k := .i64) (m := a) (n := G) rfl rfl (ng' _ _)) (fa (f_lss (k := .i64) (m := a) (n := G) rfl rfl rfl) fz)
  by_cases h2 : j = 2
  · subst h2
    exact fa (f_lss (k := .i64) (m := b) (n := 0) rfl rfl (nd' _ _)) (fa (f_geq (k := .i64) (m := b) (n := 0) rfl rfl rfl) fz)
  by_cases h3 : j = 3
  · subst h3
    exact fa (f_geq (k := .i64) (m := b) (n := G) rfl rfl (ng' _ _)) (fa (f_lss (k := .i64) (m := b) (n := G) rfl rfl rfl) fz)
  by_cases h4 : j = 4
  · subst h4
    exact fa (f_lss (k := .i64) (m := fr) (n := 0) rfl rfl (nd' _ _)) (fa (f_geq (k := .i64) (m := fr) (n := 0) rfl rfl rfl) fz)
  by_cases h5 : j = 5
  · subst h5
    exact fa (f_gtr (k := .i64) (m := fr) (n := 1048576) rfl rfl (ngt' _ _)) (fa (f_leq (k := .i64) (m := fr) (n := 1048576) rfl rfl rfl) fz)
  by_cases h6 : j = 6
  · subst h6
    exact fa (f_lss (k := .i64) (m := to) (n := fr) rfl rfl (nd' _ _)) fz
  unfold agT agTest
  rw [if_neg h0, if_neg h1, if_neg h2, if_neg h3, if_neg h4, if_neg h5, if_neg h6, if_neg h0, if_neg h1, if_neg h2, if_neg h3, if_neg h4, if_neg h5, if_neg h6]
  exact fa (f_gtr (k := .i64) (m := to) (n := 1048576) rfl rfl (ngt' _ _)) (fa (f_leq (k := .i64) (m := to) (n := 1048576) rfl rfl rfl) fz)
theorem agN_ok (i : Nat) (W : Nat → Value) (c : Nat) : ∀ j, (∀ i, i < c → i < j → agTest G a b fr to i = true) → (c < j → agTest G a b fr to c = false) → ∀ e, e ∈ agN c j → @TETrue ((pnm G l n q m a b fr to i).val W) e
  | 0, _, _ => fz
  | j + 1, h1, h2 => by
    unfold agN
    refine fapp (agN_ok i W c j (fun i hi hj => h1 i hi (by omega)) (fun h => h2 (by omega))) ?_
    split
    · rename_i hj
      exact agT_ok i W j true (h1 j hj (by omega))
    · split
      · rename_i hj
        subst hj
        exact agT_ok i W j false (h2 (by omega))
      · exact fz
theorem agTest_pass {j : Nat} (h : j < agCls G a b fr to) : agTest G a b fr to j = true := firstBad_pass _ 8 0 j (Nat.zero_le _) h
theorem agX_ok (i : Nat) (W : Nat → Value) : ∀ e, e ∈ agX (agCls G a b fr to) (decide (0 ≤ to)) → @TETrue ((pnm G l n q m a b fr to i).val W) e := by
  letI : Val := (pnm G l n q m a b fr to i).val W
  have hle : agCls G a b fr to ≤ 8 := firstBad_le (agTest G a b fr to) 8 0
  unfold agX
  by_cases h5 : agCls G a b fr to < 6
  · rw [if_pos h5]
    exact fz
  · rw [if_neg h5]
    have p4 : (0 : Int) ≤ fr := of_decide_eq_true (agTest_pass (G := G) (a := a) (b := b) (fr := fr) (to := to) (j := 4) (by omega))
    have p5 : fr ≤ 1048576 := of_decide_eq_true (agTest_pass (G := G) (a := a) (b := b) (fr := fr) (to := to) (j := 5) (by omega))
    by_cases h6 : agCls G a b fr to = 6
    · rw [if_pos h6]
      have f6 : agTest G a b fr to 6 = false := by
        have := firstBad_fail (agTest G a b fr to) 8 0 (by show agCls G a b fr to < 8; omega)
        rw [show firstBad (agTest G a b fr to) 8 0 = 6 from h6] at this
        exact this
      have f6 : ¬ fr ≤ to := of_decide_eq_false f6
      exact fa (f_geq (k := .i64) (m := to) (n := 0) rfl rfl rfl) (fa (f_leq (k := .i64) (m := to) (n := 1048576) rfl rfl (decide_eq_true (by omega))) fz)
    · rw [if_neg h6]
      have p6 : fr ≤ to := of_decide_eq_true (agTest_pass (G := G) (a := a) (b := b) (fr := fr) (to := to) (j := 6) (by omega))
      exact fa (f_geq (k := .i64) (m := to) (n := 0) rfl rfl (decide_eq_true (by omega))) fz
end
section
variable (V : Val) {G : Int} {l : List Value} {n : Nat} {q : List Value} {m : Nat} {a b fr to : Int}
end
end Go.Proofs.Z
