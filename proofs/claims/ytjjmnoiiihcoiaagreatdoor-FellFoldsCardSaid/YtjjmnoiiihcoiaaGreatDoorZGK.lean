/- A part of the proofs that the laws of layer four answer true for every input. -/
import Derived.Test.YtjjmnoiiihcoiaaGreatDoorZGI
namespace Go.Proofs.Z
open Go Go.RowKit Go.Proofs Go.Ri Go.Proofs.Z.Fa
/-! CheckPath of both packages: runs. -/
abbrev fCheckPath : Nat := 41
abbrev fRCheckPath : Nat := 42
abbrev fFellPaths : Nat := 7
/-- What is known of grazings (20, 21) and days (22, 23), one test behind the other. -/
def agT (i : Nat) (p : Bool) : List TE :=
  if i = 0 then [⟨.bin .lss, sI 20, lI 0, bR (!p)⟩, ⟨.bin .geq, sI 20, lI 0, bR p⟩]
  else if i = 1 then [⟨.bin .geq, sI 20, sI 0, bR (!p)⟩, ⟨.bin .lss, sI 20, sI 0, bR p⟩]
  else if i = 2 then [⟨.bin .lss, sI 21, lI 0, bR (!p)⟩, ⟨.bin .geq, sI 21, lI 0, bR p⟩]
  else if i = 3 then [⟨.bin .geq, sI 21, sI 0, bR (!p)⟩, ⟨.bin .lss, sI 21, sI 0, bR p⟩]
  else if i = 4 then [⟨.bin .lss, sI 22, lI 0, bR (!p)⟩, ⟨.bin .geq, sI 22, lI 0, bR p⟩]
  else if i = 5 then [⟨.bin .gtr, sI 22, lI 1048576, bR (!p)⟩, ⟨.bin .leq, sI 22, lI 1048576, bR p⟩]
  else if i = 6 then [⟨.bin .lss, sI 23, sI 22, bR (!p)⟩]
  else [⟨.bin .gtr, sI 23, lI 1048576, bR (!p)⟩, ⟨.bin .leq, sI 23, lI 1048576, bR p⟩]
def agN (c : Nat) : Nat → List TE
  | 0 => []
  | j + 1 => agN c j ++ if j < c then agT j true else if j = c then agT j false else []
def agX (c : Nat) (s : Bool) : List TE := if c < 6 then [] else if c = 6 then [⟨.bin .geq, sI 23, lI 0, bR s⟩, ⟨.bin .leq, sI 23, lI 1048576, bR true⟩] else [⟨.bin .geq, sI 23, lI 0, bR true⟩]
def psLL : List LNE := [⟨0, 4, sI 1⟩, ⟨1, 2, sI 25⟩]
def vld (e : Int) : Bool := if e = 0 then true else false
noncomputable def cpE (e : Int) (c : Nat) (s : Bool) : Tb := { T := agN c 8 ++ agX c s, LL := psLL, C := [⟨fCheck, [fellR], lI e⟩, ⟨fValid, [fellR], bR (vld e)⟩] }
def cpD : List RV := [fellR, sI 20, sI 21, sI 22, sI 23, .slN 0 1 2]
def cpB : List (Option RO) := [some (.lstA 0), some (.lstA 1), some (.cells [sI 0, .slA 0 0 4] tFell false false)]
def cpS (i x d : RV) : List SE := .int 24 i :: .int 30 x :: .int 31 d :: (idI [0, 1, 20, 21, 22, 23, 25] ++ [.lst 0 0, .lst 1 1])
noncomputable def cpP : St := ⟨patW [(6, .ptr 2 0), (2, sI 21), (4, sI 23), (33, .slA 1 1 2), (34, sI 25), (35, sI 24), (14, sI 30), (15, sI 31)] 88 0, cpB⟩
noncomputable def rpP : St := ⟨patW [(6, .ptr 2 0), (2, sI 21), (4, sI 23), (5, .slA 1 1 2), (15, sI 24), (13, sI 30), (14, sI 31)] 113 0, cpB⟩
/-- The head of the loop. -/
def phT (b : Bool) : List TE := [⟨.bin .lss, sI 24, sI 25, bR b⟩, ⟨.inb, sI 24, sI 25, bR b⟩, ⟨.bin .add, sI 24, lI 1, sI 26⟩]
/-- A pass (32: the day, 33: the gate), tests. -/
def pqT (i : Nat) (p : Bool) : List TE :=
  if i = 0 then [⟨.bin .lss, sI 32, sI 31, bR (!p)⟩]
  else if i = 1 then [⟨.bin .gtr, sI 32, sI 23, bR (!p)⟩]
  else if i = 2 then [⟨.bin .geq, sI 33, lI 0, bR p⟩, ⟨.bin .lss, sI 33, lI 0, bR (!p)⟩]
  else [⟨.bin .lss, sI 33, sI 1, bR p⟩, ⟨.bin .geq, sI 33, sI 1, bR (!p)⟩, ⟨.inb, sI 33, sI 1, bR p⟩]
def pqN (c : Nat) : Nat → List TE
  | 0 => []
  | j + 1 => pqN c j ++ if j < c then pqT j true else if j = c then pqT j false else []
def abT (pa pb : Bool) : List TE := [⟨.ieq, sI 30, sI 3, bR pa⟩, ⟨.ieq, sI 3, sI 30, bR pa⟩, ⟨.ieq, sI 30, sI 4, bR pb⟩, ⟨.ieq, sI 4, sI 30, bR pb⟩]
/-- A pass over no gate. -/
noncomputable def cpBad (c : Nat) : Tb := { T := phT true ++ pqN c 4, LL := psLL, LX := [⟨1, 24, [sI 32, sI 33]⟩] }
/-- A pass over a gate. -/
noncomputable def cpGate (o pa pb : Bool) : Tb := { T := phT true ++ (pqN 4 4 ++ abT pa pb), LL := psLL, LX := [⟨1, 24, [sI 32, sI 33]⟩, ⟨0, 33, [sI 3, sI 4, sI 5, sI 6]⟩], Y := [⟨fIsOpen, [gateQ, sI 32], bR o⟩, ⟨fOpenOn, [gateQ, sI 32], bR o⟩] }
noncomputable def cpEnd (e : Bool) : Tb := { T := ⟨.ieq, sI 30, sI 21, bR e⟩ :: phT false, LL := psLL }
noncomputable def cpF (c : Bool) : Nat := if c then fCheckPath else fRCheckPath
noncomputable def cpQ (c : Bool) : St := if c then cpP else rpP
noncomputable def cpLB (c : Bool) : Code := hB (cpE 0 8 true) [] (cpF c) cpD
noncomputable def cpLK (c : Bool) : List Fr := hK (cpE 0 8 true) [] (cpF c) cpD
set_option maxRecDepth 100000 in
theorem cp_enter : (all2 fun c => enterT (cpE 0 8 true) [] (cpF c) cpD (cpS (lI 0) (sI 20) (sI 22)) [0, 1, 2] (cpQ c)) = true := by kernel_rfl
set_option maxRecDepth 100000 in
theorem cp_err : (all2 fun c => allU 8 fun k => all2 fun s => doneQ (cpE 0 k s) [] (cpF c) cpD [] [] (lI 1) []) = true := by kernel_rfl
set_option maxRecDepth 100000 in
theorem cp_err40 : (all2 fun c => doneQ { LL := psLL, C := [⟨fCheck, [fellR], lI 40⟩, ⟨fValid, [fellR], bR false⟩] } [] (cpF c) cpD [] [] (lI 40) []) = true := by kernel_rfl
set_option maxRecDepth 100000 in
theorem cp_bad : (all2 fun c => allU 4 fun k => outF (cpBad k) [] (cpF c) (cpLB c) (cpLK c) (cpQ c) (lI 41)) = true := by kernel_rfl
set_option maxRecDepth 100000 in
theorem cp_shut : (all2 fun c => all2 fun pa => all2 fun pb => outF (cpGate false pa pb) [] (cpF c) (cpLB c) (cpLK c) (cpQ c) (lI 41)) = true := by kernel_rfl
set_option maxRecDepth 100000 in
theorem cp_off : (all2 fun c => outF (cpGate true false false) [] (cpF c) (cpLB c) (cpLK c) (cpQ c) (lI 41)) = true := by kernel_rfl
set_option maxRecDepth 100000 in
theorem cp_again : (all2 fun c => all2 fun pb => againT (cpGate true true pb) [] (cpLB c) (cpLK c) (cpQ c) (cpS (sI 26) (sI 4) (sI 32)) [0, 1, 2] (cpQ c)) = true := by kernel_rfl
set_option maxRecDepth 100000 in
theorem cp_again2 : (all2 fun c => againT (cpGate true false true) [] (cpLB c) (cpLK c) (cpQ c) (cpS (sI 26) (sI 3) (sI 32)) [0, 1, 2] (cpQ c)) = true := by kernel_rfl
set_option maxRecDepth 100000 in
theorem cp_end : (all2 fun c => all2 fun e => outF (cpEnd e) [] (cpF c) (cpLB c) (cpLK c) (cpQ c) (if e then lI 0 else lI 41)) = true := by kernel_rfl
end Go.Proofs.Z

namespace Go.Proofs.Z
open Go Go.RowKit Go.Proofs Go.Ri Go.Proofs.Z.Fa
/-! CheckPath: contracts; the law FellPaths. -/
theorem row2 {l : List Value} (hl : ints l) (i : Nat) (h : i * 2 + 2 ≤ l.length) : (l.drop (i * 2)).take 2 = [.int .i64 (intOf (l.getD (i * 2) undef)), .int .i64 (intOf (l.getD (i * 2 + 1) undef))] := by
  have cell : ∀ j, j < l.length → Value.int .i64 (intOf (l.getD j undef)) = l.getD j undef := fun j hj => by
    obtain ⟨n, hn⟩ := hl (l[j]) (List.getElem_mem hj)
    have e : l.getD j undef = l[j] := by rw [List.getD_eq_getElem?_getD, List.getElem?_eq_getElem hj]; rfl
    rw [e, hn]
    rfl
  rw [cell _ (by omega), cell _ (by omega)]
  apply List.ext_getElem?
  intro j
  rw [List.getElem?_take]
  split
  · rename_i hj
    rw [List.getElem?_drop]
    have g : ∀ k, k < l.length → l[k]? = some (l.getD k undef) := fun k hk => by
      rw [List.getD_eq_getElem?_getD, List.getElem?_eq_getElem hk]; rfl
    rw [g _ (by omega)]
    match j, hj with
    | 0, _ => rfl
    | 1, _ => rfl
  · rename_i hj
    rw [List.getElem?_eq_none]
    simp
    omega
def psD (q : List Value) (i : Nat) : Int := intOf (q.getD (i * 2) undef)
def psG (q : List Value) (i : Nat) : Int := intOf (q.getD (i * 2 + 1) undef)
def nextG (l : List Value) (g : Nat) (x : Int) : Int := if gtA l g = x then gtB l g else gtA l g
/-- Where sheep are, and on what day, behind the first i passes. -/
def pst (l q : List Value) (x d : Int) : Nat → Int × Int
  | 0 => (x, d)
  | i + 1 => (nextG l (psG q i).toNat (pst l q x d i).1, psD q i)
def pqTest (n : Nat) (to day pd pg : Int) (i : Nat) : Bool := if i = 0 then decide (day ≤ pd) else if i = 1 then decide (pd ≤ to) else if i = 2 then decide (0 ≤ pg) else decide (pg < n)
def pqCls (n : Nat) (to day pd pg : Int) : Nat := firstBad (pqTest n to day pd pg) 4 0
def pokM (l : List Value) (n : Nat) (q : List Value) (to : Int) (s : Int × Int) (i : Nat) : Bool :=
  pqCls n to s.2 (psD q i) (psG q i) == 4 && (odP l (psD q i) (psG q i).toNat && (decide (s.1 = gtA l (psG q i).toNat) || decide (s.1 = gtB l (psG q i).toNat)))
def okP (l : List Value) (n : Nat) (q : List Value) (to x d : Int) : Nat → Bool
  | 0 => true
  | i + 1 => okP l n q to x d i && pokM l n q to (pst l q x d i) i
theorem okP_at {l : List Value} {n : Nat} {q : List Value} {to x d : Int} : ∀ {m i : Nat}, okP l n q to x d m = true → i < m → pokM l n q to (pst l q x d i) i = true
  | m + 1, i, h, hi => by
    have h : (okP l n q to x d m && pokM l n q to (pst l q x d m) m) = true := h
    simp only [Bool.and_eq_true] at h
    rcases Nat.lt_or_eq_of_le (Nat.le_of_lt_succ hi) with h1 | rfl
    · exact okP_at h.1 h1
    · exact h.2
def agTest (G a b fr to : Int) (i : Nat) : Bool :=
  if i = 0 then decide (0 ≤ a) else if i = 1 then decide (a < G) else if i = 2 then decide (0 ≤ b) else if i = 3 then decide (b < G) else if i = 4 then decide (0 ≤ fr) else if i = 5 then decide (fr ≤ 1048576) else if i = 6 then decide (fr ≤ to) else decide (to ≤ 1048576)
def agCls (G a b fr to : Int) : Nat := firstBad (agTest G a b fr to) 8 0
def cpM (G : Int) (l : List Value) (n : Nat) (q : List Value) (m : Nat) (a b fr to : Int) : Int :=
  if validM G l n then (if agCls G a b fr to = 8 then (if okP l n q to a fr m && decide ((pst l q a fr m).1 = b) then 0 else 41) else 1) else 40
def pnm (G : Int) (l : List Value) (n : Nat) (q : List Value) (m : Nat) (a b fr to : Int) (i : Nat) : Nm :=
  ⟨fun j => if j = 0 then G else if j = 1 then (n : Int) else if j = 3 then gtA l (psG q i).toNat else if j = 4 then gtB l (psG q i).toNat else if j = 5 then gtF l (psG q i).toNat else if j = 6 then gtT l (psG q i).toNat else if j = 20 then a else if j = 21 then b else if j = 22 then fr else if j = 23 then to else if j = 24 then (i : Int) else if j = 25 then (m : Int) else if j = 26 then (i : Int) + 1 else if j = 30 then (pst l q a fr i).1 else if j = 31 then (pst l q a fr i).2 else if j = 32 then psD q i else psG q i,
   fun _ => false, fun _ => ⟨#[]⟩, fun j => if j = 0 then l else q⟩
section
variable {G : Int} {l : List Value} {n : Nat} {q : List Value} {m : Nat} {a b fr to : Int}
theorem nd' (a b : Int) : decide (a < b) = !decide (b ≤ a) := by by_cases h : a < b <;> simp [h] <;> omega
theorem ng' (a b : Int) : decide (a ≥ b) = !decide (a < b) := by by_cases h : a ≥ b <;> simp [h] <;> omega
theorem ngt' (a b : Int) : decide (a > b) = !decide (a ≤ b) := by by_cases h : a > b <;> simp [h] <;> omega
theorem eqdec (a b : Int) : (a == b) = decide (a = b) := by by_cases h : a = b <;> simp [h]
theorem eqdec' (a b : Int) : (b == a) = decide (a = b) := by
  rw [eqdec b a]
  exact decide_eq_decide.2 ⟨Eq.symm, Eq.symm⟩
theorem agT_ok (i : Nat) (W : Nat → Value) (j : Nat) (p : Bool) (hp : agTest G a b fr to j = p) : ∀ e, e ∈ agT j p → @TETrue ((pnm G l n q m a b fr to i).val W) e := by
  letI : Val := (pnm G l n q m a b fr to i).val W
  subst hp
  by_cases h0 : j = 0
  · subst h0
    exact fa (f_lss (k := .i64) (m := a) (n := 0) rfl rfl (nd' _ _)) (fa (f_geq (k := .i64) (m := a) (n := 0) rfl rfl rfl) fz)
  by_cases h1 : j = 1
  · subst h1
    exact fa (f_geq (k := .i64) (m := a) (n := G) rfl rfl (ng' _ _)) (fa (f_lss (k := .i64) (m := a) (n := G) rfl rfl rfl) fz)
  by_cases h2 : j = 2
  · subst h2
    exact fa (f_lss (k := .i64) (m := b) (n := 0) rfl rfl (nd' _ _)) (fa (f_geq (k := .i64) (m := b) (n := 0) rfl rfl rfl) fz)
  by_cases h3 : j = 3
  · subst h3
    exact fa (f_geq (k := .i64) (m := b) (n := G) rfl rfl (ng' _ _)) (fa (f_lss (k := .i64) (m := b) (n := G) rfl rfl rfl) fz)
  by_cases h4 : j = 4
  · subst h4
    exact fa (f_lss (k := .i64) (m := fr) (n := 0) rfl rfl (nd' _ _)) (fa (f_geq (k := .i64) (m := fr) (n := 0) rfl rfl rfl) fz)
  by_cases h5 : j = 5
  · subst h5
    exact fa (f_gtr (k := .i64) (m := fr) (n := 1048576) rfl rfl (ngt' _ _)) (fa (f_leq (k := .i64) (m := fr) (n := 1048576) rfl rfl rfl) fz)
  by_cases h6 : j = 6
  · subst h6
    exact fa (f_lss (k := .i64) (m := to) (n := fr) rfl rfl (nd' _ _)) fz
  unfold agT agTest
  rw [if_neg h0, if_neg h1, if_neg h2, if_neg h3, if_neg h4, if_neg h5, if_neg h6, if_neg h0, if_neg h1, if_neg h2, if_neg h3, if_neg h4, if_neg h5, if_neg h6]
  exact fa (f_gtr (k := .i64) (m := to) (n := 1048576) rfl rfl (ngt' _ _)) (fa (f_leq (k := .i64) (m := to) (n := 1048576) rfl rfl rfl) fz)
theorem agN_ok (i : Nat) (W : Nat → Value) (c : Nat) : ∀ j, (∀ i, i < c → i < j → agTest G a b fr to i = true) → (c < j → agTest G a b fr to c = false) → ∀ e, e ∈ agN c j → @TETrue ((pnm G l n q m a b fr to i).val W) e
  | 0, _, _ => fz
  | j + 1, h1, h2 => by
    unfold agN
    refine fapp (agN_ok i W c j (fun i hi hj => h1 i hi (by omega)) (fun h => h2 (by omega))) ?_
    split
    · rename_i hj
      exact agT_ok i W j true (h1 j hj (by omega))
    · split
      · rename_i hj
        subst hj
        exact agT_ok i W j false (h2 (by omega))
      · exact fz
theorem agTest_pass {j : Nat} (h : j < agCls G a b fr to) : agTest G a b fr to j = true := firstBad_pass _ 8 0 j (Nat.zero_le _) h
theorem agX_ok (i : Nat) (W : Nat → Value) : ∀ e, e ∈ agX (agCls G a b fr to) (decide (0 ≤ to)) → @TETrue ((pnm G l n q m a b fr to i).val W) e := by
  letI : Val := (pnm G l n q m a b fr to i).val W
  have hle : agCls G a b fr to ≤ 8 := firstBad_le (agTest G a b fr to) 8 0
  unfold agX
  by_cases h5 : agCls G a b fr to < 6
  · rw [if_pos h5]
    exact fz
  · rw [if_neg h5]
    have p4 : (0 : Int) ≤ fr := of_decide_eq_true (agTest_pass (G := G) (a := a) (b := b) (fr := fr) (to := to) (j := 4) (by omega))
    have p5 : fr ≤ 1048576 := of_decide_eq_true (agTest_pass (G := G) (a := a) (b := b) (fr := fr) (to := to) (j := 5) (by omega))
    by_cases h6 : agCls G a b fr to = 6
    · rw [if_pos h6]
      have f6 : agTest G a b fr to 6 = false := by
        have := firstBad_fail (agTest G a b fr to) 8 0 (by show agCls G a b fr to < 8; omega)
        rw [show firstBad (agTest G a b fr to) 8 0 = 6 from h6] at this
        exact this
      have f6 : ¬ fr ≤ to := of_decide_eq_false f6
      exact fa (f_geq (k := .i64) (m := to) (n := 0) rfl rfl rfl) (fa (f_leq (k := .i64) (m := to) (n := 1048576) rfl rfl (decide_eq_true (by omega))) fz)
    · rw [if_neg h6]
      have p6 : fr ≤ to := of_decide_eq_true (agTest_pass (G := G) (a := a) (b := b) (fr := fr) (to := to) (j := 6) (by omega))
      exact fa (f_geq (k := .i64) (m := to) (n := 0) rfl rfl (decide_eq_true (by omega))) fz
theorem psLL_ok (hn : l.length = n * 4) (hm : q.length = m * 2) (i : Nat) (W : Nat → Value) : ∀ e, e ∈ psLL → @LLTrue ((pnm G l n q m a b fr to i).val W) e :=
  fa ⟨rfl, n, Nat.succ_pos 3, hn, rfl⟩ (fa ⟨rfl, m, Nat.succ_pos 1, hm, rfl⟩ fz)
theorem phT_ok {i : Nat} (hi : i ≤ 1000000000) (W : Nat → Value) {c : Bool} (hc : decide (i < m) = c) : ∀ e, e ∈ phT c → @TETrue ((pnm G l n q m a b fr to i).val W) e :=
  letI : Val := (pnm G l n q m a b fr to i).val W
  fa (f_lss (k := .i64) (m := (i : Int)) (n := (m : Int)) rfl rfl (by rw [← hc]; exact decide_eq_decide.2 (by omega))) (fa ⟨rfl, .i64, .i64, (i : Int), (m : Int), rfl, rfl, by
    show Value.bool c = _
    rw [← hc]
    exact congrArg Value.bool (decide_eq_decide.2 (by omega))⟩ (fa (f_add1 (m := (i : Int)) rfl rfl rfl (by omega) (by omega)) fz))
theorem pqT_ok (i : Nat) (W : Nat → Value) (j : Nat) (p : Bool) (hp : pqTest n to (pst l q a fr i).2 (psD q i) (psG q i) j = p) (hc : 2 < j → 0 ≤ psG q i) : ∀ e, e ∈ pqT j p → @TETrue ((pnm G l n q m a b fr to i).val W) e := by
  letI : Val := (pnm G l n q m a b fr to i).val W
  subst hp
  by_cases h0 : j = 0
  · subst h0
    exact fa (f_lss (k := .i64) (m := psD q i) (n := (pst l q a fr i).2) rfl rfl (nd' _ _)) fz
  by_cases h1 : j = 1
  · subst h1
    exact fa (f_gtr (k := .i64) (m := psD q i) (n := to) rfl rfl (ngt' _ _)) fz
  by_cases h2 : j = 2
  · subst h2
    exact fa (f_geq (k := .i64) (m := psG q i) (n := 0) rfl rfl rfl) (fa (f_lss (k := .i64) (m := psG q i) (n := 0) rfl rfl (nd' _ _)) fz)
  unfold pqT pqTest
  rw [if_neg h0, if_neg h1, if_neg h2, if_neg h0, if_neg h1, if_neg h2]
  have h0 := hc (by omega)
  exact fa (f_lss (k := .i64) (m := psG q i) (n := (n : Int)) rfl rfl rfl) (fa (f_geq (k := .i64) (m := psG q i) (n := (n : Int)) rfl rfl (ng' _ _)) (fa ⟨rfl, .i64, .i64, psG q i, (n : Int), rfl, rfl, congrArg Value.bool (by simp [h0])⟩ fz))
theorem pqN_ok (i : Nat) (W : Nat → Value) (c : Nat) (hc3 : 2 < c → 0 ≤ psG q i) : ∀ j, (∀ k, k < c → k < j → pqTest n to (pst l q a fr i).2 (psD q i) (psG q i) k = true) → (c < j → pqTest n to (pst l q a fr i).2 (psD q i) (psG q i) c = false) → ∀ e, e ∈ pqN c j → @TETrue ((pnm G l n q m a b fr to i).val W) e
  | 0, _, _ => fz
  | j + 1, h1, h2 => by
    unfold pqN
    refine fapp (pqN_ok i W c hc3 j (fun k hk hj => h1 k hk (by omega)) (fun h => h2 (by omega))) ?_
    split
    · rename_i hj
      exact pqT_ok i W j true (h1 j hj (by omega)) (fun h => hc3 (by omega))
    · split
      · rename_i hj
        subst hj
        exact pqT_ok i W j false (h2 (by omega)) hc3
      · exact fz
theorem pqN_cls (i : Nat) (W : Nat → Value) : ∀ e, e ∈ pqN (pqCls n to (pst l q a fr i).2 (psD q i) (psG q i)) 4 → @TETrue ((pnm G l n q m a b fr to i).val W) e :=
  pqN_ok i W _ (fun h => of_decide_eq_true (firstBad_pass (pqTest n to (pst l q a fr i).2 (psD q i) (psG q i)) 4 0 2 (Nat.zero_le _) (show 2 < pqCls n to (pst l q a fr i).2 (psD q i) (psG q i) from h))) 4 (fun k hk _ => firstBad_pass _ 4 0 k (Nat.zero_le _) hk) (fun h => firstBad_fail _ 4 0 h)
theorem pass_lx (hq : ints q) (hm : q.length = m * 2) {i : Nat} (hi : i < m) (W : Nat → Value) : @LXTrue ((pnm G l n q m a b fr to i).val W) ⟨1, 24, [sI 32, sI 33]⟩ := by
  have h2 : i * 2 + 2 ≤ q.length := by omega
  refine ⟨rfl, ?_, ?_⟩
  · show ((i : Int)).toNat * 2 + 2 ≤ q.length
    rw [Int.toNat_natCast]
    exact h2
  · show (q.drop (((i : Int)).toNat * 2)).take 2 = _
    rw [Int.toNat_natCast, row2 hq i h2]
    rfl
theorem gate_lx (hl : ints l) (hn : l.length = n * 4) {i : Nat} (h0 : 0 ≤ psG q i) (h1 : psG q i < n) (W : Nat → Value) : @LXTrue ((pnm G l n q m a b fr to i).val W) ⟨0, 33, [sI 3, sI 4, sI 5, sI 6]⟩ := by
  have h4 : (psG q i).toNat * 4 + 4 ≤ l.length := by omega
  refine ⟨rfl, h4, ?_⟩
  show (l.drop ((psG q i).toNat * 4)).take 4 = _
  rw [row4 hl _ h4]
  rfl
end
section
variable (V : Val) {G : Int} {l : List Value} {n : Nat} {q : List Value} {m : Nat} {a b fr to : Int}
theorem checkPath_ans (c : Bool) (hl : ints l) (hn : l.length = n * 4) (hq : ints q) (hm : q.length = m * 2) (hmb : m ≤ 1000000) :
    @AnsN ((pnm G l n q m a b fr to 0).val fun _ => undef) (cpF c) cpD (.int .i64 (cpM G l n q m a b fr to)) := by
  intro w hr vs hv
  have hC1 : @AnsN ((pnm G l n q m a b fr to 0).val fun _ => undef) fCheck [fellR] (.int .i64 (errM G l n)) := check_ans _ rfl rfl hl hn
  have hC2 : @AnsN ((pnm G l n q m a b fr to 0).val fun _ => undef) fValid [fellR] (.bool (validM G l n)) := valid_ans _ rfl rfl hl hn
  cases hva : validM G l n with
  | false =>
    have he : errM G l n = 40 := by unfold errM; rw [hva]; rfl
    have ht : @TbOK ((pnm G l n q m a b fr to 0).val fun _ => undef) { LL := psLL, C := [⟨fCheck, [fellR], lI 40⟩, ⟨fValid, [fellR], bR false⟩] } := by
      letI : Val := (pnm G l n q m a b fr to 0).val fun _ => undef
      rw [he] at hC1
      rw [hva] at hC2
      exact { LL := psLL_ok hn hm 0 _, C := fa hC1 (fa hC2 fz) }
    refine done_flat _ ht (all2_all cp_err40 c) rfl rfl ?_ w hr vs hv
    unfold cpM
    rw [hva]
    rfl
  | true =>
    have he : errM G l n = 0 := by unfold errM; rw [hva]; rfl
    have ht : @TbOK ((pnm G l n q m a b fr to 0).val fun _ => undef) (cpE 0 (agCls G a b fr to) (decide (0 ≤ to))) := by
      letI : Val := (pnm G l n q m a b fr to 0).val fun _ => undef
      rw [he] at hC1
      rw [hva] at hC2
      exact { T := fapp (agN_ok 0 _ _ 8 (fun i hi _ => firstBad_pass _ 8 0 i (Nat.zero_le _) hi) (fun h => firstBad_fail _ 8 0 h)) (agX_ok 0 _), LL := psLL_ok hn hm 0 _, C := fa hC1 (fa hC2 fz) }
    have hle : agCls G a b fr to ≤ 8 := firstBad_le (agTest G a b fr to) 8 0
    by_cases hc8 : agCls G a b fr to = 8
    · have p4 : (0 : Int) ≤ fr := of_decide_eq_true (agTest_pass (G := G) (a := a) (b := b) (fr := fr) (to := to) (j := 4) (by omega))
      have p6 : fr ≤ to := of_decide_eq_true (agTest_pass (G := G) (a := a) (b := b) (fr := fr) (to := to) (j := 6) (by omega))
      rw [hc8, show decide (0 ≤ to) = true from decide_eq_true (by omega)] at ht
      have em : cpM G l n q m a b fr to = if okP l n q to a fr m && decide ((pst l q a fr m).1 = b) then 0 else 41 := by
        unfold cpM
        rw [hva, if_pos rfl, if_pos hc8]
      rw [em]
      refine scan2 (cpF c) cpD (cpE 0 8 true) [] (cpQ c) (cpS (lI 0) (sI 20) (sI 22)) [0, 1, 2] (pnm G l n q m a b fr to 0) (fun _ => undef) (fun i => pnm G l n q m a b fr to i) m _ (fun i => okP l n q to a fr i = true ∧ 0 ≤ (pst l q a fr i).2) (all2_all cp_enter c) ht (fun W' => fa ⟨.i64, 0, rfl, rfl⟩ (fa ⟨.i64, a, rfl, rfl⟩ (fa ⟨.i64, fr, rfl, rfl⟩ (fapp (ids_ok _ (fa rfl (fa rfl (fa rfl (fa rfl (fa rfl (fa rfl (fa rfl fz)))))))) (fa rfl (fa rfl fz)))))) ⟨rfl, p4⟩ ?_ w hr vs hv
      rintro i hi ⟨hok, hd0⟩ W
      letI : Val := (pnm G l n q m a b fr to i).val W
      rcases Nat.lt_or_ge i m with hlt | hge
      · have hno : pokM l n q to (pst l q a fr i) i = false → (Value.int .i64 41 : Value) = .int .i64 (if okP l n q to a fr m && decide ((pst l q a fr m).1 = b) then 0 else 41) := fun h => by
          have : okP l n q to a fr m = false := by
            rw [Bool.eq_false_iff]
            intro h2
            rw [okP_at h2 hlt] at h
            cases h
          rw [this]
          rfl
        by_cases h4 : pqCls n to (pst l q a fr i).2 (psD q i) (psG q i) = 4
        · have tst := fun j hj => firstBad_pass (pqTest n to (pst l q a fr i).2 (psD q i) (psG q i)) 4 0 j (Nat.zero_le _) (show j < pqCls n to (pst l q a fr i).2 (psD q i) (psG q i) by rw [h4]; exact hj)
          have t0 : (pst l q a fr i).2 ≤ psD q i := of_decide_eq_true (tst 0 (by omega))
          have t2 : 0 ≤ psG q i := of_decide_eq_true (tst 2 (by omega))
          have t3 : psG q i < n := of_decide_eq_true (tst 3 (by omega))
          have hpq := pqN_cls (G := G) (l := l) (n := n) (q := q) (m := m) (a := a) (b := b) (fr := fr) (to := to) i W
          rw [h4] at hpq
          have tb : TbOK (cpGate (odP l (psD q i) (psG q i).toNat) (decide ((pst l q a fr i).1 = gtA l (psG q i).toNat)) (decide ((pst l q a fr i).1 = gtB l (psG q i).toNat))) := {
            T := fapp (phT_ok (by omega) W (by simp [hlt])) (fapp hpq (fa (f_ieq (k := .i64) (m := (pst l q a fr i).1) (n := gtA l (psG q i).toNat) rfl rfl (eqdec _ _)) (fa (f_ieq (k := .i64) (m := gtA l (psG q i).toNat) (n := (pst l q a fr i).1) rfl rfl (eqdec' _ _)) (fa (f_ieq (k := .i64) (m := (pst l q a fr i).1) (n := gtB l (psG q i).toNat) rfl rfl (eqdec _ _)) (fa (f_ieq (k := .i64) (m := gtB l (psG q i).toNat) (n := (pst l q a fr i).1) rfl rfl (eqdec' _ _)) fz)))))
            LL := psLL_ok hn hm i W
            LX := fa (pass_lx hq hm hlt W) (fa (gate_lx hl hn t2 t3 W) fz)
            Y := fa (open_ans (gtA l (psG q i).toNat) (gtB l (psG q i).toNat) (gtF l (psG q i).toNat) (gtT l (psG q i).toNat) (psD q i) (by omega)) (fa (openOn_ans (gtA l (psG q i).toNat) (gtB l (psG q i).toNat) (gtF l (psG q i).toNat) (gtT l (psG q i).toNat) (psD q i) (by omega)) fz) }
          have hpo : pokM l n q to (pst l q a fr i) i = (odP l (psD q i) (psG q i).toNat && (decide ((pst l q a fr i).1 = gtA l (psG q i).toNat) || decide ((pst l q a fr i).1 = gtB l (psG q i).toNat))) := by
            unfold pokM
            rw [h4]
            rfl
          have hst : pst l q a fr (i + 1) = (nextG l (psG q i).toNat (pst l q a fr i).1, psD q i) := rfl
          cases hop : odP l (psD q i) (psG q i).toNat with
          | false =>
            rw [hop] at tb hpo
            exact .inl ⟨_, lI 41, tb, all2_all (all2_all (all2_all cp_shut c) _) _, hno hpo⟩
          | true =>
            rw [hop] at tb hpo
            by_cases ha : (pst l q a fr i).1 = gtA l (psG q i).toNat
            · rw [decide_eq_true ha] at tb hpo
              refine .inr ⟨hlt, ⟨?_, ?_⟩, _, _, _, tb, all2_all (all2_all cp_again c) _, fun W' => fa ⟨.i64, (i : Int) + 1, rfl, rfl⟩ (fa ⟨.i64, gtB l (psG q i).toNat, rfl, ?_⟩ (fa ⟨.i64, psD q i, rfl, rfl⟩ (fapp (ids_ok _ (fa rfl (fa rfl (fa rfl (fa rfl (fa rfl (fa rfl (fa rfl fz)))))))) (fa rfl (fa rfl fz)))))⟩
              · show (okP l n q to a fr i && pokM l n q to (pst l q a fr i) i) = true
                rw [hok, hpo]
                rfl
              · rw [hst]
                show 0 ≤ psD q i
                omega
              · show (pst l q a fr (i + 1)).1 = _
                rw [hst]
                exact if_pos ha.symm
            · by_cases hb : (pst l q a fr i).1 = gtB l (psG q i).toNat
              · rw [decide_eq_false ha, decide_eq_true hb] at tb hpo
                refine .inr ⟨hlt, ⟨?_, ?_⟩, _, _, _, tb, all2_all cp_again2 c, fun W' => fa ⟨.i64, (i : Int) + 1, rfl, rfl⟩ (fa ⟨.i64, gtA l (psG q i).toNat, rfl, ?_⟩ (fa ⟨.i64, psD q i, rfl, rfl⟩ (fapp (ids_ok _ (fa rfl (fa rfl (fa rfl (fa rfl (fa rfl (fa rfl (fa rfl fz)))))))) (fa rfl (fa rfl fz)))))⟩
                · show (okP l n q to a fr i && pokM l n q to (pst l q a fr i) i) = true
                  rw [hok, hpo]
                  rfl
                · rw [hst]
                  show 0 ≤ psD q i
                  omega
                · show (pst l q a fr (i + 1)).1 = _
                  rw [hst]
                  exact if_neg (fun h => ha h.symm)
              · rw [decide_eq_false ha, decide_eq_false hb] at tb hpo
                exact .inl ⟨_, lI 41, tb, all2_all cp_off c, hno hpo⟩
        · have hle4 := firstBad_le (pqTest n to (pst l q a fr i).2 (psD q i) (psG q i)) 4 0
          have tb : TbOK (cpBad (pqCls n to (pst l q a fr i).2 (psD q i) (psG q i))) := { T := fapp (phT_ok (by omega) W (by simp [hlt])) (pqN_cls i W), LL := psLL_ok hn hm i W, LX := fa (pass_lx hq hm hlt W) fz }
          refine .inl ⟨_, lI 41, tb, allU_lt (all2_all cp_bad c) _ (show pqCls n to (pst l q a fr i).2 (psD q i) (psG q i) < 4 by unfold pqCls at h4 ⊢; omega), hno ?_⟩
          unfold pokM
          rw [show (pqCls n to (pst l q a fr i).2 (psD q i) (psG q i) == 4) = false by simpa using h4]
          rfl
      · obtain rfl : i = m := by omega
        have tb : TbOK (cpEnd (decide ((pst l q a fr i).1 = b))) := { T := fa (f_ieq (k := .i64) (m := (pst l q a fr i).1) (n := b) rfl rfl (eqdec _ _)) (phT_ok (by omega) W (by simp)), LL := psLL_ok hn hm i W }
        refine .inl ⟨_, _, tb, all2_all (all2_all cp_end c) _, ?_⟩
        rw [hok]
        by_cases hb : (pst l q a fr i).1 = b
        · rw [decide_eq_true hb]
          rfl
        · rw [decide_eq_false hb]
          rfl
    · refine done_flat _ ht (all2_all (allU_lt (all2_all cp_err c) _ (show agCls G a b fr to < 8 by omega)) _) rfl rfl ?_ w hr vs hv
      unfold cpM
      rw [hva, if_pos rfl, if_neg hc8]
      rfl
end
end Go.Proofs.Z
