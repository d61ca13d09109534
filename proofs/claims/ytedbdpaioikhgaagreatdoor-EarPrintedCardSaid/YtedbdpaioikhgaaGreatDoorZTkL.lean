/- A part of the proofs that the laws of layer one answer true for every input. -/
import Derived.Test.YtedbdpaioikhgaaGreatDoorZTkF
import Derived.Test.YtedbdpaioikhgaaGreatDoorZLoop5
import Derived.Test.YtedbdpaioikhgaaGreatDoorZEarOf
namespace Go.Proofs.Z.Ps
open Go Go.RowKit Go.Proofs Go.Ri Go.Proofs.Z
/-! The parser's ear: its runs. -/
def sT (i : Nat) : RV := .sym .str i
def sB' (i : Nat) : RV := .sym .bool i
def lT (l : List UInt8) : RV := .pl (.string ⟨l.toArray⟩)
def wWhole : List UInt8 := [119, 104, 111, 108, 101]
def wComma : List UInt8 := [44]
def wordsA : List (List UInt8) := [[115,108,105,116], [102,111,114,107,101,100], [104,111,108,108,111,119,101,100], [99,114,111,112,112,101,100], [104,111,108,101], [117,112,112,101,114], [108,111,119,101,114]]
def wordsC : List (List UInt8) := [[110,111,116,99,104], [98,105,116], [107,101,121]]
def wordsH : List (List UInt8) := [[48], [49], [50]]
def wordsS : List (List UInt8) := [[48], [49], [50], [51]]
/-- What token j is not or is, among words: the c-th. -/
noncomputable def seqV (j c : Nat) (l : List (List UInt8)) : Nat → List TE :=
  List.rec (motive := fun _ => Nat → List TE) (fun _ => []) (fun x _ ih k => ⟨.seq, sT j, lT x, bR (Nat.beq c k)⟩ :: ⟨.seq, lT x, sT j, bR (Nat.beq c k)⟩ :: ih (k + 1)) l
noncomputable def isV (j : Nat) (l : List UInt8) (b : Bool) : List TE := [⟨.seq, sT j, lT l, bR b⟩, ⟨.seq, lT l, sT j, bR b⟩]
noncomputable def nxT : List NXE := [⟨sI 0, sT 2, sI 40, sI 41⟩, ⟨sI 41, sT 3, sI 42, sI 43⟩, ⟨sI 43, sT 4, sI 44, sI 45⟩, ⟨sI 45, sT 5, sI 46, sI 47⟩]
/-- The caller: its further blocks, before the parser's three and behind them; names of theirs that stay; the first of the answer's names; the names at the start. -/
structure Cx where
  F : RH
  X : RH
  K : List SE
  o : Nat
  tk : Nat
  at_ : Nat
  po : Nat
def hP (X : Cx) (tok at_ pos : RV) : RH := X.F ++ ([some (.cells [sT 0] 9 false false), some (.cells [pos] 3 false false), some (.cells [.fn (.func 145) [] [.ptr (X.F.length + 1) 0, .ptr X.F.length 0], tok, at_] 126 false false)] ++ X.X)
def szX (X : Cx) : Nat := X.F.length + (3 + X.X.length)
def aX (X : Cx) : List RV := [.ptr (X.F.length + 2) 0]
noncomputable def tbN (T : List TE) : Tb := { T := T, U := nextU (sT 0) nxT }
def hP1 (X : Cx) : RH := hP X (sT 1) (sI 1) (sI 0)
def zEL : List Value := [.int .i64 0, .int .i64 0, .int .i64 0, .int .i64 0, .int .i64 0, .int .i64 0, .int .i64 0, .int .i64 0, .int .i64 0, .bool false, .bool false, .bool false]
def shapeL : List RV := [sI 20, sI 21, sI 22, sI 23, sI 24, sI 25, sI 26, sI 27, sI 28, sI 29, sI 30, sI 31]
def fids : List Nat := [20, 21, 22, 23, 24, 25, 26, 27, 28, 29, 30, 31]
noncomputable def tb0' : Tb := tbN (isV 1 wWhole false)
noncomputable def opn (X : Cx) : Option Stop := stopH tb0' [] 126 (aX X) (hP1 X)
noncomputable def epat (X : Cx) (_ : Unit) : St := ⟨patW [(0, .ptr (X.F.length + 2) 0), (2, .ptr (szX X) 0), (3, lI 0), (4, lI 0), (5, .ptr (szX X + 1) 0)] 53 0, hP1 X ++ [some (.cells (zEL.map .pl) 25 false false), some (.cells shapeL 92 false false)]⟩
def zEs (k : Nat) : RH := List.replicate k (some (.cells (zEL.map .pl) 25 false false))
def rEnt (X : Cx) : List Nat := List.range (szX X + 1) ++ [szX X + 3]
def rAg (X : Cx) : List Nat := List.range (szX X + 2)
def rOut (X : Cx) : List Nat := List.range (szX X)
def keepT (X : Cx) : List SE := [.str 0 (sT 0), .str 1 (sT X.tk), .int 0 (sI X.po), .int 1 (sI X.at_)] ++ X.K
def selfT (X : Cx) : List SE := [.str 0 (sT 0), .str X.tk (sT X.tk), .int X.po (sI X.po), .int X.at_ (sI X.at_)] ++ X.K
def eIds (X : Cx) : List SE := [.str 0 (sT 0), .str 1 (sT 1), .int 0 (sI 0), .int 1 (sI 1)] ++ (X.K ++ fids.map fun j => .int j (lI 0))
def hP0 (X : Cx) : RH := hP X (sT X.tk) (sI X.at_) (sI X.po)
def vc (p : Nat) : Nat := if p = 0 then 5 else if p < 9 then 4 else 2
/-- How many tokens a feature's phrase has, and what they are. -/
def nt (p : Nat) : Nat := if p = 0 then 1 else if p < 9 then 3 else 2
noncomputable def phr (p v : Nat) : List TE :=
  if p = 0 then seqV 1 (v - 1) wordsA 0
  else if p < 9 then seqV 1 (if p < 5 then 5 else 6) wordsA 0 ++ (seqV 2 (v - 1) wordsC 0 ++ seqV 3 (if p < 5 then p - 1 else p - 5) wordsS 0)
  else seqV 1 4 wordsA 0 ++ seqV 2 (p - 9) wordsH 0
def upR (p v : Nat) (i : Nat) : RV := if Nat.beq i p then lI v else sI (20 + i)
def upIds (p v : Nat) : List SE := .int (20 + p) (lI v) :: ((fids.filter fun j => !(Nat.beq j (20 + p))).map fun j => .int j (sI j))
/-- The state behind k further tokens. -/
def tokS (a b c : Nat) (k : Nat) : List SE := [.str a (sT (1 + k)), .int b (if Nat.beq k 0 then sI 0 else sI (39 + 2 * k)), .int c (if Nat.beq k 0 then sI 1 else sI (38 + 2 * k))]
noncomputable def eGood (p v : Nat) (z comma : Bool) : Tb := tbN (⟨.ieq, sI (20 + p), lI 0, bR z⟩ :: (isV (nt p + 1) wComma comma ++ phr p v))
noncomputable def eAgain (X : Cx) (p v : Nat) : Bool := match Nat.ble 1 v && Nat.blt v (vc p) with
  | true => againT (eGood p v true true) [] (hbB (opn X)) (hbK (opn X)) (epat X ()) (.str 0 (sT 0) :: (tokS 1 0 1 (nt p + 1) ++ (upIds p v ++ X.K))) (rAg X) (epat X ())
  | false => true
def upL (p v : Nat) : List RV := [upR p v 0, upR p v 1, upR p v 2, upR p v 3, upR p v 4, upR p v 5, upR p v 6, upR p v 7, upR p v 8, upR p v 9, upR p v 10, upR p v 11]
def upE (p v : Nat) : List RV := [upR p v 0, upR p v 1, upR p v 2, upR p v 3, upR p v 4, upR p v 5, upR p v 6, upR p v 7, upR p v 8, sB' 9, sB' 10, sB' 11]
noncomputable def eLast (p v : Nat) : Tb := { T := ⟨.ieq, sI (20 + p), lI 0, bR true⟩ :: (isV (nt p + 1) wComma false ++ phr p v), U := nextU (sT 0) nxT, Y := [⟨fEar, [.agg (upL p v)], .agg (upE p v)⟩] }
/-- The answer's names: the ear, where, what; and the state. -/
def rR (X : Cx) : RV := .tup [.agg [sI (X.o + 0), sI (X.o + 1), sI (X.o + 2), sI (X.o + 3), sI (X.o + 4), sI (X.o + 5), sI (X.o + 6), sI (X.o + 7), sI (X.o + 8), sB' (X.o + 0), sB' (X.o + 1), sB' (X.o + 2)], sI (X.o + 10), sI (X.o + 11)]
def kR (X : Cx) : RH := hP X (sT (X.o + 1)) (sI (X.o + 12)) (sI (X.o + 13))
def oks : List Nat := [0, 1, 2, 3, 4, 5, 6, 7, 8]
def errS (o : Nat) (at_ : RV) (n : Int) : List SE := .int (o + 10) at_ :: .int (o + 11) (lI n) :: (oks.map (fun i => .int (o + i) (lI 0)) ++ [.bool (o + 0) (bR false), .bool (o + 1) (bR false), .bool (o + 2) (bR false)])
def okS (o p v : Nat) : List SE := .int (o + 10) (lI 0) :: .int (o + 11) (lI 0) :: (oks.map (fun i => .int (o + i) (upR p v i)) ++ [.bool (o + 0) (sB' 9), .bool (o + 1) (sB' 10), .bool (o + 2) (sB' 11)])
noncomputable def eEnd (X : Cx) (p v : Nat) : Bool := match Nat.ble 1 v && Nat.blt v (vc p) with
  | true => outQ (eLast p v) [] 126 (hbB (opn X)) (hbK (opn X)) (epat X ()) (.str 0 (sT 0) :: (tokS (X.o + 1) (X.o + 13) (X.o + 12) (nt p) ++ (okS X.o p v ++ X.K))) (rOut X) (rR X) (kR X)
  | false => true
/-- Where a phrase breaks off: behind k tokens. -/
noncomputable def eBad (X : Cx) (k : Nat) (T : List TE) : Bool := outQ (tbN T) [] 126 (hbB (opn X)) (hbK (opn X)) (epat X ()) (.str 0 (sT 0) :: (tokS (X.o + 1) (X.o + 13) (X.o + 12) k ++ (errS X.o (if Nat.beq k 0 then sI 1 else sI (38 + 2 * k)) 3 ++ X.K))) (rOut X) (rR X) (kR X)
/-- The whole ear. -/
def wholeS (X : Cx) : List SE := .str 0 (sT 0) :: (tokS (X.o + 1) (X.o + 13) (X.o + 12) 1 ++ (errS X.o (lI 0) 0 ++ X.K))
noncomputable def tbD (p v : Nat) : List TE := ⟨.ieq, sI (20 + p), lI 0, bR false⟩ :: phr p v
noncomputable def eTwice (X : Cx) (p v : Nat) : Bool := match Nat.ble 1 v && Nat.blt v (vc p) with
  | true => outQ (tbN (tbD p v)) [] 126 (hbB (opn X)) (hbK (opn X)) (epat X ()) (.str 0 (sT 0) :: (tokS (X.o + 1) (X.o + 13) (X.o + 12) (nt p) ++ (errS X.o (sI 1) 11 ++ X.K))) (rOut X) (rR X) (kR X)
  | false => true
/-- The same names, the same values. -/
def KSame (A B : Val) : Prop := (∀ j, 100 ≤ j → j < 109 → A.I j = B.I j) ∧ ∀ j, 100 ≤ j → j < 103 → A.B j = B.B j
structure Runs0 (X : Cx) : Prop where
  enter : enterH (opn X) (eIds X) (rEnt X) (epat X ()) = true
  bad1 : eBad X 0 (seqV 1 7 wordsA 0) = true
  badH : eBad X 1 (seqV 1 4 wordsA 0 ++ seqV 2 3 wordsH 0) = true
  badE : (allU 2 fun e => eBad X 1 (seqV 1 (5 + e) wordsA 0 ++ seqV 2 3 wordsC 0)) = true
  badS : (allU 2 fun e => allU 3 fun c => eBad X 2 (seqV 1 (5 + e) wordsA 0 ++ (seqV 2 c wordsC 0 ++ seqV 3 4 wordsS 0))) = true
  whole : doneH (tbN (isV 1 wWhole true)) [] 126 (aX X) (hP1 X) (wholeS X) (rOut X) (rR X) (kR X) = true
  keep : mtH (mtO (keepT X) (hP0 X) (rOut X)) (hP0 X) (rOut X) (hP1 X) = true
  nodup : nodupR (rOut X) = true
  kok : ∀ A B : Val, KSame A B → ∀ e, e ∈ X.K → okSE A B e
structure Runs (X : Cx) : Prop extends Runs0 X where
  again : (allU 12 fun p => allU 5 fun v => eAgain X p v) = true
  last : (allU 12 fun p => allU 5 fun v => eEnd X p v) = true
  twice : (allU 12 fun p => allU 5 fun v => eTwice X p v) = true
end Go.Proofs.Z.Ps

namespace Go.Proofs.Z.Ps
open Go Go.RowKit Go.Proofs Go.Ri Go.Proofs.Z
open Go.Proofs.Z.W (tfr tto skp tlen_le tlen skp_le)
/-! What the parser answers: a model over the text's bytes. -/
def plc (l : List UInt8) (i : Nat) : Nat → Nat
  | 0 => i
  | k + 1 => tto l (plc l i k)
def tok (l : List UInt8) (i : Nat) : List UInt8 := (l.drop (tfr l i)).take (tto l i - tfr l i)
def tokS' (s : ByteArray) (i : Nat) : ByteArray := s.extract (tfr s.data.toList i) (tto s.data.toList i)
theorem tokS_eq (s : ByteArray) (i : Nat) : (tokS' s i).data.toList = tok s.data.toList i := Lib.extract_data _ _ _
/-- Which of the words a token is. -/
def cl (ws : List (List UInt8)) (t : List UInt8) : Nat := ws.findIdx (· == t)
def updP (t : Nat → Int) (p : Nat) (v : Int) : Nat → Int := fun j => if j = p then v else t j
/-- The feature that the phrase at place i tells, and how many tokens it takes; or behind how many tokens it breaks off. -/
def phrase (l : List UInt8) (i : Nat) : Option (Nat × Nat) × Nat :=
  if cl wordsA (tok l i) < 4 then (some (0, cl wordsA (tok l i) + 1), 1)
  else if cl wordsA (tok l i) = 4 then
    (if cl wordsH (tok l (plc l i 1)) < 3 then (some (9 + cl wordsH (tok l (plc l i 1)), 1), 2) else (none, 1))
  else if cl wordsA (tok l i) < 7 then
    (if cl wordsC (tok l (plc l i 1)) < 3 then
      (if cl wordsS (tok l (plc l i 2)) < 4 then (some (1 + 4 * (cl wordsA (tok l i) - 5) + cl wordsS (tok l (plc l i 2)), cl wordsC (tok l (plc l i 1)) + 1), 3) else (none, 2))
    else (none, 1))
  else (none, 0)
structure ER where
  e : Nat → Int
  pos : Int
  err : Int
  i : Nat
def earM (l : List UInt8) : Nat → Nat → (Nat → Int) → ER
  | 0, i, _ => ⟨fun _ => 0, 0, 0, i⟩
  | n + 1, i, t => match phrase l i with
    | (none, k) => ⟨fun _ => 0, tfr l (plc l i k), 3, plc l i k⟩
    | (some (p, v), k) =>
      if t p = 0 then
        (if tok l (plc l i k) = wComma then earM l n (plc l i (k + 1)) (updP t p v) else ⟨updP t p v, 0, 0, plc l i k⟩)
      else ⟨fun _ => 0, tfr l i, 11, plc l i k⟩
def earP (l : List UInt8) (i : Nat) : ER :=
  if tok l i = wWhole then ⟨fun _ => 0, 0, 0, plc l i 1⟩ else earM l (l.length + 1) i fun _ => 0
theorem le_tfr (l : List UInt8) (i : Nat) : i ≤ tfr l i := Nat.le_add_right _ _
theorem tfr_le {l : List UInt8} {i : Nat} (h : i ≤ l.length) : tfr l i ≤ l.length := skp_le l i h
theorem tfr_tto (l : List UInt8) (i : Nat) : tfr l i ≤ tto l i := Nat.le_add_right _ _
theorem tto_le {l : List UInt8} {i : Nat} (h : i ≤ l.length) : tto l i ≤ l.length := by
  have h1 := tlen_le (l.drop (skp l i))
  have h2 := tfr_le h
  rw [List.length_drop] at h1
  have h3 : tfr l i = skp l i := rfl
  show skp l i + tlen (l.drop (skp l i)) ≤ l.length
  omega
theorem plc_le {l : List UInt8} {i : Nat} (h : i ≤ l.length) : ∀ k, plc l i k ≤ l.length
  | 0 => h
  | k + 1 => tto_le (plc_le h k)
theorem le_plc (l : List UInt8) (i : Nat) : ∀ k, i ≤ plc l i k
  | 0 => Nat.le_refl _
  | k + 1 => Nat.le_trans (le_plc l i k) (Nat.le_trans (le_tfr l _) (tfr_tto l _))
theorem tok_lt {l : List UInt8} {i : Nat} (h : tok l i ≠ []) : i < tto l i := by
  have h1 := le_tfr l i
  have h2 := tfr_tto l i
  by_cases h3 : tto l i = tfr l i
  · exact absurd (by unfold tok; rw [h3, Nat.sub_self, List.take_zero]) h
  · omega
theorem cl_ne {ws : List (List UInt8)} (hn : ws.Nodup) {t x : List UInt8} {k : Nat} (hk : ws[k]? = some x) : (t == x) = Nat.beq (cl ws t) k := by
  obtain ⟨hlt, hx⟩ := List.getElem?_eq_some_iff.1 hk
  by_cases h : t = x
  · subst h
    have h1 : cl ws t = k := by
      unfold cl
      rw [List.findIdx_eq hlt]
      refine ⟨by rw [hx]; exact beq_self_eq_true t, fun j hj => ?_⟩
      have : ws[j] ≠ t := fun e => by
        exact List.pairwise_iff_getElem.1 hn j k (by omega) hlt hj (e.trans hx.symm)
      simpa using this
    rw [h1, Nat.beq_refl]
    exact beq_self_eq_true t
  · have h1 : cl ws t ≠ k := fun e => by
      have h2 : cl ws t < ws.length := by omega
      have h3 := List.findIdx_getElem (xs := ws) (p := (· == t)) (w := h2)
      have h4 : ws[cl ws t] = t := eq_of_beq h3
      apply h
      rw [← h4, ← hx]
      congr 1
    rw [show (t == x) = false by simpa using h]
    cases hb : (cl ws t).beq k with
    | false => rfl
    | true => exact absurd (Nat.eq_of_beq_eq_true hb) h1
theorem cl_le (ws : List (List UInt8)) (t : List UInt8) : cl ws t ≤ ws.length := List.findIdx_le_length
section
variable [Val]
theorem te_seq {j : Nat} {s : ByteArray} {x : List UInt8} {b : Bool} (hs : Val.S j = s) (h : (s.data.toList == x) = b) : TETrue ⟨.seq, sT j, lT x, bR b⟩ ∧ TETrue ⟨.seq, lT x, sT j, bR b⟩ := by
  subst hs
  subst h
  refine ⟨⟨rfl, Val.S j, ⟨x.toArray⟩, rfl, rfl, ?_⟩, ⟨rfl, ⟨x.toArray⟩, Val.S j, rfl, rfl, ?_⟩⟩
  · rw [ByteArray.toList_eq, ByteArray.toList_eq]
    rfl
  · rw [ByteArray.toList_eq, ByteArray.toList_eq]
    show Value.bool ((Val.S j).data.toList == x) = .bool (x == (Val.S j).data.toList)
    rw [Bool.beq_comm]
theorem seqV_true {j : Nat} {s : ByteArray} (hs : Val.S j = s) (c : Nat) : ∀ (ws : List (List UInt8)) (k0 : Nat), (∀ k x, ws[k]? = some x → (s.data.toList == x) = Nat.beq c (k0 + k)) → ∀ e, e ∈ (List.rec (motive := fun _ => Nat → List TE) (fun _ => []) (fun x _ ih k => ⟨.seq, sT j, lT x, bR (Nat.beq c k)⟩ :: ⟨.seq, lT x, sT j, bR (Nat.beq c k)⟩ :: ih (k + 1)) ws k0 : List TE) → TETrue e
  | [], _, _, e, he => by cases he
  | x :: ws, k0, h, e, he => by
    have h0 := te_seq (x := x) hs (h 0 x rfl)
    rcases List.mem_cons.1 he with rfl | he
    · exact h0.1
    · rcases List.mem_cons.1 he with rfl | he
      · exact h0.2
      · refine seqV_true hs c ws (k0 + 1) (fun k y hk => ?_) e he
        have := h (k + 1) y hk
        rw [this]
        congr 1
        omega
theorem seqC {j : Nat} {s : ByteArray} (hs : Val.S j = s) {ws : List (List UInt8)} (hn : ws.Nodup) {c : Nat} (hc : cl ws s.data.toList = c) : ∀ e, e ∈ seqV j c ws 0 → TETrue e := by
  subst hc
  exact seqV_true hs _ ws 0 fun k x hk => by rw [Nat.zero_add]; exact cl_ne hn hk
theorem isT {j : Nat} {s : ByteArray} (hs : Val.S j = s) {x : List UInt8} {b : Bool} (h : (s.data.toList == x) = b) : ∀ e, e ∈ isV j x b → TETrue e := by
  intro e he
  have h0 := te_seq (x := x) hs h
  simp only [isV, List.mem_cons, List.not_mem_nil, or_false] at he
  rcases he with rfl | rfl
  · exact h0.1
  · exact h0.2
end
end Go.Proofs.Z.Ps

namespace Go.Proofs.Z.Ps
open Go Go.RowKit Go.Proofs Go.Ri Go.Proofs.Z
open Go.Proofs.Z.W (tfr tto)
variable {M : (Nat → Int) × (Nat → Bool)}
/-! The parser's ear, as a call over its caller's blocks. -/
def uOf (l : List UInt8) (i : Nat) (t : Nat → Int) : Nat → Int := match (phrase l i).1 with
  | some (p, v) => updP t p v
  | none => t
/-- What the names stand for at the loop's head. -/
noncomputable def enm (M : (Nat → Int) × (Nat → Bool)) (s : ByteArray) (i : Nat) (t : Nat → Int) : Nm where
  I := fun j => if j = 0 then (tto s.data.toList i : Nat) else if j = 1 then (tfr s.data.toList i : Nat) else if j < 40 then t (j - 20) else if 100 ≤ j then M.1 j else if j % 2 = 0 then (tfr s.data.toList (plc s.data.toList i ((j - 38) / 2)) : Nat) else (tto s.data.toList (plc s.data.toList i ((j - 39) / 2)) : Nat)
  B := fun j => if 100 ≤ j then M.2 j else bitY (uOf s.data.toList i t) (j - 9)
  S := fun j => if j = 0 then s else tokS' s (plc s.data.toList i (j - 1))
  L := fun _ => []
theorem enm_s (s : ByteArray) (i : Nat) (t : Nat → Int) (k : Nat) : (enm M s i t).S (1 + k) = tokS' s (plc s.data.toList i k) := by
  show (if 1 + k = 0 then s else _) = _
  rw [if_neg (by omega), Nat.add_sub_cancel_left]
theorem enm_t (s : ByteArray) (i : Nat) (t : Nat → Int) (j : Nat) (h : j < 20) : (enm M s i t).I (20 + j) = t j := by
  show (if 20 + j = 0 then _ else if 20 + j = 1 then _ else if 20 + j < 40 then t (20 + j - 20) else _) = _
  rw [if_neg (by omega), if_neg (by omega), if_pos (by omega), Nat.add_sub_cancel_left]
theorem enm_fr (s : ByteArray) (i : Nat) (t : Nat → Int) (k : Nat) (h : 1 ≤ k) (h5 : k ≤ 20) : (enm M s i t).I (38 + 2 * k) = (tfr s.data.toList (plc s.data.toList i k) : Nat) := by
  show (if 38 + 2 * k = 0 then _ else if 38 + 2 * k = 1 then _ else if 38 + 2 * k < 40 then _ else if 100 ≤ 38 + 2 * k then _ else if (38 + 2 * k) % 2 = 0 then ((tfr s.data.toList (plc s.data.toList i ((38 + 2 * k - 38) / 2)) : Nat) : Int) else _) = _
  rw [if_neg (by omega), if_neg (by omega), if_neg (by omega), if_neg (by omega), if_pos (by omega), show (38 + 2 * k - 38) / 2 = k by omega]
theorem enm_to (s : ByteArray) (i : Nat) (t : Nat → Int) (k : Nat) (h : 1 ≤ k) (h5 : k ≤ 20) : (enm M s i t).I (39 + 2 * k) = (tto s.data.toList (plc s.data.toList i k) : Nat) := by
  show (if 39 + 2 * k = 0 then _ else if 39 + 2 * k = 1 then _ else if 39 + 2 * k < 40 then _ else if 100 ≤ 39 + 2 * k then _ else if (39 + 2 * k) % 2 = 0 then _ else ((tto s.data.toList (plc s.data.toList i ((39 + 2 * k - 39) / 2)) : Nat) : Int)) = _
  rw [if_neg (by omega), if_neg (by omega), if_neg (by omega), if_neg (by omega), if_neg (by omega), show (39 + 2 * k - 39) / 2 = k by omega]
section
variable {s : ByteArray} (hsz : s.size ≤ 1000000000) {i : Nat} (hi : i ≤ s.data.toList.length) (t : Nat → Int) (W : Nat → Value)
include hsz hi
theorem nxT_ok : ∀ q, q ∈ nxT → @Go.Proofs.Z.NXTrue ((enm M s i t).val W) (sT 0) q := by
  have hlen : s.data.toList.length = s.size := by simp
  have h := fun k => plc_le hi k
  rw [hlen] at h
  intro q hq
  simp only [nxT, List.mem_cons, List.not_mem_nil, or_false] at hq
  rcases hq with rfl | rfl | rfl | rfl
  · exact ⟨s, plc s.data.toList i 1, rfl, hsz, h 1, rfl, rfl, rfl, rfl⟩
  · exact ⟨s, plc s.data.toList i 2, rfl, hsz, h 2, rfl, rfl, rfl, rfl⟩
  · exact ⟨s, plc s.data.toList i 3, rfl, hsz, h 3, rfl, rfl, rfl, rfl⟩
  · exact ⟨s, plc s.data.toList i 4, rfl, hsz, h 4, rfl, rfl, rfl, rfl⟩
theorem tbN_ok {T : List TE} (hT : ∀ e, e ∈ T → @TETrue ((enm M s i t).val W) e) : @TbOK ((enm M s i t).val W) (tbN T) := by
  letI : Val := (enm M s i t).val W
  refine { T := hT, U := ?_ }
  exact next_ok (sT 0) nxT (nxT_ok hsz hi t W)
end
theorem nodA : wordsA.Nodup := by decide
theorem nodC : wordsC.Nodup := by decide
theorem nodH : wordsH.Nodup := by decide
theorem nodS : wordsS.Nodup := by decide
theorem seqE {s : ByteArray} {i : Nat} (t : Nat → Int) (W : Nat → Value) (k : Nat) {ws : List (List UInt8)} (hn : ws.Nodup) {c : Nat} (hc : cl ws (tok s.data.toList (plc s.data.toList i k)) = c) : ∀ e, e ∈ seqV (1 + k) c ws 0 → @TETrue ((enm M s i t).val W) e :=
  letI : Val := (enm M s i t).val W
  seqC (enm_s (M := M) s i t k) hn (by rw [tokS_eq]; exact hc)
theorem isE {s : ByteArray} {i : Nat} (t : Nat → Int) (W : Nat → Value) (k : Nat) {x : List UInt8} {b : Bool} (hc : (tok s.data.toList (plc s.data.toList i k) == x) = b) : ∀ e, e ∈ isV (1 + k) x b → @TETrue ((enm M s i t).val W) e :=
  letI : Val := (enm M s i t).val W
  isT (enm_s (M := M) s i t k) (by rw [tokS_eq]; exact hc)
theorem phr_ok {s : ByteArray} {i p v k : Nat} (t : Nat → Int) (W : Nat → Value) (h : phrase s.data.toList i = (some (p, v), k)) : k = nt p ∧ p < 12 ∧ 1 ≤ v ∧ v < vc p ∧ ∀ e, e ∈ phr p v → @TETrue ((enm M s i t).val W) e := by
  obtain ⟨A, hA⟩ : ∃ A, cl wordsA (tok s.data.toList i) = A := ⟨_, rfl⟩
  obtain ⟨H, hH⟩ : ∃ A, cl wordsH (tok s.data.toList (plc s.data.toList i 1)) = A := ⟨_, rfl⟩
  obtain ⟨C, hC⟩ : ∃ A, cl wordsC (tok s.data.toList (plc s.data.toList i 1)) = A := ⟨_, rfl⟩
  obtain ⟨S, hS⟩ : ∃ A, cl wordsS (tok s.data.toList (plc s.data.toList i 2)) = A := ⟨_, rfl⟩
  have fA := seqE (M := M) t W 0 nodA hA
  have fH := seqE (M := M) t W 1 nodH hH
  have fC := seqE (M := M) t W 1 nodC hC
  have fS := seqE (M := M) t W 2 nodS hS
  unfold phrase at h
  rw [hA, hH, hC, hS] at h
  clear hA hH hC hS
  split at h
  · cases h
    refine ⟨rfl, by omega, by omega, by show _ < 5; omega, ?_⟩
    exact fA
  · split at h
    · rename_i h4
      subst h4
      split at h
      · rename_i h3
        cases h
        have hp : ¬ (9 + H = 0) := by omega
        have hp2 : ¬ (9 + H < 9) := by omega
        refine ⟨by unfold nt; rw [if_neg hp, if_neg hp2], by omega, by omega, by unfold vc; rw [if_neg hp, if_neg hp2]; omega, ?_⟩
        unfold phr
        rw [if_neg hp, if_neg hp2, Nat.add_sub_cancel_left]
        intro e he
        rcases List.mem_append.1 he with he | he
        · exact fA e he
        · exact fH e he
      · cases h
    · split at h
      · rename_i hge hne h7
        split at h
        · rename_i h3
          split at h
          · rename_i h4
            cases h
            have hp : ¬ (1 + 4 * (A - 5) + S = 0) := by omega
            have hp2 : 1 + 4 * (A - 5) + S < 9 := by omega
            refine ⟨by unfold nt; rw [if_neg hp, if_pos hp2], by omega, by omega, by unfold vc; rw [if_neg hp, if_pos hp2]; omega, ?_⟩
            unfold phr
            rw [if_neg hp, if_pos hp2]
            have e1 : (if 1 + 4 * (A - 5) + S < 5 then 5 else 6) = A := by split <;> omega
            have e2 : (if 1 + 4 * (A - 5) + S < 5 then 1 + 4 * (A - 5) + S - 1 else 1 + 4 * (A - 5) + S - 5) = S := by split <;> omega
            rw [e1, e2, Nat.add_sub_cancel]
            intro e he
            rcases List.mem_append.1 he with he | he
            · exact fA e he
            · rcases List.mem_append.1 he with he | he
              · exact fC e he
              · exact fS e he
          · cases h
        · cases h
      · cases h
end Go.Proofs.Z.Ps

namespace Go.Proofs.Z.Ps
open Go Go.RowKit Go.Proofs Go.Ri Go.Proofs.Z
open Go.Proofs.Z.W (tfr tto)
variable {M : (Nat → Int) × (Nat → Bool)}
/-! The parser's ear: its contract. -/
structure AnsV (V : Val) (o : Nat) (s : ByteArray) (r : ER) : Prop where
  s0 : V.S 0 = s
  e : ∀ j, j < 9 → V.I (o + j) = r.e j
  b : ∀ j, j < 3 → V.B (o + j) = bitY r.e j
  pos : V.I (o + 10) = r.pos
  err : V.I (o + 11) = r.err
  tk : V.S (o + 1) = tokS' s r.i
  fr : V.I (o + 12) = (tfr s.data.toList r.i : Nat)
  to : V.I (o + 13) = (tto s.data.toList r.i : Nat)
theorem blt_of' {a b : Nat} (h : a < b) : Nat.blt a b = true := Nat.ble_eq_true_of_le h
theorem bad_ok {X : Cx} (hX : Runs0 X) {s : ByteArray} {i k : Nat} (t : Nat → Int) (W : Nat → Value) (h : phrase s.data.toList i = (none, k)) : k ≤ 20 ∧ ∃ T, eBad X k T = true ∧ ∀ e, e ∈ T → @TETrue ((enm M s i t).val W) e := by
  obtain ⟨A, hA⟩ : ∃ A, cl wordsA (tok s.data.toList i) = A := ⟨_, rfl⟩
  obtain ⟨H, hH⟩ : ∃ A, cl wordsH (tok s.data.toList (plc s.data.toList i 1)) = A := ⟨_, rfl⟩
  obtain ⟨C, hC⟩ : ∃ A, cl wordsC (tok s.data.toList (plc s.data.toList i 1)) = A := ⟨_, rfl⟩
  obtain ⟨S, hS⟩ : ∃ A, cl wordsS (tok s.data.toList (plc s.data.toList i 2)) = A := ⟨_, rfl⟩
  have fA := seqE (M := M) t W 0 nodA hA
  have fH := seqE (M := M) t W 1 nodH hH
  have fC := seqE (M := M) t W 1 nodC hC
  have fS := seqE (M := M) t W 2 nodS hS
  have lA : A ≤ 7 := by rw [← hA]; exact cl_le wordsA _
  have lH : H ≤ 3 := by rw [← hH]; exact cl_le wordsH _
  have lC : C ≤ 3 := by rw [← hC]; exact cl_le wordsC _
  have lS : S ≤ 4 := by rw [← hS]; exact cl_le wordsS _
  unfold phrase at h
  rw [hA, hH, hC, hS] at h
  clear hA hH hC hS
  split at h
  · cases h
  · split at h
    · rename_i h4
      subst h4
      split at h
      · cases h
      · cases h
        obtain rfl : H = 3 := by omega
        exact ⟨by omega, _, hX.badH, fun e he => (List.mem_append.1 he).elim (fA e) (fH e)⟩
    · split at h
      · rename_i hge hne h7
        obtain ⟨d, rfl, hd⟩ : ∃ d, A = 5 + d ∧ d < 2 := ⟨A - 5, by omega, by omega⟩
        split at h
        · rename_i h3
          split at h
          · cases h
          · cases h
            obtain rfl : S = 4 := by omega
            exact ⟨by omega, _, allU_lt (allU_lt hX.badS d hd) C h3, fun e he => (List.mem_append.1 he).elim (fA e) fun he => (List.mem_append.1 he).elim (fC e) (fS e)⟩
        · cases h
          obtain rfl : C = 3 := by omega
          exact ⟨by omega, _, allU_lt hX.badE d hd, fun e he => (List.mem_append.1 he).elim (fA e) (fC e)⟩
      · cases h
        obtain rfl : A = 7 := by omega
        exact ⟨by omega, _, hX.bad1, fA⟩
section
variable {V : Val} {o : Nat} {s : ByteArray} {r : ER} {i : Nat} (t : Nat → Int) (W : Nat → Value)
theorem tok_hold (hA : AnsV V o s r) (k : Nat) (h20 : k ≤ 20) (hk : r.i = plc s.data.toList i k) : ∀ e, e ∈ tokS (o + 1) (o + 13) (o + 12) k → okSE ((enm M s i t).val W) V e := by
  intro e he
  have h1 := hA.tk
  have h2 := hA.fr
  have h3 := hA.to
  rw [hk] at h1 h2 h3
  simp only [tokS, List.mem_cons, List.not_mem_nil, or_false] at he
  rcases he with rfl | rfl | rfl
  · exact ⟨_, congrArg Value.string (enm_s (M := M) s i t k), h1⟩
  · cases k with
    | zero => exact ⟨.i64, _, rfl, h3⟩
    | succ k => exact ⟨.i64, _, congrArg (Value.int .i64) (enm_to (M := M) s i t (k + 1) (by omega) h20), h3⟩
  · cases k with
    | zero => exact ⟨.i64, _, rfl, h2⟩
    | succ k => exact ⟨.i64, _, congrArg (Value.int .i64) (enm_fr (M := M) s i t (k + 1) (by omega) h20), h2⟩
theorem err_hold (hA : AnsV V o s r) (a : RV) (x n : Int) (ha : @cv ((enm M s i t).val W) a = .int .i64 x) (hx : r.pos = x) (hn : r.err = n) (he0 : r.e = fun _ => 0) : ∀ e, e ∈ errS o a n → okSE ((enm M s i t).val W) V e := by
  intro e he
  have h1 := hA.e
  have h2 := hA.b
  rw [he0] at h1 h2
  simp only [errS, oks, List.map_cons, List.map_nil, List.cons_append, List.nil_append, List.mem_cons, List.not_mem_nil, or_false] at he
  rcases he with rfl | rfl | rfl | rfl | rfl | rfl | rfl | rfl | rfl | rfl | rfl | rfl | rfl | rfl
  · exact ⟨.i64, x, ha, hA.pos.trans hx⟩
  · exact ⟨.i64, n, rfl, hA.err.trans hn⟩
  · exact ⟨.i64, 0, rfl, h1 0 (by omega)⟩
  · exact ⟨.i64, 0, rfl, h1 1 (by omega)⟩
  · exact ⟨.i64, 0, rfl, h1 2 (by omega)⟩
  · exact ⟨.i64, 0, rfl, h1 3 (by omega)⟩
  · exact ⟨.i64, 0, rfl, h1 4 (by omega)⟩
  · exact ⟨.i64, 0, rfl, h1 5 (by omega)⟩
  · exact ⟨.i64, 0, rfl, h1 6 (by omega)⟩
  · exact ⟨.i64, 0, rfl, h1 7 (by omega)⟩
  · exact ⟨.i64, 0, rfl, h1 8 (by omega)⟩
  · exact ⟨false, rfl, h2 0 (by omega)⟩
  · exact ⟨false, rfl, h2 1 (by omega)⟩
  · exact ⟨false, rfl, h2 2 (by omega)⟩
theorem upR_cv (p v j : Nat) (hj : j < 20) : @cv ((enm M s i t).val W) (upR p v j) = .int .i64 (updP t p v j) := by
  unfold upR updP
  by_cases h : j = p
  · subst h
    rw [Nat.beq_refl, if_pos rfl, if_pos rfl]
    rfl
  · rw [if_neg h]
    cases hb : Nat.beq j p with
    | true => exact absurd (Nat.eq_of_beq_eq_true hb) h
    | false => exact congrArg (Value.int .i64) (enm_t (M := M) s i t j hj)
theorem ok_hold (hA : AnsV V o s r) (p v k : Nat) (hp : phrase s.data.toList i = (some (p, v), k)) (hx : r.pos = 0) (hn : r.err = 0) (he0 : r.e = updP t p v) : ∀ e, e ∈ okS o p v → okSE ((enm M s i t).val W) V e := by
  intro e he
  have h1 := hA.e
  have h2 := hA.b
  rw [he0] at h1 h2
  have hu : uOf s.data.toList i t = updP t p v := by unfold uOf; rw [hp]
  have hb : ∀ j, j < 3 → (enm M s i t).B (9 + j) = bitY (updP t p v) j := fun j hj => by
    show (if 100 ≤ 9 + j then _ else bitY (uOf s.data.toList i t) (9 + j - 9)) = _
    rw [if_neg (by omega)]
    rw [hu, Nat.add_sub_cancel_left]
  simp only [okS, oks, List.map_cons, List.map_nil, List.cons_append, List.nil_append, List.mem_cons, List.not_mem_nil, or_false] at he
  rcases he with rfl | rfl | rfl | rfl | rfl | rfl | rfl | rfl | rfl | rfl | rfl | rfl | rfl | rfl
  · exact ⟨.i64, 0, rfl, hA.pos.trans hx⟩
  · exact ⟨.i64, 0, rfl, hA.err.trans hn⟩
  · exact ⟨.i64, _, upR_cv t W p v 0 (by omega), h1 0 (by omega)⟩
  · exact ⟨.i64, _, upR_cv t W p v 1 (by omega), h1 1 (by omega)⟩
  · exact ⟨.i64, _, upR_cv t W p v 2 (by omega), h1 2 (by omega)⟩
  · exact ⟨.i64, _, upR_cv t W p v 3 (by omega), h1 3 (by omega)⟩
  · exact ⟨.i64, _, upR_cv t W p v 4 (by omega), h1 4 (by omega)⟩
  · exact ⟨.i64, _, upR_cv t W p v 5 (by omega), h1 5 (by omega)⟩
  · exact ⟨.i64, _, upR_cv t W p v 6 (by omega), h1 6 (by omega)⟩
  · exact ⟨.i64, _, upR_cv t W p v 7 (by omega), h1 7 (by omega)⟩
  · exact ⟨.i64, _, upR_cv t W p v 8 (by omega), h1 8 (by omega)⟩
  · exact ⟨_, congrArg Value.bool (hb 0 (by omega)), h2 0 (by omega)⟩
  · exact ⟨_, congrArg Value.bool (hb 1 (by omega)), h2 1 (by omega)⟩
  · exact ⟨_, congrArg Value.bool (hb 2 (by omega)), h2 2 (by omega)⟩
end
end Go.Proofs.Z.Ps

namespace Go.Proofs.Z.Ps
open Go Go.RowKit Go.Proofs Go.Ri Go.Proofs.Z
open Go.Proofs.Z.W (tfr tto)
variable {M : (Nat → Int) × (Nat → Bool)}
/-! The parser's ear: the loop. -/
theorem isW_rR (X : Cx) : isW (rR X) = false := rfl
theorem vc5' {p v : Nat} (h : v < vc p) : v < 5 := by
  unfold vc at h
  split at h
  · omega
  · split at h <;> omega
theorem wT (p v : Nat) (b : Bool) (h1 : 1 ≤ v) (h2 : v < vc p) (q : Bool) : (match Nat.ble 1 v && Nat.blt v (vc p) with | true => b | false => true) = q → b = q := by
  rw [Nat.ble_eq_true_of_le h1, blt_of' h2]
  exact id
theorem nt_cases (p : Nat) : nt p = 1 ∨ nt p = 2 ∨ nt p = 3 := by
  unfold nt
  split
  · exact .inl rfl
  · split
    · exact .inr (.inr rfl)
    · exact .inr (.inl rfl)
theorem ieq_t {s : ByteArray} {i : Nat} (t : Nat → Int) (W : Nat → Value) (p : Nat) (hp : p < 20) (b : Bool) (h : (t p == 0) = b) : @TETrue ((enm M s i t).val W) ⟨.ieq, sI (20 + p), lI 0, bR b⟩ := by
  refine ⟨rfl, .i64, t p, 0, congrArg (Value.int .i64) (enm_t (M := M) s i t p hp), rfl, ?_⟩
  rw [← h]
  rfl
theorem tbs_ok {s : ByteArray} {i : Nat} (t : Nat → Int) (W : Nat → Value) (p v k : Nat) (hph : phrase s.data.toList i = (some (p, v), k)) (z comma : Bool) (hz : (t p == 0) = z)
    (hc : (tok s.data.toList (plc s.data.toList i k) == wComma) = comma) : ∀ e, e ∈ (⟨.ieq, sI (20 + p), lI 0, bR z⟩ :: (isV (nt p + 1) wComma comma ++ phr p v) : List TE) → @TETrue ((enm M s i t).val W) e := by
  obtain ⟨hk, hp, h1, h2, hf⟩ := phr_ok (M := M) t W hph
  intro e he
  rcases List.mem_cons.1 he with rfl | he
  · exact ieq_t t W p (by omega) z hz
  · rcases List.mem_append.1 he with he | he
    · refine isE t W k hc e ?_
      rw [Nat.add_comm 1 k, hk]
      exact he
    · exact hf e he
theorem last_ok {s : ByteArray} (hsz : s.size ≤ 1000000000) {i : Nat} (hi : i ≤ s.data.toList.length) (t : Nat → Int) (W : Nat → Value) (p v k : Nat) (hph : phrase s.data.toList i = (some (p, v), k)) (hz : (t p == 0) = true)
    (hc : (tok s.data.toList (plc s.data.toList i k) == wComma) = false) : @TbOK ((enm M s i t).val W) (eLast p v) := by
  obtain ⟨hk, hp, h1, h2, hf⟩ := phr_ok (M := M) t W hph
  letI : Val := (enm M s i t).val W
  have hu : uOf s.data.toList i t = updP t p v := by unfold uOf; rw [hph]
  refine { T := tbs_ok t W p v k hph true false hz hc, U := ?_, Y := ?_ }
  rotate_left
  · exact next_ok (sT 0) nxT (nxT_ok hsz hi t W)
  · intro e he
    have he : e ∈ [(⟨fEar, [.agg (upL p v)], .agg (upE p v)⟩ : YE)] := he
    simp only [List.mem_cons, List.not_mem_nil, or_false] at he
    subst he
    have h := ear_ans (updP t p v)
    have e1 : shapeF (updP t p v) = cvF (.agg (upL p v)) := by
      show _ = Value.agg ((upL p v).map cv).toArray
      simp only [upL, List.map_cons, List.map_nil]
      simp only [upR_cv t W p v _ (by omega : (0 : Nat) < 20), upR_cv t W p v _ (by omega : (1 : Nat) < 20), upR_cv t W p v _ (by omega : (2 : Nat) < 20), upR_cv t W p v _ (by omega : (3 : Nat) < 20), upR_cv t W p v _ (by omega : (4 : Nat) < 20), upR_cv t W p v _ (by omega : (5 : Nat) < 20), upR_cv t W p v _ (by omega : (6 : Nat) < 20), upR_cv t W p v _ (by omega : (7 : Nat) < 20), upR_cv t W p v _ (by omega : (8 : Nat) < 20), upR_cv t W p v _ (by omega : (9 : Nat) < 20), upR_cv t W p v _ (by omega : (10 : Nat) < 20), upR_cv t W p v _ (by omega : (11 : Nat) < 20)]
      rfl
    have e2 : earF (updP t p v) (bitY (updP t p v)) = cvF (.agg (upE p v)) := by
      show _ = Value.agg ((upE p v).map cv).toArray
      simp only [upE, List.map_cons, List.map_nil]
      simp only [upR_cv t W p v _ (by omega : (0 : Nat) < 20), upR_cv t W p v _ (by omega : (1 : Nat) < 20), upR_cv t W p v _ (by omega : (2 : Nat) < 20), upR_cv t W p v _ (by omega : (3 : Nat) < 20), upR_cv t W p v _ (by omega : (4 : Nat) < 20), upR_cv t W p v _ (by omega : (5 : Nat) < 20), upR_cv t W p v _ (by omega : (6 : Nat) < 20), upR_cv t W p v _ (by omega : (7 : Nat) < 20), upR_cv t W p v _ (by omega : (8 : Nat) < 20)]
      have hb : ∀ j, j < 3 → @cv ((enm M s i t).val W) (sB' (9 + j)) = .bool (bitY (updP t p v) j) := fun j hj => by
        show Value.bool (if 100 ≤ 9 + j then _ else bitY (uOf s.data.toList i t) (9 + j - 9)) = _
        rw [if_neg (by omega)]
        rw [hu, Nat.add_sub_cancel_left]
      have b0 := hb 0 (by omega)
      have b1 := hb 1 (by omega)
      have b2 := hb 2 (by omega)
      show _ = Value.agg #[_, _, _, _, _, _, _, _, _, @cv ((enm M s i t).val W) (sB' (9 + 0)), @cv ((enm M s i t).val W) (sB' (9 + 1)), @cv ((enm M s i t).val W) (sB' (9 + 2))]
      rw [b0, b1, b2]
      rfl
    show Ans fEar [cvF (.agg (upL p v))] (cvF (.agg (upE p v)))
    rw [← e1, ← e2]
    exact h
theorem enm_same (M : (Nat → Int) × (Nat → Bool)) (s s' : ByteArray) (i i' : Nat) (t t' : Nat → Int) (W W' : Nat → Value) : KSame ((enm M s i t).val W) ((enm M s' i' t').val W') := by
  have h1 : ∀ (s : ByteArray) (i : Nat) (t : Nat → Int) (j : Nat), 100 ≤ j → (enm M s i t).I j = M.1 j := fun s i t j hj => by
    show (if j = 0 then _ else if j = 1 then _ else if j < 40 then _ else if 100 ≤ j then M.1 j else _) = _
    rw [if_neg (by omega), if_neg (by omega), if_neg (by omega), if_pos hj]
  have h2 : ∀ (s : ByteArray) (i : Nat) (t : Nat → Int) (j : Nat), 100 ≤ j → (enm M s i t).B j = M.2 j := fun s i t j hj => if_pos hj
  exact ⟨fun j h _ => (h1 s i t j h).trans (h1 s' i' t' j h).symm, fun j h _ => (h2 s i t j h).trans (h2 s' i' t' j h).symm⟩
theorem again_hold {X : Cx} (hX : Runs0 X) {s : ByteArray} {i : Nat} (t : Nat → Int) (W W' : Nat → Value) (p v k i' : Nat) (hp : p < 12) (hk : 1 ≤ k) (h20 : k ≤ 20) (hi' : plc s.data.toList i k = i') : Holds (.str 0 (sT 0) :: (tokS 1 0 1 k ++ (upIds p v ++ X.K))) ((enm M s i t).val W) ((enm M s i' (updP t p v)).val W') := by
  refine holds_all fun e he => ?_
  have g1 := enm_s (M := M) s i t k
  have g2 := enm_to (M := M) s i t k hk h20
  have g3 := enm_fr (M := M) s i t k hk h20
  rw [hi'] at g1 g2 g3
  rcases List.mem_cons.1 he with rfl | he
  · exact ⟨s, rfl, rfl⟩
  · rcases List.mem_append.1 he with he | he
    · simp only [tokS, List.mem_cons, List.not_mem_nil, or_false] at he
      have hk0 : Nat.beq k 0 = false := by cases k with
        | zero => omega
        | succ k => rfl
      rw [hk0] at he
      rcases he with rfl | rfl | rfl
      · exact ⟨tokS' s i', congrArg Value.string g1, rfl⟩
      · exact ⟨.i64, (tto s.data.toList i' : Nat), congrArg (Value.int .i64) g2, rfl⟩
      · exact ⟨.i64, (tfr s.data.toList i' : Nat), congrArg (Value.int .i64) g3, rfl⟩
    · rcases List.mem_append.1 he with he | he
      rotate_left
      · exact hX.kok _ _ (enm_same _ _ _ _ _ _ _ _ _) e he
      rcases List.mem_cons.1 he with rfl | he
      · refine ⟨.i64, v, rfl, ?_⟩
        show (enm M s i' (updP t p v)).I (20 + p) = v
        rw [enm_t _ _ _ _ (by omega)]
        unfold updP
        rw [if_pos rfl]
      · obtain ⟨j, hj, rfl⟩ := List.mem_map.1 he
        obtain ⟨hj1, hj2⟩ := List.mem_filter.1 hj
        have hj3 : ∃ q, j = 20 + q ∧ q < 12 := by
          simp only [fids, List.mem_cons, List.not_mem_nil, or_false] at hj1
          exact ⟨j - 20, by omega, by omega⟩
        obtain ⟨q, rfl, hq⟩ := hj3
        have hne : q ≠ p := fun e => by
          subst e
          rw [Nat.beq_refl] at hj2
          cases hj2
        refine ⟨.i64, t q, congrArg (Value.int .i64) (enm_t (M := M) s i t q (by omega)), ?_⟩
        show (enm M s i' (updP t p v)).I (20 + q) = t q
        rw [enm_t _ _ _ _ (by omega)]
        unfold updP
        rw [if_neg hne]
end Go.Proofs.Z.Ps

namespace Go.Proofs.Z.Ps
open Go Go.RowKit Go.Proofs Go.Ri Go.Proofs.Z
open Go.Proofs.Z.W (tfr tto)
/-! The parser's ear: its contract, over the caller's blocks. -/
abbrev fPEar : Nat := 126
def earU (X : Cx) : UE := ⟨fPEar, selfT X, aX X, hP0 X, rR X, kR X⟩
theorem take_rg (X : Cx) (a : Nat) (h : szX X ≤ a) : (List.range a).take (szX X) = List.range (szX X) := by
  rw [List.take_range, Nat.min_eq_left h]
theorem ent_rg (X : Cx) : (rEnt X).take (szX X) = List.range (szX X) := by
  unfold rEnt
  rw [List.take_append_of_le_length (by rw [List.length_range]; omega), take_rg X _ (by omega)]
theorem enm_V (V : Val) (s : ByteArray) (i : Nat) (t : Nat → Int) (W : Nat → Value) : KSame ((enm (V.I, V.B) s i t).val W) V := by
  refine ⟨fun j h _ => ?_, fun j h _ => if_pos h⟩
  show (if j = 0 then _ else if j = 1 then _ else if j < 40 then _ else if 100 ≤ j then V.I j else _) = _
  rw [if_neg (by omega), if_neg (by omega), if_neg (by omega), if_pos h]
theorem bad_step {X : Cx} (hX : Runs X) {V : Val} {s : ByteArray} (hsz : s.size ≤ 1000000000) {i : Nat} (hi : i ≤ s.data.toList.length) (t : Nat → Int) (W : Nat → Value) {r : ER} (hA : AnsV V X.o s r) {k : Nat} (hph : phrase s.data.toList i = (none, k)) (hr : r = ⟨fun _ => 0, (tfr s.data.toList (plc s.data.toList i k) : Nat), 3, plc s.data.toList i k⟩)
    {base : Nat} {w0 : World} {E0 : Env} (hE : E0.length = szX X) {nx : Unit → Nm → Prop} : StepE fPEar (hbB (opn X)) (hbK (opn X)) (epat X) base w0 E0 (DE V base w0 E0 (rR X) (kR X)) nx () (enm (V.I, V.B) s i t) W := by
  obtain ⟨h20, T, hrun, hT⟩ := bad_ok (M := (V.I, V.B)) hX.toRuns0 t W hph
  refine stepE_out (tbN T) [] (tbN_ok hsz hi t W hT) V _ (rR X) (kR X) (szX X) hE hrun (isW_rR X) (holds_all fun e he => ?_)
  rcases List.mem_cons.1 he with rfl | he
  · exact ⟨s, rfl, hA.s0⟩
  · rcases List.mem_append.1 he with he | he
    · exact tok_hold t W hA k h20 (by rw [hr]) e he
    · rcases List.mem_append.1 he with he | he
      rotate_left
      · exact hX.kok _ _ (enm_V _ _ _ _ _) e he
      refine err_hold t W hA _ (tfr s.data.toList (plc s.data.toList i k) : Nat) 3 ?_ (by rw [hr]) (by rw [hr]) (by rw [hr]) e he
      cases k with
      | zero => rfl
      | succ k => exact congrArg (Value.int .i64) (enm_fr (M := (V.I, V.B)) s i t (k + 1) (by omega) h20)
theorem good_step {X : Cx} (hX : Runs X) {V : Val} {s : ByteArray} (hsz : s.size ≤ 1000000000) {i : Nat} (hi : i ≤ s.data.toList.length) (t : Nat → Int) (W : Nat → Value) {r : ER} (hA : AnsV V X.o s r) {n p v k : Nat} (hph : phrase s.data.toList i = (some (p, v), k)) (hr : earM s.data.toList (n + 1) i t = r)
    {base : Nat} {w0 : World} {E0 : Env} (hE : E0.length = szX X) {nx : Unit → Nm → Prop} (hnx : tok s.data.toList (plc s.data.toList i k) = wComma → earM s.data.toList n (plc s.data.toList i (k + 1)) (updP t p v) = r → nx () (enm (V.I, V.B) s (plc s.data.toList i (k + 1)) (updP t p v))) : StepE fPEar (hbB (opn X)) (hbK (opn X)) (epat X) base w0 E0 (DE V base w0 E0 (rR X) (kR X)) nx () (enm (V.I, V.B) s i t) W := by
  obtain ⟨hk, hp, h1, h2, hf⟩ := phr_ok (M := (V.I, V.B)) t W hph
  have hv5 := vc5' h2
  have hnt := nt_cases p
  have hr2 : (if t p = 0 then (if tok s.data.toList (plc s.data.toList i k) = wComma then earM s.data.toList n (plc s.data.toList i (k + 1)) (updP t p v) else ⟨updP t p v, 0, 0, plc s.data.toList i k⟩) else ⟨fun _ => 0, (tfr s.data.toList i : Nat), 11, plc s.data.toList i k⟩) = r := by
    rw [← hr]
    show _ = (match phrase s.data.toList i with
      | (none, k) => (⟨fun _ => 0, (tfr s.data.toList (plc s.data.toList i k) : Nat), 3, plc s.data.toList i k⟩ : ER)
      | (some (p, v), k) =>
        if t p = 0 then
          (if tok s.data.toList (plc s.data.toList i k) = wComma then earM s.data.toList n (plc s.data.toList i (k + 1)) (updP t p v) else ⟨updP t p v, 0, 0, plc s.data.toList i k⟩)
        else ⟨fun _ => 0, (tfr s.data.toList i : Nat), 11, plc s.data.toList i k⟩)
    rw [hph]
  clear hr
  by_cases hz : t p = 0
  · rw [if_pos hz] at hr2
    have hzb : (t p == 0) = true := by rw [hz]; rfl
    by_cases hc : tok s.data.toList (plc s.data.toList i k) = wComma
    · rw [if_pos hc] at hr2
      have hrun := wT p v _ h1 h2 _ (allU_lt (allU_lt hX.again p hp) v hv5)
      refine stepE_again (eGood p v true true) [] (tbN_ok hsz hi t W (tbs_ok t W p v k hph true true hzb (by rw [hc]; exact beq_self_eq_true _))) _ (rAg X) (by rw [hE]; exact take_rg X _ (by omega)) () _ hrun ?_ (hnx hc hr2)
      intro W'
      exact again_hold hX.toRuns0 t W W' p v (nt p + 1) _ hp (by omega) (by omega) (by rw [hk])
    · rw [if_neg hc] at hr2
      have hrun := wT p v _ h1 h2 _ (allU_lt (allU_lt hX.last p hp) v hv5)
      refine stepE_out (eLast p v) [] (last_ok hsz hi t W p v k hph hzb (beq_eq_false_iff_ne.2 hc)) V _ (rR X) (kR X) (szX X) hE hrun (isW_rR X) (holds_all fun e he => ?_)
      rcases List.mem_cons.1 he with rfl | he
      · exact ⟨s, rfl, hA.s0⟩
      · rcases List.mem_append.1 he with he | he
        · exact tok_hold t W hA (nt p) (by omega) (by rw [← hr2, ← hk]) e he
        · rcases List.mem_append.1 he with he | he
          rotate_left
          · exact hX.kok _ _ (enm_V _ _ _ _ _) e he
          exact ok_hold t W hA p v k hph (by rw [← hr2]) (by rw [← hr2]) (by rw [← hr2]) e he
  · rw [if_neg hz] at hr2
    have hzb : (t p == 0) = false := beq_eq_false_iff_ne.2 hz
    have hrun := wT p v _ h1 h2 _ (allU_lt (allU_lt hX.twice p hp) v hv5)
    refine stepE_out (tbN (tbD p v)) [] (tbN_ok hsz hi t W ?_) V _ (rR X) (kR X) (szX X) hE hrun (isW_rR X) (holds_all fun e he => ?_)
    · intro e he
      rcases List.mem_cons.1 he with rfl | he
      · exact ieq_t t W p (by omega) false hzb
      · exact hf e he
    · rcases List.mem_cons.1 he with rfl | he
      · exact ⟨s, rfl, hA.s0⟩
      · rcases List.mem_append.1 he with he | he
        · exact tok_hold t W hA (nt p) (by omega) (by rw [← hr2, ← hk]) e he
        · rcases List.mem_append.1 he with he | he
          rotate_left
          · exact hX.kok _ _ (enm_V _ _ _ _ _) e he
          exact err_hold t W hA (sI 1) (tfr s.data.toList i : Nat) 11 rfl (by rw [← hr2]) (by rw [← hr2]) (by rw [← hr2]) e he
theorem tok_comma {l : List UInt8} {i : Nat} (h : tok l i = wComma) : i < tto l i := tok_lt (by rw [h]; exact List.cons_ne_nil _ _)
theorem head_inv {X : Cx} (hX : Runs0 X) {V : Val} {s : ByteArray} {i : Nat} (W : Nat → Value) (h0 : V.S 0 = s) (h1 : V.S X.tk = tokS' s i) (h2 : V.I X.po = (tto s.data.toList i : Nat)) (h3 : V.I X.at_ = (tfr s.data.toList i : Nat)) : Holds (keepT X) V ((enm (V.I, V.B) s i fun _ => 0).val W) := by
  refine holds_all fun e he => ?_
  rcases List.mem_append.1 he with he | he
  · simp only [List.mem_cons, List.not_mem_nil, or_false] at he
    rcases he with rfl | rfl | rfl | rfl
    · exact ⟨_, rfl, h0.symm⟩
    · exact ⟨_, rfl, h1.symm⟩
    · exact ⟨.i64, _, rfl, h2.symm⟩
    · exact ⟨.i64, _, rfl, h3.symm⟩
  · have h := enm_V V s i (fun _ => 0) W
    exact hX.kok _ _ ⟨fun j a b => (h.1 j a b).symm, fun j a b => (h.2 j a b).symm⟩ e he
theorem keep_self {X : Cx} (hX : Runs0 X) (V : Val) : Holds (selfT X) V V := by
  refine holds_all fun e he => ?_
  rcases List.mem_append.1 he with he | he
  · simp only [List.mem_cons, List.not_mem_nil, or_false] at he
    rcases he with rfl | rfl | rfl | rfl
    · exact ⟨_, rfl, rfl⟩
    · exact ⟨_, rfl, rfl⟩
    · exact ⟨.i64, _, rfl, rfl⟩
    · exact ⟨.i64, _, rfl, rfl⟩
  · exact hX.kok _ _ ⟨fun _ _ _ => rfl, fun _ _ _ => rfl⟩ e he
theorem ear_ue {X : Cx} (hX : Runs X) {V : Val} {s : ByteArray} {i : Nat} {r : ER} (hsz : s.size ≤ 1000000000) (hi : i ≤ s.data.toList.length) (hr : earP s.data.toList i = r) (hA : AnsV V X.o s r)
    (h1 : V.S X.tk = tokS' s i) (h2 : V.I X.po = (tto s.data.toList i : Nat)) (h3 : V.I X.at_ = (tfr s.data.toList i : Nat)) : @UETrue V (earU X) := by
  refine ⟨keep_self hX.toRuns0 V, fun base w0 E0 w vs H hv => ?_⟩
  have hl : E0.length = szX X := by
    have := @HInv.len V _ _ _ _ _ _ H
    rw [← this]
    show (X.1 ++ ([_, _, _] ++ X.2)).length = _
    rw [List.length_append, List.length_append]
    rfl
  have hh := head_inv hX.toRuns0 (fun _ => undef) hA.s0 h1 h2 h3
  have H' := mtH_inv hh hX.nodup hX.keep H
  unfold rOut at H'
  rw [pick_rng (by omega), List.take_of_length_le (by omega)] at H'
  have hv' : All2 (@VRel ((enm (V.I, V.B) s i fun _ => 0).val fun _ => undef) E0) (earU X).a vs := by
    cases hv with
    | cons g1 g2 =>
      cases g2
      exact .cons g1 .nil
  by_cases hw : tok s.data.toList i = wWhole
  · have hr' : r = ⟨fun _ => 0, 0, 0, plc s.data.toList i 1⟩ := by rw [← hr]; unfold earP; rw [if_pos hw]
    refine doneH_calls (m := szX X) ((enm (V.I, V.B) s i fun _ => 0).val fun _ => undef) V (t := tbN (isV 1 wWhole true)) (tbN_ok hsz hi (fun _ => 0) _ (isE (fun _ => 0) _ 0 (x := wWhole) (b := true) (by rw [show plc s.data.toList i 0 = i from rfl, hw]; exact beq_self_eq_true _))) hX.whole (isW_rR X) (holds_all fun e he => ?_) base w0 E0 hl w H' vs hv'
    rcases List.mem_cons.1 he with rfl | he
    · exact ⟨s, rfl, hA.s0⟩
    · rcases List.mem_append.1 he with he | he
      · exact tok_hold (fun _ => 0) _ hA 1 (by omega) (by rw [hr']) e he
      · rcases List.mem_append.1 he with he | he
        rotate_left
        · exact hX.kok _ _ (enm_V _ _ _ _ _) e he
        exact err_hold (fun _ => 0) _ hA (lI 0) 0 0 rfl (by rw [hr']) (by rw [hr']) (by rw [hr']) e he
  · have hr' : earM s.data.toList (s.data.toList.length + 1) i (fun _ => 0) = r := by rw [← hr]; unfold earP; rw [if_neg hw]
    refine fn_loopE (κ := Unit) (enm (V.I, V.B) s i fun _ => 0) (fun _ => undef) tb0' [] fPEar (aX X) (hP1 X) (epat X) (fun n _ c => ∃ i' t', i' ≤ s.data.toList.length ∧ s.data.toList.length - i' < n ∧ earM s.data.toList n i' t' = r ∧ c = enm (V.I, V.B) s i' t')
      (tbN_ok hsz hi (fun _ => 0) _ (isE (fun _ => 0) _ 0 (x := wWhole) (b := false) (beq_eq_false_iff_ne.2 hw))) (eIds X) (rEnt X) () (s.data.toList.length + 1) hX.enter (enm (V.I, V.B) s i fun _ => 0) ?_ ⟨i, fun _ => 0, hi, by omega, hr', rfl⟩ base w0 E0 (by rw [hl]; exact ent_rg X) (DE V base w0 E0 (rR X) (kR X)) ?_ w H' vs hv'
    · intro W'
      refine holds_all fun e he => ?_
      rcases List.mem_append.1 he with he | he
      · simp only [List.mem_cons, List.not_mem_nil, or_false] at he
        rcases he with rfl | rfl | rfl | rfl
        · exact ⟨_, rfl, rfl⟩
        · exact ⟨_, rfl, rfl⟩
        · exact ⟨.i64, _, rfl, rfl⟩
        · exact ⟨.i64, _, rfl, rfl⟩
      · rcases List.mem_append.1 he with he | he
        · exact hX.kok _ _ ⟨fun _ _ _ => rfl, fun _ _ _ => rfl⟩ e he
        obtain ⟨j, hj, rfl⟩ := List.mem_map.1 he
        have hj3 : ∃ q, j = 20 + q ∧ q < 12 := by
          simp only [fids, List.mem_cons, List.not_mem_nil, or_false] at hj
          exact ⟨j - 20, by omega, by omega⟩
        obtain ⟨q, rfl, hq⟩ := hj3
        exact ⟨.i64, 0, rfl, enm_t (M := (V.I, V.B)) s i (fun _ => 0) q (by omega)⟩
    · rintro n k c ⟨i', t', hi', hlt, hr2, rfl⟩ W
      cases n with
      | zero => omega
      | succ n =>
        obtain ⟨o, m, hph⟩ : ∃ o m, phrase s.data.toList i' = (o, m) := ⟨_, _, rfl⟩
        cases o with
        | none =>
          refine bad_step hX hsz hi' t' W hA hph ?_ hl
          rw [← hr2]
          show (match phrase s.data.toList i' with
            | (none, k) => (⟨fun _ => 0, (tfr s.data.toList (plc s.data.toList i' k) : Nat), 3, plc s.data.toList i' k⟩ : ER)
            | (some (p, v), k) =>
              if t' p = 0 then
                (if tok s.data.toList (plc s.data.toList i' k) = wComma then earM s.data.toList n (plc s.data.toList i' (k + 1)) (updP t' p v) else ⟨updP t' p v, 0, 0, plc s.data.toList i' k⟩)
              else ⟨fun _ => 0, (tfr s.data.toList i' : Nat), 11, plc s.data.toList i' k⟩) = _
          rw [hph]
        | some pv =>
          obtain ⟨p, v⟩ := pv
          refine good_step hX hsz hi' t' W hA hph hr2 hl fun hc hr3 => ⟨n, Nat.lt_succ_self n, _, _, plc_le hi' (m + 1), ?_, hr3, rfl⟩
          have g1 := le_plc s.data.toList i' m
          have g2 : plc s.data.toList i' m < plc s.data.toList i' (m + 1) := tok_comma hc
          have g3 := plc_le hi' (m + 1)
          omega
end Go.Proofs.Z.Ps
