/- A part of the proofs that the laws of layer four answer true for every input. -/
import Derived.Test.YtjjmnoiiihcoiaaGreatDoorZGD
namespace Go.Proofs.Z
open Go Go.RowKit Go.Proofs Go.Ri Go.Proofs.Z.Fa
/-! Open gates: runs. -/
abbrev fList : Nat := 71
abbrev fInts : Nat := 28
def tupN (e : Int) : RV := .pl (.tuple #[.slice none 0 0, .int .i64 e])
/-! OpenGates of package fell -/
def gateQ : RV := .agg [sI 3, sI 4, sI 5, sI 6]
/-! on -/
/-! list -/
def bLL : List LNE := [⟨0, 1, sI 1⟩]
/-! ints, of two slices that hold one list -/
def inD : List RV := [.slN 0 0 1, .slN 0 0 1]
noncomputable def inE : Tb := { LL := bLL }
noncomputable def inP : St := ⟨patW [(0, .slA 0 0 1), (1, .slA 1 0 1), (5, sI 2)] 26 0, [some (.lstA 0), some (.lstA 0)]⟩
def inS (r : RV) : List SE := [.int 2 r, .int 1 (sI 1), .lst 0 0]
noncomputable def inT (b : Bool) : Tb := { T := hT b, LL := bLL, LX := if b then [⟨0, 2, [sI 3]⟩] else [] }
set_option maxRecDepth 100000 in
theorem in_enter : enterT inE [] fInts inD (inS (lI 0)) [0, 1] inP = true := by kernel_rfl
set_option maxRecDepth 100000 in
theorem in_again : againT (inT true) [] (hB inE [] fInts inD) (hK inE [] fInts inD) inP (inS (sI 7)) [0, 1] inP = true := by kernel_rfl
set_option maxRecDepth 100000 in
theorem in_out : outF (inT false) [] fInts (hB inE [] fInts inD) (hK inE [] fInts inD) inP (bR true) = true := by kernel_rfl
/-! OpenGates of the specification -/
/-! Open -/
/-! YearDay -/
end Go.Proofs.Z

namespace Go.Proofs.Z
open Go Go.RowKit Go.Proofs Go.Ri Go.Proofs.Z.Fa
/-! Open gates: contracts. -/
/-! OpenOn -/
theorem fell_nval1 {V V' : Val} {w : World} {v : Value} (h0 : V.I 0 = V'.I 0) (hi : V.L 0 = V'.L 0) (h : @Go.Ri.NVal V w fellR v) : @Go.Ri.NVal V' w fellR v := by
  cases fell_nval h0 hi (.cons h .nil : All2 (@Go.Ri.NVal V w) [fellR] [v]) with
  | cons h1 _ => exact h1
/-- A named list in a world. -/
theorem lst_nval {V V' : Val} {w : World} {v : Value} {i j s : Nat} (hi : V.L i = V'.L j) (h : @Go.Ri.NVal V w (.slN 0 i s) v) : @Go.Ri.NVal V' w (.slN 0 j s) v := by
  obtain ⟨a, m, cap, k1, k2, k3, k4, k5, k6⟩ := h
  rw [hi] at k2 k4 k6
  exact ⟨a, m, cap, k1, k2, k3, k4, k5, k6⟩
/-- The names in a loop that gathers. -/
def hnm (G : Int) (l : List Value) (n k : Nat) (x : Nat → Int) (y : Nat → Bool) (p : Nat → Bool) (cells : Nat → List Value) : Nm := gnm G l n k x y (fun i => if i = 9 then gl p cells k else if i = 10 then gl p cells (k + 1) else [])
section
variable (V : Val) {G : Int} {l : List Value} {n : Nat} {d : Int}
end
end Go.Proofs.Z

namespace Go.Proofs.Z
open Go Go.RowKit Go.Proofs Go.Ri Go.Proofs.Z.Fa
/-! list, ints, OpenGates of the specification. -/
def bC (b : Nat → Bool) (k : Nat) : List Value := [.bool (b k)]
def bls (b : Nat → Bool) (n : Nat) : List Value := gl (fun _ => true) (bC b) n
theorem bls_len (b : Nat → Bool) : ∀ n, (bls b n).length = n
  | 0 => rfl
  | n + 1 => by
    show (bls b n ++ bC b n).length = n + 1
    rw [List.length_append, bls_len b n]
    rfl
theorem bls_get (b : Nat → Bool) : ∀ n k, k < n → (bls b n)[k]? = some (.bool (b k))
  | n + 1, k, h => by
    show (bls b n ++ bC b n)[k]? = _
    rcases Nat.lt_or_eq_of_le (Nat.le_of_lt_succ h) with h1 | rfl
    · rw [List.getElem?_append_left (by rw [bls_len]; exact h1), bls_get b n k h1]
    · rw [List.getElem?_append_right (by rw [bls_len]; exact Nat.le_refl _), bls_len, Nat.sub_self]
      rfl
theorem hT_gen (V : Val) {n k : Nat} (h1 : V.I 1 = n) (h2 : V.I 2 = k) (h7 : V.I 7 = k + 1) (hk : k ≤ 1000000000) {b : Bool} (hb : decide (k < n) = b) : ∀ e, e ∈ hT b → @TETrue V e := by
  letI := V
  refine fa (f_lss (k := .i64) (m := V.I 2) (n := V.I 1) rfl rfl ?_) (fa ⟨rfl, .i64, .i64, V.I 2, V.I 1, rfl, rfl, ?_⟩ (fa ?_ fz))
  · rw [h1, h2, ← hb]; exact decide_eq_decide.2 (by omega)
  · rw [h1, h2, ← hb]
    exact congrArg Value.bool (decide_eq_decide.2 (by omega))
  · exact f_add1 (m := V.I 2) rfl (show Value.int .i64 (V.I 7) = Value.int .i64 (V.I 2 + 1) by rw [h7, h2]) rfl (by omega) (by omega)
/-! ints -/
def inm (l : List Value) (n k : Nat) : Nm := ⟨fun i => if i = 1 then (n : Int) else if i = 2 then (k : Int) else if i = 3 then intOf (l.getD k undef) else (k : Int) + 1, fun _ => false, fun _ => ⟨#[]⟩, fun i => if i = 0 then l else []⟩
theorem ints_ans (V : Val) (l : List Value) (hl : ints l) (n : Nat) (hn : l.length = n) (hb : n ≤ 1000000) {i : Nat} (hL : V.L i = l) : @AnsN V fInts [.slN 0 i 1, .slN 0 i 1] (.bool true) := by
  intro w hr vs hv
  have hv : All2 (@Go.Ri.NVal ((inm l n 0).val fun _ => undef) w) inD vs := by
    cases hv with
    | cons h1 h2 => cases h2 with
      | cons h2 h3 =>
        cases h3
        exact .cons (lst_nval (V := V) (V' := (inm l n 0).val fun _ => undef) hL h1) (.cons (lst_nval (V := V) (V' := (inm l n 0).val fun _ => undef) hL h2) .nil)
  have hLL : ∀ k W, ∀ e, e ∈ bLL → @LLTrue ((inm l n k).val W) e := fun k W => fa ⟨rfl, n, Nat.succ_pos 0, by rw [Nat.mul_one]; exact hn, rfl⟩ fz
  refine scan fInts inD inE [] inP (inS (lI 0)) (inS (sI 7)) [0, 1] [0, 1] (inm l n 0) (fun _ => undef) (fun k => inm l n k) n _ (fun _ => True) in_enter ?_ (fun W' => fa ⟨.i64, 0, rfl, rfl⟩ (fa ⟨.i64, (n : Int), rfl, rfl⟩ (fa rfl fz))) trivial ?_ w hr vs hv
  · letI : Val := (inm l n 0).val fun _ => undef
    exact { LL := hLL 0 _ }
  · intro k hk _ W
    letI : Val := (inm l n k).val W
    rcases Nat.lt_or_ge k n with hlt | hge
    · refine .inr ⟨hlt, trivial, inT true, { T := hT_gen _ rfl rfl rfl (by omega) (by simp [hlt]), LL := hLL k W, LX := fa ⟨rfl, ?_, ?_⟩ fz }, in_again, fun W' => fa ⟨.i64, (k : Int) + 1, rfl, rfl⟩ (fa ⟨.i64, (n : Int), rfl, rfl⟩ (fa rfl fz))⟩
      · show ((k : Int)).toNat * 1 + 1 ≤ l.length
        rw [Int.toNat_natCast, hn]
        omega
      · show (l.drop (((k : Int)).toNat * 1)).take 1 = [.int .i64 (intOf (l.getD k undef))]
        rw [Int.toNat_natCast, row1 k (by rw [hn]; exact hlt)]
        obtain ⟨z, hz⟩ := hl (l.getD k undef) (by rw [List.getD_eq_getElem?_getD, List.getElem?_eq_getElem (by rw [hn]; exact hlt)]; exact List.getElem_mem _)
        rw [hz]
        rfl
    · obtain rfl : k = n := by omega
      exact .inl ⟨inT false, bR true, { T := hT_gen _ rfl rfl rfl (by omega) (by simp), LL := hLL k W }, in_out, rfl⟩
/-! OpenGates of the specification -/
section
variable (V : Val) {G : Int} {l : List Value} {n : Nat} {d : Int}
end
end Go.Proofs.Z

namespace Go.Proofs.Z
open Go Go.RowKit Go.Proofs Go.Ri Go.Proofs.Z.Fa
/-! Open, YearDay, Check of the specification: contracts; FellDays. -/
def saneX (f : FuncId) (vs : List Value) : Option Value := match Nat.beq f fSane with
  | true => match vs with
    | [] => some (.bool true)
    | _ => none
  | false => none
theorem saneX_true : XTrue saneX := by
  intro f vs v h
  unfold saneX at h
  split at h
  · rename_i hf
    split at h
    · obtain rfl := Nat.eq_of_beq_eq_true hf
      cases h
      exact sane_ans
    · cases h
  · cases h
/-! Check of the specification -/
section
variable (V : Val) {G : Int} {l : List Value} {n : Nat} {d : Int}
end
/-! YearDay -/
/-! Open -/
section
variable (V : Val) {G : Int} {l : List Value} {n : Nat} {g d : Int}
end
end Go.Proofs.Z
