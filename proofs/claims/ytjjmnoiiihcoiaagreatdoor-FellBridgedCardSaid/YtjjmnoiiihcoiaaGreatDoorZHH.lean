/- A part of the proofs that the laws of layer four answer true for every input. -/
import Derived.Test.YtjjmnoiiihcoiaaGreatDoorZGY
import Derived.Test.YtjjmnoiiihcoiaaGreatDoorZGH
import Derived.Lib.TrailingZeros
namespace Go.Proofs.Z
open Go Go.RowKit Go.Proofs Go.Ri Go.Proofs.Z.Fa
/-! Ever, Earliest of package fell and in of the laws: runs. -/
abbrev fIn : Nat := 63
/-! Ever -/
/-! Earliest -/
/-! in -/
noncomputable def niP : St := ⟨patW [(0, .slA 0 0 1), (1, sI 10), (5, sI 2)] 18 0, [some (.lstA 0)]⟩
def niD : List RV := [.slN 0 0 1, sI 10]
def niS (r : RV) : List SE := [.int 2 r, .int 1 (sI 1), .int 10 (sI 10), .lst 0 0]
noncomputable def niT (b q : Bool) : Tb := { T := ⟨.ieq, sI 3, sI 10, bR q⟩ :: hT b, LL := bLL, LX := if b then [⟨0, 2, [sI 3]⟩] else [] }
set_option maxRecDepth 100000 in
theorem ni_enter : enterT inE [] fIn niD (niS (lI 0)) [0] niP = true := by kernel_rfl
set_option maxRecDepth 100000 in
theorem ni_again : againT (niT true false) [] (hB inE [] fIn niD) (hK inE [] fIn niD) niP (niS (sI 7)) [0] niP = true := by kernel_rfl
set_option maxRecDepth 100000 in
theorem ni_yes : outF (niT true true) [] fIn (hB inE [] fIn niD) (hK inE [] fIn niD) niP (bR true) = true := by kernel_rfl
set_option maxRecDepth 100000 in
theorem ni_no : outF { T := hT false, LL := bLL } [] fIn (hB inE [] fIn niD) (hK inE [] fIn niD) niP (bR false) = true := by kernel_rfl
end Go.Proofs.Z

namespace Go.Proofs.Z
open Go Go.RowKit Go.Proofs Go.Ri Go.Proofs.Z.Fa
/-! Ever, Earliest of package fell and in of the laws: contracts. -/
theorem mem_gl {p : Nat → Bool} {f : Nat → List Value} {v : Value} : ∀ {m : Nat}, v ∈ gl p f m ↔ ∃ i, i < m ∧ p i = true ∧ v ∈ f i
  | 0 => ⟨fun h => (by cases h), fun ⟨i, h, _⟩ => absurd h (Nat.not_lt_zero _)⟩
  | m + 1 => by
    have ih := mem_gl (p := p) (f := f) (v := v) (m := m)
    show v ∈ gl p f m ++ (if p m then f m else []) ↔ _
    rw [List.mem_append, ih]
    constructor
    · rintro (⟨i, h1, h2, h3⟩ | h)
      · exact ⟨i, by omega, h2, h3⟩
      · by_cases hp : p m = true
        · rw [if_pos hp] at h
          exact ⟨m, Nat.lt_succ_self m, hp, h⟩
        · rw [if_neg hp] at h
          cases h
    · rintro ⟨i, h1, h2, h3⟩
      rcases Nat.lt_or_eq_of_le (Nat.le_of_lt_succ h1) with h | rfl
      · exact .inl ⟨i, h, h2, h3⟩
      · right
        rw [if_pos h2]
        exact h3
theorem sL_mem {s : Nat} {v : Int} : Value.int .i64 v ∈ sL s ↔ 0 ≤ v ∧ v < 16 ∧ s.testBit v.toNat = true := by
  unfold sL
  rw [mem_gl]
  constructor
  · rintro ⟨i, h1, h2, h3⟩
    have h3 : Value.int .i64 v = .int .i64 (i : Int) := List.mem_singleton.1 h3
    cases h3
    exact ⟨by omega, by omega, by rw [Int.toNat_natCast]; exact h2⟩
  · rintro ⟨h1, h2, h3⟩
    refine ⟨v.toNat, by omega, h3, List.mem_singleton.2 ?_⟩
    rw [show ((v.toNat : Nat) : Int) = v by omega]
/-! in -/
def ninm (l : List Value) (n : Nat) (v : Int) (k : Nat) : Nm := ⟨fun i => if i = 1 then (n : Int) else if i = 2 then (k : Int) else if i = 3 then intOf (l.getD k undef) else if i = 10 then v else (k : Int) + 1, ny, fun _ => ⟨#[]⟩, fun i => if i = 0 then l else []⟩
open Classical in
theorem in_ans (V : Val) (l : List Value) (hl : ints l) (hb : l.length ≤ 1000000) {i : Nat} (hL : V.L i = l) {x : RV} {v : Int} (fx : flat x = true) (hx : @cvF V x = .int .i64 v) : @AnsN V fIn [.slN 0 i 1, x] (.bool (decide (Value.int .i64 v ∈ l))) := by
  intro w hr vs hv
  have hv : All2 (@Go.Ri.NVal ((ninm l l.length v 0).val fun _ => undef) w) niD vs := by
    cases hv with
    | cons h1 h2 => cases h2 with
      | cons h2 h3 =>
        cases h3
        exact .cons (lst_nval (V := V) (V' := (ninm l l.length v 0).val fun _ => undef) (j := 0) hL h1) (.cons (nval_re fx rfl hx rfl h2) .nil)
  have hLL : ∀ k W, ∀ e, e ∈ bLL → @LLTrue ((ninm l l.length v k).val W) e := fun k W => fa ⟨rfl, l.length, Nat.succ_pos 0, by rw [Nat.mul_one]; rfl, rfl⟩ fz
  have cell : ∀ k, k < l.length → Value.int .i64 (intOf (l.getD k undef)) = l.getD k undef ∧ l.getD k undef ∈ l := fun k hk => by
    have hm : l.getD k undef ∈ l := by
      rw [List.getD_eq_getElem?_getD, List.getElem?_eq_getElem hk]
      exact List.getElem_mem _
    obtain ⟨z, hz⟩ := hl _ hm
    exact ⟨by rw [hz]; rfl, hm⟩
  refine scan2 fIn niD inE [] niP (niS (lI 0)) [0] (ninm l l.length v 0) (fun _ => undef) (fun k => ninm l l.length v k) l.length _ (fun k => ∀ j, j < k → l.getD j undef ≠ .int .i64 v) ni_enter ?_ (fun W' => fa ⟨.i64, 0, rfl, rfl⟩ (fa ⟨.i64, (l.length : Int), rfl, rfl⟩ (fa ⟨.i64, v, rfl, rfl⟩ (fa rfl fz)))) (fun j hj => absurd hj (Nat.not_lt_zero _)) ?_ w hr vs hv
  · letI : Val := (ninm l l.length v 0).val fun _ => undef
    exact { LL := hLL 0 _ }
  · intro k hk hi W
    letI : Val := (ninm l l.length v k).val W
    rcases Nat.lt_or_ge k l.length with hlt | hge
    · obtain ⟨hc, hm⟩ := cell k hlt
      have hlx : ∀ e, e ∈ ([⟨0, 2, [sI 3]⟩] : List LEE) → LXTrue e := by
        refine fa ⟨rfl, ?_, ?_⟩ fz
        · show ((k : Int)).toNat * 1 + 1 ≤ l.length
          rw [Int.toNat_natCast]
          omega
        · show (l.drop (((k : Int)).toNat * 1)).take 1 = [.int .i64 (intOf (l.getD k undef))]
          rw [Int.toNat_natCast, row1 k hlt, hc]
      have tb : TbOK (niT true (intOf (l.getD k undef) == v)) := { T := fa (f_ieq (k := .i64) (m := intOf (l.getD k undef)) (n := v) rfl rfl rfl) (hT_gen _ rfl rfl rfl (by omega) (by simp [hlt])), LL := hLL k W, LX := hlx }
      cases hq : intOf (l.getD k undef) == v with
      | true =>
        rw [hq] at tb
        have e : l.getD k undef = .int .i64 v := by rw [← hc, eq_of_beq hq]
        rw [decide_eq_true (show Value.int .i64 v ∈ l from e ▸ hm)]
        exact .inl ⟨_, _, tb, ni_yes, rfl⟩
      | false =>
        rw [hq] at tb
        refine .inr ⟨hlt, fun j hj => ?_, _, _, _, tb, ni_again, fun W' => fa ⟨.i64, (k : Int) + 1, rfl, rfl⟩ (fa ⟨.i64, (l.length : Int), rfl, rfl⟩ (fa ⟨.i64, v, rfl, rfl⟩ (fa rfl fz)))⟩
        rcases Nat.lt_or_eq_of_le (Nat.le_of_lt_succ hj) with h | rfl
        · exact hi j h
        · intro h
          rw [h] at hq
          have : (v == v) = false := hq
          simp at this
    · obtain rfl : k = l.length := by omega
      have hno : ¬ Value.int .i64 v ∈ l := fun h => by
        obtain ⟨j, hj, he⟩ := List.mem_iff_getElem.1 h
        refine hi j hj ?_
        rw [List.getD_eq_getElem?_getD, List.getElem?_eq_getElem hj]
        exact he
      rw [decide_eq_false hno]
      exact .inl ⟨_, _, { T := hT_gen _ rfl rfl rfl (by omega) (by simp), LL := hLL _ W }, ni_no, rfl⟩
/-! Tests that hold. -/
/-! Ever -/
/-! Earliest -/
section
variable {G : Int} {l : List Value} {n S0 s b : Nat} {fr D : Int}
end
end Go.Proofs.Z
