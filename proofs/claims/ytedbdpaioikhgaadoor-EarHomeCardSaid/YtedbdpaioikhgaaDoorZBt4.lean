/- A part of the proofs that the laws of layer one answer true for every input. -/
import Derived.Test.YtedbdpaioikhgaaDoorZBt3
namespace Go.Proofs.Z
open Go Go.RowKit Go.Proofs Go.Ri
/-! The law EarBuilt: the first loop. -/
theorem te_g [Val] {a b : RV} {m n : Int} (q : Bool) (ha : cv a = .int .i64 m) (hb : cv b = .int .i64 n) (h : decide (m ≥ n) = q) : TETrue ⟨.bin .geq, a, b, bR q⟩ := by
  refine ⟨rfl, ?_⟩
  show TCTrue _ (cv a) (cv b) (.bool q)
  rw [ha, hb, ← h]
  exact t_geq .i64 m n
theorem te_gt [Val] {a b : RV} {m n : Int} (q : Bool) (ha : cv a = .int .i64 m) (hb : cv b = .int .i64 n) (h : decide (m > n) = q) : TETrue ⟨.bin .gtr, a, b, bR q⟩ := by
  refine ⟨rfl, ?_⟩
  show TCTrue _ (cv a) (cv b) (.bool q)
  rw [ha, hb, ← h]
  exact t_gtr .i64 m n
theorem te_l [Val] {a b : RV} {m n : Int} (q : Bool) (ha : cv a = .int .i64 m) (hb : cv b = .int .i64 n) (h : decide (m < n) = q) : TETrue ⟨.bin .lss, a, b, bR q⟩ := by
  refine ⟨rfl, ?_⟩
  show TCTrue _ (cv a) (cv b) (.bool q)
  rw [ha, hb, ← h]
  exact t_lss .i64 m n
theorem te_r [Val] {a b c : RV} {m n r : Int} (ha : cv a = .int .i64 m) (hb : cv b = .int .i64 n) (hc : cv c = .int .i64 r) (hf : flat0 c = true) (h0 : 0 ≤ m) (h1 : 0 < n) (h : m % n = r) : TETrue ⟨.bin .rem, a, b, c⟩ := by
  refine ⟨hf, ?_⟩
  show TCTrue _ (cv a) (cv b) (cv c)
  rw [ha, hb, hc, ← h]
  have := t_rem .i64 m n (by omega)
  rw [Int.tmod_eq_emod_of_nonneg h0] at this
  exact this
section
variable (x : Nat → Int) (y : Nat → Bool) (lv tu : List Value)
/-- The places. -/
abbrev PL : List Nat := pls (shp x y) 12
def bools (l : List Value) : Prop := ∀ v, v ∈ l → ∃ b, v = .bool b
def u8s (l : List Value) : Prop := ∀ v, v ∈ l → ∃ a : Int, v = .int .u8 a ∧ 0 ≤ a ∧ a < 256
/-- How a round of the first loop goes. -/
def mode1 (i : Nat) : Nat := if i < lv.length then (match lv.getD i undef with | .bool true => 2 | _ => 1) else 0
theorem mode1_lt (i : Nat) : mode1 lv i < 3 := by
  unfold mode1
  split
  · split <;> omega
  · omega
theorem tb1_ok (hlv : bools lv) (i : Nat) (kept : List Nat) (hi : i < (PL x y).length) (hk : kept.length ≤ i) (W : Nat → Value) : @TbOK ((N1 x y lv tu i kept).val W) (tb1 (mode1 lv i)) := by
  letI : Val := (N1 x y lv tu i kept).val W
  have hn : (PL x y).length ≤ 12 := pls_len (shp x y) 12
  have hcell : c4.map cv = featC ((PL x y).getD i 0) (shp x y ((PL x y).getD i 0)) := by
    rw [featC_cells ((PL x y).getD i 0) (shp x y ((PL x y).getD i 0))]
    rfl
  refine { T := ?_, LL := ?_, LX := ?_, LA := ?_ }
  · intro e he
    simp only [tb1, t1s, lvT, List.mem_cons, List.mem_append, List.not_mem_nil, or_false] at he
    rcases he with rfl | rfl | rfl | (rfl | rfl) | he
    · refine te_lss 100 101 true ?_
      show decide ((i : Int) < ((PL x y).length : Int)) = true
      simp [hi]
    · refine te_inb 100 101 true ?_
      show decide (0 ≤ (i : Int) ∧ (i : Int) < ((PL x y).length : Int)) = true
      simp [hi]
    · exact te_add1 100 106 i rfl rfl (by omega) (by omega)
    · exact te_g (m := (i : Int)) (n := 0) true rfl rfl (by simp)
    · refine te_g (m := (i : Int)) (n := (lv.length : Int)) _ rfl rfl ?_
      unfold mode1
      split
      · rename_i h
        have : ¬ ((i : Int) ≥ (lv.length : Int)) := by omega
        rw [decide_eq_false this]
        split <;> rfl
      · rename_i h
        rw [decide_eq_true (by omega)]
        rfl
    · split at he
      · cases he
      · rename_i h
        simp only [List.mem_cons, List.not_mem_nil, or_false] at he
        subst he
        refine te_inb 100 151 true ?_
        show decide (0 ≤ (i : Int) ∧ (i : Int) < (lv.length : Int)) = true
        unfold mode1 at h
        split at h
        · rename_i h'
          simp [h']
        · exact absurd rfl h
  · intro e he
    simp only [tb1, List.mem_cons, List.not_mem_nil, or_false] at he
    rcases he with rfl | rfl
    · exact ⟨rfl, (PL x y).length, by decide, cs_len _ _, rfl⟩
    · exact ⟨rfl, lv.length, by decide, (Nat.mul_one _).symm, rfl⟩
  · intro e he
    simp only [tb1, lx1, List.mem_cons] at he
    rcases he with rfl | he
    · refine ⟨rfl, ?_, ?_⟩
      · show ((i : Int)).toNat * 4 + 4 ≤ (cs (shp x y) (PL x y)).length
        rw [cs_len, Int.toNat_natCast]
        omega
      · show ((cs (shp x y) (PL x y)).drop (((i : Int)).toNat * 4)).take 4 = _
        rw [Int.toNat_natCast, hcell]
        exact cs_row (shp x y) (PL x y) i hi
    · split at he
      · cases he
      · rename_i h
        simp only [List.mem_cons, List.not_mem_nil, or_false] at he
        subst he
        have hil : i < lv.length := by
          unfold mode1 at h
          split at h
          · assumption
          · exact absurd rfl h
        refine ⟨rfl, ?_, ?_⟩
        · show ((i : Int)).toNat * 1 + 1 ≤ lv.length
          omega
        · show (lv.drop (((i : Int)).toNat * 1)).take 1 = [.bool (Nat.beq (mode1 lv i) 2)]
          rw [Int.toNat_natCast, Nat.mul_one, List.drop_eq_getElem_cons hil]
          obtain ⟨b, hb⟩ := hlv _ (List.getElem_mem hil)
          have e : mode1 lv i = if b then 2 else 1 := by
            unfold mode1
            rw [if_pos hil, List.getD_eq_getElem?_getD, List.getElem?_eq_getElem hil, Option.getD_some, hb]
            cases b <;> rfl
          rw [e, hb]
          cases b <;> rfl
  · intro e he
    simp only [tb1, List.mem_cons, List.not_mem_nil, or_false] at he
    rcases he with rfl | rfl
    · refine ⟨?_, ?_, ?_⟩
      · show cs (shp x y) kept ++ _ = cs (shp x y) kept ++ c4.map cv
        rw [hcell]
      · show (cs (shp x y) kept ++ featC ((PL x y).getD i 0) (shp x y ((PL x y).getD i 0))).length ≤ _
        rw [List.length_append, cs_len, featC_len]
        omega
      · exact cs_one _ _
    · refine ⟨?_, ?_, ?_⟩
      · show cs (shp x y) ((PL x y).take i) ++ _ = cs (shp x y) ((PL x y).take i) ++ c4.map cv
        rw [hcell]
      · show (cs (shp x y) ((PL x y).take i) ++ featC ((PL x y).getD i 0) (shp x y ((PL x y).getD i 0))).length ≤ _
        rw [List.length_append, cs_len, featC_len, List.length_take]
        omega
      · exact cs_one _ _
end
end Go.Proofs.Z
