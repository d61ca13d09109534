/- A part of the proofs that the laws of layer one answer true for every input. -/
import Derived.Test.YtedbdpaioikhgaaDoorZBt1
import Derived.Test.YtedbdpaioikhgaaDoorZBt2
namespace Go.Proofs.Z
open Go Go.RowKit Go.Proofs Go.Ri
/-! The law EarBuilt: what its names stand for. -/
theorem filter_mem_sub {k l : List Nat} (h : k.Sublist l) (hn : l.Nodup) : l.filter (fun p => decide (p ∈ k)) = k := by
  induction h with
  | slnil => rfl
  | @cons k l a h ih =>
    have hn' := List.nodup_cons.1 hn
    have : a ∉ k := fun hm => hn'.1 (h.subset hm)
    rw [List.filter_cons, if_neg (by simpa using this)]
    exact ih hn'.2
  | @cons_cons k l a h ih =>
    have hn' := List.nodup_cons.1 hn
    rw [List.filter_cons, if_pos (by simp)]
    congr 1
    refine (List.filter_congr fun p hp => ?_).trans (ih hn'.2)
    have hne : p ≠ a := by rintro rfl; exact hn'.1 hp
    simp [hne]
theorem pls_mem {s : Nat → Int} {n p : Nat} (h : p ∈ pls s n) : p < n ∧ s p ≠ 0 := by
  unfold pls at h
  rw [List.mem_filter, List.mem_range] at h
  exact ⟨h.1, by simpa using h.2⟩
theorem pls_mk {s : Nat → Int} {n p : Nat} (h : p < n) (h0 : s p ≠ 0) : p ∈ pls s n := by
  unfold pls
  rw [List.mem_filter, List.mem_range]
  exact ⟨h, by simpa using h0⟩
theorem pls_sub (s : Nat → Int) (n : Nat) : (pls s n).Sublist (List.range n) := List.filter_sublist
theorem pls_nodup (s : Nat → Int) (n : Nat) : (pls s n).Nodup := List.nodup_range.sublist (pls_sub s n)
theorem pls_len (s : Nat → Int) (n : Nat) : (pls s n).length ≤ n := by
  have := (pls_sub s n).length_le
  rwa [List.length_range] at this
section
variable (x : Nat → Int) (y : Nat → Bool)
theorem sr_perm {qs : List Nat} (h : qs.Perm (pls (shp x y) 12)) (i : Nat) (hi : i < 12) : sr (shp x y) qs i = shp x y i := by
  unfold sr
  split
  · rfl
  · rename_i hn
    by_cases h0 : shp x y i = 0
    · exact h0.symm
    · exact absurd (h.mem_iff.2 (pls_mk hi h0)) hn
theorem earF_sr {qs : List Nat} (h : qs.Perm (pls (shp x y) 12)) : earF (sr (shp x y) qs) (earY (sr (shp x y) qs)) = earF x y := by
  have hx : ∀ i, i < 9 → sr (shp x y) qs i = x i := fun i hi => by
    rw [sr_perm x y h i (by omega)]
    unfold shp
    rw [if_pos hi]
  have hy : ∀ i, i < 3 → earY (sr (shp x y) qs) i = y i := fun i hi => by
    unfold earY
    rw [sr_perm x y h (9 + i) (by omega)]
    unfold shp
    rw [if_neg (by omega), Nat.add_sub_cancel_left]
    cases y i <;> rfl
  unfold earF
  rw [hx 0 (by omega), hx 1 (by omega), hx 2 (by omega), hx 3 (by omega), hx 4 (by omega), hx 5 (by omega), hx 6 (by omega), hx 7 (by omega), hx 8 (by omega), hy 0 (by omega), hy 1 (by omega), hy 2 (by omega)]
theorem shp_sr (ps : List Nat) (p : Nat) (hp : p < 12) : shp (sr (shp x y) ps) (earY (sr (shp x y) ps)) p = sr (shp x y) ps p := by
  show (if p < 9 then _ else if (!(sr (shp x y) ps (9 + (p - 9)) == 0)) then (1 : Int) else 0) = _
  by_cases h9 : p < 9
  · rw [if_pos h9]
  · rw [if_neg h9, show 9 + (p - 9) = p by omega]
    unfold sr
    split
    · unfold shp
      rw [if_neg h9]
      cases y (p - 9) <;> rfl
    · rfl
theorem cs_congr {s t : Nat → Int} : ∀ ps : List Nat, (∀ p ∈ ps, s p = t p) → cs s ps = cs t ps
  | [], _ => rfl
  | p :: ps, h => by
    show featC p (s p) ++ cs s ps = featC p (t p) ++ cs t ps
    rw [h p List.mem_cons_self, cs_congr ps fun q hq => h q (List.mem_cons_of_mem _ hq)]
theorem feat_sr {ps : List Nat} (h : ps.Sublist (pls (shp x y) 12)) : featL (shp (sr (shp x y) ps) (earY (sr (shp x y) ps))) 12 = cs (shp x y) ps := by
  have hm : ∀ p ∈ ps, p < 12 ∧ shp x y p ≠ 0 := fun p hp => pls_mem (h.subset hp)
  have e : pls (shp (sr (shp x y) ps) (earY (sr (shp x y) ps))) 12 = ps := by
    unfold pls
    refine (List.filter_congr fun p hp => ?_).trans (filter_mem_sub (h.trans (pls_sub _ _)) List.nodup_range)
    have hp := List.mem_range.1 hp
    rw [shp_sr x y ps p hp]
    unfold sr
    by_cases hm' : p ∈ ps
    · have := (hm p hm').2
      simp [hm', this]
    · simp [hm']
  rw [featL_cs, e]
  refine cs_congr ps fun p hp => ?_
  rw [shp_sr x y ps p (hm p hp).1]
  unfold sr
  rw [if_pos hp]
theorem bV_sr (hv : valB x = true) {ps : List Nat} (hnd : ps.Nodup) (hps : ∀ p ∈ ps, p < 12 ∧ shp x y p ≠ 0) : bV (bld (cs (shp x y) ps) ps.length) = .tuple #[earF (sr (shp x y) ps) (earY (sr (shp x y) ps)), intV 0] := by
  rw [bld_cs (shp x y) (val_rng x y hv) ps hnd hps ps.length (Nat.le_refl _), List.take_length]
  show (if valB (sr (shp x y) ps) then _ else _) = _
  rw [val_sr _ ps ((valB_shp x y).trans hv)]
  rfl
theorem featC_cells (p : Nat) (v : Int) : featC p v = [.int .i64 (intOf ((featC p v).getD 0 undef)), .int .i64 (intOf ((featC p v).getD 1 undef)), .int .i64 (intOf ((featC p v).getD 2 undef)), .int .i64 (intOf ((featC p v).getD 3 undef))] := by
  unfold featC
  split
  · rfl
  · split
    · rfl
    · split <;> rfl
/-- The cells of the feature of place p, from the name 102 on. -/
def fI (s : Nat → Int) (p j : Nat) : Int := intOf ((featC p (s p)).getD (j - 102) undef)
noncomputable def N1 (lv tu : List Value) (i : Nat) (kept : List Nat) : Nm :=
  let s := shp x y
  let P := pls s 12
  let p := P.getD i 0
  ⟨fun j => if j < 9 then x j else if j = 100 then (i : Int) else if j = 101 then (P.length : Int) else if j = 106 then (i : Int) + 1 else if j = 151 then (lv.length : Int) else fI s p j, y, fun _ => ⟨#[]⟩,
   fun j => if j = 0 then cs s P else if j = 1 then lv else if j = 2 then cs s kept else if j = 3 then cs s kept ++ featC p (s p) else if j = 4 then cs s (P.take i) else if j = 5 then cs s (P.take i) ++ featC p (s p) else tu⟩
def tvO (tu : List Value) (i : Nat) : Int := if i < tu.length then intOf (tu.getD i undef) else 0
noncomputable def N2 (lv tu : List Value) (kept mixed rest : List Nat) : Nm :=
  let s := shp x y
  let tv := tvO tu mixed.length
  let k := tv.toNat % rest.length
  let p := rest.getD k 0
  ⟨fun j => if j < 9 then x j else if j < 50 then sr s kept (j - 40) else if j = 100 then (mixed.length : Int) else if j = 106 then (mixed.length : Int) + 1 else if j = 152 then (rest.length : Int) else if j = 153 then (k : Int) else if j = 156 then (k : Int) + 1 else if j = 155 then tv else if j = 161 then tv else if j = 190 then 0 else fI s p j,
   fun j => if j < 40 then y j else earY (sr s kept) (j - 40), fun _ => ⟨#[]⟩,
   fun j => if j = 0 then cs s kept else if j = 1 then lv else if j = 7 then cs s mixed else if j = 8 then cs s mixed ++ featC p (s p) else if j = 4 then cs s rest else if j = 9 then cs s (rest.take k) else if j = 10 then cs s (rest.drop (k + 1)) else if j = 11 then cs s (rest.take k ++ rest.drop (k + 1)) else tu⟩
end
end Go.Proofs.Z
