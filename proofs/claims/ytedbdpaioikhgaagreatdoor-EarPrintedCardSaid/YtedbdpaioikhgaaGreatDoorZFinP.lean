/- A part of the proofs that the laws of layer one answer true for every input. -/
import Derived.Test.YtedbdpaioikhgaaGreatDoorZFinC
import Derived.Test.YtedbdpaioikhgaaGreatDoorZPrK
namespace Go.Proofs.Z
open Go Go.RowKit Go.Proofs Go.Ri Go.ChangeShapes Go.WideShapes Go.ChangeAt
/-! Arguments that are slices of one-cell elements. -/
section
variable {H : Type} {enc : TypeId × Value → H}
set_option maxRecDepth 100000 in
theorem slice1_open {t te : TypeId} (ht : Tryz.prog.underlying t = some (.slice te)) (c1 : Tryz.prog.cellsOf te = 1) {W : World} (Q : Value → Prop)
    (hQ : ∀ fuel cs x, DataW.trod enc Tryz.prog W 0 (fun _ => true) true fuel te cs = some x → ∃ v, cs = [v] ∧ Q v)
    {v : Value} {d : DataW H} {p : List MemPlace} {r : Reach} {b : Nat} (hv : Value.okWide Tryz.prog W r b t v) (h : DataW.Trod enc Tryz.prog W 0 (fun _ => true) true t v d p) :
    v = .slice none 0 0 ∨ ∃ a n cap l, v = .slice (some a) n cap ∧ (∀ u, u ∈ l → Q u) ∧ l.length = n * 1 ∧ n ≤ cap ∧ (l ≠ [] → a.block < W.heap.size) ∧ ∀ j u, l[j]? = some u → W.cell? (a.add j) = some u := by
  obtain ⟨a0, n0, cap0, rfl⟩ := okWide_slice ht hv
  obtain ⟨fuel, hf⟩ := h
  have hf : DataW.trod enc Tryz.prog W 0 (fun _ => true) true fuel t [.slice a0 n0 cap0] = some (d, p) := hf
  rcases DataW.trod_slice ht hf with ⟨h0, _⟩ | ⟨a, len, cap, elems, rest, n, _, hcs, _, _, hl, _, hlen, hel, _⟩
  · left
    simpa using h0
  · right
    have hcs : Value.slice a0 n0 cap0 = .slice (some a) len cap := by simpa using hcs
    rw [hcs]
    rw [c1] at hel
    have cell : ∀ j, j < len → ∃ z, W.cell? (a.add j) = some z ∧ Q z := by
      intro j hj
      have h1 := hel j hj
      rw [List.getElem?_eq_getElem (by omega)] at h1
      rw [Option.bind_eq_some_iff] at h1
      obtain ⟨cs, h2, h3⟩ := h1
      obtain ⟨_, _, h5⟩ := World.cells?_some h2
      obtain ⟨z, hz, hq⟩ := hQ _ _ _ h3
      have h6 := h5 0 (by omega)
      rw [add_add, hz, show j * 1 + 0 = j by omega] at h6
      exact ⟨z, h6, hq⟩
    refine ⟨a, len, cap, (List.range len).map fun j => (W.cell? (a.add j)).getD undef, rfl, ?_, by simp, hl, ?_, ?_⟩
    · intro v hv
      obtain ⟨j, hj, rfl⟩ := List.mem_map.1 hv
      obtain ⟨z, hz, hq⟩ := cell j (List.mem_range.1 hj)
      rw [hz]
      exact hq
    · intro hne
      have hpos : 0 < len := by
        rcases Nat.eq_zero_or_pos len with h | h
        · rw [h] at hne
          exact absurd rfl hne
        · exact h
      obtain ⟨z, hz, _⟩ := cell 0 hpos
      have : a.add 0 = a := by simp [Addr.add]
      rw [this] at hz
      unfold World.cell? at hz
      split at hz
      · rename_i hh
        exact (Array.getElem?_eq_some_iff.1 hh).1
      · cases hz
    · intro j u hj
      rw [List.getElem?_map] at hj
      rcases Nat.lt_or_ge j len with hlt | hge
      · rw [List.getElem?_range hlt] at hj
        obtain ⟨z, hz, _⟩ := cell j hlt
        simp only [Option.map_some, hz, Option.getD_some, Option.some.injEq] at hj
        rw [hz, hj]
      · rw [List.getElem?_eq_none (by simpa using hge)] at hj
        cases hj
set_option maxRecDepth 100000 in
theorem bytes_open {W : World} {v : Value} {d : DataW H} {p : List MemPlace} {r : Reach} {b : Nat} (hv : Value.okWide Tryz.prog W r b 67 v) (h : DataW.Trod enc Tryz.prog W 0 (fun _ => true) true 67 v d p) :
    v = .slice none 0 0 ∨ ∃ a n cap l, v = .slice (some a) n cap ∧ Pr.u8s l ∧ l.length = n * 1 ∧ n ≤ cap ∧ (l ≠ [] → a.block < W.heap.size) ∧ ∀ j u, l[j]? = some u → W.cell? (a.add j) = some u :=
  slice1_open Tryz.underlying67 (by kernel_rfl) (fun v => ∃ a : Int, v = .int .u8 a ∧ 0 ≤ a ∧ a < 256) (fun fuel cs x h => by
    obtain ⟨n, hcs, _, hw⟩ := DataW.trod_int Tryz.underlying5 h
    refine ⟨_, hcs, n, rfl, ?_⟩
    simp only [Lit.wf, Bool.and_eq_true, decide_eq_true_eq] at hw
    have e1 : IntKind.u8.min = 0 := rfl
    have e2 : IntKind.u8.max = 255 := rfl
    omega) hv h
end
end Go.Proofs.Z
