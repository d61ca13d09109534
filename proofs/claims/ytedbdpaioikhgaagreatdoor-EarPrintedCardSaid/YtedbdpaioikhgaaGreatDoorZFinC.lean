/- A part of the proofs that the laws of layer one answer true for every input. -/
import Derived.Test.YtedbdpaioikhgaaGreatDoorZFinB
import Derived.Test.YtedbdpaioikhgaaGreatDoorZEarOf
namespace Go.Proofs.Z
open Go Go.RowKit Go.Proofs Go.Ri Go.ChangeShapes Go.WideShapes Go.ChangeAt
/-! Arguments that are slices. -/
section
variable {H : Type} {enc : TypeId × Value → H}
/-- Below the old heap nothing turned: whatever places the arguments have. -/
theorem post_belowP {P : Program} {f : Func} {s : ChangeSpec} {apart fresh handsOn again : Bool} {W W' : World} {args : Array Value} {v : Value} {ds gs : List (DataW H)} {before pa pv : List MemPlace}
    (hW : DataW.Whole enc P f.params.toList s.vars apart W args.toList ds gs before)
    (hres : ∀ (b : Nat) (sp : Nat → Bool) (hd : Bool), DataW.TrodAll enc P W' b sp hd f.resultTypes.toList (v.resultList f.resultTypes.size) (s.fn H (ds ++ gs)).results [])
    (hargs : ∀ sp : Nat → Bool, (∀ p ∈ before, sp p.block = true) → DataW.TrodAll enc P W' 0 sp true f.params.toList args.toList (s.fn H (ds ++ gs)).args pa)
    (hvars : ∀ sp : Nat → Bool, (∀ p ∈ before, sp p.block = true) → DataW.TrodVars enc P W' sp s.vars (s.fn H (ds ++ gs)).vars pv)
    (hps : before = pa ++ pv) (hk : Below W.heap.size W W')
    (hok : ∀ (j : Nat) (t : TypeId) (r : Value), f.resultTypes[j]? = some t → (v.resultList f.resultTypes.size)[j]? = some r → Value.okWide P W' .any 0 t r) :
    s.post enc P f apart fresh handsOn again W args v W' := by
  have hlt := hW.lt
  have hold : ∀ p ∈ before, (fun b => decide (b < W.heap.size)) p.block = true := fun p hp => by simpa using hlt p hp
  refine ⟨ds, gs, before, [], pa, pv, hW, hres _ _ _, hargs _ hold, hvars _ hold, hk.frame _, fun _ => ?_⟩
  obtain ⟨_, _, _, _, _, hz, hn⟩ := hW
  refine ⟨hok, _, _, ([] ++ pa) ++ pv, ⟨[] ++ pa, pv, trodAll_append (hargs _ (fun _ _ => rfl)) (hres _ _ _), hvars _ (fun _ _ => rfl), rfl, ?_, ?_⟩, ?_⟩
  · intro b off hp
    have hp' : MemPlace.cell b off ∈ before := by rw [hps]; simpa using hp
    rw [hk.frozen (hlt _ hp')]
    exact hz b off hp'
  · intro ha
    have := hn ha
    rw [hps] at this
    simpa using this
  · intro p hp _
    rw [hps]
    simpa using hp
theorem slice_stays {t : TypeId} (hr : Tryz.prog.readableRec t = true) (hrow : t < Tryz.prog.types.size) {W W' : World} {v : Value} {d : DataW H} {ps : List MemPlace} (sp : Nat → Bool) (hk : Below W.heap.size W W') (hlt : ∀ p ∈ ps, p.block < W.heap.size) (hs : ∀ p ∈ ps, sp p.block = true)
    (h : DataW.Trod enc Tryz.prog W 0 (fun _ => true) true t v d ps) : DataW.Trod enc Tryz.prog W' 0 sp true t v d ps :=
  WideElems.Trod_stays laidOut hr hrow h (fun p hp => hk.same (hlt p hp)) hs
theorem trod_row4 {W : World} {fuel : Nat} {cs : List Value} {x : DataW H × List MemPlace} {sp : Nat → Bool} (h : DataW.trod enc Tryz.prog W 0 sp true fuel 74 cs = some x) : ∀ r, r < 4 → ∃ n, cs[r]? = some (.int .i64 n) := by
  have c3 : Tryz.prog.cellsOf 3 = 1 := by kernel_rfl
  obtain ⟨xs, m, _, rfl, _, hxl, hx⟩ := DataW.trod_struct Tryz.underlying74 h
  have hxl : xs.length = 4 := hxl
  have one : ∀ r, r < 4 → DataW.trod enc Tryz.prog W 0 sp true m 3 ((cs.drop r).take 1) = xs[r]? → ∃ n, cs[r]? = some (.int .i64 n) := by
    intro r hr h1
    have hxr : ∃ y, xs[r]? = some y := ⟨_, List.getElem?_eq_getElem (by omega)⟩
    obtain ⟨y, hy⟩ := hxr
    rw [hy] at h1
    obtain ⟨n, hcs, _⟩ := DataW.trod_int Tryz.underlying3 h1
    refine ⟨n, ?_⟩
    have := congrArg (fun l => l[0]?) hcs
    simpa [List.getElem?_take, List.getElem?_drop] using this
  intro r hr
  match r, hr with
  | 0, _ => exact one 0 (by omega) (by have h1 : DataW.trod enc Tryz.prog W 0 sp true m 3 ((cs.drop 0).take (Tryz.prog.cellsOf 3)) = xs[0]? := hx 0 _ rfl; rw [c3] at h1; exact h1)
  | 1, _ => exact one 1 (by omega) (by have h1 : DataW.trod enc Tryz.prog W 0 sp true m 3 ((cs.drop 1).take (Tryz.prog.cellsOf 3)) = xs[1]? := hx 1 _ rfl; rw [c3] at h1; exact h1)
  | 2, _ => exact one 2 (by omega) (by have h1 : DataW.trod enc Tryz.prog W 0 sp true m 3 ((cs.drop 2).take (Tryz.prog.cellsOf 3)) = xs[2]? := hx 2 _ rfl; rw [c3] at h1; exact h1)
  | 3, _ => exact one 3 (by omega) (by have h1 : DataW.trod enc Tryz.prog W 0 sp true m 3 ((cs.drop 3).take (Tryz.prog.cellsOf 3)) = xs[3]? := hx 3 _ rfl; rw [c3] at h1; exact h1)
set_option maxRecDepth 100000 in
/-- A slice of features that came in. -/
theorem feats_open {W : World} {v : Value} {d : DataW H} {p : List MemPlace} {r : Reach} {b : Nat} (hv : Value.okWide Tryz.prog W r b 45 v) (h : DataW.Trod enc Tryz.prog W 0 (fun _ => true) true 45 v d p) :
    v = .slice none 0 0 ∨ ∃ a n cap l, v = .slice (some a) n cap ∧ ints l ∧ l.length = n * 4 ∧ n ≤ cap ∧ (l ≠ [] → a.block < W.heap.size) ∧ ∀ j u, l[j]? = some u → W.cell? (a.add j) = some u := by
  have c4 : Tryz.prog.cellsOf 74 = 4 := by kernel_rfl
  obtain ⟨a0, n0, cap0, rfl⟩ := okWide_slice Tryz.underlying45 hv
  obtain ⟨fuel, hf⟩ := h
  have hf : DataW.trod enc Tryz.prog W 0 (fun _ => true) true fuel 45 [.slice a0 n0 cap0] = some (d, p) := hf
  rcases DataW.trod_slice Tryz.underlying45 hf with ⟨h0, _⟩ | ⟨a, len, cap, elems, rest, n, _, hcs, _, _, hl, _, hlen, hel, _⟩
  · left
    simpa using h0
  · right
    have hcs : Value.slice a0 n0 cap0 = .slice (some a) len cap := by simpa using hcs
    rw [hcs]
    rw [c4] at hel
    have cell : ∀ j, j < len * 4 → ∃ z, W.cell? (a.add j) = some (.int .i64 z) := by
      intro j hj
      have hi : j / 4 < len := by omega
      have hr : j % 4 < 4 := Nat.mod_lt _ (by omega)
      have h1 := hel (j / 4) hi
      rw [List.getElem?_eq_getElem (by omega)] at h1
      rw [Option.bind_eq_some_iff] at h1
      obtain ⟨cs, h2, h3⟩ := h1
      obtain ⟨_, _, h5⟩ := World.cells?_some h2
      obtain ⟨z, hz⟩ := trod_row4 h3 (j % 4) hr
      have h6 := h5 (j % 4) hr
      rw [add_add, hz, show j / 4 * 4 + j % 4 = j by omega] at h6
      exact ⟨z, h6⟩
    refine ⟨a, len, cap, (List.range (len * 4)).map fun j => (W.cell? (a.add j)).getD undef, rfl, ?_, by simp, hl, ?_, ?_⟩
    · intro v hv
      obtain ⟨j, hj, rfl⟩ := List.mem_map.1 hv
      obtain ⟨z, hz⟩ := cell j (List.mem_range.1 hj)
      exact ⟨z, by rw [hz]; rfl⟩
    · intro hne
      have hpos : 0 < len * 4 := by
        rcases Nat.eq_zero_or_pos (len * 4) with h | h
        · rw [h] at hne
          exact absurd rfl hne
        · exact h
      obtain ⟨z, hz⟩ := cell 0 hpos
      have : a.add 0 = a := by simp [Addr.add]
      rw [this] at hz
      unfold World.cell? at hz
      split at hz
      · rename_i hh
        exact (Array.getElem?_eq_some_iff.1 hh).1
      · cases hz
    · intro j u hj
      rw [List.getElem?_map] at hj
      rcases Nat.lt_or_ge j (len * 4) with hlt | hge
      · rw [List.getElem?_range hlt] at hj
        obtain ⟨z, hz⟩ := cell j hlt
        simp only [Option.map_some, hz, Option.getD_some, Option.some.injEq] at hj
        rw [hz, hj]
      · rw [List.getElem?_eq_none (by simpa using hge)] at hj
        cases hj
end
set_option maxRecDepth 100000 in
theorem str_shape {w : World} {r : Reach} {b : Nat} {v : Value} (h : Value.okWide Tryz.prog w r b 9 v) : ∃ s, v = .string s :=
  okWide_string Tryz.underlying9 h
set_option maxRecDepth 100000 in
theorem nil_str' {H : Type} {enc : TypeId × Value → H} {w : World} {base : Nat} {sp : Nat → Bool} {held : Bool} {v : Value} {d : DataW H} {p : List MemPlace} (h : DataW.Trod enc Tryz.prog w base sp held 9 v d p) : p = [] := by
  obtain ⟨n, hn⟩ := h
  obtain ⟨m, _, e, _⟩ := DataW.trod_string Tryz.underlying9 hn
  exact (Prod.mk.inj e).2
set_option maxRecDepth 100000 in
theorem str_stays {H : Type} {enc : TypeId × Value → H} {W W' : World} {v : Value} {d : DataW H} (sp : Nat → Bool) (h : DataW.Trod enc Tryz.prog W 0 (fun _ => true) true 9 v d []) : DataW.Trod enc Tryz.prog W' 0 sp true 9 v d [] :=
  WideElems.Trod_stays laidOut (by kernel_rfl) (of_decide_eq_true (by kernel_rfl)) h (fun _ hp => by cases hp) (fun _ hp => by cases hp)
end Go.Proofs.Z
