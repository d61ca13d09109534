/- A part of the proofs that the laws of layer one answer true for every input. -/
import Derived.Test.YtedbdpaioikhgaaGreatDoorZSane
import Derived.Test.YtedbdpaioikhgaaGreatDoorCards
import Derived.Test.YtedbdpaioikhgaaGreatDoorTie
import Derived.WalkKit
import Derived.ProofKit
import Derived.OpenShut
import Derived.Deep.DeepHandedRow
import Derived.Lib.LaidTab
namespace Go.Proofs.Z
open Go Go.RowKit Go.Proofs Go.Ri Go.ChangeShapes Go.WideShapes Go.ChangeAt
section
variable {H : Type} {enc : TypeId × Value → H}
theorem cell_int {P : Program} {w : World} {r : Reach} {b : Nat} {t : TypeId} {k : IntKind} {v : Value} (ht : P.underlying t = some (.int k)) (h : Cell.okWide P w r b t v) : ∃ n, v = .int k n := by
  simp only [Cell.okWide, ht] at h
  cases v <;> simp_all [Cell.ok]
theorem cell_bool {P : Program} {w : World} {r : Reach} {b : Nat} {t : TypeId} {v : Value} (ht : P.underlying t = some .bool) (h : Cell.okWide P w r b t v) : ∃ n, v = .bool n := by
  simp only [Cell.okWide, ht] at h
  cases v <;> simp_all [Cell.ok]
theorem list12 {α : Type} {l : List α} (h : l.length = 12) : ∃ a b c d e f g i j k m n, l = [a, b, c, d, e, f, g, i, j, k, m, n] := by
  match l, h with
  | [a, b, c, d, e, f, g, i, j, k, m, n], _ => exact ⟨a, b, c, d, e, f, g, i, j, k, m, n, rfl⟩
theorem ear_shape' {P : Program} {T I B : TypeId} {fs : Array Field} (hu : P.underlying T = some (.struct fs)) (u3 : P.underlying I = some (.int .i64)) (u4 : P.underlying B = some .bool)
    (hts' : P.cellTypes P.depth T = some [I, I, I, I, I, I, I, I, I, B, B, B]) (hn : P.cellsOf T = 12)
    {w : World} {r : Reach} {b : Nat} {v : Value} (h : Value.okWide P w r b T v) : ∃ x y, v = earF x y := by
  simp only [Value.okWide, hu] at h
  obtain ⟨cs, rfl, hsz, ts, hts, _, hc⟩ := h
  rw [hts'] at hts
  cases hts
  rw [hn] at hsz
  obtain ⟨a, b1, c, d, e1, f, g, i, j, k, m, n, hl⟩ := list12 (l := cs.toList) (by simpa using hsz)
  have ecs : cs = #[a, b1, c, d, e1, f, g, i, j, k, m, n] := Array.ext' hl
  subst ecs
  have hi : ∀ q x, q < 9 → (#[a, b1, c, d, e1, f, g, i, j, k, m, n] : Array Value)[q]? = some x → ∃ n, x = .int .i64 n := by
    intro q x hq hx
    obtain ⟨u, h1, h2⟩ := hc q x hx
    have : u = I := by
      match q, hq with
      | 0, _ => exact (Option.some.inj h1).symm
      | 1, _ => exact (Option.some.inj h1).symm
      | 2, _ => exact (Option.some.inj h1).symm
      | 3, _ => exact (Option.some.inj h1).symm
      | 4, _ => exact (Option.some.inj h1).symm
      | 5, _ => exact (Option.some.inj h1).symm
      | 6, _ => exact (Option.some.inj h1).symm
      | 7, _ => exact (Option.some.inj h1).symm
      | 8, _ => exact (Option.some.inj h1).symm
    subst this
    exact cell_int u3 h2
  have hb : ∀ q x, (q = 9 ∨ q = 10 ∨ q = 11) → (#[a, b1, c, d, e1, f, g, i, j, k, m, n] : Array Value)[q]? = some x → ∃ n, x = .bool n := by
    intro q x hq hx
    obtain ⟨u, h1, h2⟩ := hc q x hx
    have : u = B := by
      rcases hq with rfl | rfl | rfl
      · exact (Option.some.inj h1).symm
      · exact (Option.some.inj h1).symm
      · exact (Option.some.inj h1).symm
    subst this
    exact cell_bool u4 h2
  obtain ⟨x0, rfl⟩ := hi 0 _ (by omega) rfl
  obtain ⟨x1, rfl⟩ := hi 1 _ (by omega) rfl
  obtain ⟨x2, rfl⟩ := hi 2 _ (by omega) rfl
  obtain ⟨x3, rfl⟩ := hi 3 _ (by omega) rfl
  obtain ⟨x4, rfl⟩ := hi 4 _ (by omega) rfl
  obtain ⟨x5, rfl⟩ := hi 5 _ (by omega) rfl
  obtain ⟨x6, rfl⟩ := hi 6 _ (by omega) rfl
  obtain ⟨x7, rfl⟩ := hi 7 _ (by omega) rfl
  obtain ⟨x8, rfl⟩ := hi 8 _ (by omega) rfl
  obtain ⟨y0, rfl⟩ := hb 9 _ (by omega) rfl
  obtain ⟨y1, rfl⟩ := hb 10 _ (by omega) rfl
  obtain ⟨y2, rfl⟩ := hb 11 _ (by omega) rfl
  exact ⟨fun i => match i with | 0 => x0 | 1 => x1 | 2 => x2 | 3 => x3 | 4 => x4 | 5 => x5 | 6 => x6 | 7 => x7 | _ => x8, fun i => match i with | 0 => y0 | 1 => y1 | _ => y2, rfl⟩
set_option maxRecDepth 100000 in
theorem ear_shape {w : World} {r : Reach} {b : Nat} {v : Value} (h : Value.okWide Tryz.prog w r b 25 v) : ∃ x y, v = earF x y :=
  ear_shape' Tryz.underlying25 Tryz.underlying3 Tryz.underlying4 (by kernel_rfl) (by kernel_rfl) h
theorem list24 {α : Type} {l : List α} (h : l.length = 24) : ∃ c0 c1 c2 c3 c4 c5 c6 c7 c8 c9 c10 c11 c12 c13 c14 c15 c16 c17 c18 c19 c20 c21 c22 c23, l = [c0, c1, c2, c3, c4, c5, c6, c7, c8, c9, c10, c11, c12, c13, c14, c15, c16, c17, c18, c19, c20, c21, c22, c23] := by
  match l, h with
  | [c0, c1, c2, c3, c4, c5, c6, c7, c8, c9, c10, c11, c12, c13, c14, c15, c16, c17, c18, c19, c20, c21, c22, c23], _ => exact ⟨c0, c1, c2, c3, c4, c5, c6, c7, c8, c9, c10, c11, c12, c13, c14, c15, c16, c17, c18, c19, c20, c21, c22, c23, rfl⟩
theorem mark_shape' {P : Program} {T I B : TypeId} {fs : Array Field} (hu : P.underlying T = some (.struct fs)) (u3 : P.underlying I = some (.int .i64)) (u4 : P.underlying B = some .bool)
    (hts' : P.cellTypes P.depth T = some [I, I, I, I, I, I, I, I, I, B, B, B, I, I, I, I, I, I, I, I, I, B, B, B]) (hn : P.cellsOf T = 24)
    {w : World} {r : Reach} {b : Nat} {v : Value} (h : Value.okWide P w r b T v) : ∃ x y z u, v = markF x y z u := by
  simp only [Value.okWide, hu] at h
  obtain ⟨cs, rfl, hsz, ts, hts, _, hc⟩ := h
  rw [hts'] at hts
  cases hts
  rw [hn] at hsz
  obtain ⟨c0, c1, c2, c3, c4, c5, c6, c7, c8, c9, c10, c11, c12, c13, c14, c15, c16, c17, c18, c19, c20, c21, c22, c23, hl⟩ := list24 (l := cs.toList) (by simpa using hsz)
  have ecs : cs = #[c0, c1, c2, c3, c4, c5, c6, c7, c8, c9, c10, c11, c12, c13, c14, c15, c16, c17, c18, c19, c20, c21, c22, c23] := Array.ext' hl
  subst ecs
  obtain ⟨x0, rfl⟩ : ∃ n, c0 = .int .i64 n := by
    obtain ⟨u, h1, h2⟩ := hc 0 c0 rfl
    cases h1
    exact cell_int u3 h2
  obtain ⟨x1, rfl⟩ : ∃ n, c1 = .int .i64 n := by
    obtain ⟨u, h1, h2⟩ := hc 1 c1 rfl
    cases h1
    exact cell_int u3 h2
  obtain ⟨x2, rfl⟩ : ∃ n, c2 = .int .i64 n := by
    obtain ⟨u, h1, h2⟩ := hc 2 c2 rfl
    cases h1
    exact cell_int u3 h2
  obtain ⟨x3, rfl⟩ : ∃ n, c3 = .int .i64 n := by
    obtain ⟨u, h1, h2⟩ := hc 3 c3 rfl
    cases h1
    exact cell_int u3 h2
  obtain ⟨x4, rfl⟩ : ∃ n, c4 = .int .i64 n := by
    obtain ⟨u, h1, h2⟩ := hc 4 c4 rfl
    cases h1
    exact cell_int u3 h2
  obtain ⟨x5, rfl⟩ : ∃ n, c5 = .int .i64 n := by
    obtain ⟨u, h1, h2⟩ := hc 5 c5 rfl
    cases h1
    exact cell_int u3 h2
  obtain ⟨x6, rfl⟩ : ∃ n, c6 = .int .i64 n := by
    obtain ⟨u, h1, h2⟩ := hc 6 c6 rfl
    cases h1
    exact cell_int u3 h2
  obtain ⟨x7, rfl⟩ : ∃ n, c7 = .int .i64 n := by
    obtain ⟨u, h1, h2⟩ := hc 7 c7 rfl
    cases h1
    exact cell_int u3 h2
  obtain ⟨x8, rfl⟩ : ∃ n, c8 = .int .i64 n := by
    obtain ⟨u, h1, h2⟩ := hc 8 c8 rfl
    cases h1
    exact cell_int u3 h2
  obtain ⟨x9, rfl⟩ : ∃ n, c9 = .bool n := by
    obtain ⟨u, h1, h2⟩ := hc 9 c9 rfl
    cases h1
    exact cell_bool u4 h2
  obtain ⟨x10, rfl⟩ : ∃ n, c10 = .bool n := by
    obtain ⟨u, h1, h2⟩ := hc 10 c10 rfl
    cases h1
    exact cell_bool u4 h2
  obtain ⟨x11, rfl⟩ : ∃ n, c11 = .bool n := by
    obtain ⟨u, h1, h2⟩ := hc 11 c11 rfl
    cases h1
    exact cell_bool u4 h2
  obtain ⟨x12, rfl⟩ : ∃ n, c12 = .int .i64 n := by
    obtain ⟨u, h1, h2⟩ := hc 12 c12 rfl
    cases h1
    exact cell_int u3 h2
  obtain ⟨x13, rfl⟩ : ∃ n, c13 = .int .i64 n := by
    obtain ⟨u, h1, h2⟩ := hc 13 c13 rfl
    cases h1
    exact cell_int u3 h2
  obtain ⟨x14, rfl⟩ : ∃ n, c14 = .int .i64 n := by
    obtain ⟨u, h1, h2⟩ := hc 14 c14 rfl
    cases h1
    exact cell_int u3 h2
  obtain ⟨x15, rfl⟩ : ∃ n, c15 = .int .i64 n := by
    obtain ⟨u, h1, h2⟩ := hc 15 c15 rfl
    cases h1
    exact cell_int u3 h2
  obtain ⟨x16, rfl⟩ : ∃ n, c16 = .int .i64 n := by
    obtain ⟨u, h1, h2⟩ := hc 16 c16 rfl
    cases h1
    exact cell_int u3 h2
  obtain ⟨x17, rfl⟩ : ∃ n, c17 = .int .i64 n := by
    obtain ⟨u, h1, h2⟩ := hc 17 c17 rfl
    cases h1
    exact cell_int u3 h2
  obtain ⟨x18, rfl⟩ : ∃ n, c18 = .int .i64 n := by
    obtain ⟨u, h1, h2⟩ := hc 18 c18 rfl
    cases h1
    exact cell_int u3 h2
  obtain ⟨x19, rfl⟩ : ∃ n, c19 = .int .i64 n := by
    obtain ⟨u, h1, h2⟩ := hc 19 c19 rfl
    cases h1
    exact cell_int u3 h2
  obtain ⟨x20, rfl⟩ : ∃ n, c20 = .int .i64 n := by
    obtain ⟨u, h1, h2⟩ := hc 20 c20 rfl
    cases h1
    exact cell_int u3 h2
  obtain ⟨x21, rfl⟩ : ∃ n, c21 = .bool n := by
    obtain ⟨u, h1, h2⟩ := hc 21 c21 rfl
    cases h1
    exact cell_bool u4 h2
  obtain ⟨x22, rfl⟩ : ∃ n, c22 = .bool n := by
    obtain ⟨u, h1, h2⟩ := hc 22 c22 rfl
    cases h1
    exact cell_bool u4 h2
  obtain ⟨x23, rfl⟩ : ∃ n, c23 = .bool n := by
    obtain ⟨u, h1, h2⟩ := hc 23 c23 rfl
    cases h1
    exact cell_bool u4 h2
  exact ⟨fun i => match i with | 0 => x0 | 1 => x1 | 2 => x2 | 3 => x3 | 4 => x4 | 5 => x5 | 6 => x6 | 7 => x7 | _ => x8, fun i => match i with | 0 => x9 | 1 => x10 | _ => x11, fun i => match i with | 0 => x12 | 1 => x13 | 2 => x14 | 3 => x15 | 4 => x16 | 5 => x17 | 6 => x18 | 7 => x19 | _ => x20, fun i => match i with | 0 => x21 | 1 => x22 | _ => x23, rfl⟩
set_option maxRecDepth 100000 in
theorem mark_shape {w : World} {r : Reach} {b : Nat} {v : Value} (h : Value.okWide Tryz.prog w r b 27 v) : ∃ x y z u, v = markF x y z u :=
  mark_shape' Tryz.underlying27 Tryz.underlying3 Tryz.underlying4 (by kernel_rfl) (by kernel_rfl) h
/-- An ear holds no place. -/
theorem flat_nil {α β : Type} {xs : List (α × List β)} (h : ∀ i, i < xs.length → ∀ y, xs[i]? = some y → y.2 = []) : xs.flatMap (·.2) = [] := by
  rw [List.flatMap_eq_nil_iff]
  intro y hy
  obtain ⟨i, hi⟩ := List.mem_iff_getElem?.mp hy
  have hlt : i < xs.length := by
    rcases Nat.lt_or_ge i xs.length with h | h
    · exact h
    · rw [List.getElem?_eq_none h] at hi; cases hi
  exact h i hlt y hi
theorem nil_arr {w : World} {base : Nat} {sp : Nat → Bool} {held : Bool} {fuel : Nat} {t e : TypeId} {n : Nat} {cs : List Value} {x : DataW H × List MemPlace} (ht : Tryz.prog.underlying t = some (.array n e))
    (he : ∀ fuel cs y, DataW.trod enc Tryz.prog w base sp held fuel e cs = some y → y.2 = []) (h : DataW.trod enc Tryz.prog w base sp held fuel t cs = some x) : x.2 = [] := by
  obtain ⟨xs, m, _, rfl, _, hl, hx⟩ := DataW.trod_array ht h
  exact flat_nil fun i hi y hy => he _ _ _ ((hx i (by omega)).trans hy)
theorem nil_ear {w : World} {base : Nat} {sp : Nat → Bool} {held : Bool} {fuel : Nat} {cs : List Value} {x : DataW H × List MemPlace} (h : DataW.trod enc Tryz.prog w base sp held fuel 25 cs = some x) : x.2 = [] := by
  have u3 : Tryz.prog.underlying 3 = some (.int .i64) := by kernel_rfl
  have u4 : Tryz.prog.underlying 4 = some .bool := by kernel_rfl
  have u22 : Tryz.prog.underlying 22 = some (.array 4 3) := by kernel_rfl
  have u23 : Tryz.prog.underlying 23 = some (.array 3 4) := by kernel_rfl
  have n3 : ∀ fuel cs (y : DataW H × List MemPlace), DataW.trod enc Tryz.prog w base sp held fuel 3 cs = some y → y.2 = [] := fun _ _ _ hy => by
    obtain ⟨n, _, rfl, _⟩ := DataW.trod_int u3 hy; rfl
  have n4 : ∀ fuel cs (y : DataW H × List MemPlace), DataW.trod enc Tryz.prog w base sp held fuel 4 cs = some y → y.2 = [] := fun _ _ _ hy => by
    obtain ⟨n, _, rfl⟩ := DataW.trod_bool u4 hy; rfl
  have n22 : ∀ fuel cs (y : DataW H × List MemPlace), DataW.trod enc Tryz.prog w base sp held fuel 22 cs = some y → y.2 = [] := fun _ _ _ hy => nil_arr u22 n3 hy
  have n23 : ∀ fuel cs (y : DataW H × List MemPlace), DataW.trod enc Tryz.prog w base sp held fuel 23 cs = some y → y.2 = [] := fun _ _ _ hy => nil_arr u23 n4 hy
  obtain ⟨xs, m, _, rfl, _, hl, hx⟩ := DataW.trod_struct Tryz.underlying25 h
  refine flat_nil fun i hi y hy => ?_
  have hl : xs.length = 4 := hl
  match i, (show i < 4 by omega) with
  | 0, _ => exact n3 _ _ _ ((hx 0 _ rfl).trans hy)
  | 1, _ => exact n22 _ _ _ ((hx 1 _ rfl).trans hy)
  | 2, _ => exact n22 _ _ _ ((hx 2 _ rfl).trans hy)
  | 3, _ => exact n23 _ _ _ ((hx 3 _ rfl).trans hy)
theorem nil_ear' {w : World} {base : Nat} {sp : Nat → Bool} {held : Bool} {v : Value} {d : DataW H} {p : List MemPlace} (h : DataW.Trod enc Tryz.prog w base sp held 25 v d p) : p = [] := by
  obtain ⟨n, hn⟩ := h
  exact nil_ear hn
theorem nil_mark {w : World} {base : Nat} {sp : Nat → Bool} {held : Bool} {fuel : Nat} {cs : List Value} {x : DataW H × List MemPlace} (h : DataW.trod enc Tryz.prog w base sp held fuel 27 cs = some x) : x.2 = [] := by
  obtain ⟨xs, m, _, rfl, _, hl, hx⟩ := DataW.trod_struct Tryz.underlying27 h
  refine flat_nil fun i hi y hy => ?_
  have hl : xs.length = 2 := hl
  match i, (show i < 2 by omega) with
  | 0, _ => exact nil_ear ((hx 0 _ rfl).trans hy)
  | 1, _ => exact nil_ear ((hx 1 _ rfl).trans hy)
theorem nil_mark' {w : World} {base : Nat} {sp : Nat → Bool} {held : Bool} {v : Value} {d : DataW H} {p : List MemPlace} (h : DataW.Trod enc Tryz.prog w base sp held 27 v d p) : p = [] := by
  obtain ⟨n, hn⟩ := h
  exact nil_mark hn
theorem laidOut : laidOutB Tryz.prog = true := by kernel_rfl
/-- What was read before reads so in every world. -/
theorem ear_stays {W W' : World} {v : Value} {d : DataW H} (sp : Nat → Bool) (h : DataW.Trod enc Tryz.prog W 0 (fun _ => true) true 25 v d []) : DataW.Trod enc Tryz.prog W' 0 sp true 25 v d [] :=
  WideElems.Trod_stays laidOut (by kernel_rfl) (of_decide_eq_true (by kernel_rfl)) h (fun _ hp => by cases hp) (fun _ hp => by cases hp)
theorem mark_stays {W W' : World} {v : Value} {d : DataW H} (sp : Nat → Bool) (h : DataW.Trod enc Tryz.prog W 0 (fun _ => true) true 27 v d []) : DataW.Trod enc Tryz.prog W' 0 sp true 27 v d [] :=
  WideElems.Trod_stays laidOut (by kernel_rfl) (of_decide_eq_true (by kernel_rfl)) h (fun _ hp => by cases hp) (fun _ hp => by cases hp)
set_option maxRecDepth 100000 in
theorem int_shape {w : World} {r : Reach} {b : Nat} {v : Value} (h : Value.okWide Tryz.prog w r b 3 v) : ∃ n, v = .int .i64 n := by
  exact okWide_int Tryz.underlying3 h
set_option maxRecDepth 100000 in
theorem nil_int' {w : World} {base : Nat} {sp : Nat → Bool} {held : Bool} {v : Value} {d : DataW H} {p : List MemPlace} (h : DataW.Trod enc Tryz.prog w base sp held 3 v d p) : p = [] := by
  obtain ⟨n, hn⟩ := h
  obtain ⟨m, _, e, _⟩ := DataW.trod_int Tryz.underlying3 hn
  exact (Prod.mk.inj e).2
set_option maxRecDepth 100000 in
theorem int_stays {W W' : World} {v : Value} {d : DataW H} (sp : Nat → Bool) (h : DataW.Trod enc Tryz.prog W 0 (fun _ => true) true 3 v d []) : DataW.Trod enc Tryz.prog W' 0 sp true 3 v d [] :=
  WideElems.Trod_stays laidOut (by kernel_rfl) (of_decide_eq_true (by kernel_rfl)) h (fun _ hp => by cases hp) (fun _ hp => by cases hp)
/-- Arguments without places, below the old heap nothing turned. -/
theorem post_below {P : Program} {f : Func} {s : ChangeSpec} {apart fresh handsOn again : Bool} {W W' : World} {args : Array Value} {v : Value} {ds gs : List (DataW H)}
    (hW : DataW.Whole enc P f.params.toList s.vars apart W args.toList ds gs [])
    (hres : ∀ (b : Nat) (sp : Nat → Bool) (hd : Bool), DataW.TrodAll enc P W' b sp hd f.resultTypes.toList (v.resultList f.resultTypes.size) (s.fn H (ds ++ gs)).results [])
    (hargs : ∀ sp : Nat → Bool, DataW.TrodAll enc P W' 0 sp true f.params.toList args.toList (s.fn H (ds ++ gs)).args [])
    (hvars : ∀ sp : Nat → Bool, DataW.TrodVars enc P W' sp s.vars (s.fn H (ds ++ gs)).vars []) (hk : Below W.heap.size W W')
    (hok : ∀ (j : Nat) (t : TypeId) (r : Value), f.resultTypes[j]? = some t → (v.resultList f.resultTypes.size)[j]? = some r → Value.okWide P W' .any 0 t r) :
    s.post enc P f apart fresh handsOn again W args v W' := by
  refine ⟨ds, gs, [], [], [], [], hW, hres _ _ _, hargs _, hvars _, hk.frame _, fun _ => ?_⟩
  refine ⟨hok, _, _, ([] ++ []) ++ [], ⟨[] ++ [], [], trodAll_append (hargs _) (hres _ _ _), hvars _, rfl, ?_, ?_⟩, ?_⟩
  · intro b off hp; cases hp
  · intro _; exact List.nodup_nil
  · intro p hp _; cases hp
end
theorem laid_tail {P : Program} {x : String × DataW Unit} {rest : List (String × DataW Unit)} {W : World} (h : laidMet P (x :: rest) W) : laidMet P rest W := by
  obtain ⟨ps, ⟨g, t, cs, fuel, p, q, h1, h2, h3, h4, h5, rfl⟩, hn, hc⟩ := h
  exact ⟨q, h5, (List.nodup_append.mp hn).2.1, fun b off hm => hc b off (List.mem_append_right _ hm)⟩

theorem gTab : Tryz.prog.globalNamed "earmark/ear.edgeCounts" = some 0 := by kernel_rfl
set_option maxRecDepth 100000 in
theorem roIn_of {W : World} (h : laidMetH Tryz.prog YtedbdpaioikhgaaGreatDoor.Rows.earChecksRow.laid W) : RoIn [(0, roCells)] W := by
  have h : laidMet Tryz.prog [("math/bits.deBruijn32tab", YtedbdpaioikhgaaGreatDoor.Rows.laid_math_bits_deBruijn32tab), ("math/bits.deBruijn64tab", YtedbdpaioikhgaaGreatDoor.Rows.laid_math_bits_deBruijn64tab), ("internal/strconv.uint64pow10", YtedbdpaioikhgaaGreatDoor.Rows.laid_internal_strconv_uint64pow10), ("earmark/ear.edgeCounts", YtedbdpaioikhgaaGreatDoor.Rows.laid_earmark_ear_edgeCounts)] W := h
  have h := laid_tail (laid_tail (laid_tail h))
  have ht : (Tryz.prog.globals[0]?).map (·.type) = some 84 := by kernel_rfl
  have t : Lib.TabIs Tryz.prog W "earmark/ear.edgeCounts" .i64 [1, 4, 7, 19, 40] := Lib.tabIs_of_head (rest := []) gTab ht (n := 5) (e := 3) (by kernel_rfl) Tryz.underlying3 (by kernel_rfl) (by kernel_rfl) h
  unfold Lib.TabIs World.var? at t
  rw [gTab] at t
  intro k cs hk
  have hk0 : k = 0 ∧ cs = roCells := by
    simp only [List.lookup] at hk
    split at hk
    · rename_i hb; cases hk; exact ⟨by simpa using hb, rfl⟩
    · cases hk
  obtain ⟨rfl, rfl⟩ := hk0
  simp only [Option.bind_some] at t
  split at t
  · rename_i cs e fr hh
    refine ⟨(Array.getElem?_eq_some_iff.1 hh).1, cs, e, fr, hh, ?_⟩
    cases t
    rfl
  · cases t
end Go.Proofs.Z
