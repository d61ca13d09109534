/- A part of the proofs that the laws of layer three answer true for every input. -/
import Derived.Test.YtbacimjjelkfbaaGreatDoorZKJ
import Derived.Test.YtbacimjjelkfbaaGreatDoorCards
import Derived.Test.YtbacimjjelkfbaaGreatDoorTie
import Derived.WalkKit
import Derived.ProofKit
import Derived.OpenShut
import Derived.Deep.DeepHandedRow
import Derived.Lib.LaidTab
import Derived.Lay
namespace Go.Proofs.Z
open Go Go.RowKit Go.Proofs Go.Ri Go.ChangeShapes Go.WideShapes Go.ChangeAt
/-! Arguments that came in; tables that are laid. -/
def boolOf : Value → Bool
  | .bool b => b
  | _ => false
def strOf : Value → ByteArray
  | .string s => s
  | _ => ⟨#[]⟩
/-- What a cell of a type holds. -/
def KindV (t : TypeId) (v : Value) : Prop := (t = 3 → ∃ n, v = .int .i64 n ∧ -9223372036854775808 ≤ n ∧ n ≤ 9223372036854775807) ∧ (t = 4 → ∃ b, v = .bool b)
theorem kind_int {t : TypeId} {v : Value} (h : KindV t v) (ht : t = 3) : v = .int .i64 (intOf v) := by
  obtain ⟨n, rfl, _⟩ := h.1 ht
  rfl
theorem kind_bool {t : TypeId} {v : Value} (h : KindV t v) (ht : t = 4) : v = .bool (boolOf v) := by
  obtain ⟨n, rfl⟩ := h.2 ht
  rfl
section
variable {H : Type} {enc : TypeId × Value → H}
theorem laidOut : laidOutB Tryz.prog = true := by kernel_rfl
theorem cell_int {P : Program} {w : World} {r : Reach} {b : Nat} {t : TypeId} {k : IntKind} {v : Value} (ht : P.underlying t = some (.int k)) (h : Cell.okWide P w r b t v) : ∃ n, v = .int k n ∧ k.has n := by
  simp only [Cell.okWide, ht] at h
  cases v <;> simp_all [Cell.ok]
theorem cell_bool {P : Program} {w : World} {r : Reach} {b : Nat} {t : TypeId} {v : Value} (ht : P.underlying t = some .bool) (h : Cell.okWide P w r b t v) : ∃ n, v = .bool n := by
  simp only [Cell.okWide, ht] at h
  cases v <;> simp_all [Cell.ok]
theorem has_i64 {n : Int} (h : IntKind.i64.has n) : -9223372036854775808 ≤ n ∧ n ≤ 9223372036854775807 := h
set_option maxRecDepth 100000 in
theorem cell_kind {w : World} {r : Reach} {b : Nat} {t : TypeId} {v : Value} (h : Cell.okWide Tryz.prog w r b t v) : KindV t v := by
  refine ⟨fun ht => ?_, fun ht => ?_⟩
  · subst ht
    obtain ⟨n, e, hn⟩ := cell_int Tryz.underlying3 h
    exact ⟨n, e, has_i64 hn⟩
  · subst ht
    exact cell_bool Tryz.underlying4 h
set_option maxRecDepth 100000 in
theorem cells_shape {T : TypeId} {fs : Array Field} {ts : List TypeId} (hu : Tryz.prog.underlying T = some (.struct fs)) (hts' : Tryz.prog.cellTypes Tryz.prog.depth T = some ts) (hn : Tryz.prog.cellsOf T = ts.length)
    {w : World} {r : Reach} {b : Nat} {v : Value} (h : Value.okWide Tryz.prog w r b T v) : ∃ l : List Value, v = .agg l.toArray ∧ l.length = ts.length ∧ ∀ i u, ts[i]? = some u → KindV u (l.getD i undef) := by
  simp only [Value.okWide, hu] at h
  obtain ⟨cs, rfl, hsz, ts', hts, _, hc⟩ := h
  rw [hts'] at hts
  cases hts
  rw [hn] at hsz
  refine ⟨cs.toList, by simp, by simpa using hsz, fun i u hi => ?_⟩
  have hlt : i < ts.length := (List.getElem?_eq_some_iff.1 hi).1
  have hx : cs[i]? = some cs[i] := by simp [hsz, hlt]
  obtain ⟨u', h1, h2⟩ := hc i _ hx
  rw [Nat.mod_eq_of_lt hlt, hi] at h1
  cases h1
  have e : cs.toList.getD i undef = cs[i] := by
    rw [List.getD_eq_getElem?_getD, Array.getElem?_toList, hx]
    rfl
  rw [e]
  exact cell_kind h2
theorem list_eq {l m : List Value} (hn : l.length = m.length) (h : ∀ i, i < m.length → l.getD i undef = m.getD i undef) : l = m := by
  apply List.ext_getElem?
  intro i
  rcases Nat.lt_or_ge i m.length with hi | hi
  · have := h i hi
    rw [List.getD_eq_getElem?_getD, List.getD_eq_getElem?_getD, List.getElem?_eq_getElem hi, List.getElem?_eq_getElem (by omega)] at this
    rw [List.getElem?_eq_getElem hi, List.getElem?_eq_getElem (by omega)]
    exact congrArg some this
  · rw [List.getElem?_eq_none hi, List.getElem?_eq_none (by omega)]
set_option maxRecDepth 100000 in
theorem ear_shape {w : World} {r : Reach} {b : Nat} {v : Value} (h : Value.okWide Tryz.prog w r b 25 v) : ∃ x y, v = earF x y := by
  obtain ⟨l, rfl, hl, hc⟩ := cells_shape (ts := [3, 3, 3, 3, 3, 3, 3, 3, 3, 4, 4, 4]) Tryz.underlying25 (by kernel_rfl) (by kernel_rfl) h
  refine ⟨fun i => intOf (l.getD i undef), fun i => boolOf (l.getD (9 + i) undef), ?_⟩
  unfold earF
  refine congrArg Value.agg (congrArg List.toArray (list_eq hl fun i hi => ?_))
  match i, hi with
  | 0, _ | 1, _ | 2, _ | 3, _ | 4, _ | 5, _ | 6, _ | 7, _ | 8, _ => exact kind_int (hc _ _ rfl) rfl
  | 9, _ | 10, _ | 11, _ => exact kind_bool (hc _ _ rfl) rfl
set_option maxRecDepth 100000 in
theorem bud_shape {w : World} {r : Reach} {b : Nat} {v : Value} (h : Value.okWide Tryz.prog w r b 39 v) : ∃ m c : Int, v = budF m c ∧ -9223372036854775808 ≤ m ∧ m ≤ 9223372036854775807 := by
  obtain ⟨l, rfl, hl, hc⟩ := cells_shape (ts := [3, 3]) Tryz.underlying39 (by kernel_rfl) (by kernel_rfl) h
  refine ⟨intOf (l.getD 0 undef), intOf (l.getD 1 undef), ?_, ?_⟩
  · unfold budF
    refine congrArg Value.agg (congrArg List.toArray (list_eq hl fun i hi => ?_))
    match i, hi with
    | 0, _ | 1, _ => exact kind_int (hc _ _ rfl) rfl
  · obtain ⟨n, hn, h2⟩ := (hc 0 3 rfl).1 rfl
    rw [hn]
    exact h2
/-- Below the old heap nothing turned: whatever places the arguments have. -/
theorem post_belowP {P : Program} {f : Func} {s : ChangeSpec} {apart fresh handsOn again : Bool} {W W' : World} {args : Array Value} {v : Value} {ds gs : List (DataW H)} {before pa pv : List MemPlace}
    (hW : DataW.Whole enc P f.params.toList s.vars apart W args.toList ds gs before)
    (hres : ∀ (b : Nat) (sp : Nat → Bool) (hd : Bool), DataW.TrodAll enc P W' b sp hd f.resultTypes.toList (v.resultList f.resultTypes.size) (s.fn H (ds ++ gs)).results [])
    (hargs : ∀ sp : Nat → Bool, (∀ p ∈ before, sp p.block = true) → DataW.TrodAll enc P W' 0 sp true f.params.toList args.toList (s.fn H (ds ++ gs)).args pa)
    (hvars : ∀ sp : Nat → Bool, (∀ p ∈ before, sp p.block = true) → DataW.TrodVars enc P W' sp s.vars (s.fn H (ds ++ gs)).vars pv)
    (hps : before = pa ++ pv) (hk : Below W.heap.size W W')
    (hok : ∀ (j : Nat) (t : TypeId) (r : Value), f.resultTypes[j]? = some t → (v.resultList f.resultTypes.size)[j]? = some r → Value.okWide P W' .any 0 t r) :
    s.post enc P f apart fresh handsOn again W args v W' := by
  have hlt := hW.lt
  have hold : ∀ p ∈ before, (fun b => decide (b < W.heap.size)) p.block = true := fun p hp => by simpa using hlt p hp
  refine ⟨ds, gs, before, [], pa, pv, hW, hres _ _ _, hargs _ hold, hvars _ hold, hk.frame _, fun _ => ?_⟩
  obtain ⟨_, _, _, _, _, hz, hn⟩ := hW
  refine ⟨hok, _, _, ([] ++ pa) ++ pv, ⟨[] ++ pa, pv, trodAll_append (hargs _ (fun _ _ => rfl)) (hres _ _ _), hvars _ (fun _ _ => rfl), rfl, ?_, ?_⟩, ?_⟩
  · intro b off hp
    have hp' : MemPlace.cell b off ∈ before := by rw [hps]; simpa using hp
    rw [hk.frozen (hlt _ hp')]
    exact hz b off hp'
  · intro ha
    have := hn ha
    rw [hps] at this
    simpa using this
  · intro p hp _
    rw [hps]
    simpa using hp
theorem arg_stays {t : TypeId} (hr : Tryz.prog.readableRec t = true) (hrow : t < Tryz.prog.types.size) {W W' : World} {v : Value} {d : DataW H} {ps : List MemPlace} (sp : Nat → Bool) (hk : Below W.heap.size W W') (hlt : ∀ p ∈ ps, p.block < W.heap.size) (hs : ∀ p ∈ ps, sp p.block = true)
    (h : DataW.Trod enc Tryz.prog W 0 (fun _ => true) true t v d ps) : DataW.Trod enc Tryz.prog W' 0 sp true t v d ps :=
  WideElems.Trod_stays laidOut hr hrow h (fun p hp => hk.same (hlt p hp)) hs
/-- A struct of whole numbers: its cells. -/
theorem trod_intsN {W : World} {fuel : Nat} {cs : List Value} {x : DataW H × List MemPlace} {sp : Nat → Bool} {t : TypeId} {fs : Array Field} (hu : Tryz.prog.underlying t = some (.struct fs)) (n : Nat) (hn : fs.size = n) (hf : ∀ i, i < n → (fs.toList.map fun f => (f.type, f.offset))[i]? = some (3, i))
    (h : DataW.trod enc Tryz.prog W 0 sp true fuel t cs = some x) : ∀ r, r < n → ∃ z, cs[r]? = some (.int .i64 z) := by
  have c3 : Tryz.prog.cellsOf 3 = 1 := by kernel_rfl
  obtain ⟨xs, m, _, rfl, _, hxl, hx⟩ := DataW.trod_struct hu h
  have hxl : xs.length = n := by rw [hxl]; simpa using hn
  intro r hr
  have e := hf r hr
  rw [List.getElem?_map] at e
  cases hfr : fs.toList[r]? with
  | none => rw [hfr] at e; cases e
  | some f =>
    rw [hfr] at e
    simp only [Option.map_some, Option.some.injEq, Prod.mk.injEq] at e
    have h1 : DataW.trod enc Tryz.prog W 0 sp true m f.type ((cs.drop f.offset).take (Tryz.prog.cellsOf f.type)) = xs[r]? := hx r f (by rw [← Array.getElem?_toList]; exact hfr)
    rw [e.1, e.2, c3] at h1
    have hxr : ∃ y, xs[r]? = some y := ⟨_, List.getElem?_eq_getElem (by omega)⟩
    obtain ⟨y, hy⟩ := hxr
    rw [hy] at h1
    obtain ⟨z, hcs, _⟩ := DataW.trod_int Tryz.underlying3 h1
    refine ⟨z, ?_⟩
    have := congrArg (fun l => l[0]?) hcs
    simpa [List.getElem?_take, List.getElem?_drop] using this
set_option maxRecDepth 100000 in
/-- A slice of rows that came in. -/
theorem rows_open {W : World} {v : Value} {x : DataW H × List MemPlace} {fuel : Nat} {sp : Nat → Bool} {t te : TypeId} (s : Nat) (hs : 0 < s) (Q : Nat → Value → Prop) (ht : Tryz.prog.underlying t = some (.slice te)) (cs0 : Tryz.prog.cellsOf te = s)
    (hrow : ∀ fuel cs y, DataW.trod enc Tryz.prog W 0 sp true fuel te cs = some y → ∀ r, r < s → ∃ z, cs[r]? = some z ∧ Q r z) (hf : DataW.trod enc Tryz.prog W 0 sp true fuel t [v] = some x) :
    ∃ oa n cap l, v = .slice oa n cap ∧ (∀ j u, l[j]? = some u → Q (j % s) u) ∧ l.length = n * s ∧ n ≤ 9223372036854775807 ∧ n ≤ cap ∧ (l ≠ [] → ∃ a : Addr, oa = some a ∧ a.block < W.heap.size) ∧ ∀ a, oa = some a → ∀ j u, l[j]? = some u → W.cell? (a.add j) = some u := by
  obtain ⟨d, p⟩ := x
  rcases DataW.trod_slice ht hf with ⟨h0, _⟩ | ⟨a, len, cap, elems, rest, n, _, hcs, _, _, hl, hmx, hlen, hel, _⟩
  · obtain rfl : v = .slice none 0 0 := by simpa using h0
    exact ⟨none, 0, 0, [], rfl, (fun j u hj => by cases hj), by simp, by omega, Nat.le_refl _, fun h => absurd rfl h, fun a ha => by cases ha⟩
  · have hcs : v = .slice (some a) len cap := by simpa using hcs
    rw [hcs]
    rw [cs0] at hel
    have cell : ∀ j, j < len * s → ∃ z, W.cell? (a.add j) = some z ∧ Q (j % s) z := by
      intro j hj
      have hi : j / s < len := (Nat.div_lt_iff_lt_mul hs).2 hj
      have hr : j % s < s := Nat.mod_lt _ hs
      have h1 := hel (j / s) hi
      rw [List.getElem?_eq_getElem (by omega)] at h1
      rw [Option.bind_eq_some_iff] at h1
      obtain ⟨cs, h2, h3⟩ := h1
      obtain ⟨_, _, h5⟩ := World.cells?_some h2
      obtain ⟨z, hz, hq⟩ := hrow _ _ _ h3 (j % s) hr
      have h6 := h5 (j % s) hr
      rw [add_add, hz, show j / s * s + j % s = j by rw [Nat.mul_comm]; exact Nat.div_add_mod j s] at h6
      exact ⟨z, h6, hq⟩
    have h63 : maxLen = 9223372036854775807 := by unfold maxLen; omega
    refine ⟨some a, len, cap, (List.range (len * s)).map fun j => (W.cell? (a.add j)).getD undef, rfl, ?_, by simp, by omega, hl, ?_, ?_⟩
    · intro j v hv
      rw [List.getElem?_map] at hv
      rcases Nat.lt_or_ge j (len * s) with hlt | hge
      · rw [List.getElem?_range hlt] at hv
        obtain ⟨z, hz, hq⟩ := cell j hlt
        simp only [Option.map_some, hz, Option.getD_some, Option.some.injEq] at hv
        rw [← hv]
        exact hq
      · rw [List.getElem?_eq_none (by simpa using hge)] at hv
        cases hv
    · intro hne
      have hpos : 0 < len * s := by
        rcases Nat.eq_zero_or_pos (len * s) with h | h
        · rw [h] at hne
          exact absurd rfl hne
        · exact h
      obtain ⟨z, hz, _⟩ := cell 0 hpos
      have : a.add 0 = a := by simp [Addr.add]
      rw [this] at hz
      refine ⟨a, rfl, ?_⟩
      unfold World.cell? at hz
      split at hz
      · rename_i hh
        exact (Array.getElem?_eq_some_iff.1 hh).1
      · cases hz
    · intro a' ha' j u hj
      cases ha'
      rw [List.getElem?_map] at hj
      rcases Nat.lt_or_ge j (len * s) with hlt | hge
      · rw [List.getElem?_range hlt] at hj
        obtain ⟨z, hz, _⟩ := cell j hlt
        simp only [Option.map_some, hz, Option.getD_some, Option.some.injEq] at hj
        rw [hz, hj]
      · rw [List.getElem?_eq_none (by simpa using hge)] at hj
        cases hj
theorem ints_of {l : List Value} (h : ∀ (j : Nat) (u : Value), l[j]? = some u → ∃ z, u = Value.int .i64 z) : ints l := by
  intro v hv
  obtain ⟨j, hj⟩ := List.mem_iff_getElem?.mp hv
  exact h j v hj
set_option maxRecDepth 100000 in
/-- Cuts that came in. -/
theorem cuts_open {W : World} {v : Value} {d : DataW H} {p : List MemPlace} {r : Reach} {b : Nat} (hv : Value.okWide Tryz.prog W r b 29 v) (h : DataW.Trod enc Tryz.prog W 0 (fun _ => true) true 29 v d p) :
    ∃ l n, ints l ∧ l.length = n * 4 ∧ n ≤ 9223372036854775807 ∧ ∀ (V : Val) i, V.L i = l → ∀ b, @Go.Ri.NVal V W (.slN b i 4) v := by
  obtain ⟨a0, n0, c0, rfl⟩ := okWide_slice Tryz.underlying29 hv
  obtain ⟨fuel, hf⟩ := h
  obtain ⟨oa, n, cap, l, g1, g2, g3, gm, g4, g5, g6⟩ := rows_open (W := W) (v := .slice a0 n0 c0) 4 (by decide) (fun _ u => ∃ z, u = Value.int .i64 z) Tryz.underlying29 (by kernel_rfl) (fun fuel cs y hy r hr => by
    obtain ⟨z, hz⟩ := trod_intsN Tryz.underlying27 4 rfl (by intro i hi; match i, hi with | 0, _ => rfl | 1, _ => rfl | 2, _ => rfl | 3, _ => rfl) hy r hr
    exact ⟨_, hz, z, rfl⟩) (show DataW.trod enc Tryz.prog W 0 (fun _ => true) true fuel 29 [.slice a0 n0 c0] = some _ from hf)
  refine ⟨l, n, ints_of g2, g3, gm, fun V i hL b => ⟨oa, n, cap, g1, ?_, by decide, ?_, g4, ?_⟩⟩
  · rw [hL]; exact g5
  · rw [hL]; exact g3
  · rw [hL]; exact g6
end
/-! The tables. -/
theorem laid_tail {P : Program} {x : String × DataW Unit} {rest : List (String × DataW Unit)} {W : World} (h : laidMet P (x :: rest) W) : laidMet P rest W := by
  obtain ⟨ps, ⟨g, t, cs, fuel, p, q, h1, h2, h3, h4, h5, rfl⟩, hn, hc⟩ := h
  exact ⟨q, h5, (List.nodup_append.mp hn).2.1, fun b off hm => hc b off (List.mem_append_right _ hm)⟩
theorem row_int {k : IntKind} : ∀ zs : List Int, isIfRow (zs.map fun z => Value.int k z) = false
  | [] => rfl
  | [_] => rfl
  | _ :: _ :: _ => rfl
theorem tab_row {W : World} {name : String} {k : IntKind} {zs : List Int} {g : Nat} (hg : Tryz.prog.globalNamed name = some g) (t : Lib.TabIs Tryz.prog W name k zs) (hz : zs ≠ []) : g < W.heap.size ∧ ∃ cur e fr, W.heap[g]? = some (.cells cur e fr) ∧ RoEq cur.toList (zs.map fun z => Value.int k z) := by
  unfold Lib.TabIs World.var? at t
  rw [hg] at t
  simp only [Option.bind_some] at t
  split at t
  · rename_i cs e fr hh
    refine ⟨(Array.getElem?_eq_some_iff.1 hh).1, cs, e, fr, hh, .inl ⟨?_, by simpa using hz, row_int zs⟩⟩
    have := Option.some.inj t
    rw [this]
  · cases t
/-- The head of a list of tables: its cells read as told. -/
theorem head_cells {P : Program} {W : World} {name : String} {d : DataW Unit} {rest : List (String × DataW Unit)} {g : Nat} {t : TypeId} (hg : P.globalNamed name = some g) (hty : (P.globals[g]?).map (·.type) = some t) (h : laidMet P ((name, d) :: rest) W) :
    g < W.heap.size ∧ ∃ cs e fr fuel p, W.heap[g]? = some (.cells cs e fr) ∧ DataW.trod (fun _ => ()) P W 0 (fun _ => true) false fuel t cs.toList = some (d, p) := by
  obtain ⟨ps, ⟨g', t', cs, fuel, p, q, hg', ht', hvar, hd, _, _⟩, _⟩ := h
  obtain rfl := Option.some.inj (hg.symm.trans hg')
  obtain rfl := Option.some.inj (hty.symm.trans ht')
  unfold World.var? at hvar
  rw [hg] at hvar
  simp only [Option.bind_some] at hvar
  split at hvar
  · rename_i cs' e fr hh
    cases hvar
    exact ⟨(Array.getElem?_eq_some_iff.1 hh).1, _, e, fr, fuel, p, hh, hd⟩
  · cases hvar
def litV : DataW Unit → List Value
  | .lit (.int k n) => [.int k n]
  | .lit (.string s) => [.string ⟨s.toArray⟩]
  | _ => [undef]
theorem trod_lit {W : World} {fuel : Nat} {t : TypeId} {cs : List Value} {x : DataW Unit × List MemPlace} (ht : Tryz.prog.underlying t = some .string ∨ Tryz.prog.underlying t = some (.int .i64)) (h : DataW.trod (fun _ => ()) Tryz.prog W 0 (fun _ => true) false fuel t cs = some x) : cs = litV x.1 := by
  rcases ht with ht | ht
  · obtain ⟨s, rfl, rfl, _⟩ := DataW.trod_string ht h
    rfl
  · obtain ⟨n, rfl, rfl, _⟩ := DataW.trod_int ht h
    rfl
theorem cat_rows {α : Type} (s : Nat) (f : α → List Value) : ∀ (ys : List α) (c : List Value), c.length = ys.length * s → (∀ i, i < ys.length → ∃ y, ys[i]? = some y ∧ (c.drop (i * s)).take s = f y) → c = ys.flatMap f
  | [], c, hc, _ => List.length_eq_zero_iff.1 (by simpa using hc)
  | y :: ys, c, hc, h => by
    obtain ⟨y', h1, h2⟩ := h 0 (by simp)
    cases h1
    have h2 : c.take s = f y := by simpa using h2
    have := cat_rows s f ys (c.drop s) (by rw [List.length_drop, hc, List.length_cons, Nat.add_mul, Nat.one_mul]; omega) (fun i hi => by
      obtain ⟨y', h1, h2⟩ := h (i + 1) (by simpa using hi)
      refine ⟨y', by simpa using h1, ?_⟩
      rw [List.drop_drop, ← h2]
      congr 2
      rw [Nat.add_mul]
      omega)
    rw [List.flatMap_cons, ← h2, ← this, List.take_append_drop]
theorem words_row {W : World} {fuel : Nat} {t e : TypeId} {n : Nat} {cs : List Value} {ds : List (DataW Unit)} {p : List MemPlace} (ht : Tryz.prog.underlying t = some (.array n e)) (he : Tryz.prog.underlying e = some .string) (ce : Tryz.prog.cellsOf e = 1) (ct : Tryz.prog.cellsOf t = n)
    (h : DataW.trod (fun _ => ()) Tryz.prog W 0 (fun _ => true) false fuel t cs = some (.agg ds, p)) : cs = ds.flatMap litV := by
  obtain ⟨xs, m, _, hx, hl, hxl, hel⟩ := DataW.trod_array ht h
  have hd : ds = xs.map (·.1) := DataW.agg.inj (congrArg Prod.fst hx)
  rw [ce] at hel
  have := cat_rows 1 (fun y : DataW Unit × List MemPlace => litV y.1) xs cs (by omega) (fun i hi => by
    have h1 := hel i (by omega)
    rw [List.getElem?_eq_getElem hi] at h1
    exact ⟨xs[i], List.getElem?_eq_getElem hi, trod_lit (.inl he) h1⟩)
  rw [this, hd, List.flatMap_map]
def aggV : DataW Unit → List Value
  | .agg l => l.flatMap litV
  | _ => []
/-- Rows of a string and two numbers. -/
theorem kinds_row {W : World} {fuel : Nat} {t e : TypeId} {n : Nat} {fs : Array Field} {cs : List Value} {ds : List (DataW Unit)} {p : List MemPlace} (ht : Tryz.prog.underlying t = some (.array n e)) (he : Tryz.prog.underlying e = some (.struct fs)) (hfs : (fs.toList.map fun f => (f.type, f.offset)) = [(9, 0), (3, 1), (3, 2)]) (ce : Tryz.prog.cellsOf e = 3) (ct : Tryz.prog.cellsOf t = n * 3)
    (h : DataW.trod (fun _ => ()) Tryz.prog W 0 (fun _ => true) false fuel t cs = some (.agg ds, p)) : cs = ds.flatMap aggV := by
  have c3 : Tryz.prog.cellsOf 3 = 1 := by kernel_rfl
  have c9 : Tryz.prog.cellsOf 9 = 1 := by kernel_rfl
  obtain ⟨xs, m, _, hx, hl, hxl, hel⟩ := DataW.trod_array ht h
  have hd : ds = xs.map (·.1) := DataW.agg.inj (congrArg Prod.fst hx)
  rw [ce] at hel
  have := cat_rows 3 (fun y : DataW Unit × List MemPlace => aggV y.1) xs cs (by omega) (fun i hi => by
    have h1 := hel i (by omega)
    rw [List.getElem?_eq_getElem hi] at h1
    refine ⟨xs[i], List.getElem?_eq_getElem hi, ?_⟩
    obtain ⟨ys, m2, _, hy, hyl, hys, hye⟩ := DataW.trod_struct he h1
    have hn : fs.size = 3 := by
      have := congrArg List.length hfs
      simpa using this
    rw [ce] at hyl
    have fld : ∀ j, j < 3 → ∃ f, fs[j]? = some f ∧ (f.type, f.offset) = [(9, 0), (3, 1), (3, 2)].getD j (0, 0) := fun j hj => by
      have h2 : (fs.toList.map fun f => (f.type, f.offset))[j]? = [(9, 0), (3, 1), (3, 2)][j]? := by rw [hfs]
      rw [List.getElem?_map, Array.getElem?_toList, Array.getElem?_eq_getElem (by omega)] at h2
      refine ⟨fs[j], Array.getElem?_eq_getElem (by omega), ?_⟩
      match j, hj with
      | 0, _ | 1, _ | 2, _ => exact Option.some.inj h2
    have hc := cat_rows 1 (fun y : DataW Unit × List MemPlace => litV y.1) ys ((cs.drop (i * 3)).take 3) (by omega) (fun j hj => by
      have hj : j < 3 := by omega
      obtain ⟨f, hf, hf2⟩ := fld j hj
      have h3 := hye j f hf
      rw [List.getElem?_eq_getElem (by omega)] at h3
      refine ⟨ys[j], List.getElem?_eq_getElem (by omega), ?_⟩
      match j, hj with
      | 0, _ =>
        obtain ⟨e1, e2⟩ := Prod.mk.inj hf2
        rw [e1, e2, c9] at h3
        exact trod_lit (.inl Tryz.underlying9) h3
      | 1, _ | 2, _ =>
        obtain ⟨e1, e2⟩ := Prod.mk.inj hf2
        rw [e1, e2, c3] at h3
        exact trod_lit (.inr Tryz.underlying3) h3)
    rw [hc, hy]
    show _ = (ys.map (·.1)).flatMap litV
    rw [List.flatMap_map])
  rw [this, hd, List.flatMap_map]
theorem gTip : Tryz.prog.globalNamed "earmark/knife.tipWords" = some 0 := by kernel_rfl
theorem gEdge : Tryz.prog.globalNamed "earmark/knife.edgeWords" = some 1 := by kernel_rfl
theorem gSlot : Tryz.prog.globalNamed "earmark/knife.slotWords" = some 2 := by kernel_rfl
theorem gKind : Tryz.prog.globalNamed "earmark/weather.kinds" = some 3 := by kernel_rfl
theorem gPow : Tryz.prog.globalNamed "internal/strconv.uint64pow10" = some 4 := by kernel_rfl
theorem gDeb : Tryz.prog.globalNamed "math/bits.deBruijn32tab" = some 6 := by kernel_rfl
theorem row_str (a b : Value) (l : List Value) : isIfRow (a :: b :: l) = false := by
  cases a <;> rfl
set_option maxRecDepth 100000 in
theorem roIn_of {W : World} (h : laidMetH Tryz.prog YtbacimjjelkfbaaGreatDoor.Rows.knifeCutsRow.laid W) : RoIn ro W := by
  have h0 : laidMet Tryz.prog [("math/bits.deBruijn32tab", YtbacimjjelkfbaaGreatDoor.Rows.laid_math_bits_deBruijn32tab), ("math/bits.deBruijn64tab", YtbacimjjelkfbaaGreatDoor.Rows.laid_math_bits_deBruijn64tab), ("internal/strconv.uint64pow10", YtbacimjjelkfbaaGreatDoor.Rows.laid_internal_strconv_uint64pow10), ("earmark/weather.kinds", YtbacimjjelkfbaaGreatDoor.Rows.laid_earmark_weather_kinds), ("earmark/knife.tipWords", YtbacimjjelkfbaaGreatDoor.Rows.laid_earmark_knife_tipWords), ("earmark/knife.slotWords", YtbacimjjelkfbaaGreatDoor.Rows.laid_earmark_knife_slotWords), ("earmark/knife.edgeWords", YtbacimjjelkfbaaGreatDoor.Rows.laid_earmark_knife_edgeWords)] W := h
  have h2 := laid_tail (laid_tail h0)
  have h3 := laid_tail h2
  have h4 := laid_tail h3
  have h5 := laid_tail h4
  have h6 := laid_tail h5
  have u5 : Tryz.prog.underlying 5 = some (.int .u8) := by kernel_rfl
  have u64 : Tryz.prog.underlying 228 = some (.int .u64) := by kernel_rfl
  have t6 : Lib.TabIs Tryz.prog W "math/bits.deBruijn32tab" .u8 deBr := Lib.tabIs_of_head gDeb (t := 267) (by kernel_rfl) (n := 32) (e := 5) (by kernel_rfl) u5 (by kernel_rfl) (by kernel_rfl) h0
  have t4 : Lib.TabIs Tryz.prog W "internal/strconv.uint64pow10" .u64 Lib.pow10Tab := Lib.tabIs_of_head gPow (t := 251) (by kernel_rfl) (n := 20) (e := 228) (by kernel_rfl) u64 (by kernel_rfl) (by kernel_rfl) h2
  have key : ∀ k cs, ro.lookup k = some cs → (k = 0 ∧ cs = roCells) ∨ (k = 1 ∧ cs = roEdge) ∨ (k = 2 ∧ cs = roSlot) ∨ (k = 3 ∧ cs = roKinds) ∨ (k = 4 ∧ cs = powCells) ∨ (k = 6 ∧ cs = deCells) := by
    intro k cs hk
    simp only [List.lookup] at hk
    repeat' split at hk
    all_goals first
      | (cases hk; rename_i hb; simp only [beq_iff_eq] at hb; simp [hb]; done)
      | (cases hk; done)
  intro k cs hk
  rcases key k cs hk with ⟨rfl, rfl⟩ | ⟨rfl, rfl⟩ | ⟨rfl, rfl⟩ | ⟨rfl, rfl⟩ | ⟨rfl, rfl⟩ | ⟨rfl, rfl⟩
  · obtain ⟨hlt, cur, e, fr, fuel, p, hh, ht⟩ := head_cells gTip (t := 147) (by kernel_rfl) h4
    refine ⟨hlt, cur, e, fr, hh, .inl ⟨?_, by simp [roCells], row_str _ _ _⟩⟩
    rw [words_row (n := 5) (e := 9) (by kernel_rfl) Tryz.underlying9 (by kernel_rfl) (by kernel_rfl) ht]
    rfl
  · obtain ⟨hlt, cur, e, fr, fuel, p, hh, ht⟩ := head_cells gEdge (t := 151) (by kernel_rfl) h6
    refine ⟨hlt, cur, e, fr, hh, .inl ⟨?_, by simp [roEdge], row_str _ _ _⟩⟩
    rw [words_row (n := 2) (e := 9) (by kernel_rfl) Tryz.underlying9 (by kernel_rfl) (by kernel_rfl) ht]
    rfl
  · obtain ⟨hlt, cur, e, fr, fuel, p, hh, ht⟩ := head_cells gSlot (t := 153) (by kernel_rfl) h5
    refine ⟨hlt, cur, e, fr, hh, .inl ⟨?_, by simp [roSlot], row_str _ _ _⟩⟩
    rw [words_row (n := 4) (e := 9) (by kernel_rfl) Tryz.underlying9 (by kernel_rfl) (by kernel_rfl) ht]
    rfl
  · obtain ⟨hlt, cur, e, fr, fuel, p, hh, ht⟩ := head_cells gKind (t := 156) (by kernel_rfl) h3
    refine ⟨hlt, cur, e, fr, hh, .inl ⟨?_, by simp [roKinds], row_str _ _ _⟩⟩
    rw [kinds_row (n := 8) (e := 155) (by kernel_rfl) Tryz.underlying155 rfl (by kernel_rfl) (by kernel_rfl) ht]
    rfl
  · exact tab_row gPow t4 (by decide)
  · exact tab_row gDeb t6 (by decide)
/-- 'There is an input that fits', at a world that is laid by a function. -/
theorem witness_zip {H : Type} {enc : TypeId × Value → H} {C : Checked} {os : Os} {f : FuncId} {fn : Func} {s : OpenSpec} {conds : List PathCond} {apart : Bool} {laid : List (String × DataW Unit)} (modest : Bool) (w0 : World) (args : Array Value) (hos : w0.os = os)
    (hv : (w0.forCall (fun _ _ => 0) ⟨#[], args, []⟩).variablesZipB C.prog = true)
    (hr : ((w0.forCall (fun _ _ => 0) ⟨#[], args, []⟩).heap.toList.drop C.prog.globals.size).take ((begin C.prog (fun _ _ => 0) default).world.heap.size - C.prog.globals.size) =
      (begin C.prog (fun _ _ => 0) default).world.heap.toList.drop C.prog.globals.size)
    (hok : Input.okWideB C.prog (w0.forCall (fun _ _ => 0) ⟨#[], args, []⟩) f ⟨#[], args, []⟩ = true)
    (hrow : s.preRow enc C.prog fn conds apart laid (w0.forCall (fun _ _ => 0) ⟨#[], args, []⟩).memory args) :
    ∃ (w : World) (tape : Tape) (i : Input), w.os = os ∧ (w.forCall tape i).Shaped C.prog ∧ i.vars = [] ∧ Input.okWide C.prog (w.forCall tape i) .any w.heap.size f i ∧
      s.preRow enc C.prog fn conds apart laid (w.forCall tape i).memory i.args ∧ ({ modest := modest } : Assume).holds C.prog (lone (Frame.enter C.prog f i.args .normal) [] (w.forCall tape i)) := by
  refine ⟨w0, fun _ _ => 0, ⟨#[], args, []⟩, hos, World.shaped_of_ZipB hv hr, (Input.okWide_of_okWideB (base := 0) hok).1, (Input.okWide_of_okWideB hok).2, hrow, ?_⟩
  simp only [Assume.holds]
  exact ⟨by simp, by simp, fun _ => Modest.zero, by simp, by simp⟩
end Go.Proofs.Z
