/- A part of the proofs that the laws of layer four answer true for every input. -/
import Derived.Test.YtjjmnoiiihcoiaaGreatDoorZGH
import Derived.Test.YtjjmnoiiihcoiaaGreatDoorCards
import Derived.Test.YtjjmnoiiihcoiaaGreatDoorTie
import Derived.WalkKit
import Derived.ProofKit
import Derived.OpenShut
import Derived.Deep.DeepHandedRow
import Derived.Lib.LaidTab
import Derived.Lay
namespace Go.Proofs.Z
open Go Go.RowKit Go.Proofs Go.Ri Go.ChangeShapes Go.WideShapes Go.ChangeAt
section
variable {H : Type} {enc : TypeId × Value → H}
theorem laidOut : laidOutB Tryz.prog = true := by kernel_rfl
set_option maxRecDepth 100000 in
theorem int_shape {w : World} {r : Reach} {b : Nat} {v : Value} (h : Value.okWide Tryz.prog w r b 3 v) : ∃ n, v = .int .i64 n := by
  exact okWide_int Tryz.underlying3 h
set_option maxRecDepth 100000 in
theorem nil_int' {w : World} {base : Nat} {sp : Nat → Bool} {held : Bool} {v : Value} {d : DataW H} {p : List MemPlace} (h : DataW.Trod enc Tryz.prog w base sp held 3 v d p) : p = [] := by
  obtain ⟨n, hn⟩ := h
  obtain ⟨m, _, e, _⟩ := DataW.trod_int Tryz.underlying3 hn
  exact (Prod.mk.inj e).2
set_option maxRecDepth 100000 in
theorem int_stays {W W' : World} {v : Value} {d : DataW H} (sp : Nat → Bool) (h : DataW.Trod enc Tryz.prog W 0 (fun _ => true) true 3 v d []) : DataW.Trod enc Tryz.prog W' 0 sp true 3 v d [] :=
  WideElems.Trod_stays laidOut (by kernel_rfl) (of_decide_eq_true (by kernel_rfl)) h (fun _ hp => by cases hp) (fun _ hp => by cases hp)
/-- Below the old heap nothing turned: whatever places the arguments have. -/
theorem post_belowP {P : Program} {f : Func} {s : ChangeSpec} {apart fresh handsOn again : Bool} {W W' : World} {args : Array Value} {v : Value} {ds gs : List (DataW H)} {before pa pv : List MemPlace}
    (hW : DataW.Whole enc P f.params.toList s.vars apart W args.toList ds gs before)
    (hres : ∀ (b : Nat) (sp : Nat → Bool) (hd : Bool), DataW.TrodAll enc P W' b sp hd f.resultTypes.toList (v.resultList f.resultTypes.size) (s.fn H (ds ++ gs)).results [])
    (hargs : ∀ sp : Nat → Bool, (∀ p ∈ before, sp p.block = true) → DataW.TrodAll enc P W' 0 sp true f.params.toList args.toList (s.fn H (ds ++ gs)).args pa)
    (hvars : ∀ sp : Nat → Bool, (∀ p ∈ before, sp p.block = true) → DataW.TrodVars enc P W' sp s.vars (s.fn H (ds ++ gs)).vars pv)
    (hps : before = pa ++ pv) (hk : Below W.heap.size W W')
    (hok : ∀ (j : Nat) (t : TypeId) (r : Value), f.resultTypes[j]? = some t → (v.resultList f.resultTypes.size)[j]? = some r → Value.okWide P W' .any 0 t r) :
    s.post enc P f apart fresh handsOn again W args v W' := by
  have hlt := hW.lt
  have hold : ∀ p ∈ before, (fun b => decide (b < W.heap.size)) p.block = true := fun p hp => by simpa using hlt p hp
  refine ⟨ds, gs, before, [], pa, pv, hW, hres _ _ _, hargs _ hold, hvars _ hold, hk.frame _, fun _ => ?_⟩
  obtain ⟨_, _, _, _, _, hz, hn⟩ := hW
  refine ⟨hok, _, _, ([] ++ pa) ++ pv, ⟨[] ++ pa, pv, trodAll_append (hargs _ (fun _ _ => rfl)) (hres _ _ _), hvars _ (fun _ _ => rfl), rfl, ?_, ?_⟩, ?_⟩
  · intro b off hp
    have hp' : MemPlace.cell b off ∈ before := by rw [hps]; simpa using hp
    rw [hk.frozen (hlt _ hp')]
    exact hz b off hp'
  · intro ha
    have := hn ha
    rw [hps] at this
    simpa using this
  · intro p hp _
    rw [hps]
    simpa using hp
theorem slice_stays {t : TypeId} (hr : Tryz.prog.readableRec t = true) (hrow : t < Tryz.prog.types.size) {W W' : World} {v : Value} {d : DataW H} {ps : List MemPlace} (sp : Nat → Bool) (hk : Below W.heap.size W W') (hlt : ∀ p ∈ ps, p.block < W.heap.size) (hs : ∀ p ∈ ps, sp p.block = true)
    (h : DataW.Trod enc Tryz.prog W 0 (fun _ => true) true t v d ps) : DataW.Trod enc Tryz.prog W' 0 sp true t v d ps :=
  WideElems.Trod_stays laidOut hr hrow h (fun p hp => hk.same (hlt p hp)) hs
/-- A struct of whole numbers: its cells. -/
theorem trod_intsN {W : World} {fuel : Nat} {cs : List Value} {x : DataW H × List MemPlace} {sp : Nat → Bool} {t : TypeId} {fs : Array Field} (hu : Tryz.prog.underlying t = some (.struct fs)) (n : Nat) (hn : fs.size = n) (hf : ∀ i, i < n → (fs.toList.map fun f => (f.type, f.offset))[i]? = some (3, i))
    (h : DataW.trod enc Tryz.prog W 0 sp true fuel t cs = some x) : ∀ r, r < n → ∃ z, cs[r]? = some (.int .i64 z) := by
  have c3 : Tryz.prog.cellsOf 3 = 1 := by kernel_rfl
  obtain ⟨xs, m, _, rfl, _, hxl, hx⟩ := DataW.trod_struct hu h
  have hxl : xs.length = n := by rw [hxl]; simpa using hn
  intro r hr
  have e := hf r hr
  rw [List.getElem?_map] at e
  cases hfr : fs.toList[r]? with
  | none => rw [hfr] at e; cases e
  | some f =>
    rw [hfr] at e
    simp only [Option.map_some, Option.some.injEq, Prod.mk.injEq] at e
    have h1 : DataW.trod enc Tryz.prog W 0 sp true m f.type ((cs.drop f.offset).take (Tryz.prog.cellsOf f.type)) = xs[r]? := hx r f (by rw [← Array.getElem?_toList]; exact hfr)
    rw [e.1, e.2, c3] at h1
    have hxr : ∃ y, xs[r]? = some y := ⟨_, List.getElem?_eq_getElem (by omega)⟩
    obtain ⟨y, hy⟩ := hxr
    rw [hy] at h1
    obtain ⟨z, hcs, _⟩ := DataW.trod_int Tryz.underlying3 h1
    refine ⟨z, ?_⟩
    have := congrArg (fun l => l[0]?) hcs
    simpa [List.getElem?_take, List.getElem?_drop] using this
set_option maxRecDepth 100000 in
/-- A slice of rows of whole numbers that came in. -/
theorem rows_open {W : World} {v : Value} {x : DataW H × List MemPlace} {fuel : Nat} {sp : Nat → Bool} {t te : TypeId} (s : Nat) (hs : 0 < s) (ht : Tryz.prog.underlying t = some (.slice te)) (cs0 : Tryz.prog.cellsOf te = s)
    (hrow : ∀ fuel cs y, DataW.trod enc Tryz.prog W 0 sp true fuel te cs = some y → ∀ r, r < s → ∃ z, cs[r]? = some (.int .i64 z)) (hf : DataW.trod enc Tryz.prog W 0 sp true fuel t [v] = some x) :
    ∃ oa n cap l, v = .slice oa n cap ∧ ints l ∧ l.length = n * s ∧ n ≤ cap ∧ (l ≠ [] → ∃ a : Addr, oa = some a ∧ a.block < W.heap.size) ∧ ∀ a, oa = some a → ∀ j u, l[j]? = some u → W.cell? (a.add j) = some u := by
  obtain ⟨d, p⟩ := x
  rcases DataW.trod_slice ht hf with ⟨h0, _⟩ | ⟨a, len, cap, elems, rest, n, _, hcs, _, _, hl, _, hlen, hel, _⟩
  · obtain rfl : v = .slice none 0 0 := by simpa using h0
    exact ⟨none, 0, 0, [], rfl, (fun v hv => by cases hv), by simp, Nat.le_refl _, fun h => absurd rfl h, fun a ha => by cases ha⟩
  · have hcs : v = .slice (some a) len cap := by simpa using hcs
    rw [hcs]
    rw [cs0] at hel
    have cell : ∀ j, j < len * s → ∃ z, W.cell? (a.add j) = some (.int .i64 z) := by
      intro j hj
      have hi : j / s < len := (Nat.div_lt_iff_lt_mul hs).2 hj
      have hr : j % s < s := Nat.mod_lt _ hs
      have h1 := hel (j / s) hi
      rw [List.getElem?_eq_getElem (by omega)] at h1
      rw [Option.bind_eq_some_iff] at h1
      obtain ⟨cs, h2, h3⟩ := h1
      obtain ⟨_, _, h5⟩ := World.cells?_some h2
      obtain ⟨z, hz⟩ := hrow _ _ _ h3 (j % s) hr
      have h6 := h5 (j % s) hr
      rw [add_add, hz, show j / s * s + j % s = j by rw [Nat.mul_comm]; exact Nat.div_add_mod j s] at h6
      exact ⟨z, h6⟩
    refine ⟨some a, len, cap, (List.range (len * s)).map fun j => (W.cell? (a.add j)).getD undef, rfl, ?_, by simp, hl, ?_, ?_⟩
    · intro v hv
      obtain ⟨j, hj, rfl⟩ := List.mem_map.1 hv
      obtain ⟨z, hz⟩ := cell j (List.mem_range.1 hj)
      exact ⟨z, by rw [hz]; rfl⟩
    · intro hne
      have hpos : 0 < len * s := by
        rcases Nat.eq_zero_or_pos (len * s) with h | h
        · rw [h] at hne
          exact absurd rfl hne
        · exact h
      obtain ⟨z, hz⟩ := cell 0 hpos
      have : a.add 0 = a := by simp [Addr.add]
      rw [this] at hz
      refine ⟨a, rfl, ?_⟩
      unfold World.cell? at hz
      split at hz
      · rename_i hh
        exact (Array.getElem?_eq_some_iff.1 hh).1
      · cases hz
    · intro a' ha' j u hj
      cases ha'
      rw [List.getElem?_map] at hj
      rcases Nat.lt_or_ge j (len * s) with hlt | hge
      · rw [List.getElem?_range hlt] at hj
        obtain ⟨z, hz⟩ := cell j hlt
        simp only [Option.map_some, hz, Option.getD_some, Option.some.injEq] at hj
        rw [hz, hj]
      · rw [List.getElem?_eq_none (by simpa using hge)] at hj
        cases hj
set_option maxRecDepth 100000 in
/-- A fell that came in. -/
theorem fell_open {W : World} {v : Value} {d : DataW H} {p : List MemPlace} {r : Reach} {b : Nat} (hv : Value.okWide Tryz.prog W r b tFell v) (h : DataW.Trod enc Tryz.prog W 0 (fun _ => true) true tFell v d p) :
    ∃ G l n, ints l ∧ l.length = n * 4 ∧ ∀ V : Val, V.I 0 = G → V.L 0 = l → @Go.Ri.NVal V W fellR v := by
  simp only [Value.okWide, Tryz.underlying24] at hv
  obtain ⟨cs, rfl, hsz, _⟩ := hv
  have hn : Tryz.prog.cellsOf tFell = 2 := by kernel_rfl
  rw [hn] at hsz
  obtain ⟨fuel, hf⟩ := h
  have hf : DataW.trod enc Tryz.prog W 0 (fun _ => true) true fuel tFell cs.toList = some (d, p) := hf
  obtain ⟨c0, c1, hcs⟩ : ∃ c0 c1, cs.toList = [c0, c1] := by
    have hl : cs.toList.length = 2 := by simpa using hsz
    match h : cs.toList, hl with
    | [a, b], _ => exact ⟨a, b, rfl⟩
  rw [hcs] at hf
  obtain ⟨xs, m, _, _, _, hxl, hx⟩ := DataW.trod_struct Tryz.underlying24 hf
  have hxl : xs.length = 2 := hxl
  have c3 : Tryz.prog.cellsOf 3 = 1 := by kernel_rfl
  have cg : Tryz.prog.cellsOf 22 = 1 := by kernel_rfl
  have h0 : DataW.trod enc Tryz.prog W 0 (fun _ => true) true m 3 (([c0, c1].drop 0).take (Tryz.prog.cellsOf 3)) = xs[0]? := hx 0 _ rfl
  have h1 : DataW.trod enc Tryz.prog W 0 (fun _ => true) true m 22 (([c0, c1].drop 1).take (Tryz.prog.cellsOf 22)) = xs[1]? := hx 1 _ rfl
  rw [c3] at h0
  rw [cg] at h1
  rw [List.getElem?_eq_getElem (by omega)] at h0 h1
  obtain ⟨G, hG, _⟩ := DataW.trod_int Tryz.underlying3 h0
  have hG : c0 = .int .i64 G := by simpa using hG
  have h1 : DataW.trod enc Tryz.prog W 0 (fun _ => true) true m 22 [c1] = some _ := h1
  obtain ⟨oa, n, cap, l, g1, g2, g3, g4, g5, g6⟩ := rows_open 4 (by decide) Tryz.underlying22 (by kernel_rfl) (fun fuel cs y hy => trod_intsN Tryz.underlying75 4 rfl (by intro i hi; match i, hi with | 0, _ => rfl | 1, _ => rfl | 2, _ => rfl | 3, _ => rfl) hy) h1
  refine ⟨G, l, n, g2, g3, fun V hV hL => ⟨cs, rfl, ?_⟩⟩
  rw [hcs]
  refine .cons ?_ (.cons ?_ .nil)
  · show c0 = Value.int .i64 (V.I 0)
    rw [hG, hV]
  · refine ⟨oa, n, cap, g1, ?_, by decide, ?_, g4, ?_⟩
    · rw [hL]; exact g5
    · rw [hL]; exact g3
    · rw [hL]; exact g6
end
theorem laid_tail {P : Program} {x : String × DataW Unit} {rest : List (String × DataW Unit)} {W : World} (h : laidMet P (x :: rest) W) : laidMet P rest W := by
  obtain ⟨ps, ⟨g, t, cs, fuel, p, q, h1, h2, h3, h4, h5, rfl⟩, hn, hc⟩ := h
  exact ⟨q, h5, (List.nodup_append.mp hn).2.1, fun b off hm => hc b off (List.mem_append_right _ hm)⟩
theorem row_int {k : IntKind} : ∀ zs : List Int, isIfRow (zs.map fun z => Value.int k z) = false
  | [] => rfl
  | [_] => rfl
  | _ :: _ :: _ => rfl
theorem tab_row {W : World} {name : String} {k : IntKind} {zs : List Int} {g : Nat} (hg : Tryz.prog.globalNamed name = some g) (t : Lib.TabIs Tryz.prog W name k zs) (hz : zs ≠ []) : g < W.heap.size ∧ ∃ cur e fr, W.heap[g]? = some (.cells cur e fr) ∧ RoEq cur.toList (zs.map fun z => Value.int k z) := by
  unfold Lib.TabIs World.var? at t
  rw [hg] at t
  simp only [Option.bind_some] at t
  split at t
  · rename_i cs e fr hh
    refine ⟨(Array.getElem?_eq_some_iff.1 hh).1, cs, e, fr, hh, .inl ⟨?_, by simpa using hz, row_int zs⟩⟩
    have := Option.some.inj t
    rw [this]
  · cases t
set_option maxRecDepth 100000 in
theorem one_row {W : World} (hS : W.ShapedOpen Tryz.prog) : 1 < W.heap.size ∧ ∃ cur e fr, W.heap[1]? = some (.cells cur e fr) ∧ RoEq cur.toList [] := by
  have h0 : ((begin Tryz.prog (fun _ _ => 0) default).world.heap[1]?).bind Obj.row? = some (#[.int .i64 0], 3) := by kernel_rfl
  obtain ⟨cs, hh, hs, hr⟩ := hS.1 1 #[.int .i64 0] 3 (of_decide_eq_true (by kernel_rfl)) h0
  obtain ⟨ts, hts, _, hall⟩ := hr (by kernel_rfl)
  have hc : Tryz.prog.cellTypes Tryz.prog.depth 3 = some [3] := by kernel_rfl
  rw [hc] at hts
  cases hts
  have h1 : 0 < cs.size := by rw [hs]; decide
  obtain ⟨u, hu', hok⟩ := hall 0 cs[0] (by simp [h1])
  have : u = 3 := by simpa using hu'.symm
  subst this
  refine ⟨(Array.getElem?_eq_some_iff.1 hh).1, cs, _, _, hh, .inr (.inl ⟨rfl, ?_⟩)⟩
  have hz : ∃ m, cs[0] = Value.int .i64 m := by
    unfold Cell.ok at hok
    rw [Tryz.underlying3] at hok
    cases hv : cs[0] <;> rw [hv] at hok <;> simp_all
  obtain ⟨m, hm⟩ := hz
  refine ⟨m, ?_⟩
  have hl : cs.toList.length = 1 := by simpa using hs
  match h : cs.toList, hl with
  | [a], _ =>
    have : cs[0] = a := by
      have e : cs = #[a] := Array.ext' h
      subst e
      rfl
    rw [← hm, this]
/-- A cell of an interface's type holds an interface's value. -/
theorem trod_if {P : Program} {w : World} {t : TypeId} {fuel : Nat} {cs : List Value} {d : DataW Unit} {p : List MemPlace} (hi : ∃ ms, P.underlying t = some (.interface ms)) (h : DataW.trod (fun _ => ()) P w 0 (fun _ => true) false fuel t cs = some (d, p)) : ∃ v, cs = [v] ∧ (v = .nilIface ∨ ∃ te pe, v = .iface te pe) := by
  obtain ⟨ms, hi⟩ := hi
  cases fuel with
  | zero => cases h
  | succ fuel =>
    unfold DataW.trod at h
    rw [hi] at h
    match cs, h with
    | [], h => cases h
    | [v], h =>
      cases v with
      | nilIface => exact ⟨_, rfl, .inl rfl⟩
      | iface u x => exact ⟨_, rfl, .inr ⟨u, x, rfl⟩⟩
      | _ => cases h
    | x :: _ :: _, h => cases x <;> cases h
theorem if_row {W : World} {name : String} {k : Nat} {d : DataW Unit} {r : List (String × DataW Unit)} (h : laidMet Tryz.prog ((name, d) :: r) W) (hg : Tryz.prog.globalNamed name = some k) (ht : (Tryz.prog.globals[k]?).map (·.type) = some 152) (hu : (match Tryz.prog.underlying 152 with | some (.interface _) => true | _ => false) = true) : k < W.heap.size ∧ ∃ cur e fr, W.heap[k]? = some (.cells cur e fr) ∧ RoEq cur.toList [.nilFunc] := by
  obtain ⟨ps, ⟨g0, t0, cs0, f0, p0, q0, hg0, ht0, hv0, hd0, _, _⟩, _⟩ := h
  obtain rfl := Option.some.inj (hg.symm.trans hg0)
  obtain rfl := Option.some.inj (ht.symm.trans ht0)
  have hi : ∃ ms, Tryz.prog.underlying 152 = some (.interface ms) := by
    split at hu
    · rename_i ms e
      exact ⟨ms, e⟩
    · cases hu
  obtain ⟨v, e, hv⟩ := trod_if hi hd0
  unfold World.var? at hv0
  rw [hg] at hv0
  simp only [Option.bind_some] at hv0
  split at hv0
  · rename_i cs e1 fr hh
    cases hv0
    exact ⟨(Array.getElem?_eq_some_iff.1 hh).1, _, e1, fr, hh, .inr (.inr ⟨rfl, v, e, hv⟩)⟩
  · cases hv0
theorem gTab0 : Tryz.prog.globalNamed "math/bits.deBruijn32tab" = some 0 := by kernel_rfl
theorem gTab2 : Tryz.prog.globalNamed "internal/strconv.uint64pow10" = some 2 := by kernel_rfl
set_option maxRecDepth 100000 in
theorem roIn_of {W : World} (h : laidMetH Tryz.prog YtjjmnoiiihcoiaaGreatDoor.Rows.fellDaysRow.laid W) (hS : W.ShapedOpen Tryz.prog) : RoIn ro W := by
  have h : laidMet Tryz.prog [("math/bits.deBruijn32tab", YtjjmnoiiihcoiaaGreatDoor.Rows.laid_math_bits_deBruijn32tab), ("math/bits.deBruijn64tab", YtjjmnoiiihcoiaaGreatDoor.Rows.laid_math_bits_deBruijn64tab), ("internal/strconv.uint64pow10", YtjjmnoiiihcoiaaGreatDoor.Rows.laid_internal_strconv_uint64pow10), ("unicode/utf8.acceptRanges", YtjjmnoiiihcoiaaGreatDoor.Rows.laid_unicode_utf8_acceptRanges), ("strconv.ErrRange", YtjjmnoiiihcoiaaGreatDoor.Rows.laid_strconv_ErrRange), ("strconv.ErrSyntax", YtjjmnoiiihcoiaaGreatDoor.Rows.laid_strconv_ErrSyntax), ("unicode/utf8.first", YtjjmnoiiihcoiaaGreatDoor.Rows.laid_unicode_utf8_first)] W := h
  have u5 : Tryz.prog.underlying 5 = some (.int .u8) := by kernel_rfl
  have u161 : Tryz.prog.underlying 161 = some (.int .u64) := by kernel_rfl
  have ua : Tryz.prog.underlying 146 = some (.array 32 5) := by kernel_rfl
  have ub : Tryz.prog.underlying 177 = some (.array 20 161) := by kernel_rfl
  have t0 : Lib.TabIs Tryz.prog W "math/bits.deBruijn32tab" .u8 deBr := Lib.tabIs_of_head gTab0 (t := 146) (by kernel_rfl) (n := 32) (e := 5) ua u5 (by kernel_rfl) (by kernel_rfl) h
  have t2 : Lib.TabIs Tryz.prog W "internal/strconv.uint64pow10" .u64 Lib.pow10Tab := Lib.tabIs_of_head gTab2 (t := 177) (by kernel_rfl) (n := 20) (e := 161) ub u161 (by kernel_rfl) (by kernel_rfl) (laid_tail (laid_tail h))
  intro k cs hk
  simp only [List.lookup] at hk
  split at hk
  · rename_i hb
    cases hk
    obtain rfl : k = 0 := by simpa using hb
    exact tab_row gTab0 t0 (by decide)
  · split at hk
    · rename_i hb
      cases hk
      obtain rfl : k = 1 := by simpa using hb
      exact one_row hS
    · split at hk
      · rename_i hb
        cases hk
        obtain rfl : k = 2 := by simpa using hb
        exact tab_row gTab2 t2 (by decide)
      · split at hk
        · rename_i hb
          cases hk
          obtain rfl : k = 3 := by simpa using hb
          exact if_row (laid_tail (laid_tail (laid_tail (laid_tail (laid_tail h))))) (by kernel_rfl) (by kernel_rfl) (by kernel_rfl)
        · split at hk
          · rename_i hb
            cases hk
            obtain rfl : k = 4 := by simpa using hb
            exact if_row (laid_tail (laid_tail (laid_tail (laid_tail h)))) (by kernel_rfl) (by kernel_rfl) (by kernel_rfl)
          · cases hk
/-- 'There is an input that fits', at a world that is laid by a function. -/
theorem witness_zip {H : Type} {enc : TypeId × Value → H} {C : Checked} {os : Os} {f : FuncId} {fn : Func} {s : OpenSpec} {conds : List PathCond} {apart : Bool} {laid : List (String × DataW Unit)} (modest : Bool) (w0 : World) (args : Array Value) (hos : w0.os = os)
    (hv : (w0.forCall (fun _ _ => 0) ⟨#[], args, []⟩).variablesZipB C.prog = true)
    (hr : ((w0.forCall (fun _ _ => 0) ⟨#[], args, []⟩).heap.toList.drop C.prog.globals.size).take ((begin C.prog (fun _ _ => 0) default).world.heap.size - C.prog.globals.size) =
      (begin C.prog (fun _ _ => 0) default).world.heap.toList.drop C.prog.globals.size)
    (hok : Input.okWideB C.prog (w0.forCall (fun _ _ => 0) ⟨#[], args, []⟩) f ⟨#[], args, []⟩ = true)
    (hrow : s.preRow enc C.prog fn conds apart laid (w0.forCall (fun _ _ => 0) ⟨#[], args, []⟩).memory args) :
    ∃ (w : World) (tape : Tape) (i : Input), w.os = os ∧ (w.forCall tape i).Shaped C.prog ∧ i.vars = [] ∧ Input.okWide C.prog (w.forCall tape i) .any w.heap.size f i ∧
      s.preRow enc C.prog fn conds apart laid (w.forCall tape i).memory i.args ∧ ({ modest := modest } : Assume).holds C.prog (lone (Frame.enter C.prog f i.args .normal) [] (w.forCall tape i)) := by
  refine ⟨w0, fun _ _ => 0, ⟨#[], args, []⟩, hos, World.shaped_of_ZipB hv hr, (Input.okWide_of_okWideB (base := 0) hok).1, (Input.okWide_of_okWideB hok).2, hrow, ?_⟩
  simp only [Assume.holds]
  exact ⟨by simp, by simp, fun _ => Modest.zero, by simp, by simp⟩
end Go.Proofs.Z
