/- BookLogs answers true for every world, parish, number and list of indices: CheckLog of the program answers what the specification answers. -/
import Derived.Test.YtjeikabpnplogaaZGQ
import Derived.Test.YtjeikabpnplogaaRows
import Derived.WalkKit
import Derived.ProofKit
import Derived.OpenShut
import Derived.JoinedOf
import Derived.Handed
import Derived.HandedShaped
import Derived.ChangeMaps5
import Derived.Deep.DeepHandedRow
import Derived.Lib.LaidTab
import Derived.Lay
namespace Go.Proofs.Ytjeikabpnplogaa.bookLogs
open Go Go.RowKit Go.Proofs Go.Ri Go.ChangeShapes Go.ChangeMaps Go.WideShapes Go.ChangeAt Go.Proofs.Z
theorem own : ownKnob Try.prog.godebug = none := by kernel_rfl
theorem laidOut : laidOutB Try.prog = true := by kernel_rfl
set_option maxRecDepth 100000 in
theorem one_row {W : World} (hS : W.ShapedOpen Try.prog) : 0 < W.heap.size ∧ ∃ cur e fr, W.heap[0]? = some (.cells cur e fr) ∧ RoEq cur.toList [] := by
  have h0 : ((begin Try.prog (fun _ _ => 0) default).world.heap[0]?).bind Obj.row? = some (#[.int .i64 0], 3) := by kernel_rfl
  obtain ⟨cs, hh, hs, hr⟩ := hS.1 0 #[.int .i64 0] 3 (of_decide_eq_true (by kernel_rfl)) h0
  obtain ⟨ts, hts, _, hall⟩ := hr (by kernel_rfl)
  have hc : Try.prog.cellTypes Try.prog.depth 3 = some [3] := by kernel_rfl
  rw [hc] at hts
  cases hts
  have h1 : 0 < cs.size := by rw [hs]; decide
  obtain ⟨u, hu', hok⟩ := hall 0 cs[0] (by simp [h1])
  have : u = 3 := by simpa using hu'.symm
  subst this
  refine ⟨(Array.getElem?_eq_some_iff.1 hh).1, cs, _, _, hh, .inr (.inl ⟨rfl, ?_⟩)⟩
  have hz : ∃ m, cs[0] = Value.int .i64 m := by
    unfold Cell.ok at hok
    rw [Try.underlying3] at hok
    cases hv : cs[0] <;> rw [hv] at hok <;> simp_all
  obtain ⟨m, hm⟩ := hz
  refine ⟨m, ?_⟩
  have hl : cs.toList.length = 1 := by simpa using hs
  match h : cs.toList, hl with
  | [a], _ =>
    have : cs[0] = a := by
      have e : cs = #[a] := Array.ext' h
      subst e
      rfl
    rw [← hm, this]
theorem ro_in {W : World} (hS : W.ShapedOpen Try.prog) : RoIn ro W := by
  intro k cs hk
  simp only [List.lookup] at hk
  split at hk
  · rename_i hb
    cases hk
    obtain rfl : k = 0 := by simpa using hb
    exact one_row hS
  · cases hk
section
variable {H : Type} {enc : TypeId × Value → H}
/-- Below the old heap nothing turned: whatever places the arguments have. -/
theorem post_belowP {P : Program} {f : Func} {s : ChangeSpec} {apart fresh handsOn again : Bool} {W W' : World} {args : Array Value} {v : Value} {ds gs : List (DataW H)} {before pa pv : List MemPlace}
    (hW : DataW.Whole enc P f.params.toList s.vars apart W args.toList ds gs before)
    (hres : ∀ (b : Nat) (sp : Nat → Bool) (hd : Bool), DataW.TrodAll enc P W' b sp hd f.resultTypes.toList (v.resultList f.resultTypes.size) (s.fn H (ds ++ gs)).results [])
    (hargs : ∀ sp : Nat → Bool, (∀ p ∈ before, sp p.block = true) → DataW.TrodAll enc P W' 0 sp true f.params.toList args.toList (s.fn H (ds ++ gs)).args pa)
    (hvars : ∀ sp : Nat → Bool, (∀ p ∈ before, sp p.block = true) → DataW.TrodVars enc P W' sp s.vars (s.fn H (ds ++ gs)).vars pv)
    (hps : before = pa ++ pv) (hk : Below W.heap.size W W')
    (hok : ∀ (j : Nat) (t : TypeId) (r : Value), f.resultTypes[j]? = some t → (v.resultList f.resultTypes.size)[j]? = some r → Value.okWide P W' .any 0 t r) :
    s.post enc P f apart fresh handsOn again W args v W' := by
  have hlt := hW.lt
  have hold : ∀ p ∈ before, (fun b => decide (b < W.heap.size)) p.block = true := fun p hp => by simpa using hlt p hp
  refine ⟨ds, gs, before, [], pa, pv, hW, hres _ _ _, hargs _ hold, hvars _ hold, hk.frame _, fun _ => ?_⟩
  obtain ⟨_, _, _, _, _, hz, hn⟩ := hW
  refine ⟨hok, _, _, ([] ++ pa) ++ pv, ⟨[] ++ pa, pv, trodAll_append (hargs _ (fun _ _ => rfl)) (hres _ _ _), hvars _ (fun _ _ => rfl), rfl, ?_, ?_⟩, ?_⟩
  · intro b off hp
    have hp' : MemPlace.cell b off ∈ before := by rw [hps]; simpa using hp
    rw [hk.frozen (hlt _ hp')]
    exact hz b off hp'
  · intro ha
    have := hn ha
    rw [hps] at this
    simpa using this
  · intro p hp _
    rw [hps]
    simpa using hp
theorem slice_stays {t : TypeId} (hr : Try.prog.readableRec t = true) (hrow : t < Try.prog.types.size) {W W' : World} {v : Value} {d : DataW H} {ps : List MemPlace} (sp : Nat → Bool) (hk : Below W.heap.size W W') (hlt : ∀ p ∈ ps, p.block < W.heap.size) (hs : ∀ p ∈ ps, sp p.block = true)
    (h : DataW.Trod enc Try.prog W 0 (fun _ => true) true t v d ps) : DataW.Trod enc Try.prog W' 0 sp true t v d ps :=
  WideElems.Trod_stays laidOut hr hrow h (fun p hp => hk.same (hlt p hp)) hs
theorem wf_u64 {z : Int} (h : (Lit.int .u64 z).wf = true) : 0 ≤ z ∧ z < 18446744073709551616 := by
  simp [Lit.wf, IntKind.min, IntKind.max, IntKind.signed, IntKind.bits] at h
  omega
def strOf : Value → ByteArray
  | .string s => s
  | _ => ⟨#[]⟩
theorem itL_get (it : Nat → Itm) {n j : Nat} (h : j < n * 4) : (itL it n)[j]? = (itC (it (j / 4)))[j % 4]? := by
  have h1 := itL_at it n (show j / 4 < n by omega)
  rw [← h1, List.getElem?_take_of_lt (by omega), List.getElem?_drop, show j / 4 * 4 + j % 4 = j by omega]
set_option maxRecDepth 100000 in
/-- An item that came in. -/
theorem item_open {W : World} {fuel : Nat} {cs : List Value} {x : DataW H × List MemPlace} {sp : Nat → Bool} (h : DataW.trod enc Try.prog W 0 sp true fuel 105 cs = some x) : ∃ i : Itm, ∀ r, r < 4 → cs[r]? = (itC i)[r]? := by
  have c3 : Try.prog.cellsOf 3 = 1 := by kernel_rfl
  have c9 : Try.prog.cellsOf 9 = 1 := by kernel_rfl
  obtain ⟨xs, m, _, rfl, _, hxl, hx⟩ := DataW.trod_struct Try.underlying105 h
  have hxl : xs.length = 4 := hxl
  have h0 : DataW.trod enc Try.prog W 0 sp true m 3 ((cs.drop 0).take (Try.prog.cellsOf 3)) = xs[0]? := hx 0 _ rfl
  have h1 : DataW.trod enc Try.prog W 0 sp true m 3 ((cs.drop 1).take (Try.prog.cellsOf 3)) = xs[1]? := hx 1 _ rfl
  have h2 : DataW.trod enc Try.prog W 0 sp true m 9 ((cs.drop 2).take (Try.prog.cellsOf 9)) = xs[2]? := hx 2 _ rfl
  have h3 : DataW.trod enc Try.prog W 0 sp true m 3 ((cs.drop 3).take (Try.prog.cellsOf 3)) = xs[3]? := hx 3 _ rfl
  rw [List.getElem?_eq_getElem (by omega)] at h0 h1 h2 h3
  rw [c3] at h0 h1 h3
  rw [c9] at h2
  obtain ⟨z0, e0, _, _⟩ := DataW.trod_int Try.underlying3 h0
  obtain ⟨z1, e1, _, _⟩ := DataW.trod_int Try.underlying3 h1
  obtain ⟨s2, e2, _⟩ := DataW.trod_string Try.underlying9 h2
  obtain ⟨z3, e3, _, _⟩ := DataW.trod_int Try.underlying3 h3
  refine ⟨⟨z0, z1, s2, z3⟩, fun r hr => ?_⟩
  have g0 := congrArg (fun l => l[0]?) e0
  have g1 := congrArg (fun l => l[0]?) e1
  have g2 := congrArg (fun l => l[0]?) e2
  have g3 := congrArg (fun l => l[0]?) e3
  match r, hr with
  | 0, _ => exact show cs[0]? = some (.int .i64 z0) by simpa [List.getElem?_take, List.getElem?_drop] using g0
  | 1, _ => exact show cs[1]? = some (.int .i64 z1) by simpa [List.getElem?_take, List.getElem?_drop] using g1
  | 2, _ => exact show cs[2]? = some (.string s2) by simpa [List.getElem?_take, List.getElem?_drop] using g2
  | 3, _ => exact show cs[3]? = some (.int .i64 z3) by simpa [List.getElem?_take, List.getElem?_drop] using g3
set_option maxRecDepth 100000 in
/-- A slice of items that came in. -/
theorem items_open {W : World} {v : Value} {x : DataW H × List MemPlace} {fuel : Nat} {sp : Nat → Bool} (hf : DataW.trod enc Try.prog W 0 sp true fuel 50 [v] = some x) :
    ∃ oa n cap it, v = .slice oa n cap ∧ n ≤ cap ∧ (itL it n ≠ [] → ∃ a : Addr, oa = some a ∧ a.block < W.heap.size) ∧ ∀ a, oa = some a → ∀ j u, (itL it n)[j]? = some u → W.cell? (a.add j) = some u := by
  have cs0 : Try.prog.cellsOf 105 = 4 := by kernel_rfl
  obtain ⟨d, p⟩ := x
  rcases DataW.trod_slice Try.underlying50 hf with ⟨h0, _⟩ | ⟨a, len, cap, elems, rest, n, _, hcs, _, _, hl, _, hlen, hel, _⟩
  · obtain rfl : v = .slice none 0 0 := by simpa using h0
    exact ⟨none, 0, 0, fun _ => ⟨0, 0, ⟨#[]⟩, 0⟩, rfl, Nat.le_refl _, fun h => absurd rfl h, fun a ha => by cases ha⟩
  · have hcs : v = .slice (some a) len cap := by simpa using hcs
    rw [hcs]
    rw [cs0] at hel
    have row : ∀ i, i < len → ∃ t : Itm, ∀ r, r < 4 → W.cell? (a.add (i * 4 + r)) = (itC t)[r]? := by
      intro i hi
      have h1 := hel i hi
      rw [List.getElem?_eq_getElem (by omega)] at h1
      rw [Option.bind_eq_some_iff] at h1
      obtain ⟨cs, h2, h3⟩ := h1
      obtain ⟨_, _, h5⟩ := World.cells?_some h2
      obtain ⟨t, ht⟩ := item_open h3
      refine ⟨t, fun r hr => ?_⟩
      have h6 := h5 r hr
      rw [add_add, ht r hr] at h6
      exact h6
    let it : Nat → Itm := fun i => ⟨Go.Proofs.Z.intOf ((W.cell? (a.add (i * 4 + 0))).getD undef), Go.Proofs.Z.intOf ((W.cell? (a.add (i * 4 + 1))).getD undef), strOf ((W.cell? (a.add (i * 4 + 2))).getD undef), Go.Proofs.Z.intOf ((W.cell? (a.add (i * 4 + 3))).getD undef)⟩
    have hit : ∀ i, i < len → ∀ r, r < 4 → W.cell? (a.add (i * 4 + r)) = (itC (it i))[r]? := fun i hi => by
      obtain ⟨t, ht⟩ := row i hi
      have e : it i = t := by
        show Itm.mk _ _ _ _ = t
        rw [ht 0 (by omega), ht 1 (by omega), ht 2 (by omega), ht 3 (by omega)]
        rfl
      rw [e]
      exact ht
    have cell : ∀ j, j < len * 4 → W.cell? (a.add j) = (itL it len)[j]? := fun j hj => by
      have := hit (j / 4) (by omega) (j % 4) (by omega)
      rw [show j / 4 * 4 + j % 4 = j by omega] at this
      rw [this, itL_get it hj]
    refine ⟨some a, len, cap, it, rfl, hl, fun hne => ?_, fun a' ha' j u hj => ?_⟩
    · have hpos : 0 < len * 4 := by
        rcases Nat.eq_zero_or_pos (len * 4) with h | h
        · exact absurd (List.length_eq_zero_iff.1 (by rw [itL_len, h])) hne
        · exact h
      have hz := cell 0 hpos
      rw [List.getElem?_eq_getElem (by rw [itL_len]; exact hpos)] at hz
      have : a.add 0 = a := by simp [Addr.add]
      rw [this] at hz
      refine ⟨a, rfl, ?_⟩
      unfold World.cell? at hz
      split at hz
      · rename_i hh
        exact (Array.getElem?_eq_some_iff.1 hh).1
      · cases hz
    · cases ha'
      rcases Nat.lt_or_ge j (len * 4) with hlt | hge
      · rw [cell j hlt]
        exact hj
      · rw [List.getElem?_eq_none (by rw [itL_len]; exact hge)] at hj
        cases hj
theorem idL_get (ix : Nat → Int) {n j : Nat} (h : j < n) : (idL ix n)[j]? = some (.int .i64 (ix j)) := by
  unfold idL
  rw [List.getElem?_map, List.getElem?_range h]
  rfl
theorem slice_cells {v : Value} (h : ∃ a n c, v = .slice a n c) : v.cells.toList = [v] := by
  obtain ⟨a, n, c, rfl⟩ := h
  rfl
set_option maxRecDepth 100000 in
/-- A slice of whole numbers that came in. -/
theorem idx_open {W : World} {v : Value} {x : DataW H × List MemPlace} {fuel : Nat} {sp : Nat → Bool} (hf : DataW.trod enc Try.prog W 0 sp true fuel 53 [v] = some x) :
    ∃ oa n cap ix, v = .slice oa n cap ∧ n ≤ cap ∧ (idL ix n ≠ [] → ∃ a : Addr, oa = some a ∧ a.block < W.heap.size) ∧ ∀ a, oa = some a → ∀ j u, (idL ix n)[j]? = some u → W.cell? (a.add j) = some u := by
  have cs0 : Try.prog.cellsOf 3 = 1 := by kernel_rfl
  obtain ⟨d, p⟩ := x
  rcases DataW.trod_slice Try.underlying53 hf with ⟨h0, _⟩ | ⟨a, len, cap, elems, rest, n, _, hcs, _, _, hl, _, hlen, hel, _⟩
  · obtain rfl : v = .slice none 0 0 := by simpa using h0
    exact ⟨none, 0, 0, fun _ => 0, rfl, Nat.le_refl _, fun h => absurd rfl h, fun a ha => by cases ha⟩
  · have hcs : v = .slice (some a) len cap := by simpa using hcs
    rw [hcs]
    rw [cs0] at hel
    have row : ∀ i, i < len → ∃ z, W.cell? (a.add i) = some (.int .i64 z) := by
      intro i hi
      have h1 := hel i hi
      rw [List.getElem?_eq_getElem (by omega)] at h1
      rw [Option.bind_eq_some_iff] at h1
      obtain ⟨cs, h2, h3⟩ := h1
      obtain ⟨_, _, h5⟩ := World.cells?_some h2
      obtain ⟨z, hz, _⟩ := DataW.trod_int Try.underlying3 h3
      have h6 := h5 0 (by omega)
      rw [add_add, hz, Nat.mul_one, Nat.add_zero] at h6
      exact ⟨z, h6⟩
    let ix : Nat → Int := fun i => Go.Proofs.Z.intOf ((W.cell? (a.add i)).getD undef)
    have cell : ∀ j, j < len → W.cell? (a.add j) = (idL ix len)[j]? := fun j hj => by
      obtain ⟨z, hz⟩ := row j hj
      rw [idL_get ix hj]
      show _ = some (Value.int .i64 (Go.Proofs.Z.intOf ((W.cell? (a.add j)).getD undef)))
      rw [hz]
      rfl
    refine ⟨some a, len, cap, ix, rfl, hl, fun hne => ?_, fun a' ha' j u hj => ?_⟩
    · have hpos : 0 < len := by
        rcases Nat.eq_zero_or_pos len with h | h
        · exact absurd (List.length_eq_zero_iff.1 (by rw [idL_len, h])) hne
        · exact h
      have hz := cell 0 hpos
      rw [idL_get ix hpos] at hz
      have : a.add 0 = a := by simp [Addr.add]
      rw [this] at hz
      refine ⟨a, rfl, ?_⟩
      unfold World.cell? at hz
      split at hz
      · rename_i hh
        exact (Array.getElem?_eq_some_iff.1 hh).1
      · cases hz
    · cases ha'
      rcases Nat.lt_or_ge j len with hlt | hge
      · rw [cell j hlt]
        exact hj
      · rw [List.getElem?_eq_none (by rw [idL_len]; exact hge)] at hj
        cases hj
set_option maxRecDepth 100000 in
/-- A world of the laws that came in. -/
theorem world_open {W : World} {v : Value} {d : DataW H} {p : List MemPlace} {r : Reach} {b : Nat} (hv : Value.okWide Try.prog W r b tWorld v) (h : DataW.Trod enc Try.prog W 0 (fun _ => true) true tWorld v d p) :
    ∃ sd P0 N0 S0 n it, (0 ≤ sd ∧ sd < 18446744073709551616) ∧ ∀ x y z, @Go.Ri.NVal ((wdNm sd P0 N0 S0 n 0 (itL it n) x y z).val fun _ => undef) W wldR v := by
  simp only [Value.okWide, Try.underlying52] at hv
  obtain ⟨cs, rfl, hsz, _⟩ := hv
  have hn : Try.prog.cellsOf tWorld = 5 := by kernel_rfl
  rw [hn] at hsz
  obtain ⟨fuel, hf⟩ := h
  have hf : DataW.trod enc Try.prog W 0 (fun _ => true) true fuel tWorld cs.toList = some (d, p) := hf
  obtain ⟨c0, c1, c2, c3, c4, hcs⟩ : ∃ c0 c1 c2 c3 c4, cs.toList = [c0, c1, c2, c3, c4] := by
    have hl : cs.toList.length = 5 := by simpa using hsz
    match h : cs.toList, hl with
    | [a, b, c, d, e], _ => exact ⟨a, b, c, d, e, rfl⟩
  rw [hcs] at hf
  obtain ⟨xs, m, _, _, _, hxl, hx⟩ := DataW.trod_struct Try.underlying52 hf
  have hxl : xs.length = 5 := hxl
  have k22 : Try.prog.cellsOf 22 = 1 := by kernel_rfl
  have k3 : Try.prog.cellsOf 3 = 1 := by kernel_rfl
  have ks : Try.prog.cellsOf 50 = 1 := by kernel_rfl
  have h0 : DataW.trod enc Try.prog W 0 (fun _ => true) true m 22 (([c0, c1, c2, c3, c4].drop 0).take (Try.prog.cellsOf 22)) = xs[0]? := hx 0 _ rfl
  have h1 : DataW.trod enc Try.prog W 0 (fun _ => true) true m 3 (([c0, c1, c2, c3, c4].drop 1).take (Try.prog.cellsOf 3)) = xs[1]? := hx 1 _ rfl
  have h2 : DataW.trod enc Try.prog W 0 (fun _ => true) true m 3 (([c0, c1, c2, c3, c4].drop 2).take (Try.prog.cellsOf 3)) = xs[2]? := hx 2 _ rfl
  have h3 : DataW.trod enc Try.prog W 0 (fun _ => true) true m 3 (([c0, c1, c2, c3, c4].drop 3).take (Try.prog.cellsOf 3)) = xs[3]? := hx 3 _ rfl
  have h4 : DataW.trod enc Try.prog W 0 (fun _ => true) true m 50 (([c0, c1, c2, c3, c4].drop 4).take (Try.prog.cellsOf 50)) = xs[4]? := hx 4 _ rfl
  rw [List.getElem?_eq_getElem (by omega)] at h0 h1 h2 h3 h4
  rw [k22] at h0
  rw [k3] at h1 h2 h3
  rw [ks] at h4
  obtain ⟨sd, e0, _, w0⟩ := DataW.trod_int Try.underlying22 h0
  obtain ⟨P0, e1, _, _⟩ := DataW.trod_int Try.underlying3 h1
  obtain ⟨N0, e2, _, _⟩ := DataW.trod_int Try.underlying3 h2
  obtain ⟨S0, e3, _, _⟩ := DataW.trod_int Try.underlying3 h3
  have e0 : c0 = .int .u64 sd := by simpa using e0
  have e1 : c1 = .int .i64 P0 := by simpa using e1
  have e2 : c2 = .int .i64 N0 := by simpa using e2
  have e3 : c3 = .int .i64 S0 := by simpa using e3
  have h4 : DataW.trod enc Try.prog W 0 (fun _ => true) true m 50 [c4] = some _ := h4
  obtain ⟨oa, n, cap, it, g1, g4, g5, g6⟩ := items_open h4
  refine ⟨sd, P0, N0, S0, n, it, wf_u64 w0, fun x y z => ⟨cs, rfl, ?_⟩⟩
  rw [hcs]
  refine .cons ?_ (.cons ?_ (.cons ?_ (.cons ?_ (.cons ?_ .nil))))
  · exact e0
  · exact e1
  · exact e2.trans (w602 (sd := sd) (P := P0) (N := N0) (S := S0) (n := n) (k := 0) (l := itL it n) (x := x) (y := y) (z := z) (W := fun _ => undef)).symm
  · exact e3.trans (w603 (sd := sd) (P := P0) (N := N0) (S := S0) (n := n) (k := 0) (l := itL it n) (x := x) (y := y) (z := z) (W := fun _ => undef)).symm
  · exact ⟨oa, n, cap, g1, g5, by decide, itL_len it n, g4, g6⟩
end
set_option maxRecDepth 100000 in
theorem contract (H : Type) (enc : TypeId × Value → H) (W : World) (base : Nat) (args : Array Value) (ds gs : List (DataW H)) (before : List MemPlace)
    (hval : ∀ (j : Nat) t v, Try.f6.params[j]? = some t → args[j]? = some v → Value.okWide Try.prog W .any base t v)
    (hW : DataW.Whole enc Try.prog Try.f6.params.toList Rows.bookLogsSpec.vars false W args.toList ds gs before) (hS : W.ShapedOpen Try.prog) :
    Calls Try.prog 6 args W fun e W' => ∃ v, e = .returned v ∧ Rows.bookLogsSpec.post enc Try.prog Try.f6 false true false false W args v W' := by
  have hW' := hW
  obtain ⟨p, q, hA0, hV, rfl, hfz, hnd⟩ := hW
  have hA : DataW.TrodAll enc Try.prog W 0 (fun _ => true) true Try.f6.params.toList args.toList ds p := hA0
  rw [Try.params6] at hA hval
  obtain ⟨v0, vs0, d0, ds0, p0, q0, hargs, rfl, rfl, h0, r0⟩ := trodAll_cons hA
  obtain ⟨v1, vs1, d1, ds1, p1, q1, rfl, rfl, rfl, h1, r1⟩ := trodAll_cons r0
  obtain ⟨v2, vs2, d2, ds2, p2, q2, rfl, rfl, rfl, h2, r2⟩ := trodAll_cons r1
  obtain ⟨v3, vs3, d3, ds3, p3, q3, rfl, rfl, rfl, h3, r3⟩ := trodAll_cons r2
  obtain ⟨rfl, rfl, rfl⟩ := trodAll_nil r3
  obtain rfl : args = #[v0, v1, v2, v3] := Array.ext' hargs
  obtain ⟨rfl, rfl⟩ := trodVars_none hV
  obtain ⟨sd, P0, N0, S0, n, it, hsd, hwld⟩ := world_open (hval 0 tWorld v0 rfl rfl) h0
  obtain ⟨a1, rfl, rfl, rfl, w1⟩ := open_int Try.underlying3 (hval 1 3 v1 rfl rfl) h1
  obtain ⟨a2, rfl, rfl, rfl, w2⟩ := open_int Try.underlying3 (hval 2 3 v2 rfl rfl) h2
  have hv3 := hval 3 53 v3 rfl rfl
  have h3' := h3
  obtain ⟨fuel, hf⟩ := h3'
  obtain ⟨oa, m, cap, ix, g1, g4, g5, g6⟩ := idx_open (v := v3) (show DataW.trod enc Try.prog W 0 (fun _ => true) true fuel 53 [v3] = some _ by
    have e : v3.cells.toList = [v3] := slice_cells (okWide_slice Try.underlying53 hv3)
    rw [← e]
    exact hf)
  clear hA0
  simp only [List.append_nil] at hW'
  have hlt := hW'.lt
  have hat : ∀ V : Val, V.L 8 = idL ix m → @Go.Ri.NVal V W (.slN 0 8 1) v3 := fun V hV => by
    refine ⟨oa, m, cap, g1, ?_, by decide, ?_, g4, ?_⟩
    · rw [hV]; exact g5
    · rw [hV, idL_len, Nat.mul_one]
    · rw [hV]; exact g6
  refine (bookLogs_ans (sd := sd) (P := P0) (N := N0) (S := S0) (n := n) (it := it) (par := a1) (many := a2) (ix := ix) (dn := m) (v0 := v0) (v3 := v3) hsd (ro_in hS) hwld hat).mono fun e W' ⟨he, hg⟩ => ?_
  subst he
  exact ⟨_, rfl, post_belowP hW' (fun _ _ _ => trodAll_cons_mk (shut_bool Try.underlying4 _) trodAll_mk0)
    (fun sp hsp => trodAll_cons_mk (slice_stays (by kernel_rfl) (of_decide_eq_true (by kernel_rfl)) sp hg (fun q hq => hlt q (by simp [hq])) (fun q hq => hsp q (by simp [hq])) h0) (trodAll_cons_mk (shut_int Try.underlying3 w1) (trodAll_cons_mk (shut_int Try.underlying3 w2) (trodAll_cons_mk (slice_stays (by kernel_rfl) (of_decide_eq_true (by kernel_rfl)) sp hg (fun q hq => hlt q (by simp [hq])) (fun q hq => hsp q (by simp [hq])) h3) trodAll_mk0))))
    (fun _ _ => rfl) (by simp) hg (ok_one (by kernel_rfl) rfl (okWide_bool_mk Try.underlying4 _))⟩
set_option maxRecDepth 100000 in
theorem lifted (os : Os) (started : os.Started) (H : Type) (enc : TypeId × Value → H) :
    ReturnsInHanded {} Try.checked os 6 .any (Rows.bookLogsSpec.pre6 enc Try.prog Try.f6 Rows.bookLogsRow.domain false) (Rows.bookLogsSpec.post enc Try.prog Try.f6 false true false false) := by
  refine returnsInHanded_of_change_shaped (C := Try.checked) own started (by kernel_rfl) Try.func6
    (ChangeSpec.witness6 (enc := enc) (C := Try.checked) false ⟨#[], #[.agg #[.int .u64 0, .int .i64 0, .int .i64 0, .int .i64 0, .slice none 0 0], .int .i64 0, .int .i64 0, .slice none 0 0], []⟩ 8 (by kernel_rfl) (by kernel_rfl) (by kernel_rfl) (by kernel_rfl)) ?_
  intro W base args ds gs before hval hW _ _ hS _
  exact contract H enc W base args ds gs before hval hW hS
theorem over : Rows.bookLogsRow.holds Try.pinned (OpenSpec.ofChange Rows.bookLogsSpec) :=
  OpenClaim.holds_of_wide 6 Try.f6 rfl rfl rfl rfl rfl rfl rfl ⟨rfl, rfl, rfl, rfl, rfl⟩ rfl rfl rfl rfl rfl (by kernel_rfl) Try.func6 (by kernel_rfl)
    (of_decide_eq_true (by kernel_rfl)) (by unfold Func.isWrapper; first | (rw [if_pos (by decide +kernel)]; kernel_rfl) | (rw [if_neg (by decide +kernel)]; exact ⟨rfl, rfl⟩))
    (fun os started H enc _ => lifted os started H enc)
theorem proved : Rows.BookLogsSaid :=
  over
end Go.Proofs.Ytjeikabpnplogaa.bookLogs
