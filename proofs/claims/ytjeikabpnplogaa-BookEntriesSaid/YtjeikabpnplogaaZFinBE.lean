/- BookEntries answers true for every entry and every text: Digest, Encode and Decode of the program answer what the specification answers. -/
import Derived.Test.YtjeikabpnplogaaZCL
import Derived.Test.YtjeikabpnplogaaRows
import Derived.WalkKit
import Derived.ProofKit
import Derived.OpenShut
import Derived.JoinedOf
import Derived.Handed
import Derived.ChangeMaps5
import Derived.Deep.DeepHandedRow
import Derived.Lib.LaidTab
import Derived.Lay
namespace Go.Proofs.Ytjeikabpnplogaa.bookEntries
open Go Go.RowKit Go.Proofs Go.Ri Go.ChangeShapes Go.ChangeMaps Go.WideShapes Go.ChangeAt Go.Proofs.Z
theorem own : ownKnob Try.prog.godebug = none := by kernel_rfl
theorem ro_in (W : World) : RoIn ro W := fun k cs h => by cases h
theorem laidOut : laidOutB Try.prog = true := by kernel_rfl
section
variable {H : Type} {enc : TypeId × Value → H}
/-- Below the old heap nothing turned: whatever places the arguments have. -/
theorem post_belowP {P : Program} {f : Func} {s : ChangeSpec} {apart fresh handsOn again : Bool} {W W' : World} {args : Array Value} {v : Value} {ds gs : List (DataW H)} {before pa pv : List MemPlace}
    (hW : DataW.Whole enc P f.params.toList s.vars apart W args.toList ds gs before)
    (hres : ∀ (b : Nat) (sp : Nat → Bool) (hd : Bool), DataW.TrodAll enc P W' b sp hd f.resultTypes.toList (v.resultList f.resultTypes.size) (s.fn H (ds ++ gs)).results [])
    (hargs : ∀ sp : Nat → Bool, (∀ p ∈ before, sp p.block = true) → DataW.TrodAll enc P W' 0 sp true f.params.toList args.toList (s.fn H (ds ++ gs)).args pa)
    (hvars : ∀ sp : Nat → Bool, (∀ p ∈ before, sp p.block = true) → DataW.TrodVars enc P W' sp s.vars (s.fn H (ds ++ gs)).vars pv)
    (hps : before = pa ++ pv) (hk : Below W.heap.size W W')
    (hok : ∀ (j : Nat) (t : TypeId) (r : Value), f.resultTypes[j]? = some t → (v.resultList f.resultTypes.size)[j]? = some r → Value.okWide P W' .any 0 t r) :
    s.post enc P f apart fresh handsOn again W args v W' := by
  have hlt := hW.lt
  have hold : ∀ p ∈ before, (fun b => decide (b < W.heap.size)) p.block = true := fun p hp => by simpa using hlt p hp
  refine ⟨ds, gs, before, [], pa, pv, hW, hres _ _ _, hargs _ hold, hvars _ hold, hk.frame _, fun _ => ?_⟩
  obtain ⟨_, _, _, _, _, hz, hn⟩ := hW
  refine ⟨hok, _, _, ([] ++ pa) ++ pv, ⟨[] ++ pa, pv, trodAll_append (hargs _ (fun _ _ => rfl)) (hres _ _ _), hvars _ (fun _ _ => rfl), rfl, ?_, ?_⟩, ?_⟩
  · intro b off hp
    have hp' : MemPlace.cell b off ∈ before := by rw [hps]; simpa using hp
    rw [hk.frozen (hlt _ hp')]
    exact hz b off hp'
  · intro ha
    have := hn ha
    rw [hps] at this
    simpa using this
  · intro p hp _
    rw [hps]
    simpa using hp
theorem slice_stays {t : TypeId} (hr : Try.prog.readableRec t = true) (hrow : t < Try.prog.types.size) {W W' : World} {v : Value} {d : DataW H} {ps : List MemPlace} (sp : Nat → Bool) (hk : Below W.heap.size W W') (hlt : ∀ p ∈ ps, p.block < W.heap.size) (hs : ∀ p ∈ ps, sp p.block = true)
    (h : DataW.Trod enc Try.prog W 0 (fun _ => true) true t v d ps) : DataW.Trod enc Try.prog W' 0 sp true t v d ps :=
  WideElems.Trod_stays laidOut hr hrow h (fun p hp => hk.same (hlt p hp)) hs
theorem c22 : Try.prog.cellsOf 22 = 1 := by kernel_rfl
theorem wf_u64 {z : Int} (h : (Lit.int .u64 z).wf = true) : 0 ≤ z ∧ z < 18446744073709551616 := by
  simp [Lit.wf, IntKind.min, IntKind.max, IntKind.signed, IntKind.bits] at h
  omega
/-- An array of numbers of 64 bits that came in. -/
theorem arr_u64 {W : World} {fuel n : Nat} {cs : List Value} {x : DataW H × List MemPlace} {sp : Nat → Bool} {t : TypeId} (ht : Try.prog.underlying t = some (.array n 22)) (hc : Try.prog.cellsOf t = n) (h : DataW.trod enc Try.prog W 0 sp true fuel t cs = some x) :
    ∃ f : Nat → Int, (∀ i, i < n → 0 ≤ f i ∧ f i < 18446744073709551616) ∧ cs = (List.range n).map fun i => Value.int .u64 (f i) := by
  obtain ⟨xs, m, _, _, hl, hxl, hx⟩ := DataW.trod_array ht h
  rw [hc] at hl
  have one : ∀ i, i < n → ∃ z, cs[i]? = some (.int .u64 z) ∧ 0 ≤ z ∧ z < 18446744073709551616 := fun i hi => by
    have h1 := hx i hi
    rw [c22, Nat.mul_one, List.getElem?_eq_getElem (by omega)] at h1
    obtain ⟨z, hz, _, hw⟩ := DataW.trod_int Try.underlying22 h1
    refine ⟨z, ?_, wf_u64 hw⟩
    have := congrArg (fun l => l[0]?) hz
    simpa [List.getElem?_take, List.getElem?_drop] using this
  refine ⟨fun i => Go.Proofs.Z.intOf (cs.getD i undef), fun i hi => ?_, ?_⟩
  · obtain ⟨z, hz, hw⟩ := one i hi
    show 0 ≤ Go.Proofs.Z.intOf (cs.getD i undef) ∧ Go.Proofs.Z.intOf (cs.getD i undef) < 18446744073709551616
    rw [List.getD_eq_getElem?_getD, hz]
    exact hw
  · apply List.ext_getElem?
    intro i
    rcases Nat.lt_or_ge i n with hi | hi
    · obtain ⟨z, hz, _⟩ := one i hi
      rw [List.getElem?_map, List.getElem?_range hi, hz]
      show some (Value.int .u64 z) = some (Value.int .u64 (Go.Proofs.Z.intOf (cs.getD i undef)))
      rw [List.getD_eq_getElem?_getD, hz]
      rfl
    · rw [List.getElem?_eq_none (by omega), List.getElem?_eq_none (by simp; omega)]
set_option maxRecDepth 100000 in
/-- An entry that came in. -/
theorem entry_open {W : World} {v : Value} {d : DataW H} {p : List MemPlace} {r : Reach} {b : Nat} (hv : Value.okWide Try.prog W r b 38 v) (h : DataW.Trod enc Try.prog W 0 (fun _ => true) true 38 v d p) :
    ∃ p n x s se, v = entVal p n x s se ∧ (0 ≤ x ∧ x < 18446744073709551616) ∧ ∀ k, k < 16 → 0 ≤ se k ∧ se k < 18446744073709551616 := by
  simp only [Value.okWide, Try.underlying38] at hv
  obtain ⟨cs, rfl, hsz, _⟩ := hv
  have hn : Try.prog.cellsOf 38 = 20 := by kernel_rfl
  rw [hn] at hsz
  obtain ⟨fuel, hf⟩ := h
  have hf : DataW.trod enc Try.prog W 0 (fun _ => true) true fuel 38 cs.toList = some (d, p) := hf
  obtain ⟨c0, c1, c2, c3, rest, hcs, hrl⟩ : ∃ c0 c1 c2 c3 rest, cs.toList = c0 :: c1 :: c2 :: c3 :: rest ∧ rest.length = 16 := by
    have hl : cs.toList.length = 20 := by simpa using hsz
    match h : cs.toList, hl with
    | a :: b :: c :: d :: r, hl => exact ⟨a, b, c, d, r, rfl, by simpa using hl⟩
  rw [hcs] at hf
  obtain ⟨xs, m, _, _, _, hxl, hx⟩ := DataW.trod_struct Try.underlying38 hf
  have hxl : xs.length = 5 := hxl
  have k3 : Try.prog.cellsOf 3 = 1 := by kernel_rfl
  have k9 : Try.prog.cellsOf 9 = 1 := by kernel_rfl
  have k36 : Try.prog.cellsOf 36 = 16 := by kernel_rfl
  have h0 : DataW.trod enc Try.prog W 0 (fun _ => true) true m 3 (((c0 :: c1 :: c2 :: c3 :: rest).drop 0).take (Try.prog.cellsOf 3)) = xs[0]? := hx 0 _ rfl
  have h1 : DataW.trod enc Try.prog W 0 (fun _ => true) true m 3 (((c0 :: c1 :: c2 :: c3 :: rest).drop 1).take (Try.prog.cellsOf 3)) = xs[1]? := hx 1 _ rfl
  have h2 : DataW.trod enc Try.prog W 0 (fun _ => true) true m 22 (((c0 :: c1 :: c2 :: c3 :: rest).drop 2).take (Try.prog.cellsOf 22)) = xs[2]? := hx 2 _ rfl
  have h3 : DataW.trod enc Try.prog W 0 (fun _ => true) true m 9 (((c0 :: c1 :: c2 :: c3 :: rest).drop 3).take (Try.prog.cellsOf 9)) = xs[3]? := hx 3 _ rfl
  have h4 : DataW.trod enc Try.prog W 0 (fun _ => true) true m 36 (((c0 :: c1 :: c2 :: c3 :: rest).drop 4).take (Try.prog.cellsOf 36)) = xs[4]? := hx 4 _ rfl
  rw [List.getElem?_eq_getElem (by omega)] at h0 h1 h2 h3 h4
  rw [k3] at h0 h1
  rw [c22] at h2
  rw [k9] at h3
  rw [k36] at h4
  obtain ⟨p0, e0, _, _⟩ := DataW.trod_int Try.underlying3 h0
  obtain ⟨n0, e1, _, _⟩ := DataW.trod_int Try.underlying3 h1
  obtain ⟨x0, e2, _, w2⟩ := DataW.trod_int Try.underlying22 h2
  obtain ⟨s0, e3, _⟩ := DataW.trod_string Try.underlying9 h3
  obtain ⟨f, hf, e4⟩ := arr_u64 Try.underlying36 k36 h4
  have e0 : c0 = .int .i64 p0 := by simpa using e0
  have e1 : c1 = .int .i64 n0 := by simpa using e1
  have e2 : c2 = .int .u64 x0 := by simpa using e2
  have e3 : c3 = .string s0 := by simpa using e3
  have e4 : rest = (List.range 16).map fun i => Value.int .u64 (f i) := by
    rw [← e4]
    show rest = rest.take 16
    rw [← hrl, List.take_length]
  refine ⟨p0, n0, x0, s0, f, ?_, wf_u64 w2, hf⟩
  have : cs = (c0 :: c1 :: c2 :: c3 :: rest).toArray := by rw [← hcs]
  rw [this, e0, e1, e2, e3, e4]
  rfl
end
set_option maxRecDepth 100000 in
theorem contract (H : Type) (enc : TypeId × Value → H) (W : World) (base : Nat) (args : Array Value) (ds gs : List (DataW H)) (before : List MemPlace)
    (hval : ∀ (j : Nat) t v, Try.f4.params[j]? = some t → args[j]? = some v → Value.okWide Try.prog W .any base t v)
    (hW : DataW.Whole enc Try.prog Try.f4.params.toList Rows.bookEntriesSpec.vars false W args.toList ds gs before) :
    Calls Try.prog 4 args W fun e W' => ∃ v, e = .returned v ∧ Rows.bookEntriesSpec.post enc Try.prog Try.f4 false true false false W args v W' := by
  have hW' := hW
  obtain ⟨p, q, hA0, hV, rfl, hfz, hnd⟩ := hW
  have hA : DataW.TrodAll enc Try.prog W 0 (fun _ => true) true Try.f4.params.toList args.toList ds p := hA0
  rw [Try.params4] at hA hval
  obtain ⟨v0, vs0, d0, ds0, p0, q0, hargs, rfl, rfl, h0, r0⟩ := trodAll_cons hA
  obtain ⟨v1, vs1, d1, ds1, p1, q1, rfl, rfl, rfl, h1, r1⟩ := trodAll_cons r0
  obtain ⟨rfl, rfl, rfl⟩ := trodAll_nil r1
  obtain rfl : args = #[v0, v1] := Array.ext' hargs
  obtain ⟨rfl, rfl⟩ := trodVars_none hV
  obtain ⟨a1, a2, a3, a4, a5, rfl, xa, xf⟩ := entry_open (hval 0 38 v0 rfl rfl) h0
  obtain ⟨s, rfl, rfl, rfl, ws⟩ := open_string Try.underlying9 (hval 1 9 v1 rfl rfl) h1
  clear hA0
  simp only [List.append_nil] at hW'
  have hlt := hW'.lt
  refine (bookEntries_ans (p := a1) (n := a2) (s := a4) (se := a5) (t := s) xa xf W (ro_in W)).mono fun e W' ⟨he, hg⟩ => ?_
  subst he
  exact ⟨_, rfl, post_belowP hW' (fun _ _ _ => trodAll_cons_mk (shut_bool Try.underlying4 _) trodAll_mk0)
    (fun sp hsp => trodAll_cons_mk (slice_stays (by kernel_rfl) (of_decide_eq_true (by kernel_rfl)) sp hg (fun q hq => hlt q (by simp [hq])) (fun q hq => hsp q (by simp [hq])) h0) (trodAll_cons_mk (shut_string Try.underlying9 ws) trodAll_mk0))
    (fun _ _ => rfl) (by simp) hg (ok_one (by kernel_rfl) rfl (okWide_bool_mk Try.underlying4 _))⟩
set_option maxRecDepth 100000 in
theorem lifted (os : Os) (started : os.Started) (H : Type) (enc : TypeId × Value → H) :
    ReturnsInHanded {} Try.checked os 4 .any (Rows.bookEntriesSpec.pre6 enc Try.prog Try.f4 Rows.bookEntriesRow.domain false) (Rows.bookEntriesSpec.post enc Try.prog Try.f4 false true false false) := by
  refine returnsInHanded_of_change (C := Try.checked) own started (by kernel_rfl) Try.func4
    (ChangeSpec.witness6 (enc := enc) (C := Try.checked) false ⟨#[], #[.agg (([.int .i64 0, .int .i64 0, .int .u64 0, .string ⟨#[]⟩] : List Value) ++ List.replicate 16 (Value.int .u64 0)).toArray, .string ⟨#[]⟩], []⟩ 8 (by kernel_rfl) (by kernel_rfl) (by kernel_rfl) (by kernel_rfl)) ?_
  intro W base args ds gs before hval hW _ _
  exact contract H enc W base args ds gs before hval hW
theorem over : Rows.bookEntriesRow.holds Try.pinned (OpenSpec.ofChange Rows.bookEntriesSpec) :=
  OpenClaim.holds_of_wide 4 Try.f4 rfl rfl rfl rfl rfl rfl rfl ⟨rfl, rfl, rfl, rfl, rfl⟩ rfl rfl rfl rfl rfl (by kernel_rfl) Try.func4 (by kernel_rfl)
    (of_decide_eq_true (by kernel_rfl)) (by unfold Func.isWrapper; first | (rw [if_pos (by decide +kernel)]; kernel_rfl) | (rw [if_neg (by decide +kernel)]; exact ⟨rfl, rfl⟩))
    (fun os started H enc _ => lifted os started H enc)
theorem proved : Rows.BookEntriesSaid :=
  over
end Go.Proofs.Ytjeikabpnplogaa.bookEntries
