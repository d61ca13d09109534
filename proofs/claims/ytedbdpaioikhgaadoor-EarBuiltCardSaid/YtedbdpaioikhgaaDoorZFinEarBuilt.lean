/- For every ear, valid or not, every order and every choice of its features: Build of the features in that order returns the ear, and Build of some of them returns a valid ear whose Features are those, in their order: the law EarBuilt answers true for every input, with no condition. -/
import Derived.Test.YtedbdpaioikhgaaDoorZFinD
import Derived.Test.YtedbdpaioikhgaaDoorZLawBuilt
namespace Go.Proofs.YtedbdpaioikhgaaDoor.earBuilt
open Go Go.RowKit Go.Proofs Go.Ri Go.ChangeShapes Go.WideShapes Go.ChangeAt Go.Proofs.Z

theorem own : ownKnob Tryd.prog.godebug = none := by kernel_rfl
set_option maxRecDepth 100000 in
theorem contract (H : Type) (enc : TypeId × Value → H) (W : World) (base : Nat) (args : Array Value) (ds gs : List (DataW H)) (before : List MemPlace)
    (hval : ∀ (j : Nat) t v, Tryd.f5.params[j]? = some t → args[j]? = some v → Value.okWide Tryd.prog W .any base t v)
    (hW : DataW.Whole enc Tryd.prog Tryd.f5.params.toList Rows.earBuiltSpec.vars false W args.toList ds gs before) (hL : laidMetH Tryd.prog Rows.earBuiltRow.laid W) :
    Calls Tryd.prog 5 args W fun e W' => ∃ v, e = .returned v ∧ Rows.earBuiltSpec.post enc Tryd.prog Tryd.f5 false true false false W args v W' := by
  have hW' := hW
  obtain ⟨p, q, hA0, hV, rfl, hfz, hnd⟩ := hW
  have hA : DataW.TrodAll enc Tryd.prog W 0 (fun _ => true) true Tryd.f5.params.toList args.toList ds p := hA0
  rw [Tryd.params5] at hA hval
  obtain ⟨v0, vs0, d0, ds0, p0, q0, hargs, rfl, rfl, h0, r0⟩ := trodAll_cons hA
  obtain ⟨v1, vs1, d1, ds1, p1, q1, rfl, rfl, rfl, h1, r1⟩ := trodAll_cons r0
  obtain ⟨v2, vs2, d2, ds2, p2, q2, rfl, rfl, rfl, h2, r2⟩ := trodAll_cons r1
  obtain ⟨rfl, rfl, rfl⟩ := trodAll_nil r2
  obtain rfl : args = #[v0, v1, v2] := Array.ext' hargs
  obtain ⟨rfl, rfl⟩ := trodVars_none hV
  obtain ⟨x0a, x0b, rfl⟩ := ear_shape (hval 0 25 v0 rfl rfl)
  have hv1 := hval 1 41 v1 rfl rfl
  have hv2 := hval 2 42 v2 rfl rfl
  obtain rfl := nil_ear' h0
  clear hA0
  simp only [List.append_nil, List.nil_append] at hW'
  have hr := roIn_of hL
  have hlt := hW'.lt
  have fin : ∀ e W', (e = Ending.returned (.bool true) ∧ Below W.heap.size W W') → ∃ v, e = Ending.returned v ∧ Rows.earBuiltSpec.post enc Tryd.prog Tryd.f5 false true false false W #[earF x0a x0b, v1, v2] v W' := by
    rintro e W' ⟨rfl, hg⟩
    exact ⟨_, rfl, post_belowP hW' (fun _ _ _ => trodAll_cons_mk (shut_bool Tryd.underlying4 _) trodAll_mk0)
      (fun sp hsp => (trodAll_cons_mk (ear_stays sp h0) (trodAll_cons_mk (slice_stays (by kernel_rfl) (of_decide_eq_true (by kernel_rfl)) sp hg (fun q hq => hlt q (by simp [hq])) (fun q hq => hsp q (by simp [hq])) h1) (trodAll_cons_mk (slice_stays (by kernel_rfl) (of_decide_eq_true (by kernel_rfl)) sp hg (fun q hq => hlt q (by simp [hq])) (fun q hq => hsp q (by simp [hq])) h2) trodAll_mk0)))) (fun _ _ => rfl) (by simp) hg (ok_one (by kernel_rfl) rfl (okWide_bool_mk Tryd.underlying4 _))⟩
  rcases bytes_open hv1 h1 with rfl | ⟨a1, n1, cap1, l1, rfl, g1, g2, g3, g4, g5⟩
  · rcases bools_open hv2 h2 with rfl | ⟨a2, n2, cap2, l2, rfl, k1, k2, k3, k4, k5⟩
    · exact (built_law x0a x0b [] [] (fun v h => by cases h) (fun v h => by cases h) true true (fun _ => rfl) (fun _ => rfl) W hr [earF x0a x0b, .slice none 0 0, .slice none 0 0] (.cons rfl (.cons rfl (.cons rfl .nil)))).mono fin
    · exact (built_law x0a x0b l2 [] k1 (fun v h => by cases h) true false (fun _ => rfl) (fun h => by cases h) W hr [earF x0a x0b, .slice none 0 0, .slice (some a2) n2 cap2] (.cons rfl (.cons rfl (.cons ⟨a2, n2, cap2, rfl, k4, by decide, k2, k3, k5⟩ .nil)))).mono fin
  · rcases bools_open hv2 h2 with rfl | ⟨a2, n2, cap2, l2, rfl, k1, k2, k3, k4, k5⟩
    · exact (built_law x0a x0b [] l1 (fun v h => by cases h) g1 false true (fun h => by cases h) (fun _ => rfl) W hr [earF x0a x0b, .slice (some a1) n1 cap1, .slice none 0 0] (.cons rfl (.cons ⟨a1, n1, cap1, rfl, g4, by decide, g2, g3, g5⟩ (.cons rfl .nil)))).mono fin
    · exact (built_law x0a x0b l2 l1 k1 g1 false false (fun h => by cases h) (fun h => by cases h) W hr [earF x0a x0b, .slice (some a1) n1 cap1, .slice (some a2) n2 cap2] (.cons rfl (.cons ⟨a1, n1, cap1, rfl, g4, by decide, g2, g3, g5⟩ (.cons ⟨a2, n2, cap2, rfl, k4, by decide, k2, k3, k5⟩ .nil)))).mono fin

def lits (k : IntKind) (l : List Int) : Array Value := (l.map fun n => Value.int k n).toArray
def zeroD1 {H : Type} : DataW H := .agg [.lit (.int .i64 0), .agg [.lit (.int .i64 0), .lit (.int .i64 0), .lit (.int .i64 0), .lit (.int .i64 0)], .agg [.lit (.int .i64 0), .lit (.int .i64 0), .lit (.int .i64 0), .lit (.int .i64 0)], .agg [.lit (.bool false), .lit (.bool false), .lit (.bool false)]]
noncomputable def put (cs : Array Value) (h : Array Obj) (g : Nat) : Array Obj := h.modify g fun
  | .cells _ t frozen => .cells cs t frozen
  | o => o
def cellsOfD (d : DataW Unit) : Array Value := match d with
  | .agg l => (l.map fun x => match x with | .lit (.int k n) => Value.int k n | _ => undef).toArray
  | _ => #[]
noncomputable def laidWorld (os : Os) : World :=
  { World.holding Tryd.prog os ⟨#[], #[], []⟩ with heap := put (cellsOfD Rows.laid_math_bits_deBruijn64tab) (put (cellsOfD Rows.laid_math_bits_deBruijn32tab) (put (cellsOfD Rows.laid_internal_strconv_uint64pow10) (put (cellsOfD Rows.laid_earmark_ear_edgeCounts) (World.holding Tryd.prog os ⟨#[], #[], []⟩).heap 0) 2) 3) 4 }
set_option maxRecDepth 100000 in
theorem laid_met (os : Os) : laidMet Tryd.prog Rows.earBuiltRow.laid ((laidWorld os).forCall (fun _ _ => 0) ⟨#[], #[(earF (fun _ => 0) (fun _ => false)), (.slice none 0 0), (.slice none 0 0)], []⟩).memory :=
  laidMet_of_run' 8 (by kernel_rfl) (by kernel_rfl)
set_option maxRecDepth 100000 in
theorem reads (os : Os) {H : Type} (enc : TypeId × Value → H) : ∃ places, DataW.whole enc Tryd.prog ((laidWorld os).forCall (fun _ _ => 0) ⟨#[], #[(earF (fun _ => 0) (fun _ => false)), (.slice none 0 0), (.slice none 0 0)], []⟩).memory Tryd.f5.params.toList Rows.earBuiltSpec.vars false #[(earF (fun _ => 0) (fun _ => false)), (.slice none 0 0), (.slice none 0 0)].toList 8 = some ([zeroD1, .nil, .nil], [], places) :=
  ⟨[], by kernel_rfl⟩
set_option maxRecDepth 100000 in
theorem lifted (os : Os) (started : os.Started) (H : Type) (enc : TypeId × Value → H) (F : Stop.Interp) :
    ReturnsInHanded {} Tryd.checked os 5 .any ((OpenSpec.ofChange Rows.earBuiltSpec).preRow enc Tryd.prog Tryd.f5 Rows.earBuiltRow.domain false Rows.earBuiltRow.laid) (((OpenSpec.ofChange Rows.earBuiltSpec).at F).post enc Tryd.prog Tryd.f5 false true false false) := by
  obtain ⟨places, hx⟩ := reads os enc
  refine returnsInHanded_of_row (C := Tryd.checked) (s := OpenSpec.ofChange Rows.earBuiltSpec) own started (by kernel_rfl) Tryd.func5
    (witness_row_at (enc := enc) (C := Tryd.checked) false (laidWorld os) #[(earF (fun _ => 0) (fun _ => false)), (.slice none 0 0), (.slice none 0 0)] rfl (by kernel_rfl) (by kernel_rfl) (by kernel_rfl)
      (OpenSpec.preRow_of_cond 8 hx (by kernel_rfl) (fun k hk => by cases hk) (by kernel_rfl) (laid_met os))) ?_
  intro W base args ds gs before hval hW _ _ _ hL _ _
  exact contract H enc W base args ds gs before hval hW hL
set_option maxRecDepth 100000 in
theorem said : Rows.EarBuiltSaid :=
  OpenClaim.holds_of_cond 5 Tryd.f5 rfl rfl rfl rfl rfl rfl rfl ⟨rfl, rfl, rfl, rfl, rfl⟩ rfl rfl rfl rfl rfl (by kernel_rfl) Tryd.func5 (by kernel_rfl)
    (of_decide_eq_true (by kernel_rfl)) (by unfold Func.isWrapper; first | (rw [if_pos (by decide +kernel)]; kernel_rfl) | (rw [if_neg (by decide +kernel)]; exact ⟨rfl, rfl⟩))
    (fun os started H enc _ F => by rw [OpenClaim.pre_eq_preRow]; exact lifted os started H enc F)
set_option maxRecDepth 100000 in
theorem plain (f : FuncId) (fn : Func) (hf : Tryd.pinned.checked.prog.funcNamed "earmark/earmarklaw01.EarBuilt" = some f) (hfn : Tryd.pinned.checked.prog.funcs[f]? = some fn) :
    false = Tryd.pinned.checked.prog.looks [] ∧ ∀ (j : Nat) t, fn.params[j]? = some t → Tryd.pinned.checked.prog.wantsStandIn t = false := by
  obtain rfl : f = 5 := Option.some.inj ((show Tryd.prog.funcNamed "earmark/earmarklaw01.EarBuilt" = some 5 by kernel_rfl).symm.trans hf) |>.symm
  obtain rfl : fn = Tryd.f5 := (Option.some.inj (Tryd.func5.symm.trans hfn)).symm
  refine ⟨by kernel_rfl, fun j t ht => ?_⟩
  rw [Tryd.params5] at ht
  have hm := Array.mem_of_getElem? ht
  simp only [List.mem_toArray, List.mem_cons, List.not_mem_nil, or_false] at hm
  rcases hm with rfl | rfl | rfl
  · exact (show Tryd.prog.wantsStandIn 25 = false by kernel_rfl)
  · exact (show Tryd.prog.wantsStandIn 41 = false by kernel_rfl)
  · exact (show Tryd.prog.wantsStandIn 42 = false by kernel_rfl)
set_option maxRecDepth 100000 in
/-- The card. -/
theorem card : Rows.EarBuiltCardSaid :=
  Claim7.holds_tied_plain_at .later [] _ _ _ _ said (fun _ h => by cases h) (by kernel_rfl) (fun _ h => by cases h) earBuilt_row_tie rfl ⟨rfl, rfl⟩ (by kernel_rfl) rfl plain (by kernel_rfl)
end Go.Proofs.YtedbdpaioikhgaaDoor.earBuilt
