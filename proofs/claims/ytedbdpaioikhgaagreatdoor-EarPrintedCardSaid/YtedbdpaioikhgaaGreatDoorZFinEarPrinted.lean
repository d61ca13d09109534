/- For every mark, valid or not, all lists of bytes and every string: parsing inverts printing of the mark, with its parts in any order and any blanks, and the short notation is that of the ear alone. The law EarPrinted answers true for every input, with no condition. -/
import Derived.Test.YtedbdpaioikhgaaGreatDoorZFinP
import Derived.Test.YtedbdpaioikhgaaGreatDoorZLawPrinted
namespace Go.Proofs.YtedbdpaioikhgaaGreatDoor.earPrinted
open Go Go.RowKit Go.Proofs Go.Ri Go.ChangeShapes Go.WideShapes Go.ChangeAt Go.Proofs.Z

theorem own : ownKnob Tryz.prog.godebug = none := by kernel_rfl
set_option maxRecDepth 100000 in
theorem contract (H : Type) (enc : TypeId × Value → H) (W : World) (base : Nat) (args : Array Value) (ds gs : List (DataW H)) (before : List MemPlace)
    (hval : ∀ (j : Nat) t v, Tryz.f10.params[j]? = some t → args[j]? = some v → Value.okWide Tryz.prog W .any base t v)
    (hW : DataW.Whole enc Tryz.prog Tryz.f10.params.toList Rows.earPrintedSpec.vars false W args.toList ds gs before) (hL : laidMetH Tryz.prog Rows.earPrintedRow.laid W) :
    Calls Tryz.prog 10 args W fun e W' => ∃ v, e = .returned v ∧ Rows.earPrintedSpec.post enc Tryz.prog Tryz.f10 false true false false W args v W' := by
  have hW' := hW
  obtain ⟨p, q, hA0, hV, rfl, hfz, hnd⟩ := hW
  have hA : DataW.TrodAll enc Tryz.prog W 0 (fun _ => true) true Tryz.f10.params.toList args.toList ds p := hA0
  rw [Tryz.params10] at hA hval
  obtain ⟨v0, vs0, d0, ds0, p0, q0, hargs, rfl, rfl, h0, r0⟩ := trodAll_cons hA
  obtain ⟨v1, vs1, d1, ds1, p1, q1, rfl, rfl, rfl, h1, r1⟩ := trodAll_cons r0
  obtain ⟨v2, vs2, d2, ds2, p2, q2, rfl, rfl, rfl, h2, r2⟩ := trodAll_cons r1
  obtain ⟨v3, vs3, d3, ds3, p3, q3, rfl, rfl, rfl, h3, r3⟩ := trodAll_cons r2
  obtain ⟨rfl, rfl, rfl⟩ := trodAll_nil r3
  obtain rfl : args = #[v0, v1, v2, v3] := Array.ext' hargs
  obtain ⟨rfl, rfl⟩ := trodVars_none hV
  obtain ⟨x0a, x0b, x0c, x0d, rfl⟩ := mark_shape (hval 0 27 v0 rfl rfl)
  have hv1 := hval 1 67 v1 rfl rfl
  have hv2 := hval 2 67 v2 rfl rfl
  obtain ⟨x3a, rfl⟩ := str_shape (hval 3 9 v3 rfl rfl)
  obtain rfl := nil_mark' h0
  obtain rfl := nil_str' h3
  clear hA0
  simp only [List.append_nil, List.nil_append] at hW'
  have hr := roIn_of hL
  have hlt := hW'.lt
  have fin : ∀ e W', (e = Ending.returned (.bool true) ∧ Below W.heap.size W W') → ∃ v, e = Ending.returned v ∧ Rows.earPrintedSpec.post enc Tryz.prog Tryz.f10 false true false false W #[markF x0a x0b x0c x0d, v1, v2, Value.string x3a] v W' := by
    rintro e W' ⟨rfl, hg⟩
    exact ⟨_, rfl, post_belowP hW' (fun _ _ _ => trodAll_cons_mk (shut_bool Tryz.underlying4 _) trodAll_mk0)
      (fun sp hsp => (trodAll_cons_mk (mark_stays sp h0) (trodAll_cons_mk (slice_stays (by kernel_rfl) (of_decide_eq_true (by kernel_rfl)) sp hg (fun q hq => hlt q (by simp [hq])) (fun q hq => hsp q (by simp [hq])) h1) (trodAll_cons_mk (slice_stays (by kernel_rfl) (of_decide_eq_true (by kernel_rfl)) sp hg (fun q hq => hlt q (by simp [hq])) (fun q hq => hsp q (by simp [hq])) h2) (trodAll_cons_mk (str_stays sp h3) trodAll_mk0))))) (fun _ _ => rfl) (by simp) hg (ok_one (by kernel_rfl) rfl (okWide_bool_mk Tryz.underlying4 _))⟩
  rcases bytes_open hv1 h1 with rfl | ⟨a1, n1, cap1, l1, rfl, g1, g2, g3, g4, g5⟩
  · rcases bytes_open hv2 h2 with rfl | ⟨a2, n2, cap2, l2, rfl, k1, k2, k3, k4, k5⟩
    · exact (Go.Proofs.Z.Pr.printed_law x0a x0b x0c x0d [] [] x3a (fun v h => by cases h) (fun v h => by cases h) true true (fun _ => rfl) (fun _ => rfl) W hr [markF x0a x0b x0c x0d, .slice none 0 0, .slice none 0 0, .string x3a] (fun X Y e => .cons rfl (.cons rfl (.cons rfl (.cons rfl .nil))))).mono fin
    · exact (Go.Proofs.Z.Pr.printed_law x0a x0b x0c x0d [] l2 x3a (fun v h => by cases h) k1 true false (fun _ => rfl) (fun h => by cases h) W hr [markF x0a x0b x0c x0d, .slice none 0 0, .slice (some a2) n2 cap2, .string x3a] (fun X Y e => .cons rfl (.cons rfl (.cons ⟨a2, n2, cap2, rfl, k4, by decide, k2, k3, k5⟩ (.cons rfl .nil))))).mono fin
  · rcases bytes_open hv2 h2 with rfl | ⟨a2, n2, cap2, l2, rfl, k1, k2, k3, k4, k5⟩
    · exact (Go.Proofs.Z.Pr.printed_law x0a x0b x0c x0d l1 [] x3a g1 (fun v h => by cases h) false true (fun h => by cases h) (fun _ => rfl) W hr [markF x0a x0b x0c x0d, .slice (some a1) n1 cap1, .slice none 0 0, .string x3a] (fun X Y e => .cons rfl (.cons ⟨a1, n1, cap1, rfl, g4, by decide, g2, g3, g5⟩ (.cons rfl (.cons rfl .nil))))).mono fin
    · exact (Go.Proofs.Z.Pr.printed_law x0a x0b x0c x0d l1 l2 x3a g1 k1 false false (fun h => by cases h) (fun h => by cases h) W hr [markF x0a x0b x0c x0d, .slice (some a1) n1 cap1, .slice (some a2) n2 cap2, .string x3a] (fun X Y e => .cons rfl (.cons ⟨a1, n1, cap1, rfl, g4, by decide, g2, g3, g5⟩ (.cons ⟨a2, n2, cap2, rfl, k4, by decide, k2, k3, k5⟩ (.cons rfl .nil))))).mono fin

def lits (k : IntKind) (l : List Int) : Array Value := (l.map fun n => Value.int k n).toArray
def zeroD1 {H : Type} : DataW H := .agg [.lit (.int .i64 0), .agg [.lit (.int .i64 0), .lit (.int .i64 0), .lit (.int .i64 0), .lit (.int .i64 0)], .agg [.lit (.int .i64 0), .lit (.int .i64 0), .lit (.int .i64 0), .lit (.int .i64 0)], .agg [.lit (.bool false), .lit (.bool false), .lit (.bool false)]]
noncomputable def put (cs : Array Value) (h : Array Obj) (g : Nat) : Array Obj := h.modify g fun
  | .cells _ t frozen => .cells cs t frozen
  | o => o
def cellsOfD (d : DataW Unit) : Array Value := match d with
  | .agg l => (l.map fun x => match x with | .lit (.int k n) => Value.int k n | _ => undef).toArray
  | _ => #[]
noncomputable def laidWorld (os : Os) : World :=
  { World.holding Tryz.prog os ⟨#[], #[], []⟩ with heap := put (cellsOfD Rows.laid_math_bits_deBruijn64tab) (put (cellsOfD Rows.laid_math_bits_deBruijn32tab) (put (cellsOfD Rows.laid_internal_strconv_uint64pow10) (put (cellsOfD Rows.laid_earmark_ear_edgeCounts) (World.holding Tryz.prog os ⟨#[], #[], []⟩).heap 0) 2) 3) 4 }
set_option maxRecDepth 100000 in
theorem laid_met (os : Os) : laidMet Tryz.prog Rows.earPrintedRow.laid ((laidWorld os).forCall (fun _ _ => 0) ⟨#[], #[(markF (fun _ => 0) (fun _ => false) (fun _ => 0) (fun _ => false)), (.slice none 0 0), (.slice none 0 0), (.string ⟨#[]⟩)], []⟩).memory :=
  laidMet_of_run' 8 (by kernel_rfl) (by kernel_rfl)
set_option maxRecDepth 100000 in
theorem reads (os : Os) {H : Type} (enc : TypeId × Value → H) : ∃ places, DataW.whole enc Tryz.prog ((laidWorld os).forCall (fun _ _ => 0) ⟨#[], #[(markF (fun _ => 0) (fun _ => false) (fun _ => 0) (fun _ => false)), (.slice none 0 0), (.slice none 0 0), (.string ⟨#[]⟩)], []⟩).memory Tryz.f10.params.toList Rows.earPrintedSpec.vars false #[(markF (fun _ => 0) (fun _ => false) (fun _ => 0) (fun _ => false)), (.slice none 0 0), (.slice none 0 0), (.string ⟨#[]⟩)].toList 8 = some ([(.agg [zeroD1, zeroD1]), .nil, .nil, (.lit (.string []))], [], places) :=
  ⟨[], by kernel_rfl⟩
set_option maxRecDepth 100000 in
theorem lifted (os : Os) (started : os.Started) (H : Type) (enc : TypeId × Value → H) (F : Stop.Interp) :
    ReturnsInHanded {} Tryz.checked os 10 .any ((OpenSpec.ofChange Rows.earPrintedSpec).preRow enc Tryz.prog Tryz.f10 Rows.earPrintedRow.domain false Rows.earPrintedRow.laid) (((OpenSpec.ofChange Rows.earPrintedSpec).at F).post enc Tryz.prog Tryz.f10 false true false false) := by
  obtain ⟨places, hx⟩ := reads os enc
  refine returnsInHanded_of_row (C := Tryz.checked) (s := OpenSpec.ofChange Rows.earPrintedSpec) own started (by kernel_rfl) Tryz.func10
    (witness_row_at (enc := enc) (C := Tryz.checked) false (laidWorld os) #[(markF (fun _ => 0) (fun _ => false) (fun _ => 0) (fun _ => false)), (.slice none 0 0), (.slice none 0 0), (.string ⟨#[]⟩)] rfl (by kernel_rfl) (by kernel_rfl) (by kernel_rfl)
      (OpenSpec.preRow_of_cond 8 hx (by kernel_rfl) (fun k hk => by cases hk) (by kernel_rfl) (laid_met os))) ?_
  intro W base args ds gs before hval hW _ _ _ hL _ _
  exact contract H enc W base args ds gs before hval hW hL
set_option maxRecDepth 100000 in
theorem said : Rows.EarPrintedSaid :=
  OpenClaim.holds_of_cond 10 Tryz.f10 rfl rfl rfl rfl rfl rfl rfl ⟨rfl, rfl, rfl, rfl, rfl⟩ rfl rfl rfl rfl rfl (by kernel_rfl) Tryz.func10 (by kernel_rfl)
    (of_decide_eq_true (by kernel_rfl)) (by unfold Func.isWrapper; first | (rw [if_pos (by decide +kernel)]; kernel_rfl) | (rw [if_neg (by decide +kernel)]; exact ⟨rfl, rfl⟩))
    (fun os started H enc _ F => by rw [OpenClaim.pre_eq_preRow]; exact lifted os started H enc F)
set_option maxRecDepth 100000 in
theorem plain (f : FuncId) (fn : Func) (hf : Tryz.pinned.checked.prog.funcNamed "earmark/earmarklaw01.EarPrinted" = some f) (hfn : Tryz.pinned.checked.prog.funcs[f]? = some fn) :
    false = Tryz.pinned.checked.prog.looks [] ∧ ∀ (j : Nat) t, fn.params[j]? = some t → Tryz.pinned.checked.prog.wantsStandIn t = false := by
  obtain rfl : f = 10 := Option.some.inj ((show Tryz.prog.funcNamed "earmark/earmarklaw01.EarPrinted" = some 10 by kernel_rfl).symm.trans hf) |>.symm
  obtain rfl : fn = Tryz.f10 := (Option.some.inj (Tryz.func10.symm.trans hfn)).symm
  refine ⟨by kernel_rfl, fun j t ht => ?_⟩
  rw [Tryz.params10] at ht
  have hm := Array.mem_of_getElem? ht
  simp only [List.mem_toArray, List.mem_cons, List.not_mem_nil, or_false] at hm
  rcases hm with rfl | rfl | rfl | rfl
  · exact (show Tryz.prog.wantsStandIn 27 = false by kernel_rfl)
  · exact (show Tryz.prog.wantsStandIn 67 = false by kernel_rfl)
  · exact (show Tryz.prog.wantsStandIn 67 = false by kernel_rfl)
  · exact (show Tryz.prog.wantsStandIn 9 = false by kernel_rfl)
set_option maxRecDepth 100000 in
/-- The card. -/
theorem card : Rows.EarPrintedCardSaid :=
  Claim7.holds_tied_plain_at .later [] _ _ _ _ said (fun _ h => by cases h) (by kernel_rfl) (fun _ h => by cases h) earPrinted_row_tie rfl ⟨rfl, rfl⟩ (by kernel_rfl) rfl plain (by kernel_rfl)
end Go.Proofs.YtedbdpaioikhgaaGreatDoor.earPrinted
