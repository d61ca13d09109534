/- A part of the proofs that the laws of layer four answer true for every input. -/
import Derived.Test.YtjjmnoiiihcoiaaGreatDoorZFoT
import Derived.Test.YtjjmnoiiihcoiaaGreatDoorZFoB
import Derived.Test.YtjjmnoiiihcoiaaGreatDoorZLbLay
import Derived.Lib.AtoiErrMem
import Derived.Lib.AppendIntMem
namespace Go.Proofs.Z
open Go Go.RowKit Go.Proofs Go.Ri Go.Shelf
/-! The library's functions: closed answers. -/
theorem roIn_row {w : World} (hr : RoIn ro w) {k : Nat} {cs : List Value} (hk : ro.lookup k = some cs) (hc : cs ≠ []) (hf : isIfRow cs = false) : ∃ cur e fr, w.heap[k]? = some (.cells cur e fr) ∧ cur.toList = cs := by
  obtain ⟨_, cur, e, fr, h1, h2⟩ := hr k cs hk
  rcases h2 with ⟨h2, _⟩ | ⟨h2, _⟩ | ⟨h2, _⟩
  · exact ⟨cur, e, fr, h1, h2⟩
  · exact absurd h2 hc
  · rw [h2] at hf
    cases hf
theorem roIn_one {w : World} (hr : RoIn ro w) : ∃ m, w.cell? ⟨1, 0, none⟩ = some (.int .i64 m) := by
  obtain ⟨_, cur, e, fr, h1, h2⟩ := hr 1 [] rfl
  rcases h2 with ⟨_, h2⟩ | ⟨_, m, h2⟩ | ⟨h2, _⟩
  · exact absurd rfl h2.1
  · refine ⟨m, ?_⟩
    rw [cell_of_row w 1 0 cur e fr h1]
    have : cur = #[.int .i64 m] := by
      apply Array.ext'
      rw [h2]
    rw [this]
    rfl
  · cases h2
theorem pow_in {w : World} (hr : RoIn ro w) : Lib.TabIs Tryz.prog w "internal/strconv.uint64pow10" .u64 Lib.pow10Tab := by
  obtain ⟨cur, e, fr, h1, h2⟩ := roIn_row hr (k := 2) (cs := powCells) rfl (by decide) rfl
  have hg : Tryz.prog.globalNamed "internal/strconv.uint64pow10" = some 2 := by kernel_rfl
  show World.var? _ _ _ = _
  unfold World.var?
  rw [hg]
  show (match w.heap[2]? with | some (.cells cs _ _) => some cs | _ => none) = _
  rw [h1]
  show some cur = _
  congr 1
  apply Array.ext'
  rw [h2]
  rfl
theorem itoa_ans (n : Int) (h0 : -9223372036854775808 ≤ n) (h1 : n ≤ 9223372036854775807) : Ans fItoa [.int .i64 n] (.string ⟨(Lib.itoa n).toArray⟩) := fun w hr =>
  (Any.strconv_Itoa W.Xitoa n h0 h1 w (pow_in hr)).mono fun e w' ⟨h, k, os, hw⟩ => ⟨h, by
    rw [hw]
    exact Lib.below_grow _ w (Nat.le_refl _) k os⟩
theorem atoi_ans (s : ByteArray) (v : Int) (hs : s.size ≤ 9223372036854775806) (h : Lib.atoiAll s.data.toList = .ok v) : Ans fAtoi [.string s] (.tuple #[.int .i64 v, .nilIface]) := fun w _ =>
  (Any.strconv_Atoi_ok W.Xatoi s hs v h w).mono fun e w' ⟨h, hw⟩ => ⟨h, by
    rcases hw with rfl | ⟨t, rfl⟩
    · exact Below.refl _ _
    · exact Lib.bytesWorld_below _ _ _⟩
theorem cut_ans (s sep : ByteArray) (hs : s.size < 4294967281) : Ans fCut [.string s, .string sep] (.tuple #[.string ⟨(Lib.cut s.data.toList sep.data.toList).1.toArray⟩, .string ⟨(Lib.cut s.data.toList sep.data.toList).2.1.toArray⟩, .bool (Lib.cut s.data.toList sep.data.toList).2.2]) := fun w hr => by
  obtain ⟨m, hm⟩ := roIn_one hr
  exact (Any.strings_Cut W.Xcut s sep m w hs hm).mono fun e w' ⟨h, n, hw⟩ => ⟨h, by
    rw [hw]
    exact ⟨rfl, rfl, rfl, Nat.le_refl _, fun _ _ => rfl⟩⟩
theorem itoa_ent {n : Int} {l : List UInt8} (h0 : -9223372036854775808 ≤ n) (h1 : n ≤ 9223372036854775807) (h : Lib.itoa n = l) : EntTrue Tryz.prog ro ⟨fItoa, [.int .i64 n], str l⟩ := by
  have := itoa_ans n h0 h1
  rw [h] at this
  exact this
theorem atoi_ent {l : List UInt8} {v : Int} (hs : l.length ≤ 1000) (h : Lib.atoiAll l = .ok v) : EntTrue Tryz.prog ro ⟨fAtoi, [str l], .tuple #[.int .i64 v, .nilIface]⟩ :=
  atoi_ans ⟨l.toArray⟩ v (by
    show l.toArray.size ≤ _
    rw [List.size_toArray]
    omega) h
theorem cut_ent {l sep a b : List UInt8} {q : Bool} (hs : l.length ≤ 1000) (h : Lib.cut l sep = (a, b, q)) : EntTrue Tryz.prog ro ⟨fCut, [str l, str sep], .tuple #[str a, str b, .bool q]⟩ := by
  have := cut_ans ⟨l.toArray⟩ ⟨sep.toArray⟩ (by
    show l.toArray.size < _
    rw [List.size_toArray]
    omega)
  have h' : Lib.cut l.toArray.toList sep.toArray.toList = (a, b, q) := h
  rw [h'] at this
  exact this
theorem libT_true : ∀ e, e ∈ libT → EntTrue Tryz.prog ro e := by
  intro e he
  simp only [libT, List.mem_cons, List.not_mem_nil, or_false] at he
  rcases he with rfl | rfl | rfl | rfl | rfl | rfl | rfl | rfl | rfl | rfl | rfl | rfl | rfl | rfl | rfl | rfl | rfl | rfl | rfl | rfl
  · exact cut_ent (by decide) (by kernel_rfl)
  · exact cut_ent (by decide) (by kernel_rfl)
  · exact atoi_ent (by decide) (by kernel_rfl)
  · exact atoi_ent (by decide) (by kernel_rfl)
  · exact atoi_ent (by decide) (by kernel_rfl)
  · exact atoi_ent (by decide) (by kernel_rfl)
  · exact atoi_ent (by decide) (by kernel_rfl)
  all_goals exact itoa_ent (by decide) (by decide) (by kernel_rfl)
theorem clos_true : ∀ e, e ∈ closT → EntTrue Tryz.prog ro e :=
  tab_true hm (cfgT_ok { X := gateX }) (by
    letI : Val := V0
    exact @xokT V0 _ ({ X := gateX_true } : @TbOK V0 { X := gateX })) clos_ok
theorem libX_true : XTrue libX := by
  intro f vs v h
  unfold libX at h
  split at h
  · rename_i v' hg
    cases h
    exact gateX_true f vs _ hg
  · split at h
    · obtain ⟨e, he, rfl, rfl, rfl⟩ := look_mem closT f vs v h
      exact clos_true e he
    · obtain ⟨e, he, rfl, rfl, rfl⟩ := look_mem libT f vs v h
      exact libT_true e he
theorem split_F {l sep : List UInt8} {L : List (List UInt8)} (hs : l.length ≤ 1000) (h1 : 1 ≤ sep.length) (hc : Lib.countB ⟨l.toArray⟩ ⟨sep.toArray⟩ + 1 = L.length)
    (h : Lib.splitB ⟨sep.toArray⟩ 0 (Lib.countB ⟨l.toArray⟩ ⟨sep.toArray⟩) ⟨l.toArray⟩ = L.map fun x => ⟨x.toArray⟩) : FTrue Tryz.prog ro fSplitS [str l, str sep] ⟨L.map str, L.length, 1, 9⟩ := fun w hr => by
  obtain ⟨m, hm⟩ := roIn_one hr
  refine (Any.strings_Split W.Xsplit (by kernel_rfl) ⟨l.toArray⟩ ⟨sep.toArray⟩ m w (by
    show l.toArray.size < _
    rw [List.size_toArray]
    omega) hm (by
    show 1 ≤ sep.toArray.size
    rw [List.size_toArray]
    exact h1)).mono fun e w' ⟨he, hw⟩ => ?_
  rw [hc, h] at *
  have hL : ((L.map fun x => (⟨x.toArray⟩ : ByteArray)).map Value.string) = L.map str := by
    rw [List.map_map]
    rfl
  rw [hL] at hw
  have hz : (L.map str).toArray.size / 1 = L.length := by
    rw [Nat.div_one, List.size_toArray, List.length_map]
  refine ⟨w.heap.size, (L.map str).toArray, ?_, Nat.le_refl _, ?_, ?_, ?_, ?_⟩
  · rw [he]
    show _ = Ending.returned (.slice _ L.length ((L.map str).toArray.size / 1))
    rw [hz]
  · rw [hw]
    show (w.heap.push _)[w.heap.size]? = _
    rw [Array.getElem?_push_size]
    rfl
  · show L.length ≤ (L.map str).toArray.size / 1
    rw [hz]
    exact Nat.le_refl _
  · show List.take (L.map str).length (L.map str) = L.map str
    exact List.take_of_length_le (Nat.le_refl _)
  · rw [hw]
    exact (Below.refl _ w).alloc (Nat.le_refl _) _
theorem libF_true : FXTrue libF := by
  intro f vs q h
  unfold libF at h
  split at h
  · rename_i hf
    obtain rfl := Nat.eq_of_beq_eq_true hf
    split at h
    · rename_i he
      cases h
      rw [eqL_eq (fun _ _ => eqOne_eq) _ _ he]
      exact split_F (L := [fl, [50]]) (by decide) (by decide) (by kernel_rfl) (by kernel_rfl)
    · split at h
      · rename_i he
        cases h
        rw [eqL_eq (fun _ _ => eqOne_eq) _ _ he]
        exact split_F (L := [gateB, [49], [48], [53], [54]]) (by decide) (by decide) (by kernel_rfl) (by kernel_rfl)
      · cases h
  · cases h
end Go.Proofs.Z
