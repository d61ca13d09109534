/- A part of the proofs that the laws of layer one answer true for every input. -/
import Derived.Test.YtedbdpaioikhgaaDoorZNbT
import Derived.Test.YtedbdpaioikhgaaDoorZNbLay
import Derived.Test.YtedbdpaioikhgaaDoorZCmC
import Derived.Test.YtedbdpaioikhgaaDoorZHook
namespace Go.Proofs.Z
open Go Go.RowKit Go.Proofs Go.Ri W
/-! slices.SortFunc over a named list of ears. -/
theorem bitI_bitY (t : Nat → Int) (i : Nat) : W.bitI (bitY t i) = W.bI (t (9 + i)) := by
  unfold bitY W.bitI W.bI
  by_cases h : t (9 + i) = 0
  · rw [if_pos h, h]; rfl
  · rw [if_neg h, show (t (9 + i) == 0) = false by simpa using h]; rfl
theorem keys_rk (t : Nat → Int) : W.keys (t 0) (t 1) (t 2) (t 3) (t 4) (t 5) (t 6) (t 7) (t 8) (bitY t 0) (bitY t 1) (bitY t 2) = W.rk t := by
  unfold W.keys W.rk W.holesI
  rw [bitI_bitY, bitI_bitY, bitI_bitY]
theorem cmp_rows (t u : Nat → Int) (w : World) : Calls Tryd.prog fCompare #[.agg (earC t).toArray, .agg (earC u).toArray] w fun e w' => e = .returned (.int .i64 (W.lexI (W.rk t) (W.rk u))) ∧ W.Gr w w' := by
  have h := W.compare_all (t 0) (t 1) (t 2) (t 3) (t 4) (t 5) (t 6) (t 7) (t 8) (u 0) (u 1) (u 2) (u 3) (u 4) (u 5) (u 6) (u 7) (u 8) (bitY t 0) (bitY t 1) (bitY t 2) (bitY u 0) (bitY u 1) (bitY u 2) w
  rw [keys_rk, keys_rk] at h
  exact h
theorem cmp_lays (s : Nat → Int) (b off size : Nat) (w : World) : CmpLays Tryd.prog fCompare #[] (encN s) 12 (W.cf s) b off size w :=
  fun _ _ _ _ q r => cmp_rows (stw s q) (stw s r) _
abbrev fSort : Nat := 51
/-- The change of a named list by the sort: list i, then list j. -/
noncomputable def sortU (i j e : Nat) : CallF := fun f args h =>
  match Nat.beq f fSort, args with
  | true, [.slN b i1 s, .pl (.func (.func g) a c)] =>
    match Nat.beq i1 i && Nat.beq s 12 && Nat.beq g fCompare && a.toList.isEmpty && c.toList.isEmpty, lkp h b with
    | true, some (.lst i2 e2 true) => match Nat.beq i2 i && Nat.beq e2 e with
      | true => some (.pl (.tuple #[]), h.set b (some (.lst j e true)))
      | false => none
    | _, _ => none
  | _, _ => none
set_option maxRecDepth 100000 in
theorem enters_cmp : ∀ args w, (callFunc fCompare args).run Tryd.prog w = .ok (.enter fCompare args) w := enters_of Tryd.func15 (by kernel_rfl) rfl
theorem sort_ok (V : Val) (i j e : Nat) (s : Nat → Int) (l : List (Nat × Nat)) (hn : l.Nodup) (hg : ∀ q, q ∈ l → W.good s q) (hlen : l.length < 1000) (hi : V.L i = cellsN s l) (hj : V.L j = cellsN s (W.srt s l)) : @UOK V (sortU i j e) := by
  letI : Val := V
  intro f args h r h' hu base w0 E w vs H ha
  unfold sortU at hu
  split at hu
  case h_2 => cases hu
  rename_i b i1 s1 g a c hf
  split at hu
  case h_2 => cases hu
  rename_i _ _ i2 e2 hc1 hl
  split at hu
  case h_2 => cases hu
  rename_i _ hc2
  cases hu
  simp only [Bool.and_eq_true] at hc1 hc2
  obtain ⟨⟨⟨⟨g1, g2⟩, g3⟩, g4⟩, g5⟩ := hc1
  obtain rfl := Nat.eq_of_beq_eq_true hf
  obtain rfl := Nat.eq_of_beq_eq_true g1
  obtain rfl := Nat.eq_of_beq_eq_true g2
  obtain rfl := Nat.eq_of_beq_eq_true g3
  obtain rfl := Nat.eq_of_beq_eq_true hc2.1
  obtain rfl := Nat.eq_of_beq_eq_true hc2.2
  have ea : a = #[] := by simpa using g4
  have ec : c = #[] := by simpa using g5
  subst ea
  subst ec
  have hb : at? h b = some (.lst i2 e2 true) := by rw [lkp_eq] at hl; exact hl
  obtain ⟨p, hp, hbase, cur, fr, hheap, hcs, htake, hfr⟩ := H.blk1 b _ hb rfl
  obtain rfl := hfr rfl
  cases ha with
  | cons h1 h2 =>
  cases h2 with
  | cons h3 h4 =>
  cases h4
  obtain ⟨p2, n, hp2, _, hln, hcap, rfl⟩ := h1
  rw [hp] at hp2
  cases hp2
  have h3 : _ = _ := h3
  subst h3
  rw [hi] at hln htake
  have hn' : n = l.length := by rw [cellsN_len] at hln; omega
  subst hn'
  have hH : Sort.HoldsK (encN s) 12 w p.1 0 l.toArray := W.holds_of (encN s) 12 (by decide) (fun _ => rfl) l.toArray w p.1 cur e2 hheap htake
  have hcon := AnyQ.slices_SortFunc W.srt_lay 12 Tryd.isAgg25 Tryd.sizeOf25 (encN s) (fun _ => rfl) (fun q v hv => earC_one _ v hv) (W.cf s) (W.cf_swo s) fCompare #[] p.1 0 (p.2 / 12) l.toArray w enters_cmp (cmp_lays s p.1 0 _ w) hH (H.heap_ne hb hp) (by show l.length < _; omega)
  refine Calls.mono hcon ?_
  rintro x w' ⟨rfl, d', m, os, hperm, hsort, rfl⟩
  have hd := W.sorted_srt s l d' hn hg hperm hsort
  have hdl : d'.size * 12 ≤ cur.size := by
    have e1 : d'.size = l.length := by
      have := (W.srt_perm s l).length_eq
      rw [← this, ← hd]
      simp
    have := congrArg List.length htake
    rw [List.length_take, cellsN_len] at this
    rw [e1]
    simp at this
    omega
  obtain ⟨⟨cur', k1, k2, k3⟩, k4, k5, k6, k7, k8⟩ := W.sorted_world (encN s) 12 (by decide) (fun _ => rfl) w p.1 m cur e2 d' os hheap hdl
  refine ⟨_, E, rfl, List.prefix_refl E, rfl, ?_⟩
  refine H.write hb hp rfl rfl _ ⟨k6, k7, k8, k5, fun k hk => k4 k (by omega) (by have := H.size; omega)⟩ (fun k hk hlt => k4 k hk hlt) ⟨cur', (0, 0), k1, k2.trans hcs, ?_, fun _ => rfl⟩
  rw [hj]
  show cur'.toList.take (cellsN s (W.srt s l)).length = cellsN s (W.srt s l)
  rw [← hd]
  exact k3
end Go.Proofs.Z

namespace Go.Proofs.Z
open Go Go.RowKit Go.Proofs Go.Ri W
/-! Neighbours of package ear. -/
noncomputable def nbOutTb : Tb := { U := sortU 1 50 25 }
noncomputable def nbOutH : RH := [some (.cells nbE 25 false false), some (.lst 50 25 true)]
set_option maxRecDepth 100000 in
theorem nb_out : outT nbOutTb [] fNeigh (hB nbStart [] fNeigh [earR 0]) (hK nbStart [] fNeigh [earR 0]) (npat 12 false) = some (.tup [.slN 1 1 12, lI 0], nbOutH) := by kernel_rfl
set_option maxRecDepth 100000 in
theorem nb_outH : mtS [.lst 0 50] [1] ⟨[lI 0], nbOutH⟩ ⟨[lI 0], [some (.lst 0 25 true)]⟩ = true := by kernel_rfl
/-- What is behind the sort, told with other names. -/
theorem nb_last {V V' : Val} {E : Env} {u : Value} {base : Nat} {w0 w : World} (hS : Holds [.lst 0 50] V V') (hl : (V'.L 0).length = (V.L 1).length) (hu : @VRel V E (.tup [.slN 1 1 12, lI 0]) u) (H : @HInv V ro base w0 E nbOutH w) :
    @VRel V' (pickE [1] E) (.tup [.slN 0 0 12, lI 0]) u ∧ @HInv V' ro base w0 (pickE [1] E) [some (.lst 0 25 true)] w := by
  obtain ⟨l', rfl, hl'⟩ := hu
  obtain ⟨v, vs, e1, ⟨p, n, hp, h12, hn, hcap, rfl⟩, hr⟩ := hl'
  obtain ⟨v2, vs2, e2, h2, h3⟩ := hr
  refine ⟨⟨l', rfl, ?_⟩, (mtQ_ok nb_outH rfl hS (show @VRel V E (lI 0) (.int .i64 0) from rfl) H).2⟩
  refine ⟨_, vs, e1, ⟨p, n, ?_, h12, hl.trans hn, hcap, rfl⟩, v2, vs2, e2, h2, h3⟩
  exact pick_get (R := [1]) (b := 0) (c := 1) rfl hp
set_option maxRecDepth 100000 in
theorem nb_bad : doneQ { Y := [⟨fCheck, [earR 0], lI 10⟩] } [] fNeigh [earR 0] [] [] (.pl (.tuple #[.slice none 0 0, .int .i64 10])) [] = true := by kernel_rfl
section
variable (x : Nat → Int) (y : Nat → Bool)
/-- The neighbours in their order. -/
def nbS : List (Nat × Nat) := W.srt (shp x y) (nbL (shp x y) 12)
theorem nbN_50 (k : Nat) : (nbN x y k).L 50 = cellsN (shp x y) (nbS x y) := by
  unfold nbN nbS
  simp only [if_true]
theorem nbN_1 (k : Nat) : (nbN x y k).L 1 = cellsN (shp x y) (nbL (shp x y) k) := by
  unfold nbN
  simp only [show ¬ (1 : Nat) = 50 by decide, if_false, Nat.sub_self, List.take_zero, List.map_nil, List.append_nil]
theorem neigh_ans (hv : valB x = true) (V : Val) (hj : V.L 0 = cellsN (shp x y) (nbS x y)) : @AnsQ V fNeigh [earF x y] (.tup [.slN 0 0 12, lI 0]) [some (.lst 0 25 true)] := by
  have H := shp_row x y hv
  intro w hr
  refine fn_loop (κ := Nat) (nbN x y 0) (fun _ => undef) nbStart [] fNeigh [earR 0] (fun k => npat k (nbL (shp x y) k).isEmpty) (fun m k c => k ≤ 12 ∧ m = 12 - k ∧ c = nbN x y k) ?_ nbIds [0] 0 12 nb_enter (nbN x y 0) (fun W' => holds_all (nbIds_ok x y 0 0 _ W')) ⟨Nat.zero_le _, rfl, rfl⟩ (DQ V (.tup [.slN 0 0 12, lI 0]) [some (.lst 0 25 true)]) ?_ w hr [earF x y] (@nval_flat ((nbN x y 0).val fun _ => undef) w [earR 0] rfl)
  · letI : Val := (nbN x y 0).val fun _ => undef
    refine { Y := ?_ }
    intro e he
    simp only [nbStart, List.mem_cons, List.not_mem_nil, or_false] at he
    rcases he with rfl | rfl
    · have := chk_ans x y
      rw [if_pos hv] at this
      exact this
    · exact shape_ans x y
  · rintro w m k c ⟨hk, rfl, rfl⟩ W1
    by_cases hlt : k < 12
    · have hp := pv_lt H hlt
      have hb : nbit (msk (shp x y) k (vc k)) (pv (shp x y) k) = false := by
        rw [msk_bit _ k _ (vc k) hp]
        unfold mskB
        rw [decide_eq_false (by rw [pv_eq H hlt]; simp), Bool.false_and]
      have hrun := nb_run k (pv (shp x y) k) (msk (shp x y) k (vc k)) (nbL (shp x y) k).isEmpty hlt hp (msk_lt _ _ _) hb
      have hne : (nbL (shp x y) (k + 1)).isEmpty = ((nbL (shp x y) k).isEmpty && (nbV k (pv (shp x y) k) (msk (shp x y) k (vc k))).isEmpty) := by
        rw [nbL]
        show _ = ((nbL (shp x y) k).isEmpty && (nbA (shp x y) k).isEmpty)
        cases nbL (shp x y) k <;> cases nbA (shp x y) k <;> rfl
      refine step_to (nbTb k (pv (shp x y) k) (msk (shp x y) k (vc k))) [true] (nbTb_ok x y hv k hlt W1) (nbSE k (pv (shp x y) k) (msk (shp x y) k (vc k)) (nbL (shp x y) k).isEmpty) (nbR k (pv (shp x y) k) (msk (shp x y) k (vc k)) (nbL (shp x y) k).isEmpty) (k + 1) (nbN x y (k + 1)) ?_ (fun W' => nbSE_ok x y k hlt W1 W') ⟨12 - (k + 1), by omega, hlt, rfl, rfl⟩
      · show againT _ _ _ _ _ _ _ (npat (k + 1) (nbL (shp x y) (k + 1)).isEmpty) = true
        rw [hne]
        exact hrun
    · obtain rfl : k = 12 := by omega
      have he : (nbL (shp x y) 12).isEmpty = false := by
        cases h : (nbL (shp x y) 12).isEmpty with
        | false => rfl
        | true => exact absurd (by simpa using h) (nbL_last H)
      have hL50 := nbN_50 x y 12
      have hL1 := nbN_1 x y 12
      have hout := nb_out
      rw [← he] at hout
      refine ⟨nbOutTb, [], ?_, .inr ⟨_, _, hout, fun E u w' hu hH => ?_⟩⟩
      · letI : Val := (nbN x y 12).val W1
        refine { U := ?_ }
        exact sort_ok ((nbN x y 12).val W1) 1 50 25 (shp x y) (nbL (shp x y) 12) (nbL_nd H (Nat.le_refl _)) (nbL_good H) (by have := nbL_len (shp x y) 12; omega) hL1 hL50
      · have hS : Holds [.lst 0 50] ((nbN x y 12).val W1) V := holds_all fun e he => by
          simp only [List.mem_cons, List.not_mem_nil, or_false] at he
          subst he
          exact hj.trans hL50.symm
        have hlen : (V.L 0).length = (((nbN x y 12).val W1).L 1).length := by
          rw [hj, show ((nbN x y 12).val W1).L 1 = _ from hL1, cellsN_len, cellsN_len]
          unfold nbS
          rw [(W.srt_perm (shp x y) (nbL (shp x y) 12)).length_eq]
        obtain ⟨q1, q2⟩ := nb_last hS hlen hu hH
        exact ⟨u, pickE [1] E, rfl, q1, q2⟩
theorem neigh_bad (hv : valB x = false) : Ans fNeigh [earF x y] (.tuple #[.slice none 0 0, .int .i64 10]) := by
  let V : Val := (nbN x y 0).val fun _ => undef
  refine @ans_dq V _ _ _ [] fun w hr => done_calls V V (t := { Y := [⟨fCheck, [earR 0], lI 10⟩] }) (plan := []) (ds := [earR 0]) ?_ nb_bad rfl ⟨(fun j r h => by cases h), (fun j r h => by cases h), (fun j r h => by cases h), (fun j r h => by cases h), (fun j r h => by cases h)⟩ w hr [earF x y] (@nval_flat V w [earR 0] rfl)
  letI : Val := V
  refine { Y := ?_ }
  intro e he
  simp only [List.mem_cons, List.not_mem_nil, or_false] at he
  subst he
  have := chk_ans x y
  rw [if_neg (by simp [hv])] at this
  exact this
end
end Go.Proofs.Z

namespace Go.Proofs.Z
open Go Go.RowKit Go.Proofs Go.Ri W
/-! Neighbours' answer as any named list. -/
theorem at_one {o o' : RO} {b : Nat} (h : at? [some o] b = some o') : b = 0 ∧ o = o' := by
  cases b with
  | zero => exact ⟨rfl, by cases h; rfl⟩
  | succ b => simp [at?] at h
theorem ansQ_list {V V' : Val} {f : FuncId} {args : List Value} {i e : Nat} (h : @AnsQ V' f args (.tup [.slN 0 0 12, lI 0]) [some (.lst 0 e true)]) (hL : V'.L 0 = V.L i) : @AnsQ V f args (.tup [.slN 0 i 12, lI 0]) [some (.lst i e true)] := by
  intro w hr
  refine (h w hr).mono fun x w' ⟨u, E, hx, hu, H⟩ => ?_
  obtain ⟨l', rfl, v, vs, e1, ⟨p, n, hp, h12, hn, hcap, rfl⟩, v2, vs2, e2, h2, h3⟩ := hu
  refine ⟨_, E, hx, ⟨l', rfl, _, vs, e1, ⟨p, n, hp, h12, by rw [← hL]; exact hn, hcap, rfl⟩, v2, vs2, e2, h2, h3⟩, ?_⟩
  refine @HInv.mk V _ _ _ _ _ _ (@HInv.below V' _ _ _ _ _ _ H) (@HInv.lb V' _ _ _ _ _ _ H) ?_ (@HInv.ro V' _ _ _ _ _ _ H) ?_ ?_
  · have := @HInv.len V' _ _ _ _ _ _ H
    exact this
  · intro b o hb
    obtain ⟨rfl, rfl⟩ := at_one hb
    obtain ⟨q, hq, hown, cur, fr, k1, k2, k3, k4⟩ := @HInv.blk V' _ _ _ _ _ _ H 0 (.lst 0 e true) rfl
    exact ⟨q, hq, hown, cur, fr, k1, k2, by rw [← hL]; exact k3, k4⟩
  · intro b b' o o' p' q' hb hb' _ _ _ _ _
    rw [(at_one hb).1, (at_one hb').1]
abbrev neighL (x : Nat → Int) (y : Nat → Bool) : List (Nat → Int) := (nbS x y).map (stw (shp x y))
theorem neigh_list (x : Nat → Int) (y : Nat → Bool) (hv : valB x = true) (V : Val) (i : Nat) (hL : V.L i = cellsN (shp x y) (nbS x y)) : @AnsQ V fNeigh [earF x y] (.tup [.slN 0 i 12, lI 0]) [some (.lst i 25 true)] :=
  @ansQ_list V ⟨fun _ => 0, fun _ => false, fun _ => ⟨#[]⟩, fun _ => ⟨.int .i64 0, rfl⟩, fun _ => V.L i, fun _ => undef⟩ _ _ _ _ (neigh_ans x y hv _ hL) rfl
theorem nbS_len (x : Nat → Int) (y : Nat → Bool) : (nbS x y).length = (nbL (shp x y) 12).length := (W.srt_perm _ _).length_eq
theorem nbS_le (x : Nat → Int) (y : Nat → Bool) : (nbS x y).length ≤ 60 := by
  rw [nbS_len]
  exact nbL_len (shp x y) 12
theorem nbS_mem (x : Nat → Int) (y : Nat → Bool) (q : Nat × Nat) : q ∈ nbS x y ↔ q ∈ nbL (shp x y) 12 := (W.srt_perm _ _).mem_iff
end Go.Proofs.Z

namespace Go.Proofs.Z
open Go Go.RowKit Go.Proofs Go.Ri W
/-! Lists of rows' ears. -/
/-- The cells of rows' ears. -/
def rowsC (ts : List (Nat → Int)) : List Value := ts.flatMap earC
theorem rowsC_len : ∀ ts, (rowsC ts).length = ts.length * 12
  | [] => rfl
  | t :: ts => by
    show (earC t ++ rowsC ts).length = _
    rw [List.length_append, rowsC_len ts, List.length_cons]
    show 12 + _ = _
    omega
theorem rowsC_row : ∀ (ts : List (Nat → Int)) (i : Nat) (h : i < ts.length), ((rowsC ts).drop (i * 12)).take 12 = earC (ts[i]'h)
  | [], _, h => absurd h (Nat.not_lt_zero _)
  | t :: ts, 0, _ => by
    show ((earC t ++ rowsC ts).drop (0 * 12)).take 12 = earC t
    rw [Nat.zero_mul, List.drop_zero, List.take_append_of_le_length (Nat.le_refl 12)]
    rfl
  | t :: ts, i + 1, h => by
    show ((earC t ++ rowsC ts).drop ((i + 1) * 12)).take 12 = earC (ts[i]'(by simpa using h))
    rw [List.drop_append, List.drop_eq_nil_of_le (show (earC t).length ≤ (i + 1) * 12 by show 12 ≤ _; omega), List.nil_append]
    rw [show (i + 1) * 12 - (earC t).length = i * 12 by show (i + 1) * 12 - 12 = _; omega]
    exact rowsC_row ts i (by simpa using h)
theorem cellsN_rows (s : Nat → Int) (l : List (Nat × Nat)) : cellsN s l = rowsC (l.map (stw s)) := by
  unfold cellsN rowsC
  rw [List.flatMap_map]
  rfl
/-- Where a row and an ear first differ. -/
def pI (t x : Nat → Int) : Nat → Bool := fun j => t j == x j
def pB (t : Nat → Int) (y : Nat → Bool) : Nat → Bool := fun j => bitY t j == y j
def mE (t x : Nat → Int) (y : Nat → Bool) : Nat := if fd (pI t x) 0 9 = 9 then 9 + fd (pB t y) 0 3 else fd (pI t x) 0 9
theorem mE_lt (t x : Nat → Int) (y : Nat → Bool) : mE t x y < 13 := by
  have h1 := (fd_spec (pI t x) 9 0).2.2.2
  have h2 := (fd_spec (pB t y) 3 0).2.2.2
  unfold mE
  split <;> omega
def eqE (t x : Nat → Int) (y : Nat → Bool) : Bool := Nat.beq (mE t x y) 12
theorem bne_of_false {α : Type} [BEq α] [LawfulBEq α] {a b : α} (h : (a == b) = false) : a ≠ b := by
  intro e
  rw [e] at h
  simp at h
theorem eqE_iff (t x : Nat → Int) (y : Nat → Bool) : eqE t x y = true ↔ (∀ j, j < 9 → t j = x j) ∧ ∀ j, j < 3 → bitY t j = y j := by
  have h1 := fd_spec (pI t x) 9 0
  have h2 := fd_spec (pB t y) 3 0
  constructor
  · intro h
    have h := Nat.eq_of_beq_eq_true h
    unfold mE at h
    split at h
    · rename_i h9
      refine ⟨fun j hj => ?_, fun j hj => ?_⟩
      · have := h1.1 j (Nat.zero_le _) (by omega)
        exact eq_of_beq this
      · have := h2.1 j (Nat.zero_le _) (by omega)
        exact eq_of_beq this
    · have := h1.2.2.2
      omega
  · rintro ⟨a, b⟩
    have h9 : fd (pI t x) 0 9 = 9 := by
      by_cases h : fd (pI t x) 0 9 < 9
      · have := h1.2.1 (by omega)
        have := bne_of_false this
        exact absurd (a _ h) this
      · have := h1.2.2.2
        omega
    have h3 : fd (pB t y) 0 3 = 3 := by
      by_cases h : fd (pB t y) 0 3 < 3
      · have := h2.2.1 (by omega)
        have := bne_of_false this
        exact absurd (b _ h) this
      · have := h2.2.2.2
        omega
    unfold eqE mE
    rw [if_pos h9, h3]
    rfl
def e12 : List RV := [sI 20, sI 21, sI 22, sI 23, sI 24, sI 25, sI 26, sI 27, sI 28, sB 20, sB 21, sB 22]
def beqs (m : Nat) : List TE := (List.range (Nat.min (m + 1) 3)).map fun j => ⟨.beq, sB (20 + j), sB j, bR (Nat.blt j m)⟩
/-- What is known of an element that differs first at m. -/
def eqEs (m : Nat) : List TE := if Nat.blt m 9 then eqs 20 0 9 m else eqs 20 0 9 9 ++ beqs (m - 9)
theorem eqs9_true [Val] (x t : Nat → Int) (hx : ∀ j, j < 9 → Val.I (0 + j) = x j) (ht : ∀ j, j < 9 → Val.I (20 + j) = t j) : ∀ e ∈ eqs 20 0 9 (fd (pI t x) 0 9), TETrue e := by
  have h := eqs_true 20 0 9
  rw [fd_congr (q := pI t x) 9 0 fun j _ hj => by
    show (Val.I (20 + j) == Val.I (0 + j)) = (t j == x j)
    rw [hx j (by omega), ht j (by omega)]] at h
  exact h
theorem beqs_true [Val] (t : Nat → Int) (y : Nat → Bool) (hy : ∀ j, j < 3 → Val.B j = y j) (ht : ∀ j, j < 3 → Val.B (20 + j) = bitY t j) : ∀ e ∈ beqs (fd (pB t y) 0 3), TETrue e := by
  intro e he
  obtain ⟨j, hj, rfl⟩ := List.mem_map.1 he
  obtain ⟨h1, h2, h3, h4⟩ := fd_spec (pB t y) 3 0
  generalize fd (pB t y) 0 3 = m at *
  have hj := List.mem_range.1 hj
  have hj1 : j < m + 1 := Nat.lt_of_lt_of_le hj (Nat.min_le_left _ _)
  have hj2 : j < 3 := Nat.lt_of_lt_of_le hj (Nat.min_le_right _ _)
  have e : Nat.blt j m = (bitY t j == y j) := by
    by_cases hlt : j < m
    · have := h1 j (Nat.zero_le _) hlt
      unfold pB at this
      rw [this]
      exact Nat.ble_eq_true_of_le hlt
    · obtain rfl : j = m := by omega
      have := h2 (by omega)
      unfold pB at this
      rw [this]
      exact blt_self j
  refine ⟨rfl, ?_⟩
  show TCTrue .beq (.bool (Val.B (20 + j))) (.bool (Val.B j)) (.bool (Nat.blt j m))
  rw [e, hy j hj2, ht j hj2]
  exact t_beq _ _
theorem eqEs_true [Val] (t x : Nat → Int) (y : Nat → Bool) (hx : ∀ j, j < 9 → Val.I (0 + j) = x j) (ht : ∀ j, j < 9 → Val.I (20 + j) = t j) (hy : ∀ j, j < 3 → Val.B j = y j) (hb : ∀ j, j < 3 → Val.B (20 + j) = bitY t j) : ∀ e ∈ eqEs (mE t x y), TETrue e := by
  have a := eqs9_true x t hx ht
  have b := beqs_true t y hy hb
  have h9 := (fd_spec (pI t x) 9 0).2.2.2
  unfold mE eqEs
  by_cases h : fd (pI t x) 0 9 = 9
  · rw [if_pos h, if_neg (by simp [Nat.blt_eq]), Nat.add_sub_cancel_left]
    rw [h] at a
    intro e he
    rcases List.mem_append.1 he with he | he
    · exact a e he
    · exact b e he
  · rw [if_neg h, if_pos (by simp [Nat.blt_eq]; omega)]
    exact a
def inIds : List SE := .lst 0 0 :: idI [0, 1, 2, 3, 4, 5, 6, 7, 8] ++ idB [0, 1, 2]
end Go.Proofs.Z

namespace Go.Proofs.Z
open Go Go.RowKit Go.Proofs Go.Ri W
/-! Is an ear in a named list. -/
abbrev fIn : Nat := 23
noncomputable def inTb (b : Bool) (m : Nat) : Tb := { LL := [⟨0, 12, sI 101⟩], T := [⟨.bin .lss, sI 100, sI 101, bR b⟩, ⟨.inb, sI 100, sI 101, bR b⟩, ⟨.bin .add, sI 100, lI 1, sI 106⟩] ++ (if b then eqEs m else []), LX := if b then [⟨0, 100, e12⟩] else [] }
noncomputable def inDs : List RV := [.slN 0 0 12, earR 0]
noncomputable def inPat (_ : Unit) : St := ⟨patW [(0, .slA 0 0 12), (3, .ptr 1 0), (5, sI 100)] 18 0, [some (.lstA 0), some (.cells nbE 25 false false)]⟩
noncomputable def inEnter : Tb := { LL := [⟨0, 12, sI 101⟩] }
set_option maxRecDepth 100000 in
theorem in_enter : enterT inEnter [] fIn inDs (.int 100 (lI 0) :: inIds) [0, 1] (inPat ()) = true := by kernel_rfl
set_option maxRecDepth 100000 in
theorem in_again : (allU 12 fun m => againT (inTb true m) [] (hB inEnter [] fIn inDs) (hK inEnter [] fIn inDs) (inPat ()) (.int 100 (sI 106) :: inIds) [0, 1] (inPat ())) = true := by kernel_rfl
set_option maxRecDepth 100000 in
theorem in_found : outF (inTb true 12) [] fIn (hB inEnter [] fIn inDs) (hK inEnter [] fIn inDs) (inPat ()) (bR true) = true := by kernel_rfl
set_option maxRecDepth 100000 in
theorem in_none : outF (inTb false 0) [] fIn (hB inEnter [] fIn inDs) (hK inEnter [] fIn inDs) (inPat ()) (bR false) = true := by kernel_rfl
section
variable (ts : List (Nat → Int)) (x : Nat → Int) (y : Nat → Bool)
def inm (i : Nat) : Nm := ⟨fun j => if j < 20 then x j else if j < 40 then (ts.getD i fun _ => 0) (j - 20) else if j = 100 then (i : Int) else if j = 101 then (ts.length : Int) else (i : Int) + 1, fun j => if j < 20 then y j else bitY (ts.getD i fun _ => 0) (j - 20), fun _ => ⟨#[]⟩, fun _ => rowsC ts⟩
theorem in_tb (hb : ts.length ≤ 1000000) (i : Nat) (hi : i ≤ ts.length) (W : Nat → Value) (b : Bool) (hb' : b = decide (i < ts.length)) : @TbOK ((inm ts x y i).val W) (inTb b (mE (ts.getD i fun _ => 0) x y)) := by
  letI : Val := (inm ts x y i).val W
  refine { LL := ?_, T := ?_, LX := ?_ }
  · intro e he
    rcases List.mem_append.1 he with he | he
    · simp only [List.mem_cons, List.not_mem_nil, or_false] at he
      rcases he with rfl | rfl | rfl
      · refine te_lss 100 101 b ?_
        show decide ((i : Int) < (ts.length : Int)) = b
        rw [hb']
        simp
      · refine te_inb 100 101 b ?_
        show decide (0 ≤ (i : Int) ∧ (i : Int) < (ts.length : Int)) = b
        rw [hb']
        simp
      · exact te_add1 100 106 i rfl rfl (by omega) (by omega)
    · split at he
      · refine eqEs_true (ts.getD i fun _ => 0) x y ?_ ?_ ?_ ?_ e he
        · intro j hj
          show (if 0 + j < 20 then x (0 + j) else _) = x j
          rw [if_pos (by omega), Nat.zero_add]
        · intro j hj
          show (if 20 + j < 20 then _ else if 20 + j < 40 then (ts.getD i fun _ => 0) (20 + j - 20) else _) = _
          rw [if_neg (by omega), if_pos (by omega), Nat.add_sub_cancel_left]
        · intro j hj
          show (if j < 20 then y j else _) = y j
          rw [if_pos (by omega)]
        · intro j hj
          show (if 20 + j < 20 then _ else bitY (ts.getD i fun _ => 0) (20 + j - 20)) = _
          rw [if_neg (by omega), Nat.add_sub_cancel_left]
      · cases he
  · intro e he
    simp only [inTb, List.mem_cons, List.not_mem_nil, or_false] at he
    subst he
    exact ⟨rfl, ts.length, Nat.succ_pos 11, rowsC_len ts, rfl⟩
  · intro e he
    cases b with
    | false => cases he
    | true =>
      have hlt : i < ts.length := by simpa using hb'.symm
      obtain rfl := List.mem_singleton.1 (show e ∈ [(⟨0, 100, e12⟩ : LEE)] from he)
      refine ⟨rfl, ?_, ?_⟩
      · show ((i : Int)).toNat * 12 + 12 ≤ (rowsC ts).length
        rw [rowsC_len, Int.toNat_natCast]
        omega
      · show ((rowsC ts).drop (((i : Int)).toNat * 12)).take 12 = _
        rw [Int.toNat_natCast, rowsC_row ts i hlt]
        have e : ts[i] = ts.getD i fun _ => 0 := by rw [List.getD_eq_getElem?_getD, List.getElem?_eq_getElem hlt]; rfl
        rw [e]
        rfl
theorem inIds_ok (i i' : Nat) (W W' : Nat → Value) : ∀ e, e ∈ inIds → okSE ((inm ts x y i).val W) ((inm ts x y i').val W') e := by
  intro e he
  simp only [inIds, idI, idB, List.map_cons, List.map_nil, List.cons_append, List.nil_append, List.mem_cons, List.not_mem_nil, or_false] at he
  rcases he with rfl | rfl | rfl | rfl | rfl | rfl | rfl | rfl | rfl | rfl | rfl | rfl | rfl
  all_goals first | exact ⟨.i64, _, rfl, rfl⟩ | exact ⟨_, rfl, rfl⟩ | rfl
theorem any_none (j : Nat) (h : ∀ i, i < j → eqE (ts.getD i fun _ => 0) x y = false) (hj : j = ts.length) : (ts.any fun t => eqE t x y) = false := by
  rw [List.any_eq_false]
  intro t ht
  obtain ⟨i, hi, rfl⟩ := List.getElem_of_mem ht
  have := h i (by omega)
  rw [List.getD_eq_getElem?_getD, List.getElem?_eq_getElem hi] at this
  simpa using this
theorem in_list (hb : ts.length ≤ 1000000) (w : World) (hr : RoIn ro w) (vs : List Value) (hv : All2 (@Go.Ri.NVal ((inm ts x y 0).val fun _ => undef) w) inDs vs) :
    Calls Tryd.prog fIn vs.toArray w (fun e w' => e = .returned (.bool (ts.any fun t => eqE t x y)) ∧ Below w.heap.size w w') := by
  refine fn_loop (κ := Unit) (inm ts x y 0) (fun _ => undef) inEnter [] fIn inDs inPat (fun m _ c => ∃ i, i ≤ ts.length ∧ m = ts.length - i ∧ c = inm ts x y i ∧ ∀ j, j < i → eqE (ts.getD j fun _ => 0) x y = false) ?_ (.int 100 (lI 0) :: inIds) [0, 1] () ts.length in_enter (inm ts x y 0) ?_ ⟨0, Nat.zero_le _, rfl, rfl, fun j hj => absurd hj (Nat.not_lt_zero _)⟩ (DF (.bool (ts.any fun t => eqE t x y))) ?_ w hr vs hv
  · letI : Val := (inm ts x y 0).val fun _ => undef
    refine { LL := ?_ }
    intro e he
    simp only [inEnter, List.mem_cons, List.not_mem_nil, or_false] at he
    subst he
    exact ⟨rfl, ts.length, Nat.succ_pos 11, rowsC_len ts, rfl⟩
  · intro W'
    refine holds_all fun e he => ?_
    rcases List.mem_cons.1 he with rfl | he
    · exact ⟨.i64, 0, rfl, rfl⟩
    · exact inIds_ok ts x y 0 0 _ W' e he
  · rintro w m k c ⟨i, hi, rfl, rfl, hno⟩ W1
    by_cases hlt : i < ts.length
    · have ht := in_tb ts x y hb i hi W1 true (by simp [hlt])
      by_cases hm : mE (ts.getD i fun _ => 0) x y = 12
      · rw [hm] at ht
        have he : (ts.any fun t => eqE t x y) = true := by
          refine List.any_eq_true.2 ⟨ts[i], List.getElem_mem hlt, ?_⟩
          unfold eqE
          rw [List.getD_eq_getElem?_getD, List.getElem?_eq_getElem hlt] at hm
          rw [show mE ts[i] x y = 12 from hm]
          rfl
        rw [he]
        exact step_outF (inTb true 12) [] ht (bR true) in_found rfl
      · have h13 := mE_lt (ts.getD i fun _ => 0) x y
        have hrun := allU_lt in_again (mE (ts.getD i fun _ => 0) x y) (by omega)
        refine step_to (inTb true (mE (ts.getD i fun _ => 0) x y)) [] ht (.int 100 (sI 106) :: inIds) [0, 1] () (inm ts x y (i + 1)) hrun ?_ ⟨ts.length - (i + 1), by omega, i + 1, hlt, rfl, rfl, fun j hj => ?_⟩
        · intro W'
          refine holds_all fun e he => ?_
          rcases List.mem_cons.1 he with rfl | he
          · exact ⟨.i64, (i : Int) + 1, rfl, rfl⟩
          · exact inIds_ok ts x y i (i + 1) _ W' e he
        · rcases Nat.lt_succ_iff_lt_or_eq.1 hj with h1 | rfl
          · exact hno j h1
          · unfold eqE
            exact beq_ne hm
    · have ht := in_tb ts x y hb i hi W1 false (by simp [hlt])
      rw [any_none ts x y i hno (by omega)]
      have ht0 : @TbOK ((inm ts x y i).val W1) (inTb false 0) := ht
      exact step_outF (inTb false 0) [] ht0 (bR false) in_none rfl
/-- The contract, for any list and any ear. -/
theorem in_any (hb : ts.length ≤ 1000000) (V : Val) (i : Nat) (l : List RV) (hL : V.L i = rowsC ts) (he : @cvF V (.agg l) = earF x y) : @AnsN V fIn [.slN 0 i 12, .agg l] (.bool (ts.any fun t => eqE t x y)) := by
  intro w hr vs hv
  refine in_list ts x y hb w hr vs ?_
  cases hv with
  | cons h1 h2 =>
    cases h2 with
    | cons h3 h4 =>
      cases h4
      obtain ⟨a, m, cap, g1, g2, g3, g4, g5, g6⟩ := h1
      rw [hL] at g2 g4 g6
      exact .cons ⟨a, m, cap, g1, g2, g3, g4, g5, g6⟩ (.cons (show _ = earF x y from (show _ = @cvF V (.agg l) from h3).trans he) .nil)
end
end Go.Proofs.Z
