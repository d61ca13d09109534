/- A part of the proofs that the laws of layer one answer true for every input. -/
import Derived.Test.YtedbdpaioikhgaaDoorZFeat2
namespace Go.Proofs.Z
open Go Go.RowKit Go.Proofs Go.Ri
/-! Two slices that hold one list of features. -/
def intOf : Value → Int
  | .int _ n => n
  | _ => 0
def ints (l : List Value) : Prop := ∀ v, v ∈ l → ∃ n, v = .int .i64 n
theorem row4 {l : List Value} (hl : ints l) (i : Nat) (h : i * 4 + 4 ≤ l.length) : (l.drop (i * 4)).take 4 = [.int .i64 (intOf (l.getD (i * 4) undef)), .int .i64 (intOf (l.getD (i * 4 + 1) undef)), .int .i64 (intOf (l.getD (i * 4 + 2) undef)), .int .i64 (intOf (l.getD (i * 4 + 3) undef))] := by
  have cell : ∀ j, j < l.length → Value.int .i64 (intOf (l.getD j undef)) = l.getD j undef := fun j hj => by
    obtain ⟨n, hn⟩ := hl (l[j]) (List.getElem_mem hj)
    have e : l.getD j undef = l[j] := by rw [List.getD_eq_getElem?_getD, List.getElem?_eq_getElem hj]; rfl
    rw [e, hn]
    rfl
  rw [cell _ (by omega), cell _ (by omega), cell _ (by omega), cell _ (by omega)]
  apply List.ext_getElem?
  intro j
  rw [List.getElem?_take]
  split
  · rename_i hj
    rw [List.getElem?_drop]
    have g : ∀ k, k < l.length → l[k]? = some (l.getD k undef) := fun k hk => by
      rw [List.getD_eq_getElem?_getD, List.getElem?_eq_getElem hk]; rfl
    rw [g _ (by omega)]
    match j, hj with
    | 0, _ => rfl
    | 1, _ => rfl
    | 2, _ => rfl
    | 3, _ => rfl
  · rename_i hj
    rw [List.getElem?_eq_none]
    simp
    omega
noncomputable def snm (l : List Value) (n i : Nat) : Nm := ⟨fun j => match j with
  | 0 => i
  | 1 => n
  | 2 => intOf (l.getD (i * 4) undef)
  | 3 => intOf (l.getD (i * 4 + 1) undef)
  | 4 => intOf (l.getD (i * 4 + 2) undef)
  | 5 => intOf (l.getD (i * 4 + 3) undef)
  | _ => (i : Int) + 1, fun _ => false, fun _ => ⟨#[]⟩, fun _ => l⟩
noncomputable def sTb (b : Bool) : Tb := { LL := [⟨0, 4, sI 1⟩], T := [⟨.bin .lss, sI 0, sI 1, bR b⟩, ⟨.inb, sI 0, sI 1, bR b⟩, ⟨.bin .add, sI 0, lI 1, sI 6⟩], LX := if b then [⟨0, 0, [sI 2, sI 3, sI 4, sI 5]⟩] else [] }
noncomputable def sds : List RV := [.slN 0 0 4, .slN 0 0 4]
noncomputable def spat (_ : Unit) : St := ⟨patW [(0, .slA 0 0 4), (1, .slA 1 0 4), (5, sI 0)] 26 0, [some (.lstA 0), some (.lstA 0)]⟩
noncomputable def sEnter : Tb := { LL := [⟨0, 4, sI 1⟩] }
set_option maxRecDepth 100000 in
theorem s_enter : enterT sEnter [] fSameFeatures sds [.int 0 (lI 0), .lst 0 0] [0, 1] (spat ()) = true := by kernel_rfl
set_option maxRecDepth 100000 in
theorem s_again : againT (sTb true) [] (hB sEnter [] fSameFeatures sds) (hK sEnter [] fSameFeatures sds) (spat ()) [.int 0 (sI 6), .lst 0 0] [0, 1] (spat ()) = true := by kernel_rfl
set_option maxRecDepth 100000 in
theorem s_out : outF (sTb false) [] fSameFeatures (hB sEnter [] fSameFeatures sds) (hK sEnter [] fSameFeatures sds) (spat ()) (bR true) = true := by kernel_rfl
theorem te_add1 [Val] (i j : Nat) (a : Int) (hi : Val.I i = a) (hj : Val.I j = a + 1) (h0 : 0 ≤ a) (h1 : a ≤ 1000000000) : TETrue ⟨.bin .add, sI i, lI 1, sI j⟩ := by
  refine ⟨rfl, ?_⟩
  have e : IntKind.i64.wrap (a + 1) = a + 1 := IntWalk.i64_in _ (by omega)
  show TCTrue (.bin .add) (.int .i64 (Val.I i)) (.int .i64 1) (.int .i64 (Val.I j))
  rw [hi, hj]
  have := t_add .i64 a 1
  rw [e] at this
  exact this
theorem te_lss [Val] (i j : Nat) (b : Bool) (h : decide (Val.I i < Val.I j) = b) : TETrue ⟨.bin .lss, sI i, sI j, bR b⟩ := ⟨rfl, by rw [← h]; exact t_lss .i64 _ _⟩
theorem te_inb [Val] (i j : Nat) (b : Bool) (h : decide (0 ≤ Val.I i ∧ Val.I i < Val.I j) = b) : TETrue ⟨.inb, sI i, sI j, bR b⟩ := ⟨rfl, .i64, .i64, _, _, rfl, rfl, by rw [h]; rfl⟩
theorem same_ans (V : Val) (l : List Value) (hL : V.L 0 = l) (hl : ints l) (n : Nat) (hn : l.length = n * 4) (hb : n ≤ 1000000) : @AnsN V fSameFeatures sds (.bool true) := by
  intro w hr vs hv
  have tb : ∀ i, i ≤ n → ∀ W b, b = decide (i < n) → @TbOK ((snm l n i).val W) (sTb b) := by
    intro i hi W b hb'
    letI : Val := (snm l n i).val W
    refine { LL := ?_, T := ?_, LX := ?_ }
    · intro e he
      simp only [sTb, List.mem_cons, List.not_mem_nil, or_false] at he
      rcases he with rfl | rfl | rfl
      · refine te_lss 0 1 b ?_
        show decide ((i : Int) < (n : Int)) = b
        rw [hb']
        simp
      · refine te_inb 0 1 b ?_
        show decide (0 ≤ (i : Int) ∧ (i : Int) < (n : Int)) = b
        rw [hb']
        simp
      · exact te_add1 0 6 i rfl rfl (by omega) (by omega)
    · intro e he
      simp only [sTb, List.mem_cons, List.not_mem_nil, or_false] at he
      subst he
      exact ⟨rfl, n, Nat.succ_pos 3, hn, rfl⟩
    · intro e he
      cases b with
      | false => cases he
      | true =>
        have hlt : i < n := by simpa using hb'.symm
        simp only [sTb, if_true, List.mem_cons, List.not_mem_nil, or_false] at he
        subst he
        have h4 : i * 4 + 4 ≤ l.length := by omega
        refine ⟨rfl, ?_, ?_⟩
        · show ((i : Int)).toNat * 4 + 4 ≤ l.length
          simpa using h4
        · show (l.drop (((i : Int)).toNat * 4)).take 4 = _
          rw [Int.toNat_natCast, row4 hl i h4]
          rfl
  refine fn_loop (κ := Unit) (snm l n 0) (fun _ => undef) sEnter [] fSameFeatures sds spat (fun m _ c => ∃ i, i ≤ n ∧ m = n - i ∧ c = snm l n i) ?_ [.int 0 (lI 0), .lst 0 0] [0, 1] () n s_enter (snm l n 0) ?_ ⟨0, Nat.zero_le _, rfl, rfl⟩ (DF (.bool true)) ?_ w hr vs ?_
  · letI : Val := (snm l n 0).val fun _ => undef
    refine { LL := ?_ }
    intro e he
    simp only [sEnter, List.mem_cons, List.not_mem_nil, or_false] at he
    subst he
    exact ⟨rfl, n, Nat.succ_pos 3, hn, rfl⟩
  · intro W'
    refine holds_all fun e he => ?_
    simp only [List.mem_cons, List.not_mem_nil, or_false] at he
    rcases he with rfl | rfl
    · exact ⟨.i64, 0, rfl, rfl⟩
    · rfl
  · rintro w m k c ⟨i, hi, rfl, rfl⟩ W
    by_cases hlt : i < n
    · refine step_to (sTb true) [] (tb i hi W true (by simp [hlt])) [.int 0 (sI 6), .lst 0 0] [0, 1] () (snm l n (i + 1)) s_again ?_ ⟨n - (i + 1), by omega, i + 1, hlt, rfl, rfl⟩
      intro W'
      refine holds_all fun e he => ?_
      simp only [List.mem_cons, List.not_mem_nil, or_false] at he
      rcases he with rfl | rfl
      · exact ⟨.i64, (i : Int) + 1, rfl, rfl⟩
      · rfl
    · exact step_outF (sTb false) [] (tb i hi W false (by simp [hlt])) (bR true) s_out rfl
  · cases hv with
    | cons h1 h2 =>
      cases h2 with
      | cons h2 h3 =>
        cases h3
        obtain ⟨a, m, cap, g1, g2, g3, g4, g5, g6⟩ := h1
        obtain ⟨a', m', cap', k1, k2, k3, k4, k5, k6⟩ := h2
        rw [hL] at g2 g4 g6 k2 k4 k6
        exact .cons ⟨a, m, cap, g1, g2, g3, g4, g5, g6⟩ (.cons ⟨a', m', cap', k1, k2, k3, k4, k5, k6⟩ .nil)
end Go.Proofs.Z
