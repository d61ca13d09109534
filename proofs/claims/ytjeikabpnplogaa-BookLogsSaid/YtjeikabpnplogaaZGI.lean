/- A part of the proofs that the laws of layer eight answer true for every input. -/
import Derived.Test.YtjeikabpnplogaaZGF
namespace Go.Proofs.Z
open Go Go.RowKit Go.Proofs Go.Ri Go.Proofs.Z.Fa
/-! pick of no entries; CheckLog over parts of lists, and nothing. -/
def PzN (ix : Nat → Int) (d k : Nat) (c : Nm) : Prop := ∃ a l8, c = wdNm 0 0 0 0 0 k [] (pkX entZ 0 d a) (fun _ => entZ.s) (pkZ [] l8 [] []) ∧ a = ix k ∧ l8 = idL ix d
theorem pickz_ans {ix : Nat → Int} {d : Nat} (hd : d ≤ 1000) {V : Val} {e2 j : Nat} (hj : V.L j = idL ix d) : @QNTrue V ⟨fPick, [nilR, .slN e2 j 1], nilR, []⟩ := by
  intro w hr vs hv
  cases hv with
  | cons h1 h2 => cases h2 with
    | cons h3 h4 =>
      cases h4
      have hLL : ∀ (k : Nat) (a : Int) (l8 : List Value) (W : Nat → Value), l8 = idL ix d → ∀ t, t ∈ pzLL → @LLTrue ((wdNm 0 0 0 0 0 k [] (pkX entZ 0 d a) (fun _ => entZ.s) (pkZ [] l8 [] [])).val W) t := fun k a l8 W h8 =>
        fa ⟨rfl, d, Nat.succ_pos 0, by show l8.length = _; rw [h8, idL_len, Nat.mul_one], pk_741⟩ fz
      have ex : ∀ k, ∃ c, PzN ix d k c := fun k => ⟨_, _, _, rfl, rfl, rfl⟩
      obtain ⟨c0, hc0⟩ := ex 0
      obtain ⟨c1, hc1⟩ := ex 0
      obtain ⟨a, l8, rfl, ha, h8⟩ := hc0
      have ht0 : @TbOK ((wdNm 0 0 0 0 0 0 [] (pkX entZ 0 d a) (fun _ => entZ.s) (pkZ [] l8 [] [])).val fun _ => undef) { LL := pzLL } := by
        have hL := hLL 0 a l8 (fun _ => undef) h8
        letI : Val := (wdNm 0 0 0 0 0 0 [] (pkX entZ 0 d a) (fun _ => entZ.s) (pkZ [] l8 [] [])).val fun _ => undef
        exact { LL := hL }
      have hS : ∀ (k k' : Nat) (a a' : Int) (l8 l8' : List Value) (W W' : Nat → Value) (r : RV), l8 = l8' → @cv ((wdNm 0 0 0 0 0 k [] (pkX entZ 0 d a) (fun _ => entZ.s) (pkZ [] l8 [] [])).val W) r = .int .i64 (k' : Nat) → ∀ e, e ∈ pzS r → @okSE ((wdNm 0 0 0 0 0 k [] (pkX entZ 0 d a) (fun _ => entZ.s) (pkZ [] l8 [] [])).val W) ((wdNm 0 0 0 0 0 k' [] (pkX entZ 0 d a') (fun _ => entZ.s) (pkZ [] l8' [] [])).val W') e := fun k k' a a' l8 l8' W W' r h hr =>
        fa ⟨.i64, (k' : Nat), hr, show wdI 0 0 0 0 0 k' (pkX entZ 0 d a') 605 = (k' : Nat) by simp [wdI]⟩ (fa ⟨.i64, (d : Nat), pk_741, show wdI 0 0 0 0 0 k' (pkX entZ 0 d a') 741 = (d : Nat) from (wdI_x (by omega)).trans (by simp [pkX])⟩ (fa (pk8.trans (h.symm.trans pk8.symm)) fz))
      have hc1' := hc1
      obtain ⟨a1, m8, rfl, ha1, hm8⟩ := hc1'
      refine fn_headsN (κ := Unit) (wdNm 0 0 0 0 0 0 [] (pkX entZ 0 d a) (fun _ => entZ.s) (pkZ [] l8 [] [])) (fun _ => undef) { LL := pzLL } [] fPick pzD (fun _ => 0) (fun _ => pzP) (fun m _ c => ∃ k, k ≤ d ∧ m = d - k ∧ PzN ix d k c) ht0 (pzS (lI 0)) [0] () d pz_enter _ (fun W' => holds_all (hS 0 0 a a1 l8 m8 _ W' (lI 0) (h8.trans hm8.symm) rfl)) ⟨0, Nat.zero_le _, rfl, hc1⟩ (DQ V nilR []) ?_ w hr _ (.cons (show _ = _ from h1) (.cons (nval_list (j := 8) (hj.trans (h8.symm.trans pk8.symm)) h3) .nil))
      clear ht0 hc1 h8 hm8 ha1 ha
      rintro w m _ c ⟨k, hk, rfl, a, l8, rfl, ha, h8⟩ W
      have hL := hLL k a l8 W h8
      rcases Nat.lt_or_ge k d with hlt | hge
      · have t1 := pkT_true (A := entZ) (c := 0) (a := a) (l9 := []) (l8 := l8) (l19 := []) (l18 := []) (W := W) (show k ≤ 1000000 by omega) (decide_eq_true hlt)
        have hX := pk_X8 (A := entZ) (c := 0) (l9 := []) (l19 := []) (l18 := []) (W := W) h8 hlt ha
        have e2 := pk_742 (k := k) (A := entZ) (c := 0) (d := d) (a := a) (l9 := []) (l8 := l8) (l19 := []) (l18 := []) (W := W)
        have ht : @TbOK ((wdNm 0 0 0 0 0 k [] (pkX entZ 0 d a) (fun _ => entZ.s) (pkZ [] l8 [] [])).val W) (pzA (decide (0 ≤ a))) := by
          letI : Val := (wdNm 0 0 0 0 0 k [] (pkX entZ 0 d a) (fun _ => entZ.s) (pkZ [] l8 [] [])).val W
          exact { T := fapp t1 (fa (f_geq e2 rfl rfl) (fa (f_lss e2 rfl (by show decide (a < 0) = !decide (0 ≤ a); rw [← decide_not]; exact decide_eq_decide.2 (by omega))) fz)), LL := hL, LX := fa hX fz }
        obtain ⟨c2, hc2⟩ := ex (k + 1)
        have hc2' := hc2
        obtain ⟨a', m8, rfl, _, hm8⟩ := hc2'
        exact stepH_to (pzA (decide (0 ≤ a))) [] ht (pzS (sI 606)) [0] rfl () _ (all2_all pz_skip _) (fun W' => holds_all (hS k (k + 1) a a' l8 m8 W W' (sI 606) (h8.trans hm8.symm) w606)) ⟨d - (k + 1), by omega, k + 1, hlt, rfl, hc2⟩
      · obtain rfl : k = d := by omega
        have t1 := pkT_true (A := entZ) (c := 0) (a := a) (l9 := []) (l8 := l8) (l19 := []) (l18 := []) (W := W) (show k ≤ 1000000 by omega) (decide_eq_false (Nat.lt_irrefl k))
        have ht : @TbOK ((wdNm 0 0 0 0 0 k [] (pkX entZ 0 k a) (fun _ => entZ.s) (pkZ [] l8 [] [])).val W) { T := pkT false, LL := pzLL } := by
          letI : Val := (wdNm 0 0 0 0 0 k [] (pkX entZ 0 k a) (fun _ => entZ.s) (pkZ [] l8 [] [])).val W
          exact { T := t1, LL := hL }
        exact stepH_outQ { T := pkT false, LL := pzLL } [] ht V _ _ _ _ pz_out rfl (holds_all fz)
/-! CheckLog, its lists by names: a part of a list, a list, or nothing. -/
structure CkE where
  i : Nat
  j : Nat
  a : RV
  r : RV
/-- The name of a slice's list; z that of the empty list. -/
noncomputable def lname (z : Nat) (h : RH) (s : Nat) (r : RV) : Option Nat := match r with
  | .slN b i s' => match lkp h b with
    | some (.lst i' _ _) => match Nat.beq i i' && Nat.beq s s' with | true => some i | false => none
    | _ => none
  | .slP b i j s' _ => match lkp h b with
    | some (.lst i' _ _) => match Nat.beq i i' && Nat.beq s s' with | true => some j | false => none
    | _ => none
  | .pl (.slice none 0 0) => some z
  | _ => none
noncomputable def ckFind (T : List CkE) (i j : Nat) (a : RV) : Option RV := List.rec (motive := fun _ => Option RV) none (fun e _ ih => match Nat.beq e.i i && (Nat.beq e.j j && eqS e.a a) with
    | true => some e.r
    | false => ih) T
noncomputable def isCk (f : FuncId) : Bool := Nat.beq f fCkLog || Nat.beq f fRCkLog
noncomputable def ckU (z : Nat) (T : List CkE) : CallF := fun f args h => match isCk f, args with
  | true, [x, a, y] => match lname z h 32 x, lname z h 20 y with
    | some i, some j => match ckFind T i j a with
      | some r => match flat r with | true => some (r, h) | false => none
      | none => none
    | _, _ => none
  | _, _ => none
theorem ckFind_mem : ∀ (T : List CkE) (i j : Nat) (a r : RV), ckFind T i j a = some r → ∃ e, e ∈ T ∧ e.i = i ∧ e.j = j ∧ e.a = a ∧ flat0 a = true ∧ e.r = r
  | [], _, _, _, _, h => by cases h
  | e :: T, i, j, a, r, h => by
    have h : (match Nat.beq e.i i && (Nat.beq e.j j && eqS e.a a) with | true => some e.r | false => ckFind T i j a) = some r := h
    split at h
    · rename_i hb
      simp only [Bool.and_eq_true] at hb
      cases h
      have he := eqS_eq hb.2.2
      exact ⟨e, List.mem_cons_self, Nat.eq_of_beq_eq_true hb.1, Nat.eq_of_beq_eq_true hb.2.1, he, he ▸ eqS_flat hb.2.2, rfl⟩
    · obtain ⟨e', he, q⟩ := ckFind_mem T i j a r h
      exact ⟨e', List.mem_cons_of_mem _ he, q⟩
end Go.Proofs.Z

namespace Go.Proofs.Z
open Go Go.RowKit Go.Proofs Go.Ri Go.Proofs.Z.Fa
/-! CheckLog, its lists by names: the hook is right. -/
section
variable [Val]
theorem lname_nval {z : Nat} (hz : Val.L z = []) {base : Nat} {w0 : World} {E : Env} {h : RH} {w : World} (H : HInv ro base w0 E h w) {s : Nat} (hs0 : 0 < s) {r : RV} {v : Value} {i : Nat} (hd : lname z h s r = some i) (hv : VRel E r v) : Go.Ri.NVal w (.slN 0 i s) v := by
  unfold lname at hd
  split at hd
  · rename_i b i' s'
    split at hd
    · rename_i i2 e ow hl
      split at hd
      · rename_i hb
        simp only [Bool.and_eq_true] at hb
        cases hd
        obtain rfl := Nat.eq_of_beq_eq_true hb.1
        obtain rfl := Nat.eq_of_beq_eq_true hb.2
        rw [lkp_eq] at hl
        obtain ⟨p, h1, _, cur, fr, h3, h4, h5, _⟩ := H.blk b _ hl
        obtain ⟨q, n, hq, hs, hn, hnk, rfl⟩ := hv
        rw [h1] at hq
        cases hq
        refine ⟨some ⟨p.1, 0, none⟩, n, p.2 / s, rfl, fun _ => ⟨_, rfl, (Array.getElem?_eq_some_iff.1 h3).1⟩, hs, hn, hnk, fun a ha j u hj => ?_⟩
        cases ha
        rw [add_lit, Nat.zero_add, cell_of_row w p.1 j cur e fr h3]
        rw [← h5, List.getElem?_take] at hj
        split at hj
        · simpa using hj
        · cases hj
      · cases hd
    · cases hd
  · rename_i b i' j' s' a'
    split at hd
    · rename_i i2 e ow hl
      split at hd
      · rename_i hb
        simp only [Bool.and_eq_true] at hb
        cases hd
        obtain rfl := Nat.eq_of_beq_eq_true hb.1
        obtain rfl := Nat.eq_of_beq_eq_true hb.2
        rw [lkp_eq] at hl
        obtain ⟨p, h1, _, cur, fr, h3, h4, h5, _⟩ := H.blk b _ hl
        obtain ⟨q, n, hq, hs, hn, hle, hpart, hnk, rfl⟩ := hv
        rw [h1] at hq
        cases hq
        by_cases hfull : p.2 / s = (Val.I a').toNat
        · have hn0 : n = 0 := by omega
          subst hn0
          have hnil : Val.L i = [] := List.length_eq_zero_iff.1 (by rw [hn]; omega)
          rw [if_pos hfull]
          refine ⟨some ⟨p.1, 0, none⟩, 0, _, rfl, fun hne => absurd hnil hne, hs, hn, by omega, fun a ha j u hj => ?_⟩
          rw [hnil] at hj
          cases hj
        · rw [if_neg hfull]
          refine ⟨some ⟨p.1, (Val.I a').toNat * s, none⟩, n, _, rfl, fun _ => ⟨_, rfl, (Array.getElem?_eq_some_iff.1 h3).1⟩, hs, hn, by omega, fun a ha j u hj => ?_⟩
          cases ha
          rw [add_lit, cell_of_row w p.1 _ cur e fr h3]
          rw [hpart, List.getElem?_take] at hj
          split at hj
          · rw [List.getElem?_drop, ← h5, List.getElem?_take] at hj
            split at hj
            · simpa using hj
            · cases hj
          · cases hj
      · cases hd
    · cases hd
  · cases hd
    have hv : v = .slice none 0 0 := hv
    exact ⟨none, 0, 0, hv, fun hne => absurd hz hne, hs0, by rw [hz]; simp, Nat.le_refl _, fun a ha => by cases ha⟩
  · cases hd
def CkTrue (e : CkE) : Prop := ∀ q, AnsN (klF q) [.slN 0 e.i 32, e.a, .slN 0 e.j 20] (cvF e.r)
theorem ckU_ok {z : Nat} (hz : Val.L z = []) (T : List CkE) (hT : ∀ e, e ∈ T → CkTrue e) : UOK (ckU z T) := by
  intro f args h r h' hu base w0 E w vs H ha
  unfold ckU at hu
  split at hu
  · rename_i x a y hf
    split at hu
    · rename_i i j hi hj
      split at hu
      · rename_i r0 hr0
        split at hu
        · rename_i hfl
          cases hu
          obtain ⟨e, he, rfl, rfl, rfl, hfa, rfl⟩ := ckFind_mem T i j a _ hr0
          have hq : ∃ q, f = klF q := by
            unfold isCk at hf
            simp only [Bool.or_eq_true] at hf
            rcases hf with hf | hf
            · exact ⟨true, Nat.eq_of_beq_eq_true hf⟩
            · exact ⟨false, Nat.eq_of_beq_eq_true hf⟩
          obtain ⟨q, rfl⟩ := hq
          obtain ⟨v1, v2, v3, rfl, h1, h3, h5⟩ : ∃ v1 v2 v3, vs = [v1, v2, v3] ∧ VRel E x v1 ∧ VRel E e.a v2 ∧ VRel E y v3 := by
            cases ha with
            | cons h1 h2 => cases h2 with
              | cons h3 h4 => cases h4 with
                | cons h5 h6 =>
                  cases h6
                  exact ⟨_, _, _, rfl, h1, h3, h5⟩
          have n1 := lname_nval hz H (show 0 < 32 by omega) hi h1
          have n2 := lname_nval hz H (show 0 < 20 by omega) hj h5
          have hfl2 : flat e.a = true := by
            cases hea : e.a <;> rw [hea] at hfa <;> first | rfl | (cases hfa; done)
          have n3 : Go.Ri.NVal w e.a v2 := by
            rw [VRel.fn e.a _ _ h3 (rel_cvF hfl2)]
            exact nval_of_flat hfl2
          have hro : RoIn ro w := H.roIn
          have hall : All2 (Go.Ri.NVal w) [.slN 0 e.i 32, e.a, .slN 0 e.j 20] [v1, v2, v3] := .cons n1 (.cons n3 (.cons n2 .nil))
          have hres := hT e he q w hro [v1, v2, v3] hall
          clear hall n1 n2 n3 hi hj hr0 hf
          refine hres.mono fun x w' hx => ?_
          have hrel : VRel E e.r (cvF e.r) := rel_cvF hfl
          exact ⟨cvF e.r, E, hx.1, List.prefix_refl E, hrel, H.world hx.2⟩
        · cases hu
      · cases hu
    · cases hu
  · cases hu
/-- Two hooks, one behind the other. -/
theorem uOr_ok {U1 U2 : CallF} (h1 : UOK U1) (h2 : UOK U2) : UOK (fun f args h => match U1 f args h with | some x => some x | none => U2 f args h) := by
  intro f args h r h' hu
  have hu : (match U1 f args h with | some x => some x | none => U2 f args h) = some (r, h') := hu
  split at hu
  · rename_i x hx
    cases hu
    exact h1 f args h r h' hx
  · exact h2 f args h r h' hu
end
end Go.Proofs.Z
