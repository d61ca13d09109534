/- A part of the proofs that the laws of layer one answer true for every input. -/
import Derived.Test.YtedbdpaioikhgaaGreatDoorZRBuild2
import Derived.Test.YtedbdpaioikhgaaGreatDoorZSane
namespace Go.Proofs.Z
open Go Go.RowKit Go.Proofs Go.Ri
/-! The law EarFeatures. -/
theorem sanex : XTrue saneX := by
  intro f vs v h
  unfold saneX at h
  split at h
  · split at h
    · rename_i hf
      obtain rfl := Nat.eq_of_beq_eq_true hf
      cases h
      exact sane_ans
    · cases h
  · cases h
def okA : RV := .pl (.tuple #[.slice none 0 0, .int .i64 0])
noncomputable def lfY (m : Nat) : List YE := if m = 0 then [] else if m = 1 then [⟨fFeatures, [earR 0], okA⟩, ⟨fRFeatures, [earR 0], okA⟩] else [⟨fFeatures, [earR 0], badA⟩, ⟨fRFeatures, [earR 0], badA⟩]
noncomputable def lfQ (m : Nat) : List QE := if m = 0 then [⟨fFeatures, [earR 0], .tup [.slN 0 0 4, lI 0], [some (.lst 0 74 true)]⟩, ⟨fRFeatures, [earR 0], .tup [.slN 0 0 4, lI 0], [some (.lst 0 74 true)]⟩] else []
noncomputable def lfC (m : Nat) : List YE := (if m = 0 then [⟨fSameFeatures, sds, bR true⟩] else []) ++ [⟨fBuild, [.slN 0 1 4], .tup [earR 40, sI 49]⟩, ⟨fRBuild, [.slN 0 1 4], .tup [earR 40, sI 49]⟩]
noncomputable def lfTb (m : Nat) : Tb := { X := saneX, T := [⟨.bin .gtr, sI 50, lI 100, bR false⟩], LL := [⟨1, 4, sI 50⟩], Y := lfY m, Q := lfQ m, C := lfC m }
noncomputable def lfBig : Tb := { X := saneX, T := [⟨.bin .gtr, sI 50, lI 100, bR true⟩], LL := [⟨1, 4, sI 50⟩] }
def lfD : List RV := [earR 0, .slN 0 1 4]
set_option maxRecDepth 100000 in
theorem lf_run : (allU 3 fun m => doneQ (lfTb m) [] fEarFeatures lfD [] [] (bR true) []) = true := by kernel_rfl
set_option maxRecDepth 100000 in
theorem lf_big : doneQ lfBig [] fEarFeatures lfD [] [] (bR true) [] = true := by kernel_rfl
/-- The same over a nil slice. -/
noncomputable def lfN (m : Nat) : Tb := { X := saneX, Y := lfY m, Q := lfQ m, C := if m = 0 then [⟨fSameFeatures, sds, bR true⟩] else [] }
set_option maxRecDepth 100000 in
theorem lf_nil : (allU 3 fun m => doneQ (lfN m) [] fEarFeatures [earR 0, nilR] [] [] (bR true) []) = true := by kernel_rfl
/-- The names in the law: the ear, what Build answers, the length; the ear's features, the list that came in. -/
noncomputable def lnm (x : Nat → Int) (y : Nat → Bool) (X : Nat → Int) (Y : Nat → Bool) (e n : Int) (l : List Value) : Nm :=
  ⟨fun i => if i < 40 then x i else if i < 49 then X (i - 40) else if i = 49 then e else n, fun i => if i < 40 then y i else Y (i - 40), fun _ => ⟨#[]⟩, fun i => if i = 0 then featL (shp x y) 12 else l⟩
def nmL (l : List Value) : Nm := ⟨fun _ => 0, fun _ => false, fun _ => ⟨#[]⟩, fun _ => l⟩
theorem featL_ints (s : Nat → Int) : ∀ k, ints (featL s k)
  | 0, v, hv => by cases hv
  | k + 1, v, hv => by
    have hv : v ∈ featL s k ++ (if s k = 0 then [] else featC k (s k)) := hv
    rcases List.mem_append.1 hv with hv | hv
    · exact featL_ints s k v hv
    · split at hv
      · cases hv
      · unfold featC at hv
        split at hv
        · simp at hv; rcases hv with rfl | rfl | rfl <;> exact ⟨_, rfl⟩
        · split at hv
          · simp at hv; rcases hv with rfl | rfl | rfl | rfl <;> exact ⟨_, rfl⟩
          · split at hv <;> (simp at hv; rcases hv with rfl | rfl | rfl | rfl <;> exact ⟨_, rfl⟩)
theorem bV_ear (o : Option (Nat → Int)) : ∃ X Y e, bV o = .tuple #[earF X Y, intV e] := by
  unfold bV
  split
  · exact ⟨_, _, _, rfl⟩
  · split
    · exact ⟨_, _, _, rfl⟩
    · exact ⟨_, _, _, rfl⟩
def lmode (x : Nat → Int) (y : Nat → Bool) : Nat := if valB x then (if (featL (shp x y) 12).isEmpty then 1 else 0) else 2
theorem lmode_lt (x : Nat → Int) (y : Nat → Bool) : lmode x y < 3 := by
  unfold lmode
  split
  · split <;> omega
  · omega
theorem lfQ_ok (x : Nat → Int) (y : Nat → Bool) (V : Val) (hV : @cvF V (earR 0) = earF x y) (hL : V.L 0 = featL (shp x y) 12) : ∀ e, e ∈ lfQ (lmode x y) → @AnsQ V e.f (e.a.map (@cvF V)) e.r e.h := by
  intro e he
  unfold lfQ lmode at he
  cases hv : valB x with
  | false => rw [hv] at he; cases he
  | true =>
    rw [hv] at he
    cases hE : (featL (shp x y) 12).isEmpty with
    | true => rw [hE] at he; cases he
    | false =>
      rw [hE] at he
      have h1 := features_ans x y hv V hL
      have h2 := rfeatures_ans x y hv V hL
      rw [hE] at h1 h2
      rw [← hV] at h1 h2
      have he : e = (⟨fFeatures, [earR 0], .tup [.slN 0 0 4, lI 0], [some (.lst 0 74 true)]⟩ : QE) ∨ e = ⟨fRFeatures, [earR 0], .tup [.slN 0 0 4, lI 0], [some (.lst 0 74 true)]⟩ := by
        simpa using he
      rcases he with rfl | rfl
      · exact h1
      · exact h2
theorem lfY_ok (x : Nat → Int) (y : Nat → Bool) (V : Val) (hV : @cvF V (earR 0) = earF x y) (hL : V.L 0 = featL (shp x y) 12) : ∀ e, e ∈ lfY (lmode x y) → Ans e.f (e.a.map (@cvF V)) (@cvF V e.r) := by
  intro e he
  unfold lfY lmode at he
  cases hv : valB x with
  | false =>
    rw [hv] at he
    have h1 := features_bad x y hv
    have h2 := rfeatures_bad x y hv
    rw [← hV] at h1 h2
    have he : e = (⟨fFeatures, [earR 0], badA⟩ : YE) ∨ e = ⟨fRFeatures, [earR 0], badA⟩ := by simpa using he
    rcases he with rfl | rfl
    · exact h1
    · exact h2
  | true =>
    rw [hv] at he
    cases hE : (featL (shp x y) 12).isEmpty with
    | false => rw [hE] at he; cases he
    | true =>
      rw [hE] at he
      have h1 := features_ans x y hv V hL
      have h2 := rfeatures_ans x y hv V hL
      rw [hE] at h1 h2
      rw [← hV] at h1 h2
      have he : e = (⟨fFeatures, [earR 0], okA⟩ : YE) ∨ e = ⟨fRFeatures, [earR 0], okA⟩ := by simpa using he
      rcases he with rfl | rfl
      · exact ans_dq (V := V) h1
      · exact ans_dq (V := V) h2
theorem same_ok (x : Nat → Int) (y : Nat → Bool) (V : Val) (hL : V.L 0 = featL (shp x y) 12) : @AnsN V fSameFeatures sds (.bool true) := by
  obtain ⟨n, hn⟩ := featL_div (shp x y) 12
  have := featL_len (shp x y) 12
  exact same_ans V _ hL (featL_ints _ 12) n hn (by omega)
theorem shift_nval {V V' : Val} {w : World} {vs : List Value} {i : Nat} (hi : V.L i = V'.L 0) (h : All2 (@Go.Ri.NVal V w) [.slN 0 i 4] vs) : All2 (@Go.Ri.NVal V' w) bds vs := by
  cases h with
  | cons h1 h2 =>
    cases h2
    obtain ⟨a, m, cap, g1, g2, g3, g4, g5, g6⟩ := h1
    rw [hi] at g2 g4 g6
    exact .cons ⟨a, m, cap, g1, g2, g3, g4, g5, g6⟩ .nil
/-- THE LAW, over a slice that is not nil. -/
theorem feat_law (x : Nat → Int) (y : Nat → Bool) (l : List Value) (hl : ints l) (n : Nat) (hn : l.length = n * 4) (w : World) (hr : RoIn ro w) (a : Addr) (cap : Nat) (ha : l ≠ [] → a.block < w.heap.size) (hk : n ≤ cap) (hc : ∀ j u, l[j]? = some u → w.cell? (a.add j) = some u) :
    Calls Tryz.prog fEarFeatures #[earF x y, .slice (some a) n cap] w (fun e w' => e = .returned (.bool true) ∧ Below w.heap.size w w') := by
  obtain ⟨X, Y, e, hB⟩ := bV_ear (bld l n)
  let c := lnm x y X Y e n l
  let V : Val := c.val fun _ => undef
  have hV : @cvF V (earR 0) = earF x y := rfl
  have hL : V.L 0 = featL (shp x y) 12 := rfl
  have hLL : ∀ e, e ∈ ([⟨1, 4, sI 50⟩] : List LNE) → @LLTrue V e := by
    intro e he
    simp only [List.mem_cons, List.not_mem_nil, or_false] at he
    subst he
    exact ⟨rfl, n, Nat.succ_pos 3, hn, rfl⟩
  have hT : ∀ b, decide ((n : Int) > 100) = b → ∀ e, e ∈ ([⟨.bin .gtr, sI 50, lI 100, bR b⟩] : List TE) → @TETrue V e := by
    intro b hb e he
    simp only [List.mem_cons, List.not_mem_nil, or_false] at he
    subst he
    rw [← hb]
    exact ⟨rfl, t_gtr .i64 (n : Int) 100⟩
  have hv : All2 (@Go.Ri.NVal V w) lfD [earF x y, .slice (some a) n cap] := .cons (show _ = _ from hV.symm) (.cons ⟨a, n, cap, rfl, ha, Nat.succ_pos 3, hn, hk, hc⟩ .nil)
  have fin : ∀ t, @TbOK V t → doneQ t [] fEarFeatures lfD [] [] (bR true) [] = true → Calls Tryz.prog fEarFeatures #[earF x y, .slice (some a) n cap] w (fun e w' => e = .returned (.bool true) ∧ Below w.heap.size w w') := by
    intro t ht hd
    exact (done_calls V V ht hd rfl (noHolds V V) w hr _ hv).mono fun e w' ⟨u, E', he, hu, H⟩ => ⟨by rw [he]; exact congrArg _ hu, @HInv.below V _ _ _ _ _ _ H⟩
  by_cases hbig : (n : Int) > 100
  · refine fin lfBig ?_ lf_big
    letI : Val := V
    exact { X := sanex, T := hT true (by simp [hbig]), LL := hLL }
  · refine fin (lfTb (lmode x y)) ?_ (allU_lt lf_run _ (lmode_lt x y))
    have hnb : n ≤ 1000000 := by omega
    letI : Val := V
    refine { X := sanex, T := hT false (by simp [hbig]), LL := hLL, Y := lfY_ok x y V hV hL, Q := lfQ_ok x y V hV hL, C := ?_ }
    intro q hq
    rcases List.mem_append.1 (show q ∈ (if lmode x y = 0 then [⟨fSameFeatures, sds, bR true⟩] else []) ++ [⟨fBuild, [.slN 0 1 4], .tup [earR 40, sI 49]⟩, ⟨fRBuild, [.slN 0 1 4], .tup [earR 40, sI 49]⟩] from hq) with hq | hq
    · split at hq
      · simp only [List.mem_cons, List.not_mem_nil, or_false] at hq
        subst hq
        exact same_ok x y V hL
      · cases hq
    · let V' : Val := (nmL l).val fun _ => undef
      have e1 : @cvF V (.tup [earR 40, sI 49]) = bV (bld l n) := hB.symm
      simp only [List.mem_cons, List.not_mem_nil, or_false] at hq
      rcases hq with rfl | rfl
      · intro w hr vs hv
        have := build_ans V' l rfl hl n hn hnb w hr vs (shift_nval (V := V) (V' := V') rfl hv)
        show Calls _ _ _ _ (fun e w' => e = .returned (@cvF V (.tup [earR 40, sI 49])) ∧ _)
        rw [e1]
        exact this
      · intro w hr vs hv
        have := rbuild_ans V' l rfl hl n hn hnb w hr vs (shift_nval (V := V) (V' := V') rfl hv)
        show Calls _ _ _ _ (fun e w' => e = .returned (@cvF V (.tup [earR 40, sI 49])) ∧ _)
        rw [e1]
        exact this
/-- The law, over a nil slice. -/
theorem feat_law_nil (x : Nat → Int) (y : Nat → Bool) : Ans fEarFeatures [earF x y, .slice none 0 0] (.bool true) := by
  intro w hr
  let c := lnm x y x y 0 0 []
  let V : Val := c.val fun _ => undef
  have hV : @cvF V (earR 0) = earF x y := rfl
  have hL : V.L 0 = featL (shp x y) 12 := rfl
  have ht : @TbOK V (lfN (lmode x y)) := by
    letI : Val := V
    refine { X := sanex, Y := lfY_ok x y V hV hL, Q := lfQ_ok x y V hV hL, C := ?_ }
    intro q hq
    have hq : q ∈ (if lmode x y = 0 then [⟨fSameFeatures, sds, bR true⟩] else []) := hq
    split at hq
    · simp only [List.mem_cons, List.not_mem_nil, or_false] at hq
      subst hq
      exact same_ok x y V hL
    · cases hq
  exact (done_calls V V ht (allU_lt lf_nil _ (lmode_lt x y)) rfl (noHolds V V) w hr [earF x y, .slice none 0 0] (@nval_flat V w [earR 0, nilR] rfl)).mono fun e w' ⟨u, E', he, hu, H⟩ => ⟨by rw [he]; exact congrArg _ hu, @HInv.below V _ _ _ _ _ _ H⟩
end Go.Proofs.Z
