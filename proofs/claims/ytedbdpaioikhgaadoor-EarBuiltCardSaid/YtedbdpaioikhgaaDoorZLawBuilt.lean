/- A part of the proofs that the laws of layer one answer true for every input. -/
import Derived.Test.YtedbdpaioikhgaaDoorZBt8
namespace Go.Proofs.Z
open Go Go.RowKit Go.Proofs Go.Ri
/-- THE LAW EarBuilt. -/
theorem built_law (x : Nat → Int) (y : Nat → Bool) (lv tu : List Value) (hlv : bools lv) (htu : u8s tu) (tn ln : Bool) (htn : tn = true → tu = []) (hln : ln = true → lv = []) (w : World) (hr : RoIn ro w) (vs : List Value) (hvs : All2 (@Go.Ri.NVal ((N1 x y lv tu 0 []).val fun _ => undef) w) (btArgs tn ln) vs) :
    Calls Tryd.prog fEarBuilt vs.toArray w (fun e w' => e = .returned (.bool true) ∧ Below w.heap.size w w') := by
  let V : Val := (N1 x y lv tu 0 []).val fun _ => undef
  have hV : @cvF V (earR 0) = earF x y := rfl
  cases hv : valB x with
  | false =>
    refine (done_calls V V (t := { X := saneX, Y := [⟨fFeatures, [earR 0], badA⟩, ⟨fCheck, [earR 0], lI 10⟩] }) ?_ (all2_all (all2_all bt_bad tn) ln) rfl (noHolds V V) w hr vs hvs).mono fun e w' ⟨u, E', he, hu, H⟩ => ⟨by rw [he]; exact congrArg _ hu, @HInv.below V _ _ _ _ _ _ H⟩
    letI : Val := V
    refine { X := sanexB, Y := ?_ }
    intro e he
    simp only [List.mem_cons, List.not_mem_nil, or_false] at he
    rcases he with rfl | rfl
    · exact features_bad x y hv
    · have := chk_ans x y
      rw [if_neg (by simp [hv])] at this
      exact this
  | true =>
    by_cases hP : PL x y = []
    · have h0 : ∀ p, p < 12 → shp x y p = 0 := fun p hp => Classical.byContradiction fun h => by
        have := pls_mk hp h
        rw [show pls (shp x y) 12 = [] from hP] at this
        cases this
      have hx : ∀ p, p < 9 → x p = 0 := fun p hp => by
        have := h0 p (by omega)
        unfold shp at this
        rwa [if_pos hp] at this
      have hy : ∀ p, p < 3 → y p = false := fun p hp => by
        have := h0 (9 + p) (by omega)
        unfold shp at this
        rw [if_neg (by omega), Nat.add_sub_cancel_left] at this
        cases hyp : y p with
        | false => rfl
        | true => rw [hyp] at this; cases this
      have hz : earF x y = zE := by
        unfold zE earF
        rw [hx 0 (by omega), hx 1 (by omega), hx 2 (by omega), hx 3 (by omega), hx 4 (by omega), hx 5 (by omega), hx 6 (by omega), hx 7 (by omega), hx 8 (by omega), hy 0 (by omega), hy 1 (by omega), hy 2 (by omega)]
      have hvs' : All2 (@Go.Ri.NVal V w) (.pl zE :: (btArgs tn ln).drop 1) vs := by
        cases hvs with
        | cons h1 h2 => exact .cons (show _ = zE from (show _ = earF x y from h1).trans hz) h2
      refine (done_calls V V (t := { X := saneX }) ?_ (all2_all (all2_all bt_zero tn) ln) rfl (noHolds V V) w hr vs hvs').mono fun e w' ⟨u, E', he, hu, H⟩ => ⟨by rw [he]; exact congrArg _ hu, @HInv.below V _ _ _ _ _ _ H⟩
      letI : Val := V
      exact { X := sanexB }
    · exact built_main x y lv tu hv hlv htu tn ln htn hln hP w hr vs hvs
end Go.Proofs.Z
