/- A part of the proofs that the laws of layer four answer true for every input. -/
import Derived.Test.YtjjmnoiiihcoiaaGreatDoorZLE
namespace Go.Proofs.Z
open Go Go.RowKit Go.Proofs Go.Ri Go.Proofs.Z.Fa
/-! What a gate that is never open changes. -/
theorem set_getD {l : List Value} {i j : Nat} {v : Value} : (l.set i v).getD j undef = if i = j ∧ i < l.length then v else l.getD j undef := by
  rw [List.getD_eq_getElem?_getD, List.getD_eq_getElem?_getD, List.getElem?_set]
  by_cases h : i = j
  · subst h
    by_cases hl : i < l.length
    · rw [if_pos rfl, if_pos hl, if_pos ⟨rfl, hl⟩]
      rfl
    · rw [if_pos rfl, if_neg hl, if_neg (fun h => hl h.2), List.getElem?_eq_none (by omega)]
  · rw [if_neg h, if_neg (fun q => h q.1)]
section
variable {G : Int} {l : List Value} {n i : Nat}
theorem wiS_A (k : Nat) : gtA (wiS l i) k = gtA l k := by
  unfold gtA wiS
  rw [set_getD, if_neg (fun h => by omega)]
theorem wiS_B (k : Nat) : gtB (wiS l i) k = gtB l k := by
  unfold gtB wiS
  rw [set_getD, if_neg (fun h => by omega)]
theorem wiS_F (k : Nat) : gtF (wiS l i) k = gtF l k := by
  unfold gtF wiS
  rw [set_getD, if_neg (fun h => by omega)]
theorem wiS_T (hl : l.length = n * 4) (hi : i < n) (k : Nat) : gtT (wiS l i) k = if k = i then gtF l k else gtT l k := by
  by_cases h : k = i
  · subst h
    rw [if_pos rfl]
    show intOf ((l.set (k * 4 + 3) _).getD (k * 4 + 3) undef) = _
    rw [set_getD, if_pos ⟨rfl, by omega⟩]
    rfl
  · rw [if_neg h]
    unfold gtT wiS
    rw [set_getD, if_neg (fun h => by omega)]
theorem wiS_us (hl : l.length = n * 4) (hi : i < n) (k : Nat) : usP (wiS l i) k = (usP l k && !decide (k = i)) := by
  unfold usP
  rw [wiS_F, wiS_T hl hi]
  by_cases h : k = i
  · rw [if_pos h, decide_eq_true h]
    simp
  · rw [if_neg h, decide_eq_false h]
    simp
theorem okL_all {l : List Value} : ∀ {n : Nat}, (∀ k, k < n → gokL G l k = true) → okL G l n = true
  | 0, _ => rfl
  | n + 1, h => by
    show (okL G l n && gokL G l n) = true
    rw [okL_all fun k hk => h k (by omega), h n (by omega)]
    rfl
theorem wiS_valid (hva : validM G l n = true) (hl : l.length = n * 4) (hi : i < n) : validM G (wiS l i) n = true := by
  have h := (validM_iff _ _ _).1 hva
  refine (validM_iff _ _ _).2 ⟨h.1, h.2.1, h.2.2.1, okL_all fun k hk => ?_⟩
  have hg := (gOk_iff _ _ _ _ _).1 (okL_at h.2.2.2 hk)
  refine (gOk_iff _ _ _ _ _).2 ?_
  show 0 ≤ gtA (wiS l i) k ∧ gtA (wiS l i) k < gtB (wiS l i) k ∧ gtB (wiS l i) k < G ∧ 0 ≤ gtF (wiS l i) k ∧ gtF (wiS l i) k < 360 ∧ 0 ≤ gtT (wiS l i) k ∧ gtT (wiS l i) k < 360
  rw [wiS_A, wiS_B, wiS_F, wiS_T hl hi]
  split
  · rename_i h
    subst h
    exact ⟨hg.1, hg.2.1, hg.2.2.1, hg.2.2.2.1, hg.2.2.2.2.1, hg.2.2.2.1, hg.2.2.2.2.1⟩
  · exact hg
theorem wiS_gA (k : Nat) : gA' (wiS l i) k = gA' l k := by unfold gA'; rw [wiS_A]
theorem wiS_gB (k : Nat) : gB' (wiS l i) k = gB' l k := by unfold gB'; rw [wiS_B]
/-- The set that is connected without a gate. -/
theorem wiS_cl (hl : l.length = n * 4) (hi : i < n) (s : Nat) : clS (wiS l i) n (usP (wiS l i)) s = clS l n (usB l fun k => decide (k = i)) s := by
  unfold clS
  rw [show gA' (wiS l i) = gA' l from funext wiS_gA, show gB' (wiS l i) = gB' l from funext wiS_gB, show usP (wiS l i) = usB l (fun k => decide (k = i)) from funext fun k => wiS_us hl hi k]
end
/-- Whether a gate is a bridge: without it, its grazings are apart. -/
noncomputable def brM (l : List Value) (n i : Nat) : Bool := (clS l n (usB l fun k => decide (k = i)) (2 ^ gA' l i)).testBit (gB' l i)
noncomputable def brF (l : List Value) (n i : Nat) : Bool := usP l i && !brM l n i
noncomputable def brG (l : List Value) (n : Nat) (m : Nat) : List Value := gl (brF l n) ogC m
end Go.Proofs.Z

namespace Go.Proofs.Z
open Go Go.RowKit Go.Proofs Go.Ri Go.Proofs.Z.Fa
/-! Bridges, of both packages: contracts. -/
theorem brG_succ (l : List Value) (n m : Nat) : brG l n (m + 1) = brG l n m ++ if brF l n m then ogC m else [] := rfl
section
variable (V : Val) {G : Int} {l : List Value} {n : Nat}
theorem foldOf_wo {l' : List Value} {s : Nat} {x : RV} (hG : V.I 0 = G) (h41 : V.L 41 = l') (hl : ints l') (hn : l'.length = n * 4) (hva : validM G l' n = true) (hs : s < 16) (fx : flat x = true) (hx : @cvF V x = .int .i64 s) : @AnsN V fFoldOf [woR, x] (.int .u16 (clS l' n (usP l') (2 ^ s) : Nat)) := by
  intro w hr vs hv
  let V1 : Val := (gnm G l' n 0 (fun _ => (s : Int)) ny nz).val fun _ => undef
  refine foldOf_ans V1 (G := G) (l := l') (n := n) (s := s) (x := sI 9) rfl rfl hl hn hva hs rfl rfl w hr vs ?_
  cases hv with
  | cons h1 h2 => cases h2 with
    | cons h2 h3 =>
      cases h3
      exact .cons (fell_nvalG (V' := V1) (j := 0) hG h41 h1) (.cons (nval_re fx rfl hx rfl h2) .nil)
noncomputable def brnm (G : Int) (l : List Value) (n k : Nat) : Nm := gnm G l n k (fun _ => (clS l n (usB l fun j => decide (j = k)) (2 ^ gA' l k) : Nat)) ny (fun i => if i = 9 then brG l n k else if i = 10 then brG l n (k + 1) else if i = 40 then [.int .i64 k] else wiS l k)
theorem br_keepS (ne b : Bool) {k : Nat} {V1 V2 : Val} (hne : ne = !(brG l n k).isEmpty) (hb : brF l n k = b) (h2 : V1.I 2 = (k : Int)) (h9 : V1.L 9 = brG l n k) (h10 : V1.L 10 = brG l n (k + 1)) (h92 : V2.L 9 = brG l n (k + 1)) : ∀ q, q ∈ brL ne b → okSE V1 V2 q := by
  have hs := brG_succ l n k
  rw [hb] at hs
  unfold brL
  cases b with
  | true =>
    rw [if_pos rfl] at hs
    cases ne with
    | true => exact fa (h92.trans h10.symm) fz
    | false =>
      refine fa ?_ fz
      show V2.L 9 = [Value.int .i64 (V1.I 2)]
      have he : brG l n k = [] := by simpa using hne.symm
      rw [h92, hs, he, h2]
      rfl
  | false =>
    rw [if_neg (by decide), List.append_nil] at hs
    cases ne with
    | true => exact fa (h92.trans (hs.trans h9.symm)) fz
    | false => exact fz
theorem brG_ne {k : Nat} {ne b : Bool} (hne : ne = !(brG l n k).isEmpty) (hb : brF l n k = b) : (ne || b) = !(brG l n (k + 1)).isEmpty := by
  rw [brG_succ, hb, hne]
  cases b with
  | true =>
    rw [if_pos rfl]
    cases brG l n k <;> rfl
  | false =>
    rw [if_neg (by decide), List.append_nil, Bool.or_false]
theorem bridges_q (hG : V.I 0 = G) (hL : V.L 0 = l) (hl : ints l) (hn : l.length = n * 4) (h9 : V.L 9 = brG l n n) :
    ∀ w, RoIn ro w → ∀ vs, All2 (@Go.Ri.NVal V w) [fellR] vs → Calls Tryz.prog fBridges vs.toArray w (DQ V (ogAns (errM G l n) (!(brG l n n).isEmpty)).1 (ogAns (errM G l n) (!(brG l n n).isEmpty)).2 w) := by
  intro w hr vs hv
  have hv : All2 (@Go.Ri.NVal ((brnm G l n 0).val fun _ => undef) w) [fellR] vs := by
    cases hv with
    | cons h1 h2 => cases h2; exact .cons (fell_nval1 hG hL h1) .nil
  have hC : @AnsN ((brnm G l n 0).val fun _ => undef) fCheck [fellR] (.int .i64 (errM G l n)) := check_ans _ rfl rfl hl hn
  unfold errM
  unfold errM at hC
  cases hva : validM G l n with
  | false =>
    rw [hva] at hC
    have ht : @TbOK ((brnm G l n 0).val fun _ => undef) { LL := hLL, C := [⟨fCheck, [fellR], lI 40⟩] } := by
      letI : Val := (brnm G l n 0).val fun _ => undef
      exact { LL := hLL_ok _ _ _ hn 0 _, C := fa hC fz }
    exact done_calls _ V ht br_err40 rfl (holds_all fz) w hr vs hv
  | true =>
    rw [hva] at hC
    have hg := (validM_iff _ _ _).1 hva
    have hb32 := hg.2.2.1
    have ht0 : @TbOK ((brnm G l n 0).val fun _ => undef) brE := by
      letI : Val := (brnm G l n 0).val fun _ => undef
      exact { LL := hLL_ok _ _ _ hn 0 _, C := fa hC fz }
    have hS : ∀ (k k' : Nat) {r : RV} (W W' : Nat → Value), @cv ((brnm G l n k).val W) r = .int .i64 (k' : Int) → ∀ q, q ∈ brS r → okSE ((brnm G l n k).val W) ((brnm G l n k').val W') q := fun k k' r W W' h => fa ⟨.i64, (k' : Int), h, rfl⟩ (fa ⟨.i64, G, rfl, rfl⟩ (fa ⟨.i64, (n : Int), rfl, rfl⟩ (fa (show l = l from rfl) fz)))
    refine fn_loop (κ := Bool) (brnm G l n 0) (fun _ => undef) brE [] fBridges [fellR] brP (fun m ne cc => ∃ k, k ≤ n ∧ m = n - k ∧ cc = brnm G l n k ∧ ne = !(brG l n k).isEmpty) ht0 (brS (lI 0)) [0, 1] false n br_enter (brnm G l n 0) (fun W' => holds_all (hS 0 0 _ W' rfl)) ⟨0, Nat.zero_le _, rfl, rfl, rfl⟩ _ ?_ w hr vs hv
    rintro w m ne cc ⟨k, hk, rfl, rfl, hne⟩ W
    rcases Nat.lt_or_ge k n with hlt | hge
    · obtain ⟨a0, a1, b0, b1, _, _⟩ := gate_range hva hlt
      have la : gA' l k < 16 := by unfold gA'; omega
      have lb : gB' l k < 16 := by unfold gB'; omega
      have ea : (((gA' l k : Nat) : Int)) = gtA l k := by unfold gA'; omega
      have eb : (((gB' l k : Nat) : Int)) = gtB l k := by unfold gB'; omega
      have hus := usable_ans (gtA l k) (gtB l k) (gtF l k) (gtT l k)
      have hwo := without_q ((brnm G l n k).val W) (G := G) (l := l) (n := n) rfl rfl hl hn (by omega) (by omega) [.int .i64 k] (fa ⟨_, rfl⟩ fz) 1 rfl (by omega) rfl (fun j hj => by
        obtain rfl : j = 0 := by omega
        show 0 ≤ (k : Int) ∧ (k : Int) < n
        omega) rfl
      have hfo := foldOf_wo ((brnm G l n k).val W) (G := G) (l' := wiS l k) (n := n) (s := gA' l k) (x := sI 3) rfl rfl (wiS_ints hl k) (by rw [wiS_len]; exact hn) (wiS_valid hva hn hlt) la rfl (congrArg (Value.int .i64) ea.symm)
      rw [wiS_cl hn hlt] at hfo
      have hhas := has_ans (clS_lt l n (usB l fun j => decide (j = k)) (2 ^ gA' l k)) lb
      rw [eb] at hhas
      have hT : ∀ q, q ∈ hT true → @TETrue ((brnm G l n k).val W) q := hT_ok _ _ _ (by omega) W (by simp [hlt])
      cases hu : usP l k with
      | false =>
        have hF : brF l n k = false := by unfold brF; rw [hu]; rfl
        rw [show (!(gtF l k == gtT l k)) = false from hu] at hus
        have tb : @TbOK ((brnm G l n k).val W) (brT false false) := by
          letI : Val := (brnm G l n k).val W
          exact { T := hT, LL := hLL_ok _ _ _ hn k W, LX := hLX_ok _ _ _ hl hn hlt W, Y := fa hus fz }
        have hag := all2_all br_no ne
        refine step_to _ [] tb _ _ ne (brnm G l n (k + 1)) hag (fun W' => holds_all (fapp (hS k (k + 1) W W' rfl) (br_keepS ne false hne hF rfl rfl rfl rfl))) ⟨n - (k + 1), by omega, k + 1, hlt, rfl, rfl, ?_⟩
        have := brG_ne hne hF
        rwa [Bool.or_false] at this
      | true =>
        rw [show (!(gtF l k == gtT l k)) = true from hu] at hus
        have hFe : brF l n k = !brM l n k := by unfold brF; rw [hu]; rfl
        have tb : ∀ q, brM l n k = q → @TbOK ((brnm G l n k).val W) (brT true q) := fun q hq => by
          letI : Val := (brnm G l n k).val W
          have hh := hhas
          rw [show (clS l n (usB l fun j => decide (j = k)) (2 ^ gA' l k)).testBit (gB' l k) = q from hq] at hh
          refine { T := hT, LL := hLL_ok _ _ _ hn k W, LX := hLX_ok _ _ _ hl hn hlt W, Y := fa hus (fa hh fz), C := fa hfo fz, U := qdU_ok _ _ (fa rfl fz) (fa hwo fz), LA := ?_ }
          show ∀ e, e ∈ (if (true && !q) = true then [(⟨9, [sI 2], 10⟩ : LAE)] else []) → _
          cases q with
          | true => exact fz
          | false => exact fa (gl_la (p := brF l n) (cells := ogC) (s := 1) ogC_len ogC_one rfl rfl (by rw [hFe, hq]; rfl) rfl (by omega)) fz
        cases hq : brM l n k with
        | true =>
          have hF : brF l n k = false := by rw [hFe, hq]; rfl
          have hag := all2_all br_keep ne
          refine step_to _ [] (tb true hq) _ _ ne (brnm G l n (k + 1)) hag (fun W' => holds_all (fapp (hS k (k + 1) W W' rfl) (br_keepS ne false hne hF rfl rfl rfl rfl))) ⟨n - (k + 1), by omega, k + 1, hlt, rfl, rfl, ?_⟩
          have := brG_ne hne hF
          rwa [Bool.or_false] at this
        | false =>
          have hF : brF l n k = true := by rw [hFe, hq]; rfl
          have hag := all2_all br_app ne
          refine step_to _ [] (tb false hq) _ _ true (brnm G l n (k + 1)) hag (fun W' => holds_all (fapp (hS k (k + 1) W W' rfl) (br_keepS ne true hne hF rfl rfl rfl rfl))) ⟨n - (k + 1), by omega, k + 1, hlt, rfl, rfl, ?_⟩
          have := brG_ne hne hF
          rwa [Bool.or_true] at this
    · obtain rfl : k = n := by omega
      have ht : @TbOK ((brnm G l k k).val W) hEnd := by
        letI : Val := (brnm G l k k).val W
        exact { T := hT_ok _ _ _ (by omega) W (by simp), LL := hLL_ok _ _ _ hn k W }
      rw [← hne]
      have ho := all2_all br_out ne
      cases ne with
      | true => exact step_outQ _ [] ht V _ _ _ _ ho rfl (holds_all (fa h9 fz))
      | false => exact step_outQ _ [] ht V _ _ _ _ ho rfl (holds_all fz)
end
end Go.Proofs.Z
