/- A part of the proofs that the laws of layer four answer true for every input. -/
import Derived.Test.YtjjmnoiiihcoiaaGreatDoorZLJ
namespace Go.Proofs.Z
open Go Go.RowKit Go.Proofs Go.Ri Go.Proofs.Z.Fa
/-! slices.Clone of a slice that holds nothing, whatever its address: some slice that holds nothing. The law FellFolds for a fell without gates and no index. -/
set_option maxRecDepth 100000 in
theorem cl_nil (c : Nat) : doneQ {} [] fClone [.pl (.slice none 0 c)] [] [] nilR [] = true := by kernel_rfl
set_option maxRecDepth 100000 in
theorem cl_some (a : Addr) (c : Nat) : doneQ {} [] fClone [.pl (.slice (some a) 0 c)] [] [0] (.sl 0 0 0 4 none) [some (.cells [] tGate false false)] = true := by kernel_rfl
theorem clone_em (oa : Option Addr) (c : Nat) (w : World) (hr : RoIn ro w) : Calls Tryz.prog fClone #[.slice oa 0 c] w (fun e w' => (∃ ob k, e = .returned (.slice ob 0 k)) ∧ Below w.heap.size w w') := by
  have ht : @TbOK V0 {} := by letI : Val := V0; exact {}
  cases oa with
  | none =>
    refine (done_calls V0 V0 ht (cl_nil c) rfl (holds_all fz) w hr [.slice none 0 c] (.cons rfl .nil)).mono fun e w' ⟨u, E', he, hu, H⟩ => ?_
    exact ⟨⟨none, 0, by rw [he, show u = .slice none 0 0 from hu]⟩, @HInv.below V0 _ _ _ _ _ _ H⟩
  | some a =>
    refine (done_calls V0 V0 ht (cl_some a c) rfl (holds_all fz) w hr [.slice (some a) 0 c] (.cons rfl .nil)).mono fun e w' ⟨u, E', he, hu, H⟩ => ?_
    obtain ⟨p, k, _, _, _, hu⟩ := hu
    exact ⟨⟨_, _, by rw [he, hu]⟩, @HInv.below V0 _ _ _ _ _ _ H⟩
section
variable [Val]
theorem pushA {ro : Ro} {base : Nat} {w0 w : World} {E : Env} {h : RH} (H : HInv ro base w0 E h w) {p : EP} {j : Nat} (hp : p.1 < base) (hB : ∀ E, BRel E p w (.lstA j)) : HInv ro base w0 (E ++ [p]) (h ++ [some (.lstA j)]) w := by
  have old : ∀ b, b < h.length → (E ++ [p])[b]? = E[b]? := fun b hb => List.getElem?_append_left (by rw [← H.len]; exact hb)
  have hat : ∀ b o, at? (h ++ [some (.lstA j)]) b = some o → (b < h.length ∧ at? h b = some o) ∨ (b = h.length ∧ o = .lstA j) := fun b o hb => by
    rcases Nat.lt_trichotomy b h.length with hl | he | hg
    · rw [at?_push_old hl] at hb
      exact .inl ⟨hl, hb⟩
    · subst he
      rw [at?_push_new] at hb
      cases hb
      exact .inr ⟨rfl, rfl⟩
    · rw [at?_push_far hg] at hb
      cases hb
  refine ⟨H.below, H.lb, by simp [H.len], H.ro, fun b o hb => ?_, fun b b' o o' p1 p2 hb hb' wo wo' h1 h2 e => ?_, fun b o p1 hb hn h1 q hq => ?_⟩
  · rcases hat b o hb with ⟨hl, hb⟩ | ⟨rfl, rfl⟩
    · obtain ⟨q, g1, g2, g3⟩ := H.blk b o hb
      exact ⟨q, by rw [old b hl]; exact g1, g2, g3.keep (List.prefix_append _ _) rfl fun _ _ _ => rfl⟩
    · exact ⟨p, by rw [H.len, List.getElem?_append_right (Nat.le_refl _)]; simp, hp, hB _⟩
  · rcases hat b o hb with ⟨hl, hb⟩ | ⟨rfl, rfl⟩
    · rcases hat b' o' hb' with ⟨hl', hb'⟩ | ⟨rfl, rfl⟩
      · rw [old b hl] at h1
        rw [old b' hl'] at h2
        exact H.inj b b' o o' p1 p2 hb hb' wo wo' h1 h2 e
      · cases wo'
    · cases wo
  · rcases hat b o hb with ⟨hl, hb⟩ | ⟨rfl, rfl⟩
    · rw [old b hl] at h1
      obtain ⟨g1, g2⟩ := H.frm b o p1 hb hn h1 q hq
      refine ⟨g1, ?_⟩
      split
      · rename_i ho
        rw [if_pos ho] at g2
        refine ⟨g2.1, fun b' o' p' hb' wo' hp' => ?_⟩
        rcases hat b' o' hb' with ⟨hl', hb'⟩ | ⟨rfl, rfl⟩
        · rw [old b' hl'] at hp'
          exact g2.2 b' o' p' hb' wo' hp'
        · cases wo'
      · rename_i ho
        rwa [if_neg ho] at g2
    · cases hn
/-- slices.Clone of the list j0, which is empty. -/
noncomputable def ceU (j0 : Nat) : CallF := fun f args h => match args with
  | [.slA b j 4] => match Nat.beq f fClone && Nat.beq j j0, lkp h b with
    | true, some (.lstA j') => match Nat.beq j' j with
      | true => some (.slA h.length j 4, h ++ [some (.lstA j)])
      | false => none
    | _, _ => none
  | _ => none
theorem ceU_ok (j0 : Nat) (hL : Val.L j0 = []) : UOK (ceU j0) := by
  intro f args h r h' hu base w0 E w vs H ha
  unfold ceU at hu
  split at hu
  · rename_i b j
    split at hu
    · rename_i j' hc hl
      split at hu
      · rename_i hj
        cases hu
        simp only [Bool.and_eq_true] at hc
        obtain rfl := Nat.eq_of_beq_eq_true hc.1
        obtain rfl := Nat.eq_of_beq_eq_true hc.2
        obtain rfl := Nat.eq_of_beq_eq_true hj
        cases ha with
        | cons h1 h2 =>
          cases h2
          obtain ⟨p, oa, n, cap, hp, hps, hab, _, hn, hcap, rfl⟩ := h1
          rw [hL] at hn
          obtain rfl : n = 0 := by
            have hn : 0 = n * 4 := hn
            omega
          refine (clone_em oa cap w H.roIn).mono fun e w' ⟨⟨ob, k, he⟩, hb⟩ => ?_
          have hb1 : at? h b = some (.lstA j') := by
            rw [lkp_eq] at hl
            exact hl
          obtain ⟨p', g1, g2, g3⟩ := (H.world hb).blk b _ hb1
          rw [hp] at g1
          cases g1
          have g4 := g3.heap_lt
          refine ⟨.slice ob 0 k, E ++ [⟨p.1, 0, .slice ob 0 k⟩], he, List.prefix_append _ _, ⟨⟨p.1, 0, .slice ob 0 k⟩, ob, 0, k, ?_, rfl, fun hne => absurd hL hne, by decide, by rw [hL]; rfl, Nat.zero_le _, rfl⟩, pushA (H.world hb) (show p.1 < base from g2) fun E => ⟨g4, ob, 0, k, rfl, fun hne => absurd hL hne, fun a _ i v hi => by rw [hL] at hi; cases hi⟩⟩
          rw [H.len, List.getElem?_append_right (Nat.le_refl _)]
          simp
      · cases hu
    · cases hu
  · cases hu
noncomputable def orU (A B : CallF) : CallF := fun f args h => match A f args h with | some r => some r | none => B f args h
theorem orU_ok {A B : CallF} (hA : UOK A) (hB : UOK B) : UOK (orU A B) := by
  intro f args h r h' hu
  unfold orU at hu
  split at hu
  · rename_i r1 h1
    cases hu
    exact hA f args h r h' h1
  · exact hB f args h r h' hu
end
end Go.Proofs.Z
