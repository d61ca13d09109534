/- A part of the proofs that the laws of layer one answer true for every input. -/
import Derived.Test.YtedbdpaioikhgaaGreatDoorZPrB
import Derived.Test.YtedbdpaioikhgaaGreatDoorZWdE
import Derived.Test.YtedbdpaioikhgaaGreatDoorZPrG
import Derived.Test.YtedbdpaioikhgaaGreatDoorZPrC0
import Derived.Test.YtedbdpaioikhgaaGreatDoorZPrC1
import Derived.Test.YtedbdpaioikhgaaGreatDoorZPrC2
import Derived.Test.YtedbdpaioikhgaaGreatDoorZPrC3
namespace Go.Proofs.Z.Pr
open Go Go.RowKit Go.Proofs Go.Ri Go.Proofs.Z
open Go.Proofs.Z.Wd (phB fps okF fps_ok jn wordsB)
open Go.Proofs.Z.Ps (vc nt wWhole updP)
/-! What turned makes of a description. -/
abbrev Pt := Option (Nat × Nat)
def ptx : Pt → List UInt8
  | none => wWhole
  | some q => phB q.1 q.2
def wtx : Pt → Nat → List UInt8
  | none, _ => wWhole
  | some q, r => wPh q.1 q.2 (1 + r)
def pts (L : List (Nat × Nat)) : List Pt := if L = [] then [none] else L.map some
structure Tn where
  z : Pt
  r : Nat
  c : Nat
  d : Nat
def tailT : List Tn → List UInt8
  | [] => []
  | q :: l => bl q.c ++ (44 :: (bl q.d ++ (wtx q.z q.r ++ tailT l)))
def bodyT : List Tn → List UInt8
  | [] => []
  | q :: l => wtx q.z q.r ++ tailT l
theorem words_pts (L : List (Nat × Nat)) : wordsB L = jn ((pts L).map ptx) := by
  unfold wordsB pts
  by_cases h : L = []
  · subst h
    rfl
  · rw [if_neg h, if_neg h, List.map_map]
    rfl
theorem updA_not (p : Nat) : ∀ (l : List It) (t : Nat → Int), (∀ q, q ∈ l → q.p ≠ p) → updA t l p = t p
  | [], _, _ => rfl
  | q :: l, t, h => by
    show updA (updP t q.p q.v) l p = t p
    rw [updA_not p l _ fun z hz => h z (List.mem_cons_of_mem _ hz)]
    unfold updP
    rw [if_neg fun e => h q List.mem_cons_self e.symm]
theorem updA_mem : ∀ (l : List It) (t : Nat → Int) (q : It), q ∈ l → l.Pairwise (fun y z => y.p ≠ z.p) → updA t l q.p = q.v
  | [], _, _, h, _ => by cases h
  | z :: l, t, q, h, hd => by
    have hd := List.pairwise_cons.1 hd
    show updA (updP t z.p z.v) l q.p = q.v
    rcases List.mem_cons.1 h with rfl | h
    · rw [updA_not _ l _ fun y hy => (hd.1 y hy).symm]
      unfold updP
      rw [if_pos rfl]
    · exact updA_mem l _ q h hd.2
theorem fps_lt (s : Nat → Int) : ∀ k, ∀ q, q ∈ fps s k → q.1 < k
  | 0, q, h => by cases h
  | k + 1, q, h => by
    rcases List.mem_append.1 h with h | h
    · exact Nat.lt_succ_of_lt (fps_lt s k q h)
    · split at h
      · cases h
      · simp only [List.mem_cons, List.not_mem_nil, or_false] at h
        subst h
        exact Nat.lt_succ_self k
theorem fps_dist (s : Nat → Int) : ∀ k, (fps s k).Pairwise fun y z => y.1 ≠ z.1
  | 0 => List.Pairwise.nil
  | k + 1 => by
    show (fps s k ++ if s k = 0 then [] else [(k, (s k).toNat)]).Pairwise _
    rw [List.pairwise_append]
    refine ⟨fps_dist s k, ?_, ?_⟩
    · split
      · exact List.Pairwise.nil
      · exact List.pairwise_singleton _ _
    · intro y hy z hz
      have := fps_lt s k y hy
      split at hz
      · cases hz
      · simp only [List.mem_cons, List.not_mem_nil, or_false] at hz
        subst hz
        exact Nat.ne_of_lt this
theorem fps_mem (s : Nat → Int) (p : Nat) : ∀ k, p < k → s p ≠ 0 → (p, (s p).toNat) ∈ fps s k
  | 0, h, _ => by omega
  | k + 1, h, h0 => by
    rcases Nat.lt_or_eq_of_le (Nat.le_of_lt_succ h) with hlt | rfl
    · exact List.mem_append_left _ (fps_mem s p k hlt h0)
    · refine List.mem_append_right _ ?_
      rw [if_neg h0]
      exact List.mem_cons_self
theorem fps_val (s : Nat → Int) : ∀ k, ∀ q, q ∈ fps s k → s q.1 ≠ 0 ∧ q.2 = (s q.1).toNat
  | 0, q, h => by cases h
  | k + 1, q, h => by
    rcases List.mem_append.1 h with h | h
    · exact fps_val s k q h
    · split at h
      · cases h
      · rename_i h0
        simp only [List.mem_cons, List.not_mem_nil, or_false] at h
        subst h
        exact ⟨h0, rfl⟩
def itOf (q : Tn) : It := match q.z with
  | some pv => ⟨pv.1, pv.2, 1 + q.r, q.c, q.d⟩
  | none => ⟨0, 0, 0, 0, 0⟩
theorem tail_tx : ∀ l : List Tn, (∀ q, q ∈ l → q.z ≠ none) → tailT l = tx (l.map itOf)
  | [], _ => rfl
  | q :: l, h => by
    have h1 := tail_tx l fun z hz => h z (List.mem_cons_of_mem _ hz)
    have h2 := h q List.mem_cons_self
    obtain ⟨z, r, c, d⟩ := q
    cases z with
    | none => exact absurd rfl h2
    | some pv =>
      show bl c ++ (44 :: (bl d ++ (wPh pv.1 pv.2 (1 + r) ++ tailT l))) = _
      rw [h1]
      rfl
/-- Such a text tells the ear. -/
theorem tells_of {s : Nat → Int} (hs : ∀ p, p < 12 → 0 ≤ s p ∧ s p < (vc p : Int)) (b : Nat) (l : List Tn) (h : (l.map Tn.z).Perm (pts (fps s 12))) : Tells s (bl b ++ bodyT l) := by
  unfold pts at h
  by_cases hL : fps s 12 = []
  · rw [if_pos hL] at h
    have h1 := List.perm_singleton.1 h
    cases l with
    | nil =>
      have := congrArg List.length h1
      simp at this
    | cons q l =>
      cases l with
      | cons z l =>
        have := congrArg List.length h1
        simp at this
      | nil =>
        have hz : q.z = none := by simpa using h1
        obtain ⟨z, r, c, d⟩ := q
        have hz : z = none := hz
        subst hz
        refine .whole b (by show bl b ++ (wWhole ++ []) = _; rw [List.append_nil]) fun p hp => ?_
        by_cases h0 : s p = 0
        · exact h0
        · have := fps_mem s p 12 hp h0
          rw [hL] at this
          cases this
  · rw [if_neg hL] at h
    have hz : ∀ q, q ∈ l → q.z ≠ none := fun q hq e => by
      have h1 : q.z ∈ (fps s 12).map some := h.subset (List.mem_map.2 ⟨q, hq, rfl⟩)
      rw [e] at h1
      obtain ⟨_, _, h2⟩ := List.mem_map.1 h1
      cases h2
    have hmem : ∀ q, q ∈ l → ∃ pv, q.z = some pv ∧ pv ∈ fps s 12 := fun q hq => by
      have h1 : q.z ∈ (fps s 12).map some := h.subset (List.mem_map.2 ⟨q, hq, rfl⟩)
      obtain ⟨pv, h2, h3⟩ := List.mem_map.1 h1
      exact ⟨pv, h3.symm, h2⟩
    have hok : ∀ q, q ∈ l.map itOf → q.ok := fun q hq => by
      obtain ⟨y, hy, rfl⟩ := List.mem_map.1 hq
      obtain ⟨pv, h1, h2⟩ := hmem y hy
      obtain ⟨g1, g2, g3⟩ := fps_ok s hs 12 (Nat.le_refl _) pv h2
      unfold itOf
      rw [h1]
      exact ⟨g1, g2, g3, Nat.le_add_right 1 _⟩
    have hdist : (l.map itOf).Pairwise fun y z => y.p ≠ z.p := by
      have h1 : (l.map Tn.z).Pairwise fun y z => ∀ u v, y = some u → z = some v → u.1 ≠ v.1 := by
        refine (h.pairwise_iff (fun hab u v hu hv => (hab v u hv hu).symm)).2 ?_
        rw [List.pairwise_map]
        refine (fps_dist s 12).imp fun hab u v hu hv => ?_
        cases hu
        cases hv
        exact hab
      rw [List.pairwise_map] at h1 ⊢
      refine h1.imp_of_mem fun {y z} hy hz' hab => ?_
      obtain ⟨u, h2, _⟩ := hmem y hy
      obtain ⟨v, h3, _⟩ := hmem z hz'
      have := hab u v h2 h3
      unfold itOf
      rw [h2, h3]
      exact this
    cases l with
    | nil =>
      have := h.length_eq
      rw [List.length_map, List.length_map] at this
      exact absurd (List.length_eq_zero_iff.1 this.symm) hL
    | cons q l =>
      have htx := tail_tx l fun z hz' => hz z (List.mem_cons_of_mem _ hz')
      obtain ⟨pv, h1, h2⟩ := hmem q List.mem_cons_self
      refine .feats b (itOf q) (l.map itOf) ?_ (hok _ List.mem_cons_self) (fun z hz' => hok z (List.mem_cons_of_mem _ hz')) hdist fun p hp => ?_
      · show bl b ++ (wtx q.z q.r ++ tailT l) = _
        rw [htx]
        unfold itOf
        rw [h1]
        rfl
      · by_cases h0 : s p = 0
        · rw [h0]
          refine updA_not p ((q :: l).map itOf) _ fun z hz' e => ?_
          obtain ⟨y, hy, rfl⟩ := List.mem_map.1 hz'
          obtain ⟨u, g1, g2⟩ := hmem y hy
          have g3 := (fps_val s 12 u g2).1
          unfold itOf at e
          rw [g1] at e
          have e : u.1 = p := e
          rw [e] at g3
          exact g3 h0
        · have h3 : some (p, (s p).toNat) ∈ (q :: l).map Tn.z := h.symm.subset (List.mem_map.2 ⟨_, fps_mem s p 12 hp h0, rfl⟩)
          obtain ⟨y, hy, h4⟩ := List.mem_map.1 h3
          have h5 := updA_mem ((q :: l).map itOf) (fun _ => 0) (itOf y) (List.mem_map.2 ⟨y, hy, rfl⟩) hdist
          unfold itOf at h5
          rw [h4] at h5
          have h5 : updA (fun _ => 0) ((q :: l).map itOf) p = ((s p).toNat : Nat) := h5
          rw [Int.toNat_of_nonneg (hs p hp).1] at h5
          exact h5
end Go.Proofs.Z.Pr

namespace Go.Proofs.Z.Pr
open Go Go.RowKit Go.Proofs Go.Ri Go.Proofs.Z
open Go.Proofs.Z.Sp (fBlanks fWide fSplit fTurned fLAt)
open Go.Proofs.Z.Wd (jn commaB)
open Go.Proofs.Z.Fa
/-! split: its contract. -/
def strs (l : List (List UInt8)) : List Value := l.map fun z => .string ⟨z.toArray⟩
def spn (s : ByteArray) (xs : List (List UInt8)) (j i fr : Nat) : Nm where
  I := fun k => if k = 0 then (i : Int) else if k = 1 then (fr : Int) else if k = 5 then ((byt s i).toNat : Int) else if k = 6 then (i : Int) + 1 else if k = 7 then ((byt s (i + 1)).toNat : Int) else if k = 8 then (i : Int) + 2 else (s.data.toList.length : Int)
  B := fun _ => false
  S := fun k => if k = 0 then s else if k = 2 then s.extract fr i else s.extract fr s.data.toList.length
  L := fun k => if k = 0 then strs (xs.take j) else if k = 1 then strs (xs.take (j + 1)) else strs xs
theorem jn_two (z w : List UInt8) (r : List (List UInt8)) : jn (z :: w :: r) = z ++ 44 :: 32 :: jn (w :: r) := by
  simp [jn, commaB]
theorem strs_snoc (xs : List (List UInt8)) (j : Nat) (h : j < xs.length) : strs (xs.take (j + 1)) = strs (xs.take j) ++ [.string ⟨(xs[j]).toArray⟩] := by
  unfold strs
  rw [List.take_succ_eq_append_getElem h, List.map_append]
  rfl
theorem strs_one (l : List (List UInt8)) : ∀ u, u ∈ strs l → u.oneCell' = true := fun u hu => by
  obtain ⟨z, _, rfl⟩ := List.mem_map.1 hu
  rfl
theorem f_add2 [Val] {a c : RV} {m : Int} (ha : cv a = .int .i64 m) (hc : cv c = .int .i64 (m + 2)) (hf : flat0 c = true) (h0 : 0 ≤ m) (h1 : m ≤ 1000000000) : TETrue ⟨.bin .add, a, lI 2, c⟩ := by
  refine ⟨hf, ?_⟩
  show TCTrue _ (cv a) (.int .i64 2) (cv c)
  rw [ha, hc]
  have := t_add .i64 m 2
  rw [IntWalk.i64_in _ (by omega)] at this
  exact this
theorem extract_of {s : ByteArray} {fr : Nat} {z m : List UInt8} (h : s.data.toList.drop fr = z ++ m) : s.extract fr (fr + z.length) = ⟨z.toArray⟩ := by
  apply ByteArray.ext
  apply Array.toList_inj.1
  rw [Lib.extract_data, h, Nat.add_sub_cancel_left, List.take_left']
  rfl
def SPhi (s : ByteArray) (xs : List (List UInt8)) (n : Nat) (ne : Bool) (c : Nm) : Prop := ∃ j i fr, ∃ hj : j < xs.length, s.data.toList.drop fr = jn (xs.drop j) ∧ fr ≤ s.data.toList.length ∧ i ≤ s.data.toList.length ∧ (i + 1 = fr ∧ s.data.toList[i]? = some 32 ∨ fr ≤ i ∧ i ≤ fr + (xs[j]).length) ∧ n = s.data.toList.length + 1 - i ∧ ne = !(Nat.beq j 0) ∧ c = spn s xs j i fr
theorem sp_holds (s : ByteArray) (xs : List (List UInt8)) (j i fr : Nat) (W W' : Nat → Value) : Holds (spS0 (!(Nat.beq j 0))) ((spn s xs j i fr).val W) ((spn s xs j (i + 1) fr).val W') := holds_all fun q hq => by
  unfold spS0 spL at hq
  simp only [List.mem_append, List.mem_cons, List.not_mem_nil, or_false] at hq
  rcases hq with (rfl | rfl | rfl) | hq
  · exact ⟨s, rfl, rfl⟩
  · exact ⟨.i64, (i : Int) + 1, rfl, rfl⟩
  · exact ⟨.i64, fr, rfl, rfl⟩
  · cases hj : Nat.beq j 0 <;> rw [hj] at hq <;> simp at hq
    subst hq
    rfl
theorem sp_holds1 (s : ByteArray) (xs : List (List UInt8)) (j i fr : Nat) (W W' : Nat → Value) (hj : j < xs.length) (he : s.extract fr i = ⟨(xs[j]).toArray⟩) : Holds (spS1 (!(Nat.beq j 0))) ((spn s xs j i fr).val W) ((spn s xs (j + 1) (i + 1) (i + 2)).val W') := holds_all fun q hq => by
  unfold spS1 at hq
  simp only [List.mem_append, List.mem_cons, List.not_mem_nil, or_false] at hq
  rcases hq with (rfl | rfl | rfl) | hq
  · exact ⟨s, rfl, rfl⟩
  · exact ⟨.i64, (i : Int) + 1, rfl, rfl⟩
  · exact ⟨.i64, (i : Int) + 2, rfl, rfl⟩
  · cases hj0 : Nat.beq j 0 <;> rw [hj0] at hq <;> simp at hq
    · subst hq
      rfl
    · subst hq
      obtain rfl := Nat.eq_of_beq_eq_true hj0
      show strs (xs.take (0 + 1)) = [Value.string (s.extract fr i)]
      rw [strs_snoc xs 0 hj, he]
      rfl
theorem split_step (s : ByteArray) (hs : s.data.toList.length ≤ 100000) (xs : List (List UInt8)) (hx : xs.length ≤ 1000) (h44 : ∀ z, z ∈ xs → ∀ c, c ∈ z → c ≠ 44) (V : Val) (hV : V.L 0 = strs xs) (w : World) (n : Nat) (ne : Bool) (c : Nm) (h : SPhi s xs n ne c) (W : Nat → Value) :
    StepT fSplit spB spK spP w.heap.size w (DQ V (.slN 0 0 1) [some (.lst 0 9 true)] w) (fun k' c' => ∃ n', n' < n ∧ SPhi s xs n' k' c') ne c W := by
  obtain ⟨j, i, fr, hj, hdr, hfr, hi, hpos, rfl, rfl, rfl⟩ := h
  have hcons : xs.drop j = xs[j] :: xs.drop (j + 1) := List.drop_eq_getElem_cons hj
  rw [hcons] at hdr
  have hlen := congrArg List.length hdr
  rw [List.length_drop] at hlen
  letI V0 : Val := (spn s xs j i fr).val W
  have hsz : s.size = s.data.toList.length := by simp
  have fl : TETrue ⟨.len, sT' 0, sT' 0, sI 90⟩ := f_len (s := s) rfl rfl rfl
  have fa : TETrue ⟨.bin .add, sI 0, lI 1, sI 6⟩ := f_add1 (m := (i : Int)) rfl rfl rfl (by omega) (by omega)
  have fs : ∀ b, decide (i + 1 < s.data.toList.length) = b → TETrue ⟨.bin .lss, sI 6, sI 90, bR b⟩ := fun b hb => f_lss (m := (i : Int) + 1) (n := (s.data.toList.length : Int)) rfl rfl (by rw [← hb]; exact decide_eq_decide.2 (by constructor <;> intro hh <;> omega))
  -- where more parts follow
  have more : ∀ z r, xs.drop (j + 1) = z :: r → s.data.toList.drop fr = xs[j] ++ 44 :: 32 :: jn (z :: r) := fun z r hr => by
    rw [hdr, hr, jn_two]
  have last : xs.drop (j + 1) = [] → s.data.toList.drop fr = xs[j] := fun hr => by
    rw [hdr, hr]
    show xs[j] ++ [] = _
    rw [List.append_nil]
  by_cases hlt : i + 1 < s.data.toList.length
  · have hget := byt_get (s := s) (k := i) (by omega)
    have fi : TETrue ⟨.idx, sT' 0, sI 0, sU' 5⟩ := f_idx (s := s) (j := i) rfl rfl rfl rfl (by omega)
    have hat : fr ≤ i → ∀ d, i = fr + d → (s.data.toList.drop fr)[d]? = some (byt s i) := fun _ d hd => by
      rw [List.getElem?_drop, ← hd]
      exact hget
    by_cases hc : byt s i = 44
    · -- a comma: the part's end
      have hge : fr ≤ i ∧ i ≤ fr + (xs[j]).length := by
        rcases hpos with ⟨_, h2⟩ | h
        · rw [hget] at h2
          rw [Option.some.inj h2] at hc
          exact absurd hc (by decide)
        · exact h
      have hie : i = fr + (xs[j]).length := by
        rcases Nat.lt_or_eq_of_le hge.2 with hl | hl
        · exfalso
          have h1 := hat hge.1 (i - fr) (by omega)
          cases hr : xs.drop (j + 1) with
          | nil =>
            rw [last hr] at h1
            exact h44 _ (List.getElem_mem hj) _ (List.mem_of_getElem? h1) hc
          | cons z r =>
            rw [more z r hr, List.getElem?_append_left (by omega)] at h1
            exact h44 _ (List.getElem_mem hj) _ (List.mem_of_getElem? h1) hc
        · exact hl
      cases hr : xs.drop (j + 1) with
      | nil =>
        exfalso
        have := congrArg List.length (last hr)
        rw [List.length_drop] at this
        omega
      | cons z r =>
        have hm := more z r hr
        have hex := extract_of hm
        rw [← hie] at hex
        have hnext : byt s (i + 1) = 32 := by
          have h1 : (s.data.toList.drop fr)[(xs[j]).length + 1]? = some 32 := by
            rw [hm, List.getElem?_append_right (by omega)]
            simp
          rw [List.getElem?_drop, show fr + ((xs[j]).length + 1) = i + 1 by omega, byt_get hlt] at h1
          exact Option.some.inj h1
        have hdr2 : s.data.toList.drop (i + 2) = jn (xs.drop (j + 1)) := by
          rw [hr, show i + 2 = fr + ((xs[j]).length + 2) by omega, ← List.drop_drop, hm, ← List.drop_drop, List.drop_left']
          · rfl
          · rfl
        have hj2 : j + 1 < xs.length := by
          have := congrArg List.length hr
          rw [List.length_drop, List.length_cons] at this
          omega
        have hne : (!(Nat.beq (j + 1) 0)) = true := by
          cases h : Nat.beq (j + 1) 0 with
          | false => rfl
          | true => exact absurd (Nat.eq_of_beq_eq_true h) (by omega)
        have hag := all2_all sp_again1 (!(Nat.beq j 0))
        refine step_to sp1 [] { T := ?_, SS := ?_, LA := ?_ } _ _ true (spn s xs (j + 1) (i + 1) (i + 2)) hag (fun W' => sp_holds1 s xs j i fr W W' hj hex) ⟨s.data.toList.length + 1 - (i + 1), by omega, j + 1, i + 1, i + 2, hj2, hdr2, by omega, by omega, .inl ⟨rfl, by rw [byt_get hlt, hnext]⟩, rfl, hne.symm, rfl⟩
        · intro q hq
          rcases List.mem_append.1 hq with hq | hq
          · simp only [spT, List.mem_cons, List.not_mem_nil, or_false] at hq
            rcases hq with rfl | rfl | rfl
            · exact fl
            · exact fa
            · exact fs true (decide_eq_true hlt)
          · simp only [List.mem_cons, List.not_mem_nil, or_false] at hq
            rcases hq with rfl | rfl | rfl | rfl | rfl
            · exact fi
            · exact f_ieq (m := ((byt s i).toNat : Int)) (n := 44) rfl rfl (by rw [hc]; rfl)
            · exact f_idx (s := s) (j := i + 1) rfl rfl rfl rfl hlt
            · exact f_ieq (m := ((byt s (i + 1)).toNat : Int)) (n := 32) rfl rfl (by rw [hnext]; rfl)
            · exact f_add2 (m := (i : Int)) rfl rfl rfl (by omega) (by omega)
        · intro q hq
          have hq : q ∈ [(⟨0, [sT' 2], 1⟩ : LAE)] := hq
          simp only [List.mem_cons, List.not_mem_nil, or_false] at hq
          subst hq
          refine ⟨?_, ?_, strs_one _⟩
          · show strs (xs.take (j + 1)) = strs (xs.take j) ++ [Value.string (s.extract fr i)]
            rw [strs_snoc xs j hj, hex]
          · show (strs (xs.take (j + 1))).length ≤ _
            unfold strs
            rw [List.length_map, List.length_take]
            omega
        · intro q hq
          have hq : q ∈ [(⟨sT' 0, sI 1, sI 0, sT' 2⟩ : SSE)] := hq
          simp only [List.mem_cons, List.not_mem_nil, or_false] at hq
          subst hq
          exact ⟨rfl, s, .i64, .i64, fr, i, rfl, rfl, rfl, hge.1, by rw [hsz]; omega, rfl⟩
    · -- another byte
      refine step_to sp0 [] { T := ?_ } _ _ (!(Nat.beq j 0)) (spn s xs j (i + 1) fr) (all2_all sp_again0 (!(Nat.beq j 0))) (fun W' => sp_holds s xs j i fr W W') ⟨s.data.toList.length + 1 - (i + 1), by omega, j, i + 1, fr, hj, by rw [hcons]; exact hdr, hfr, by omega, .inr ?_, rfl, rfl, rfl⟩
      · intro q hq
        rcases List.mem_append.1 hq with hq | hq
        · simp only [spT, List.mem_cons, List.not_mem_nil, or_false] at hq
          rcases hq with rfl | rfl | rfl
          · exact fl
          · exact fa
          · exact fs true (decide_eq_true hlt)
        · simp only [List.mem_cons, List.not_mem_nil, or_false] at hq
          rcases hq with rfl | rfl
          · exact fi
          · refine f_ieq (m := ((byt s i).toNat : Int)) (n := 44) rfl rfl (beq_eq_false_iff_ne.2 fun e => hc (UInt8.toNat_inj.1 ?_))
            have : (44 : UInt8).toNat = 44 := rfl
            omega
      · rcases hpos with ⟨h1, _⟩ | ⟨h1, h2⟩
        · omega
        · refine ⟨by omega, ?_⟩
          rcases Nat.lt_or_eq_of_le h2 with hl | hl
          · omega
          · exfalso
            have h3 := hat h1 (xs[j]).length hl
            cases hr : xs.drop (j + 1) with
            | nil =>
              have := congrArg List.length (last hr)
              rw [List.length_drop] at this
              omega
            | cons z r =>
              rw [more z r hr, List.getElem?_append_right (by omega), Nat.sub_self] at h3
              exact hc (Option.some.inj h3).symm
  · -- the end
    have hr : xs.drop (j + 1) = [] := by
      cases hr : xs.drop (j + 1) with
      | nil => rfl
      | cons z r =>
        exfalso
        have := congrArg List.length (more z r hr)
        rw [List.length_drop, List.length_append, List.length_cons, List.length_cons] at this
        rcases hpos with ⟨h1, _⟩ | ⟨h1, h2⟩ <;> omega
    have hl := last hr
    have hex : s.extract fr s.data.toList.length = ⟨(xs[j]).toArray⟩ := by
      have h1 := extract_of (z := xs[j]) (m := []) (by rw [hl, List.append_nil])
      have h2 := congrArg List.length hl
      rw [List.length_drop] at h2
      rw [show fr + (xs[j]).length = s.data.toList.length by omega] at h1
      exact h1
    have hjl : j + 1 = xs.length := by
      have := congrArg List.length hr
      rw [List.length_drop, List.length_nil] at this
      omega
    have hall : strs xs = strs (xs.take j) ++ [.string ⟨(xs[j]).toArray⟩] := by
      rw [← strs_snoc xs j hj, hjl, List.take_length]
    refine step_outQ sp2 [] { T := ?_, SS := ?_, LA := ?_ } V _ _ _ _ (all2_all sp_out (!(Nat.beq j 0))) rfl ?_
    · intro q hq
      have hq : q ∈ spT false := hq
      simp only [spT, List.mem_cons, List.not_mem_nil, or_false] at hq
      rcases hq with rfl | rfl | rfl
      · exact fl
      · exact fa
      · exact fs false (decide_eq_false hlt)
    · intro q hq
      have hq : q ∈ [(⟨0, [sT' 3], 2⟩ : LAE)] := hq
      simp only [List.mem_cons, List.not_mem_nil, or_false] at hq
      subst hq
      refine ⟨?_, ?_, strs_one _⟩
      · show strs xs = strs (xs.take j) ++ [Value.string (s.extract fr s.data.toList.length)]
        rw [hall, hex]
      · show (strs xs).length ≤ _
        unfold strs
        rw [List.length_map]
        omega
    · intro q hq
      have hq : q ∈ [(⟨sT' 0, sI 1, sI 90, sT' 3⟩ : SSE)] := hq
      simp only [List.mem_cons, List.not_mem_nil, or_false] at hq
      subst hq
      exact ⟨rfl, s, .i64, .i64, fr, s.data.toList.length, rfl, rfl, rfl, hfr, by simp, rfl⟩
    · refine holds_all fun q hq => ?_
      unfold spS2 at hq
      cases hj0 : Nat.beq j 0 <;> rw [hj0] at hq <;> simp at hq
      · subst hq
        exact hV
      · subst hq
        obtain rfl := Nat.eq_of_beq_eq_true hj0
        show V.L 0 = [Value.string (s.extract fr s.data.toList.length)]
        rw [hV, hall, hex]
        rfl
theorem split_ans (s : ByteArray) (hs : s.data.toList.length ≤ 100000) (xs : List (List UInt8)) (h0 : xs ≠ []) (hx : xs.length ≤ 1000) (h44 : ∀ z, z ∈ xs → ∀ c, c ∈ z → c ≠ 44) (he : s.data.toList = jn xs) (V : Val) (hV : V.L 0 = strs xs) : @AnsQ V fSplit [.string s] (.slN 0 0 1) [some (.lst 0 9 true)] := by
  intro w hr
  have hpos : 0 < xs.length := List.length_pos_iff.2 h0
  refine fn_loop (κ := Bool) (spn s xs 0 0 0) (fun _ => undef) {} [] fSplit spA spP (SPhi s xs) (tb0 _) [.str 0 (sT' 0), .int 0 (lI 0), .int 1 (lI 0)] [] false (s.data.toList.length + 1) sp_enter (spn s xs 0 0 0) (fun W' => holds_all fun q hq => ?_) ⟨0, 0, 0, hpos, by rw [List.drop_zero, List.drop_zero]; exact he, Nat.zero_le _, Nat.zero_le _, .inr ⟨Nat.le_refl _, Nat.zero_le _⟩, rfl, rfl, rfl⟩ (DQ V (.slN 0 0 1) [some (.lst 0 9 true)]) (fun w n k c h W => split_step s hs xs hx h44 V hV w n k c h W) w hr [.string s] (@nval_flat ((spn s xs 0 0 0).val fun _ => undef) w [sT' 0] rfl)
  simp only [List.mem_cons, List.not_mem_nil, or_false] at hq
  rcases hq with rfl | rfl | rfl
  · exact ⟨s, rfl, rfl⟩
  · exact ⟨.i64, 0, rfl, rfl⟩
  · exact ⟨.i64, 0, rfl, rfl⟩
/-- A list's answer, told cell by cell. -/
theorem lst_cells {V : Val} {f : FuncId} {args : List Value} {k n : Nat} {e : TypeId} {names : List RV} (hk : 0 < k) (hL : V.L 0 = names.map (@cv V)) (hf : names.all flat0 = true) (hn : names.length = n * k) (h : @AnsQ V f args (.slN 0 0 k) [some (.lst 0 e true)]) : @AnsQ V f args (.sl 0 0 n k none) [some (.cells names e true false)] := by
  letI : Val := V
  intro w hr
  refine (h w hr).mono fun x w' ⟨v, E', he, hv, H⟩ => ⟨v, E', he, ?_, ?_⟩
  · obtain ⟨p, m, k1, k2, k3, k4, k5⟩ := hv
    have hm : m = n := by
      have k3 : (V.L 0).length = m * k := k3
      rw [hL, List.length_map, hn] at k3
      exact (Nat.eq_of_mul_eq_mul_right hk k3).symm
    subst hm
    exact ⟨p, p.2 / k, k1, rfl, k4, k5⟩
  · refine ⟨H.below, H.lb, H.len, H.ro, fun b o hb => ?_, fun b b' o o' p p' hb hb' v1 v2 e1 e2 e3 => ?_⟩
    · cases b with
      | zero =>
        cases hb
        obtain ⟨p, hp, g1, cur, fr, g2, g3, g4, g5⟩ := H.blk 0 _ rfl
        refine ⟨p, hp, g1, cur, fr, g2, g3, ?_, fun h => (by cases h), fun _ => g5 rfl⟩
        have g4 : cur.toList.take (V.L 0).length = V.L 0 := g4
        rw [hL, List.length_map] at g4
        rw [g4]
        exact rel_cvs (E := E') names hf
      | succ b =>
        unfold at? at hb
        simp at hb
    · cases b with
      | zero =>
        cases b' with
        | zero => rfl
        | succ b' =>
          unfold at? at hb'
          simp at hb'
      | succ b =>
        unfold at? at hb
        simp at hb
end Go.Proofs.Z.Pr

namespace Go.Proofs.Z.Pr
open Go Go.RowKit Go.Proofs Go.Ri Go.Proofs.Z
open Go.Proofs.Z.Sp (fBlanks fWide fSplit fTurned fLAt)
open Go.Proofs.Z.Wd (phB okF jn)
open Go.Proofs.Z.Ps (vc nt wWhole)
open Go.Proofs.Z.Fa
/-! blanks, wide, at: their contracts. -/
theorem f_rem [Val] {k : IntKind} {a b c : RV} {m n r : Int} (ha : cv a = .int k m) (hb : cv b = .int k n) (hc : cv c = .int k r) (hf : flat0 c = true) (h0 : 0 ≤ m) (h1 : 0 < n) (h : m % n = r) : TETrue ⟨.bin .rem, a, b, c⟩ := by
  refine ⟨hf, ?_⟩
  show TCTrue _ (cv a) (cv b) (cv c)
  rw [ha, hb, hc, ← h]
  have := t_rem k m n (by omega)
  rw [Int.tmod_eq_emod_of_nonneg h0] at this
  exact this
theorem f_quo8 [Val] {a b c : RV} {m n : Int} (ha : cv a = .int .u8 m) (hb : cv b = .int .u8 n) (hc : cv c = .int .u8 (m / n)) (hf : flat0 c = true) (h0 : 0 ≤ m) (h1 : 0 < n) (h : m < 256) : TETrue ⟨.bin .quo, a, b, c⟩ := by
  refine ⟨hf, ?_⟩
  show TCTrue _ (cv a) (cv b) (cv c)
  rw [ha, hb, hc]
  have := t_quo .u8 m n (by omega)
  have h2 : m / n ≤ m := Int.ediv_le_self n h0
  have h3 : 0 ≤ m / n := Int.ediv_nonneg h0 (by omega)
  rw [Int.tdiv_eq_ediv_of_nonneg h0, IntWalk.u8_in _ ⟨h3, by omega⟩] at this
  exact this
theorem bl_ans (v : Int) (h0 : 0 ≤ v) (h1 : v < 256) : Ans fBlanks [.int .u8 v] (.string ⟨(bl (v.toNat % 4)).toArray⟩) := by
  have hr := allU_lt bl_run (v.toNat % 4) (Nat.mod_lt _ (by decide))
  unfold blRun at hr
  letI V : Val := VE (fun _ => v) (fun _ => false)
  exact @ans V noX _ _ noX_true (by
    intro q hq
    simp only [rmT, List.mem_cons, List.not_mem_nil, or_false] at hq
    subst hq
    exact f_rem (k := .u8) (m := v) (n := 4) (r := ((v.toNat % 4 : Nat) : Int)) rfl rfl rfl rfl h0 (by decide) (by omega)) (by intro q hq; cases hq) _ _ _ _ _ hr
def okP : Pt → Prop
  | none => True
  | some q => okF q
theorem wide_ans (z : Pt) (hz : okP z) (v : Int) (h0 : 0 ≤ v) (h1 : v < 256) : Ans fWide [.string ⟨(ptx z).toArray⟩, .int .u8 v] (.string ⟨(wtx z (v.toNat % 4)).toArray⟩) := by
  have hb := bl_ans v h0 h1
  have hlt : v.toNat % 4 < 4 := Nat.mod_lt _ (by decide)
  generalize v.toNat % 4 = r at hb hlt
  letI V : Val := VE (fun _ => v) (fun _ => false)
  have key : wdOne (ptx z) (wtx z r) r = true := by
    cases z with
    | none => exact allU_lt wd_whole r hlt
    | some q =>
      obtain ⟨p, u⟩ := q
      obtain ⟨g1, g2, g3⟩ := hz
      have hv5 := Ps.vc5' g3
      have hrun : ∀ r, r < 4 → wdRun p u r = true := fun r hr => by
        match r, hr with
        | 0, _ => exact allU_lt (allU_lt wd_run0 p g1) u hv5
        | 1, _ => exact allU_lt (allU_lt wd_run1 p g1) u hv5
        | 2, _ => exact allU_lt (allU_lt wd_run2 p g1) u hv5
        | 3, _ => exact allU_lt (allU_lt wd_run3 p g1) u hv5
      have := hrun r hlt
      unfold wdRun at this
      have hc : (Nat.ble 1 u && Nat.blt u (vc p)) = true := by
        simp only [Bool.and_eq_true]
        exact ⟨Nat.ble_eq_true_of_le g2, by unfold Nat.blt; exact Nat.ble_eq_true_of_le g3⟩
      rw [hc] at this
      exact this
  unfold wdOne at key
  exact @ans V noX _ _ noX_true (by intro q hq; cases hq) (by
    intro q hq
    simp only [List.mem_cons, List.not_mem_nil, or_false] at hq
    subst hq
    exact hb) _ _ _ _ _ key
def intOf : Value → Int
  | .int _ n => n
  | _ => 0
def u8s (l : List Value) : Prop := ∀ v, v ∈ l → ∃ a : Int, v = .int .u8 a ∧ 0 ≤ a ∧ a < 256
def tvO (tu : List Value) (i : Nat) : Int := if i < tu.length then intOf (tu.getD i undef) else 0
theorem tvO_rng {tu : List Value} (htu : u8s tu) (i : Nat) : 0 ≤ tvO tu i ∧ tvO tu i < 256 := by
  unfold tvO
  split
  · rename_i h
    obtain ⟨a, ha, h0, h1⟩ := htu _ (List.getElem_mem h)
    rw [List.getD_eq_getElem?_getD, List.getElem?_eq_getElem h, Option.getD_some, ha]
    exact ⟨h0, h1⟩
  · omega
def anm (tu : List Value) (i : Nat) : Nm := ⟨fun j => if j = 0 then (i : Int) else if j = 1 then (tu.length : Int) else tvO tu i, fun _ => false, fun _ => ⟨#[]⟩, fun _ => tu⟩
theorem at_ans {tu : List Value} (htu : u8s tu) (V : Val) (i : Nat) (r : RV) (hL : V.L 6 = tu) (hr : flat0 r = true) (hI : @cv V r = .int .i64 i) : @AnsN V fLAt [.slN 0 6 1, r] (.int .u8 (tvO tu i)) := by
  intro w hw vs hv
  let A : Val := (anm tu i).val fun _ => undef
  have hv' : All2 (@Go.Ri.NVal A w) [.slN 0 0 1, sI 0] vs := by
    cases hv with
    | cons h1 h2 =>
      cases h2 with
      | cons h3 h4 =>
        cases h4
        obtain ⟨a, m, cap, g1, g2, g3, g4, g5, g6⟩ := h1
        rw [hL] at g2 g4 g6
        refine .cons ⟨a, m, cap, g1, g2, g3, g4, g5, g6⟩ (.cons ?_ .nil)
        show _ = Value.int .i64 (i : Int)
        rw [← hI]
        cases r <;> first | exact h3 | (cases hr; done)
  have ht : @TbOK A (atTb (decide (i < tu.length))) := by
    letI : Val := A
    refine { T := ?_, LL := ?_, LX := ?_ }
    · intro e he
      simp only [atTb, List.mem_cons] at he
      rcases he with rfl | he
      · exact f_lss (k := .i64) (m := (i : Int)) (n := (tu.length : Int)) rfl rfl (by simp)
      · split at he
        · rename_i h
          simp only [List.mem_cons, List.not_mem_nil, or_false] at he
          subst he
          refine te_inb 0 1 true ?_
          show decide (0 ≤ (i : Int) ∧ (i : Int) < (tu.length : Int)) = true
          have h := of_decide_eq_true h
          simp [h]
        · cases he
    · intro e he
      simp only [atTb, List.mem_cons, List.not_mem_nil, or_false] at he
      subst he
      exact ⟨rfl, tu.length, by decide, (Nat.mul_one _).symm, rfl⟩
    · intro e he
      simp only [atTb] at he
      split at he
      · rename_i h
        have h := of_decide_eq_true h
        simp only [List.mem_cons, List.not_mem_nil, or_false] at he
        subst he
        refine ⟨rfl, ?_, ?_⟩
        · show ((i : Int)).toNat * 1 + 1 ≤ tu.length
          omega
        · show (tu.drop (((i : Int)).toNat * 1)).take 1 = [.int .u8 (tvO tu i)]
          rw [Int.toNat_natCast, Nat.mul_one, List.drop_eq_getElem_cons h]
          obtain ⟨a, ha, _, _⟩ := htu _ (List.getElem_mem h)
          unfold tvO
          rw [if_pos h, List.getD_eq_getElem?_getD, List.getElem?_eq_getElem h, Option.getD_some, ha]
          rfl
      · cases he
  have hall := all2_all at_run (decide (i < tu.length))
  refine (done_calls A A ht hall (by split <;> rfl) (holds_all fun q hq => ?_) w hw vs hv').mono fun e w' ⟨u, E', he, hu, H⟩ => ⟨?_, @HInv.below A _ _ _ _ _ _ H⟩
  · simp only [List.mem_cons, List.not_mem_nil, or_false] at hq
    subst hq
    exact ⟨.u8, tvO tu i, rfl, rfl⟩
  · rw [he]
    cases hd : decide (i < tu.length) with
    | true =>
      rw [hd] at hu
      exact congrArg _ hu
    | false =>
      rw [hd] at hu
      have : tvO tu i = 0 := by
        unfold tvO
        rw [if_neg (of_decide_eq_false hd)]
      rw [this]
      exact congrArg _ hu
theorem at_nil (i : Nat) : Ans fLAt [.slice none 0 0, .int .i64 i] (.int .u8 0) := by
  letI V : Val := VE (fun _ => (i : Int)) (fun _ => false)
  exact @ans V noX _ _ noX_true (by
    intro q hq
    simp only [List.mem_cons, List.not_mem_nil, or_false] at hq
    subst hq
    exact f_lss (k := .i64) (m := (i : Int)) (n := 0) rfl rfl (decide_eq_false (by omega))) (by intro q hq; cases hq) _ _ _ _ _ at_run0
end Go.Proofs.Z.Pr

namespace Go.Proofs.Z.Pr
open Go Go.RowKit Go.Proofs Go.Ri Go.Proofs.Z
open Go.Proofs.Z.Sp (fBlanks fWide fSplit fTurned fLAt)
open Go.Proofs.Z.Wd (phB okF jn)
open Go.Proofs.Z.Ps (vc nt wWhole)
open Go.Proofs.Z.Fa
/-! turned: its contract. -/
def kO (tu : List Value) (j : Nat) (rest : List Pt) : Nat := (tvO tu j).toNat % rest.length
def tnOf (tu : List Value) (j : Nat) (rest : List Pt) : Tn := ⟨rest.getD (kO tu j rest) none, (tvO tu j).toNat % 4, (tvO tu j / 4).toNat % 4, (tvO tu j / 16).toNat % 4⟩
def rest2 (tu : List Value) (j : Nat) (rest : List Pt) : List Pt := rest.take (kO tu j rest) ++ rest.drop (kO tu j rest + 1)
def turnL (tu : List Value) : Nat → List Tn → List Pt → List Tn
  | 0, l, _ => l
  | n + 1, l, rest => turnL tu n (l ++ [tnOf tu l.length rest]) (rest2 tu l.length rest)
theorem rest2_len (tu : List Value) (j : Nat) (rest : List Pt) (hr : rest ≠ []) : (rest2 tu j rest).length + 1 = rest.length := by
  have hl : 0 < rest.length := List.length_pos_iff.2 hr
  have hk : kO tu j rest < rest.length := Nat.mod_lt _ hl
  unfold rest2
  rw [List.length_append, List.length_take, List.length_drop]
  omega
theorem rest2_perm (tu : List Value) (j : Nat) (rest : List Pt) (hr : rest ≠ []) : ((tnOf tu j rest).z :: rest2 tu j rest).Perm rest := by
  have hl : 0 < rest.length := List.length_pos_iff.2 hr
  have hk : kO tu j rest < rest.length := Nat.mod_lt _ hl
  have e : rest = rest.take (kO tu j rest) ++ rest[kO tu j rest] :: rest.drop (kO tu j rest + 1) := by
    rw [← List.drop_eq_getElem_cons hk, List.take_append_drop]
  have ez : (tnOf tu j rest).z = rest[kO tu j rest] := by
    show rest.getD (kO tu j rest) none = _
    rw [List.getD_eq_getElem?_getD, List.getElem?_eq_getElem hk, Option.getD_some]
  rw [ez]
  refine List.Perm.trans ?_ (List.Perm.of_eq e.symm)
  unfold rest2
  exact List.perm_middle.symm
theorem turnL_perm (tu : List Value) : ∀ n l rest, rest.length = n → ((turnL tu n l rest).map Tn.z).Perm (l.map Tn.z ++ rest)
  | 0, l, rest, h => by
    rw [List.eq_nil_of_length_eq_zero h, List.append_nil]
    exact .refl _
  | n + 1, l, rest, h => by
    have hr : rest ≠ [] := fun e => by rw [e] at h; cases h
    have h2 := rest2_len tu l.length rest hr
    have := turnL_perm tu n (l ++ [tnOf tu l.length rest]) (rest2 tu l.length rest) (by omega)
    refine this.trans ?_
    rw [List.map_append, List.append_assoc]
    exact List.Perm.append_left _ (rest2_perm tu l.length rest hr)
theorem bodyT_snoc : ∀ (l : List Tn) (q : Tn), l ≠ [] → bodyT (l ++ [q]) = bodyT l ++ (bl q.c ++ (44 :: (bl q.d ++ wtx q.z q.r)))
  | [], _, h => absurd rfl h
  | z :: l, q, _ => by
    have key : ∀ l : List Tn, tailT (l ++ [q]) = tailT l ++ (bl q.c ++ (44 :: (bl q.d ++ wtx q.z q.r))) := fun l => by
      induction l with
      | nil =>
        show bl q.c ++ (44 :: (bl q.d ++ (wtx q.z q.r ++ []))) = _
        rw [List.append_nil]
        rfl
      | cons y l ih =>
        show bl y.c ++ (44 :: (bl y.d ++ (wtx y.z y.r ++ tailT (l ++ [q])))) = (bl y.c ++ (44 :: (bl y.d ++ (wtx y.z y.r ++ tailT l)))) ++ _
        rw [ih]
        simp only [List.append_assoc, List.cons_append]
    show wtx z.z z.r ++ tailT (l ++ [q]) = (wtx z.z z.r ++ tailT l) ++ _
    rw [key, List.append_assoc]
theorem wtx_short (z : Pt) (hz : okP z) (r : Nat) (hr : r < 4) : (wtx z r).length ≤ 40 := by
  cases z with
  | none => exact (by decide : wWhole.length ≤ 40)
  | some q =>
    obtain ⟨p, v⟩ := q
    obtain ⟨h1, _, h3⟩ := hz
    have hv := Ps.vc5' h3
    have : ∀ p, p < 12 → ∀ v, v < 5 → ∀ r, r < 4 → (wPh p v (1 + r)).length ≤ 40 := by decide
    exact this p h1 v hv r hr
theorem bl_len (n : Nat) : (bl n).length = n := List.length_replicate
theorem bodyT_short : ∀ l : List Tn, (∀ q, q ∈ l → okP q.z ∧ q.r < 4 ∧ q.c < 4 ∧ q.d < 4) → (bodyT l).length ≤ 60 * l.length
  | [], _ => Nat.zero_le _
  | q :: l, h => by
    have key : ∀ l : List Tn, (∀ q, q ∈ l → okP q.z ∧ q.r < 4 ∧ q.c < 4 ∧ q.d < 4) → (tailT l).length ≤ 60 * l.length := fun l => by
      induction l with
      | nil => intro _; exact Nat.zero_le _
      | cons y l ih =>
        intro h
        obtain ⟨h1, h2, h3, h4⟩ := h y List.mem_cons_self
        have h5 := wtx_short y.z h1 y.r h2
        have h6 := ih fun z hz => h z (List.mem_cons_of_mem _ hz)
        show (bl y.c ++ (44 :: (bl y.d ++ (wtx y.z y.r ++ tailT l)))).length ≤ _
        simp only [List.length_append, List.length_cons, bl_len]
        omega
    obtain ⟨h1, h2, _, _⟩ := h q List.mem_cons_self
    have h5 := wtx_short q.z h1 q.r h2
    have h6 := key l fun z hz => h z (List.mem_cons_of_mem _ hz)
    show (wtx q.z q.r ++ tailT l).length ≤ _
    simp only [List.length_append, List.length_cons]
    omega
/-- How a round cuts. -/
def cut (k r : Nat) : Nat := if k = 0 then (if r = 1 then 3 else 0) else (if k + 1 = r then 2 else 1)
theorem cut_lt (k r : Nat) : cut k r < 4 := by
  unfold cut
  split
  · split <;> omega
  · split <;> omega
def ba (l : List UInt8) : ByteArray := ⟨l.toArray⟩
def pS (l : List Pt) : List Value := strs (l.map ptx)
noncomputable def tuN (tu : List Value) (j : Nat) (out : List UInt8) (rest : List Pt) : Nm :=
  let v := tvO tu j
  let k := kO tu j rest
  let z := rest.getD k none
  let a := bl ((v / 4).toNat % 4)
  let b := bl ((v / 16).toNat % 4)
  let w := wtx z (v.toNat % 4)
  let c := bl ((tvO tu 30).toNat % 4)
  let d := bl ((tvO tu 31).toNat % 4)
  ⟨fun i => if i = 0 then (j : Int) else if i = 2 then (rest.length : Int) else if i = 3 then v else if i = 4 then (k : Int) else if i = 6 then (k : Int) + 1 else if i = 7 then (j : Int) + 1 else if i = 40 then v else if i = 41 then v / 4 else if i = 42 then v / 16 else if i = 43 then tvO tu 30 else if i = 44 then tvO tu 31 else 0,
   fun _ => false,
   fun i => ba (if i = 1 then out else if i = 5 then ptx z else if i = 20 then a else if i = 21 then out ++ a else if i = 22 then out ++ a ++ [44] else if i = 23 then b else if i = 24 then out ++ a ++ [44] ++ b else if i = 25 then w else if i = 26 then (if j = 0 then out else out ++ a ++ [44] ++ b) ++ w else if i = 30 then c else if i = 31 then c ++ out else if i = 32 then d else c ++ out ++ d),
   fun i => if i = 0 then pS rest else if i = 9 then pS (rest.take k) else if i = 10 then pS (rest.drop (k + 1)) else if i = 11 then pS (rest2 tu j rest) else tu⟩
theorem pS_len (l : List Pt) : (pS l).length = l.length := by
  unfold pS strs
  rw [List.length_map, List.length_map]
theorem pS_app (l m : List Pt) : pS (l ++ m) = pS l ++ pS m := by
  unfold pS strs
  rw [List.map_append, List.map_append]
theorem ba_app (l m : List UInt8) : ba l ++ ba m = ba (l ++ m) := by
  apply ByteArray.ext
  apply Array.toList_inj.1
  simp [ba]
theorem ba_size (l : List UInt8) : (ba l).size = l.length := by
  show l.toArray.size = _
  rw [List.size_toArray]
theorem f_app [Val] {a b c : RV} {x y z : List UInt8} (ha : cv a = .string (ba x)) (hb : cv b = .string (ba y)) (hc : cv c = .string (ba z)) (hf : flat0 c = true) (hz : z = x ++ y) (h : x.length + y.length ≤ 1000000000) : TETrue ⟨.bin .add, a, b, c⟩ := by
  refine f_sadd ha hb ?_ hf (by rw [ba_size, ba_size]; exact h)
  rw [hc, ba_app, hz]
end Go.Proofs.Z.Pr

namespace Go.Proofs.Z.Pr
open Go Go.RowKit Go.Proofs Go.Ri Go.Proofs.Z
open Go.Proofs.Z.Sp (fBlanks fWide fSplit fTurned fLAt)
open Go.Proofs.Z.Wd (phB okF jn)
open Go.Proofs.Z.Ps (vc nt wWhole)
open Go.Proofs.Z.Fa
/-! turned: its loop. -/
section
variable (tu : List Value) (htu : u8s tu)
include htu in
theorem tuTb_ok (tn : Bool) (htn : tn = true → tu = []) (j : Nat) (out : List UInt8) (rest : List Pt) (hr : rest ≠ []) (hj : j + rest.length ≤ 100) (hout : out.length ≤ 100000) (hok : ∀ z, z ∈ rest → okP z) (W : Nat → Value) :
    @TbOK ((tuN tu j out rest).val W) (tuTb tn (Nat.beq j 0) (cut (kO tu j rest) rest.length)) := by
  letI V : Val := (tuN tu j out rest).val W
  have hl : 0 < rest.length := List.length_pos_iff.2 hr
  obtain ⟨v0, v1⟩ := tvO_rng htu j
  have hk : kO tu j rest < rest.length := Nat.mod_lt _ hl
  have hmod : tvO tu j % (rest.length : Int) = ((kO tu j rest : Nat) : Int) := by
    unfold kO
    rw [Int.natCast_emod, Int.toNat_of_nonneg v0]
  have hz : okP (rest.getD (kO tu j rest) none) := by
    rw [List.getD_eq_getElem?_getD, List.getElem?_eq_getElem hk, Option.getD_some]
    exact hok _ (List.getElem_mem hk)
  have hlt4 : ∀ n : Nat, n % 4 < 4 := fun n => Nat.mod_lt _ (by decide)
  have hw := wtx_short _ hz _ (hlt4 (tvO tu j).toNat)
  have ha : (bl ((tvO tu j / 4).toNat % 4)).length < 4 := by rw [bl_len]; exact hlt4 _
  have hb : (bl ((tvO tu j / 16).toNat % 4)).length < 4 := by rw [bl_len]; exact hlt4 _
  have q0 : 0 ≤ tvO tu j / 4 := Int.ediv_nonneg v0 (by decide)
  have q1 : tvO tu j / 4 < 256 := by omega
  have p0 : 0 ≤ tvO tu j / 16 := Int.ediv_nonneg v0 (by decide)
  have p1 : tvO tu j / 16 < 256 := by omega
  have h9 : kO tu j rest ≠ 0 → rest.take (kO tu j rest) ≠ [] := fun h e => by
    have := congrArg List.length e
    rw [List.length_take, List.length_nil] at this
    omega
  have h10 : kO tu j rest + 1 ≠ rest.length → rest.drop (kO tu j rest + 1) ≠ [] := fun h e => by
    have := congrArg List.length e
    rw [List.length_drop, List.length_nil] at this
    omega
  have ne : ∀ l : List Pt, l ≠ [] → pS l ≠ [] := fun l h e => by
    have := pS_len l
    rw [e] at this
    exact h (List.eq_nil_of_length_eq_zero this.symm)
  have one : ∀ l : List Pt, ∀ v, v ∈ pS l → v.oneCell' = true := fun l v hv => strs_one _ v hv
  have sm : ∀ l : List Pt, l.length ≤ 100 → (pS l).length ≤ 1000000 := fun l h => by rw [pS_len]; omega
  have l9 : (rest.take (kO tu j rest)).length ≤ 100 := by rw [List.length_take]; omega
  have l10 : (rest.drop (kO tu j rest + 1)).length ≤ 100 := by rw [List.length_drop]; omega
  have l11 : (rest2 tu j rest).length ≤ 100 := by have := rest2_len tu j rest hr; omega
  have b9 : kO tu j rest ≠ 0 → LBTrue ⟨none, 9, 9⟩ := fun h => ⟨ne _ (h9 h), rfl, sm _ l9, one _⟩
  have b10 : kO tu j rest + 1 ≠ rest.length → LBTrue ⟨none, 10, 10⟩ := fun h => ⟨ne _ (h10 h), rfl, sm _ l10, one _⟩
  have b11 : kO tu j rest + 1 ≠ rest.length → LBTrue ⟨some 9, 10, 11⟩ := fun h => ⟨ne _ (h10 h), pS_app _ _, sm _ l11, one _⟩
  have z9 : kO tu j rest = 0 → Val.L 9 = [] := fun h => by
    show pS (rest.take (kO tu j rest)) = []
    rw [h, List.take_zero]
    rfl
  have z10 : kO tu j rest + 1 = rest.length → Val.L 10 = [] := fun h => by
    show pS (rest.drop (kO tu j rest + 1)) = []
    rw [h, List.drop_length]
    rfl
  have hfj : ∀ b, Nat.beq j 0 = b → (b = true → j = 0) ∧ (b = false → 0 < j) := fun b hb => by
    cases b with
    | true => exact ⟨fun _ => Nat.eq_of_beq_eq_true hb, fun h => by cases h⟩
    | false =>
      refine ⟨fun h => (by cases h), fun _ => Nat.pos_of_ne_zero fun e => ?_⟩
      rw [e] at hb
      cases hb
  refine { T := ?_, Y := ?_, LL := ?_, LX := ?_, C := ?_, LP := ?_, LB := ?_, LZ := ?_ }
  · intro e he
    rcases List.mem_append.1 he with he | he
    · simp only [List.mem_cons, List.not_mem_nil, or_false] at he
      rcases he with rfl | rfl | rfl | rfl | rfl | rfl | rfl | rfl
      · exact f_gtr (k := .i64) (m := (rest.length : Int)) (n := 0) rfl rfl (decide_eq_true (by omega))
      · refine ⟨rfl, .u8, tvO tu j, rfl, ?_⟩
        show Value.int .i64 (tvO tu j) = _
        rw [IntWalk.i64_in _ (by omega)]
      · exact f_rem (k := .i64) (m := tvO tu j) (n := (rest.length : Int)) (r := ((kO tu j rest : Nat) : Int)) rfl rfl rfl rfl v0 (by omega) hmod
      · refine f_gtr (k := .i64) (m := (j : Int)) (n := 0) rfl rfl ?_
        cases hb : Nat.beq j 0 with
        | true => exact decide_eq_false (by have := (hfj _ hb).1 rfl; omega)
        | false => exact decide_eq_true (by have := (hfj _ hb).2 rfl; omega)
      · refine te_inb 4 2 true ?_
        show decide (0 ≤ ((kO tu j rest : Nat) : Int) ∧ ((kO tu j rest : Nat) : Int) < (rest.length : Int)) = true
        exact decide_eq_true (by omega)
      · exact f_add1 (m := ((kO tu j rest : Nat) : Int)) rfl rfl rfl (by omega) (by omega)
      · exact f_add1 (m := (j : Int)) rfl rfl rfl (by omega) (by omega)
      · cases hb : Nat.beq j 0 with
        | true =>
          have h0 := (hfj _ hb).1 rfl
          subst h0
          exact f_app (x := out) (y := wtx _ _) (z := out ++ wtx _ _) rfl rfl rfl rfl rfl (by omega)
        | false =>
          have h0 := (hfj _ hb).2 rfl
          refine f_app (x := out ++ bl ((tvO tu j / 4).toNat % 4) ++ [44] ++ bl ((tvO tu j / 16).toNat % 4)) (y := wtx _ _) (z := (if j = 0 then out else out ++ bl ((tvO tu j / 4).toNat % 4) ++ [44] ++ bl ((tvO tu j / 16).toNat % 4)) ++ wtx _ _) rfl rfl rfl rfl (by rw [if_neg (by omega)]) ?_
          simp only [List.length_append, List.length_cons, List.length_nil]
          omega
    · split at he
      · cases he
      · simp only [List.mem_cons, List.not_mem_nil, or_false] at he
        rcases he with rfl | rfl | rfl | rfl | rfl
        · exact f_quo8 (m := tvO tu j) (n := 4) rfl rfl rfl rfl v0 (by decide) v1
        · exact f_quo8 (m := tvO tu j) (n := 16) rfl rfl rfl rfl v0 (by decide) v1
        · exact f_app (x := out) (y := bl ((tvO tu j / 4).toNat % 4)) (z := out ++ bl ((tvO tu j / 4).toNat % 4)) rfl rfl rfl rfl rfl (by omega)
        · refine f_app (x := out ++ bl ((tvO tu j / 4).toNat % 4)) (y := [44]) (z := out ++ bl ((tvO tu j / 4).toNat % 4) ++ [44]) rfl rfl rfl rfl rfl ?_
          simp only [List.length_append, List.length_cons, List.length_nil]
          omega
        · refine f_app (x := out ++ bl ((tvO tu j / 4).toNat % 4) ++ [44]) (y := bl ((tvO tu j / 16).toNat % 4)) (z := out ++ bl ((tvO tu j / 4).toNat % 4) ++ [44] ++ bl ((tvO tu j / 16).toNat % 4)) rfl rfl rfl rfl rfl ?_
          simp only [List.length_append, List.length_cons, List.length_nil]
          omega
  · intro e he
    rcases List.mem_append.1 he with he | he
    · unfold tuY at he
      rcases List.mem_cons.1 he with rfl | he
      · exact wide_ans _ hz _ v0 v1
      · split at he
        · cases he
        · simp only [List.mem_cons, List.not_mem_nil, or_false] at he
          rcases he with rfl | rfl
          · exact bl_ans _ q0 q1
          · exact bl_ans _ p0 p1
    · split at he
      · rename_i ht
        have h0 := htn ht
        simp only [List.mem_cons, List.not_mem_nil, or_false] at he
        subst he
        have hv : tvO tu j = 0 := by
          unfold tvO
          rw [h0, if_neg (by simp)]
        have := at_nil j
        show Ans fLAt [.slice none 0 0, .int .i64 (j : Int)] (.int .u8 (tvO tu j))
        rw [hv]
        exact this
      · cases he
  · intro e he
    simp only [tuTb, List.mem_cons, List.not_mem_nil, or_false] at he
    subst he
    exact ⟨rfl, rest.length, by decide, by show (pS rest).length = _; rw [pS_len, Nat.mul_one], rfl⟩
  · intro e he
    simp only [tuTb, List.mem_cons, List.not_mem_nil, or_false] at he
    subst he
    refine ⟨rfl, ?_, ?_⟩
    · show ((kO tu j rest : Nat) : Int).toNat * 1 + 1 ≤ (pS rest).length
      rw [pS_len]
      omega
    · show ((pS rest).drop (((kO tu j rest : Nat) : Int).toNat * 1)).take 1 = [.string (ba (ptx (rest.getD (kO tu j rest) none)))]
      rw [Int.toNat_natCast, Nat.mul_one, List.drop_eq_getElem_cons (by rw [pS_len]; exact hk), List.getD_eq_getElem?_getD, List.getElem?_eq_getElem hk, Option.getD_some]
      show [(pS rest)[kO tu j rest]'(by rw [pS_len]; exact hk)] = _
      unfold pS strs
      rw [List.getElem_map, List.getElem_map]
      rfl
  · intro e he
    simp only [tuTb] at he
    split at he
    · cases he
    · simp only [List.mem_cons, List.not_mem_nil, or_false] at he
      subst he
      exact at_ans htu _ j _ rfl rfl rfl
  · intro e he
    simp only [tuTb, List.mem_cons, List.not_mem_nil, or_false] at he
    rcases he with rfl | rfl
    · refine ⟨rest.length, 0, kO tu j rest, by show (pS rest).length = _; rw [pS_len, Nat.mul_one], rfl, ⟨rfl, .i64, rfl⟩, Nat.zero_le _, by omega, rfl, ?_⟩
      show pS (rest.take (kO tu j rest)) = ((pS rest).drop (0 * 1)).take ((kO tu j rest - 0) * 1)
      rw [Nat.zero_mul, List.drop_zero, Nat.sub_zero, Nat.mul_one]
      unfold pS strs
      rw [List.map_take, List.map_take]
    · refine ⟨rest.length, kO tu j rest + 1, rest.length, by show (pS rest).length = _; rw [pS_len, Nat.mul_one], ⟨rfl, .i64, rfl⟩, rfl, by omega, Nat.le_refl _, ?_, ?_⟩
      · show (((kO tu j rest : Nat) : Int) + 1).toNat = _
        omega
      · show pS (rest.drop (kO tu j rest + 1)) = ((pS rest).drop ((kO tu j rest + 1) * 1)).take ((rest.length - (kO tu j rest + 1)) * 1)
        rw [Nat.mul_one, Nat.mul_one, List.take_of_length_le (by rw [List.length_drop, pS_len]; omega)]
        unfold pS strs
        rw [List.map_drop, List.map_drop]
  · intro e he
    replace he : e ∈ tuL (cut (kO tu j rest) rest.length) := he
    by_cases hk0 : kO tu j rest = 0
    · by_cases hr1 : rest.length = 1
      · rw [show cut (kO tu j rest) rest.length = 3 by unfold cut; rw [if_pos hk0, if_pos hr1]] at he
        cases he
      · rw [show cut (kO tu j rest) rest.length = 0 by unfold cut; rw [if_pos hk0, if_neg hr1]] at he
        obtain rfl : e = ⟨none, 10, 10⟩ := List.mem_singleton.1 he
        exact b10 (by omega)
    · by_cases hr1 : kO tu j rest + 1 = rest.length
      · rw [show cut (kO tu j rest) rest.length = 2 by unfold cut; rw [if_neg hk0, if_pos hr1]] at he
        obtain rfl : e = ⟨none, 9, 9⟩ := List.mem_singleton.1 he
        exact b9 hk0
      · rw [show cut (kO tu j rest) rest.length = 1 by unfold cut; rw [if_neg hk0, if_neg hr1]] at he
        replace he : e ∈ ([⟨none, 9, 9⟩, ⟨some 9, 10, 11⟩] : List LBE) := he
        simp only [List.mem_cons, List.not_mem_nil, or_false] at he
        rcases he with rfl | rfl
        · exact b9 hk0
        · exact b11 hr1
  · intro i hi
    replace hi : i ∈ tuZ (cut (kO tu j rest) rest.length) := hi
    by_cases hk0 : kO tu j rest = 0
    · by_cases hr1 : rest.length = 1
      · rw [show cut (kO tu j rest) rest.length = 3 by unfold cut; rw [if_pos hk0, if_pos hr1]] at hi
        replace hi : i ∈ [9, 10] := hi
        simp only [List.mem_cons, List.not_mem_nil, or_false] at hi
        rcases hi with rfl | rfl
        · exact z9 hk0
        · exact z10 (by omega)
      · rw [show cut (kO tu j rest) rest.length = 0 by unfold cut; rw [if_pos hk0, if_neg hr1]] at hi
        obtain rfl : i = 9 := List.mem_singleton.1 hi
        exact z9 hk0
    · by_cases hr1 : kO tu j rest + 1 = rest.length
      · rw [show cut (kO tu j rest) rest.length = 2 by unfold cut; rw [if_neg hk0, if_pos hr1]] at hi
        obtain rfl : i = 10 := List.mem_singleton.1 hi
        exact z10 hr1
      · rw [show cut (kO tu j rest) rest.length = 1 by unfold cut; rw [if_neg hk0, if_neg hr1]] at hi
        cases hi
theorem tuS_ok (tn : Bool) (j : Nat) (out : List UInt8) (rest : List Pt) (hr : rest ≠ []) (W W' : Nat → Value) : Holds (tuS tn (cut (kO tu j rest) rest.length)) ((tuN tu j out rest).val W) ((tuN tu (j + 1) ((if j = 0 then out else out ++ bl ((tvO tu j / 4).toNat % 4) ++ [44] ++ bl ((tvO tu j / 16).toNat % 4)) ++ wtx (rest.getD (kO tu j rest) none) ((tvO tu j).toNat % 4)) (rest2 tu j rest)).val W') := by
  have hl : 0 < rest.length := List.length_pos_iff.2 hr
  have hk : kO tu j rest < rest.length := Nat.mod_lt _ hl
  refine holds_all fun e he => ?_
  rcases List.mem_append.1 he with he | he
  · simp only [List.mem_cons, List.not_mem_nil, or_false] at he
    rcases he with rfl | rfl | rfl
    · exact ⟨.i64, (j : Int) + 1, rfl, rfl⟩
    · exact ⟨_, rfl, rfl⟩
    · have key : ∀ i, (tuN tu j out rest).L i = pS (rest2 tu j rest) → okSE ((tuN tu j out rest).val W) ((tuN tu (j + 1) ((if j = 0 then out else out ++ bl ((tvO tu j / 4).toNat % 4) ++ [44] ++ bl ((tvO tu j / 16).toNat % 4)) ++ wtx (rest.getD (kO tu j rest) none) ((tvO tu j).toNat % 4)) (rest2 tu j rest)).val W') (.lst 0 i) := fun i hi => hi.symm
      refine key _ ?_
      have e9 : (tuN tu j out rest).L 9 = pS (rest.take (kO tu j rest)) := rfl
      have e10 : (tuN tu j out rest).L 10 = pS (rest.drop (kO tu j rest + 1)) := rfl
      have e11 : (tuN tu j out rest).L 11 = pS (rest2 tu j rest) := rfl
      by_cases hk0 : kO tu j rest = 0
      · by_cases hr1 : rest.length = 1
        · rw [show cut (kO tu j rest) rest.length = 3 by unfold cut; rw [if_pos hk0, if_pos hr1]]
          show (tuN tu j out rest).L 9 = _
          rw [e9]
          unfold rest2
          rw [hk0, List.take_zero, List.drop_of_length_le (by omega)]
          rfl
        · rw [show cut (kO tu j rest) rest.length = 0 by unfold cut; rw [if_pos hk0, if_neg hr1]]
          show (tuN tu j out rest).L 10 = _
          rw [e10]
          unfold rest2
          rw [hk0, List.take_zero, List.nil_append]
      · by_cases hr1 : kO tu j rest + 1 = rest.length
        · rw [show cut (kO tu j rest) rest.length = 2 by unfold cut; rw [if_neg hk0, if_pos hr1]]
          show (tuN tu j out rest).L 9 = _
          rw [e9]
          unfold rest2
          rw [List.drop_of_length_le (by omega), List.append_nil]
        · rw [show cut (kO tu j rest) rest.length = 1 by unfold cut; rw [if_neg hk0, if_neg hr1]]
          exact e11
  · split at he
    · cases he
    · simp only [List.mem_cons, List.not_mem_nil, or_false] at he
      subst he
      exact (rfl : tu = tu)
theorem rest2_empty (j : Nat) (rest : List Pt) (hr : rest ≠ []) : (rest2 tu j rest).isEmpty = Nat.beq (cut (kO tu j rest) rest.length) 3 := by
  have hl : 0 < rest.length := List.length_pos_iff.2 hr
  have hk : kO tu j rest < rest.length := Nat.mod_lt _ hl
  have hlen := rest2_len tu j rest hr
  by_cases hr1 : rest.length = 1
  · have e : rest2 tu j rest = [] := List.eq_nil_of_length_eq_zero (by omega)
    rw [e, show cut (kO tu j rest) rest.length = 3 by unfold cut; rw [if_pos (by omega), if_pos hr1]]
    rfl
  · have hc : cut (kO tu j rest) rest.length ≠ 3 := by
      unfold cut
      split
      · decide
      · split <;> decide
    have hb : Nat.beq (cut (kO tu j rest) rest.length) 3 = false := by
      cases h : Nat.beq (cut (kO tu j rest) rest.length) 3 with
      | false => rfl
      | true => exact absurd (Nat.eq_of_beq_eq_true h) hc
    rw [hb]
    cases h : rest2 tu j rest with
    | nil =>
      rw [h] at hlen
      simp at hlen
      omega
    | cons a b => rfl
end
end Go.Proofs.Z.Pr

namespace Go.Proofs.Z.Pr
open Go Go.RowKit Go.Proofs Go.Ri Go.Proofs.Z
open Go.Proofs.Z.Sp (fBlanks fWide fSplit fTurned fLAt)
open Go.Proofs.Z.Wd (phB okF jn)
open Go.Proofs.Z.Ps (vc nt wWhole)
open Go.Proofs.Z.Fa
/-! turned: its contract, whole. -/
section
variable (tu : List Value) (htu : u8s tu)
include htu in
theorem tuE_ok (tn : Bool) (htn : tn = true → tu = []) (j : Nat) (out : List UInt8) (hout : out.length ≤ 100000) (W : Nat → Value) : @TbOK ((tuN tu j out []).val W) (tuE tn) := by
  letI V : Val := (tuN tu j out []).val W
  obtain ⟨c0, c1⟩ := tvO_rng htu 30
  obtain ⟨d0, d1⟩ := tvO_rng htu 31
  have hlt4 : ∀ n : Nat, n % 4 < 4 := fun n => Nat.mod_lt _ (by decide)
  have hc : (bl ((tvO tu 30).toNat % 4)).length < 4 := by rw [bl_len]; exact hlt4 _
  have hd : (bl ((tvO tu 31).toNat % 4)).length < 4 := by rw [bl_len]; exact hlt4 _
  refine { T := ?_, Y := ?_, C := ?_ }
  · intro e he
    simp only [tuE] at he
    split at he
    · rename_i ht
      have h0 := htn ht
      have hv : ∀ i, tvO tu i = 0 := fun i => by
        unfold tvO
        rw [h0, if_neg (by simp)]
      have e1 : bl ((tvO tu 30).toNat % 4) = [] := by rw [hv]; rfl
      have e2 : bl ((tvO tu 31).toNat % 4) = [] := by rw [hv]; rfl
      simp only [List.mem_cons, List.not_mem_nil, or_false] at he
      rcases he with rfl | rfl
      · exact f_app (x := []) (y := out) (z := bl ((tvO tu 30).toNat % 4) ++ out) rfl rfl rfl rfl (by rw [e1]) (by simp; omega)
      · refine f_app (x := bl ((tvO tu 30).toNat % 4) ++ out) (y := []) (z := bl ((tvO tu 30).toNat % 4) ++ out ++ bl ((tvO tu 31).toNat % 4)) rfl rfl rfl rfl (by rw [e2]) ?_
        simp only [List.length_append, List.length_nil]
        omega
    · simp only [List.mem_cons, List.not_mem_nil, or_false] at he
      rcases he with rfl | rfl
      · exact f_app (x := bl ((tvO tu 30).toNat % 4)) (y := out) (z := bl ((tvO tu 30).toNat % 4) ++ out) rfl rfl rfl rfl rfl (by omega)
      · refine f_app (x := bl ((tvO tu 30).toNat % 4) ++ out) (y := bl ((tvO tu 31).toNat % 4)) (z := bl ((tvO tu 30).toNat % 4) ++ out ++ bl ((tvO tu 31).toNat % 4)) rfl rfl rfl rfl rfl ?_
        simp only [List.length_append]
        omega
  · intro e he
    simp only [tuE] at he
    split at he
    · cases he
    · simp only [List.mem_cons, List.not_mem_nil, or_false] at he
      rcases he with rfl | rfl
      · exact bl_ans _ c0 c1
      · exact bl_ans _ d0 d1
  · intro e he
    simp only [tuE] at he
    split at he
    · cases he
    · simp only [List.mem_cons, List.not_mem_nil, or_false] at he
      rcases he with rfl | rfl
      · exact at_ans htu _ 30 _ rfl rfl rfl
      · exact at_ans htu _ 31 _ rfl rfl rfl
/-- What turned answers. -/
def tnB (xs : List Pt) : List UInt8 := bl ((tvO tu 30).toNat % 4) ++ bodyT (turnL tu xs.length [] xs) ++ bl ((tvO tu 31).toNat % 4)
def okT (q : Tn) : Prop := okP q.z ∧ q.r < 4 ∧ q.c < 4 ∧ q.d < 4
def TPhi (xs : List Pt) (n : Nat) (rn : Bool) (c : Nm) : Prop := ∃ l rest, c = tuN tu l.length (bodyT l) rest ∧ turnL tu rest.length l rest = turnL tu xs.length [] xs ∧ n = rest.length ∧ rn = rest.isEmpty ∧ l.length + rest.length = xs.length ∧ (∀ z, z ∈ rest → okP z) ∧ ∀ q, q ∈ l → okT q
set_option maxRecDepth 10000 in
include htu in
theorem turned_step (tn : Bool) (htn : tn = true → tu = []) (xs : List Pt) (hxs : xs.length ≤ 20) (w : World) (n : Nat) (rn : Bool) (c : Nm) (h : TPhi tu xs n rn c) (W : Nat → Value) :
    StepT fTurned (tuB tn) (tuK tn) (tuP tn) w.heap.size w (DF (.string (ba (tnB tu xs))) w) (fun k' c' => ∃ n', n' < n ∧ TPhi tu xs n' k' c') rn c W := by
  obtain ⟨l, rest, rfl, hT, rfl, rfl, hlen, hrest, hl⟩ := h
  have hb := bodyT_short l hl
  by_cases hr : rest = []
  · subst hr
    have hT : l = turnL tu xs.length [] xs := hT
    refine step_outF (tuE tn) [] (tuE_ok tu htu tn htn l.length (bodyT l) (by simp at hlen; omega) W) (sT 33) (all2_all tu_out tn) ?_
    show Value.string (ba (bl ((tvO tu 30).toNat % 4) ++ bodyT l ++ bl ((tvO tu 31).toNat % 4))) = _
    unfold tnB
    rw [← hT]
  · have h1 := rest2_len tu l.length rest hr
    have hk : kO tu l.length rest < rest.length := Nat.mod_lt _ (List.length_pos_iff.2 hr)
    have hag := all2_all (all2_all (allU_lt tu_again (cut (kO tu l.length rest) rest.length) (cut_lt _ _)) tn) (Nat.beq l.length 0)
    rw [← rest2_empty tu l.length rest hr] at hag
    have hre : rest.isEmpty = false := by simpa using hr
    rw [hre]
    refine step_to _ [] (tuTb_ok tu htu tn htn l.length (bodyT l) rest hr (by omega) (by omega) hrest W) _ _ _ _ hag (tuS_ok tu tn l.length (bodyT l) rest hr W) ⟨(rest2 tu l.length rest).length, by omega, l ++ [tnOf tu l.length rest], rest2 tu l.length rest, ?_, ?_, rfl, rfl, ?_, ?_, ?_⟩
    · have e : (l ++ [tnOf tu l.length rest]).length = l.length + 1 := by rw [List.length_append]; rfl
      rw [e]
      congr 1
      by_cases h0 : l = []
      · subst h0
        show [] ++ wtx _ _ = wtx _ _ ++ []
        rw [List.append_nil, List.nil_append]
        rfl
      · rw [bodyT_snoc l _ h0, if_neg (fun e => h0 (List.eq_nil_of_length_eq_zero e))]
        simp only [List.append_assoc, List.cons_append, List.nil_append]
        rfl
    · rw [← hT, show rest.length = (rest2 tu l.length rest).length + 1 from h1.symm]
      rfl
    · rw [List.length_append, List.length_singleton]
      omega
    · intro z hz
      have := (rest2_perm tu l.length rest hr).subset (List.mem_cons_of_mem _ hz)
      exact hrest z this
    · intro q hq
      rcases List.mem_append.1 hq with hq | hq
      · exact hl q hq
      · obtain rfl := List.mem_singleton.1 hq
        have hlt4 : ∀ n : Nat, n % 4 < 4 := fun n => Nat.mod_lt _ (by decide)
        exact ⟨hrest _ ((rest2_perm tu l.length rest hr).subset List.mem_cons_self), hlt4 _, hlt4 _, hlt4 _⟩
theorem no_comma (z : Pt) (hz : okP z) : ∀ c, c ∈ ptx z → c ≠ 44 := by
  cases z with
  | none => exact (by decide : ∀ c, c ∈ wWhole → c ≠ 44)
  | some q =>
    obtain ⟨p, v⟩ := q
    obtain ⟨h1, _, h3⟩ := hz
    have hv := Ps.vc5' h3
    have : ∀ p, p < 12 → ∀ v, v < 5 → ∀ c, c ∈ phB p v → c ≠ 44 := by decide
    exact this p h1 v hv
def tc0 (s : ByteArray) (xs : List Pt) : Nm := ⟨fun _ => 0, fun _ => false, fun _ => s, fun i => if i = 0 then pS xs else tu⟩
include htu in
theorem turned_calls (tn : Bool) (htn : tn = true → tu = []) (xs : List Pt) (hx : xs ≠ []) (hxs : xs.length ≤ 20) (hok : ∀ z, z ∈ xs → okP z) (s : ByteArray) (hs : s.data.toList = jn (xs.map ptx)) (hsl : s.data.toList.length ≤ 100000) (w : World) (hr : RoIn ro w) (vs : List Value)
    (hv : All2 (@Go.Ri.NVal ((tc0 tu s xs).val fun _ => undef) w) [sT 0, tuR tn] vs) : Calls Tryz.prog fTurned vs.toArray w (DF (.string (ba (tnB tu xs))) w) := by
  have ht0 : @TbOK ((tc0 tu s xs).val fun _ => undef) tuQ := by
    letI V : Val := (tc0 tu s xs).val fun _ => undef
    refine { Q := ?_ }
    intro e he
    simp only [tuQ, List.mem_cons, List.not_mem_nil, or_false] at he
    subst he
    refine split_ans s hsl (xs.map ptx) (by simpa using hx) (by rw [List.length_map]; omega) (fun z hz => ?_) hs V rfl
    obtain ⟨y, hy, rfl⟩ := List.mem_map.1 hz
    exact no_comma y (hok y hy)
  have hxe : xs.isEmpty = false := by simpa using hx
  have hent := all2_all tu_enter tn
  rw [← hxe] at hent
  refine fn_loop (κ := Bool) (tc0 tu s xs) (fun _ => undef) tuQ [] fTurned [sT 0, tuR tn] (tuP tn) (TPhi tu xs) ht0 (tuS0 tn) _ _ xs.length hent (tuN tu 0 [] xs) (fun W' => holds_all fun e he => ?_) ⟨[], xs, rfl, rfl, rfl, rfl, by simp, hok, fun q hq => by cases hq⟩ _ (fun w n k c h W => turned_step tu htu tn htn xs hxs w n k c h W) w hr vs hv
  rcases List.mem_append.1 he with he | he
  · simp only [List.mem_cons, List.not_mem_nil, or_false] at he
    rcases he with rfl | rfl | rfl
    · exact ⟨.i64, 0, rfl, rfl⟩
    · exact ⟨_, rfl, rfl⟩
    · exact (rfl : pS xs = pS xs)
  · split at he
    · cases he
    · simp only [List.mem_cons, List.not_mem_nil, or_false] at he
      subst he
      exact (rfl : tu = tu)
end
end Go.Proofs.Z.Pr
