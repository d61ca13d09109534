/- An interpreter for calls whose arguments are closed or names, and its soundness: a part of the proofs. -/
import Derived.Test.YtedbdpaioikhgaaGreatDoorRiS6
namespace Go.Ri
open Go Go.RowKit
variable [Val]

section
variable {P : Program} {ro : Ro} {base : Nat} {w0 : World} {E : Env} {h : RH} {w : World}

def notInt (d : TypeDesc) : Prop := (∃ e, d = .slice e) ∨ d = .string

omit [Val] in
theorem run_app_room {tS tX ty e : TypeId} {i : TypeInfo} {d : TypeDesc} (ht : P.underlying tS = some (.slice e)) (hX : P.underlying tX = some d) (hd : notInt d) (hi : P.info? e = some i)
    (b : Option Addr) (sLen sCap m : Nat) (u : Value) (vs : List Value) (hlen : (Builtin.lenOf u).run P w = .ok m w) (hf : (Builtin.firstCells i.size m u).run P w = .ok vs.toArray w)
    (hroom : sLen + m ≤ sCap) : (Builtin.append_ #[tS, tX] ty #[.slice b sLen sCap, u]).run P w =
      ((match b with | some a => storeCells (a.add (sLen * i.size)) vs | none => pure () : Sem Unit).run P w).andThen fun _ w' => .ok (.slice b (sLen + m) sCap) w' := by
  rcases hd with ⟨e', rfl⟩ | rfl <;> cases b <;> simp [Builtin.append_, run_under ht, run_under hX, sizeOf, typeInfo, hi, hlen, hroom, hf]

omit [Val] in
theorem run_app_grow {tS tX ty e : TypeId} {i : TypeInfo} {d : TypeDesc} {z : Value} (ht : P.underlying tS = some (.slice e)) (hX : P.underlying tX = some d) (hd : notInt d) (hi : P.info? e = some i) (hz : i.zero = some z)
    (b : Option Addr) (sLen sCap m : Nat) (u : Value) (olds vs : List Value) (hlen : (Builtin.lenOf u).run P w = .ok m w)
    (ho : (Builtin.firstCells i.size sLen (.slice b sLen sCap)).run P w.drew = .ok olds.toArray w.drew) (hf : (Builtin.firstCells i.size m u).run P w.drew = .ok vs.toArray w.drew)
    (hg : sCap < sLen + m) (h63 : sLen + m ≤ 1000000000) (h48 : (sLen + m) * i.bytes ≤ 1000000000) : (Builtin.append_ #[tS, tX] ty #[.slice b sLen sCap, u]).run P w =
      .ok (.slice (some ⟨w.heap.size, 0, none⟩) (sLen + m) (grownCap w (sLen + m) sCap e))
        (w.drew.alloc (.cells (olds.toArray ++ vs.toArray ++ Builtin.zeroCells z.cells (grownCap w (sLen + m) sCap e - (sLen + m))) e)) := by
  have hn : ¬ (sLen + m ≤ sCap) := by omega
  have h63' : ¬ (9223372036854775807 < ((sLen : Int) + (m : Int))) := by omega
  have h48' : ¬ (281474976710656 < Builtin.nextslicecap (sLen + m) sCap * i.bytes) := by
    have := growslice_fits (bytes := i.bytes) hg (by omega)
    omega
  rcases hd with ⟨e', rfl⟩ | rfl <;> simp [Builtin.append_, run_under ht, run_under hX, sizeOf, typeInfo, zeroValue, hi, hz, hlen, hn, h63', h48', Question.forced, ho, hf, newRow, grownCap]
  all_goals (congr 2; apply Array.ext'; simp [List.append_assoc])

theorem bytesR_rel (l : List UInt8) : All2 (VRel E) (l.map fun b => (.pl (.int .u8 b.toNat) : RV)) (l.map fun b => Value.int .u8 b.toNat) :=
  All2.map (R := VRel E) _ _ (fun _ => by simp [VRel]) l

theorem src_spec (H : HInv ro base w0 E h w) {tS tX elem : TypeId} {sz : Nat} {x : RV} {u : Value} {ncs : List RV} {m : Nat} (hx : VRel E x u) (ht : P.underlying tS = some (.slice elem))
    (hs : srcCells P h tS tX elem sz x = some (ncs, m)) :
    ∃ vs, All2 (VRel E) ncs vs ∧ ncs.length = m * sz ∧ (∃ d, P.underlying tX = some d ∧ notInt d) ∧ (∀ w, (Builtin.lenOf u).run P w = .ok m w) ∧
      (∀ w', w'.heap = w.heap → (Builtin.firstCells sz m u).run P w' = .ok vs.toArray w') := by
  unfold srcCells at hs
  split at hs
  · rename_i n c
    split at hs
    · rename_i hc
      simp only [Bool.and_eq_true, decide_eq_true_eq] at hc
      obtain ⟨rfl, rfl⟩ := hc
      cases hs
      cases hx
      exact ⟨[], .nil, by simp, ⟨_, ht, .inl ⟨_, rfl⟩⟩, fun w => by simp [Builtin.lenOf], fun w' _ => by simp [Builtin.firstCells]⟩
    · cases hs
  · rename_i b o n s c
    split at hs
    · rename_i hc
      simp only [Bool.and_eq_true, decide_eq_true_eq] at hc
      obtain ⟨rfl, rfl⟩ := hc
      obtain ⟨p, k, hp, hk, hnk, rfl⟩ := hx
      cases hg : getCells h b o (n * s) with
      | none => rw [hg] at hs; cases hs
      | some l =>
        rw [hg] at hs
        cases hs
        obtain ⟨q, cur, e, fr, h1, h2, h3, h4, h5, h6⟩ := H.getCells hg
        rw [hp] at h1
        cases h1
        refine ⟨_, h6, h5, ⟨_, ht, .inl ⟨_, rfl⟩⟩, fun w => by simp [Builtin.lenOf], fun w' hw' => ?_⟩
        simp only [Builtin.firstCells]
        have := run_loadCells_list (P := P) w' ⟨p.1, o, none⟩ _ (seg_cells (w := w') (o := o) (n := m * s) (by rw [hw']; exact h2))
        rw [← h6.length, h5] at this
        exact this
    · cases hs
  · rename_i s
    split at hs
    · rename_i hu1 hu2
      split at hs
      · rename_i h1
        subst h1
        cases hs
        cases hx
        have hsz : lenB s.data.toList = s.size := by rw [lenB_eq]; rfl
        refine ⟨s.data.toList.map fun b => .int .u8 b.toNat, bytesR_rel _, by simp [bytesR, lenB_eq], ⟨_, hu1, .inr rfl⟩, fun w => by simp [Builtin.lenOf, hsz], fun w' _ => ?_⟩
        rw [hsz]
        simp only [Builtin.firstCells, Sem.run_pure]
        congr 1
        apply Array.ext'
        simp
      · cases hs
    · cases hs
  · cases hs

/-- A world that differs from one at a single block that no living block of ours is. -/
theorem HInv.loose (H : HInv ro base w0 E h w) {B : Nat} (hno : ∀ b o p, at? h b = some o → E[b]? = some p → p.1 ≠ B) {w' : World} (hb : Below base w w')
    (hother : ∀ k, k ≠ B → k < w.heap.size → w'.heap[k]? = w.heap[k]?) : HInv ro base w0 E h w' :=
  ⟨H.below.trans hb, H.lb, H.len, H.ro, fun b o hbo => by
    obtain ⟨p, h1, h2, h3⟩ := H.blk b o hbo
    exact ⟨p, h1, h2, h3.keep (List.prefix_refl E) (hother _ (hno b o p hbo h1) h3.heap_lt)⟩, H.inj⟩

theorem HInv.killed (H : HInv ro base w0 E h w) {b : Nat} {o : RO} {p : Nat × Nat} (hb : at? h b = some o) (hp : E[b]? = some p) (hw : o.own = true) :
    ∀ b' o' p', at? (h.set b none) b' = some o' → E[b']? = some p' → p'.1 ≠ p.1 := by
  intro b' o' p' h1 h2 e
  by_cases hbb : b = b'
  · subst hbb
    rw [at?_set_same none (at?_lt hb)] at h1
    cases h1
  · rw [at?_set_other none hbb] at h1
    cases hx : o'.own with
    | true => exact hbb (H.inj b b' o o' p p' hb h1 hw hx hp h2 e.symm)
    | false =>
      obtain ⟨p0, g1, g2, _⟩ := H.blk1 b o hb hw
      rw [hp] at g1
      cases g1
      obtain ⟨q0, k1, k2, _⟩ := H.blk b' o' h1
      rw [h2] at k1
      cases k1
      rw [hx, if_neg (by simp)] at k2
      omega

theorem grown_new (H : HInv ro base w0 E h w) {e : TypeId} {z : Array Value} {sz need cap : Nat} {l : List RV} {vs : List Value} (hsz : 0 < sz) (hz : z.size = sz) (hcap : need ≤ cap) (hl : All2 (VRel E) l vs) (hlen : l.length = need * sz) :
    HInv ro base w0 (E ++ [(w.heap.size, cap * sz)]) (h ++ [some (.cells l e true false)]) (w.drew.alloc (.cells (vs.toArray ++ Builtin.zeroCells z (cap - need)) e)) ∧
      VRel (E ++ [(w.heap.size, cap * sz)]) (.sl h.length 0 need sz none) (.slice (some ⟨w.heap.size, 0, none⟩) need cap) := by
  have hvl := hl.length
  have hsize : (vs.toArray ++ Builtin.zeroCells z (cap - need)).size = cap * sz := by
    simp only [Array.size_append, List.size_toArray, size_zeroCells, hz, ← hvl, hlen, ← Nat.add_mul]
    congr 1
    omega
  have H' := H.drew.allocCells (vs.toArray ++ Builtin.zeroCells z (cap - need)) e l true (by
    simp only [Array.toList_append]
    rw [hvl, List.take_left]
    exact hl) (fun e => by cases e)
  rw [hsize] at H'
  refine ⟨H', ⟨_, cap, H.new_get _, ?_, hcap, rfl⟩⟩
  simp [Nat.mul_div_cancel _ hsz]

theorem fit_append (H : HInv ro base w0 E h w) {argTypes : Array TypeId} {ty : TypeId} {s x : RV} {us u : Value} {e : Eff} (hsr : VRel E s us) (hx : VRel E x u) (hs : appendOp P h argTypes s x = some e) :
    Fits ro base w0 E h w ((vSem (Builtin.append_ argTypes ty #[us, u])).run P w) e := by
  unfold appendOp at hs
  split at hs
  · rename_i tS tX hT
    have hT : argTypes = #[tS, tX] := by
      apply Array.ext'
      rw [hT]
    subst hT
    split at hs
    · rename_i elem ht
      split at hs
      · rename_i i zero hi hz
        split at hs
        · cases hs
        · rename_i hcz
          simp only [Bool.or_eq_true, decide_eq_true_eq, not_or, Decidable.not_not] at hcz
          obtain ⟨hsz0, hzl⟩ := hcz
          have hsz : 0 < i.size := by omega
          obtain ⟨z, hzr, hza⟩ := zero_rel (E := E) hz
          have hzz : z.cells.size = i.size := by rw [← hzl, hza.length, Array.length_toList]
          have hiz : i.zero = some z := by
            have := hzr w
            simp [zeroValue, typeInfo, hi] at this
            split at this
            · rename_i z' hz'; simp at this; rw [hz', this]
            · simp at this
          split at hs
          · rename_i ncs m hsrc
            obtain ⟨vs, hvs, hnl, ⟨d, hd, hnd⟩, hlen, hfirst⟩ := src_spec H hx ht hsrc
            split at hs
            · rename_i hone
              unfold appendTo at hs
              split at hs
              · cases hsr
                split at hs
                · rename_i hm
                  subst hm
                  cases hs
                  have hv0 : vs = [] := by have := hvs.length; simp at hnl; rw [hnl] at this; exact List.eq_nil_of_length_eq_zero this.symm
                  subst hv0
                  refine ⟨_, rfl, .inl (run_vSem ?_)⟩
                  rw [run_app_room ht hd hnd hi none 0 0 0 u [] (hlen w) (hfirst w rfl) (by omega)]
                  rfl
                · rename_i hm
                  split at hs
                  · rename_i hb
                    simp only [Bool.and_eq_true, decide_eq_true_eq] at hb
                    cases hs
                    have hr := run_app_grow (w := w) ht hd hnd hi hiz none 0 0 m u [] vs (ty := ty) (hlen w) (by simp [Builtin.firstCells]) (hfirst w.drew rfl) (by omega) (by omega) (by simpa using hb.1)
                    simp only [Nat.zero_add] at hr
                    obtain ⟨H', hv⟩ := grown_new (e := elem) H hsz hzz (grownCap_ge w m 0 elem) hvs hnl
                    refine ⟨_, _, _, List.prefix_append _ _, hv, .inl (run_vSem hr), ?_⟩
                    simpa using H'
                  · cases hs
              · rename_i b n s'
                obtain ⟨p, k, hp, hk, hnk, rfl⟩ := hsr
                split at hs
                · cases hs
                · rename_i hs'
                  have hs' : s' = i.size := Decidable.not_not.1 hs'
                  subst hs'
                  simp only [Option.getD_none, Nat.sub_zero] at hk
                  split at hs
                  · rename_i hm
                    subst hm
                    cases hs
                    have hv0 : vs = [] := by have := hvs.length; simp at hnl; rw [hnl] at this; exact List.eq_nil_of_length_eq_zero this.symm
                    subst hv0
                    refine ⟨_, ⟨p, k, hp, hk, hnk, rfl⟩, .inl (run_vSem ?_)⟩
                    rw [run_app_room ht hd hnd hi _ n k 0 u [] (hlen w) (hfirst w rfl) (by omega)]
                    simp [storeCells]
                  · rename_i hm
                    unfold appendSl at hs
                    split at hs
                    · rename_i l e' room hl
                      rw [lkp_eq] at hl
                      obtain ⟨q, h1, h2, cur, fr, h3, h4, h5, h6, h7⟩ := H.blk1 b _ hl rfl
                      rw [hp] at h1
                      cases h1
                      have hfr := h7 rfl
                      subst hfr
                      have hlc := h5.length
                      have hlcur : l.length ≤ cur.size := by simp at hlc; omega
                      have hvl := hvs.length
                      split at hs
                      · cases hs
                      · rename_i he
                        have he : e' = elem := Decidable.not_not.1 he
                        subst he
                        split at hs
                        · rename_i hin
                          cases hput : putCells h b (n * i.size) ncs with
                          | none => rw [hput] at hs; cases hs
                          | some ob =>
                            rw [hput] at hs
                            cases hs
                            obtain ⟨w', hrun, H'⟩ := fit_put (P := P) H hvs hp hput
                            have hroom : n + m ≤ k := by rw [hk, Nat.le_div_iff_mul_le hsz]; omega
                            refine ⟨E, _, w', List.prefix_refl E, ⟨p, k, hp, hk, hroom, rfl⟩, .inl (run_vSem ?_), H'⟩
                            rw [run_app_room ht hd hnd hi _ n k m u vs (hlen w) (hfirst w rfl) hroom]
                            simp only [add_lit, Nat.zero_add, hrun, Result.andThen_ok]
                        · rename_i hin
                          split at hs
                          · rename_i hb
                            simp only [Bool.and_eq_true, decide_eq_true_eq] at hb
                            obtain ⟨⟨hb1, hb2⟩, hb3⟩ := hb
                            have hold : ∀ w' : World, w'.heap = w.heap → (Builtin.firstCells i.size n (.slice (some ⟨p.1, 0, none⟩) n k)).run P w' = .ok (cur.toList.take (n * i.size)).toArray w' := by
                              intro w' hw'
                              simp only [Builtin.firstCells]
                              have := run_loadCells_list (P := P) w' ⟨p.1, 0, none⟩ (cur.toList.take (n * i.size)) (by simpa using seg_cells (w := w') (o := 0) (n := n * i.size) (by rw [hw']; exact h3))
                              rw [List.length_take, Nat.min_eq_left (by simp; omega)] at this
                              exact this
                            have hola : All2 (VRel E) (l.take (n * i.size)) (cur.toList.take (n * i.size)) := by
                              have := h5.take (n * i.size)
                              rwa [List.take_take, Nat.min_eq_left (by omega)] at this
                            have hgrow : ∀ (hg : k < n + m), _ := fun hg => run_app_grow (w := w) ht hd hnd hi hiz (some ⟨p.1, 0, none⟩) n k m u _ vs (ty := ty) (hlen w) (hold w.drew rfl) (hfirst w.drew rfl) hg hb3 hb2
                            have hnlen : (l.take (n * i.size) ++ ncs).length = (n + m) * i.size := by rw [List.length_append, List.length_take, Nat.min_eq_left hb1, hnl, Nat.add_mul]
                            cases room with
                            | false =>
                              cases hs
                              have hK := h6 rfl
                              have hg : k < n + m := by
                                rw [hk, ← hK]
                                exact (Nat.div_lt_iff_lt_mul hsz).2 (by omega)
                              obtain ⟨H', hv⟩ := grown_new (e := e') H hsz hzz (grownCap_ge w (n + m) k e') (hola.append hvs) hnlen
                              refine ⟨_, _, _, List.prefix_append _ _, hv, .inl (run_vSem (hgrow hg)), ?_⟩
                              simpa using H'
                            | true =>
                              simp only at hs
                              split at hs
                              · rename_i htip
                                simp only [Bool.and_eq_true, decide_eq_true_eq] at htip
                                cases hs
                                have hltake : l.take (n * i.size) = l := List.take_of_length_le (by omega)
                                rw [hltake] at hola hnlen
                                by_cases hroom : n + m ≤ k
                                · have hfit : (n + m) * i.size ≤ cur.size := by
                                    rw [h4]
                                    rw [hk] at hroom
                                    exact (Nat.le_div_iff_mul_le hsz).1 hroom
                                  have hst := run_storeCells_at P p.1 (n * i.size) e' vs 0 cur w h3 (by rw [← hvl, hnl, Nat.add_zero, ← Nat.add_mul]; exact hfit) (all_one_rel hvs hone)
                                  simp only [Nat.add_zero] at hst
                                  have H1 := (H.kill b).loose (H.killed hl hp rfl) (below_setRow w p.1 (cur.toList.take (n * i.size) ++ vs ++ cur.toList.drop (n * i.size + vs.length)).toArray h2) (fun k hk _ => setRow_other w p.1 k _ hk)
                                  have H2 := H1.push p (.cells (l ++ ncs) e' true false) rfl h2 (H.killed hl hp rfl) ⟨_, (0, 0), setRow_heap w p.1 cur _ e' _ h3, by
                                    rw [List.size_toArray]
                                    simp only [List.length_append, List.length_take, List.length_drop, Array.length_toList]
                                    rw [Nat.min_eq_left (by omega), ← hvl, hnl, ← h4]
                                    rw [Nat.add_mul] at hfit
                                    omega, by
                                    refine All2.ext (List.prefix_append _ _) ?_
                                    have e2 : (l ++ ncs).length = (cur.toList.take (n * i.size) ++ vs).length := by
                                      rw [hnlen, List.length_append, List.length_take, Nat.min_eq_left (by simp; omega), ← hvl, hnl, Nat.add_mul]
                                    rw [e2]
                                    simp only
                                    rw [List.take_left]
                                    exact hola.append hvs, (fun e => by cases e), fun _ => rfl⟩
                                  refine ⟨_, .slice (some ⟨p.1, 0, none⟩) (n + m) k, _, List.prefix_append _ _, ⟨p, k, ?_, by simpa using hk, hroom, rfl⟩, .inl (run_vSem ?_), H2⟩
                                  · rw [H.len]; simp
                                  · rw [run_app_room ht hd hnd hi _ n k m u vs (hlen w) (hfirst w rfl) hroom]
                                    simp only [add_lit, Nat.zero_add, hst, Result.andThen_ok]
                                · have hg : k < n + m := by omega
                                  obtain ⟨H', hv⟩ := grown_new (e := e') (H.kill b) hsz hzz (grownCap_ge w (n + m) k e') (hola.append hvs) hnlen
                                  refine ⟨_, _, _, List.prefix_append E [(w.heap.size, grownCap w (n + m) k e' * i.size)], ?_, .inl (run_vSem (hgrow hg)), ?_⟩
                                  · simpa using hv
                                  · simpa using H'
                              · cases hs
                          · cases hs
                    · cases hs
              · cases hs
            · cases hs
          · cases hs
      · cases hs
    · cases hs
  · cases hs
end
end Go.Ri
