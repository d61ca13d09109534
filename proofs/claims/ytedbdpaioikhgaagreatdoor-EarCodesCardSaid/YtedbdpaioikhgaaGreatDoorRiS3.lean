/- An interpreter for calls whose arguments are closed or names, and its soundness: a part of the proofs. -/
import Derived.Test.YtedbdpaioikhgaaGreatDoorRiS2
namespace Go.Ri
open Go Go.RowKit
variable [Val]

section
variable {P : Program} {ro : Ro} {base : Nat} {w0 : World} {E : Env} {h : RH} {w : World} {t : List RV} {a : Act}

theorem ev_rel (ht : All2 (VRel E) t a.tmps.toList) (x : Operand) : VRel E (ev t x) (a.eval x) := by
  cases x with
  | tmp i =>
    show VRel E (nth t i) (a.tmps.getD i undef)
    rw [nth_eq, List.getD_eq_getElem?_getD]
    have e : a.tmps.getD i undef = (a.tmps.toList[i]?).getD undef := by simp
    rw [e]
    cases hi : t[i]? with
    | some r =>
      obtain ⟨b, hb, hr⟩ := ht.get i r hi
      rw [hb]
      exact hr
    | none =>
      rw [ht.get_none i hi]
      rfl
  | const v => rfl
  | global g => rfl
  | func f => rfl
theorem evL_rel (ht : All2 (VRel E) t a.tmps.toList) (l : Array Operand) : All2 (VRel E) (evL t l) ((l.map a.eval).toList) := by
  unfold evL
  rw [Array.toList_map]
  exact All2.map _ _ (fun x => ev_rel ht x) _

theorem loadAs_rel {agg : Bool} {l : List RV} {vs : List Value} {v : RV} (h : loadAs agg l = some v) (hl : All2 (VRel E) l vs) (hn : agg = false → l.length = 1) :
    (agg = true ∧ VRel E v (.agg vs.toArray)) ∨ (agg = false ∧ ∃ u, vs = [u] ∧ VRel E v u) := by
  unfold loadAs at h
  cases agg with
  | true => simp at h; subst h; exact .inl ⟨rfl, mkAgg_rel hl⟩
  | false =>
    right
    refine ⟨rfl, ?_⟩
    have hn := hn rfl
    obtain ⟨x, rfl⟩ := List.length_eq_one_iff.1 hn
    cases hl with
    | cons r hr =>
      cases hr
      simp at h
      subst h
      exact ⟨_, rfl, r⟩

omit [Val] in
theorem run_load_seg {ty : TypeId} {agg : Bool} {sz : Nat} (hagg : (isAgg ty).run P w = .ok agg w) (hsz : (sizeOf ty).run P w = .ok sz w) (ad : Addr) (cs : List Value)
    (hlen : cs.length = cellsN agg sz) (hc : ∀ j v, cs[j]? = some v → w.cell? (ad.add j) = some v) :
    (loadVar ty ad).run P w = .ok (if agg then .agg cs.toArray else cs.headD undef) w := by
  unfold loadVar
  simp only [Sem.run_bind, hagg, Result.andThen_ok]
  cases agg with
  | true =>
    simp only [cellsN] at hlen
    simp only [if_true]
    simp only [Sem.run_bind, hsz, Result.andThen_ok, ← hlen]
    rw [run_loadCells_list w ad cs hc]
    rfl
  | false =>
    simp only [cellsN] at hlen
    simp only [Bool.false_eq_true, if_false]
    match cs, hlen with
    | [c], _ =>
      have := hc 0 c (by simp)
      have e : ad.add 0 = ad := by simp [Addr.add]
      rw [e] at this
      simp [this]

theorem fit_load (H : HInv ro base w0 E h w) {ty : TypeId} {x v : RV} {u : Value} (hx : VRel E x u) (hl : loadOp P ro h ty x = some v) :
    ∃ r, VRel E v r ∧ (Instr.loadAt ty u).run P w = .ok r w := by
  unfold loadOp at hl
  split at hl
  · rename_i agg sz hagg hsz
    have hagg := quiet_run P _ _ hagg w
    have hsz := quiet_run P _ _ hsz w
    simp only [Instr.loadAt]
    split at hl
    · rename_i b o
      obtain ⟨p, hp, rfl⟩ := hx
      cases hg : getCells h b o (cellsN agg sz) with
      | none => rw [hg] at hl; cases hl
      | some l =>
        rw [hg] at hl
        obtain ⟨q, cur, e, fr, h1, h2, h3, h4, h5, h6⟩ := H.getCells hg
        rw [hp] at h1
        cases h1
        have hrun := run_load_seg hagg hsz ⟨p.1, o, none⟩ ((cur.toList.drop o).take (cellsN agg sz)) (by rw [← h6.length, h5]) (seg_cells h2)
        simp only [Sem.run_bind, Instr.sureAddr, Sem.run_pure, Result.andThen_ok]
        rw [hrun]
        have hr := loadAs_rel (v := v) hl h6 (fun e => by rw [h5, e]; rfl)
        rcases hr with ⟨rfl, hr⟩ | ⟨rfl, u, hu, hr⟩
        · exact ⟨_, hr, rfl⟩
        · refine ⟨u, hr, ?_⟩
          simp [hu]
    · rename_i g o
      cases hx
      split at hl
      · rename_i cs hcs
        obtain ⟨hg1, cur, e, fr, hg2, hg3⟩ := H.ro g cs hcs
        split at hl
        · rename_i hle
          have hw : w.heap[g]? = some (.cells cur e fr) := (H.below.block g hg1).trans hg2
          subst hg3
          have hall : All2 (VRel E) (((cur.toList.drop o).take (cellsN agg sz)).map .pl) ((cur.toList.drop o).take (cellsN agg sz)) := All2.pls _
          have hlen : ((cur.toList.drop o).take (cellsN agg sz)).length = cellsN agg sz := by simp at hle ⊢; omega
          have hrun := run_load_seg hagg hsz ⟨g, o, none⟩ _ hlen (seg_cells hw)
          simp only [Sem.run_bind, Instr.sureAddr, Sem.run_pure, Result.andThen_ok]
          rw [hrun]
          have hr := loadAs_rel (v := v) hl hall (fun e => by rw [hall.length, hlen, e]; rfl)
          rcases hr with ⟨rfl, hr⟩ | ⟨rfl, u, hu, hr⟩
          · exact ⟨_, hr, rfl⟩
          · refine ⟨u, hr, ?_⟩
            simp [hu]
        · cases hl
      · cases hl
    · cases hl
  · cases hl

/-- What an operation that may change the heap leaves. -/
def After (ro : Ro) (base : Nat) (w0 : World) (E : Env) (v : RV) (h' : RH) (res : Result Next) : Prop :=
  ∃ E' u w', E <+: E' ∧ VRel E' v u ∧ (res = .ok (.value u) w' ∨ (res = .ok .skip w' ∧ u = undef)) ∧ HInv ro base w0 E' h' w'

def Fits (ro : Ro) (base : Nat) (w0 : World) (E : Env) (h : RH) (w : World) (res : Result Next) : Eff → Prop
  | .val v => ∃ u, VRel E v u ∧ (res = .ok (.value u) w ∨ (res = .ok .skip w ∧ u = undef))
  | .same v => ∃ u, VRel E v u ∧ (res = .ok (.value u) w ∨ (res = .ok .skip w ∧ u = undef))
  | .setB v b ob => After ro base w0 E v (h.set b (some ob)) res
  | .newB v ob => After ro base w0 E v (h ++ [some ob]) res
  | .moveB v b ob => After ro base w0 E v (h.set b none ++ [some ob]) res
  | .call f args => ∃ vs, All2 (VRel E) args vs ∧ res = .ok (.enter f vs.toArray) w

/-- The store of a list of cells into a block. -/
theorem fit_put (H : HInv ro base w0 E h w) {b o : Nat} {cs : List RV} {vs : List Value} {ob : RO} {p : Nat × Nat} (hcs : All2 (VRel E) cs vs) (hp : E[b]? = some p)
    (hput : putCells h b o cs = some ob) :
    ∃ w', (storeCells ⟨p.1, o, none⟩ vs).run P w = .ok () w' ∧ HInv ro base w0 E (h.set b (some ob)) w' := by
  rw [putCells_eq] at hput
  split at hput
  · rename_i l e room hl
    rw [lkp_eq] at hl
    split at hput
    · rename_i hcond
      cases hput
      simp only [Bool.and_eq_true, decide_eq_true_eq] at hcond
      obtain ⟨hle, hone⟩ := hcond
      obtain ⟨q, h1, h2, cur, fr, h3, h4, h5, h6, h7⟩ := H.blk1 b _ hl rfl
      rw [hp] at h1
      cases h1
      have hfr := h7 rfl
      subst hfr
      have hlc := h5.length
      have hlen : l.length ≤ cur.size := by simp at hlc; omega
      have hvl := hcs.length
      have hrun := run_storeCells_at P p.1 o e vs 0 cur w h3 (by omega) (all_one_rel hcs hone)
      simp only [Nat.add_zero] at hrun
      refine ⟨_, hrun, H.write hl hp rfl rfl _ (below_setRow w p.1 _ h2) (fun k hk _ => setRow_other w p.1 k _ hk) ⟨_, (0, 0), setRow_heap w p.1 cur _ e _ h3, ?_, ?_, ?_, fun _ => rfl⟩⟩
      · simp
        omega
      · have key := ((h5.take o).append hcs).append (h5.drop (o + cs.length))
        have e1 : (l.take o ++ cs ++ l.drop (o + cs.length)).length = l.length := by simp; omega
        rw [e1]
        have e2 : ((cur.toList.take o ++ vs ++ cur.toList.drop (o + vs.length)).toArray.toList).take l.length =
            (cur.toList.take l.length).take o ++ vs ++ (cur.toList.take l.length).drop (o + cs.length) := by
          simp only
          rw [List.take_take, Nat.min_eq_left (by omega), hvl]
          have : l.length = (cur.toList.take o ++ vs).length + (l.length - (o + vs.length)) := by simp; omega
          rw [List.take_append, List.take_of_length_le (by simp; omega)]
          congr 1
          rw [List.drop_take]
          congr 1
          simp
          omega
        rw [e2]
        exact key
      · intro hr
        have := h6 hr
        simp
        omega
    · cases hput
  · cases hput

end
end Go.Ri
