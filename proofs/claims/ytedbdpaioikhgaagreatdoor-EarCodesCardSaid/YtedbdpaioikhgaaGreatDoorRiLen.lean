/- An interpreter for calls whose arguments are closed or names, and its soundness: a part of the proofs. -/
import Derived.Test.YtedbdpaioikhgaaGreatDoorRiSym
/-! Calls over slices that are only read. -/
namespace Go.Ri
open Go Go.RowKit

/-- What a value is in a world: itself, or a slice with what it holds (its length, an element's cells, the element's type, the cells). -/
def DVal (w : World) (d : List Value) (v : Value) : Prop :=
  match d with
  | [x] => v = x
  | .int .i64 n :: .int .i64 s :: .int .i64 e :: cs => ∃ p cur fr, v = .slice (some ⟨p, 0, none⟩) n.toNat (cur.size / s.toNat) ∧ w.heap[p]? = some (.cells cur e.toNat fr) ∧ cs.length = n.toNat * s.toNat ∧ n.toNat ≤ cur.size / s.toNat ∧ cur.toList.take cs.length = cs
  | _ => False

section
variable [Val] {P : Program} {g : Cfg} {ro : Ro} {base : Nat} {w0 : World} {E : Env} {h : RH} {w : World}
theorem cvF_flat0 {r : RV} (hf : flat0 r = true) : cvF r = cv r := by
  cases r with
  | pl v => rfl
  | sym k i => rfl
  | _ => cases hf
theorem all2_cv {l : List RV} {vs : List Value} (hf : l.all flat0 = true) (h : All2 (VRel E) l vs) : vs = l.map cvF := by
  induction h with
  | nil => rfl
  | cons r _ ih =>
    simp only [List.all_cons, Bool.and_eq_true] at hf
    rw [List.map_cons, ← ih hf.2, cvF_flat0 hf.1, cv_rel hf.1 r]
omit [Val] in
theorem deepSeg_spec {n s e : Nat} {c : Option (List RV)} {d : List RV} (h : deepSeg n s e c = some d) : ∃ cs, c = some cs ∧ cs.all flat0 = true ∧ d = .pl (.int .i64 n) :: .pl (.int .i64 s) :: .pl (.int .i64 e) :: cs := by
  unfold deepSeg at h
  split at h
  · rename_i cs
    split at h
    · rename_i hf
      cases h
      exact ⟨cs, rfl, hf, rfl⟩
    · cases h
  · cases h
theorem deep_dv (H : HInv ro base w0 E h w) {r : RV} {d : List RV} {v : Value} (hd : deepArg h r = some d) (hv : VRel E r v) : DVal w (d.map cvF) v := by
  unfold deepArg at hd
  split at hd
  · rename_i b n s
    have key : ∀ l e, (∃ p cur fr, E[b]? = some p ∧ w.heap[p.1]? = some (.cells cur e fr) ∧ cur.size = p.2 ∧ All2 (VRel E) l (cur.toList.take l.length)) → deepSeg n s e (seg l 0 (n * s)) = some d → DVal w (d.map cvF) v := by
      intro l e ⟨p, cur, fr, h1, h2, h3, h4⟩ hd
      obtain ⟨cs, hcs, hf, rfl⟩ := deepSeg_spec hd
      obtain ⟨hlen, rfl⟩ := seg_eq _ _ _ _ hcs
      obtain ⟨q, k, hq, hk, hn, rfl⟩ := hv
      rw [h1] at hq
      cases hq
      have hk : k = (p.2 - 0) / s := hk
      have hlc := h4.length
      simp only [Nat.zero_add, List.drop_zero] at *
      have hcl : (l.take (n * s)).length = n * s := by simp; omega
      have hc := h4.take (n * s)
      have hrel := all2_cv hf hc
      refine ⟨p.1, cur, fr, ?_, h2, ?_, ?_, ?_⟩
      · show Value.slice (some ⟨p.1, 0, none⟩) n k = Value.slice (some ⟨p.1, 0, none⟩) (Int.toNat (n : Int)) (cur.size / Int.toNat (s : Int))
        rw [hk, h3]
        simp
      · show ((l.take (n * s)).map cvF).length = Int.toNat (n : Int) * Int.toNat (s : Int)
        rw [List.length_map, hcl]
        simp
      · show Int.toNat (n : Int) ≤ cur.size / Int.toNat (s : Int)
        rw [h3]
        simp only [Int.toNat_natCast]
        rw [hk] at hn
        simpa using hn
      · show cur.toList.take ((l.take (n * s)).map cvF).length = (l.take (n * s)).map cvF
        rw [List.length_map, hcl, ← hrel, List.take_take]
        have : l.length ≤ cur.size := by simp at hlc; omega
        rw [Nat.min_eq_left (by omega)]
    split at hd
    · rename_i l e room fz hl
      rw [lkp_eq] at hl
      obtain ⟨p, h1, _, cur, fr, h3, h4, h5, _⟩ := H.blk b _ hl
      exact key l e ⟨p, cur, fr, h1, h3, h4, h5⟩ hd
    · rename_i l e hl
      rw [lkp_eq] at hl
      obtain ⟨p, h1, _, cur, fr, h3, h4, h5⟩ := H.blk b _ hl
      exact key l e ⟨p, cur, fr, h1, h3, h4, h5⟩ hd
    · cases hd
  · split at hd
    · rename_i hf
      cases hd
      show v = cvF r
      exact VRel.fn r v _ hv (rel_cvF hf)
    · cases hd
theorem deeps_dv (H : HInv ro base w0 E h w) : ∀ {args : List RV} {ds : List (List RV)} {vs : List Value}, deepArgs h args = some ds → All2 (VRel E) args vs → All2 (DVal w) (ds.map fun d => d.map cvF) vs
  | [], ds, vs, hd, hv => by
    cases hd
    cases hv
    exact .nil
  | r :: args, ds, vs, hd, hv => by
    have hd : (match deepArg h r with
      | some d => match deepArgs h args with | some ds => some (d :: ds) | none => none
      | none => none) = some ds := hd
    split at hd
    · rename_i d hd1
      split at hd
      · rename_i ds' hd2
        cases hd
        cases hv with
        | cons h1 h2 => exact .cons (deep_dv H hd1 h1) (deeps_dv H hd2 h2)
      · cases hd
    · cases hd

/-! The other way: blocks lent for slices. -/
def openArgs : List (List RV) → Nat → List RV × RH
  | [], _ => ([], [])
  | (.pl (.int .i64 n) :: .pl (.int .i64 s) :: .pl (.int .i64 e) :: cs) :: ds, b => (.sl b 0 n.toNat s.toNat none :: (openArgs ds (b + 1)).1, some (.lent cs e.toNat) :: (openArgs ds (b + 1)).2)
  | [r] :: ds, b => (r :: (openArgs ds b).1, (openArgs ds b).2)
  | _ :: ds, b => (.pl undef :: (openArgs ds b).1, (openArgs ds b).2)
def okD : List RV → Bool
  | (.pl (.int .i64 _) :: .pl (.int .i64 _) :: .pl (.int .i64 _) :: cs) => cs.all flat0
  | [r] => flat r
  | _ => false
theorem map_cvF_rel {l : List RV} (hf : l.all flat0 = true) : All2 (VRel E) l (l.map cvF) := by
  have := rel_cvs (E := E) l hf
  rw [List.map_congr_left (g := cvF) fun r hr => (cvF_flat0 (List.all_eq_true.1 hf r hr)).symm] at this
  exact this
theorem open_rel : ∀ (ds : List (List RV)) (vs : List Value) (E0 : Env), ds.all okD = true → All2 (DVal w) (ds.map fun d => d.map cvF) vs →
    ∃ E1, (∀ E2, All2 (LentAt E2 w) (openArgs ds E0.length).2 E1) ∧ All2 (VRel (E0 ++ E1)) (openArgs ds E0.length).1 vs
  | [], vs, E0, _, hv => by
    cases hv
    exact ⟨[], fun _ => .nil, .nil⟩
  | d :: ds, vs, E0, hok, hv => by
    simp only [List.all_cons, Bool.and_eq_true] at hok
    cases hv with
    | cons h1 h2 =>
      rename_i v vs
      obtain ⟨hd, hds⟩ := hok
      unfold okD at hd
      split at hd
      · rename_i n s e cs
        obtain ⟨p, cur, fr, hv, hp, hl, hn, hc⟩ := h1
        have hl : (cs.map cvF).length = n.toNat * s.toNat := hl
        obtain ⟨E1, g1, g2⟩ := open_rel ds vs (E0 ++ [(p, cur.size)]) hds h2
        rw [List.length_append] at g1 g2
        refine ⟨(p, cur.size) :: E1, fun E2 => .cons ⟨cs, e.toNat, rfl, cur, fr, hp, rfl, ?_⟩ (g1 E2), .cons ?_ ?_⟩
        · rw [List.length_map] at hc
          rw [hc]
          exact map_cvF_rel hd
        · refine ⟨(p, cur.size), cur.size / s.toNat, ?_, ?_, hn, hv⟩
          · rw [List.getElem?_append_right (Nat.le_refl _)]
            simp
          · show _ = (cur.size - 0) / s.toNat
            rw [Nat.sub_zero]
        · have : E0 ++ (p, cur.size) :: E1 = (E0 ++ [(p, cur.size)]) ++ E1 := by simp
          rw [this]
          exact g2
      · rename_i r
        obtain ⟨E1, g1, g2⟩ := open_rel ds vs E0 hds h2
        have e : openArgs ([r] :: ds) E0.length = (r :: (openArgs ds E0.length).1, (openArgs ds E0.length).2) := by simp [openArgs]
        rw [e]
        have h1 : v = cvF r := h1
        exact ⟨E1, g1, .cons (h1 ▸ rel_cvF hd) g2⟩
      · cases hd
/-- A call over slices that are only read. -/
theorem deep_call (hm : P.follows .mixedOrders = true) (G : CfgOK P g) (hX : XOK P g) (m n : Nat) (f : FuncId) (ds : List (List RV)) (hok : ds.all okD = true) (r : RV) (h' : RH)
    (hc : call P g m n f (openArgs ds 0).1 (openArgs ds 0).2 = some (r, h')) (hfr : flat r = true) (w : World) (hr : RoIn g.ro w) (vs : List Value) (hv : All2 (DVal w) (ds.map fun d => d.map cvF) vs) :
    Calls P f vs.toArray w (fun e w' => e = .returned (cvF r) ∧ Below w.heap.size w w') := by
  obtain ⟨E1, g1, g2⟩ := open_rel ds vs [] hok hv
  exact lent_call hm G hX m n f _ _ r h' hc hfr w hr E1 (g1 E1) vs g2
end
end Go.Ri
