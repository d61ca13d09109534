/- An interpreter for calls whose arguments are closed or names, and its soundness: a part of the proofs. -/
import Derived.Test.YtedbdpaioikhgaaGreatDoorRiS5
namespace Go.Ri
open Go Go.RowKit
variable [Val]

section
variable {P : Program} {ro : Ro} {base : Nat} {w0 : World} {E : Env} {h : RH} {w : World}

def ORel (E : Env) : Option RV → Option Value → Prop
  | none, none => True
  | some r, some v => VRel E r v
  | _, _ => False

theorem bnd_run {x : Option RV} {y : Option Value} {d n : Nat} (hxy : ORel E x y) (hb : bnd x d = some n) :
    (x = none ∧ y = none ∧ n = d) ∨ ∃ k i, y = some (.int k i) ∧ 0 ≤ i ∧ n = i.toNat := by
  unfold bnd at hb
  split at hb
  · cases hb
    cases y with
    | none => exact .inl ⟨rfl, rfl, rfl⟩
    | some v => exact hxy.elim
  · rename_i k i
    split at hb
    · rename_i h0
      cases hb
      cases y with
      | none => exact hxy.elim
      | some v => exact .inr ⟨k, i, by rw [show v = .int k i from hxy], h0, rfl⟩
    · cases hb
  · cases hb

theorem run_bounds {lo hi : Option RV} {lo' hi' : Option Value} {l g n cap : Nat} (isSlice : Bool) (hlo : ORel E lo lo') (hhi : ORel E hi hi') (hl : bnd lo 0 = some l) (hg : bnd hi n = some g)
    (h1 : l ≤ g) (h2 : g ≤ n) (h3 : n ≤ cap) (w : World) : (Instr.sliceBounds isSlice n cap lo' hi' none).run P w = .ok (l, g, cap) w := by
  have eh : (match hi', (none : Option Value) with
      | some v, some _ => Instr.sliceBound v cap .slice3B
      | some v, none => Instr.sliceBound v cap (if isSlice then .sliceAcap else .sliceAlen)
      | none, none => pure n
      | none, some _ => stuck "Slice: max without high" : Sem Nat).run P w = .ok g w := by
    rcases bnd_run hhi hg with ⟨_, rfl, rfl⟩ | ⟨k, i, rfl, h0, rfl⟩
    · rfl
    · have : i ≤ cap := by omega
      simp [Instr.sliceBound, asIntOf, h0, this]
  have el : (match lo' with
      | some v => Instr.sliceBound v g .sliceB
      | none => pure 0 : Sem Nat).run P w = .ok l w := by
    rcases bnd_run hlo hl with ⟨_, rfl, rfl⟩ | ⟨k, i, rfl, h0, rfl⟩
    · rfl
    · have : i ≤ g := by omega
      simp [Instr.sliceBound, asIntOf, h0, this]
  unfold Instr.sliceBounds
  simp only [Sem.run_bind, Sem.run_pure, Result.andThen_ok]
  cases hi' with
  | none =>
    simp only [Sem.run_pure] at eh
    cases eh
    simp only [Sem.run_pure, Result.andThen_ok, Sem.run_bind]
    cases lo' with
    | none =>
      simp only [Sem.run_pure] at el
      cases el
      simp
    | some v =>
      simp only at el
      simp [el]
  | some u =>
    simp only at eh
    simp only [eh, Result.andThen_ok, Sem.run_bind]
    cases lo' with
    | none =>
      simp only [Sem.run_pure] at el
      cases el
      simp
    | some v =>
      simp only at el
      simp [el]

omit [Val] in
theorem div_sub (K o l s : Nat) : (K - o) / s - l = (K - (o + l * s)) / s := by
  by_cases hs : s = 0
  · subst hs; simp
  · rw [← Nat.sub_sub, Nat.mul_comm l s, Nat.sub_mul_div]

theorem capOf_spec (H : HInv ro base w0 E h w) {b o s k : Nat} {c : Option Nat} {p : Nat × Nat} (hp : E[b]? = some p) (hc : capOf h b o s c = some k) : k = c.getD ((p.2 - o) / s) := by
  unfold capOf at hc
  split at hc
  · cases hc; rfl
  · split at hc
    · rename_i l e froz hl
      cases hc
      rw [lkp_eq] at hl
      obtain ⟨q, h1, h2, cur, fr, h3, h4, h5, h6, h7⟩ := H.blk1 b _ hl rfl
      rw [hp] at h1
      cases h1
      rw [h6 rfl]
      rfl
    · cases hc

theorem fit_slice (H : HInv ro base w0 E h w) {ty : TypeId} {x v : RV} {u : Value} {lo hi mx : Option RV} {lo' hi' mx' : Option Value} (hx : VRel E x u) (hlo : ORel E lo lo') (hhi : ORel E hi hi') (hmx : ORel E mx mx')
    (hs : sliceOp P h ty x lo hi mx = some v) : ∃ r, VRel E v r ∧ ∀ w, (Instr.sliceAt ty u lo' hi' mx').run P w = .ok r w := by
  unfold sliceOp at hs
  split at hs
  · rename_i elem b o n s c hu
    have : mx' = none := by cases mx' with
      | none => rfl
      | some _ => exact hmx.elim
    subst this
    split at hs
    · rename_i l g s' hl hg hsz
      split at hs
      · rename_i hcond
        simp only [Bool.and_eq_true, decide_eq_true_eq] at hcond
        obtain ⟨⟨⟨h1, h2⟩, rfl⟩, h4⟩ := hcond
        obtain ⟨p, k, hp, hk, hnk, rfl⟩ := hx
        have hb := fun w => run_bounds (P := P) true hlo hhi hl hg h1 h2 hnk w
        have hrun : ∀ w, (Instr.sliceAt ty (.slice (some ⟨p.1, o, none⟩) n k) lo' hi' none).run P w =
            .ok (.slice (if k = l then some ⟨p.1, o, none⟩ else some ⟨p.1, o + l * s, none⟩) (g - l) (k - l)) w := by
          intro w
          simp only [Instr.sliceAt, Instr.slice, Sem.run_bind, run_under hu, Result.andThen_ok, hb, run_sizeB hsz, Sem.run_pure]
          split <;> simp [add_lit]
        split at hs
        · rename_i h0
          subst h0
          cases hs
          refine ⟨_, ⟨p, k, hp, hk, by omega, ?_⟩, hrun⟩
          simp
        · rename_i h0
          split at hs
          · rename_i hln
            cases hs
            refine ⟨_, ⟨p, k - l, hp, ?_, by omega, ?_⟩, hrun⟩
            · cases c with
              | none => simp only [Option.map_none, Option.getD_none] at hk ⊢; rw [hk, div_sub]
              | some c => simp only [Option.map_some, Option.getD_some] at hk ⊢; rw [hk]
            · rw [if_neg (by omega)]
          · split at hs
            · rename_i k' hk'
              have hkk := capOf_spec H hp hk'
              rw [← hk] at hkk
              subst hkk
              rw [if_pos hnk] at hs
              by_cases hkl : k' = l
              · rw [if_pos hkl] at hs
                cases hs
                refine ⟨_, ⟨p, 0, hp, rfl, by omega, ?_⟩, hrun⟩
                rw [if_pos hkl, hkl]
                simp
              · rw [if_neg hkl] at hs
                cases hs
                refine ⟨_, ⟨p, k' - l, hp, rfl, by omega, ?_⟩, hrun⟩
                rw [if_neg hkl]
            · cases hs
      · cases hs
    · cases hs
  · rename_i n elem b o hu
    have : mx' = none := by cases mx' with
      | none => rfl
      | some _ => exact hmx.elim
    subst this
    split at hs
    · rename_i l g s hl hg hsz
      split at hs
      · rename_i hcond
        simp only [Bool.and_eq_true, decide_eq_true_eq] at hcond
        obtain ⟨⟨h1, h2⟩, h4⟩ := hcond
        obtain ⟨p, hp, rfl⟩ := hx
        have hb := fun w => run_bounds (P := P) false hlo hhi hl hg h1 h2 (Nat.le_refl n) w
        have hrun : ∀ w, (Instr.sliceAt ty (.pointer (some ⟨p.1, o, none⟩)) lo' hi' none).run P w =
            .ok (.slice (if n = l then some ⟨p.1, o, none⟩ else some ⟨p.1, o + l * s, none⟩) (g - l) (n - l)) w := by
          intro w
          simp only [Instr.sliceAt, Sem.run_bind, run_under hu, Result.andThen_ok, Instr.sureAddr, hb, run_sizeB hsz, Sem.run_pure]
          split <;> simp [add_lit]
        split at hs
        · rename_i hnl
          cases hs
          refine ⟨_, ⟨p, n - l, hp, rfl, by omega, ?_⟩, hrun⟩
          rw [if_pos hnl]
        · rename_i hnl
          cases hs
          refine ⟨_, ⟨p, n - l, hp, rfl, by omega, ?_⟩, hrun⟩
          rw [if_neg hnl]
      · cases hs
    · cases hs
  · cases hs

theorem fit_range (H : HInv ro base w0 E h w) {ty : TypeId} {x : RV} {u : Value} {e : Eff} (hx : VRel E x u) (hs : rangeOp P h ty x = some e) :
    Fits ro base w0 E h w ((vSem (Instr.range ty u)).run P w) e := by
  unfold rangeOp at hs
  split at hs
  · rename_i s hu
    cases hs
    cases hx
    refine ⟨_, _, _, List.prefix_append E [(w.heap.size, 0)], ⟨_, H.new_get _, rfl⟩, .inl (run_vSem ?_), H.alloc (.stringIter s 0) 0 (.iter s 0) rfl (heap_alloc_new w _)⟩
    simp [Instr.range, run_under hu]
  · cases hs

omit [Val] in
theorem nthB_eq : ∀ (l : List UInt8) (i : Nat), nthB l i = l[i]?
  | [], _ => rfl
  | _ :: _, 0 => rfl
  | _ :: l, i + 1 => (nthB_eq l i).trans (by simp)
omit [Val] in
theorem lenB_eq : ∀ (l : List UInt8), lenB l = l.length
  | [] => rfl
  | _ :: l => congrArg Nat.succ (lenB_eq l)
omit [Val] in
theorem decodeF_eq (s : ByteArray) (pos : Nat) : decodeF s pos = Utf8.decode s pos := by
  unfold decodeF
  rw [nthB_eq]
  cases hb : s.data.toList[pos]? with
  | none => rfl
  | some b =>
    simp only
    split
    · rename_i hlt
      have hlt' : pos < s.size := by
        have := (List.getElem?_eq_some_iff.1 hb).1
        simpa using this
      have e : s.get! pos = b := by
        have h1 : s.data[pos]? = some b := by simpa using hb
        show s.data[pos]! = b
        simp [getElem!_def, h1]
      unfold Utf8.decode
      simp [e, hlt]
    · rfl

theorem fit_next (H : HInv ro base w0 E h w) {ty : TypeId} {x : RV} {u : Value} {q : Bool} {e : Eff} (hx : VRel E x u) (hs : nextOp h x q = some e) :
    Fits ro base w0 E h w ((vSem (Instr.next u q ty)).run P w) e := by
  unfold nextOp at hs
  split at hs
  · rename_i b
    obtain ⟨p, hp, rfl⟩ := hx
    split at hs
    · rename_i s pos hl
      rw [lkp_eq] at hl
      obtain ⟨q, h1, h2, h3⟩ := H.blk1 b _ hl rfl
      rw [hp] at h1
      cases h1
      have h3 : w.heap[p.1]? = some (.stringIter s pos) := h3
      have hlt := (Array.getElem?_eq_some_iff.1 h3).1
      have hgo : ∀ w : World, w.heap[p.1]? = some (.stringIter s pos) → (getObj p.1).run P w = .ok (.stringIter s pos) w := fun w hw => by simp [getObj, Sem.run, hw]
      split at hs
      · rename_i hpos
        rw [lenB_eq, Array.length_toList] at hpos
        have hpos : pos < s.size := hpos
        rw [decodeF_eq] at hs
        obtain ⟨c, wd⟩ : ∃ d, Utf8.decode s pos = d := ⟨_, rfl⟩
        rw [wd] at hs
        cases hs
        have hset : (setObj p.1 (.stringIter s (pos + c.2))).run P w = .ok () { w with heap := w.heap.setIfInBounds p.1 (.stringIter s (pos + c.2)) } := by
          simp [setObj, Sem.run, h3]
        refine ⟨E, _, _, List.prefix_refl E, rfl, .inl (run_vSem ?_), H.write hl hp rfl rfl { w with heap := w.heap.setIfInBounds p.1 (.stringIter s (pos + c.2)) } ⟨rfl, rfl, rfl, by simp, fun k hk => ?_⟩ (fun k hk _ => ?_) ?_⟩
        · simp [Instr.next, hgo w h3, hpos, wd, hset, goInt]
        · rw [Array.getElem?_setIfInBounds_ne (by omega)]
        · rw [Array.getElem?_setIfInBounds_ne (Ne.symm hk)]
        · show (w.heap.setIfInBounds p.1 _)[p.1]? = _
          rw [Array.getElem?_setIfInBounds_self_of_lt hlt]
      · rename_i hpos
        rw [lenB_eq, Array.length_toList] at hpos
        have hpos : ¬ pos < s.size := hpos
        cases hs
        refine ⟨_, rfl, .inl (run_vSem ?_)⟩
        simp [Instr.next, hgo w h3, hpos]
    · cases hs
  · cases hs
end
end Go.Ri
