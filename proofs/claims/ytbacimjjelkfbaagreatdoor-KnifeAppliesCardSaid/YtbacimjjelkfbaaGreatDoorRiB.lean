/- An interpreter for calls whose arguments are closed or names, and its soundness: a part of the proofs. -/
import Derived.Test.YtbacimjjelkfbaaGreatDoorRiA
import Derived.Lib.MakeNoZero
import Derived.Laws.StructEq
namespace Go.Ri
open Go Go.RowKit
variable [Val]

section
variable {P : Program} {ro : Ro} {base : Nat} {w0 : World} {E : Env} {h : RH} {w : World}

def ORel (E : Env) : Option RV → Option Value → Prop
  | none, none => True
  | some r, some v => VRel E r v
  | _, _ => False

theorem bnd_run {x : Option RV} {y : Option Value} {d n : Nat} (hxy : ORel E x y) (hb : bnd x d = some n) :
    (x = none ∧ y = none ∧ n = d) ∨ ∃ k i, y = some (.int k i) ∧ 0 ≤ i ∧ n = i.toNat := by
  unfold bnd at hb
  split at hb
  · cases hb
    cases y with
    | none => exact .inl ⟨rfl, rfl, rfl⟩
    | some v => exact hxy.elim
  · rename_i k i
    split at hb
    · rename_i h0
      cases hb
      cases y with
      | none => exact hxy.elim
      | some v => exact .inr ⟨k, i, by rw [show v = .int k i from hxy], h0, rfl⟩
    · cases hb
  · cases hb

theorem run_bounds {lo hi : Option RV} {lo' hi' : Option Value} {l g n cap : Nat} (isSlice : Bool) (hlo : ORel E lo lo') (hhi : ORel E hi hi') (hl : bnd lo 0 = some l) (hg : bnd hi n = some g)
    (h1 : l ≤ g) (h2 : g ≤ n) (h3 : n ≤ cap) (w : World) : (Instr.sliceBounds isSlice n cap lo' hi' none).run P w = .ok (l, g, cap) w := by
  have eh : (match hi', (none : Option Value) with
      | some v, some _ => Instr.sliceBound v cap .slice3B
      | some v, none => Instr.sliceBound v cap (if isSlice then .sliceAcap else .sliceAlen)
      | none, none => pure n
      | none, some _ => stuck "Slice: max without high" : Sem Nat).run P w = .ok g w := by
    rcases bnd_run hhi hg with ⟨_, rfl, rfl⟩ | ⟨k, i, rfl, h0, rfl⟩
    · rfl
    · have : i ≤ cap := by omega
      simp [Instr.sliceBound, asIntOf, h0, this]
  have el : (match lo' with
      | some v => Instr.sliceBound v g .sliceB
      | none => pure 0 : Sem Nat).run P w = .ok l w := by
    rcases bnd_run hlo hl with ⟨_, rfl, rfl⟩ | ⟨k, i, rfl, h0, rfl⟩
    · rfl
    · have : i ≤ g := by omega
      simp [Instr.sliceBound, asIntOf, h0, this]
  unfold Instr.sliceBounds
  simp only [Sem.run_bind, Sem.run_pure, Result.andThen_ok]
  cases hi' with
  | none =>
    simp only [Sem.run_pure] at eh
    cases eh
    simp only [Sem.run_pure, Result.andThen_ok, Sem.run_bind]
    cases lo' with
    | none =>
      simp only [Sem.run_pure] at el
      cases el
      simp
    | some v =>
      simp only at el
      simp [el]
  | some u =>
    simp only at eh
    simp only [eh, Result.andThen_ok, Sem.run_bind]
    cases lo' with
    | none =>
      simp only [Sem.run_pure] at el
      cases el
      simp
    | some v =>
      simp only at el
      simp [el]

omit [Val] in
theorem div_sub (K o l s : Nat) : (K - o) / s - l = (K - (o + l * s)) / s := by
  by_cases hs : s = 0
  · subst hs; simp
  · rw [← Nat.sub_sub, Nat.mul_comm l s, Nat.sub_mul_div]

theorem capOf_spec (H : HInv ro base w0 E h w) {b o s k : Nat} {c : Option Nat} {p : EP} (hp : E[b]? = some p) (hc : capOf h b o s c = some k) : k = c.getD ((p.2 - o) / s) := by
  unfold capOf at hc
  split at hc
  · cases hc; rfl
  · split at hc
    · rename_i l e froz hl
      cases hc
      rw [lkp_eq] at hl
      obtain ⟨q, h1, h2, cur, fr, h3, h4, h5, h6, h7⟩ := H.blk1 b _ hl rfl
      rw [hp] at h1
      cases h1
      rw [h6 rfl]
      rfl
    · cases hc

theorem fit_slice (H : HInv ro base w0 E h w) {ty : TypeId} {x v : RV} {u : Value} {lo hi mx : Option RV} {lo' hi' mx' : Option Value} (hx : VRel E x u) (hlo : ORel E lo lo') (hhi : ORel E hi hi') (hmx : ORel E mx mx')
    (hs : sliceOp P h ty x lo hi mx = some v) : ∃ r, VRel E v r ∧ ∀ w, (Instr.sliceAt ty u lo' hi' mx').run P w = .ok r w := by
  unfold sliceOp at hs
  split at hs
  · rename_i elem b o n s c hu
    have : mx' = none := by cases mx' with
      | none => rfl
      | some _ => exact hmx.elim
    subst this
    split at hs
    · rename_i l g s' hl hg hsz
      split at hs
      · rename_i hcond
        simp only [Bool.and_eq_true, decide_eq_true_eq] at hcond
        obtain ⟨⟨⟨h1, h2⟩, rfl⟩, h4⟩ := hcond
        obtain ⟨p, k, hp, hk, hnk, rfl⟩ := hx
        have hb := fun w => run_bounds (P := P) true hlo hhi hl hg h1 h2 hnk w
        have hrun : ∀ w, (Instr.sliceAt ty (.slice (some ⟨p.1, o, none⟩) n k) lo' hi' none).run P w =
            .ok (.slice (if k = l then some ⟨p.1, o, none⟩ else some ⟨p.1, o + l * s, none⟩) (g - l) (k - l)) w := by
          intro w
          simp only [Instr.sliceAt, Instr.slice, Sem.run_bind, run_under hu, Result.andThen_ok, hb, run_sizeB hsz, Sem.run_pure]
          split <;> simp [add_lit]
        split at hs
        · rename_i h0
          subst h0
          cases hs
          refine ⟨_, ⟨p, k, hp, hk, by omega, ?_⟩, hrun⟩
          simp
        · rename_i h0
          split at hs
          · rename_i hln
            cases hs
            refine ⟨_, ⟨p, k - l, hp, ?_, by omega, ?_⟩, hrun⟩
            · cases c with
              | none => simp only [Option.map_none, Option.getD_none] at hk ⊢; rw [hk, div_sub]
              | some c => simp only [Option.map_some, Option.getD_some] at hk ⊢; rw [hk]
            · rw [if_neg (by omega)]
          · split at hs
            · rename_i k' hk'
              have hkk := capOf_spec H hp hk'
              rw [← hk] at hkk
              subst hkk
              rw [if_pos hnk] at hs
              by_cases hkl : k' = l
              · rw [if_pos hkl] at hs
                cases hs
                refine ⟨_, ⟨p, 0, hp, rfl, by omega, ?_⟩, hrun⟩
                rw [if_pos hkl, hkl]
                simp
              · rw [if_neg hkl] at hs
                cases hs
                refine ⟨_, ⟨p, k' - l, hp, rfl, by omega, ?_⟩, hrun⟩
                rw [if_neg hkl]
            · cases hs
      · cases hs
    · cases hs
  · rename_i n elem b o hu
    have : mx' = none := by cases mx' with
      | none => rfl
      | some _ => exact hmx.elim
    subst this
    split at hs
    · rename_i l g s hl hg hsz
      split at hs
      · rename_i hcond
        simp only [Bool.and_eq_true, decide_eq_true_eq] at hcond
        obtain ⟨⟨h1, h2⟩, h4⟩ := hcond
        obtain ⟨p, hp, rfl⟩ := hx
        have hb := fun w => run_bounds (P := P) false hlo hhi hl hg h1 h2 (Nat.le_refl n) w
        have hrun : ∀ w, (Instr.sliceAt ty (.pointer (some ⟨p.1, o, none⟩)) lo' hi' none).run P w =
            .ok (.slice (if n = l then some ⟨p.1, o, none⟩ else some ⟨p.1, o + l * s, none⟩) (g - l) (n - l)) w := by
          intro w
          simp only [Instr.sliceAt, Sem.run_bind, run_under hu, Result.andThen_ok, Instr.sureAddr, hb, run_sizeB hsz, Sem.run_pure]
          split <;> simp [add_lit]
        split at hs
        · rename_i hnl
          cases hs
          refine ⟨_, ⟨p, n - l, hp, rfl, by omega, ?_⟩, hrun⟩
          rw [if_pos hnl]
        · rename_i hnl
          cases hs
          refine ⟨_, ⟨p, n - l, hp, rfl, by omega, ?_⟩, hrun⟩
          rw [if_neg hnl]
      · cases hs
    · cases hs
  · cases hs

theorem fit_range (H : HInv ro base w0 E h w) {ty : TypeId} {x : RV} {u : Value} {e : Eff} (hx : VRel E x u) (hs : rangeOp P h ty x = some e) :
    Fits ro base w0 E h w ((vSem (Instr.range ty u)).run P w) e := by
  unfold rangeOp at hs
  split at hs
  · rename_i s hu
    cases hs
    cases hx
    refine ⟨_, _, _, List.prefix_append E [(⟨w.heap.size, 0, undef, .no⟩ : EP)], ⟨_, H.new_get _, rfl⟩, .inl (run_vSem ?_), H.alloc (.stringIter s 0) 0 (.iter s 0) rfl rfl (heap_alloc_new w _)⟩
    simp [Instr.range, run_under hu]
  · cases hs

omit [Val] in
theorem nthB_eq : ∀ (l : List UInt8) (i : Nat), nthB l i = l[i]?
  | [], _ => rfl
  | _ :: _, 0 => rfl
  | _ :: l, i + 1 => (nthB_eq l i).trans (by simp)
omit [Val] in
theorem lenB_eq : ∀ (l : List UInt8), lenB l = l.length
  | [] => rfl
  | _ :: l => congrArg Nat.succ (lenB_eq l)
omit [Val] in
theorem decodeF_eq (s : ByteArray) (pos : Nat) : decodeF s pos = Utf8.decode s pos := by
  unfold decodeF
  rw [nthB_eq]
  cases hb : s.data.toList[pos]? with
  | none => rfl
  | some b =>
    simp only
    split
    · rename_i hlt
      have hlt' : pos < s.size := by
        have := (List.getElem?_eq_some_iff.1 hb).1
        simpa using this
      have e : s.get! pos = b := by
        have h1 : s.data[pos]? = some b := by simpa using hb
        show s.data[pos]! = b
        simp [getElem!_def, h1]
      unfold Utf8.decode
      simp [e, hlt]
    · rfl

theorem fit_next (H : HInv ro base w0 E h w) {ty : TypeId} {x : RV} {u : Value} {q : Bool} {e : Eff} (hx : VRel E x u) (hs : nextOp h x q = some e) :
    Fits ro base w0 E h w ((vSem (Instr.next u q ty)).run P w) e := by
  unfold nextOp at hs
  split at hs
  · rename_i b
    obtain ⟨p, hp, rfl⟩ := hx
    split at hs
    · rename_i s pos hl
      rw [lkp_eq] at hl
      obtain ⟨q, h1, h2, h3⟩ := H.blk1 b _ hl rfl
      rw [hp] at h1
      cases h1
      have h3 : w.heap[p.1]? = some (.stringIter s pos) := h3
      have hlt := (Array.getElem?_eq_some_iff.1 h3).1
      have hgo : ∀ w : World, w.heap[p.1]? = some (.stringIter s pos) → (getObj p.1).run P w = .ok (.stringIter s pos) w := fun w hw => by simp [getObj, Sem.run, hw]
      split at hs
      · rename_i hpos
        rw [lenB_eq, Array.length_toList] at hpos
        have hpos : pos < s.size := hpos
        rw [decodeF_eq] at hs
        obtain ⟨c, wd⟩ : ∃ d, Utf8.decode s pos = d := ⟨_, rfl⟩
        rw [wd] at hs
        cases hs
        have hset : (setObj p.1 (.stringIter s (pos + c.2))).run P w = .ok () { w with heap := w.heap.setIfInBounds p.1 (.stringIter s (pos + c.2)) } := by
          simp [setObj, Sem.run, h3]
        refine ⟨E, _, _, List.prefix_refl E, rfl, .inl (run_vSem ?_), H.write hl hp rfl rfl rfl { w with heap := w.heap.setIfInBounds p.1 (.stringIter s (pos + c.2)) } ⟨rfl, rfl, rfl, by simp, fun k hk => ?_⟩ (fun k hk _ => ?_) ?_⟩
        · simp [Instr.next, hgo w h3, hpos, wd, hset, goInt]
        · rw [Array.getElem?_setIfInBounds_ne (by omega)]
        · rw [Array.getElem?_setIfInBounds_ne (Ne.symm hk)]
        · show (w.heap.setIfInBounds p.1 _)[p.1]? = _
          rw [Array.getElem?_setIfInBounds_self_of_lt hlt]
      · rename_i hpos
        rw [lenB_eq, Array.length_toList] at hpos
        have hpos : ¬ pos < s.size := hpos
        cases hs
        refine ⟨_, rfl, .inl (run_vSem ?_)⟩
        simp [Instr.next, hgo w h3, hpos]
    · cases hs
  · cases hs
end
end Go.Ri

namespace Go.Ri
open Go Go.RowKit
variable [Val]

section
variable {P : Program} {ro : Ro} {base : Nat} {w0 : World} {E : Env} {h : RH} {w : World}

def notInt (d : TypeDesc) : Prop := (∃ e, d = .slice e) ∨ d = .string

omit [Val] in
theorem run_app_room {tS tX ty e : TypeId} {i : TypeInfo} {d : TypeDesc} (ht : P.underlying tS = some (.slice e)) (hX : P.underlying tX = some d) (hd : notInt d) (hi : P.info? e = some i)
    (b : Option Addr) (sLen sCap m : Nat) (u : Value) (vs : List Value) (hlen : (Builtin.lenOf u).run P w = .ok m w) (hf : (Builtin.firstCells i.size m u).run P w = .ok vs.toArray w)
    (hroom : sLen + m ≤ sCap) : (Builtin.append_ #[tS, tX] ty #[.slice b sLen sCap, u]).run P w =
      ((match b with | some a => storeCells (a.add (sLen * i.size)) vs | none => pure () : Sem Unit).run P w).andThen fun _ w' => .ok (.slice b (sLen + m) sCap) w' := by
  rcases hd with ⟨e', rfl⟩ | rfl <;> cases b <;> simp [Builtin.append_, run_under ht, run_under hX, sizeOf, typeInfo, hi, hlen, hroom, hf]

omit [Val] in
theorem run_app_grow {tS tX ty e : TypeId} {i : TypeInfo} {d : TypeDesc} {z : Value} (ht : P.underlying tS = some (.slice e)) (hX : P.underlying tX = some d) (hd : notInt d) (hi : P.info? e = some i) (hz : i.zero = some z)
    (b : Option Addr) (sLen sCap m : Nat) (u : Value) (olds vs : List Value) (hlen : (Builtin.lenOf u).run P w = .ok m w)
    (ho : (Builtin.firstCells i.size sLen (.slice b sLen sCap)).run P w.drew = .ok olds.toArray w.drew) (hf : (Builtin.firstCells i.size m u).run P w.drew = .ok vs.toArray w.drew)
    (hg : sCap < sLen + m) (h63 : sLen + m ≤ 1000000000) (h48 : (sLen + m) * i.bytes ≤ 1000000000) : (Builtin.append_ #[tS, tX] ty #[.slice b sLen sCap, u]).run P w =
      .ok (.slice (some ⟨w.heap.size, 0, none⟩) (sLen + m) (grownCap w (sLen + m) sCap e))
        (w.drew.alloc (.cells (olds.toArray ++ vs.toArray ++ Builtin.zeroCells z.cells (grownCap w (sLen + m) sCap e - (sLen + m))) e)) := by
  have hn : ¬ (sLen + m ≤ sCap) := by omega
  have h63' : ¬ (9223372036854775807 < ((sLen : Int) + (m : Int))) := by omega
  have h48' : ¬ (281474976710656 < Builtin.nextslicecap (sLen + m) sCap * i.bytes) := by
    have := growslice_fits (bytes := i.bytes) hg (by omega)
    omega
  rcases hd with ⟨e', rfl⟩ | rfl <;> simp [Builtin.append_, run_under ht, run_under hX, sizeOf, typeInfo, zeroValue, hi, hz, hlen, hn, h63', h48', Question.forced, ho, hf, newRow, grownCap]
  all_goals (congr 2; apply Array.ext'; simp [List.append_assoc])

theorem bytesR_rel (l : List UInt8) : All2 (VRel E) (l.map fun b => (.pl (.int .u8 b.toNat) : RV)) (l.map fun b => Value.int .u8 b.toNat) :=
  All2.map (R := VRel E) _ _ (fun _ => by simp [VRel]) l

theorem src_spec (H : HInv ro base w0 E h w) {tS tX elem : TypeId} {sz : Nat} {x : RV} {u : Value} {ncs : List RV} {m : Nat} (hx : VRel E x u) (ht : P.underlying tS = some (.slice elem))
    (hs : srcCells P h tS tX elem sz x = some (ncs, m)) :
    ∃ vs, All2 (VRel E) ncs vs ∧ ncs.length = m * sz ∧ (∃ d, P.underlying tX = some d ∧ notInt d) ∧ (∀ w, (Builtin.lenOf u).run P w = .ok m w) ∧
      (∀ w', w'.heap = w.heap → (Builtin.firstCells sz m u).run P w' = .ok vs.toArray w') := by
  unfold srcCells at hs
  split at hs
  · rename_i q n c
    split at hs
    · rename_i hc
      simp only [Bool.and_eq_true, decide_eq_true_eq] at hc
      obtain ⟨rfl, rfl⟩ := hc
      cases hs
      cases hx
      refine ⟨[], .nil, by simp, ⟨_, ht, .inl ⟨_, rfl⟩⟩, fun w => by simp [Builtin.lenOf], fun w' _ => ?_⟩
      cases q with
      | none => simp [Builtin.firstCells]
      | some a => simpa [Builtin.firstCells] using run_loadCells_list (P := P) w' a [] (fun j u hj => by cases hj)
    · cases hs
  · rename_i b o n s c
    split at hs
    · rename_i hc
      simp only [Bool.and_eq_true, decide_eq_true_eq] at hc
      obtain ⟨rfl, rfl⟩ := hc
      obtain ⟨p, k, hp, hk, hnk, rfl⟩ := hx
      cases hg : getCells h b o (n * s) with
      | none => rw [hg] at hs; cases hs
      | some l =>
        rw [hg] at hs
        cases hs
        obtain ⟨q, cur, e, fr, h1, h2, h3, h4, h5, h6⟩ := H.getCells hg
        rw [hp] at h1
        cases h1
        refine ⟨_, h6, h5, ⟨_, ht, .inl ⟨_, rfl⟩⟩, fun w => by simp [Builtin.lenOf], fun w' hw' => ?_⟩
        simp only [Builtin.firstCells]
        have := run_loadCells_list (P := P) w' ⟨p.1, o, none⟩ _ (seg_cells (w := w') (o := o) (n := m * s) (by rw [hw']; exact h2))
        rw [← h6.length, h5] at this
        exact this
    · cases hs
  · rename_i s
    split at hs
    · rename_i hu1 hu2
      split at hs
      · rename_i h1
        subst h1
        cases hs
        cases hx
        have hsz : lenB s.data.toList = s.size := by rw [lenB_eq]; rfl
        refine ⟨s.data.toList.map fun b => .int .u8 b.toNat, bytesR_rel _, by simp [bytesR, lenB_eq], ⟨_, hu1, .inr rfl⟩, fun w => by simp [Builtin.lenOf, hsz], fun w' _ => ?_⟩
        rw [hsz]
        simp only [Builtin.firstCells, Sem.run_pure]
        congr 1
        apply Array.ext'
        simp
      · cases hs
    · cases hs
  · cases hs

/-- A world that differs from one at a single block that no living block of ours is. -/
theorem HInv.loose (H : HInv ro base w0 E h w) {B : Nat} (hno : ∀ b o p, at? h b = some o → E[b]? = some p → p.1 ≠ B) (hni : ∀ b o p, at? h b = some o → o.nest = true → E[b]? = some p → B ∉ p.innP) (hnp : ∀ (i : Nat) p, E[i]? = some p → p.k ≠ .no → p.1 ≠ B) {w' : World} (hb : Below base w w')
    (hother : ∀ k, k ≠ B → k < w.heap.size → w'.heap[k]? = w.heap[k]?) : HInv ro base w0 E h w' :=
  ⟨H.below.trans hb, H.lb, H.len, H.ro, fun b o hbo => by
    obtain ⟨p, h1, h2, h3⟩ := H.blk b o hbo
    exact ⟨p, h1, h2, h3.keep (List.prefix_refl E) (hother _ (hno b o p hbo h1) h3.heap_lt) fun hn q hq => hother _ (fun e => hni b o p hbo hn h1 (e ▸ hq)) (H.frm b o p hbo hn h1 q hq).1⟩, H.inj, fun b o p hbo hn hp q hq => ⟨Nat.lt_of_lt_of_le (H.frm b o p hbo hn hp q hq).1 hb.size, (H.frm b o p hbo hn hp q hq).2⟩,
    fun i p hp => (H.pin i p hp).keep fun hk => hother _ (hnp i p hp hk) ((H.pin i p hp).lt hk)⟩

theorem HInv.unpinned (H : HInv ro base w0 E h w) {b : Nat} {o : RO} {p : EP} (hb : at? h b = some o) (hp : E[b]? = some p) (hw : o.own = true) (hnl : ∀ st pe, o ≠ .lp st pe := by simp) :
    ∀ (i : Nat) q, E[i]? = some q → q.k ≠ .no → q.1 ≠ p.1 := by
  intro i q hq hk e
  obtain ⟨p0, k1, _, k3⟩ := H.blk1 b o hb hw
  rw [hp] at k1
  cases k1
  exact k3.not_pin hnl hw hk e (H.pin i q hq)

theorem HInv.unpinnedC (H : HInv ro base w0 E h w) {k : Nat} {cur : Array Value} {e : TypeId} {fr : Nat × Nat} (hk : w.heap[k]? = some (.cells cur e fr)) : ∀ (i : Nat) q, E[i]? = some q → q.k ≠ .no → q.1 ≠ k := by
  intro i q hq hn e1
  have hp := H.pin i q hq
  unfold PinOK at hp
  rw [e1] at hp
  cases he : q.k with
  | no => exact hn he
  | dfr => rw [he] at hp; have := hk.symm.trans hp; cases this
  | loop L => rw [he] at hp; obtain ⟨st, pe, hs⟩ := hp; have := hk.symm.trans hs; cases this
theorem HInv.no_pin (H : HInv ro base w0 E h w) {b : Nat} {o : RO} {p : EP} (hb : at? h b = some o) (hp : E[b]? = some p) (hw : o.own = true) (hnl : ∀ st pe, o ≠ .lp st pe := by simp) : p.k = .no :=
  Classical.byContradiction fun hk => H.unpinned hb hp hw hnl b p hp hk rfl

theorem HInv.killed_in (H : HInv ro base w0 E h w) {b : Nat} {o : RO} {p : EP} (hb : at? h b = some o) (hp : E[b]? = some p) (hw : o.own = true) :
    ∀ b' o' p', at? (h.set b none) b' = some o' → o'.nest = true → E[b']? = some p' → p.1 ∉ p'.innP := by
  intro b' o' p' h1 hn h2 hq
  by_cases hbb : b = b'
  · subst hbb
    rw [at?_set_same none (at?_lt hb)] at h1
    cases h1
  · rw [at?_set_other none hbb] at h1
    obtain ⟨g1, g2⟩ := H.frm b' o' p' h1 hn h2 _ hq
    obtain ⟨p0, k1, k2, _⟩ := H.blk1 b o hb hw
    rw [hp] at k1
    cases k1
    split at g2
    · exact g2.2 b o p hb hw hp rfl
    · omega
theorem HInv.killed (H : HInv ro base w0 E h w) {b : Nat} {o : RO} {p : EP} (hb : at? h b = some o) (hp : E[b]? = some p) (hw : o.own = true) :
    ∀ b' o' p', at? (h.set b none) b' = some o' → E[b']? = some p' → p'.1 ≠ p.1 := by
  intro b' o' p' h1 h2 e
  by_cases hbb : b = b'
  · subst hbb
    rw [at?_set_same none (at?_lt hb)] at h1
    cases h1
  · rw [at?_set_other none hbb] at h1
    cases hx : o'.own with
    | true => exact hbb (H.inj b b' o o' p p' hb h1 hw hx hp h2 e.symm)
    | false =>
      obtain ⟨p0, g1, g2, _⟩ := H.blk1 b o hb hw
      rw [hp] at g1
      cases g1
      obtain ⟨q0, k1, k2, _⟩ := H.blk b' o' h1
      rw [h2] at k1
      cases k1
      rw [hx, if_neg (by simp)] at k2
      omega

theorem grown_new (H : HInv ro base w0 E h w) {e : TypeId} {z : Array Value} {sz need cap : Nat} {l : List RV} {vs : List Value} (hsz : 0 < sz) (hz : z.size = sz) (hcap : need ≤ cap) (hl : All2 (VRel E) l vs) (hlen : l.length = need * sz) :
    HInv ro base w0 (E ++ [(⟨w.heap.size, cap * sz, undef, .no⟩ : EP)]) (h ++ [some (.cells l e true false)]) (w.drew.alloc (.cells (vs.toArray ++ Builtin.zeroCells z (cap - need)) e)) ∧
      VRel (E ++ [(⟨w.heap.size, cap * sz, undef, .no⟩ : EP)]) (.sl h.length 0 need sz none) (.slice (some ⟨w.heap.size, 0, none⟩) need cap) := by
  have hvl := hl.length
  have hsize : (vs.toArray ++ Builtin.zeroCells z (cap - need)).size = cap * sz := by
    simp only [Array.size_append, List.size_toArray, size_zeroCells, hz, ← hvl, hlen, ← Nat.add_mul]
    congr 1
    omega
  have H' := H.drew.allocCells (vs.toArray ++ Builtin.zeroCells z (cap - need)) e l true (by
    simp only [Array.toList_append]
    rw [hvl, List.take_left]
    exact hl) (fun e => by cases e)
  rw [hsize] at H'
  refine ⟨H', ⟨_, cap, H.new_get _, ?_, hcap, rfl⟩⟩
  simp [Nat.mul_div_cancel _ hsz]

/-- The cells of a part of a block, as they lie. -/
theorem HInv.getCells_seg (H : HInv ro base w0 E h w) {b o n : Nat} {l : List RV} {p : EP} (hg : Ri.getCells h b o n = some l) (hp : E[b]? = some p) :
    ∃ vs, All2 (VRel E) l vs ∧ vs.length = n ∧ ∀ j v, vs[j]? = some v → w.cell? ((⟨p.1, o, none⟩ : Addr).add j) = some v := by
  obtain ⟨q, cur, e, fr, h1, h2, h3, h4, h5, h6⟩ := H.getCells hg
  rw [hp] at h1
  cases h1
  exact ⟨_, h6, by rw [← h6.length, h5], seg_cells h2⟩
theorem fit_append (H : HInv ro base w0 E h w) {argTypes : Array TypeId} {ty : TypeId} {s x : RV} {us u : Value} {e : Eff} (hsr : VRel E s us) (hx : VRel E x u) (hs : appendOp P h argTypes s x = some e) :
    Fits ro base w0 E h w ((vSem (Builtin.append_ argTypes ty #[us, u])).run P w) e := by
  unfold appendOp at hs
  split at hs
  · rename_i tS tX hT
    have hT : argTypes = #[tS, tX] := by
      apply Array.ext'
      rw [hT]
    subst hT
    split at hs
    · rename_i elem ht
      split at hs
      · rename_i i zero hi hz
        split at hs
        · cases hs
        · rename_i hcz
          simp only [Bool.or_eq_true, decide_eq_true_eq, not_or, Decidable.not_not] at hcz
          obtain ⟨hsz0, hzl⟩ := hcz
          have hsz : 0 < i.size := by omega
          obtain ⟨z, hzr, hza⟩ := zero_rel (E := E) hz
          have hzz : z.cells.size = i.size := by rw [← hzl, hza.length, Array.length_toList]
          have hiz : i.zero = some z := by
            have := hzr w
            simp [zeroValue, typeInfo, hi] at this
            split at this
            · rename_i z' hz'; simp at this; rw [hz', this]
            · simp at this
          split at hs
          · rename_i ncs m hsrc
            obtain ⟨vs, hvs, hnl, ⟨d, hd, hnd⟩, hlen, hfirst⟩ := src_spec H hx ht hsrc
            split at hs
            · rename_i hone
              unfold appendTo at hs
              split at hs
              · cases hsr
                split at hs
                · rename_i hm
                  subst hm
                  cases hs
                  have hv0 : vs = [] := by have := hvs.length; simp at hnl; rw [hnl] at this; exact List.eq_nil_of_length_eq_zero this.symm
                  subst hv0
                  refine ⟨_, rfl, .inl (run_vSem ?_)⟩
                  rw [run_app_room ht hd hnd hi none 0 0 0 u [] (hlen w) (hfirst w rfl) (by omega)]
                  rfl
                · rename_i hm
                  split at hs
                  · rename_i hb
                    simp only [Bool.and_eq_true, decide_eq_true_eq] at hb
                    cases hs
                    have hr := run_app_grow (w := w) ht hd hnd hi hiz none 0 0 m u [] vs (ty := ty) (hlen w) (by simp [Builtin.firstCells]) (hfirst w.drew rfl) (by omega) (by omega) (by simpa using hb.1)
                    simp only [Nat.zero_add] at hr
                    obtain ⟨H', hv⟩ := grown_new (e := elem) H hsz hzz (grownCap_ge w m 0 elem) hvs hnl
                    refine ⟨_, _, _, List.prefix_append _ _, hv, .inl (run_vSem hr), ?_⟩
                    simpa using H'
                  · cases hs
              · rename_i b n s'
                obtain ⟨p, k, hp, hk, hnk, rfl⟩ := hsr
                split at hs
                · cases hs
                · rename_i hs'
                  have hs' : s' = i.size := Decidable.not_not.1 hs'
                  subst hs'
                  simp only [Option.getD_none, Nat.sub_zero] at hk
                  split at hs
                  · rename_i hm
                    subst hm
                    cases hs
                    have hv0 : vs = [] := by have := hvs.length; simp at hnl; rw [hnl] at this; exact List.eq_nil_of_length_eq_zero this.symm
                    subst hv0
                    refine ⟨_, ⟨p, k, hp, hk, hnk, rfl⟩, .inl (run_vSem ?_)⟩
                    rw [run_app_room ht hd hnd hi _ n k 0 u [] (hlen w) (hfirst w rfl) (by omega)]
                    simp [storeCells]
                  · rename_i hm
                    unfold appendSl at hs
                    split at hs
                    · rename_i l e' room hl
                      rw [lkp_eq] at hl
                      obtain ⟨q, h1, h2, cur, fr, h3, h4, h5, h6, h7⟩ := H.blk1 b _ hl rfl
                      rw [hp] at h1
                      cases h1
                      have hfr := h7 rfl
                      have hlc := h5.length
                      have hlcur : l.length ≤ cur.size := by simp at hlc; omega
                      have hvl := hvs.length
                      split at hs
                      · cases hs
                      · rename_i he
                        have he : e' = elem := Decidable.not_not.1 he
                        subst he
                        split at hs
                        · rename_i hin
                          cases hput : putCells h b (n * i.size) ncs with
                          | none => rw [hput] at hs; cases hs
                          | some ob =>
                            rw [hput] at hs
                            cases hs
                            obtain ⟨w', hrun, H'⟩ := fit_put (P := P) H hvs hp hput
                            have hroom : n + m ≤ k := by rw [hk, Nat.le_div_iff_mul_le hsz]; omega
                            refine ⟨E, _, w', List.prefix_refl E, ⟨p, k, hp, hk, hroom, rfl⟩, .inl (run_vSem ?_), H'⟩
                            rw [run_app_room ht hd hnd hi _ n k m u vs (hlen w) (hfirst w rfl) hroom]
                            simp only [add_lit, Nat.zero_add, hrun, Result.andThen_ok]
                        · rename_i hin
                          split at hs
                          · rename_i hb
                            simp only [Bool.and_eq_true, decide_eq_true_eq] at hb
                            obtain ⟨⟨hb1, hb2⟩, hb3⟩ := hb
                            have hold : ∀ w' : World, w'.heap = w.heap → (Builtin.firstCells i.size n (.slice (some ⟨p.1, 0, none⟩) n k)).run P w' = .ok (cur.toList.take (n * i.size)).toArray w' := by
                              intro w' hw'
                              simp only [Builtin.firstCells]
                              have := run_loadCells_list (P := P) w' ⟨p.1, 0, none⟩ (cur.toList.take (n * i.size)) (by simpa using seg_cells (w := w') (o := 0) (n := n * i.size) (by rw [hw']; exact h3))
                              rw [List.length_take, Nat.min_eq_left (by simp; omega)] at this
                              exact this
                            have hola : All2 (VRel E) (l.take (n * i.size)) (cur.toList.take (n * i.size)) := by
                              have := h5.take (n * i.size)
                              rwa [List.take_take, Nat.min_eq_left (by omega)] at this
                            have hgrow : ∀ (hg : k < n + m), _ := fun hg => run_app_grow (w := w) ht hd hnd hi hiz (some ⟨p.1, 0, none⟩) n k m u _ vs (ty := ty) (hlen w) (hold w.drew rfl) (hfirst w.drew rfl) hg hb3 hb2
                            have hnlen : (l.take (n * i.size) ++ ncs).length = (n + m) * i.size := by rw [List.length_append, List.length_take, Nat.min_eq_left hb1, hnl, Nat.add_mul]
                            cases room with
                            | false =>
                              cases hs
                              have hK := h6 rfl
                              have hg : k < n + m := by
                                rw [hk, ← hK]
                                exact (Nat.div_lt_iff_lt_mul hsz).2 (by omega)
                              obtain ⟨H', hv⟩ := grown_new (e := e') H hsz hzz (grownCap_ge w (n + m) k e') (hola.append hvs) hnlen
                              refine ⟨_, _, _, List.prefix_append _ _, hv, .inl (run_vSem (hgrow hg)), ?_⟩
                              simpa using H'
                            | true =>
                              simp only at hs
                              split at hs
                              · rename_i htip
                                simp only [Bool.and_eq_true, decide_eq_true_eq] at htip
                                cases hs
                                have hltake : l.take (n * i.size) = l := List.take_of_length_le (by omega)
                                rw [hltake] at hola hnlen
                                by_cases hroom : n + m ≤ k
                                · have hfit : (n + m) * i.size ≤ cur.size := by
                                    rw [h4]
                                    rw [hk] at hroom
                                    exact (Nat.le_div_iff_mul_le hsz).1 hroom
                                  have hst := store_free P p.1 (n * i.size) e' fr vs 0 cur w h3 (h4 ▸ hfr) (by rw [← hvl, hnl, Nat.add_zero, ← Nat.add_mul]; exact hfit) (all_one_rel hvs hone)
                                  simp only [Nat.add_zero] at hst
                                  have hnk := H.no_pin hl hp rfl
                                  have H1 := (H.kill b).loose (H.killed hl hp rfl) (H.killed_in (p := p) hl hp rfl) (H.unpinned hl hp rfl) (below_setRow w p.1 (cur.toList.take (n * i.size) ++ vs ++ cur.toList.drop (n * i.size + vs.length)).toArray h2) (fun k hk _ => setRow_other w p.1 k _ hk)
                                  have H2 := H1.push p (.cells (l ++ ncs) e' true false) rfl rfl h2 (H.killed hl hp rfl) (H.killed_in (p := p) hl hp rfl) ⟨_, fr, setRow_heap w p.1 cur _ e' _ h3, by
                                    rw [List.size_toArray]
                                    simp only [List.length_append, List.length_take, List.length_drop, Array.length_toList]
                                    rw [Nat.min_eq_left (by omega), ← hvl, hnl, ← h4]
                                    rw [Nat.add_mul] at hfit
                                    omega, by
                                    refine All2.ext (List.prefix_append _ _) ?_
                                    have e2 : (l ++ ncs).length = (cur.toList.take (n * i.size) ++ vs).length := by
                                      rw [hnlen, List.length_append, List.length_take, Nat.min_eq_left (by simp; omega), ← hvl, hnl, Nat.add_mul]
                                    rw [e2]
                                    simp only
                                    rw [List.take_left]
                                    exact hola.append hvs, (fun e => by cases e), fun _ => hfr⟩
                                  refine ⟨_, .slice (some ⟨p.1, 0, none⟩) (n + m) k, _, List.prefix_append _ _, ⟨p, k, ?_, by simpa using hk, hroom, rfl⟩, .inl (run_vSem ?_), H2⟩
                                  · rw [H.len]; simp
                                  · rw [run_app_room ht hd hnd hi _ n k m u vs (hlen w) (hfirst w rfl) hroom]
                                    simp only [add_lit, Nat.zero_add, hst, Result.andThen_ok]
                                · have hg : k < n + m := by omega
                                  obtain ⟨H', hv⟩ := grown_new (e := e') (H.kill b) hsz hzz (grownCap_ge w (n + m) k e') (hola.append hvs) hnlen
                                  refine ⟨_, _, _, List.prefix_append E [(⟨w.heap.size, grownCap w (n + m) k e' * i.size, undef, .no⟩ : EP)], ?_, .inl (run_vSem (hgrow hg)), ?_⟩
                                  · simpa using hv
                                  · simpa using H'
                              · cases hs
                          · cases hs
                    · cases hs
              · rename_i b o n s' k
                obtain ⟨p, k', hp, hk, hnk, rfl⟩ := hsr
                simp only [Option.getD_some] at hk
                subst hk
                split at hs
                · rename_i hc
                  obtain ⟨hss, hm, hb1, hb2⟩ := hc
                  subst hss
                  cases hold : Ri.getCells h b o (n * i.size) with
                  | none => rw [hold] at hs; cases hs
                  | some old =>
                    rw [hold] at hs
                    cases hs
                    obtain ⟨olds, ho1, ho2, ho3⟩ := H.getCells_seg hold hp
                    have hfc : (Builtin.firstCells i.size n (.slice (some ⟨p.1, o, none⟩) n k')).run P w.drew = .ok olds.toArray w.drew := by
                      simp only [Builtin.firstCells]
                      have := run_loadCells_list (P := P) w.drew ⟨p.1, o, none⟩ olds (fun j v hj => ho3 j v hj)
                      rw [ho2] at this
                      exact this
                    have hr := run_app_grow (w := w) ht hd hnd hi hiz (some ⟨p.1, o, none⟩) n k' m u olds vs (ty := ty) (hlen w) hfc (hfirst w.drew rfl) hm hb2 hb1
                    obtain ⟨H', hv⟩ := grown_new (e := elem) H hsz hzz (grownCap_ge w (n + m) k' elem) (ho1.append hvs) (by rw [List.length_append, ho1.length, ho2, hnl, Nat.add_mul])
                    refine ⟨_, _, _, List.prefix_append _ _, hv, .inl (run_vSem hr), ?_⟩
                    simpa using H'
                · cases hs
              · cases hs
            · cases hs
          · cases hs
      · cases hs
    · cases hs
  · cases hs
end
end Go.Ri

namespace Go.Ri
open Go Go.RowKit
variable [Val]

section
variable {P : Program} {ro : Ro} {base : Nat} {w0 : World} {E : Env} {h : RH} {w : World}

theorem fit_copy (H : HInv ro base w0 E h w) {argTypes : Array TypeId} {ty : TypeId} {d x : RV} {ud u : Value} {e : Eff} (hd : VRel E d ud) (hx : VRel E x u) (hs : copyOp P h argTypes d x = some e) :
    Fits ro base w0 E h w ((vSem (Builtin.copy_ argTypes ty #[ud, u])).run P w) e := by
  unfold copyOp at hs
  split at hs
  · rename_i tD rest hT
    have hT0 : argTypes[0]? = some tD := by
      have : argTypes.toList[0]? = some tD := by rw [hT]; rfl
      simpa using this
    split at hs
    · rename_i elem ht
      split at hs
      · rename_i sz hsz
        split at hs
        · rename_i b o n s c b2 o2 n2 s2 c2
          split at hs
          · rename_i hc
            simp only [Bool.and_eq_true, decide_eq_true_eq] at hc
            obtain ⟨rfl, rfl⟩ := hc
            obtain ⟨p, k, hp, hk, hnk, rfl⟩ := hd
            obtain ⟨p2, k2, hp2, hk2, hnk2, rfl⟩ := hx
            cases hg : getCells h b2 o2 (Nat.min n2 n * s2) with
            | none => rw [hg] at hs; cases hs
            | some l =>
              rw [hg] at hs
              simp only [Option.bind_some] at hs
              cases hput : putCells h b o l with
              | none => rw [hput] at hs; cases hs
              | some ob =>
                rw [hput] at hs
                cases hs
                obtain ⟨q, cur, e, fr, h1, h2, h3, h4, h5, h6⟩ := H.getCells hg
                rw [hp2] at h1
                cases h1
                obtain ⟨w', hrun, H'⟩ := fit_put (P := P) H h6 hp hput
                have hl := run_loadCells_list (P := P) w ⟨p2.1, o2, none⟩ _ (seg_cells (w := w) (o := o2) (n := Nat.min n2 n * s2) h2)
                rw [← h6.length, h5] at hl
                refine ⟨E, _, w', List.prefix_refl E, rfl, .inl (run_vSem ?_), H'⟩
                simp only [Builtin.copy_, hT0]
                simp [run_under ht, Builtin.lenOf, Builtin.firstCells, run_sizeB hsz, hl, hrun]
          · cases hs
        · cases hs
          cases hx
          obtain ⟨p, k, hp, hk, hnk, rfl⟩ := hd
          refine ⟨_, rfl, .inl (run_vSem ?_)⟩
          simp only [Builtin.copy_, hT0]
          simp [run_under ht, Builtin.lenOf, Builtin.firstCells, run_sizeB hsz, storeCells]
        · rename_i b o n s c q
          split at hs
          · rename_i hc
            simp only [Bool.and_eq_true, decide_eq_true_eq] at hc
            obtain ⟨rfl, rfl⟩ := hc
            obtain ⟨p, k, hp, hk, hnk, rfl⟩ := hd
            cases hx
            cases htk : takeN (Nat.min (lenB q.data.toList) n) (bytesR q) with
            | none => rw [htk] at hs; cases hs
            | some l =>
              rw [htk] at hs
              simp only [Option.bind_some] at hs
              cases hput : putCells h b o l with
              | none => rw [hput] at hs; cases hs
              | some ob =>
                rw [hput] at hs
                cases hs
                have hql : lenB q.data.toList = q.size := by rw [lenB_eq]; rfl
                rw [hql] at htk
                obtain ⟨_, rfl⟩ := takeN_eq _ _ _ htk
                have hrel : All2 (VRel E) ((bytesR q).take (Nat.min q.size n)) ((q.data.toList.take (Nat.min q.size n)).map fun b => Value.int .u8 b.toNat) := by
                  have := bytesR_rel (E := E) (q.data.toList.take (Nat.min q.size n))
                  rw [List.map_take] at this
                  exact this
                obtain ⟨w', hrun, H'⟩ := fit_put (P := P) H hrel hp hput
                refine ⟨E, _, w', List.prefix_refl E, rfl, .inl (run_vSem ?_), H'⟩
                rw [hql]
                have hex : ((q.extract 0 (Nat.min q.size n)).data.map fun b => Value.int .u8 b.toNat).toList = (q.data.toList.take (Nat.min q.size n)).map fun b => Value.int .u8 b.toNat := by
                  simp
                simp only [Builtin.copy_, hT0]
                simp only [List.getElem?_toArray, List.getElem?_cons_zero, List.getElem?_cons_succ, Sem.run_bind, run_under ht, Result.andThen_ok, Builtin.lenOf, Sem.run_pure, Builtin.firstCells, run_sizeB hsz, hex, hrun]
          · cases hs
        · cases hs
      · cases hs
    · cases hs
  · cases hs

theorem fit_clear (H : HInv ro base w0 E h w) {argTypes : Array TypeId} {ty : TypeId} {x : RV} {u : Value} {e : Eff} (hx : VRel E x u) (hs : clearOp P h argTypes x = some e) :
    Fits ro base w0 E h w ((vSem (Builtin.clear_ argTypes ty #[u])).run P w) e := by
  unfold clearOp at hs
  split at hs
  · rename_i tD rest hT
    have hT0 : argTypes[0]? = some tD := by
      have : argTypes.toList[0]? = some tD := by rw [hT]; rfl
      simpa using this
    split at hs
    · rename_i elem b o n s c ht
      obtain ⟨p, k, hp, hk, hnk, rfl⟩ := hx
      split at hs
      · rename_i zero hz
        obtain ⟨z, hzrun, hzr⟩ := zero_rel (E := E) hz
        split at hs
        · rename_i hn
          obtain rfl := Nat.eq_of_beq_eq_true hn
          cases hs
          refine ⟨_, rfl, .inl (run_vSem ?_)⟩
          simp only [Builtin.clear_, hT0]
          simp [run_under ht]
        · rename_i hn
          split at hs
          · rename_i hl
            have hl1 := Nat.le_of_ble_eq_true hl
            obtain ⟨m, hm⟩ : ∃ m, zero.length = m + 1 := ⟨zero.length - 1, by omega⟩
            cases hput : putCells h b o (rep n zero) with
            | none => rw [hput] at hs; cases hs
            | some ob =>
              rw [hput] at hs
              cases hs
              have hr := rep_rel hzr n m hm
              have hzs : z.cells.size = m + 1 := by
                have := hzr.length
                rw [hm] at this
                simpa using this.symm
              obtain ⟨w', hrun, H'⟩ := fit_put (P := P) H hr hp hput
              refine ⟨E, _, w', List.prefix_refl E, rfl, .inl (run_vSem ?_), H'⟩
              have hn0 : n ≠ 0 := fun e => by rw [e, Nat.beq_refl] at hn; cases hn
              obtain ⟨n', rfl⟩ : ∃ k, n = k + 1 := ⟨n - 1, by omega⟩
              simp only [Builtin.clear_, hT0]
              simp only [List.getElem?_toArray, List.getElem?_cons_zero, Sem.run_bind, run_under ht, Result.andThen_ok, hzrun, Builtin.zeroCells, hzs, Sem.run_pure]
              rw [hzs] at hrun
              rw [hrun]
              rfl
          · cases hs
      · cases hs
    · cases hs
  · cases hs
omit [Val] in
theorem toList_one {α : Type} {a : Array α} {x : α} (h : a.toList = [x]) : a = #[x] := by
  apply Array.ext'
  rw [h]

omit [Val] in
theorem fit_lenS {argTypes : Array TypeId} {ty t : TypeId} {s : ByteArray} (hT : argTypes.toList = [t]) (hu : P.underlying t = some .string) (w : World) :
    (Builtin.len_ argTypes ty #[.string s]).run P w = .ok (goInt (lenB s.data.toList)) w := by
  rw [toList_one hT, lenB_eq]
  simp [Builtin.len_, run_under hu]

theorem fit_conv (H : HInv ro base w0 E h w) {sT dT : TypeId} {x v : RV} {u : Value} (hx : VRel E x u) (hs : unsafeConv P h sT dT x = some v) :
    ∃ r, VRel E v r ∧ (convert sT dT u).run P w = .ok r w := by
  unfold unsafeConv at hs
  split at hs
  · rename_i t b o hu1 hu2
    obtain ⟨p, hp, rfl⟩ := hx
    split at hs
    · rename_i n l e room froz hsz hl
      rw [lkp_eq] at hl
      obtain ⟨q, h1, h2, cur, fr, h3, h4, h5, h6, h7⟩ := H.blk1 b _ hl rfl
      rw [hp] at h1
      cases h1
      split at hs
      · rename_i ho
        cases hs
        have hlc := h5.length
        have hoc : o < cur.size := by simp at hlc; omega
        refine ⟨_, ⟨p, hp, rfl⟩, ?_⟩
        have hshape : w.shape? p.1 = some (e, cur.size) := by simp [World.shape?, h3]
        have hno : ¬ (cur.size ≤ o) := by omega
        simp [convert, run_under hu1, run_under hu2, Conv.unsafePointer, Conv.seenAt, viewAt, hshape, cellsIn, run_sizeB hsz, hno]
      · cases hs
    · cases hs
  · rename_i u b o hu1 hu2
    obtain ⟨p, hp, rfl⟩ := hx
    split at hs
    · rename_i l e froz hl
      rw [lkp_eq] at hl
      obtain ⟨q, h1, h2, cur, fr, h3, h4, h5, h6, h7⟩ := H.blk1 b _ hl rfl
      rw [hp] at h1
      cases h1
      split at hs
      · rename_i hlies
        cases hs
        have hK := h6 rfl
        refine ⟨_, ⟨p, hp, rfl⟩, ?_⟩
        have hshape : w.shape? p.1 = some (e, cur.size) := by simp [World.shape?, h3]
        simp only [Bool.and_eq_true] at hlies
        obtain ⟨hsz, hlies⟩ := hlies
        obtain ⟨sz, hsz⟩ := Option.isSome_iff_exists.1 hsz
        rw [hK, ← h4] at hlies
        have hvar : (variablesAt ⟨p.1, o, none⟩ u 1).run P w = .ok true w := by
          unfold variablesAt
          simp [hshape, hlies]
        simp [convert, run_under hu1, run_under hu2, Conv.unsafePointer, Conv.seenAt, viewAt, hshape, run_sizeB hsz, hvar]
      · cases hs
    · cases hs
  · cases hs

theorem strOf_rel {l : List RV} {vs : List Value} {s : List UInt8} (hl : All2 (VRel E) l vs) (hs : strOf l = some s) : ∃ ns : List Int, vs = ns.map (Value.int .u8) ∧ s = ns.map fun n => UInt8.ofNat n.toNat := by
  induction hl generalizing s with
  | nil => cases hs; exact ⟨[], rfl, rfl⟩
  | @cons r v l vs hr _ ih =>
    unfold strOf at hs
    split at hs
    · rename_i b q hb hq
      cases hs
      obtain ⟨ns, h1, h2⟩ := ih hq
      unfold byteOfR at hb
      split at hb
      · rename_i n
        cases hb
        cases hr
        exact ⟨n :: ns, by simp [h1], by simp [h2]⟩
      · cases hb
    · cases hs

omit [Val] in
theorem rowAt_flat {fits : TypeId → Bool} {e : TypeId} {count o n d : Nat} (hc : P.cellsOf e = 1) (hf : fits e = true) (hle : o + n ≤ count) : rowAt P fits (d + 1) e count o n = true := by
  unfold rowAt
  simp [hc, hf, hle, Nat.mod_one]

omit [Val] in
theorem run_loadBytes (b o : Nat) (cur : Array Value) (e : TypeId) (fr : Nat × Nat) (hg : w.heap[b]? = some (.cells cur e fr)) : ∀ (ns : List Int) (k : Nat) (acc : ByteArray),
    (∀ j n, ns[j]? = some n → cur[o + k + j]? = some (.int .u8 n)) →
    (loadBytes ⟨b, o + k, none⟩ acc ns.length).run P w = .ok ⟨(acc.data.toList ++ ns.map fun n => UInt8.ofNat n.toNat).toArray⟩ w
  | [], k, acc, _ => by simp [loadBytes]
  | n :: ns, k, acc, hc => by
    have h0 := hc 0 n (by simp)
    have hcell : w.cell? ⟨b, o + k, none⟩ = some (.int .u8 n) := by rw [cell_of_row w b (o + k) cur e fr hg]; simpa using h0
    have ih := run_loadBytes b o cur e fr hg ns (k + 1) (acc.push n.toNat.toUInt8) (fun j m hm => by
      have := hc (j + 1) m (by simpa using hm)
      rw [← this]; congr 1; omega)
    simp only [List.length_cons, loadBytes, Sem.run_bind, run_load, hcell, Result.andThen_ok, add_lit]
    rw [show o + k + 1 = o + (k + 1) from rfl, ih]
    congr 1
    simp [ByteArray.push]

/-- What is told of strings of named bytes. -/
def MSok (M : List RV → Option RV) : Prop := ∀ l r, M l = some r → ∀ (E : Env) vs, All2 (VRel E) l vs → ∃ ns : List Int, vs = ns.map (Value.int .u8) ∧ VRel E r (.string ⟨(ns.map fun n => UInt8.ofNat n.toNat).toArray⟩)
theorem strM_rel {M : List RV → Option RV} (hM : MSok M) {l : List RV} {vs : List Value} {r : RV} (hl : All2 (VRel E) l vs) (hs : strM M l = some r) : ∃ ns : List Int, vs = ns.map (Value.int .u8) ∧ VRel E r (.string ⟨(ns.map fun n => UInt8.ofNat n.toNat).toArray⟩) := by
  unfold strM at hs
  split at hs
  · rename_i s hst
    cases hs
    obtain ⟨ns, e1, e2⟩ := strOf_rel hl hst
    exact ⟨ns, e1, by rw [e2]; rfl⟩
  · exact hM l r hs E vs hl
theorem fit_string {M : List RV → Option RV} (hM : MSok M) (H : HInv ro base w0 E h w) {argTypes : Array TypeId} {ty : TypeId} {x l : RV} {u ul : Value} {e : Eff} (hx : VRel E x u) (hl : VRel E l ul) (hs : unsafeStringOp P M h argTypes x l = some e) :
    Fits ro base w0 E h w ((vSem (Builtin.unsafeString_ argTypes ty #[u, ul])).run P w) e := by
  unfold unsafeStringOp at hs
  split at hs
  · rename_i b o k n pt rest hT
    have hT0 : argTypes[0]? = some pt := by
      have : argTypes.toList[0]? = some pt := by rw [hT]; rfl
      simpa using this
    obtain ⟨p, hp, rfl⟩ := hx
    cases hl
    split at hs
    · rename_i ue cs e room froz hu hlk
      rw [lkp_eq] at hlk
      obtain ⟨q, h1, h2, cur, fr, h3, h4, h5, h6, h7⟩ := H.blk1 b _ hlk rfl
      rw [hp] at h1
      cases h1
      split at hs
      · rename_i hc
        simp only [Bool.and_eq_true, decide_eq_true_eq, beq_iff_eq] at hc
        obtain ⟨⟨⟨hn0, hn1⟩, hid⟩, hc1⟩ := hc
        split at hs
        · rename_i sg hg
          cases hst : strM M sg with
          | none => rw [hst] at hs; cases hs
          | some s =>
            rw [hst] at hs
            cases hs
            obtain ⟨q, cur', e', fr', g1, g2, g3, g4, g5, g6⟩ := H.getCells hg
            rw [hp] at g1
            cases g1
            rw [h3] at g2
            cases g2
            obtain ⟨ns, e1, e2⟩ := strM_rel hM g6 hst
            have hnl : ns.length = n.toNat := by
              have := congrArg List.length e1
              rw [← g6.length, g5] at this
              simpa using this.symm
            have hrun := run_loadBytes (P := P) (w := w) p.1 o cur e fr h3 ns 0 .empty (fun j m hm => by
              have : (ns.map (Value.int .u8))[j]? = some (.int .u8 m) := by simp [hm]
              rw [← e1, List.getElem?_take] at this
              split at this
              · simpa using this
              · cases this)
            simp only [Nat.add_zero, hnl] at hrun
            have hshape : w.shape? p.1 = some (e, cur.size) := by simp [World.shape?, h3]
            have hdep : ∃ d, P.depth = d + 1 := ⟨2 * (P.types.size + Made.depth) + 1, rfl⟩
            obtain ⟨dd, hdd⟩ := hdep
            have hlies : liesAt P P.depth e (cur.size / P.cellsOf e) o ue n.toNat = true := by
              have hrow : rowAt P (fun t => sameLayout P P.depth t ue) P.depth e cur.size o n.toNat = true := by
                rw [hdd]
                exact rowAt_flat hc1 (by rw [← hdd, hdd]; unfold sameLayout; simp [hid]) g4
              rw [hc1, Nat.div_one]
              unfold liesAt
              rw [hdd] at hrow ⊢
              simp only
              rw [hrow]
              rfl
            have hw' : ∀ k, k ≠ p.1 → (w.freeze ⟨p.1, o, none⟩ n.toNat).heap[k]? = w.heap[k]? := by
              intro k hk
              unfold World.freeze
              split
              · rfl
              · simp [Array.getElem?_modify, Ne.symm hk]
            have hsize : (w.freeze ⟨p.1, o, none⟩ n.toNat).heap.size = w.heap.size := by
              unfold World.freeze
              split <;> simp
            have hself : ∃ fr', (w.freeze ⟨p.1, o, none⟩ n.toNat).heap[p.1]? = some (.cells cur e fr') := by
              unfold World.freeze
              split
              · exact ⟨fr, h3⟩
              · obtain ⟨lo, hi⟩ := fr
                simp only [Array.getElem?_modify, if_true, h3, Option.map_some]
                exact ⟨_, rfl⟩
            obtain ⟨fr2, hself⟩ := hself
            have hbel : Below base w (w.freeze ⟨p.1, o, none⟩ n.toNat) := by
              refine ⟨?_, ?_, ?_, by omega, fun k hk => hw' k (by omega)⟩ <;> (unfold World.freeze; split <;> rfl)
            refine ⟨E, .string ⟨(ns.map fun n => UInt8.ofNat n.toNat).toArray⟩, _, List.prefix_refl E, e2, .inl (run_vSem ?_), H.write hlk hp rfl rfl rfl (w.freeze ⟨p.1, o, none⟩ n.toNat) hbel (fun k hk _ => hw' k hk) ⟨cur, fr2, hself, h4, h5, h6, fun e => by cases e⟩⟩
            have hn2 : ¬ (n < 0) := by omega
            have hn3 : ¬ (9223372036854775807 < n) := by omega
            have hn4 : n ≠ 0 := by omega
            have hvar : (variablesAt ⟨p.1, o, none⟩ ue n.toNat).run P w = .ok true w := by
              unfold variablesAt
              simp [hshape, hlies]
            have hdef : Builtin.unsafeString_ argTypes ty #[.pointer (some ⟨p.1, o, none⟩), .int k n] =
                (do
                  let n ← asInt (.int k n)
                  let some pt := argTypes[0]? | stuck "unsafe.String: no argument types"
                  if n < 0 then runtimePanic (.error "unsafe.String: len out of range")
                  if n > IntKind.i64.max then unsupported (.unsafePointer "String: a length above the largest int")
                  if n = 0 then pure (.string .empty)
                  else if ← variablesAt ⟨p.1, o, none⟩ (← elemOf pt) n.toNat then do
                    let s ← loadBytes ⟨p.1, o, none⟩ .empty n.toNat
                    freeze ⟨p.1, o, none⟩ n.toNat
                    pure (.string s)
                  else unsupported (.unsafePointer "String: not so many bytes at ptr")) := rfl
            rw [hdef]
            have hmax : IntKind.i64.max = 9223372036854775807 := rfl
            simp [asInt, asIntOf, hT0, hn2, hn4, hmax, hn3, elemOf, run_under hu, hvar, hrun]
        · cases hs
      · cases hs
    · cases hs
  · cases hs
end
end Go.Ri

namespace Go.Ri
open Go Go.RowKit
variable [Val]

structure CfgOK (P : Program) (g : Cfg) : Prop where
  ne : ∀ f, g.ne.contains f = true → ∀ x w, (callFunc f #[x]).run P w = .ok (.value x) w
  mz : ∀ f e, g.mz.lookup f = some e → ∀ (n : Int) (w : World), 0 ≤ n → n ≤ 1000000000 → ∃ (cs : Array Value) (k : Nat),
    (callFunc f #[.int .i64 n]).run P w = .ok (.value (.slice (some ⟨w.heap.size, 0, none⟩) n.toNat cs.size)) ((w.drewN k).alloc (.cells cs e)) ∧ n.toNat ≤ cs.size

section
variable {P : Program} {g : Cfg} {ro : Ro} {base : Nat} {w0 : World} {E : Env} {h : RH} {w : World}

theorem HInv.drewN (H : HInv ro base w0 E h w) (n : Nat) : HInv ro base w0 E h (w.drewN n) :=
  ⟨⟨H.below.os, H.below.tape, H.below.output, H.below.size, H.below.block⟩, H.lb, H.len, H.ro, H.blk, H.inj, H.frm, fun i p hp => (H.pin i p hp).keep fun _ => rfl⟩

theorem fit_extern0 (G : CfgOK P g) (H : HInv ro base w0 E h w) {f : FuncId} {args : List RV} {vs : List Value} {e : Eff} (ha : All2 (VRel E) args vs) (hs : externOp0 g h f args = some e) :
    Fits ro base w0 E h w ((callFunc f vs.toArray).run P w) e := by
  unfold externOp0 at hs
  split at hs
  · rename_i hne
    split at hs
    · cases hs
      cases ha with
      | cons hx hn =>
        cases hn
        exact ⟨_, hx, .inl (G.ne f hne _ w)⟩
    · cases hs
  · split at hs
    · rename_i elem n hmz
      split at hs
      · rename_i hc
        simp only [Bool.and_eq_true, decide_eq_true_eq] at hc
        cases hs
        cases ha with
        | cons hx hn =>
          cases hn
          cases hx
          obtain ⟨cs, k, hrun, hle⟩ := G.mz f elem hmz n w hc.1 hc.2
          have H' := (H.drewN k).allocCells cs elem [] true .nil (fun e => by cases e)
          refine ⟨_, _, _, List.prefix_append E [(⟨w.heap.size, cs.size, undef, .no⟩ : EP)], ⟨_, cs.size, H.new_get _, ?_, hle, rfl⟩, .inl hrun, H'⟩
          simp
      · cases hs
    · cases hs

omit [Val] in
theorem isBody_true {f : FuncId} (hb : isBodyName P f = some true) (args : Array Value) (w : World) : (callFunc f args).run P w = .ok (.enter f args) w := by
  unfold isBodyName at hb
  cases hf : P.funcs[f]? with
  | none => rw [hf] at hb; cases hb
  | some fn =>
    rw [hf] at hb
    simp at hb
    obtain ⟨h1, h2⟩ := hb
    cases hbd : fn.body with
    | none => rw [hbd] at h1; cases h1
    | some c => simp [callFunc, hf, h2, hbd]

omit [Val] in
theorem eqIn_ptr (d : Nat) {ty e : TypeId} {n : Nat} (hu : P.underlying ty = some (.pointer e)) (hsz : sizeB P e = some (n + 1)) (b o o' : Nat) (w : World) :
    (Op.equalIn (d + 1) ty (.pointer (some ⟨b, o, none⟩)) (.pointer (some ⟨b, o', none⟩))).run P w = .ok (o == o') w := by
  have hbeq : ((⟨b, o, none⟩ : Addr) == ⟨b, o', none⟩) = (o == o') := by
    rw [Bool.eq_iff_iff]; simp
  simp [Op.equalIn, run_under hu, run_sizeB hsz, sameAddr, hbeq]
omit [Val] in
theorem eqIn_nil1 (d : Nat) {ty e : TypeId} (hu : P.underlying ty = some (.pointer e)) (a : Addr) (w : World) : (Op.equalIn (d + 1) ty (.pointer none) (.pointer (some a))).run P w = .ok false w := by
  simp [Op.equalIn, run_under hu]
omit [Val] in
theorem eqIn_nil2 (d : Nat) {ty e : TypeId} (hu : P.underlying ty = some (.pointer e)) (a : Addr) (w : World) : (Op.equalIn (d + 1) ty (.pointer (some a)) (.pointer none)).run P w = .ok false w := by
  simp [Op.equalIn, run_under hu]
omit [Val] in
theorem eqIn_sl1 (d : Nat) {ty e : TypeId} (hu : P.underlying ty = some (.slice e)) (a : Addr) (n c n' c' : Nat) (w : World) : (Op.equalIn (d + 1) ty (.slice none n c) (.slice (some a) n' c')).run P w = .ok false w := by
  simp [Op.equalIn, run_under hu]
omit [Val] in
theorem eqIn_sl2 (d : Nat) {ty e : TypeId} (hu : P.underlying ty = some (.slice e)) (a : Addr) (n c n' c' : Nat) (w : World) : (Op.equalIn (d + 1) ty (.slice (some a) n c) (.slice none n' c')).run P w = .ok false w := by
  simp [Op.equalIn, run_under hu]
omit [Val] in
theorem eqIn_fn1 (d : Nat) {ty : TypeId} {ps rs : Array TypeId} {v : Bool} (hu : P.underlying ty = some (.func ps rs v)) (f : Fn) (a c : Array Value) (w : World) : (Op.equalIn (d + 1) ty .nilFunc (.func f a c)).run P w = .ok false w := by
  simp [Op.equalIn, run_under hu]
omit [Val] in
theorem eqIn_fn2 (d : Nat) {ty : TypeId} {ps rs : Array TypeId} {v : Bool} (hu : P.underlying ty = some (.func ps rs v)) (f : Fn) (a c : Array Value) (w : World) : (Op.equalIn (d + 1) ty (.func f a c) .nilFunc).run P w = .ok false w := by
  simp [Op.equalIn, run_under hu]

omit [Val] in
theorem eqIn_if1 (d : Nat) {ty : TypeId} {ms : Array (String × TypeId)} (hu : P.underlying ty = some (.interface ms)) (t : TypeId) (v : Value) (w : World) : (Op.equalIn (d + 1) ty (.iface t v) .nilIface).run P w = .ok false w := by
  simp [Op.equalIn, run_under hu]
omit [Val] in
theorem eqIn_if2 (d : Nat) {ty : TypeId} {ms : Array (String × TypeId)} (hu : P.underlying ty = some (.interface ms)) (t : TypeId) (v : Value) (w : World) : (Op.equalIn (d + 1) ty .nilIface (.iface t v)).run P w = .ok false w := by
  simp [Op.equalIn, run_under hu]

omit [Val] in
theorem guard_other {op : BinOp} {ty : TypeId} {a b : Operand} {u v : Value} (h : ∀ xs ys, ¬ (u = .agg xs ∧ v = .agg ys)) (h' : ¬ (u = .nilIface ∧ v = .nilIface)) (w : World) : (eqGuard op ty a b u v).run P w = .ok () w := by
  have key : (match (generalizing := false) u, v with
    | .nilIface, .nilIface => false
    | .agg _, .agg _ => false
    | _, _ => true) = true := by
    split
    · exact absurd ⟨rfl, rfl⟩ h'
    · exact absurd ⟨rfl, rfl⟩ (h _ _)
    · rfl
  cases u <;> first
    | (cases op <;> rfl)
    | (cases v <;> first
        | (simp at key; done)
        | (cases op <;> rfl))

theorem fit_ref (_ : HInv ro base w0 E h w) {op : BinOp} {ty : TypeId} {x y : RV} {u v : Value} {a b : Operand} {e : Eff} (hx : VRel E x u) (hy : VRel E y v) (hs : binRef P op ty x y = some e) :
    Fits ro base w0 E h w ((vSem (do eqGuard op ty a b u v; binOp op ty u v)).run P w) e := by
  have key : ∀ q, eqlOp P ty x y = some q → (∀ op, (eqGuard op ty a b u v).run P w = .ok () w) ∧ (Op.equal ty u v).run P w = .ok q w ∧
      binOp .eql ty u v = (do let r ← Op.equal ty u v; pure (.bool r)) ∧ binOp .neq ty u v = (do let r ← Op.equal ty u v; pure (.bool !r)) := by
    clear hs
    intro q hs
    unfold eqlOp at hs
    split at hs
    · rename_i e b o b' o' hu
      split at hs
      · rename_i n hsz
        split at hs
        · rename_i hbb
          subst hbb
          cases hs
          obtain ⟨p, hp, rfl⟩ := hx
          obtain ⟨p', hp', rfl⟩ := hy
          rw [hp] at hp'
          cases hp'
          exact ⟨fun op => guard_other (by simp) (by simp) w, eqIn_ptr 9999 hu hsz _ _ _ w, rfl, rfl⟩
        · cases hs
      · cases hs
    · rename_i e b o hu
      cases hs
      cases hx
      obtain ⟨p, hp, rfl⟩ := hy
      exact ⟨fun op => guard_other (by simp) (by simp) w, eqIn_nil1 9999 hu _ w, rfl, rfl⟩
    · rename_i e b o hu
      cases hs
      cases hy
      obtain ⟨p, hp, rfl⟩ := hx
      exact ⟨fun op => guard_other (by simp) (by simp) w, eqIn_nil2 9999 hu _ w, rfl, rfl⟩
    · rename_i e n c b o m s c' hu
      cases hs
      cases hx
      obtain ⟨p, k, hp, hk, hnk, rfl⟩ := hy
      exact ⟨fun op => guard_other (by simp) (by simp) w, eqIn_sl1 9999 hu _ _ _ _ _ w, rfl, rfl⟩
    · rename_i e b o m s c' n c hu
      cases hs
      cases hy
      obtain ⟨p, k, hp, hk, hnk, rfl⟩ := hx
      exact ⟨fun op => guard_other (by simp) (by simp) w, eqIn_sl2 9999 hu _ _ _ _ _ w, rfl, rfl⟩
    · rename_i p r vr f a c hu
      cases hs
      cases hx
      obtain ⟨a', c', rfl, h1, h2⟩ := hy
      exact ⟨fun op => guard_other (by simp) (by simp) w, eqIn_fn1 9999 hu _ _ _ w, rfl, rfl⟩
    · rename_i p r vr f a c hu
      cases hs
      cases hy
      obtain ⟨a', c', rfl, h1, h2⟩ := hx
      exact ⟨fun op => guard_other (by simp) (by simp) w, eqIn_fn2 9999 hu _ _ _ w, rfl, rfl⟩
    · rename_i ms b t hu
      cases hs
      cases hy
      obtain ⟨p, hp, rfl⟩ := hx
      exact ⟨fun op => guard_other (by simp) (by simp) w, eqIn_if1 9999 hu _ _ w, rfl, rfl⟩
    · rename_i ms b t hu
      cases hs
      cases hx
      obtain ⟨p, hp, rfl⟩ := hy
      exact ⟨fun op => guard_other (by simp) (by simp) w, eqIn_if2 9999 hu _ _ w, rfl, rfl⟩
    · cases hs
  unfold binRef at hs
  split at hs
  · cases hq : eqlOp P ty x y with
    | none => rw [hq] at hs; cases hs
    | some q =>
      rw [hq] at hs
      cases hs
      obtain ⟨h1, h2, h3, h4⟩ := key q hq
      exact ⟨_, rfl, .inl (run_vSem (by simp [h1, h3, h2]))⟩
  · cases hq : eqlOp P ty x y with
    | none => rw [hq] at hs; cases hs
    | some q =>
      rw [hq] at hs
      cases hs
      obtain ⟨h1, h2, h3, h4⟩ := key q hq
      exact ⟨_, rfl, .inl (run_vSem (by simp [h1, h4, h2]))⟩
  · cases hs

omit [Val] in
theorem eqB_eq : ∀ (a b : List UInt8), eqB a b = (a == b)
  | [], [] => rfl
  | [], _ :: _ => rfl
  | _ :: _, [] => rfl
  | x :: a, y :: b => by
    have e : eqB (x :: a) (y :: b) = (match Nat.beq x.toNat y.toNat with | true => eqB a b | false => false) := rfl
    rw [e, eqB_eq a b]
    by_cases hxy : x = y
    · subst hxy
      simp
    · have : Nat.beq x.toNat y.toNat = false := by
        rw [← Bool.not_eq_true]
        intro hb
        exact hxy (UInt8.toNat_inj.1 (Nat.eq_of_beq_eq_true hb))
      rw [this]
      simp [hxy]
omit [Val] in
theorem appB_eq : ∀ (a b : List UInt8), appB a b = a ++ b
  | [], _ => rfl
  | x :: a, b => congrArg (x :: ·) (appB_eq a b)
omit [Val] in
theorem takeB_eq : ∀ (n : Nat) (l r : List UInt8), takeB n l = some r → n ≤ l.length ∧ r = l.take n
  | 0, l, r, h => by cases h; simp
  | n + 1, [], r, h => by cases h
  | n + 1, x :: l, r, h => by
    have e : takeB (n + 1) (x :: l) = (match takeB n l with | some r => some (x :: r) | none => none) := rfl
    rw [e] at h
    cases hq : takeB n l with
    | none => rw [hq] at h; cases h
    | some q =>
      rw [hq] at h
      cases h
      obtain ⟨h1, h2⟩ := takeB_eq n l q hq
      subst h2
      exact ⟨by simp; omega, by simp⟩
omit [Val] in
theorem segB_eq : ∀ (l : List UInt8) (o n : Nat) (r : List UInt8), segB l o n = some r → o + n ≤ l.length ∧ r = (l.drop o).take n
  | l, 0, n, r, h => by
    have := takeB_eq n l r h
    simpa using this
  | [], o + 1, n, r, h => by cases h
  | x :: l, o + 1, n, r, h => by
    have := segB_eq l o n r h
    simp
    exact ⟨by omega, this.2⟩
omit [Val] in
theorem takeV_eq : ∀ (n : Nat) (l r : List Value), takeV n l = some r → n ≤ l.length ∧ r = l.take n
  | 0, l, r, h => by cases h; simp
  | n + 1, [], r, h => by cases h
  | n + 1, x :: l, r, h => by
    have e : takeV (n + 1) (x :: l) = (match takeV n l with | some r => some (x :: r) | none => none) := rfl
    rw [e] at h
    cases hq : takeV n l with
    | none => rw [hq] at h; cases h
    | some q =>
      rw [hq] at h
      cases h
      obtain ⟨h1, h2⟩ := takeV_eq n l q hq
      subst h2
      exact ⟨by simp; omega, by simp⟩
omit [Val] in
theorem segV_eq : ∀ (l : List Value) (o n : Nat) (r : List Value), segV l o n = some r → o + n ≤ l.length ∧ r = (l.drop o).take n
  | l, 0, n, r, h => by
    have := takeV_eq n l r h
    simpa using this
  | [], o + 1, n, r, h => by cases h
  | x :: l, o + 1, n, r, h => by
    have := segV_eq l o n r h
    simp
    exact ⟨by omega, this.2⟩

omit [Val] in
theorem partV_run {t : TypeId} {xs : Array Value} {off : Nat} {v : Value} (hs : partV P t xs.toList off = some v) (w : World) : (part t xs off).run P w = .ok v w := by
  unfold partV at hs
  split at hs
  · rename_i ha
    split at hs
    · rename_i n hn
      cases hq : segV xs.toList off n with
      | none => rw [hq] at hs; cases hs
      | some r =>
        rw [hq] at hs
        cases hs
        obtain ⟨h1, h2⟩ := segV_eq _ _ _ _ hq
        simp [part, quiet_run P _ _ ha w, run_sizeB hn w]
        apply Array.ext'
        simp [h2]
    · cases hs
  · rename_i ha
    rw [nthV_eq] at hs
    have : xs[off]? = some v := by simpa using hs
    simp [part, quiet_run P _ _ ha w, this]
  · cases hs

omit [Val] in
theorem eqFieldsV_run {d : Nat} {e : TypeId → Value → Value → Option Bool} (he : ∀ t x y q, e t x y = some q → ∀ w, (Op.equalIn d t x y).run P w = .ok q w) {xs ys : Array Value} :
    ∀ (fs : List Field) (q : Bool), eqFieldsV P e xs.toList ys.toList fs = some q → ∀ w, (Op.eqFields d xs ys fs).run P w = .ok q w := by
  intro fs
  induction fs with
  | nil => intro q hq w; cases hq; rfl
  | cons f fs ih =>
    intro q hq w
    have eq : eqFieldsV P e xs.toList ys.toList (f :: fs) = (if f.name = "_" then eqFieldsV P e xs.toList ys.toList fs else
      match partV P f.type xs.toList f.offset, partV P f.type ys.toList f.offset with
      | some a, some b => match e f.type a b with
        | some true => eqFieldsV P e xs.toList ys.toList fs
        | r => r
      | _, _ => none) := rfl
    rw [eq] at hq
    unfold Op.eqFields
    split at hq
    · rename_i hname
      rw [if_neg (by simpa using hname)]
      exact ih q hq w
    · rename_i hname
      rw [if_pos hname]
      split at hq
      · rename_i a b ha hb
        simp only [Sem.run_bind, partV_run ha, partV_run hb, Result.andThen_ok]
        split at hq
        · rename_i hab
          simp only [he _ _ _ _ hab, Result.andThen_ok]
          simpa using ih q hq w
        · rename_i r hr hne
          have hqq : q = false := by
            cases q with
            | false => rfl
            | true => exact absurd hq (by simpa using hne)
          subst hqq
          simp [he _ _ _ _ hq]
      · cases hq

omit [Val] in
theorem run_equalIn_array (d : Nat) (t elem : TypeId) (len n : Nat) (xs ys : Array Value) (ht : P.underlying t = some (.array len elem)) (hn : sizeB P elem = some n)
    {e : TypeId → Value → Value → Option Bool} (he : ∀ t x y q, e t x y = some q → ∀ w, (Op.equalIn d t x y).run P w = .ok q w) (q : Bool)
    (hq : eqElemsV P e elem n xs.toList ys.toList (List.range len) = some q) (w : World) : (Op.equalIn (d + 1) t (.agg xs) (.agg ys)).run P w = .ok q w := by
  simp only [Op.equalIn, Sem.run_bind, run_under ht, Result.andThen_ok, run_sizeB hn]
  rw [Std.Legacy.Range.forIn_eq_forIn_range']
  simp only [Std.Legacy.Range.size, Nat.sub_zero, Nat.add_sub_cancel, Nat.div_one, ← List.range_eq_range']
  generalize List.range len = is at hq
  induction is generalizing w with
  | nil => cases hq; rfl
  | cons i is ih =>
    have eq : eqElemsV P e elem n xs.toList ys.toList (i :: is) = (match partV P elem xs.toList (i * n), partV P elem ys.toList (i * n) with
      | some a, some b => match e elem a b with
        | some true => eqElemsV P e elem n xs.toList ys.toList is
        | r => r
      | _, _ => none) := rfl
    rw [eq] at hq
    split at hq
    · rename_i a b ha hb
      simp only [List.forIn_cons, Sem.run_bind, partV_run ha, partV_run hb, Result.andThen_ok]
      split at hq
      · rename_i hab
        simp only [he _ _ _ _ hab, Result.andThen_ok, Bool.not_true, Bool.false_eq_true, if_false, Sem.run_pure]
        exact ih w hq
      · rename_i r hr hne
        have hqq : q = false := by
          cases q with
          | false => rfl
          | true => exact absurd hq (by simpa using hne)
        subst hqq
        simp [he _ _ _ _ hq]
    · cases hq

omit [Val] in
theorem eqV_run : ∀ (d k : Nat) (t : TypeId) (x y : Value) (q : Bool), eqV P d t x y = some q → ∀ w, (Op.equalIn (d + k) t x y).run P w = .ok q w
  | 0, _, _, _, _, _, h => by cases h
  | d + 1, k, t, x, y, q, h => by
    have eq : eqV P (d + 1) t x y = (match (generalizing := false) P.underlying t, x, y with
      | some (.int _), .int k a, .int k' b => if k = k' then some (a == b) else none
      | some .bool, .bool a, .bool b => some (a == b)
      | some .string, .string a, .string b => some (eqB a.data.toList b.data.toList)
      | some (.struct fs), .agg xs, .agg ys => if P.stoodInHeld t then none else eqFieldsV P (eqV P d) xs.toList ys.toList fs.toList
      | some (.array len elem), .agg xs, .agg ys => match sizeB P elem with
        | some n => eqElemsV P (eqV P d) elem n xs.toList ys.toList (List.range len)
        | none => none
      | _, _, _ => none) := rfl
    rw [eq] at h
    intro w
    rw [show d + 1 + k = (d + k) + 1 from by omega]
    split at h
    · rename_i hu
      split at h
      · rename_i hk
        subst hk
        cases h
        exact run_equalIn_int w _ _ _ _ _ _ hu
      · cases h
    · rename_i hu
      cases h
      exact run_equalIn_bool w _ _ _ _ hu
    · rename_i a b hu
      cases h
      rw [run_equalIn_string w _ _ _ _ hu, eqB_eq, ByteArray.toList_eq, ByteArray.toList_eq]
    · rename_i fs xs ys hu
      split at h
      · cases h
      · rename_i hst
        have hfs : P.underlying t = some (.struct (P.fieldsOf t)) := by simp [Program.fieldsOf, hu]
        have hfe : P.fieldsOf t = fs := by simp [Program.fieldsOf, hu]
        rw [run_equalIn_struct w _ t xs ys hfs (by simpa using hst), hfe]
        exact eqFieldsV_run (fun t x y q hq w => eqV_run d k t x y q hq w) _ _ h w
    · rename_i len elem xs ys hu
      split at h
      · rename_i n hn
        exact run_equalIn_array _ _ _ _ _ _ _ hu hn (fun t x y q hq w => eqV_run d k t x y q hq w) q h w
      · cases h
    · cases h
end
end Go.Ri

/-! Operations on names: what the table of known facts gives. -/
namespace Go.Ri
open Go Go.RowKit
variable [Val]

def TCTrue (c : TC) (u v z : Value) : Prop :=
  match c with
  | .bin op => ∀ (P : Program) (ty : TypeId) (a b : Operand) (w : World), (do eqGuard op ty a b u v; binOp op ty u v : Sem Value).run P w = .ok z w
  | .ieq => ∃ k a b, u = .int k a ∧ v = .int k b ∧ z = .bool (a == b)
  | .beq => ∃ a b, u = .bool a ∧ v = .bool b ∧ z = .bool (a == b)
  | .seq => ∃ a b : ByteArray, u = .string a ∧ v = .string b ∧ z = .bool (a.toList == b.toList)
  | .idx => ∃ s k i b, u = .string s ∧ v = .int k i ∧ 0 ≤ i ∧ s.data.toList[i.toNat]? = some b ∧ z = .int .u8 b.toNat
  | .len => ∃ s : ByteArray, u = .string s ∧ z = .int .i64 s.data.toList.length
  | .truth => ∃ b, u = .bool b ∧ z = .bool b
  | .not => ∃ b, u = .bool b ∧ z = .bool !b
  | .conv k' => ∃ k a, u = .int k a ∧ z = .int k' (k'.wrap a)
  | .inb => ∃ k k' m n, u = .int k m ∧ v = .int k' n ∧ z = .bool (decide (0 ≤ m ∧ m < n))
def TETrue (e : TE) : Prop := flat0 e.r = true ∧ TCTrue e.c (cv e.x) (cv e.y) (cv e.r)
def NTrue (e : NE) : Prop := e.l.all flat0 = true ∧ e.r.all flat0 = true ∧ (Val.I e.i).toNat * e.r.length + e.r.length ≤ e.l.length ∧ ((e.l.map cv).drop ((Val.I e.i).toNat * e.r.length)).take e.r.length = e.r.map cv
def LLTrue (e : LNE) : Prop := flat0 e.r = true ∧ ∃ n : Nat, 0 < e.s ∧ (Val.L e.i).length = n * e.s ∧ cv e.r = .int .i64 n
def LXTrue (e : LEE) : Prop := e.r.all flat0 = true ∧ (Val.I e.i).toNat * e.r.length + e.r.length ≤ (Val.L e.l).length ∧ ((Val.L e.l).drop ((Val.I e.i).toNat * e.r.length)).take e.r.length = e.r.map cv
def LNPTrue (e : LNP) : Prop := (Val.I e.n).toNat < (Val.L e.i).length ∧ Val.L e.k = (Val.L e.i).set (Val.I e.n).toNat (.agg (Val.L e.j).toArray)
def LNVTrue (e : LNP) : Prop := ∃ n : Nat, Val.L e.i = List.replicate n (.slice none 0 0) ∧ (Val.I e.n).toNat < n ∧ Val.L e.k = (List.replicate n (.agg #[])).set (Val.I e.n).toNat (.agg (Val.L e.j).toArray)
def LATrue (e : LAE) : Prop := Val.L e.j = Val.L e.i ++ e.cs.map cv ∧ (Val.L e.j).length ≤ 1000000 ∧ ∀ v, v ∈ Val.L e.i → v.oneCell' = true
def MSTrue (e : MSE) : Prop := ∃ bs : List UInt8, e.cs.map cv = bs.map (fun b => Value.int .u8 b.toNat) ∧ e.cs.all flat0 = true ∧ Val.S e.j = ⟨bs.toArray⟩
def SSTrue (e : SSE) : Prop := flat0 e.r = true ∧ ∃ (s : ByteArray) (k k' : IntKind) (m n : Nat), cv e.s = .string s ∧ cv e.lo = .int k m ∧ cv e.hi = .int k' n ∧ m ≤ n ∧ n ≤ s.size ∧ cv e.r = .string (s.extract m n)
def BdT (x : Option RV) (m d : Nat) : Prop := match x with
  | none => m = d
  | some r => flat0 r = true ∧ ∃ k, cv r = .int k m
def LPTrue (e : LPE) : Prop := ∃ n m q : Nat, (Val.L e.i).length = n * e.s ∧ BdT e.lo m 0 ∧ BdT e.hi q n ∧
  m ≤ q ∧ q ≤ n ∧ (Val.I e.a).toNat = m ∧ Val.L e.j = ((Val.L e.i).drop (m * e.s)).take ((q - m) * e.s)
def LBTrue (e : LBE) : Prop := Val.L e.j ≠ [] ∧ Val.L e.k = (match e.i with | none => [] | some i => Val.L i) ++ Val.L e.j ∧ (Val.L e.k).length ≤ 1000000 ∧ ∀ v, v ∈ Val.L e.k → v.oneCell' = true
def LMTrue (e : LME) : Prop := ∃ n : Nat, n ≤ 2000000 ∧ Val.I e.n = n ∧ Val.L e.j = List.replicate n (cv e.z)
def LWTrue (e : LWE) : Prop := 0 ≤ Val.I e.k ∧ (Val.I e.k).toNat < (Val.L e.i).length ∧ Val.L e.j = (Val.L e.i).set (Val.I e.k).toNat (cv e.x)
def LNATrue (e : LNL) : Prop := Val.L e.k = (match e.i with | none => [] | some i => Val.L i) ++ [.agg (Val.L e.j).toArray] ∧ (Val.L e.k).length ≤ 1000000
def LNXTrue (e : LNX) : Prop := (Val.L e.i)[(Val.I e.n).toNat]? = some (.agg (Val.L e.j).toArray)
def LFTrue (e : LFE) : Prop := (Val.I e.k).toNat * e.s + e.o < (Val.L e.i).length ∧ Val.L e.j = (Val.L e.i).set ((Val.I e.k).toNat * e.s + e.o) (cv e.x)
def BSTrue (e : Nat × Nat) : Prop := Val.L e.2 = (Val.S e.1).data.toList.map fun b => Value.int .u8 b.toNat
/-- What is said where two ways meet is so. -/
def JETrue (e : JE) : Prop :=
  (Val.B e.i = true → (∀ q ∈ e.vs, flat0 q.1 = true → flat0 q.2.2 = true → cv q.1 = cv q.2.2) ∧ ∀ q ∈ e.ls, Val.L q.1 = Val.L q.2.2) ∧
  (Val.B e.i = false → (∀ q ∈ e.vs, flat0 q.2.1 = true → flat0 q.2.2 = true → cv q.2.1 = cv q.2.2) ∧ ∀ q ∈ e.ls, Val.L q.2.1 = Val.L q.2.2)
structure TOK (P : Program) (g : Cfg) : Prop where
  t : ∀ e, e ∈ g.T → TETrue e
  n : ∀ e, e ∈ g.N → NTrue e
  ll : ∀ e, e ∈ g.LL → LLTrue e
  lx : ∀ e, e ∈ g.LX → LXTrue e
  la : ∀ e, e ∈ g.LA → LATrue e
  ms : ∀ e, e ∈ g.MS → MSTrue e
  ss : ∀ e, e ∈ g.SS → SSTrue e
  lp : ∀ e, e ∈ g.LP → LPTrue e
  lb : ∀ e, e ∈ g.LB → LBTrue e
  lz : ∀ j, j ∈ g.LZ → Val.L j = []
  ex : ∀ f args r, g.EX f args = some r → args.all flat0 = true → ∀ w, (callFunc f (args.map cv).toArray).run P w = .ok (.value (cv r)) w
  lq : ∀ e, e ∈ g.LQ → e.2.all flat0 = true ∧ Val.L e.1 = e.2.map cv
  iz : ∀ e, e ∈ g.IZ → Val.I e.1 = (e.2 : Int)
  lm : ∀ e, e ∈ g.LM → LMTrue e
  lw : ∀ e, e ∈ g.LW → LWTrue e
  oc : ∀ j, j ∈ g.OC → ∀ v, v ∈ Val.L j → v.oneCell' = true
  lna : ∀ e, e ∈ g.LNA → LNATrue e
  lne : ∀ e, e ∈ g.LNE → LNXTrue e
  lf : ∀ e, e ∈ g.LF → LFTrue e
  lnw : ∀ e, e ∈ g.LNW → LNPTrue e
  lnv : ∀ e, e ∈ g.LNV → LNVTrue e
  bs : ∀ e, e ∈ g.BS → BSTrue e
  j : ∀ e ∈ g.J, JETrue e

omit [Val] in
theorem binCode_inj {a b : BinOp} (h : binCode a = binCode b) : a = b := by
  cases a <;> cases b <;> first | rfl | (exact absurd h (by decide))
omit [Val] in
theorem kindCode_inj {a b : IntKind} (h : kindCode a = kindCode b) : a = b := by
  cases a <;> cases b <;> first | rfl | (exact absurd h (by decide))
omit [Val] in
theorem binCode_lt (a : BinOp) : binCode a < 20 := by cases a <;> decide
omit [Val] in
theorem kindCode_lt (a : IntKind) : kindCode a < 10 := by cases a <;> decide
omit [Val] in
theorem tcCode_inj {a b : TC} (h : tcCode a = tcCode b) : a = b := by
  cases a <;> cases b <;> first
    | rfl
    | (rename_i x y; first | rw [binCode_inj h] | rw [kindCode_inj (a := x) (b := y) (by have h : 30 + kindCode x = 30 + kindCode y := h; omega)] | (have h : binCode x = 30 + kindCode y := h; have := binCode_lt x; omega) | (have h : 30 + kindCode x = binCode y := h; have := binCode_lt y; omega))
    | (exact absurd h (by decide))
    | (rename_i x; have h : binCode x = _ := h; have := binCode_lt x; simp only [tcCode] at h; omega)
    | (rename_i x; have h : _ = binCode x := h; have := binCode_lt x; simp only [tcCode] at h; omega)
    | (rename_i x; simp only [tcCode] at h; omega)
omit [Val] in
theorem tkCode_inj {a b : TK} (h : tkCode a = tkCode b) : a = b := by
  cases a <;> cases b <;> first
    | rfl
    | (rename_i x y; rw [kindCode_inj h])
    | (exact absurd h (by decide))
    | (rename_i x; have := kindCode_lt x; simp only [tkCode] at h; omega)
omit [Val] in
theorem sameBs_eq : ∀ (a b : List UInt8), sameBs a b = eqB a b
  | [], [] => rfl
  | [], _ :: _ => rfl
  | _ :: _, [] => rfl
  | x :: a, y :: b => by
    have e1 : sameBs (x :: a) (y :: b) = (match Nat.beq x.toNat y.toNat with | true => sameBs a b | false => false) := rfl
    have e2 : eqB (x :: a) (y :: b) = (match Nat.beq x.toNat y.toNat with | true => eqB a b | false => false) := rfl
    rw [e1, e2, sameBs_eq a b]
omit [Val] in
theorem eqS_eq {x y : RV} (h : eqS x y = true) : x = y := by
  unfold eqS at h
  split at h
  · split at h
    · rename_i hij
      rw [Nat.eq_of_beq_eq_true hij, tkCode_inj (Nat.eq_of_beq_eq_true h)]
    · cases h
  · split at h
    · rename_i hk
      rw [kindCode_inj (Nat.eq_of_beq_eq_true hk), beq_iff_eq.mp h]
    · cases h
  · rw [beq_iff_eq.mp h]
  · rename_i a b
    rw [sameBs_eq, eqB_eq] at h
    have := beq_iff_eq.mp h
    have e : a = b := ByteArray.ext (Array.ext' this)
    rw [e]
  · split at h
    · rename_i hk
      rw [Nat.eq_of_beq_eq_true hk, Nat.eq_of_beq_eq_true h]
    · cases h
  · cases h
omit [Val] in
theorem eqS_flat {x y : RV} (h : eqS x y = true) : flat0 x = true := by
  unfold eqS at h
  split at h
  · rfl
  · rfl
  · rfl
  · rfl
  · rfl
  · cases h
omit [Val] in
theorem tlook_mem (c : TC) (x y r : RV) : ∀ T : List TE, tlook T c x y = some r → ∃ e, e ∈ T ∧ e.c = c ∧ e.x = x ∧ e.y = y ∧ e.r = r ∧ flat0 x = true ∧ flat0 y = true
  | [], h => by cases h
  | e :: T, h => by
    have h : (match Nat.beq (tcCode e.c) (tcCode c) with
      | true => match eqS e.x x with
        | true => match eqS e.y y with | true => some e.r | false => tlook T c x y
        | false => tlook T c x y
      | false => tlook T c x y) = some r := h
    have go : tlook T c x y = some r → ∃ e', e' ∈ e :: T ∧ e'.c = c ∧ e'.x = x ∧ e'.y = y ∧ e'.r = r ∧ flat0 x = true ∧ flat0 y = true := fun h => by
      obtain ⟨e', he, r⟩ := tlook_mem c x y r T h
      exact ⟨e', List.mem_cons_of_mem _ he, r⟩
    split at h
    · rename_i h1
      split at h
      · rename_i h2
        split at h
        · rename_i h3
          cases h
          have f1 := eqS_flat h2
          have f2 := eqS_flat h3
          rw [eqS_eq h2] at f1
          rw [eqS_eq h3] at f2
          exact ⟨e, List.mem_cons_self, tcCode_inj (Nat.eq_of_beq_eq_true h1), eqS_eq h2, eqS_eq h3, rfl, f1, f2⟩
        · exact go h
      · exact go h
    · exact go h
theorem tlook_true {P : Program} {g : Cfg} (hT : TOK P g) {c : TC} {x y r : RV} (h : tlook g.T c x y = some r) : flat0 r = true ∧ flat0 x = true ∧ flat0 y = true ∧ TCTrue c (cv x) (cv y) (cv r) := by
  obtain ⟨e, he, rfl, rfl, rfl, rfl, f1, f2⟩ := tlook_mem c x y r g.T h
  exact ⟨(hT.t e he).1, f1, f2, (hT.t e he).2⟩
omit [Val] in
theorem eqSs_eq : ∀ (l m : List RV), eqSs l m = true → l = m
  | [], [], _ => rfl
  | [], _ :: _, h => by cases h
  | _ :: _, [], h => by cases h
  | x :: l, y :: m, h => by
    have h : (match eqS x y with | true => eqSs l m | false => false) = true := h
    split at h
    · rename_i hx; rw [eqS_eq hx, eqSs_eq l m h]
    · cases h
omit [Val] in
theorem nlook_mem (l : List RV) (i : Nat) (r : List RV) : ∀ T : List NE, nlook T l i = some r → ∃ e, e ∈ T ∧ e.i = i ∧ e.l = l ∧ e.r = r
  | [], h => by cases h
  | e :: T, h => by
    have h : (match Nat.beq e.i i with
      | true => match eqSs e.l l with | true => some e.r | false => nlook T l i
      | false => nlook T l i) = some r := h
    have go : nlook T l i = some r → ∃ e', e' ∈ e :: T ∧ e'.i = i ∧ e'.l = l ∧ e'.r = r := fun h => by
      obtain ⟨e', he, q⟩ := nlook_mem l i r T h
      exact ⟨e', List.mem_cons_of_mem _ he, q⟩
    split at h
    · rename_i h1
      split at h
      · rename_i h2
        cases h
        exact ⟨e, List.mem_cons_self, Nat.eq_of_beq_eq_true h1, eqSs_eq _ _ h2, rfl⟩
      · exact go h
    · exact go h
theorem ms_ok {P : Program} {g : Cfg} (hT : TOK P g) : MSok (mslook g.MS) := by
  intro l r hl E vs hv
  have mem : ∀ T : List MSE, mslook T l = some r → ∃ e, e ∈ T ∧ e.cs = l ∧ r = .sym .str e.j := by
    intro T
    induction T with
    | nil => intro h; cases h
    | cons e T ih =>
      intro h
      replace h : (match eqSs e.cs l with | true => some (RV.sym .str e.j) | false => mslook T l) = some r := h
      split at h
      · rename_i h1
        cases h
        exact ⟨e, List.mem_cons_self, eqSs_eq _ _ h1, rfl⟩
      · obtain ⟨e', he, q⟩ := ih h
        exact ⟨e', List.mem_cons_of_mem _ he, q⟩
  obtain ⟨e, he, rfl, rfl⟩ := mem g.MS hl
  obtain ⟨bs, h1, h2, h3⟩ := hT.ms e he
  have hvs : vs = e.cs.map cv := VRels.fn _ _ _ (VRels_iff.2 hv) (VRels_iff.2 (rel_cvs e.cs h2))
  refine ⟨bs.map fun b => (b.toNat : Int), ?_, ?_⟩
  · rw [hvs, h1, List.map_map]
    rfl
  · show Value.string _ = .string (Val.S e.j)
    rw [h3, List.map_map]
    congr 2
    congr 1
    have : ((fun n : Int => UInt8.ofNat n.toNat) ∘ fun b : UInt8 => (b.toNat : Int)) = id := by
      funext b
      simp
    rw [this, List.map_id]
theorem sslook_true {P : Program} {g : Cfg} (hT : TOK P g) {s lo hi r : RV} (h : sslook g.SS s lo hi = some r) : flat0 s = true ∧ flat0 lo = true ∧ flat0 hi = true ∧ SSTrue ⟨s, lo, hi, r⟩ := by
  have mem : ∀ T : List SSE, sslook T s lo hi = some r → ∃ e, e ∈ T ∧ e = ⟨s, lo, hi, r⟩ ∧ flat0 s = true ∧ flat0 lo = true ∧ flat0 hi = true := by
    intro T
    induction T with
    | nil => intro h; cases h
    | cons e T ih =>
      intro h
      have go : sslook T s lo hi = some r → ∃ e', e' ∈ e :: T ∧ e' = ⟨s, lo, hi, r⟩ ∧ flat0 s = true ∧ flat0 lo = true ∧ flat0 hi = true := fun h => by
        obtain ⟨e', he, q⟩ := ih h
        exact ⟨e', List.mem_cons_of_mem _ he, q⟩
      replace h : (match eqS e.s s with
        | true => match eqS e.lo lo with
          | true => match eqS e.hi hi with | true => some e.r | false => sslook T s lo hi
          | false => sslook T s lo hi
        | false => sslook T s lo hi) = some r := h
      split at h
      · rename_i h1
        split at h
        · rename_i h2
          split at h
          · rename_i h3
            cases h
            have f1 := eqS_flat h1
            have f2 := eqS_flat h2
            have f3 := eqS_flat h3
            obtain ⟨es, el, eh, er⟩ := e
            have g1 : es = s := eqS_eq h1
            have g2 : el = lo := eqS_eq h2
            have g3 : eh = hi := eqS_eq h3
            subst g1
            subst g2
            subst g3
            exact ⟨_, List.mem_cons_self, rfl, f1, f2, f3⟩
          · exact go h
        · exact go h
      · exact go h
  obtain ⟨e, he, rfl, f1, f2, f3⟩ := mem g.SS h
  exact ⟨f1, f2, f3, hT.ss _ he⟩
omit [Val] in
theorem lenlook_mem (i s : Nat) (r : RV) : ∀ T : List LNE, lenlook T i s = some r → ∃ e, e ∈ T ∧ e.i = i ∧ e.s = s ∧ e.r = r
  | [], h => by cases h
  | e :: T, h => by
    have h : (match Nat.beq e.i i with
      | true => match Nat.beq e.s s with | true => some e.r | false => lenlook T i s
      | false => lenlook T i s) = some r := h
    have go : lenlook T i s = some r → ∃ e', e' ∈ e :: T ∧ e'.i = i ∧ e'.s = s ∧ e'.r = r := fun h => by
      obtain ⟨e', he, q⟩ := lenlook_mem i s r T h
      exact ⟨e', List.mem_cons_of_mem _ he, q⟩
    split at h
    · rename_i h1
      split at h
      · rename_i h2
        cases h
        exact ⟨e, List.mem_cons_self, Nat.eq_of_beq_eq_true h1, Nat.eq_of_beq_eq_true h2, rfl⟩
      · exact go h
    · exact go h
omit [Val] in
theorem ellook_mem (l i : Nat) (r : List RV) : ∀ T : List LEE, ellook T l i = some r → ∃ e, e ∈ T ∧ e.l = l ∧ e.i = i ∧ e.r = r
  | [], h => by cases h
  | e :: T, h => by
    have h : (match Nat.beq e.l l with
      | true => match Nat.beq e.i i with | true => some e.r | false => ellook T l i
      | false => ellook T l i) = some r := h
    have go : ellook T l i = some r → ∃ e', e' ∈ e :: T ∧ e'.l = l ∧ e'.i = i ∧ e'.r = r := fun h => by
      obtain ⟨e', he, q⟩ := ellook_mem l i r T h
      exact ⟨e', List.mem_cons_of_mem _ he, q⟩
    split at h
    · rename_i h1
      split at h
      · rename_i h2
        cases h
        exact ⟨e, List.mem_cons_self, Nat.eq_of_beq_eq_true h1, Nat.eq_of_beq_eq_true h2, rfl⟩
      · exact go h
    · exact go h
omit [Val] in
theorem applook_mem (i : Nat) (cs : List RV) (j : Nat) : ∀ T : List LAE, applook T i cs = some j → ∃ e, e ∈ T ∧ e.i = i ∧ e.cs = cs ∧ e.j = j
  | [], h => by cases h
  | e :: T, h => by
    have h : (match Nat.beq e.i i with
      | true => match eqSs e.cs cs with | true => some e.j | false => applook T i cs
      | false => applook T i cs) = some j := h
    have go : applook T i cs = some j → ∃ e', e' ∈ e :: T ∧ e'.i = i ∧ e'.cs = cs ∧ e'.j = j := fun h => by
      obtain ⟨e', he, q⟩ := applook_mem i cs j T h
      exact ⟨e', List.mem_cons_of_mem _ he, q⟩
    split at h
    · rename_i h1
      split at h
      · rename_i h2
        cases h
        exact ⟨e, List.mem_cons_self, Nat.eq_of_beq_eq_true h1, eqSs_eq _ _ h2, rfl⟩
      · exact go h
    · exact go h

section
variable {P : Program} {g : Cfg} {ro : Ro} {base : Nat} {w0 : World} {E : Env} {h : RH} {w : World} {t : List RV} {a : Act}

theorem aggL_rel {r : RV} {l : List RV} {v : Value} (hl : aggL r = some l) (hv : VRel E r v) : ∃ l', v = .agg l' ∧ All2 (VRel E) l l'.toList := by
  unfold aggL at hl
  split at hl
  · cases hl
    obtain ⟨l', e, hr⟩ := hv
    exact ⟨l', e, VRels_iff.1 hr⟩
  · cases hl
    exact ⟨_, hv, All2.pls _⟩
  · cases hl
theorem partR_run {ty : TypeId} {l : List RV} {xs : Array Value} {off : Nat} {r : RV} (hl : All2 (VRel E) l xs.toList) (hs : partR P ty l off = some r) :
    ∃ v, VRel E r v ∧ ∀ w, (part ty xs off).run P w = .ok v w := by
  unfold partR at hs
  split at hs
  · rename_i ha
    split at hs
    · rename_i n hn
      cases hq : seg l off n with
      | none => rw [hq] at hs; cases hs
      | some q =>
        rw [hq] at hs
        cases hs
        obtain ⟨h1, rfl⟩ := seg_eq _ _ _ _ hq
        refine ⟨.agg ((xs.toList.drop off).take n).toArray, ⟨_, rfl, VRels_iff.2 ?_⟩, fun w => ?_⟩
        · simpa using (hl.drop off).take n
        · simp [part, quiet_run P _ _ ha w, run_sizeB hn w]
          apply Array.ext'
          simp
    · cases hs
  · rename_i ha
    obtain ⟨v, hv, hr⟩ := hl.get off r hs
    refine ⟨v, hr, fun w => ?_⟩
    have : xs[off]? = some v := by simpa using hv
    simp [part, quiet_run P _ _ ha w, this]
  · cases hs

theorem eqLeaf_run (hT : TOK P g) {d : Nat} {ty : TypeId} {x y : RV} {u v : Value} {q : Bool} (hx : VRel E x u) (hy : VRel E y v) (h : eqLeaf P g ty x y = some q) (w : World) :
    (Op.equalIn (d + 1) ty u v).run P w = .ok q w := by
  have fI : ∀ x y : RV, VRel E x u → VRel E y v → ∀ k', P.underlying ty = some (.int k') → ∀ b, tlook g.T .ieq x y = some (.pl (.bool b)) → (Op.equalIn (d + 1) ty u v).run P w = .ok b w := by
    intro x y hx hy k' hu b hb
    obtain ⟨_, f1, f2, k, m, n, e1, e2, e3⟩ := tlook_true hT hb
    rw [cv_rel f1 hx, e1, cv_rel f2 hy, e2]
    have : b = (m == n) := by simpa [cv] using e3
    subst this
    exact run_equalIn_int w _ _ _ _ _ _ hu
  have fB : ∀ x y : RV, VRel E x u → VRel E y v → P.underlying ty = some .bool → ∀ b, tlook g.T .beq x y = some (.pl (.bool b)) → (Op.equalIn (d + 1) ty u v).run P w = .ok b w := by
    intro x y hx hy hu b hb
    obtain ⟨_, f1, f2, m, n, e1, e2, e3⟩ := tlook_true hT hb
    rw [cv_rel f1 hx, e1, cv_rel f2 hy, e2]
    have : b = (m == n) := by simpa [cv] using e3
    subst this
    exact run_equalIn_bool w _ _ _ _ hu
  have fS : ∀ x y : RV, VRel E x u → VRel E y v → P.underlying ty = some .string → ∀ b, tlook g.T .seq x y = some (.pl (.bool b)) → (Op.equalIn (d + 1) ty u v).run P w = .ok b w := by
    intro x y hx hy hu b hb
    obtain ⟨_, f1, f2, m, n, e1, e2, e3⟩ := tlook_true hT hb
    rw [cv_rel f1 hx, e1, cv_rel f2 hy, e2]
    have : b = (m.toList == n.toList) := by simpa [cv] using e3
    subst this
    exact run_equalIn_string w _ _ _ _ hu
  unfold eqLeaf at h
  split at h
  · cases hx; cases hy
    have := eqV_run 1 d ty _ _ q h w
    rwa [Nat.add_comm] at this
  · rename_i k0 k i k' j hu
    split at h
    · rename_i he
      cases h
      have e := eqS_eq he
      cases e
      have hx : u = .int k (Val.I i) := hx
      have hy : v = .int k (Val.I i) := hy
      rw [hx, hy, run_equalIn_int w _ _ _ _ _ _ hu]
      simp
    · split at h
      · rename_i b hb; cases h; exact fI _ _ hx hy _ hu _ hb
      · cases h
  · rename_i k0 hu _ _
    split at h
    · rename_i b hb; cases h; exact fI _ _ hx hy _ hu _ hb
    · cases h
  · rename_i i j hu
    split at h
    · rename_i he
      cases h
      have e := Nat.eq_of_beq_eq_true he
      cases e
      have hx : u = .bool (Val.B i) := hx
      have hy : v = .bool (Val.B i) := hy
      rw [hx, hy, run_equalIn_bool w _ _ _ _ hu]
      simp
    · split at h
      · rename_i b hb; cases h; exact fB _ _ hx hy hu _ hb
      · cases h
  · rename_i hu _ _
    split at h
    · rename_i b hb; cases h; exact fB _ _ hx hy hu _ hb
    · cases h
  · rename_i i j hu
    split at h
    · rename_i he
      cases h
      have e := Nat.eq_of_beq_eq_true he
      cases e
      have hx : u = .string (Val.S i) := hx
      have hy : v = .string (Val.S i) := hy
      rw [hx, hy, run_equalIn_string w _ _ _ _ hu]
      simp
    · split at h
      · rename_i b hb; cases h; exact fS _ _ hx hy hu _ hb
      · cases h
  · rename_i hu _ _
    split at h
    · rename_i b hb; cases h; exact fS _ _ hx hy hu _ hb
    · cases h
  · cases h

theorem eqFieldsR_run {d : Nat} {e : TypeId → RV → RV → Option Bool} (he : ∀ t x y u v q, VRel E x u → VRel E y v → e t x y = some q → ∀ w, (Op.equalIn d t u v).run P w = .ok q w) {l m : List RV} {xs ys : Array Value}
    (hl : All2 (VRel E) l xs.toList) (hm : All2 (VRel E) m ys.toList) :
    ∀ (fs : List Field) (q : Bool), eqFieldsR P e l m fs = some q → ∀ w, (Op.eqFields d xs ys fs).run P w = .ok q w := by
  intro fs
  induction fs with
  | nil => intro q hq w; cases hq; rfl
  | cons f fs ih =>
    intro q hq w
    have eq : eqFieldsR P e l m (f :: fs) = (if f.name = "_" then eqFieldsR P e l m fs else
      match partR P f.type l f.offset, partR P f.type m f.offset with
      | some a, some b => match e f.type a b with
        | some true => eqFieldsR P e l m fs
        | r => r
      | _, _ => none) := rfl
    rw [eq] at hq
    unfold Op.eqFields
    split at hq
    · rename_i hname
      rw [if_neg (by simpa using hname)]
      exact ih q hq w
    · rename_i hname
      rw [if_pos hname]
      split at hq
      · rename_i a b ha hb
        obtain ⟨va, ra, pa⟩ := partR_run hl ha
        obtain ⟨vb, rb, pb⟩ := partR_run hm hb
        simp only [Sem.run_bind, pa, pb, Result.andThen_ok]
        split at hq
        · rename_i hab
          simp only [he _ _ _ _ _ _ ra rb hab, Result.andThen_ok]
          simpa using ih q hq w
        · rename_i r hr hne
          have hqq : q = false := by
            cases q with
            | false => rfl
            | true => exact absurd hq (by simpa using hne)
          subst hqq
          simp [he _ _ _ _ _ _ ra rb hq]
      · cases hq

theorem run_equalIn_arrayR (d : Nat) (t elem : TypeId) (len n : Nat) {l m : List RV} (xs ys : Array Value) (hl : All2 (VRel E) l xs.toList) (hm : All2 (VRel E) m ys.toList) (ht : P.underlying t = some (.array len elem)) (hn : sizeB P elem = some n)
    {e : TypeId → RV → RV → Option Bool} (he : ∀ t x y u v q, VRel E x u → VRel E y v → e t x y = some q → ∀ w, (Op.equalIn d t u v).run P w = .ok q w) (q : Bool)
    (hq : eqElemsR P e elem n l m (List.range len) = some q) (w : World) : (Op.equalIn (d + 1) t (.agg xs) (.agg ys)).run P w = .ok q w := by
  simp only [Op.equalIn, Sem.run_bind, run_under ht, Result.andThen_ok, run_sizeB hn]
  rw [Std.Legacy.Range.forIn_eq_forIn_range']
  simp only [Std.Legacy.Range.size, Nat.sub_zero, Nat.add_sub_cancel, Nat.div_one, ← List.range_eq_range']
  generalize List.range len = is at hq
  induction is generalizing w with
  | nil => cases hq; rfl
  | cons i is ih =>
    have eq : eqElemsR P e elem n l m (i :: is) = (match partR P elem l (i * n), partR P elem m (i * n) with
      | some a, some b => match e elem a b with
        | some true => eqElemsR P e elem n l m is
        | r => r
      | _, _ => none) := rfl
    rw [eq] at hq
    split at hq
    · rename_i a b ha hb
      obtain ⟨va, ra, pa⟩ := partR_run hl ha
      obtain ⟨vb, rb, pb⟩ := partR_run hm hb
      simp only [List.forIn_cons, Sem.run_bind, pa, pb, Result.andThen_ok]
      split at hq
      · rename_i hab
        simp only [he _ _ _ _ _ _ ra rb hab, Result.andThen_ok, Bool.not_true, Bool.false_eq_true, if_false, Sem.run_pure]
        exact ih w hq
      · rename_i r hr hne
        have hqq : q = false := by
          cases q with
          | false => rfl
          | true => exact absurd hq (by simpa using hne)
        subst hqq
        simp [he _ _ _ _ _ _ ra rb hq]
    · cases hq

theorem eqR_run (hT : TOK P g) : ∀ (d k : Nat) (t : TypeId) (x y : RV) (u v : Value) (q : Bool), VRel E x u → VRel E y v → eqR P g d t x y = some q → ∀ w, (Op.equalIn (d + k) t u v).run P w = .ok q w
  | 0, _, _, _, _, _, _, _, _, _, h => by cases h
  | d + 1, k, t, x, y, u, v, q, hx, hy, h => by
    have eq : eqR P g (d + 1) t x y = (match P.underlying t with
      | some (.struct fs) => match P.stoodInHeld t, aggL x, aggL y with
        | false, some xs, some ys => eqFieldsR P (eqR P g d) xs ys fs.toList
        | _, _, _ => none
      | some (.array len elem) => match sizeB P elem, aggL x, aggL y with
        | some n, some xs, some ys => eqElemsR P (eqR P g d) elem n xs ys (List.range len)
        | _, _, _ => none
      | _ => eqLeaf P g t x y) := rfl
    rw [eq] at h
    intro w
    rw [show d + 1 + k = (d + k) + 1 from by omega]
    split at h
    · rename_i fs hu
      split at h
      · rename_i l m hst hl hm
        obtain ⟨xs, rfl, rl⟩ := aggL_rel hl hx
        obtain ⟨ys, rfl, rm⟩ := aggL_rel hm hy
        have hfs : P.underlying t = some (.struct (P.fieldsOf t)) := by simp [Program.fieldsOf, hu]
        have hfe : P.fieldsOf t = fs := by simp [Program.fieldsOf, hu]
        rw [run_equalIn_struct w _ t xs ys hfs (by simpa using hst), hfe]
        exact eqFieldsR_run (fun t x y u v q hx hy hq w => eqR_run hT d k t x y u v q hx hy hq w) rl rm _ _ h w
      · cases h
    · rename_i len elem hu
      split at h
      · rename_i n l m hn hl hm
        obtain ⟨xs, rfl, rl⟩ := aggL_rel hl hx
        obtain ⟨ys, rfl, rm⟩ := aggL_rel hm hy
        exact run_equalIn_arrayR _ _ _ _ _ _ _ rl rm hu hn (fun t x y u v q hx hy hq w => eqR_run hT d k t x y u v q hx hy hq w) q h w
      · cases h
    · exact eqLeaf_run hT hx hy h w

omit [Val] in
theorem eqGuard_off {op : BinOp} {ty : TypeId} {a b : Operand} {u v : Value} (hg : P.eqGuardType P.depth ty = false) (hn : ¬ (u = .nilIface ∧ v = .nilIface)) (w : World) : (eqGuard op ty a b u v).run P w = .ok () w := by
  by_cases hq : ∃ xs ys, u = .agg xs ∧ v = .agg ys
  · obtain ⟨xs, ys, rfl, rfl⟩ := hq
    exact run_eqGuard_agg (P := P) w op ty a b xs ys hg
  · exact guard_other (fun xs ys h => hq ⟨xs, ys, h⟩) hn w
theorem fit_extern (hT : TOK P g) (G : CfgOK P g) (H : HInv ro base w0 E h w) {f : FuncId} {args : List RV} {vs : List Value} {e : Eff} (ha : All2 (VRel E) args vs) (hs : externOp g h f args = some e) :
    Fits ro base w0 E h w ((callFunc f vs.toArray).run P w) e := by
  unfold externOp at hs
  split at hs
  · rename_i e' he
    cases hs
    unfold exOp at he
    split at he
    · rename_i hfl
      split at he
      · rename_i r hr
        split at he
        · rename_i hfr
          cases he
          have hvs : vs = args.map cv := VRels.fn _ _ _ (VRels_iff.2 ha) (VRels_iff.2 (rel_cvs args hfl))
          rw [hvs]
          exact ⟨cv r, rel_cv hfr, .inl (hT.ex f args r hr hfl w)⟩
        · cases he
      · cases he
    · cases he
  · exact fit_extern0 G H ha hs
theorem fit_callAt (hT : TOK P g) (G : CfgOK P g) (H : HInv ro base w0 E h w) {f : FuncId} {args : List RV} {vs : List Value} {e : Eff} (ha : All2 (VRel E) args vs) (hs : callAt P g h f args = some e) :
    Fits ro base w0 E h w ((callFunc f vs.toArray).run P w) e := by
  unfold callAt at hs
  split at hs
  · rename_i hb
    cases hs
    exact ⟨vs, ha, isBody_true hb _ w⟩
  · exact fit_extern hT G H ha hs
  · cases hs

theorem fit_callOp (hT : TOK P g) (G : CfgOK P g) (H : HInv ro base w0 E h w) {f : RV} {uf : Value} {args : List RV} {vs : Array Value} {e : Eff} (hf : VRel E f uf) (ha : All2 (VRel E) args vs.toList) (hs : callOp P g h f args = some e) :
    Fits ro base w0 E h w ((do let d ← Deferred.ofValue uf vs; invoke d.target d.args : Sem Next).run P w) e := by
  unfold callOp at hs
  split at hs
  · rename_i k first cap
    cases hf
    have hall : All2 (VRel E) (first.toList.map .pl ++ args ++ cap.toList.map .pl) (first ++ vs ++ cap).toList := by
      simp only [Array.toList_append]
      exact ((All2.pls _).append ha).append (All2.pls _)
    have := fit_callAt hT G H hall hs
    rw [Array.toArray_toList] at this
    simpa [Deferred.ofValue, invoke] using this
  · rename_i k first cap
    obtain ⟨a', c', rfl, h1, h2⟩ := hf
    have hall : All2 (VRel E) (first ++ args ++ cap) (a' ++ vs ++ c').toList := by
      simp only [Array.toList_append]
      exact ((VRels_iff.1 h1).append ha).append (VRels_iff.1 h2)
    have := fit_callAt hT G H hall hs
    rw [Array.toArray_toList] at this
    simpa [Deferred.ofValue, invoke] using this
  · rename_i b
    cases hs
    obtain ⟨p, hp, rfl⟩ := hf
    refine ⟨p, vs.toList, hp, ha, fun rec hrec hsz => ?_⟩
    have hy := run_yield (P := P) (args := vs) hrec (by simpa using hsz)
    simpa [Deferred.ofValue, invoke] using hy
  · cases hs

end
omit [Val] in
theorem eqO_eq {x y : Option RV} (h : eqO x y = true) : x = y := by
  cases x with
  | none => cases y with
    | none => rfl
    | some y => cases h
  | some x => cases y with
    | none => cases h
    | some y => exact congrArg some (eqS_eq h)
omit [Val] in
theorem lplook_mem (i s : Nat) (lo hi : Option RV) (j a : Nat) : ∀ T : List LPE, lplook T i s lo hi = some (j, a) → ⟨i, s, lo, hi, j, a⟩ ∈ T
  | [], h => by cases h
  | e :: T, h => by
    have go : lplook T i s lo hi = some (j, a) → ⟨i, s, lo, hi, j, a⟩ ∈ e :: T := fun h => List.mem_cons_of_mem _ (lplook_mem i s lo hi j a T h)
    replace h : (match Nat.beq e.i i with
      | true => match Nat.beq e.s s with
        | true => match eqO e.lo lo with
          | true => match eqO e.hi hi with | true => some (e.j, e.a) | false => lplook T i s lo hi
          | false => lplook T i s lo hi
        | false => lplook T i s lo hi
      | false => lplook T i s lo hi) = some (j, a) := h
    split at h
    · rename_i h1
      split at h
      · rename_i h2
        split at h
        · rename_i h3
          split at h
          · rename_i h4
            obtain ⟨i', s', lo', hi', j', a'⟩ := e
            cases h
            obtain rfl := Nat.eq_of_beq_eq_true h1
            obtain rfl := Nat.eq_of_beq_eq_true h2
            obtain rfl := eqO_eq h3
            obtain rfl := eqO_eq h4
            exact List.mem_cons_self
          · exact go h
        · exact go h
      · exact go h
    · exact go h
omit [Val] in
theorem memZ_mem (j : Nat) : ∀ l : List Nat, memZ l j = true → j ∈ l
  | [], h => by cases h
  | e :: l, h => by
    replace h : (match Nat.beq e j with | true => true | false => memZ l j) = true := h
    split at h
    · rename_i h1
      obtain rfl := Nat.eq_of_beq_eq_true h1
      exact List.mem_cons_self
    · exact List.mem_cons_of_mem _ (memZ_mem j l h)
omit [Val] in
theorem lblook0_mem (j k : Nat) : ∀ T : List LBE, lblook0 T j = some k → ⟨none, j, k⟩ ∈ T
  | [], h => by cases h
  | e :: T, h => by
    have go : lblook0 T j = some k → ⟨none, j, k⟩ ∈ e :: T := fun h => List.mem_cons_of_mem _ (lblook0_mem j k T h)
    obtain ⟨i', j', k'⟩ := e
    cases i' with
    | none =>
      replace h : (match Nat.beq j' j with | true => some k' | false => lblook0 T j) = some k := h
      split at h
      · rename_i h1
        obtain rfl := Nat.eq_of_beq_eq_true h1
        cases h
        exact List.mem_cons_self
      · exact go h
    | some i' => exact go h
omit [Val] in
theorem lblook_mem (i j k : Nat) : ∀ T : List LBE, lblook T i j = some k → ⟨some i, j, k⟩ ∈ T
  | [], h => by cases h
  | e :: T, h => by
    have go : lblook T i j = some k → ⟨some i, j, k⟩ ∈ e :: T := fun h => List.mem_cons_of_mem _ (lblook_mem i j k T h)
    obtain ⟨i', j', k'⟩ := e
    cases i' with
    | none => exact go h
    | some i' =>
      replace h : (match Nat.beq i' i with | true => (match Nat.beq j' j with | true => some k' | false => lblook T i j) | false => lblook T i j) = some k := h
      split at h
      · rename_i h0
        split at h
        · rename_i h1
          obtain rfl := Nat.eq_of_beq_eq_true h0
          obtain rfl := Nat.eq_of_beq_eq_true h1
          cases h
          exact List.mem_cons_self
        · exact go h
      · exact go h
omit [Val] in
theorem takeN_some : ∀ (n : Nat) (l : List RV), n ≤ l.length → takeN n l = some (l.take n)
  | 0, l, _ => rfl
  | n + 1, [], h => by simp at h
  | n + 1, x :: l, h => by
    show (match takeN n l with | some r => some (x :: r) | none => none) = _
    rw [takeN_some n l (by simpa using h)]
    rfl
omit [Val] in
theorem seg_some : ∀ (l : List RV) (o n : Nat), o + n ≤ l.length → seg l o n = some ((l.drop o).take n)
  | l, 0, n, h => takeN_some n l (by simpa using h)
  | [], o + 1, n, h => by simp at h
  | x :: l, o + 1, n, h => seg_some l o n (by simp at h; omega)
end Go.Ri
