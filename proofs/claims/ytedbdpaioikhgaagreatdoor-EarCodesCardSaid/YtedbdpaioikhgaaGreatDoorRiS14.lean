/- An interpreter for calls whose arguments are closed or names, and its soundness: a part of the proofs. -/
import Derived.Test.YtedbdpaioikhgaaGreatDoorRiS13
namespace Go.Ri
open Go Go.RowKit
variable [Val]

section
variable {P : Program} {g : Cfg} {C : CallF} {t : List RV} {h : RH}

def valOrSame (e : Eff) : Prop := (∃ v, e = .val v) ∨ (∃ v, e = .same v)

omit [Val] in
theorem map_val {x : Option RV} {e : Eff} (h : x.map Eff.val = some e) : valOrSame e := by
  obtain ⟨v, _, rfl⟩ := optMap h
  exact .inl ⟨v, rfl⟩
omit [Val] in
theorem map_same {x : Option RV} {e : Eff} (h : x.map Eff.same = some e) : valOrSame e := by
  obtain ⟨v, _, rfl⟩ := optMap h
  exact .inr ⟨v, rfl⟩

omit [Val] in
theorem mBin_val {op : BinOp} {ty : TypeId} {x y : RV} {e : Eff} (hs : mBin P op ty x y = some e) : valOrSame e := by
  unfold mBin at hs
  split at hs
  · unfold binII at hs
    split at hs
    · exact map_val hs
    · cases hs
  · unfold fastBool at hs
    split at hs
    · cases hs; exact .inl ⟨_, rfl⟩
    · cases hs; exact .inl ⟨_, rfl⟩
    · cases hs
  · exact map_val hs
  · exact map_val hs
  · unfold binRef at hs
    split at hs
    · cases hq : eqlOp P ty x y with
      | none => rw [hq] at hs; cases hs
      | some q => rw [hq] at hs; cases hs; exact .inl ⟨_, rfl⟩
    · cases hq : eqlOp P ty x y with
      | none => rw [hq] at hs; cases hs
      | some q => rw [hq] at hs; cases hs; exact .inl ⟨_, rfl⟩
    · cases hs

omit [Val] in
theorem tlook_same {c : TC} {x y : RV} {e : Eff} (h : (tlook g.T c x y).map Eff.same = some e) : valOrSame e := map_same h
omit [Val] in
theorem mBinS_val {op : BinOp} {ty : TypeId} {x y : RV} {e : Eff} (hs : mBinS P g op ty x y = some e) : valOrSame e := by
  unfold mBinS at hs
  split at hs
  · rename_i e' he
    cases hs
    exact mBin_val he
  · unfold symBin at hs
    split at hs
    · cases hs
    · split at hs
      · obtain ⟨q, _, rfl⟩ : ∃ q, symEq P g ty x y = some q ∧ e = .val (.pl (.bool q)) := by
          cases hq : symEq P g ty x y with
          | none => rw [hq] at hs; cases hs
          | some q => rw [hq] at hs; cases hs; exact ⟨q, rfl, rfl⟩
        exact .inl ⟨_, rfl⟩
      · obtain ⟨q, _, rfl⟩ : ∃ q, symEq P g ty x y = some q ∧ e = .val (.pl (.bool !q)) := by
          cases hq : symEq P g ty x y with
          | none => rw [hq] at hs; cases hs
          | some q => rw [hq] at hs; cases hs; exact ⟨q, rfl, rfl⟩
        exact .inl ⟨_, rfl⟩
      · exact map_same hs
omit [Val] in
theorem memC_pl {op : Op} (hp : (isP op || isL op) = true) {e : Eff} (hs : (memC P g op).f t h = some e) : valOrSame e := by
  cases op <;> simp only [isP, isL, Bool.or_self, Bool.or_false, Bool.or_true, Bool.false_eq_true] at hp <;> simp only [memC] at hs
  case move x => cases hs; exact .inr ⟨_, rfl⟩
  case assign x => cases hs; exact .inr ⟨_, rfl⟩
  case pick c x y =>
    unfold mPick at hs
    split at hs
    · cases hs; exact .inr ⟨_, rfl⟩
    · cases hs
  case build ty ps => exact map_val hs
  case load ty x =>
    unfold mLoad at hs
    split at hs
    · cases hs; exact .inr ⟨_, rfl⟩
    · exact map_same hs
  case nilCheck x =>
    unfold mNil at hs
    split at hs
    · cases hs; exact .inr ⟨_, rfl⟩
    · cases hs
  case binOp op ty x y yt => exact mBinS_val hs
  case unOp op ty x =>
    unfold mUn at hs
    split at hs
    · split at hs
      · rename_i e' he
        cases hs
        unfold mNot at he
        split at he
        · cases he; exact .inl ⟨_, rfl⟩
        · cases he
      · unfold symNot at hs
        split at hs
        · exact map_same hs
        · cases hs
    · cases hs
  case makeFunc f x y => cases hs; exact .inl ⟨_, rfl⟩
  case index ty x i =>
    unfold mIndex at hs
    have hsym : ∀ x i, symIndex P g ty x i = some e → valOrSame e := fun x i hs => by
      unfold symIndex at hs
      split at hs
      · exact map_same hs
      · cases hs
    split at hs
    · exact map_val hs
    · unfold aggIndex at hs
      split at hs
      · split at hs
        · split at hs
          · exact map_same hs
          · cases hs
        · cases hs
      · cases hs
    · exact hsym _ _ hs
    · exact hsym _ _ hs
    · cases hs
  case fieldAddr s x f => exact map_val hs
  case field s x f => exact map_val hs
  case indexAddr ty x i =>
    unfold mIndexAddr at hs
    split at hs
    · cases hs; exact .inl ⟨_, rfl⟩
    · unfold elAddr at hs
      split at hs
      · split at hs
        · split at hs
          · cases hs; exact .inl ⟨_, rfl⟩
          · cases hs
        · cases hs
      · cases hs
  case extract x i =>
    unfold mExtract at hs
    split at hs
    · cases hq : nthV _ i with
      | none => rw [hq] at hs; cases hs
      | some v => rw [hq] at hs; cases hs; exact .inr ⟨_, rfl⟩
    · exact map_same hs
    · cases hs

omit [Val] in
theorem pureOp_kind {o : Oper} {e : Eff} (hs : pureOp P o t = some e) : (∃ v, e = .val v) ∨ ∃ f as, e = .call f as := by
  unfold pureOp at hs
  split at hs
  · cases hs
  · split at hs
    · split at hs
      · cases hs; exact .inl ⟨_, rfl⟩
      · cases hs; exact .inl ⟨_, rfl⟩
      · cases hs; exact .inr ⟨_, _, rfl⟩
      · cases hs
    · cases hs

omit [Val] in
theorem effC_pl {o : Oper} (hp : (isP o.op || isL o.op) = true) {e : Eff} (hs : effC P g o t h = some e) : valOrSame e := by
  unfold effC orElse at hs
  split at hs
  · rename_i e' he
    cases hs
    exact memC_pl hp he
  · unfold noCall at hs
    rw [hp] at hs
    split at hs
    · cases hs
    · rename_i hne
      rcases pureOp_kind hs with ⟨v, rfl⟩ | ⟨f, as, rfl⟩
      · exact .inl ⟨v, rfl⟩
      · exact absurd hs (hne f as)

omit [Val] in
theorem memC_h {op : Op} (hp : isP op = true) (h h' : RH) : (memC P g op).f t h = (memC P g op).f t h' := by
  cases op <;> simp only [isP, Bool.false_eq_true] at hp <;> rfl
omit [Val] in
theorem effC_h {o : Oper} (hp : isP o.op = true) (h h' : RH) : effC P g o t h = effC P g o t h' := by
  unfold effC
  rw [memC_h hp h h']

omit [Val] in
theorem appE_val {e : Eff} (he : valOrSame e) {d : Option Tmp} {s1 : St} (hs : appE g C t h d e = some s1) : ∃ v, (∀ t' h', appE g C t' h' d e = some ⟨putT t' d v, h'⟩) ∧ s1 = ⟨putT t d v, h⟩ := by
  rcases he with ⟨v, rfl⟩ | ⟨v, rfl⟩
  · cases hs; exact ⟨v, fun _ _ => rfl, rfl⟩
  · cases hs; exact ⟨v, fun _ _ => rfl, rfl⟩

omit [Val] in
/-- What a step does to the temporaries. -/
theorem stepW_t {ops : Array Oper} {o : Oper} {s s1 : St} (hs : stepW P g C ops o s = some s1) : ∃ u, s1.t = putT s.t o.dst u := by
  rw [stepW_eq] at hs
  have go : (effC P g o s.t s.h).bind (appE g C s.t s.h o.dst) = some s1 → ∃ u, s1.t = putT s.t o.dst u := fun hb => by
    cases he : effC P g o s.t s.h with
    | none => rw [he] at hb; cases hb
    | some e =>
      rw [he] at hb
      simp only [Option.bind_some] at hb
      cases e with
      | call f args =>
        simp only [appE] at hb
        cases hd : doCall g C f args s.h with
        | none => rw [hd] at hb; cases hb
        | some p => rw [hd] at hb; cases hb; exact ⟨_, rfl⟩
      | val v => cases hb; exact ⟨_, rfl⟩
      | same v => cases hb; exact ⟨_, rfl⟩
      | setB v b ob => cases hb; exact ⟨_, rfl⟩
      | newB v ob => cases hb; exact ⟨_, rfl⟩
      | moveB v b ob => cases hb; exact ⟨_, rfl⟩
  split at hs
  · exact go hs
  · split at hs
    · cases hs
    split at hs
    · exact go hs
    · cases hs; exact ⟨_, rfl⟩

omit [Val] in
/-- A step of an operation that keeps the heap. -/
theorem stepW_pl {ops : Array Oper} {o : Oper} {s s1 : St} (hp : (isP o.op || isL o.op) = true) (hs : stepW P g C ops o s = some s1) :
    ∃ v, s1 = ⟨putT s.t o.dst v, s.h⟩ ∧ ∀ d u h', (∀ k, d = some k → k ∉ o.looksAt ops) → (isP o.op = true ∨ h' = s.h) → stepW P g C ops o ⟨putT s.t d u, h'⟩ = some ⟨putT (putT s.t d u) o.dst v, h'⟩ := by
  rw [stepW_eq] at hs
  have eff : ∀ d u h', (∀ k, d = some k → k ∉ o.looksAt ops) → (isP o.op = true ∨ h' = s.h) → effC P g o (putT s.t d u) h' = effC P g o s.t s.h := fun d u h' hd hh => by
    rw [effC_put (looks_spec hd)]
    rcases hh with hh | rfl
    · exact effC_h hh _ _
    · rfl
  have go : (effC P g o s.t s.h).bind (appE g C s.t s.h o.dst) = some s1 →
      ∃ v, s1 = ⟨putT s.t o.dst v, s.h⟩ ∧ ∀ d u h', (∀ k, d = some k → k ∉ o.looksAt ops) → (isP o.op = true ∨ h' = s.h) → (effC P g o (putT s.t d u) h').bind (appE g C (putT s.t d u) h' o.dst) = some ⟨putT (putT s.t d u) o.dst v, h'⟩ := fun hb => by
    cases he : effC P g o s.t s.h with
    | none => rw [he] at hb; cases hb
    | some e =>
      rw [he] at hb
      obtain ⟨v, h1, h2⟩ := appE_val (effC_pl hp he) hb
      refine ⟨v, h2, fun d u h' hd hh => ?_⟩
      rw [eff d u h' hd hh, he]
      exact h1 _ _
  cases hg : o.guard with
  | none =>
    rw [hg] at hs
    obtain ⟨v, h1, h2⟩ := go hs
    refine ⟨v, h1, fun d u h' hd hh => ?_⟩
    rw [stepW_eq, hg]
    exact h2 d u h' hd hh
  | some p =>
    obtain ⟨j, want⟩ := p
    rw [hg] at hs
    simp only at hs
    split at hs
    · cases hs
    rename_i hsym
    split at hs
    · rename_i hy
      obtain ⟨v, h1, h2⟩ := go hs
      refine ⟨v, h1, fun d u h' hd hh => ?_⟩
      rw [stepW_eq, hg]
      simp only [yieldedR_put hd hg, symAt_put hd hg]
      rw [if_neg hsym, if_pos hy]
      exact h2 d u h' hd hh
    · rename_i hy
      cases hs
      refine ⟨_, rfl, fun d u h' hd hh => ?_⟩
      rw [stepW_eq, hg]
      simp only [yieldedR_put hd hg, symAt_put hd hg]
      rw [if_neg hsym, if_neg hy]

omit [Val] in
theorem getD_set_mono {listed : Array Bool} {i j : Nat} (h : listed.getD j true = true) : (listed.setIfInBounds i true).getD j true = true := by
  by_cases hij : i = j
  · subst hij
    by_cases hlt : i < listed.size
    · simp [hlt]
    · simp
  · rw [getD_set_ne true hij]; exact h

omit [Val] in
theorem firstOK_mono (others : Op → Bool) (ops : Array Oper) : Mono (firstOK others ops) := by
  intro listed i j h
  unfold firstOK at h ⊢
  cases ho : ops[i]? with
  | none => rw [ho] at h; cases h
  | some oi =>
    rw [ho] at h
    simp only [Bool.and_eq_true, Bool.or_eq_true] at h ⊢
    obtain ⟨h1, h2⟩ := h
    refine ⟨?_, ?_⟩
    · unfold Region.free at h1 ⊢
      rw [ho] at h1 ⊢
      simp only [List.all_eq_true, Bool.or_eq_true] at h1 ⊢
      intro k hk
      rcases h1 k hk with (h1 | h1) | h1
      · exact .inl (.inl h1)
      · exact .inl (.inr (getD_set_mono h1))
      · exact .inr h1
    · rcases h2 with h2 | ⟨h2, h3⟩
      · exact .inl h2
      · refine .inr ⟨h2, ?_⟩
        simp only [List.all_eq_true, Bool.or_eq_true] at h3 ⊢
        intro k hk
        rcases h3 k hk with (h3 | h3) | h3
        · exact .inl (.inl h3)
        · exact .inl (.inr (getD_set_mono h3))
        · exact .inr h3

omit [Val] in
/-- What firstOK says of an operation that may come before. -/
theorem firstOK_spec {others : Op → Bool} {ops : Array Oper} {listed : Array Bool} {i j : Nat} {oi oj : Oper} (h : firstOK others ops listed i = true) (hi : ops[i]? = some oi) (hir : i ∈ Region.ready .any ops listed)
    (hj : ops[j]? = some oj) (hjr : j ∈ Region.ready .any ops listed) (hne : j ≠ i) : oi.apart ops oj = true ∧ (isP oi.op = true ∨ (isL oi.op = true ∧ others oj.op = true)) := by
  obtain ⟨hui, _⟩ := mem_ready.1 hir
  obtain ⟨huj, oj', hoj', hall⟩ := mem_ready.1 hjr
  rw [hj] at hoj'
  cases hoj'
  have hno : ∀ e ∈ oj.after, Region.binds .any e = true → e.on ≠ i := fun e he hb heq => by
    have h1 := hall e he hb
    rw [heq] at h1
    rcases Nat.lt_or_ge i listed.size with h' | h'
    · simp [h'] at hui h1; rw [hui] at h1; cases h1
    · simp [Array.getElem?_eq_none h'] at h1
  unfold firstOK at h
  rw [hi] at h
  simp only [Bool.and_eq_true, Bool.or_eq_true] at h
  obtain ⟨hfree, hk⟩ := h
  refine ⟨Region.free_spec hi hfree j oj hj hne huj hno, ?_⟩
  rcases hk with hk | ⟨hk, hl⟩
  · exact .inl hk
  · refine .inr ⟨hk, ?_⟩
    simp only [List.all_eq_true, List.mem_range] at hl
    have := hl j (Array.getElem?_eq_some_iff.1 hj).1
    simp only [hj, Bool.or_eq_true, beq_iff_eq, hne, false_or, huj, Bool.false_eq_true] at this
    rcases this with h1 | h1
    · obtain ⟨e, he, hb⟩ := Array.any_eq_true'.1 h1
      simp only [Bool.and_eq_true, beq_iff_eq] at hb
      exact absurd hb.2 (hno e he hb.1)
    · exact h1

omit [Val] in
theorem com_at (ops : Array Oper) : Com (stepAt P g C ops) (firstOK plain2 ops) ops := by
  intro listed s s1 s2 i j hf hi hj hne h1 h2
  unfold stepAt at h1 h2 ⊢
  cases hoi : ops[i]? with
  | none => rw [hoi] at h1; cases h1
  | some oi =>
    cases hoj : ops[j]? with
    | none => rw [hoj] at h2; cases h2
    | some oj =>
      rw [hoi] at h1
      rw [hoj] at h2
      simp only at h1 h2 ⊢
      obtain ⟨hap, hk⟩ := firstOK_spec hf hoi hi hoj hj hne
      obtain ⟨a1, a2, a3⟩ := Oper.apart_spec hap
      have hpl : (isP oi.op || isL oi.op) = true := by rcases hk with hk | ⟨hk, _⟩ <;> simp [hk]
      obtain ⟨v, rfl, hv⟩ := stepW_pl hpl h1
      rw [stepW_put hap] at h2
      cases hq : stepW P g C ops oj ⟨s.t, s.h⟩ with
      | none => rw [hq] at h2; cases h2
      | some s2' =>
        rw [hq] at h2
        cases h2
        refine ⟨s2', rfl, ?_⟩
        obtain ⟨u, hu⟩ := stepW_t hq
        simp only at hu
        have hh : isP oi.op = true ∨ s2'.h = s.h := by
          rcases hk with hk | ⟨_, hk⟩
          · exact .inl hk
          · obtain ⟨v', hv', _⟩ := stepW_pl (by simpa [plain2] using hk) hq
            exact .inr (by rw [hv'])
        have := hv oj.dst u s2'.h a3 hh
        rw [← hu] at this
        exact this

omit [Val] in
theorem isL_load {op : Op} (h : isL op = true) : ∃ ty x, op = .load ty x := by
  cases op <;> simp [isL] at h
  exact ⟨_, _, rfl⟩

omit [Val] in
theorem seg_mono {h X : RH} {b o n : Nat} {l : List RV} (hg : getCells h b o n = some l) : getCells (h ++ X) b o n = some l := by
  unfold getCells at hg ⊢
  have : ∀ r, lkp h b = some r → lkp (h ++ X) b = some r := fun r hr => by
    rw [lkp_eq] at hr ⊢
    have hlt : b < h.length := at?_lt hr
    rw [List.getElem?_append_left hlt]
    exact hr
  split at hg
  · rename_i l0 e room froz hl
    rw [this _ hl]
    exact hg
  · rename_i l0 e hl
    rw [this _ hl]
    exact hg
  · cases hg
omit [Val] in
theorem loadOp_mono {ro : Ro} {h X : RH} {ty : TypeId} {x v : RV} (hl : loadOp P ro h ty x = some v) : loadOp P ro (h ++ X) ty x = some v := by
  unfold loadOp at hl ⊢
  split at hl
  · split at hl
    · rename_i agg sz _ _ _ b o
      cases hg : getCells h b o (cellsN agg sz) with
      | none => rw [hg] at hl; cases hl
      | some l =>
        rw [hg] at hl
        rw [seg_mono hg]
        exact hl
    · exact hl
    · cases hl
  · cases hl

omit [Val] in
theorem loadOp_el {ro : Ro} {h : RH} {ty : TypeId} {b i s : Nat} : loadOp P ro h ty (.el b i s) = none := by
  unfold loadOp
  split
  · rfl
  · rfl
omit [Val] in
theorem elLoad_mono {h X : RH} {ty : TypeId} {x v : RV} (hl : elLoad P g h ty x = some v) : elLoad P g (h ++ X) ty x = some v := by
  unfold elLoad at hl ⊢
  split at hl
  · rename_i b i s agg sz ha hs
    have key : ∀ l, rowOf h b = some l → rowOf (h ++ X) b = some l := fun l hr => by
      unfold rowOf at hr ⊢
      have : ∀ r, lkp h b = some r → lkp (h ++ X) b = some r := fun r hr => by
        rw [lkp_eq] at hr ⊢
        have hlt : b < h.length := at?_lt hr
        rw [List.getElem?_append_left hlt]
        exact hr
      split at hr
      · rename_i l0 e room fz hk
        rw [this _ hk]
        exact hr
      · rename_i l0 e hk
        rw [this _ hk]
        exact hr
      · cases hr
    (try simp only [ha, hs])
    split at hl
    · rename_i l hb hr
      rw [key l hr, hb]
      exact hl
    · cases hl
  · cases hl
omit [Val] in
theorem mLoad_same {h : RH} {ty : TypeId} {x : RV} {e : Eff} (hl : mLoad P g h ty x = some e) : ∃ r, e = .same r := by
  unfold mLoad at hl
  split at hl
  · cases hl; exact ⟨_, rfl⟩
  · obtain ⟨r, _, rfl⟩ := optMap hl
    exact ⟨r, rfl⟩
omit [Val] in
theorem mLoad_mono {h X : RH} {ty : TypeId} {x : RV} {e : Eff} (hl : mLoad P g h ty x = some e) : mLoad P g (h ++ X) ty x = some e := by
  unfold mLoad at hl ⊢
  split at hl
  · rename_i v hv
    rw [loadOp_mono hv]
    exact hl
  · obtain ⟨r, hr, rfl⟩ := optMap hl
    have hel : ∃ b i s, x = .el b i s := by
      unfold elLoad at hr
      split at hr
      · exact ⟨_, _, _, rfl⟩
      · cases hr
    obtain ⟨b, i, s, rfl⟩ := hel
    rw [loadOp_el]
    simp only [elLoad_mono hr, Option.map_some]
omit [Val] in
theorem strictOK_put {o : Oper} {d : Option Tmp} {v : RV} (hx : ∀ x ∈ o.op.operands, ∀ k, d = some k → x ≠ .tmp k) : strictOK P g C o (putT t d v) h = strictOK P g C o t h := by
  unfold strictOK
  have e1 : (memC P g o.op).f (putT t d v) h = (memC P g o.op).f t h := memC_put hx h
  have e2 : effR P g o (putT t d v) h = effR P g o t h := effC_put hx h
  rw [e2]
  split
  · exact congrArg Option.isSome e1
  · rfl

omit [Val] in
theorem stepAtS_at (ops : Array Oper) (s : St) (i : Nat) (s1 : St) (h : stepAtS P g C ops s i = some s1) : stepAt P g C ops s i = some s1 := by
  unfold stepAtS at h
  unfold stepAt
  split at h
  · rename_i o ho
    split at h
    · split at h
      · exact h
      · cases h
    · cases h
  · cases h

omit [Val] in
theorem com_strict (ops : Array Oper) : Com (stepAtS P g C ops) (firstOK plain3 ops) ops := by
  intro listed s s1 s2 i j hf hi hj hne h1 h2
  unfold stepAtS at h1 h2 ⊢
  cases hoi : ops[i]? with
  | none => rw [hoi] at h1; cases h1
  | some oi =>
    cases hoj : ops[j]? with
    | none => rw [hoj] at h2; cases h2
    | some oj =>
      rw [hoi] at h1
      rw [hoj] at h2
      simp only at h1 h2 ⊢
      obtain ⟨hap, hk⟩ := firstOK_spec hf hoi hi hoj hj hne
      obtain ⟨a1, a2, a3⟩ := Oper.apart_spec hap
      have hpl : (isP oi.op || isL oi.op) = true := by rcases hk with hk | ⟨hk, _⟩ <;> simp [hk]
      cases hgi : oi.guard with
      | some p => rw [hgi] at h1; cases h1
      | none =>
        cases hgj : oj.guard with
        | some p => rw [hgj] at h2; cases h2
        | none =>
          rw [hgi] at h1
          rw [hgj] at h2
          simp only at h1 h2 ⊢
          split at h1
          · rename_i hsi
            split at h2
            · rename_i hsj
              obtain ⟨v, rfl, hv⟩ := stepW_pl hpl h1
              rw [stepW_put hap] at h2
              simp only at hsj
              rw [strictOK_put (looks_spec a1)] at hsj
              cases hq : stepW P g C ops oj ⟨s.t, s.h⟩ with
              | none => rw [hq] at h2; cases h2
              | some s2' =>
                rw [hq] at h2
                cases h2
                refine ⟨s2', by rw [hsj], ?_⟩
                obtain ⟨u, hu⟩ := stepW_t hq
                simp only at hu
                by_cases hh : isP oi.op = true ∨ s2'.h = s.h
                · have hstep := hv oj.dst u s2'.h a3 hh
                  rw [← hu] at hstep
                  have hst : strictOK P g C oi s2'.t s2'.h = true := by
                    rw [hu, strictOK_put (looks_spec a3)]
                    rcases hh with hh | hh
                    · unfold strictOK
                      have e1 : isL oi.op = false := by cases hop : oi.op <;> simp_all [isP, isL]
                      have e2 : isC oi.op = false := by cases hop : oi.op <;> simp_all [isP, isC]
                      rw [e1, e2]
                    · rw [hh]; exact hsi
                  rw [hst]
                  exact hstep
                · have hL : isL oi.op = true := by
                    rcases hk with hk | ⟨hk, _⟩
                    · exact absurd (.inl hk) hh
                    · exact hk
                  have hcj : isC oj.op = true := by
                    rcases hk with hk | ⟨_, hk⟩
                    · exact absurd (.inl hk) hh
                    · unfold plain3 at hk
                      simp only [Bool.or_eq_true] at hk
                      rcases hk with hk | hk
                      · exfalso
                        obtain ⟨v', hv', _⟩ := stepW_pl (by simpa using hk) hq
                        exact hh (.inr (by rw [hv']))
                      · exact hk
                  have hlj : isL oj.op = false := by
                    cases hop : oj.op <;> rw [hop] at hcj <;> first | rfl | (simp [isC] at hcj; done)
                  -- the call leaves what was there
                  have happ : ∃ X, s2'.h = s.h ++ X := by
                    unfold strictOK at hsj
                    rw [hlj, hcj] at hsj
                    simp only at hsj
                    rw [stepW_eq, hgj] at hq
                    simp only at hq
                    split at hsj
                    · rename_i f args he
                      rw [effR_eq] at he
                      rw [he] at hq
                      simp only [Option.bind_some, appE] at hq
                      obtain ⟨p, hp⟩ := Option.isSome_iff_exists.1 hsj
                      obtain ⟨r, h'⟩ := p
                      have : doCall g C f args s.h = some (r, h') := by unfold doCall; rw [hp]
                      rw [this] at hq
                      cases hq
                      exact isoCall_app hp
                    · cases hsj
                  obtain ⟨X, hX⟩ := happ
                  obtain ⟨ty, x, hop⟩ := isL_load hL
                  -- the load finds the same
                  have hload : ∃ r, mLoad P g s.h ty (ev s.t x) = some (.same r) := by
                    unfold strictOK at hsi
                    rw [hL] at hsi
                    simp only [hop, memC] at hsi
                    obtain ⟨e, he⟩ := Option.isSome_iff_exists.1 hsi
                    obtain ⟨r, rfl⟩ := mLoad_same he
                    exact ⟨r, he⟩
                  obtain ⟨r, hr⟩ := hload
                  have hev : ev s2'.t x = ev s.t x := by
                    rw [hu]
                    exact ev_put (looks_spec a3 x (by rw [hop]; simp [Op.operands]))
                  have hm1 : (memC P g oi.op).f s.t s.h = some (.same r) := by
                    rw [hop]
                    simp only [memC, hr]
                  have hm2 : (memC P g oi.op).f s2'.t s2'.h = some (.same r) := by
                    rw [hop]
                    simp only [memC, hev, hX, mLoad_mono hr]
                  have he1 : effC P g oi s.t s.h = some (.same r) := by unfold effC orElse; rw [hm1]
                  have he2 : effC P g oi s2'.t s2'.h = some (.same r) := by unfold effC orElse; rw [hm2]
                  have hst : strictOK P g C oi s2'.t s2'.h = true := by
                    unfold strictOK
                    rw [hL]
                    show ((memC P g oi.op).f s2'.t s2'.h).isSome = true
                    rw [hm2]
                    rfl
                  rw [hst]
                  simp only
                  rw [stepW_eq, hgi] at h1 ⊢
                  simp only [he1, he2, Option.bind_some, appE] at h1 ⊢
                  have hvr : putT s.t oi.dst r = putT s.t oi.dst v := by
                    have := Option.some.inj h1
                    exact congrArg St.t this
                  have : putT s2'.t oi.dst r = putT s2'.t oi.dst v := by
                    rw [hu, ← putT_comm a2, ← putT_comm a2, hvr]
                  rw [this]
            · cases h2
          · cases h1
end
end Go.Ri
