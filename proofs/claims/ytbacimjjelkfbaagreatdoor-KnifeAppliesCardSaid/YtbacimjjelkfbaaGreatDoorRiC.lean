/- An interpreter for calls whose arguments are closed or names, and its soundness: a part of the proofs. -/
import Derived.Test.YtbacimjjelkfbaaGreatDoorRiB
import Derived.Scope
import Derived.LoopN
namespace Go.Ri
open Go Go.RowKit
variable [Val]

section
variable {P : Program} {g : Cfg} {ro : Ro} {base : Nat} {w0 : World} {E : Env} {h : RH} {w : World} {t : List RV} {a : Act}

theorem fit_binII {op : BinOp} {ty : TypeId} {k k' : IntKind} {m n : Int} {a b : Operand} {e : Eff} (hs : binII op k m k' n = some e) :
    Fits ro base w0 E h w ((vSem (do eqGuard op ty a b (.int k m) (.int k' n); binOp op ty (.int k m) (.int k' n))).run P w) e := by
  unfold binII at hs
  split at hs
  · rename_i hk
    subst hk
    have hg : ∀ op, (eqGuard op ty a b (.int k m) (.int k n)).run P w = .ok () w := fun op => guard_other (by simp) (by simp) w
    cases hq : fastInt op k m n with
    | none => rw [hq] at hs; cases hs
    | some r =>
      rw [hq] at hs
      cases hs
      unfold fastInt at hq
      split at hq <;> cases hq <;> exact ⟨_, rfl, .inl (run_vSem (by simp [hg, binOp, Op.intArith, Op.intCmp]))⟩
  · cases hs

theorem fit_fastBool {op : BinOp} {ty : TypeId} {p q : Bool} {a b : Operand} {e : Eff} (hs : fastBool P op ty p q = some e) :
    Fits ro base w0 E h w ((vSem (do eqGuard op ty a b (.bool p) (.bool q); binOp op ty (.bool p) (.bool q))).run P w) e := by
  have hg : ∀ op, (eqGuard op ty a b (.bool p) (.bool q)).run P w = .ok () w := fun op => guard_other (by simp) (by simp) w
  unfold fastBool at hs
  split at hs
  · rename_i hu
    cases hs
    have h1 : binOp .eql ty (.bool p) (.bool q) = (do let r ← Op.equal ty (.bool p) (.bool q); pure (.bool r)) := rfl
    exact ⟨_, rfl, .inl (run_vSem (by simp [hg, h1, run_equal_bool w ty p q hu]))⟩
  · rename_i hu
    cases hs
    have h1 : binOp .neq ty (.bool p) (.bool q) = (do let r ← Op.equal ty (.bool p) (.bool q); pure (.bool !r)) := rfl
    exact ⟨_, rfl, .inl (run_vSem (by simp [hg, h1, run_equal_bool w ty p q hu]))⟩
  · cases hs

theorem fit_binSS {op : BinOp} {ty : TypeId} {p q : ByteArray} {a b : Operand} {e : Eff} (hs : binSS op p q = some e) :
    Fits ro base w0 E h w ((vSem (do eqGuard op ty a b (.string p) (.string q); binOp op ty (.string p) (.string q))).run P w) e := by
  have hg : ∀ op, (eqGuard op ty a b (.string p) (.string q)).run P w = .ok () w := fun op => guard_other (by simp) (by simp) w
  have hb : ∀ op, op ≠ .shl → op ≠ .shr → binOp op ty (.string p) (.string q) = Op.stringOp op p q := fun op h1 h2 => by cases op <;> first | rfl | exact absurd rfl h1 | exact absurd rfl h2
  unfold binSS at hs
  cases hq : fastStr op p q with
  | none => rw [hq] at hs; cases hs
  | some r =>
    rw [hq] at hs
    cases hs
    unfold fastStr at hq
    split at hq
    · cases hq
      refine ⟨_, rfl, .inl (run_vSem ?_)⟩
      rw [eqB_eq, ← ByteArray.toList_eq, ← ByteArray.toList_eq]
      simp [hg, hb, Op.stringOp]
    · cases hq
      refine ⟨_, rfl, .inl (run_vSem ?_)⟩
      rw [eqB_eq, ← ByteArray.toList_eq, ← ByteArray.toList_eq]
      simp [hg, hb, Op.stringOp]
    · split at hq
      · rename_i hle
        cases hq
        rw [lenB_eq, lenB_eq] at hle
        have hle' : p.size + q.size ≤ 1000000000 := hle
        refine ⟨_, rfl, .inl (run_vSem ?_)⟩
        have hmax : IntKind.i64.max = 9223372036854775807 := rfl
        have hno : ¬ (9223372036854775807 < (p.size : Int) + (q.size : Int)) := by omega
        rw [appB_eq]
        simp [hg, hb, Op.stringOp, hmax, hno]
        apply ByteArray.ext
        rw [ByteArray.data_append]
        apply Array.ext'
        simp
      · cases hq
    · cases hq

theorem fit_binAA {op : BinOp} {ty : TypeId} {xs ys : Array Value} {a b : Operand} {e : Eff} (hs : binAA P op ty xs ys = some e) :
    Fits ro base w0 E h w ((vSem (do eqGuard op ty a b (.agg xs) (.agg ys); binOp op ty (.agg xs) (.agg ys))).run P w) e := by
  unfold binAA at hs
  cases hq : fastAgg P op ty xs ys with
  | none => rw [hq] at hs; cases hs
  | some r =>
    rw [hq] at hs
    cases hs
    unfold fastAgg at hq
    split at hq
    · cases hq
    · rename_i hgt
      have hg := fun op => run_eqGuard_agg (P := P) w op ty a b xs ys (by simpa using hgt)
      split at hq
      · cases hv : eqV P 8 ty (.agg xs) (.agg ys) with
        | none => rw [hv] at hq; cases hq
        | some q =>
          rw [hv] at hq
          cases hq
          have he : (Op.equalIn 10000 ty (.agg xs) (.agg ys)).run P w = .ok q w := eqV_run 8 9992 _ _ _ _ hv w
          refine ⟨_, rfl, .inl (run_vSem ?_)⟩
          simp only [Sem.run_bind, hg, Result.andThen_ok, run_eql_struct, he]
      · cases hv : eqV P 8 ty (.agg xs) (.agg ys) with
        | none => rw [hv] at hq; cases hq
        | some q =>
          rw [hv] at hq
          cases hq
          have he : (Op.equalIn 10000 ty (.agg xs) (.agg ys)).run P w = .ok q w := eqV_run 8 9992 _ _ _ _ hv w
          refine ⟨_, rfl, .inl (run_vSem ?_)⟩
          simp only [Sem.run_bind, hg, Result.andThen_ok, run_neq_struct, he]
      · cases hq

theorem fit_bin (H : HInv ro base w0 E h w) {op : BinOp} {ty : TypeId} {x y : RV} {u v : Value} {a b : Operand} {e : Eff} (hx : VRel E x u) (hy : VRel E y v) (hs : mBin P op ty x y = some e) :
    Fits ro base w0 E h w ((vSem (do eqGuard op ty a b u v; binOp op ty u v)).run P w) e := by
  unfold mBin at hs
  split at hs
  · cases hx; cases hy; exact fit_binII hs
  · cases hx; cases hy; exact fit_fastBool hs
  · cases hx; cases hy; exact fit_binSS hs
  · cases hx; cases hy; exact fit_binAA hs
  · exact fit_ref H hx hy hs

theorem fit_symBin (hT : TOK P g) (_ : HInv ro base w0 E h w) {op : BinOp} {ty : TypeId} {x y : RV} {u v : Value} {a b : Operand} {e : Eff} (hx : VRel E x u) (hy : VRel E y v) (hs : symBin P g op ty x y = some e) :
    Fits ro base w0 E h w ((vSem (do eqGuard op ty a b u v; binOp op ty u v)).run P w) e := by
  have hint : ∀ (k : IntKind) (m n : Int) (op : BinOp), (eqGuard op ty a b (.int k m) (.int k n)).run P w = .ok () w := fun k m n op => guard_other (by simp) (by simp) w
  have hbool : ∀ (m n : Bool) (op : BinOp), (eqGuard op ty a b (.bool m) (.bool n)).run P w = .ok () w := fun m n op => guard_other (by simp) (by simp) w
  have hstr : ∀ (m n : ByteArray) (op : BinOp), (eqGuard op ty a b (.string m) (.string n)).run P w = .ok () w := fun m n op => guard_other (by simp) (by simp) w
  have eI : ∀ (k : IntKind) (m n : Int), (do eqGuard .eql ty a b (.int k m) (.int k n); binOp .eql ty (.int k m) (.int k n) : Sem Value).run P w = .ok (.bool (m == n)) w ∧
      (do eqGuard .neq ty a b (.int k m) (.int k n); binOp .neq ty (.int k m) (.int k n) : Sem Value).run P w = .ok (.bool !(m == n)) w := fun k m n =>
    ⟨by simp [hint, binOp, Op.intCmp], by simp [hint, binOp, Op.intCmp, bne]⟩
  have eB : P.underlying ty = some .bool → ∀ (m n : Bool), (do eqGuard .eql ty a b (.bool m) (.bool n); binOp .eql ty (.bool m) (.bool n) : Sem Value).run P w = .ok (.bool (m == n)) w ∧
      (do eqGuard .neq ty a b (.bool m) (.bool n); binOp .neq ty (.bool m) (.bool n) : Sem Value).run P w = .ok (.bool !(m == n)) w := fun hu m n => by
    have h1 : binOp .eql ty (.bool m) (.bool n) = (do let r ← Op.equal ty (.bool m) (.bool n); pure (.bool r)) := rfl
    have h2 : binOp .neq ty (.bool m) (.bool n) = (do let r ← Op.equal ty (.bool m) (.bool n); pure (.bool !r)) := rfl
    exact ⟨by simp [hbool, h1, run_equal_bool w ty m n hu], by simp [hbool, h2, run_equal_bool w ty m n hu]⟩
  have eS : ∀ (m n : ByteArray), (do eqGuard .eql ty a b (.string m) (.string n); binOp .eql ty (.string m) (.string n) : Sem Value).run P w = .ok (.bool (m.toList == n.toList)) w ∧
      (do eqGuard .neq ty a b (.string m) (.string n); binOp .neq ty (.string m) (.string n) : Sem Value).run P w = .ok (.bool !(m.toList == n.toList)) w := fun m n => by
    have hb : ∀ op, op ≠ .shl → op ≠ .shr → binOp op ty (.string m) (.string n) = Op.stringOp op m n := fun op h1 h2 => by cases op <;> first | rfl | exact absurd rfl h1 | exact absurd rfl h2
    exact ⟨by simp [hstr, hb, Op.stringOp], by simp [hstr, hb, Op.stringOp]⟩
  have key : ∀ q, symEq P g ty x y = some q → (do eqGuard .eql ty a b u v; binOp .eql ty u v : Sem Value).run P w = .ok (.bool q) w ∧ (do eqGuard .neq ty a b u v; binOp .neq ty u v : Sem Value).run P w = .ok (.bool !q) w := by
    clear hs
    intro q hq
    have known : ∀ x y : RV, VRel E x u → VRel E y v → eqKnown P g ty x y = some q → (do eqGuard .eql ty a b u v; binOp .eql ty u v : Sem Value).run P w = .ok (.bool q) w ∧ (do eqGuard .neq ty a b u v; binOp .neq ty u v : Sem Value).run P w = .ok (.bool !q) w := by
      intro x y hx hy hq
      unfold eqKnown at hq
      split at hq
      · rename_i b hb
        cases hq
        obtain ⟨_, f1, f2, k, m, n, e1, e2, e3⟩ := tlook_true hT hb
        rw [cv_rel f1 hx, e1, cv_rel f2 hy, e2]
        have : q = (m == n) := by simpa [cv] using e3
        subst this
        exact eI k m n
      · split at hq
        · rename_i b hb
          cases hq
          obtain ⟨_, f1, f2, m, n, e1, e2, e3⟩ := tlook_true hT hb
          rw [cv_rel f1 hx, e1, cv_rel f2 hy, e2]
          have : q = (m.toList == n.toList) := by simpa [cv] using e3
          subst this
          exact eS m n
        · split at hq
          · rename_i hu
            split at hq
            · rename_i b hb
              cases hq
              obtain ⟨_, f1, f2, m, n, e1, e2, e3⟩ := tlook_true hT hb
              rw [cv_rel f1 hx, e1, cv_rel f2 hy, e2]
              have : q = (m == n) := by simpa [cv] using e3
              subst this
              exact eB hu m n
            · cases hq
          · cases hq
    unfold symEq at hq
    split at hq
    · unfold eqScal at hq
      split at hq
      · rename_i k i k' j _ _ _ _
        split at hq
        · rename_i he
          cases hq
          have e := eqS_eq he
          cases e
          have hx : u = .int k (Val.I i) := hx
          have hy : v = .int k (Val.I i) := hy
          rw [hx, hy]
          simpa using eI k (Val.I i) (Val.I i)
        · exact known _ _ hx hy hq
      · rename_i i j _ _ _ _
        split at hq
        · rename_i he
          cases hq
          have e := Nat.eq_of_beq_eq_true he
          cases e
          have hx : u = .string (Val.S i) := hx
          have hy : v = .string (Val.S i) := hy
          rw [hx, hy]
          simpa using eS (Val.S i) (Val.S i)
        · exact known _ _ hx hy hq
      · rename_i i j _ _ _ _
        split at hq
        · rename_i he hu
          cases hq
          have e := Nat.eq_of_beq_eq_true he
          cases e
          have hx : u = .bool (Val.B i) := hx
          have hy : v = .bool (Val.B i) := hy
          rw [hx, hy]
          simpa using eB hu (Val.B i) (Val.B i)
        · exact known _ _ hx hy hq
      · exact known _ _ hx hy hq
    · unfold eqAgg at hq
      split at hq
      · rename_i l m hg hl hm
        have he := eqR_run hT 8 9992 ty x y u v q hx hy hq w
        have hg2 := fun op => run_eqGuard_agg (P := P) w op ty a b
        obtain ⟨xs, rfl, _⟩ := aggL_rel hl hx
        obtain ⟨ys, rfl, _⟩ := aggL_rel hm hy
        have hg3 := fun op => hg2 op xs ys hg
        exact ⟨by simp only [Sem.run_bind, hg3, Result.andThen_ok, run_eql_struct, he], by simp only [Sem.run_bind, hg3, Result.andThen_ok, run_neq_struct, he]⟩
      · cases hq
  unfold symBin at hs
  split at hs
  · cases hs
  · split at hs
    · cases hq : symEq P g ty x y with
      | none => rw [hq] at hs; cases hs
      | some q =>
        rw [hq] at hs
        cases hs
        exact ⟨_, rfl, .inl (run_vSem (key q hq).1)⟩
    · cases hq : symEq P g ty x y with
      | none => rw [hq] at hs; cases hs
      | some q =>
        rw [hq] at hs
        cases hs
        exact ⟨_, rfl, .inl (run_vSem (key q hq).2)⟩
    · cases hq : tlook g.T (.bin op) x y with
      | none => rw [hq] at hs; cases hs
      | some r =>
        rw [hq] at hs
        cases hs
        obtain ⟨f0, f1, f2, ht⟩ := tlook_true hT hq
        refine ⟨cv r, rel_cv f0, .inl (run_vSem ?_)⟩
        rw [cv_rel f1 hx, cv_rel f2 hy]
        exact ht P ty a b w

omit [Val] in
theorem lblook0_mem0 (j k : Nat) : ∀ T : List LBE, lblook0 T j = some k → (⟨none, j, k⟩ : LBE) ∈ T
  | [], h => by cases h
  | ⟨none, j', k'⟩ :: T, h => by
    have h : (match Nat.beq j' j with | true => some k' | false => lblook0 T j) = some k := h
    split at h
    · rename_i hj
      cases h
      obtain rfl := Nat.eq_of_beq_eq_true hj
      exact List.mem_cons_self
    · exact List.mem_cons_of_mem _ (lblook0_mem0 j k T h)
  | ⟨some i', j', k'⟩ :: T, h => List.mem_cons_of_mem _ (lblook0_mem0 j k T h)
theorem fit_slaNil (hT : TOK P g) {op : BinOp} {ty : TypeId} {x y : RV} {u v : Value} {a b : Operand} {e : Eff} (hx : VRel E x u) (hy : VRel E y v) (hs : slaNil P g op ty x y = some e) :
    Fits ro base w0 E h w ((vSem (do eqGuard op ty a b u v; binOp op ty u v)).run P w) e := by
  have key : ∀ (bb i s : Nat) (n c : Nat), lblook0 g.LB i ≠ none → VRel E (.slA bb i s) u → ∃ a m c2, u = .slice (some a) m c2 := fun bb i s n c hl hx => by
    obtain ⟨p, oa, m, cap, hp, hpv, hab, hs0, hn, hk, rfl⟩ := hx
    cases hq : lblook0 g.LB i with
    | none => exact absurd hq hl
    | some k =>
      obtain ⟨hne, _⟩ := hT.lb _ (lblook0_mem0 _ _ _ hq)
      obtain ⟨a, rfl, _⟩ := hab hne
      exact ⟨a, m, cap, rfl⟩
  unfold slaNil at hs
  split at hs
  · rename_i bb i s n c el hu
    cases hq : lblook0 g.LB i with
    | none => rw [hq] at hs; cases hs
    | some k =>
      rw [hq] at hs
      cases hs
      obtain ⟨a1, m, c2, rfl⟩ := key bb i s n c (by rw [hq]; exact fun h => by cases h) hx
      cases hy
      have h1 := eqIn_sl2 (P := P) 9999 hu a1 m c2 n c w
      have h3 : binOp .eql ty (.slice (some a1) m c2) (.slice none n c) = (do let r ← Op.equal ty (.slice (some a1) m c2) (.slice none n c); pure (.bool r)) := rfl
      have h2 : (Op.equal ty (.slice (some a1) m c2) (.slice none n c)).run P w = .ok false w := h1
      have hg : (eqGuard .eql ty a b (.slice (some a1) m c2) (.slice none n c)).run P w = .ok () w := guard_other (by simp) (by simp) w
      exact ⟨_, rfl, .inl (run_vSem (by simp [hg, h3, h2]))⟩
  · rename_i bb i s n c el hu
    cases hq : lblook0 g.LB i with
    | none => rw [hq] at hs; cases hs
    | some k =>
      rw [hq] at hs
      cases hs
      obtain ⟨a1, m, c2, rfl⟩ := key bb i s n c (by rw [hq]; exact fun h => by cases h) hx
      cases hy
      have h1 := eqIn_sl2 (P := P) 9999 hu a1 m c2 n c w
      have h3 : binOp .neq ty (.slice (some a1) m c2) (.slice none n c) = (do let r ← Op.equal ty (.slice (some a1) m c2) (.slice none n c); pure (.bool !r)) := rfl
      have h2 : (Op.equal ty (.slice (some a1) m c2) (.slice none n c)).run P w = .ok false w := h1
      have hg : (eqGuard .neq ty a b (.slice (some a1) m c2) (.slice none n c)).run P w = .ok () w := guard_other (by simp) (by simp) w
      exact ⟨_, rfl, .inl (run_vSem (by simp [hg, h3, h2]))⟩
  · cases hs
theorem fit_binS (hT : TOK P g) (H : HInv ro base w0 E h w) {op : BinOp} {ty : TypeId} {x y : RV} {u v : Value} {a b : Operand} {e : Eff} (hx : VRel E x u) (hy : VRel E y v) (hs : mBinS P g op ty x y = some e) :
    Fits ro base w0 E h w ((vSem (do eqGuard op ty a b u v; binOp op ty u v)).run P w) e := by
  unfold mBinS at hs
  split at hs
  · rename_i e' he
    cases hs
    exact fit_bin H hx hy he
  · split at hs
    · rename_i e' he
      cases hs
      exact fit_slaNil hT hx hy he
    · exact fit_symBin hT H hx hy hs

theorem fit_symConv (hT : TOK P g) {sT dT : TypeId} {x : RV} {u : Value} {e : Eff} (hx : VRel E x u) (hs : symConv P g sT dT x = some e) :
    Fits ro base w0 E h w ((vSem (convert sT dT u)).run P w) e := by
  unfold symConv at hs
  split at hs
  · rename_i k i k0 k' hu hu'
    cases hq : tlook g.T (.conv k') (.sym k i) (.sym k i) with
    | none => rw [hq] at hs; cases hs
    | some r =>
      rw [hq] at hs
      cases hs
      obtain ⟨f0, f1, f2, j, n, e1, e2⟩ := tlook_true hT hq
      refine ⟨cv r, rel_cv f0, .inl (run_vSem ?_)⟩
      rw [cv_rel f1 hx, e1, e2]
      simp [convert, run_under hu, run_under hu', Conv.intToInt]
  · cases hs

omit [Val] in
theorem push_fold : ∀ (ns : List Int) (acc : ByteArray), ns.foldl (fun r n => r.push (UInt8.ofNat n.toNat)) acc = ⟨(acc.data.toList ++ ns.map fun n => UInt8.ofNat n.toNat).toArray⟩
  | [], acc => by simp
  | n :: ns, acc => by
    rw [List.foldl_cons, push_fold ns]
    simp [ByteArray.push]
theorem fit_bytesStr (hT : TOK P g) (H : HInv ro base w0 E h w) {sT dT : TypeId} {x v : RV} {u : Value} (hx : VRel E x u) (hs : bytesStr P g h sT dT x = some v) : ∃ r, VRel E v r ∧ (convert sT dT u).run P w = .ok r w := by
  unfold bytesStr at hs
  split at hs
  · rename_i b o n s c e hu hd
    obtain ⟨p, k, hp, hk, hnk, rfl⟩ := hx
    split at hs
    · rename_i he
      split at hs
      · rename_i l hg
        obtain ⟨vs, g1, g2, g3⟩ := H.getCells_seg hg hp
        obtain ⟨ns, e1, e2⟩ := strM_rel (ms_ok hT) g1 hs
        refine ⟨_, e2, ?_⟩
        have hl := run_loadCells_list (P := P) w ⟨p.1, o, none⟩ vs g3
        rw [g2, e1] at hl
        rw [run_convert_bytes_string w sT dT e _ n k hu he hd, run_bytesToString w ⟨p.1, o, none⟩ n k ns hl, push_fold]
        simp
      · cases hs
    · cases hs
  · cases hs
theorem fit_strBytes (H : HInv ro base w0 E h w) {sT dT : TypeId} {x : RV} {u : Value} {e : Eff} (hx : VRel E x u) (hs : strBytes P h sT dT x = some e) : Fits ro base w0 E h w ((vSem (convert sT dT u)).run P w) e := by
  unfold strBytes at hs
  split at hs
  · rename_i s d el hu hd
    cases hx
    split at hs
    · rename_i he
      cases hs
      have hrun := Lib.run_convert_string_bytes (P := P) w sT dT el s hu hd he
      have H' := H.world (Lib.bytesWorld_below w el s)
      have hge := grownCap_ge w s.size 0 el
      have hsz : (Lib.bytesCells w el s).size = grownCap w s.size 0 el := by
        unfold Lib.bytesCells
        simp only [Array.size_append, Array.size_map, Array.size_replicate]
        have : s.data.size = s.size := rfl
        omega
      have hlb : lenB s.data.toList = s.size := by rw [lenB_eq]; rfl
      let pn : EP := ⟨w.heap.size, (Lib.bytesCells w el s).size, undef, .no⟩
      have H2 := H'.push pn (.cells (bytesR s) el true false) rfl rfl H.size (fun b o' p' hb hp => Nat.ne_of_lt (H.heap_ne hb hp)) (fun b o' p' hb hn hp hq => Nat.lt_irrefl _ (H.frm b o' p' hb hn hp _ hq).1) ⟨_, _, Lib.bytesWorld_at_new w el s, rfl, by
        have hl : (bytesR s).length = s.size := by
          unfold bytesR
          rw [List.length_map]
          rfl
        have e1 : (Lib.bytesCells w el s).toList.take (bytesR s).length = s.data.toList.map fun b => Value.int .u8 b.toNat := by
          unfold Lib.bytesCells
          rw [hl]
          simp only [Array.toList_append, Array.toList_map]
          exact List.take_left' (by rw [List.length_map]; rfl)
        rw [e1]
        exact bytesR_rel _, (fun h => by cases h), fun _ => .inr (Nat.le_refl _)⟩
      refine ⟨_, _, _, List.prefix_append E [pn], ⟨pn, grownCap w s.size 0 el, H.new_get pn, ?_, by rw [hlb]; exact hge, by rw [hlb]⟩, .inl (run_vSem hrun), H2⟩
      show _ = ((Lib.bytesCells w el s).size - 0) / 1
      rw [hsz, Nat.sub_zero, Nat.div_one]
    · cases hs
  · cases hs
theorem fit_idBytes (H : HInv ro base w0 E h w) {sT dT : TypeId} {x : RV} {u : Value} {e : Eff} (hx : VRel E x u) (hs : idBytes P h sT dT x = some e) : Fits ro base w0 E h w ((vSem (convert sT dT u)).run P w) e := by
  unfold idBytes at hs
  split at hs
  · rename_i b o n s c el0 el hu hd
    split at hs
    · rename_i he heq
      obtain rfl := Nat.eq_of_beq_eq_true heq
      split at hs
      · rename_i l e' room hl
        cases hs
        obtain ⟨p, k, hp, hk, hnk, rfl⟩ := hx
        rw [lkp_eq] at hl
        obtain ⟨q, h1, h2, cur, fr, h3, h4, h5, h6, h7⟩ := H.blk1 b _ hl rfl
        rw [hp] at h1
        cases h1
        have hF := h7 rfl
        have hshape : w.shape? p.1 = some (e', cur.size) := by simp [World.shape?, h3]
        have hw' : ∀ k, k ≠ p.1 → (w.freeze ⟨p.1, cur.size, none⟩ 1).heap[k]? = w.heap[k]? := by
          intro k hk
          unfold World.freeze
          split
          · rfl
          · simp [Array.getElem?_modify, Ne.symm hk]
        have hself : ∃ fr', (w.freeze ⟨p.1, cur.size, none⟩ 1).heap[p.1]? = some (.cells cur e' fr') ∧ Free fr' p.2 := by
          unfold World.freeze
          rw [if_neg (by decide)]
          obtain ⟨lo, hi⟩ := fr
          simp only [Array.getElem?_modify, if_true, h3, Option.map_some]
          refine ⟨_, rfl, .inr ?_⟩
          by_cases hlh : (lo == hi) = true
          · rw [if_pos hlh]
            show p.2 ≤ cur.size
            omega
          · rw [if_neg hlh]
            rcases hF with hF | hF
            · cases hF
              exact absurd rfl hlh
            · have hF : p.2 ≤ lo := hF
              show p.2 ≤ min lo cur.size
              omega
        obtain ⟨fr2, hself, hF2⟩ := hself
        have hbel : Below base w (w.freeze ⟨p.1, cur.size, none⟩ 1) := by
          have hsize : (w.freeze ⟨p.1, cur.size, none⟩ 1).heap.size = w.heap.size := by
            unfold World.freeze
            split <;> simp
          refine ⟨?_, ?_, ?_, by omega, fun k hk => hw' k (by omega)⟩ <;> (unfold World.freeze; split <;> rfl)
        refine ⟨E, _, _, List.prefix_refl E, ⟨p, k, hp, hk, hnk, rfl⟩, .inl (run_vSem ?_), H.write hl hp rfl rfl rfl (w.freeze ⟨p.1, cur.size, none⟩ 1) hbel (fun k hk _ => hw' k hk) ⟨cur, fr2, hself, h4, h5, h6, fun _ => hF2⟩⟩
        rw [hu] at hd
        cases hd
        simp [convert, run_underlying hu, run_underlying he, markStringish, hshape]
      · cases hs
    · cases hs
  · cases hs
theorem lstQ_lstA {p : EP} {i s : Nat} {e : TypeId} (hB : BRel E p w (.lstQ i e s)) : BRel E p w (.lstA i) := by
  have hlt := hB.heap_lt
  obtain ⟨off, n, cap, cur, h1, ⟨_, h2, _⟩, _, _, _, _, _, h3⟩ := hB
  exact ⟨hlt, some ⟨p.1, off, none⟩, n, cap, h1, fun _ => ⟨_, rfl, rfl⟩, fun a ha j v hj => by cases ha; exact seg_cells (o := off) (n := n * s) h2 j v (by rw [h3]; exact hj)⟩
theorem fit_elAddr (hT : TOK P g) {ty : TypeId} {x i : RV} {u v : Value} {e : Eff} (hx : VRel E x u) (hi : VRel E i v) (hs : elAddr P g ty x i = some e) :
    Fits ro base w0 E h w ((vSem (Instr.indexAt ty u v)).run P w) e := by
  unfold elAddr at hs
  split at hs
  · rename_i b n s k j elem hu
    split at hs
    · rename_i s' hsz
      split at hs
      · rename_i hbq hq
        cases hs
        obtain rfl := Nat.eq_of_beq_eq_true hbq
        obtain ⟨_, f1, _, k1, k2, m, n', e1, e2, e3⟩ := tlook_true hT hq
        obtain ⟨p, kk, hp, hk, hn, rfl⟩ := hx
        have hv : v = .int k (Val.I j) := hi
        have e1 : Value.int k (Val.I j) = .int k1 m := e1
        cases e1
        have e2 : Value.int .i64 (n : Int) = .int k2 n' := e2
        cases e2
        have e3 : true = decide (0 ≤ Val.I j ∧ Val.I j < (n : Int)) := by
          have e3 : Value.bool true = .bool _ := e3
          cases e3' : decide (0 ≤ Val.I j ∧ Val.I j < (n : Int)) with
          | true => rfl
          | false => rw [e3'] at e3; cases e3
        have hb := of_decide_eq_true e3.symm
        refine ⟨_, ⟨p, hp, rfl⟩, .inl (run_vSem ?_)⟩
        rw [hv]
        simp [Instr.indexAt, asIntOf, run_under hu, hb, run_sizeB hsz, add_lit]
      · cases hs
    · cases hs
  · rename_i b l s k j elem hu
    split at hs
    · rename_i s' hsz
      split at hs
      · rename_i r hbq hlen
        obtain rfl := Nat.eq_of_beq_eq_true hbq
        split at hs
        · rename_i hq
          cases hs
          obtain ⟨e, he, rfl, he2, rfl⟩ := lenlook_mem _ _ _ _ hlen
          obtain ⟨fr, n0, _, hn0, hr⟩ := hT.ll e he
          obtain ⟨_, f1, _, k1, k2, m, n', e1, e2, e3⟩ := tlook_true hT hq
          obtain ⟨p, n, hp, hs0, hn, hnk, rfl⟩ := hx
          have hv : v = .int k (Val.I j) := hi
          have e1 : Value.int k (Val.I j) = .int k1 m := e1
          cases e1
          rw [hr] at e2
          cases e2
          have hnn : n = n0 := by
            rw [hn, he2] at hn0
            exact Nat.eq_of_mul_eq_mul_right hs0 hn0
          subst hnn
          have e3 : true = decide (0 ≤ Val.I j ∧ Val.I j < (n : Int)) := by
            have e3 : Value.bool true = .bool _ := e3
            cases e3' : decide (0 ≤ Val.I j ∧ Val.I j < (n : Int)) with
            | true => rfl
            | false => rw [e3'] at e3; cases e3
          have hb := of_decide_eq_true e3.symm
          refine ⟨_, ⟨p, hp, rfl⟩, .inl (run_vSem ?_)⟩
          rw [hv]
          simp [Instr.indexAt, asIntOf, run_under hu, hb, run_sizeB hsz, add_lit]
        · cases hs
      · cases hs
    · cases hs
  · rename_i b l s k j elem hu
    split at hs
    · rename_i s' hsz
      split at hs
      · rename_i r hbq hlen
        obtain rfl := Nat.eq_of_beq_eq_true hbq
        split at hs
        · rename_i hq
          cases hs
          obtain ⟨e, he, rfl, he2, rfl⟩ := lenlook_mem _ _ _ _ hlen
          obtain ⟨fr, n0, _, hn0, hr⟩ := hT.ll e he
          obtain ⟨_, f1, _, k1, k2, m, n', e1, e2, e3⟩ := tlook_true hT hq
          obtain ⟨p, a, n, cap, hp, hpv, hab, hs0, hn, hnk, rfl⟩ := hx
          have hv : v = .int k (Val.I j) := hi
          have e1 : Value.int k (Val.I j) = .int k1 m := e1
          cases e1
          rw [hr] at e2
          cases e2
          have hnn : n = n0 := by
            rw [hn, he2] at hn0
            exact Nat.eq_of_mul_eq_mul_right hs0 hn0
          subst hnn
          have e3 : true = decide (0 ≤ Val.I j ∧ Val.I j < (n : Int)) := by
            have e3 : Value.bool true = .bool _ := e3
            cases e3' : decide (0 ≤ Val.I j ∧ Val.I j < (n : Int)) with
            | true => rfl
            | false => rw [e3'] at e3; cases e3
          have hb := of_decide_eq_true e3.symm
          obtain ⟨a1, rfl, _⟩ := hab (fun hnil => by rw [hnil, List.length_nil] at hn; have : n = 0 := by { rcases Nat.mul_eq_zero.1 hn.symm with h | h <;> omega }; omega)
          refine ⟨_, ⟨p, a1, n, cap, hp, hpv, rfl⟩, .inl (run_vSem ?_)⟩
          rw [hv]
          simp [Instr.indexAt, asIntOf, run_under hu, hb, run_sizeB hsz]
        · cases hs
      · cases hs
    · cases hs
  · rename_i b l q j0 s k j elem hu
    split at hs
    · rename_i s' hsz
      split at hs
      · rename_i r hbq hlen
        obtain rfl := Nat.eq_of_beq_eq_true hbq
        split at hs
        · rename_i hq
          cases hs
          obtain ⟨e, he, rfl, he2, rfl⟩ := lenlook_mem _ _ _ _ hlen
          obtain ⟨fr, n0, _, hn0, hr⟩ := hT.ll e he
          obtain ⟨_, f1, _, k1, k2, m, n', e1, e2, e3⟩ := tlook_true hT hq
          obtain ⟨p, oa, n, cap, hp, hpv, hLj, hs0, hn, hab, rfl⟩ := hx
          have hv : v = .int k (Val.I j) := hi
          have e1 : Value.int k (Val.I j) = .int k1 m := e1
          cases e1
          rw [hr] at e2
          cases e2
          have hnn : n = n0 := by
            rw [hn, he2] at hn0
            exact Nat.eq_of_mul_eq_mul_right hs0 hn0
          subst hnn
          have e3 : true = decide (0 ≤ Val.I j ∧ Val.I j < (n : Int)) := by
            have e3 : Value.bool true = .bool _ := e3
            cases e3' : decide (0 ≤ Val.I j ∧ Val.I j < (n : Int)) with
            | true => rfl
            | false => rw [e3'] at e3; cases e3
          have hb := of_decide_eq_true e3.symm
          obtain ⟨a1, rfl⟩ := hab (fun hnil => by rw [hnil, List.length_nil] at hn; have : n = 0 := by { rcases Nat.mul_eq_zero.1 hn.symm with h | h <;> omega }; omega)
          refine ⟨_, ⟨p, a1, n, cap, hp, hpv, hLj, rfl⟩, .inl (run_vSem ?_)⟩
          rw [hv]
          simp [Instr.indexAt, asIntOf, run_under hu, hb, run_sizeB hsz]
        · cases hs
      · cases hs
    · cases hs
  · rename_i b k j len elem hu
    split at hs
    · rename_i s' hsz
      split at hs
      · rename_i hq
        cases hs
        obtain ⟨_, f1, _, k1, k2, m, n', e1, e2, e3⟩ := tlook_true hT hq
        obtain ⟨p, hp, rfl⟩ := hx
        have hv : v = .int k (Val.I j) := hi
        have e1 : Value.int k (Val.I j) = .int k1 m := e1
        cases e1
        have e2 : Value.int .i64 (len : Int) = .int k2 n' := e2
        cases e2
        have e3 : true = decide (0 ≤ Val.I j ∧ Val.I j < (len : Int)) := by
          have e3 : Value.bool true = .bool _ := e3
          cases e3' : decide (0 ≤ Val.I j ∧ Val.I j < (len : Int)) with
          | true => rfl
          | false => rw [e3'] at e3; cases e3
        have hb := of_decide_eq_true e3.symm
        refine ⟨_, ⟨p, hp, rfl⟩, .inl (run_vSem ?_)⟩
        rw [hv]
        simp [Instr.indexAt, asIntOf, run_under hu, Instr.sureAddr, hb, run_sizeB hsz, add_lit]
      · cases hs
    · cases hs
  · cases hs

omit [Val] in
theorem izlook_mem (n : Nat) (i : Nat) : ∀ T : List (Nat × Nat), izlook T n = some i → (i, n) ∈ T
  | [], h => by cases h
  | e :: T, h => by
    have h : (match Nat.beq e.2 n with | true => some e.1 | false => izlook T n) = some i := h
    split at h
    · rename_i hn
      cases h
      obtain ⟨a, b⟩ := e
      have : b = n := Nat.eq_of_beq_eq_true hn
      subst this
      exact List.mem_cons_self
    · exact List.mem_cons_of_mem _ (izlook_mem n i T h)
theorem fit_elAddrZ (hT : TOK P g) {ty : TypeId} {x i : RV} {u v : Value} {e : Eff} (hx : VRel E x u) (hi : VRel E i v) (hs : elAddrZ P g ty x i = some e) :
    Fits ro base w0 E h w ((vSem (Instr.indexAt ty u v)).run P w) e := by
  unfold elAddrZ at hs
  split at hs
  · rename_i b l s n
    split at hs
    · rename_i j hj
      have h1 := hT.iz _ (izlook_mem _ _ _ hj)
      refine fit_elAddr hT hx (show VRel E (.sym (.int .i64) j) v from ?_) hs
      have hi : v = .int .i64 (n : Int) := hi
      have h1 : Val.I j = (n : Int) := h1
      show v = .int .i64 (Val.I j)
      rw [hi, h1]
    · cases hs
  · rename_i b l s n
    split at hs
    · rename_i j hj
      have h1 := hT.iz _ (izlook_mem _ _ _ hj)
      refine fit_elAddr hT hx (show VRel E (.sym (.int .i64) j) v from ?_) hs
      have hi : v = .int .i64 (n : Int) := hi
      have h1 : Val.I j = (n : Int) := h1
      show v = .int .i64 (Val.I j)
      rw [hi, h1]
    · cases hs
  · rename_i b l q j0 s n
    split at hs
    · rename_i j hj
      have h1 := hT.iz _ (izlook_mem _ _ _ hj)
      refine fit_elAddr hT hx (show VRel E (.sym (.int .i64) j) v from ?_) hs
      have hi : v = .int .i64 (n : Int) := hi
      have h1 : Val.I j = (n : Int) := h1
      show v = .int .i64 (Val.I j)
      rw [hi, h1]
    · cases hs
  · exact fit_elAddr hT hx hi hs

omit [Val] in
theorem add_add (a : Addr) (m j : Nat) : (a.add m).add j = a.add (m + j) := by
  unfold Addr.add
  by_cases hj : j = 0
  · subst hj; simp
  · by_cases hm : m = 0
    · subst hm; simp [hj]
    · rw [if_neg hj, if_neg hm, if_neg (by omega)]
      simp
      omega
theorem fit_elLoad (hT : TOK P g) (H : HInv ro base w0 E h w) {ty : TypeId} {x v : RV} {u : Value} (hx : VRel E x u) (hl : elLoad P g h ty x = some v) :
    ∃ r, VRel E v r ∧ (Instr.loadAt ty u).run P w = .ok r w := by
  unfold elLoad at hl
  split at hl
  · rename_i b i s agg sz hagg hsz
    have hagg := quiet_run P _ _ hagg w
    have hsz := quiet_run P _ _ hsz w
    split at hl
    · rename_i r hcn hrow
      have hcn := Nat.eq_of_beq_eq_true hcn
      split at hl
      · rename_i hlen
        have hlen := Nat.eq_of_beq_eq_true hlen
        obtain ⟨p, hp, rfl⟩ := hx
        obtain ⟨cur, el, fr, f2, g2, hseg⟩ : ∃ cur el fr, r.all flat0 = true ∧ w.heap[p.1]? = some (.cells cur el fr) ∧ (cur.toList.drop ((Val.I i).toNat * s)).take s = r.map cv := by
          have old : ∀ (e : NE), e ∈ g.N → e.i = i → e.r = r → ∀ cur el fr, w.heap[p.1]? = some (.cells cur el fr) → All2 (VRel E) e.l (cur.toList.take e.l.length) →
              ∃ cur el fr, r.all flat0 = true ∧ w.heap[p.1]? = some (.cells cur el fr) ∧ (cur.toList.drop ((Val.I i).toNat * s)).take s = r.map cv := by
            intro e he hi hr cur el fr g2 g4
            subst hi
            subst hr
            obtain ⟨f1, f2, f3, f4⟩ := hT.n e he
            have hcur : cur.toList.take e.l.length = e.l.map cv := by
              have h2 := rel_cvs (E := E) e.l f1
              exact VRels.fn _ _ _ (VRels_iff.2 g4) (VRels_iff.2 h2)
            refine ⟨cur, el, fr, f2, g2, ?_⟩
            have f3' : (Val.I e.i).toNat * s + s ≤ e.l.length := by rw [hlen] at f3; exact f3
            rw [← f4, ← hcur, hlen, List.drop_take, List.take_take, Nat.min_eq_left (by omega)]
          unfold rowQ at hrow
          split at hrow
          · rename_i l0 e0 room fz hk
            rw [lkp_eq] at hk
            obtain ⟨e, he, h1, h2, h3⟩ := nlook_mem _ _ _ _ hrow
            obtain ⟨p', q1, _, cur, fr, q3, _, q5, _⟩ := H.blk b _ hk
            rw [hp] at q1
            cases q1
            subst h2
            exact old e he h1 h3 _ _ _ q3 q5
          · rename_i l0 e0 hk
            rw [lkp_eq] at hk
            obtain ⟨e, he, h1, h2, h3⟩ := nlook_mem _ _ _ _ hrow
            obtain ⟨p', q1, _, cur, fr, q3, _, q5⟩ := H.blk b _ hk
            rw [hp] at q1
            cases q1
            subst h2
            exact old e he h1 h3 _ _ _ q3 q5
          · rename_i l0 e0 ow hk
            rw [lkp_eq] at hk
            obtain ⟨e, he, h1, h2, h3⟩ := ellook_mem _ _ _ _ hrow
            obtain ⟨p', q1, _, cur, fr, q3, _, q5, _⟩ := H.blk b _ hk
            rw [hp] at q1
            cases q1
            subst h1
            subst h2
            subst h3
            obtain ⟨f2, f3, f4⟩ := hT.lx e he
            refine ⟨cur, _, fr, f2, q3, ?_⟩
            rw [hlen] at f3 f4
            rw [← f4, ← q5, List.drop_take, List.take_take, Nat.min_eq_left (by omega)]
          · cases hrow
        have hrun := run_load_seg hagg hsz ⟨p.1, (Val.I i).toNat * s, none⟩ (r.map cv) (by rw [List.length_map, hlen, hcn]) (by
          rw [← hseg]
          exact seg_cells g2)
        have hr := loadAs_rel (v := v) hl (rel_cvs (E := E) r f2) (fun ea => by rw [hlen, ← hcn, ea]; rfl)
        simp only [Instr.loadAt, Sem.run_bind, Instr.sureAddr, Sem.run_pure, Result.andThen_ok]
        rw [hrun]
        rcases hr with ⟨rfl, hr⟩ | ⟨rfl, u, hu, hr⟩
        · exact ⟨_, hr, rfl⟩
        · refine ⟨u, hr, ?_⟩
          rw [hu]
          rfl
      · cases hl
    · cases hl
  · rename_i b i s agg sz hagg hsz
    have hagg := quiet_run P _ _ hagg w
    have hsz := quiet_run P _ _ hsz w
    split at hl
    · rename_i r hcn hrow
      have hcn := Nat.eq_of_beq_eq_true hcn
      split at hl
      · rename_i hlen
        have hlen := Nat.eq_of_beq_eq_true hlen
        obtain ⟨p, a, n, cap, hp, hpv, rfl⟩ := hx
        unfold rowA at hrow
        split at hrow
        · rename_i k hk
          rw [lkp_eq] at hk
          obtain ⟨e, he, rfl, rfl, rfl⟩ := ellook_mem _ _ _ _ hrow
          obtain ⟨p', q1, _, _, a', n', cap', g1, g2, g3⟩ := H.blk b _ hk
          rw [hp] at q1
          cases q1
          rw [hpv] at g1
          cases g1
          obtain ⟨f2, f3, f4⟩ := hT.lx e he
          rw [hlen] at f3 f4
          have hrun := run_load_seg hagg hsz (a.add ((Val.I e.i).toNat * s)) (e.r.map cv) (by rw [List.length_map, hlen, hcn]) (by
            intro j v hj
            rw [add_add]
            apply g3 _ rfl
            rw [← f4, List.getElem?_take] at hj
            split at hj
            · rw [List.getElem?_drop] at hj
              exact hj
            · cases hj)
          have hr := loadAs_rel (v := v) hl (rel_cvs (E := E) e.r f2) (fun ea => by rw [hlen, ← hcn, ea]; rfl)
          simp only [Instr.loadAt, Sem.run_bind, Instr.sureAddr, Sem.run_pure, Result.andThen_ok]
          rw [hrun]
          rcases hr with ⟨rfl, hr⟩ | ⟨rfl, u, hu, hr⟩
          · exact ⟨_, hr, rfl⟩
          · refine ⟨u, hr, ?_⟩
            rw [hu]
            rfl
        · rename_i k e0 s0 hk
          rw [lkp_eq] at hk
          obtain ⟨e, he, rfl, rfl, rfl⟩ := ellook_mem _ _ _ _ hrow
          obtain ⟨p', q1, _, hB0⟩ := H.blk b _ hk
          obtain ⟨_, a', n', cap', g1, g2, g3⟩ := lstQ_lstA hB0
          rw [hp] at q1
          cases q1
          rw [hpv] at g1
          cases g1
          obtain ⟨f2, f3, f4⟩ := hT.lx e he
          rw [hlen] at f3 f4
          have hrun := run_load_seg hagg hsz (a.add ((Val.I e.i).toNat * s)) (e.r.map cv) (by rw [List.length_map, hlen, hcn]) (by
            intro j v hj
            rw [add_add]
            apply g3 _ rfl
            rw [← f4, List.getElem?_take] at hj
            split at hj
            · rw [List.getElem?_drop] at hj
              exact hj
            · cases hj)
          have hr := loadAs_rel (v := v) hl (rel_cvs (E := E) e.r f2) (fun ea => by rw [hlen, ← hcn, ea]; rfl)
          simp only [Instr.loadAt, Sem.run_bind, Instr.sureAddr, Sem.run_pure, Result.andThen_ok]
          rw [hrun]
          rcases hr with ⟨rfl, hr⟩ | ⟨rfl, u, hu, hr⟩
          · exact ⟨_, hr, rfl⟩
          · refine ⟨u, hr, ?_⟩
            rw [hu]
            rfl
        · cases hrow
      · cases hl
    · cases hl
  · rename_i b i s o agg sz hagg hsz
    have hagg := quiet_run P _ _ hagg w
    have hsz := quiet_run P _ _ hsz w
    split at hl
    · rename_i r hcn hrow
      have hcn := Nat.le_of_ble_eq_true hcn
      split at hl
      · rename_i hlen
        have hlen := Nat.eq_of_beq_eq_true hlen
        obtain ⟨p, hp, rfl⟩ := hx
        obtain ⟨cur, el, fr, f2, g2, hseg⟩ : ∃ cur el fr, r.all flat0 = true ∧ w.heap[p.1]? = some (.cells cur el fr) ∧ (cur.toList.drop ((Val.I i).toNat * s)).take s = r.map cv := by
          have old : ∀ (e : NE), e ∈ g.N → e.i = i → e.r = r → ∀ cur el fr, w.heap[p.1]? = some (.cells cur el fr) → All2 (VRel E) e.l (cur.toList.take e.l.length) →
              ∃ cur el fr, r.all flat0 = true ∧ w.heap[p.1]? = some (.cells cur el fr) ∧ (cur.toList.drop ((Val.I i).toNat * s)).take s = r.map cv := by
            intro e he hi hr cur el fr g2 g4
            subst hi
            subst hr
            obtain ⟨f1, f2, f3, f4⟩ := hT.n e he
            have hcur : cur.toList.take e.l.length = e.l.map cv := by
              have h2 := rel_cvs (E := E) e.l f1
              exact VRels.fn _ _ _ (VRels_iff.2 g4) (VRels_iff.2 h2)
            refine ⟨cur, el, fr, f2, g2, ?_⟩
            have f3' : (Val.I e.i).toNat * s + s ≤ e.l.length := by rw [hlen] at f3; exact f3
            rw [← f4, ← hcur, hlen, List.drop_take, List.take_take, Nat.min_eq_left (by omega)]
          unfold rowQ at hrow
          split at hrow
          · rename_i l0 e0 room fz hk
            rw [lkp_eq] at hk
            obtain ⟨e, he, h1, h2, h3⟩ := nlook_mem _ _ _ _ hrow
            obtain ⟨p', q1, _, cur, fr, q3, _, q5, _⟩ := H.blk b _ hk
            rw [hp] at q1
            cases q1
            subst h2
            exact old e he h1 h3 _ _ _ q3 q5
          · rename_i l0 e0 hk
            rw [lkp_eq] at hk
            obtain ⟨e, he, h1, h2, h3⟩ := nlook_mem _ _ _ _ hrow
            obtain ⟨p', q1, _, cur, fr, q3, _, q5⟩ := H.blk b _ hk
            rw [hp] at q1
            cases q1
            subst h2
            exact old e he h1 h3 _ _ _ q3 q5
          · rename_i l0 e0 ow hk
            rw [lkp_eq] at hk
            obtain ⟨e, he, h1, h2, h3⟩ := ellook_mem _ _ _ _ hrow
            obtain ⟨p', q1, _, cur, fr, q3, _, q5, _⟩ := H.blk b _ hk
            rw [hp] at q1
            cases q1
            subst h1
            subst h2
            subst h3
            obtain ⟨f2, f3, f4⟩ := hT.lx e he
            refine ⟨cur, _, fr, f2, q3, ?_⟩
            rw [hlen] at f3 f4
            rw [← f4, ← q5, List.drop_take, List.take_take, Nat.min_eq_left (by omega)]
          · cases hrow
        have hrun := run_load_seg hagg hsz ⟨p.1, (Val.I i).toNat * s + o, none⟩ ((r.map cv |>.drop o).take (cellsN agg sz)) (by rw [List.length_take, List.length_drop, List.length_map, hlen]; omega) (by
          rw [← hseg, List.drop_take, List.drop_drop, List.take_take, Nat.min_eq_left (by omega)]
          exact seg_cells g2)
        have f3 : ((r.drop o).take (cellsN agg sz)).all flat0 = true := by
          rw [List.all_eq_true] at f2 ⊢
          exact fun x hx => f2 x (List.mem_of_mem_drop (List.mem_of_mem_take hx))
        have hmap : (r.map cv |>.drop o).take (cellsN agg sz) = ((r.drop o).take (cellsN agg sz)).map cv := by rw [List.map_take, List.map_drop]
        rw [hmap] at hrun
        have hr := loadAs_rel (v := v) hl (rel_cvs (E := E) _ f3) (fun ea => by rw [List.length_take, List.length_drop, hlen]; subst ea; have : cellsN false sz = 1 := rfl; rw [this] at hcn ⊢; omega)
        simp only [Instr.loadAt, Sem.run_bind, Instr.sureAddr, Sem.run_pure, Result.andThen_ok]
        rw [hrun]
        rcases hr with ⟨rfl, hr⟩ | ⟨rfl, u, hu, hr⟩
        · exact ⟨_, hr, rfl⟩
        · refine ⟨u, hr, ?_⟩
          rw [hu]
          rfl
      · cases hl
    · cases hl
  · rename_i b i s o agg sz hagg hsz
    have hagg := quiet_run P _ _ hagg w
    have hsz := quiet_run P _ _ hsz w
    split at hl
    · rename_i r hcn hrow
      have hcn := Nat.le_of_ble_eq_true hcn
      split at hl
      · rename_i hlen
        have hlen := Nat.eq_of_beq_eq_true hlen
        obtain ⟨p, a, n, cap, hp, hpv, rfl⟩ := hx
        obtain ⟨f2, hseg⟩ : r.all flat0 = true ∧ ∀ j v, (r.map cv)[j]? = some v → w.cell? (a.add ((Val.I i).toNat * s + j)) = some v := by
          unfold rowA at hrow
          split at hrow
          · rename_i k hk
            rw [lkp_eq] at hk
            obtain ⟨e, he, rfl, rfl, rfl⟩ := ellook_mem _ _ _ _ hrow
            obtain ⟨p', q1, _, _, a', n', cap', g1, g2, g3⟩ := H.blk b _ hk
            rw [hp] at q1
            cases q1
            rw [hpv] at g1
            cases g1
            obtain ⟨f2, f3, f4⟩ := hT.lx e he
            rw [hlen] at f3 f4
            refine ⟨f2, fun j v hj => ?_⟩
            apply g3 _ rfl
            rw [← f4, List.getElem?_take] at hj
            split at hj
            · rw [List.getElem?_drop] at hj
              exact hj
            · cases hj
          · rename_i k e0 s0 hk
            rw [lkp_eq] at hk
            obtain ⟨e, he, rfl, rfl, rfl⟩ := ellook_mem _ _ _ _ hrow
            obtain ⟨p', q1, _, hB0⟩ := H.blk b _ hk
            obtain ⟨_, a', n', cap', g1, g2, g3⟩ := lstQ_lstA hB0
            rw [hp] at q1
            cases q1
            rw [hpv] at g1
            cases g1
            obtain ⟨f2, f3, f4⟩ := hT.lx e he
            rw [hlen] at f3 f4
            refine ⟨f2, fun j v hj => ?_⟩
            apply g3 _ rfl
            rw [← f4, List.getElem?_take] at hj
            split at hj
            · rw [List.getElem?_drop] at hj
              exact hj
            · cases hj
          · cases hrow
        have hrun := run_load_seg hagg hsz (a.add ((Val.I i).toNat * s + o)) ((r.map cv |>.drop o).take (cellsN agg sz)) (by rw [List.length_take, List.length_drop, List.length_map, hlen]; omega) (by
          intro j v hj
          rw [List.getElem?_take] at hj
          split at hj
          · rw [List.getElem?_drop] at hj
            rw [add_add, Nat.add_assoc]
            exact hseg _ _ hj
          · cases hj)
        have f3 : ((r.drop o).take (cellsN agg sz)).all flat0 = true := by
          rw [List.all_eq_true] at f2 ⊢
          exact fun x hx => f2 x (List.mem_of_mem_drop (List.mem_of_mem_take hx))
        have hmap : (r.map cv |>.drop o).take (cellsN agg sz) = ((r.drop o).take (cellsN agg sz)).map cv := by rw [List.map_take, List.map_drop]
        rw [hmap] at hrun
        have hr := loadAs_rel (v := v) hl (rel_cvs (E := E) _ f3) (fun ea => by rw [List.length_take, List.length_drop, hlen]; subst ea; have : cellsN false sz = 1 := rfl; rw [this] at hcn ⊢; omega)
        simp only [Instr.loadAt, Sem.run_bind, Instr.sureAddr, Sem.run_pure, Result.andThen_ok]
        rw [hrun]
        rcases hr with ⟨rfl, hr⟩ | ⟨rfl, u, hu, hr⟩
        · exact ⟨_, hr, rfl⟩
        · refine ⟨u, hr, ?_⟩
          rw [hu]
          rfl
      · cases hl
    · cases hl
  · cases hl

theorem fit_aggIndex {ty : TypeId} {l : List RV} {cs : Array Value} {k : IntKind} {i : Int} {e : Eff} (hl : All2 (VRel E) l cs.toList) (hs : aggIndex P ty l i = some e) :
    Fits ro base w0 E h w ((vSem (Instr.index ty (.agg cs) (.int k i))).run P w) e := by
  unfold aggIndex at hs
  split at hs
  · rename_i len elem hu
    split at hs
    · rename_i s hsz
      split at hs
      · rename_i hi
        cases hq : partOp P elem l (i.toNat * s) with
        | none => rw [hq] at hs; cases hs
        | some v =>
          rw [hq] at hs
          cases hs
          obtain ⟨r, hr, hrun⟩ := fit_part hl hq
          refine ⟨r, hr, .inl (run_vSem ?_)⟩
          simp [Instr.index, asIntOf, run_under hu, hi, run_sizeB hsz, hrun]
      · cases hs
    · cases hs
  · cases hs

theorem fit_symIndex (hT : TOK P g) {ty : TypeId} {x i : RV} {u v : Value} {e : Eff} (hx : VRel E x u) (hi : VRel E i v) (hs : symIndex P g ty x i = some e) :
    Fits ro base w0 E h w ((vSem (Instr.index ty u v)).run P w) e := by
  unfold symIndex at hs
  split at hs
  · rename_i hu
    cases hq : tlook g.T .idx x i with
    | none => rw [hq] at hs; cases hs
    | some r =>
      rw [hq] at hs
      cases hs
      obtain ⟨f0, f1, f2, s, k, n, b, e1, e2, h0, hb, e3⟩ := tlook_true hT hq
      refine ⟨cv r, rel_cv f0, .inl (run_vSem ?_)⟩
      rw [cv_rel f1 hx, cv_rel f2 hi, e1, e2, e3]
      have hb' : s[n.toNat]? = some b := by
        have hlt : n.toNat < s.size := by
          have := (List.getElem?_eq_some_iff.1 hb).1
          simpa using this
        rw [getElem?_pos s n.toNat hlt]
        have := (List.getElem?_eq_some_iff.1 hb).2
        simp at this
        exact congrArg some this
      simp [Instr.index, asIntOf, run_under hu, h0, hb']
  · cases hs

theorem fit_strIndex {ty : TypeId} {s : ByteArray} {k : IntKind} {i : Int} {v : RV} (hs : strIndex P ty s i = some v) :
    ∃ r, VRel E v r ∧ ∀ w, (Instr.index ty (.string s) (.int k i)).run P w = .ok r w := by
  unfold strIndex at hs
  split at hs
  · rename_i hu
    split at hs
    · rename_i h0
      rw [nthB_eq] at hs
      cases hb : s.data.toList[i.toNat]? with
      | none => rw [hb] at hs; cases hs
      | some b =>
        rw [hb] at hs
        cases hs
        refine ⟨_, rfl, fun w => ?_⟩
        have hlt : i.toNat < s.size := by
          have := (List.getElem?_eq_some_iff.1 hb).1
          simpa using this
        have hsb : s[i.toNat]? = some b := by
          rw [getElem?_pos s i.toNat hlt]
          congr 1
          have h2 := (List.getElem?_eq_some_iff.1 hb).2
          rw [← h2]
          rfl
        simp [Instr.index, asIntOf, run_under hu, h0, hsb]
    · cases hs
  · cases hs

theorem fit_strSlice {ty : TypeId} {s : ByteArray} {lo hi : Option RV} {lo' hi' : Option Value} {v : RV} (hlo : ORel E lo lo') (hhi : ORel E hi hi') (hs : strSlice P ty s lo hi = some v) :
    ∃ r, VRel E v r ∧ ∀ w, (Instr.sliceAt ty (.string s) lo' hi' none).run P w = .ok r w := by
  unfold strSlice at hs
  split at hs
  · rename_i hu
    simp only at hs
    split at hs
    · rename_i l g' hl hg'
      split at hs
      · rename_i hc
        simp only [Bool.and_eq_true, decide_eq_true_eq] at hc
        rw [lenB_eq] at hg' hc
        have hc2 : g' ≤ s.size := hc.2
        cases hq : segB s.data.toList l (g' - l) with
        | none => rw [hq] at hs; cases hs
        | some r =>
          rw [hq] at hs
          cases hs
          obtain ⟨h1, h2⟩ := segB_eq _ _ _ _ hq
          refine ⟨_, rfl, fun w => ?_⟩
          have hb := run_bounds (P := P) (n := s.size) false hlo hhi hl hg' hc.1 hc2 (Nat.le_refl _) w
          simp [Instr.sliceAt, Instr.slice, run_under hu, hb]
          apply ByteArray.ext
          apply Array.ext'
          rw [ByteArray.data_extract]
          simp [h2]
      · cases hs
    · cases hs
  · cases hs

theorem orel_map (ht : All2 (VRel E) t a.tmps.toList) (x : Option Operand) : ORel E (x.map (ev t)) (x.map a.eval) := by
  cases x with
  | none => trivial
  | some x => exact ev_rel ht x

theorem fit_symSlice (hT : TOK P g) {ty : TypeId} {x : RV} {u : Value} {lo hi : Option RV} {lo' hi' : Option Value} {e : Eff} (hx : VRel E x u) (hlo : ORel E lo lo') (hhi : ORel E hi hi') (hs : symSlice P g ty x lo hi = some e) :
    Fits ro base w0 E h w ((vSem (Instr.sliceAt ty u lo' hi' none)).run P w) e := by
  unfold symSlice at hs
  split at hs
  · rename_i l r hu
    cases hq : sslook g.SS x l r with
    | none => rw [hq] at hs; cases hs
    | some v =>
      rw [hq] at hs
      cases hs
      obtain ⟨f1, f2, f3, f4, s, k, k', m, n, e1, e2, e3, hmn, hns, e4⟩ := sslook_true hT hq
      cases lo' with
      | none => exact hlo.elim
      | some a => cases hi' with
        | none => exact hhi.elim
        | some b =>
          have ha : a = .int k m := (cv_rel f2 hlo).trans e2
          have hb : b = .int k' n := (cv_rel f3 hhi).trans e3
          refine ⟨cv v, rel_cv f4, .inl (run_vSem ?_)⟩
          rw [cv_rel f1 hx, e1, ha, hb, e4]
          have hbd := run_bounds (P := P) (E := E) (lo := some (.pl (.int k m))) (hi := some (.pl (.int k' n))) (lo' := some (.int k m)) (hi' := some (.int k' n)) (l := m) (g := n) (n := s.size) (cap := s.size) false (show _ = _ from rfl) (show _ = _ from rfl) (by simp [bnd]) (by simp [bnd]) hmn hns (Nat.le_refl _) w
          simp [Instr.sliceAt, Instr.slice, run_under hu, hbd]
  · rename_i r hu
    cases hq : sslook g.SS x (.pl (.int .i64 0)) r with
    | none => rw [hq] at hs; cases hs
    | some v =>
      rw [hq] at hs
      cases hs
      obtain ⟨f1, f2, f3, f4, s, k, k', m, n, e1, e2, e3, hmn, hns, e4⟩ := sslook_true hT hq
      have hm0 : m = 0 := by
        have e2 : Value.int .i64 0 = .int k m := e2
        have := (Value.int.inj e2).2
        omega
      subst hm0
      cases lo' with
      | some _ => exact hlo.elim
      | none => cases hi' with
        | none => exact hhi.elim
        | some b =>
          have hb : b = .int k' n := (cv_rel f3 hhi).trans e3
          refine ⟨cv v, rel_cv f4, .inl (run_vSem ?_)⟩
          rw [cv_rel f1 hx, e1, hb, e4]
          have hbd := run_bounds (P := P) (E := E) (lo := none) (hi := some (.pl (.int k' n))) (lo' := none) (hi' := some (.int k' n)) (l := 0) (g := n) (n := s.size) (cap := s.size) false trivial (show _ = _ from rfl) (by simp [bnd]) (by simp [bnd]) hmn hns (Nat.le_refl _) w
          simp [Instr.sliceAt, Instr.slice, run_under hu, hbd]
  · rename_i l hu
    cases hl : tlook g.T .len x x with
    | none => rw [hl] at hs; cases hs
    | some r =>
      rw [hl] at hs
      cases hq : sslook g.SS x l r with
      | none => simp only [hq] at hs; cases hs
      | some v =>
        simp only [hq] at hs
        cases hs
        obtain ⟨f1, f2, f3, f4, s, k, k', m, n, e1, e2, e3, hmn, hns, e4⟩ := sslook_true hT hq
        have hlen := (tlook_true hT hl)
        obtain ⟨_, _, _, s2, g1, g2⟩ := hlen
        have hs2 : s2 = s := by
          have := g1.symm.trans e1
          exact Value.string.inj this
        subst hs2
        have hn : n = s2.size := by
          have h1 : Value.int .i64 (s2.data.toList.length : Int) = .int k' (n : Int) := g2.symm.trans e3
          have h2 := (Value.int.inj h1).2
          have h3 : s2.size = s2.data.toList.length := by simp
          omega
        subst hn
        cases lo' with
        | none => exact hlo.elim
        | some a => cases hi' with
          | some _ => exact hhi.elim
          | none =>
            have ha : a = .int k m := (cv_rel f2 hlo).trans e2
            refine ⟨cv v, rel_cv f4, .inl (run_vSem ?_)⟩
            rw [cv_rel f1 hx, e1, ha, e4]
            have hbd := run_bounds (P := P) (E := E) (lo := some (.pl (.int k m))) (hi := none) (lo' := some (.int k m)) (hi' := none) (l := m) (g := s2.size) (n := s2.size) (cap := s2.size) false (show _ = _ from rfl) trivial (by simp [bnd]) (by simp [bnd]) hmn hns (Nat.le_refl _) w
            simp [Instr.sliceAt, Instr.slice, run_under hu, hbd]
  · cases hs
/-- A bound that a fact tells. -/
def bd (x : Option RV) (n : Nat) : Option RV := match x with
  | none => none
  | some r => match cv r with
    | .int k _ => some (.pl (.int k n))
    | _ => none
theorem bd_rel {x : Option RV} {x' : Option Value} {m d : Nat} (hx : ORel E x x') (h : BdT x m d) : ORel E (bd x m) x' ∧ bnd (bd x m) d = some m := by
  cases x with
  | none =>
    cases x' with
    | none => exact ⟨trivial, by show some d = _; rw [show m = d from h]⟩
    | some _ => exact hx.elim
  | some r =>
    obtain ⟨hf, k, hk⟩ := h
    cases x' with
    | none => exact hx.elim
    | some v =>
      have e : v = .int k m := (cv_rel hf hx).trans hk
      unfold bd
      simp only [hk]
      exact ⟨e, by simp [bnd]⟩
theorem fit_partSl (hT : TOK P g) {ty : TypeId} {b i s : Nat} {u : Value} {lo hi : Option RV} {lo' hi' : Option Value} {e : Eff} (hx : VRel E (.slN b i s) u) (hlo : ORel E lo lo') (hhi : ORel E hi hi') (hs : partSl P g ty b i s lo hi = some e) :
    Fits ro base w0 E h w ((vSem (Instr.sliceAt ty u lo' hi' none)).run P w) e := by
  unfold partSl at hs
  split at hs
  · rename_i elem hu
    split at hs
    · rename_i s' hsz
      split at hs
      · rename_i hss
        obtain rfl := Nat.eq_of_beq_eq_true hss
        split at hs
        · rename_i j a hq
          cases hs
          obtain ⟨n, m, q, hn, h1, h2, hmq, hqn, ha, hj⟩ := hT.lp _ (lplook_mem _ _ _ _ _ _ _ hq)
          obtain ⟨p, n', hp, hs0, hn', hk, rfl⟩ := hx
          have hnn : n' = n := Nat.eq_of_mul_eq_mul_right hs0 (hn'.symm.trans hn)
          subst hnn
          obtain ⟨l1, l2⟩ := bd_rel (d := 0) hlo h1
          obtain ⟨g1, g2⟩ := bd_rel (d := n') hhi h2
          have hb := fun w => run_bounds (P := P) true l1 g1 l2 g2 hmq hqn hk w
          have hle : q * (s' + 1) ≤ n' * (s' + 1) := Nat.mul_le_mul_right _ hqn
          have hms : m * (s' + 1) + (q - m) * (s' + 1) = q * (s' + 1) := by rw [← Nat.add_mul, show m + (q - m) = q by omega]
          replace hj : Val.L j = ((Val.L i).drop (m * (s' + 1))).take ((q - m) * (s' + 1)) := hj
          replace ha : (Val.I a).toNat = m := ha
          have hlj : (Val.L j).length = (q - m) * (s' + 1) := by
            rw [hj, List.length_take, List.length_drop, hn']
            omega
          refine ⟨.slice (if p.2 / (s' + 1) = m then some ⟨p.1, 0, none⟩ else some ⟨p.1, m * (s' + 1), none⟩) (q - m) (p.2 / (s' + 1) - m), ⟨p, q - m, hp, hs0, hlj, ?_, ?_, ?_, ?_⟩, .inl (run_vSem ?_)⟩
          · rw [ha, show m + (q - m) = q by omega, hn']
            exact hle
          · rw [ha]
            exact hj
          · rw [ha]
            omega
          · rw [ha]
          · simp only [Instr.sliceAt, Instr.slice, Sem.run_bind, run_under hu, Result.andThen_ok, hb, run_sizeB hsz, Sem.run_pure]
            split <;> simp [add_lit]
        · cases hs
      · cases hs
    · cases hs
  · cases hs
theorem fit_mSlice (hT : TOK P g) (H : HInv ro base w0 E h w) {ty : TypeId} {x : RV} {u : Value} {lo hi mx : Option RV} {lo' hi' mx' : Option Value} {e : Eff} (hx : VRel E x u) (hlo : ORel E lo lo') (hhi : ORel E hi hi') (hmx : ORel E mx mx')
    (hs : mSlice P g h ty x lo hi mx = some e) : Fits ro base w0 E h w ((vSem (Instr.sliceAt ty u lo' hi' mx')).run P w) e := by
  unfold mSlice at hs
  split at hs
  · rename_i s
    cases hx
    have : mx' = none := by cases mx' with
      | none => rfl
      | some _ => exact hmx.elim
    subst this
    split at hs
    · rename_i v hq
      cases hs
      obtain ⟨r, hr, hrun⟩ := fit_strSlice hlo hhi hq
      exact ⟨r, hr, .inl (run_vSem (hrun w))⟩
    · exact fit_symSlice (x := .pl (.string s)) hT rfl hlo hhi hs
  · rename_i i
    have : mx' = none := by cases mx' with
      | none => rfl
      | some _ => exact hmx.elim
    subst this
    exact fit_symSlice (x := .sym .str i) hT hx hlo hhi hs
  · have : mx' = none := by cases mx' with
      | none => rfl
      | some _ => exact hmx.elim
    subst this
    exact fit_partSl hT hx hlo hhi hs
  · cases hq : sliceOp P h ty x lo hi mx with
    | none => rw [hq] at hs; cases hs
    | some v =>
      rw [hq] at hs
      cases hs
      obtain ⟨r, hr, hrun⟩ := fit_slice H hx hlo hhi hmx hq
      exact ⟨r, hr, .inl (run_vSem (hrun w))⟩

omit [Val] in
theorem nameQ_mem (l : List RV) (i : Nat) : ∀ T : List (Nat × List RV), nameQ T l = some i → (i, l) ∈ T
  | [], h => by cases h
  | e :: T, h => by
    have h : (match eqSs e.2 l with | true => some e.1 | false => nameQ T l) = some i := h
    split at h
    · rename_i hn
      cases h
      obtain ⟨a, b⟩ := e
      have : b = l := eqSs_eq _ _ hn
      subst this
      exact List.mem_cons_self
    · exact List.mem_cons_of_mem _ (nameQ_mem l i T h)
theorem fit_sliceQ0 (hT : TOK P g) (H : HInv ro base w0 E h w) {ty : TypeId} {b n s : Nat} {k : IntKind} {m : Int} {u : Value} {lo' : Option Value} {e : Eff} (hx : VRel E (.sl b 0 n s none) u) (hlo : ORel E (some (.pl (.int k m))) lo') (hs : sliceQ0 P g h ty b n s m = some e) :
    Fits ro base w0 E h w ((vSem (Instr.sliceAt ty u lo' none none)).run P w) e := by
  unfold sliceQ0 at hs
  split at hs
  · rename_i elem l e0 hu hl
    split at hs
    · rename_i s' hsz
      split at hs
      · rename_i hc
        obtain ⟨rfl, hs0, hm0, hmn, hln, hfl⟩ := hc
        cases hq : nameQ g.LQ (l.drop (m.toNat * s)) with
        | none => rw [hq] at hs; cases hs
        | some i =>
          rw [hq] at hs
          cases hs
          obtain ⟨f1, f2⟩ := hT.lq _ (nameQ_mem _ _ _ hq)
          replace f2 : Val.L i = (l.drop (m.toNat * s)).map cv := f2
          rw [lkp_eq] at hl
          obtain ⟨p, kk, hp, hk, hnk, rfl⟩ := hx
          simp only [Option.getD_none, Nat.sub_zero] at hk
          subst hk
          obtain ⟨q, q1, q2, cur, fr, h3, h4, h5, h6, h7⟩ := H.blk1 b _ hl rfl
          rw [hp] at q1
          cases q1
          have hfr := h7 rfl
          have hb := fun w => run_bounds (P := P) (E := E) (n := n) (cap := p.2 / s) (hi := none) (hi' := none) true hlo trivial (l := m.toNat) (g := n) (by simp [bnd, hm0]) rfl hmn (Nat.le_refl _) hnk w
          have hcur : cur.toList.take (n * s) = l.map cv := by
            rw [hln] at h5
            exact VRels.fn _ _ _ (VRels_iff.2 h5) (VRels_iff.2 (rel_cvs (E := E) l hfl))
          have hle2 : p.2 / s * s ≤ p.2 := Nat.div_mul_le_self _ _
          have hns : n * s ≤ p.2 / s * s := Nat.mul_le_mul_right _ hnk
          have hms : m.toNat * s ≤ n * s := Nat.mul_le_mul_right _ hmn
          have hLl : (Val.L i).length = (n - m.toNat) * s := by
            rw [f2, List.length_map, List.length_drop, hln, Nat.sub_mul]
          let p2 : EP := ⟨p.1, p.2, .slice (some ⟨p.1, if p.2 / s = m.toNat then 0 else m.toNat * s, none⟩) (n - m.toNat) (p.2 / s - m.toNat), .no⟩
          have hB : BRel (E ++ [p2]) p2 w (.lstQ i e0 s) := by
            refine ⟨if p.2 / s = m.toNat then 0 else m.toNat * s, n - m.toNat, p.2 / s - m.toNat, cur, rfl, ⟨fr, h3, hfr⟩, h4, by omega, ?_, hLl, hs0, ?_⟩
            · show _ ≤ p.2
              split
              · rename_i hc
                rw [hc, Nat.sub_self]
                simp
              · rw [Nat.sub_mul]
                omega
            · split
              · rename_i hc
                have hnm : n - m.toNat = 0 := by omega
                rw [hnm, Nat.zero_mul, List.take_zero]
                exact (List.eq_nil_of_length_eq_zero (by rw [hLl, hnm, Nat.zero_mul])).symm
              · rw [f2, List.map_drop, ← hcur, List.drop_take, Nat.sub_mul]
          refine ⟨E ++ [p2], p2.sl, w, List.prefix_append _ _, ⟨p2, some ⟨p.1, if p.2 / s = m.toNat then 0 else m.toNat * s, none⟩, n - m.toNat, p.2 / s - m.toNat, H.new_get p2, rfl, fun _ => ⟨_, rfl, rfl⟩, hs0, hLl, by omega, rfl⟩, .inl (run_vSem ?_), (H.kill b).push p2 _ rfl rfl q2 (fun b' o' p' h1 h2 => H.killed hl hp rfl b' o' p' h1 h2) (H.killed_in (p := p) hl hp rfl) hB⟩
          simp only [Instr.sliceAt, Instr.slice, Sem.run_bind, run_under hu, Result.andThen_ok, hb, run_sizeB hsz, Sem.run_pure]
          by_cases hc : p.2 / s = m.toNat <;> simp [p2, hc, add_lit, EP.sl]
      · cases hs
    · cases hs
  · cases hs
theorem fit_sliceQ1 (hT : TOK P g) (H : HInv ro base w0 E h w) {ty : TypeId} {b i s : Nat} {lo : RV} {u : Value} {lo' : Option Value} {e : Eff} (hx : VRel E (.slA b i s) u) (hlo : ORel E (some lo) lo') (hs : sliceQ1 P g h ty b i s lo = some e) :
    Fits ro base w0 E h w ((vSem (Instr.sliceAt ty u lo' none none)).run P w) e := by
  unfold sliceQ1 at hs
  split at hs
  · rename_i elem i' e0 s0 hu hl
    split at hs
    · rename_i z hsz
      split at hs
      · rename_i hc
        obtain ⟨rfl, rfl, rfl⟩ := hc
        cases hq : lplook g.LP i' s0 (some lo) none with
        | none => rw [hq] at hs; cases hs
        | some ja =>
          obtain ⟨j, a⟩ := ja
          rw [hq] at hs
          cases hs
          obtain ⟨n, m, q, hn, h1, h2, hmq, hqn, ha, hj⟩ := hT.lp _ (lplook_mem _ _ _ _ _ _ _ hq)
          rw [lkp_eq] at hl
          obtain ⟨p, a1, n', cap, hp, hv, hab, hs0, hn', hk, rfl⟩ := hx
          obtain ⟨p', q1, q2, hB0⟩ := H.blk1 b _ hl rfl
          rw [hp] at q1
          cases q1
          obtain ⟨off, n2, cap2, cur, g1, ⟨fr, g2, hF⟩, g3, g4, g5, g6, g7, g8⟩ := hB0
          rw [hv] at g1
          cases g1
          have hnn : n' = n := Nat.eq_of_mul_eq_mul_right hs0 (hn'.symm.trans hn)
          subst hnn
          obtain rfl : q = n' := h2
          obtain ⟨l1, l2⟩ := bd_rel (d := 0) hlo h1
          have hb := fun w => run_bounds (P := P) (E := E) (n := q) (cap := cap) (hi := none) (hi' := none) true l1 trivial l2 rfl hmq (Nat.le_refl _) hk w
          replace hj : Val.L j = ((Val.L i').drop (m * s0)).take ((q - m) * s0) := hj
          have hlj : (Val.L j).length = (q - m) * s0 := by
            rw [hj, List.length_take, List.length_drop, hn', Nat.sub_mul]
            omega
          have hmc : m * s0 ≤ cap * s0 := Nat.mul_le_mul_right _ (by omega)
          let p2 : EP := ⟨p.1, p.2, .slice (some ⟨p.1, if cap = m then off else off + m * s0, none⟩) (q - m) (cap - m), .no⟩
          have hB : BRel (E ++ [p2]) p2 w (.lstQ j e0 s0) := by
            refine ⟨if cap = m then off else off + m * s0, q - m, cap - m, cur, rfl, ⟨fr, g2, hF⟩, g3, by omega, ?_, hlj, hs0, ?_⟩
            · show _ ≤ p.2
              split
              · rename_i hc
                rw [hc, Nat.sub_self]
                omega
              · rw [Nat.sub_mul]
                omega
            · split
              · rename_i hc
                have hnm : q - m = 0 := by omega
                rw [hnm, Nat.zero_mul, List.take_zero]
                exact (List.eq_nil_of_length_eq_zero (by rw [hlj, hnm, Nat.zero_mul])).symm
              · rw [hj, ← g8, List.drop_take, List.take_take, List.drop_drop, Nat.sub_mul, Nat.min_self]
          refine ⟨E ++ [p2], p2.sl, w, List.prefix_append _ _, ⟨p2, some ⟨p.1, if cap = m then off else off + m * s0, none⟩, q - m, cap - m, H.new_get p2, rfl, fun _ => ⟨_, rfl, rfl⟩, hs0, hlj, by omega, rfl⟩, .inl (run_vSem ?_), (H.kill b).push p2 _ rfl rfl q2 (fun b' o' p' h1 h2 => H.killed hl hp rfl b' o' p' h1 h2) (H.killed_in (p := p) hl hp rfl) hB⟩
          simp only [Instr.sliceAt, Instr.slice, Sem.run_bind, run_under hu, Result.andThen_ok, hb, run_sizeB hsz, Sem.run_pure]
          by_cases hc : cap = m <;> simp [p2, hc, add_lit, EP.sl]
      · cases hs
    · cases hs
  · cases hs
theorem fit_sliceQ2 (hT : TOK P g) (H : HInv ro base w0 E h w) {ty : TypeId} {b i s : Nat} {lo : RV} {u : Value} {lo' : Option Value} {e : Eff} (hx : VRel E (.slN b i s) u) (hlo : ORel E (some lo) lo') (hs : sliceQ2 P g h ty b i s lo = some e) :
    Fits ro base w0 E h w ((vSem (Instr.sliceAt ty u lo' none none)).run P w) e := by
  unfold sliceQ2 at hs
  split at hs
  · rename_i elem i' e0 hu hl
    split at hs
    · rename_i z hsz
      split at hs
      · rename_i hc
        obtain ⟨rfl, rfl⟩ := hc
        split at hs
        · rename_i j a hq
          split at hs
          · cases hs
            obtain ⟨n, m, q, hn, h1, h2, hmq, hqn, ha, hj⟩ := hT.lp _ (lplook_mem _ _ _ _ _ _ _ hq)
            rw [lkp_eq] at hl
            obtain ⟨p, n', hp, hs0, hn', hk, rfl⟩ := hx
            obtain ⟨p', q1, q2, cur, fr, h3, h4, h5, h6⟩ := H.blk1 b _ hl rfl
            rw [hp] at q1
            cases q1
            have hfr := h6 rfl
            have hnn : n' = n := Nat.eq_of_mul_eq_mul_right hs0 (hn'.symm.trans hn)
            subst hnn
            obtain rfl : q = n' := h2
            obtain ⟨l1, l2⟩ := bd_rel (d := 0) hlo h1
            have hb := fun w => run_bounds (P := P) (E := E) (n := q) (cap := p.2 / s) (hi := none) (hi' := none) true l1 trivial l2 rfl hmq (Nat.le_refl _) hk w
            replace hj : Val.L j = ((Val.L i').drop (m * s)).take ((q - m) * s) := hj
            have hlj : (Val.L j).length = (q - m) * s := by
              rw [hj, List.length_take, List.length_drop, hn', Nat.sub_mul]
              omega
            have hle2 : p.2 / s * s ≤ p.2 := Nat.div_mul_le_self _ _
            have hms : m * s ≤ q * s := Nat.mul_le_mul_right _ hmq
            have hns : q * s ≤ p.2 / s * s := Nat.mul_le_mul_right _ hk
            let p2 : EP := ⟨p.1, p.2, .slice (some ⟨p.1, if p.2 / s = m then 0 else m * s, none⟩) (q - m) (p.2 / s - m), .no⟩
            have hB : BRel (E ++ [p2]) p2 w (.lstQ j e0 s) := by
              refine ⟨if p.2 / s = m then 0 else m * s, q - m, p.2 / s - m, cur, rfl, ⟨fr, h3, hfr⟩, h4, by omega, ?_, hlj, hs0, ?_⟩
              · show _ ≤ p.2
                split
                · rename_i hc
                  rw [hc, Nat.sub_self]
                  simp
                · rw [Nat.sub_mul]
                  omega
              · split
                · rename_i hc
                  have hnm : q - m = 0 := by omega
                  rw [hnm, Nat.zero_mul, List.take_zero]
                  exact (List.eq_nil_of_length_eq_zero (by rw [hlj, hnm, Nat.zero_mul])).symm
                · rw [hj, ← h5, hn', List.drop_take, List.take_take, Nat.sub_mul, Nat.min_self]
            refine ⟨E ++ [p2], p2.sl, w, List.prefix_append _ _, ⟨p2, some ⟨p.1, if p.2 / s = m then 0 else m * s, none⟩, q - m, p.2 / s - m, H.new_get p2, rfl, fun _ => ⟨_, rfl, rfl⟩, hs0, hlj, by omega, rfl⟩, .inl (run_vSem ?_), (H.kill b).push p2 _ rfl rfl q2 (fun b' o' p' h1 h2 => H.killed hl hp rfl b' o' p' h1 h2) (H.killed_in (p := p) hl hp rfl) hB⟩
            simp only [Instr.sliceAt, Instr.slice, Sem.run_bind, run_under hu, Result.andThen_ok, hb, run_sizeB hsz, Sem.run_pure]
            by_cases hc : p.2 / s = m <;> simp [p2, hc, add_lit, EP.sl]
          · cases hs
        · cases hs
      · cases hs
    · cases hs
  · cases hs
theorem fit_sliceClip {ty : TypeId} {x : RV} {u : Value} {lo hi mx : Option RV} {lo' hi' mx' : Option Value} {e : Eff} (hxr : VRel E x u) (hlo : ORel E lo lo') (hhi : ORel E hi hi') (hmx : ORel E mx mx') (hs : sliceClip P ty x lo hi mx = some e) :
    Fits ro base w0 E h w ((vSem (Instr.sliceAt ty u lo' hi' mx')).run P w) e := by
  unfold sliceClip at hs
  split at hs
  · rename_i b o n s c kg gg km m
    split at hs
    · rename_i elem hu
      split at hs
      · rename_i s' hsz
        split at hs
        · rename_i hc
          obtain ⟨rfl, hg0, hgm, hmn⟩ := hc
          cases hs
          obtain ⟨p, k, hp, hk, hnk, rfl⟩ := hxr
          cases lo' with
          | some _ => exact hlo.elim
          | none =>
            cases hi' with
            | none => exact hhi.elim
            | some hv =>
              cases mx' with
              | none => exact hmx.elim
              | some mv =>
                have hhv : hv = .int kg gg := hhi
                have hmv : mv = .int km m := hmx
                subst hhv
                subst hmv
                have hb : ∀ w, (Instr.sliceBounds true n k none (some (.int kg gg)) (some (.int km m))).run P w = .ok (0, gg.toNat, m.toNat) w := fun w => by
                  have h1 : m ≤ (k : Int) := by omega
                  have h2 : 0 ≤ m := by omega
                  have h3 : gg ≤ max m 0 := by omega
                  simp [Instr.sliceBounds, Instr.sliceBound, asIntOf, h1, h2, h3, hg0]
                refine ⟨.slice (some ⟨p.1, o, none⟩) gg.toNat m.toNat, ⟨p, m.toNat, hp, rfl, by omega, rfl⟩, .inl (run_vSem ?_)⟩
                simp only [Instr.sliceAt, Instr.slice, Sem.run_bind, run_under hu, Result.andThen_ok, hb, run_sizeB hsz, Sem.run_pure]
                split <;> simp [add_lit]
        · cases hs
      · cases hs
    · cases hs
  · cases hs
theorem fit_mSliceQ (hT : TOK P g) (H : HInv ro base w0 E h w) {ty : TypeId} {x : RV} {u : Value} {lo hi mx : Option RV} {lo' hi' mx' : Option Value} {e : Eff} (hx : VRel E x u) (hlo : ORel E lo lo') (hhi : ORel E hi hi') (hmx : ORel E mx mx')
    (hs : mSliceQ P g h ty x lo hi mx = some e) : Fits ro base w0 E h w ((vSem (Instr.sliceAt ty u lo' hi' mx')).run P w) e := by
  unfold mSliceQ at hs
  split at hs
  · rename_i e' he
    cases hs
    unfold sliceQ at he
    have non : ∀ y : Option Value, ORel E none y → y = none := fun y hy => by
      cases y with
      | none => rfl
      | some _ => exact hy.elim
    split at he
    · rw [non _ hhi, non _ hmx]
      exact fit_sliceQ0 hT H hx hlo he
    · rw [non _ hhi, non _ hmx]
      exact fit_sliceQ1 hT H hx hlo he
    · rw [non _ hhi, non _ hmx]
      exact fit_sliceQ2 hT H hx hlo he
    · cases he
  · split at hs
    · rename_i e' he
      cases hs
      exact fit_sliceClip hx hlo hhi hmx he
    · exact fit_mSlice hT H hx hlo hhi hmx hs

theorem fit_makeSlice (H : HInv ro base w0 E h w) {ty : TypeId} {x y : RV} {u v : Value} {e : Eff} (hx : VRel E x u) (hy : VRel E y v) (hs : makeSliceOp P h ty x y = some e) :
    Fits ro base w0 E h w ((vSem (Instr.makeSlice ty u v)).run P w) e := by
  unfold makeSliceOp at hs
  split at hs
  · rename_i elem l c hu
    cases hx
    cases hy
    split at hs
    · rename_i s zero hsz hz
      obtain ⟨z, hzrun, hzr⟩ := zero_rel (E := E) hz
      split at hs
      · rename_i hc
        simp only [Bool.and_eq_true, decide_eq_true_eq] at hc
        obtain ⟨⟨⟨⟨⟨h0, h1⟩, h2⟩, h3⟩, h4⟩, h5⟩ := hc
        cases hs
        obtain ⟨i, hi⟩ : ∃ i, P.info? elem = some i := by
          cases hq : P.info? elem with
          | none => rw [hq] at h5; simp at h5
          | some i => exact ⟨i, rfl⟩
        rw [hi] at h5
        simp only [Option.map_some, Option.getD_some] at h5
        have hcs : c ≤ 65536 := by
          by_cases hge : c < 65537
          · omega
          · exfalso
            have hge : 65537 ≤ c := by omega
            have : (65537 : Int) * 1 ≤ c * ((s : Int) + 1) := by
              apply Int.mul_le_mul hge (by omega) (by omega) (by omega)
            omega
        have hw1 : IntKind.i64.wrap l = l := IntWalk.i64_in _ (by omega)
        have hw2 : IntKind.i64.wrap c = c := IntWalk.i64_in _ (by omega)
        have hbig : ¬ ((i.bytes : Int) * c > 281474976710656) := by
          have : (i.bytes : Int) * c ≤ 65536 * 65536 := Int.mul_le_mul (by omega) hcs (by omega) (by omega)
          omega
        have hc0 : ¬ c < 0 := by omega
        have hl0 : ¬ l < 0 := by omega
        have hlc : ¬ l > c := by omega
        have hr := rep_rel hzr c.toNat s h3
        have hrl := hr.length
        have H' := H.allocCells _ elem _ false (by rw [hrl, List.take_length]; exact hr) (fun _ => by rw [hrl, Array.length_toList])
        refine ⟨_, _, _, List.prefix_append _ _, ⟨_, c.toNat, H.new_get _, ?_, by omega, rfl⟩, .inl (run_vSem ?_), H'⟩
        · simp
        · have hdef : (Instr.makeSlice ty (.int .i64 l) (.int .i64 c)).run P w = _ := rfl
          by_cases hn : c.toNat * (s + 1) = 0
          · have hcz : c.toNat = 0 := by
              rcases Nat.mul_eq_zero.1 hn with e | e
              · exact e
              · omega
            simp [Instr.makeSlice, run_under hu, asInt, asIntOf, typeInfo, hi, hw1, hw2, hc0, hl0, hlc, hbig, run_sizeB hsz, hcz, newRow]
            have e0 : ∀ f : Nat → Value, (Array.range 0).map f = #[] := fun f => by simp
            rw [e0, e0]
          · have hcz : ¬ c.toNat = 0 := fun e => hn (by rw [e]; simp)
            simp [Instr.makeSlice, run_under hu, asInt, asIntOf, typeInfo, hi, hw1, hw2, hc0, hl0, hlc, hbig, run_sizeB hsz, hzrun, newRow]
            intro e
            exact absurd e hn
      · cases hs
    · cases hs
  · cases hs

theorem fit_pure (ht : All2 (VRel E) t a.tmps.toList) {o : Oper} {e : Eff} (hs : pureOp P o t = some e) : Fits ro base w0 E h w ((execOp a.eval o).run P w) e := by
  unfold pureOp at hs
  split at hs
  · cases hs
  · rename_i hsel
    split at hs
    · rename_i hall
      have hcong : execOp a.eval o = execOp (fun x => (ev t x).v) o := by
        refine execOp_congr o (fun cs b e => hsel cs b e) fun x hx => ?_
        have h1 := ev_rel ht x
        have h2 : (ev t x).isPl = true := by
          rw [List.all_eq_true] at hall
          exact hall x (by simpa using hx)
        cases hev : ev t x with
        | pl v => rw [hev] at h1; exact h1
        | _ => rw [hev] at h2; cases h2
      rw [hcong]
      split at hs
      · rename_i v hq
        cases hs
        exact ⟨v, rfl, .inl (quiet_run P _ _ hq w)⟩
      · rename_i hq
        cases hs
        exact ⟨undef, rfl, .inr ⟨quiet_run P _ _ hq w, rfl⟩⟩
      · rename_i f args hq
        cases hs
        exact ⟨args.toList, All2.pls _, by rw [quiet_run P _ _ hq w]⟩
      · cases hs
    · cases hs

/-- A block of a heap, told in another way. -/
theorem HInv.swap {ro : Ro} {b : Nat} {o o' : RO} (H : HInv ro base w0 E h w) (hb : at? h b = some o) (how : o'.own = o.own) (hno : o'.nest = false) (hB : ∀ p, BRel E p w o → BRel E p w o') : HInv ro base w0 E (h.set b (some o')) w := by
  have hlt := at?_lt hb
  have key : ∀ b' x, at? (h.set b (some o')) b' = some x → (b' = b ∧ x = o') ∨ (b ≠ b' ∧ at? h b' = some x) := fun b' x hx => by
    by_cases e : b = b'
    · subst e
      rw [at?_set_same _ hlt] at hx
      cases hx
      exact .inl ⟨rfl, rfl⟩
    · exact .inr ⟨e, by rwa [at?_set_other _ e] at hx⟩
  have alive : ∀ b' x, at? (h.set b (some o')) b' = some x → x.own = true → ∃ y, at? h b' = some y ∧ y.own = true := fun b' x hx hxo => by
    rcases key b' x hx with ⟨rfl, rfl⟩ | ⟨_, h1⟩
    · exact ⟨o, hb, by rw [← how]; exact hxo⟩
    · exact ⟨x, h1, hxo⟩
  refine ⟨H.below, H.lb, by simpa using H.len, H.ro, fun b' x hx => ?_, fun b1 b2 o1 o2 p1 p2 h1 h2 v1 v2 => ?_, fun b1 o1 p1 h1 hn e1 q hq => ?_, H.pin⟩
  rotate_right
  · rcases key b1 o1 h1 with ⟨rfl, rfl⟩ | ⟨hne, k1⟩
    · rw [hno] at hn
      cases hn
    · obtain ⟨g1, g2⟩ := H.frm b1 o1 p1 k1 hn e1 q hq
      refine ⟨g1, ?_⟩
      split
      · rename_i ho1
        rw [if_pos ho1] at g2
        refine ⟨g2.1, fun b2 o2 p2 h2 v2 e2 => ?_⟩
        obtain ⟨y2, hy2, z2⟩ := alive b2 o2 h2 v2
        exact g2.2 b2 y2 p2 hy2 z2 e2
      · rename_i ho1
        rwa [if_neg ho1] at g2
  · rcases key b' x hx with ⟨rfl, rfl⟩ | ⟨hne, h1⟩
    · obtain ⟨q, e1, e2, e3⟩ := H.blk b' o hb
      exact ⟨q, e1, by rw [how]; exact e2, hB q e3⟩
    · exact H.blk b' x h1
  · obtain ⟨y1, hy1, z1⟩ := alive b1 o1 h1 v1
    obtain ⟨y2, hy2, z2⟩ := alive b2 o2 h2 v2
    exact H.inj b1 b2 y1 y2 p1 p2 hy1 hy2 z1 z2
theorem pls_list {l vs : List Value} : All2 (VRel E) (l.map .pl) vs ↔ vs = l := by
  constructor
  · intro h
    exact VRels.fn _ _ _ (VRels_iff.2 h) (VRels_iff.2 (All2.pls l))
  · rintro rfl
    exact All2.pls _
theorem lst_cells {p : EP} {i : Nat} {e : TypeId} : BRel E p w (.lst i e true) ↔ BRel E p w (.cells ((Val.L i).map .pl) e true false) := by
  constructor
  · rintro ⟨cur, fr, h1, h2, h3, h4⟩
    exact ⟨cur, fr, h1, h2, by rw [List.length_map]; exact pls_list.2 h3, fun h => (by cases h), fun _ => h4 rfl⟩
  · rintro ⟨cur, fr, h1, h2, h3, h4, h5⟩
    rw [List.length_map] at h3
    exact ⟨cur, fr, h1, h2, pls_list.1 h3, fun _ => h5 rfl⟩
theorem cells_lst {p : EP} {j : Nat} {l : List RV} {e : TypeId} {room : Bool} (hl : ∀ vs, All2 (VRel E) l vs → vs = Val.L j) (hlen : l.length = (Val.L j).length) (h : BRel E p w (.cells l e room false)) : BRel E p w (.lst j e true) := by
  obtain ⟨cur, fr, h1, h2, h3, h4, h5⟩ := h
  rw [hlen] at h3
  exact ⟨cur, fr, h1, h2, hl _ h3, fun _ => h5 rfl⟩
omit [Val] in
theorem getCells_set {b b' o n : Nat} {x : Option RO} (hne : b ≠ b') : Ri.getCells (h.set b x) b' o n = Ri.getCells h b' o n := by
  unfold Ri.getCells
  rw [lkp_eq, lkp_eq, List.getElem?_set_ne hne]
theorem fit_appN (hT : TOK P g) (H : HInv ro base w0 E h w) {argTypes : Array TypeId} {ty : TypeId} {s x : RV} {us u : Value} {e : Eff} (hsr : VRel E s us) (hx : VRel E x u) (hs : appN P g h argTypes s x = some e) :
    Fits ro base w0 E h w ((vSem (Builtin.append_ argTypes ty #[us, u])).run P w) e := by
  unfold appN at hs
  split at hs
  · rename_i b i sz tS tX hTy
    split at hs
    · rename_i elem hu
      split at hs
      · rename_i t zero hi hz
        split at hs
        · cases hs
        · rename_i hcz
          simp only [Bool.or_eq_true, decide_eq_true_eq, not_or, Decidable.not_not, Bool.not_eq_true', Bool.not_eq_false] at hcz
          obtain ⟨⟨⟨hsz0, hzl⟩, hsz⟩, hby⟩ := hcz
          subst hsz
          split at hs
          · rename_i ncs m i' e' hsrc hl
            split at hs
            · rename_i hc
              simp only [Bool.and_eq_true, decide_eq_true_eq, ne_eq] at hc
              obtain ⟨⟨⟨⟨hone, hfl⟩, hm⟩, rfl⟩, rfl⟩ := hc
              obtain ⟨j, hj, rfl⟩ : ∃ j, applook g.LA i' ncs = some j ∧ e = .moveB (.slN h.length j t.size) b (.lst j e' true) := by
                cases hq : applook g.LA i' ncs with
                | none => rw [hq] at hs; cases hs
                | some j => rw [hq] at hs; cases hs; exact ⟨j, rfl, rfl⟩
              obtain ⟨en, hen, rfl, rfl, rfl⟩ := applook_mem _ _ _ _ hj
              obtain ⟨hLj, hLb, hL1⟩ := hT.la en hen
              rw [lkp_eq] at hl
              obtain ⟨p, n, hp, hs0, hn, hnk, rfl⟩ := hsr
              have H' := H.swap (o' := .cells ((Val.L en.i).map .pl) e' true false) hl rfl rfl (fun q => lst_cells.1)
              have hlt := at?_lt hl
              have hat : at? (h.set b (some (.cells ((Val.L en.i).map .pl) e' true false))) b = some (.cells ((Val.L en.i).map .pl) e' true false) := at?_set_same _ hlt
              have hncs : m * t.size = en.cs.length := by
                obtain ⟨vs, _, h1, _⟩ := src_spec H hx hu hsrc
                exact h1.symm
              have hlen : ((Val.L en.i).map RV.pl).length = n * t.size := by rw [List.length_map]; exact hn
              have hlenj : (Val.L en.j).length = (n + m) * t.size := by
                rw [hLj, List.length_append, hn, List.length_map, Nat.add_mul, hncs]
              have hcells : ∀ vs, All2 (VRel E) ((Val.L en.i).map .pl ++ en.cs) vs → vs = Val.L en.j := by
                intro vs hv
                have h2 := (All2.pls (E := E) (Val.L en.i)).append (rel_cvs (E := E) en.cs hfl)
                rw [hLj]
                exact VRels.fn _ _ _ (VRels_iff.2 hv) (VRels_iff.2 h2)
              have hsrc' : srcCells P (h.set b (some (.cells ((Val.L en.i).map .pl) e' true false))) tS tX e' t.size x = some (en.cs, m) := by
                unfold srcCells at hsrc ⊢
                cases x with
                | sl b2 o2 n2 s2 c2 =>
                  simp only at hsrc ⊢
                  have hne : b ≠ b2 := by
                    rintro rfl
                    split at hsrc
                    · unfold Ri.getCells at hsrc
                      rw [lkp_eq] at hsrc
                      rw [hl] at hsrc
                      cases hsrc
                    · cases hsrc
                  rw [getCells_set hne]
                  exact hsrc
                | pl v => cases v with
                  | slice q n c => cases q <;> exact hsrc
                  | _ => exact hsrc
                | _ => exact hsrc
              have hbig : (n + m) * t.bytes ≤ 1000000000 := by
                have h1 : n + m ≤ 1000000 := by
                  have : (n + m) * 1 ≤ (n + m) * t.size := Nat.mul_le_mul_left _ (by omega)
                  omega
                have h2 : t.bytes ≤ 1000 := Nat.le_of_ble_eq_true hby
                have := Nat.mul_le_mul h1 h2
                omega
              have hnm : n + m ≤ 1000000000 := by
                have : (n + m) * 1 ≤ (n + m) * t.size := Nat.mul_le_mul_left _ (by omega)
                omega
              have hall : ((Val.L en.i).map RV.pl).all one = true := by
                rw [List.all_map, List.all_eq_true]
                exact fun v hv => hL1 v hv
              have happ : appendOp P (h.set b (some (.cells ((Val.L en.i).map .pl) e' true false))) argTypes (.sl b 0 n t.size none) x =
                  some (.moveB (.sl (h.set b (some (.cells ((Val.L en.i).map .pl) e' true false))).length 0 (n + m) t.size none) b (.cells ((Val.L en.i).map .pl ++ en.cs) e' true false)) := by
                unfold appendOp
                rw [hTy]
                simp only [hu, hi, hz, hsrc', hone]
                rw [if_neg (by simp; omega)]
                simp only [appendTo, if_true]
                rw [if_neg (by simp), if_neg hm]
                unfold appendSl
                have hlk : lkp (h.set b (some (.cells ((Val.L en.i).map .pl) e' true false))) b = some (.cells ((Val.L en.i).map .pl) e' true false) := by rw [lkp_eq]; exact hat
                rw [hlk]
                simp only
                rw [if_neg (by simp), if_neg (by
                  have : en.cs.length ≠ 0 := by
                    rw [← hncs]
                    exact Nat.mul_ne_zero hm (by omega)
                  rw [hlen, Nat.add_mul, hncs]
                  omega), if_pos (by simp [hlen, hbig, hnm]), if_pos (by simp only [hlen, hall]; simp)]
              have hvs : VRel E (.sl b 0 n t.size none) (.slice (some ⟨p.1, 0, none⟩) n (p.2 / t.size)) := ⟨p, p.2 / t.size, hp, by simp, hnk, rfl⟩
              have hf := fit_append (ty := ty) H' hvs hx happ
              obtain ⟨E2, u2, w2, hE, hv, hres, H2⟩ := hf
              rw [List.length_set] at hv
              obtain ⟨p2, k2, hp2, hk2, hnk2, rfl⟩ := hv
              refine ⟨E2, _, w2, hE, ⟨p2, n + m, hp2, hs0, hlenj, ?_, ?_⟩, hres, ?_⟩
              · rw [hk2] at hnk2
                simpa using hnk2
              · rw [hk2]; simp
              · rw [List.set_set] at H2
                have hat2 : at? (h.set b none ++ [some (RO.cells ((Val.L en.i).map .pl ++ en.cs) e' true false)]) h.length = some (RO.cells ((Val.L en.i).map .pl ++ en.cs) e' true false) := by
                  have := at?_push_new (h.set b none) (some (RO.cells ((Val.L en.i).map .pl ++ en.cs) e' true false))
                  rwa [List.length_set] at this
                have hcells2 : ∀ vs, All2 (VRel E2) ((Val.L en.i).map .pl ++ en.cs) vs → vs = Val.L en.j := by
                  intro vs hv
                  have h2 := (All2.pls (E := E2) (Val.L en.i)).append (rel_cvs (E := E2) en.cs hfl)
                  rw [hLj]
                  exact VRels.fn _ _ _ (VRels_iff.2 hv) (VRels_iff.2 h2)
                have H3 := H2.swap (o' := .lst en.j e' true) hat2 rfl rfl (fun q => cells_lst hcells2 (by rw [hlenj, List.length_append, hlen, ← hncs, Nat.add_mul]))
                have e5 : (h.set b none ++ [some (RO.cells ((Val.L en.i).map .pl ++ en.cs) e' true false)]).set h.length (some (RO.lst en.j e' true)) = h.set b none ++ [some (RO.lst en.j e' true)] := by
                  rw [List.set_append_right _ _ (by simp)]
                  simp
                rw [e5] at H3
                exact H3
            · cases hs
          · cases hs
      · cases hs
    · cases hs
  · cases hs

theorem slP_sl {b i j sz a : Nat} {u : Value} (hx : VRel E (.slP b i j sz a) u) : ∃ o n c, VRel E (.sl b o n sz (some c)) u ∧ (Val.L j).length = n * sz ∧ 0 < sz ∧ o + n * sz ≤ (Val.L i).length ∧ Val.L j = ((Val.L i).drop o).take (n * sz) := by
  obtain ⟨p, n, hp, h0, hn, hle, hj, hc, rfl⟩ := hx
  have hle' : (Val.I a).toNat * sz + n * sz ≤ (Val.L i).length := by rw [← Nat.add_mul]; exact hle
  by_cases hk : p.2 / sz = (Val.I a).toNat
  · have hn0 : n = 0 := by omega
    subst hn0
    refine ⟨0, 0, p.2 / sz - (Val.I a).toNat, ⟨p, _, hp, rfl, by simp, by rw [if_pos hk]; rfl⟩, hn, h0, by simp, ?_⟩
    rw [hj]
    simp
  · exact ⟨(Val.I a).toNat * sz, n, p.2 / sz - (Val.I a).toNat, ⟨p, _, hp, rfl, by simp; omega, by rw [if_neg hk]; rfl⟩, hn, h0, hle', hj⟩
theorem srcPart {h : RH} {tS elem : TypeId} {b i j o n sz c : Nat} {e : TypeId} (hat : at? h b = some (.cells ((Val.L i).map .pl) e true false)) (hle : o + n * sz ≤ (Val.L i).length) (hj : Val.L j = ((Val.L i).drop o).take (n * sz)) :
    srcCells P h tS tS elem sz (.sl b o n sz (some c)) = some ((Val.L j).map .pl, n) := by
  unfold srcCells
  simp only [decide_true, Bool.and_self, if_true]
  unfold Ri.getCells
  unfold at? at hat
  rw [lkp_eq, hat]
  simp only
  rw [seg_some _ _ _ (by rw [List.length_map]; exact hle), hj]
  simp [List.map_drop, List.map_take]
omit [Val] in
theorem heap_back {h : RH} {b : Nat} {X Y Z : Option RO} {o : RO} (hl : at? h b = some o) : ((h.set b X ++ [Y]).set h.length Z).set b (some o) = h ++ [Z] := by
  have hlt := at?_lt hl
  rw [List.set_append_right _ _ (by simp), List.set_append_left _ _ (by simpa using hlt)]
  have e1 : h[b] = some o := by
    unfold at? at hl
    rw [List.getElem?_eq_getElem hlt] at hl
    exact hl
  have e2 : h.set b (some o) = h := by rw [← e1, List.set_getElem_self]
  simp [e2]
theorem fit_appPc (hT : TOK P g) (H : HInv ro base w0 E h w) {argTypes : Array TypeId} {ty : TypeId} {s : RV} {b i j sz : Nat} {us u : Value} {e : Eff} (hsr : VRel E s us) (hx : ∃ o n c, VRel E (.sl b o n sz (some c)) u ∧ (Val.L j).length = n * sz ∧ 0 < sz ∧ o + n * sz ≤ (Val.L i).length ∧ Val.L j = ((Val.L i).drop o).take (n * sz)) (hs : appPc P g h argTypes s b i j sz = some e) :
    Fits ro base w0 E h w ((vSem (Builtin.append_ argTypes ty #[us, u])).run P w) e := by
  unfold appPc at hs
  split at hs
  · rename_i tS tX hTy
    split at hs
    · rename_i elem hu
      split at hs
      · rename_i t zero hi hz
        split at hs
        · cases hs
        · rename_i hcz
          simp only [Bool.or_eq_true, decide_eq_true_eq, not_or, Decidable.not_not, Bool.not_eq_true', Bool.not_eq_false, ne_eq] at hcz
          obtain ⟨⟨⟨⟨hsz0, hzl⟩, hsz⟩, hby⟩, htt⟩ := hcz
          subst hsz
          subst htt
          have hby' : t.bytes ≤ 1000 := Nat.le_of_ble_eq_true hby
          split at hs
          · rename_i i' e' hl
            split at hs
            · rename_i hc
              obtain ⟨rfl, rfl⟩ := hc
              rw [lkp_eq] at hl
              obtain ⟨o, n, c, hx', hnj, h0, hle, hj⟩ := hx
              have hlt := at?_lt hl
              have H1 := H.swap (o' := .cells ((Val.L i').map .pl) e' true false) hl rfl rfl (fun q => lst_cells.1)
              have hat1 : at? (h.set b (some (.cells ((Val.L i').map .pl) e' true false))) b = some (.cells ((Val.L i').map .pl) e' true false) := at?_set_same _ hlt
              unfold appP1 at hs
              split at hs
              · split at hs
                · rename_i hz0
                  cases hs
                  have hn0 : n = 0 := by
                    rw [hT.lz _ (memZ_mem _ _ hz0)] at hnj
                    rcases Nat.mul_eq_zero.1 hnj.symm with h | h
                    · exact h
                    · omega
                  subst hn0
                  have happ : appendOp P (h.set b (some (.cells ((Val.L i').map .pl) e' true false))) argTypes (.pl (.slice none 0 0)) (.sl b o 0 t.size (some c)) = some (.same (.pl (.slice none 0 0))) := by
                    unfold appendOp
                    rw [hTy]
                    simp only [hu, hi, hz, srcPart hat1 hle hj]
                    rw [if_neg (by simp; omega)]
                    have hL : Val.L j = [] := hT.lz _ (memZ_mem _ _ hz0)
                    simp [hL, appendTo]
                  exact fit_append (ty := ty) H1 hsr hx' happ
                · split at hs
                  · rename_i k hk
                    cases hs
                    obtain ⟨hne, hLk, hLb, hL1⟩ := hT.lb _ (lblook0_mem _ _ _ hk)
                    replace hLk : Val.L k = Val.L j := hLk
                    have hn1 : n ≠ 0 := by
                      rintro rfl
                      apply hne
                      exact List.eq_nil_of_length_eq_zero (by rw [hnj]; simp)
                    have hone : ((Val.L j).map RV.pl).all one = true := by
                      rw [List.all_map, List.all_eq_true]
                      exact fun v hv => hL1 v (show v ∈ Val.L k by rw [hLk]; exact hv)
                    have hnb : n ≤ 1000000 := by
                      have h1 : n * 1 ≤ n * t.size := Nat.mul_le_mul_left _ (by omega)
                      have h2 : (Val.L k).length ≤ 1000000 := hLb
                      rw [hLk, hnj] at h2
                      omega
                    have hbig : n * t.bytes ≤ 1000000000 := by
                      have := Nat.mul_le_mul hnb hby'
                      omega
                    have happ : appendOp P (h.set b (some (.cells ((Val.L i').map .pl) e' true false))) argTypes (.pl (.slice none 0 0)) (.sl b o n t.size (some c)) =
                        some (.newB (.sl (h.set b (some (.cells ((Val.L i').map .pl) e' true false))).length 0 n t.size none) (.cells ((Val.L j).map .pl) e' true false)) := by
                      unfold appendOp
                      rw [hTy]
                      simp only [hu, hi, hz, srcPart hat1 hle hj]
                      rw [if_neg (by simp; omega), if_pos hone]
                      simp only [appendTo]
                      rw [if_neg hn1, if_pos (by simp [hbig]; omega)]
                    obtain ⟨E2, u2, w2, hE, hv, hres, H2⟩ := fit_append (ty := ty) H1 hsr hx' happ
                    rw [List.length_set] at hv
                    obtain ⟨p2, k2, hp2, hk2, hnk2, rfl⟩ := hv
                    refine ⟨E2, _, w2, hE, ⟨p2, n, hp2, h0, by rw [hLk]; exact hnj, ?_, ?_⟩, hres, ?_⟩
                    · rw [hk2] at hnk2
                      simpa using hnk2
                    · rw [hk2]; simp
                    · have hat2 : at? (h.set b (some (.cells ((Val.L i').map .pl) e' true false)) ++ [some (RO.cells ((Val.L j).map .pl) e' true false)]) h.length = some (RO.cells ((Val.L j).map .pl) e' true false) := by
                        have := at?_push_new (h.set b (some (.cells ((Val.L i').map .pl) e' true false))) (some (RO.cells ((Val.L j).map .pl) e' true false))
                        rwa [List.length_set] at this
                      have H3 := H2.swap (o' := .lst k e' true) hat2 rfl rfl (fun q => cells_lst (fun vs hv => (pls_list.1 hv).trans hLk.symm) (by rw [List.length_map, hLk]))
                      have hat3 : at? ((h.set b (some (.cells ((Val.L i').map .pl) e' true false)) ++ [some (RO.cells ((Val.L j).map .pl) e' true false)]).set h.length (some (RO.lst k e' true))) b = some (.cells ((Val.L i').map .pl) e' true false) := by
                        rw [at?_set_other _ (by omega), at?_push_old (by simpa using hlt)]
                        exact hat1
                      have H4 := H3.swap (o' := .lst i' e' true) hat3 rfl rfl (fun q => lst_cells.2)
                      rw [heap_back hl] at H4
                      exact H4
                  · cases hs
              · rename_i b2 i2 sz2
                split at hs
                · rename_i hss
                  obtain rfl := Nat.eq_of_beq_eq_true hss
                  obtain ⟨p', n', hp', hs0', hn', hnk', rfl⟩ := hsr
                  have hsr' : VRel E (.sl b2 0 n' t.size none) (.slice (some ⟨p'.1, 0, none⟩) n' (p'.2 / t.size)) := ⟨p', p'.2 / t.size, hp', by simp, hnk', rfl⟩
                  split at hs
                  · rename_i hz0
                    split at hs
                    · split at hs
                      · cases hs
                        have hn0 : n = 0 := by
                          rw [hT.lz _ (memZ_mem _ _ hz0)] at hnj
                          rcases Nat.mul_eq_zero.1 hnj.symm with h | h
                          · exact h
                          · omega
                        subst hn0
                        have happ : appendOp P (h.set b (some (.cells ((Val.L i').map .pl) e' true false))) argTypes (.sl b2 0 n' t.size none) (.sl b o 0 t.size (some c)) = some (.same (.sl b2 0 n' t.size none)) := by
                          unfold appendOp
                          rw [hTy]
                          simp only [hu, hi, hz, srcPart hat1 hle hj]
                          rw [if_neg (by simp; omega)]
                          have hL : Val.L j = [] := hT.lz _ (memZ_mem _ _ hz0)
                          simp [hL, appendTo]
                        obtain ⟨u', hu', hres⟩ := fit_append (ty := ty) H1 hsr' hx' happ
                        obtain rfl := VRel.fn _ _ _ hu' hsr'
                        exact ⟨_, ⟨p', n', hp', hs0', hn', hnk', rfl⟩, hres⟩
                      · cases hs
                    · cases hs
                  · split at hs
                    · cases hs
                    · rename_i hbb
                      have hne : b ≠ b2 := by
                        rintro rfl
                        simp at hbb
                      split at hs
                      · rename_i i3 e3 hl2
                        split at hs
                        · rename_i hc2
                          obtain ⟨rfl, rfl⟩ := hc2
                          rw [lkp_eq] at hl2
                          obtain ⟨k, hk, rfl⟩ : ∃ k, lblook g.LB i3 j = some k ∧ e = .moveB (.slN h.length k t.size) b2 (.lst k e3 true) := by
                            cases hq : lblook g.LB i3 j with
                            | none => rw [hq] at hs; cases hs
                            | some k => rw [hq] at hs; cases hs; exact ⟨k, rfl, rfl⟩
                          obtain ⟨hnn, hLk, hLb, hL1⟩ := hT.lb _ (lblook_mem _ _ _ _ hk)
                          replace hLk : Val.L k = Val.L i3 ++ Val.L j := hLk
                          have hn1 : n ≠ 0 := by
                            rintro rfl
                            apply hnn
                            exact List.eq_nil_of_length_eq_zero (by rw [hnj]; simp)
                          have hone : ((Val.L j).map RV.pl).all one = true := by
                            rw [List.all_map, List.all_eq_true]
                            exact fun v hv => hL1 v (show v ∈ Val.L k by rw [hLk]; exact List.mem_append_right _ hv)
                          have hone2 : ((Val.L i3).map RV.pl).all one = true := by
                            rw [List.all_map, List.all_eq_true]
                            exact fun v hv => hL1 v (show v ∈ Val.L k by rw [hLk]; exact List.mem_append_left _ hv)
                          have hlenk : (Val.L k).length = (n' + n) * t.size := by
                            rw [hLk, List.length_append, hn', hnj, Nat.add_mul]
                          have hnb : n' + n ≤ 1000000 := by
                            have h1 : (n' + n) * 1 ≤ (n' + n) * t.size := Nat.mul_le_mul_left _ (by omega)
                            have h2 : (Val.L k).length ≤ 1000000 := hLb
                            rw [hlenk] at h2
                            omega
                          have hbig : (n' + n) * t.bytes ≤ 1000000000 := by
                            have := Nat.mul_le_mul hnb hby'
                            omega
                          have hl2' : at? (h.set b (some (.cells ((Val.L i').map .pl) e3 true false))) b2 = some (.lst i3 e3 true) := by
                            rw [at?_set_other _ hne]
                            exact hl2
                          have H2 := H1.swap (o' := .cells ((Val.L i3).map .pl) e3 true false) hl2' rfl rfl (fun q => lst_cells.1)
                          generalize hhh : (h.set b (some (.cells ((Val.L i').map .pl) e3 true false))).set b2 (some (.cells ((Val.L i3).map .pl) e3 true false)) = h2 at H2
                          have hat2 : at? h2 b = some (.cells ((Val.L i').map .pl) e3 true false) := by
                            rw [← hhh, at?_set_other _ (Ne.symm hne)]
                            exact hat1
                          have hat3 : at? h2 b2 = some (.cells ((Val.L i3).map .pl) e3 true false) := by
                            rw [← hhh]
                            exact at?_set_same _ (at?_lt hl2')
                          have hlen2 : h2.length = h.length := by rw [← hhh]; simp
                          have happ : appendOp P h2 argTypes (.sl b2 0 n' t.size none) (.sl b o n t.size (some c)) =
                              some (.moveB (.sl h2.length 0 (n' + n) t.size none) b2 (.cells ((Val.L i3).map .pl ++ (Val.L j).map .pl) e3 true false)) := by
                            unfold appendOp
                            rw [hTy]
                            simp only [hu, hi, hz, srcPart hat2 hle hj]
                            rw [if_neg (by simp; omega), if_pos hone]
                            simp only [appendTo]
                            rw [if_neg (by simp), if_neg hn1]
                            unfold appendSl
                            have hlk : lkp h2 b2 = some (.cells ((Val.L i3).map .pl) e3 true false) := by rw [lkp_eq]; exact hat3
                            rw [hlk]
                            simp only
                            have hlen : ((Val.L i3).map RV.pl).length = n' * t.size := by rw [List.length_map]; exact hn'
                            have hpos : 0 < n * t.size := Nat.mul_pos (by omega) h0
                            rw [if_neg (by simp), if_neg (by
                              rw [hlen, Nat.add_mul]
                              omega), if_pos (by simp [hlen, hbig]; omega), if_pos (by simp only [hlen, hone2]; simp)]
                          obtain ⟨E2, u2, w2, hE, hv, hres, H3⟩ := fit_append (ty := ty) H2 hsr' hx' happ
                          rw [hlen2] at hv
                          obtain ⟨p2, k2, hp2, hk2, hnk2, rfl⟩ := hv
                          refine ⟨E2, _, w2, hE, ⟨p2, n' + n, hp2, h0, hlenk, ?_, ?_⟩, hres, ?_⟩
                          · rw [hk2] at hnk2
                            simpa using hnk2
                          · rw [hk2]; simp
                          · have e4 : h2.set b2 none = (h.set b2 none).set b (some (.cells ((Val.L i').map .pl) e3 true false)) := by
                              rw [← hhh, List.set_set, List.set_comm _ _ hne]
                            rw [e4] at H3
                            have hat4 : at? ((h.set b2 none).set b (some (.cells ((Val.L i').map .pl) e3 true false)) ++ [some (RO.cells ((Val.L i3).map .pl ++ (Val.L j).map .pl) e3 true false)]) (h.set b2 none).length = some (RO.cells ((Val.L i3).map .pl ++ (Val.L j).map .pl) e3 true false) := by
                              have := at?_push_new ((h.set b2 none).set b (some (.cells ((Val.L i').map .pl) e3 true false))) (some (RO.cells ((Val.L i3).map .pl ++ (Val.L j).map .pl) e3 true false))
                              rwa [List.length_set] at this
                            have H4 := H3.swap (o' := .lst k e3 true) hat4 rfl rfl (fun q => cells_lst (fun vs hv => by
                              rw [← List.map_append] at hv
                              exact (pls_list.1 hv).trans hLk.symm) (by rw [List.length_append, List.length_map, List.length_map, hLk, List.length_append]))
                            have hlt4 : b < (h.set b2 none).length := by simpa using hlt
                            have hat5 : at? (((h.set b2 none).set b (some (.cells ((Val.L i').map .pl) e3 true false)) ++ [some (RO.cells ((Val.L i3).map .pl ++ (Val.L j).map .pl) e3 true false)]).set (h.set b2 none).length (some (RO.lst k e3 true))) b = some (.cells ((Val.L i').map .pl) e3 true false) := by
                              rw [at?_set_other _ (by omega), at?_push_old (by simpa using hlt)]
                              exact at?_set_same _ hlt4
                            have H5 := H4.swap (o' := .lst i' e3 true) hat5 rfl rfl (fun q => lst_cells.2)
                            rw [heap_back (show at? (h.set b2 none) b = some (.lst i' e3 true) by rw [at?_set_other _ (Ne.symm hne)]; exact hl)] at H5
                            exact H5
                        · cases hs
                      · cases hs
                · cases hs
              · cases hs
            · cases hs
          · cases hs
      · cases hs
    · cases hs
  · cases hs
theorem fit_appP (hT : TOK P g) (H : HInv ro base w0 E h w) {argTypes : Array TypeId} {ty : TypeId} {s x : RV} {us u : Value} {e : Eff} (hsr : VRel E s us) (hx : VRel E x u) (hs : appP P g h argTypes s x = some e) :
    Fits ro base w0 E h w ((vSem (Builtin.append_ argTypes ty #[us, u])).run P w) e := by
  unfold appP at hs
  split at hs
  · exact fit_appPc hT H hsr (slP_sl hx) hs
  · rename_i b j sz
    obtain ⟨p, n, hp, h0, hn, hnk, rfl⟩ := hx
    refine fit_appPc hT H hsr ⟨0, n, p.2 / sz, ⟨p, _, hp, rfl, by simp; omega, rfl⟩, hn, h0, by omega, ?_⟩ hs
    rw [List.drop_zero, ← hn, List.take_length]
  · cases hs
omit [Val] in
theorem bslook_mem (t l : Nat) : ∀ T : List (Nat × Nat), bslook T t = some l → (t, l) ∈ T
  | [], h => by cases h
  | e :: T, h => by
    replace h : (match Nat.beq e.1 t with | true => some e.2 | false => bslook T t) = some l := h
    split at h
    · rename_i hb
      cases h
      rw [← Nat.eq_of_beq_eq_true hb]
      exact List.mem_cons_self
    · exact List.mem_cons_of_mem _ (bslook_mem t l T h)
omit [Val] in
theorem bslookL_mem (l t : Nat) : ∀ T : List (Nat × Nat), bslookL T l = some t → (t, l) ∈ T
  | [], h => by cases h
  | e :: T, h => by
    replace h : (match Nat.beq e.2 l with | true => some e.1 | false => bslookL T l) = some t := h
    split at h
    · rename_i hb
      cases h
      rw [← Nat.eq_of_beq_eq_true hb]
      exact List.mem_cons_self
    · exact List.mem_cons_of_mem _ (bslookL_mem l t T h)
omit [Val] in
theorem eqSs_bytes : ∀ l : List UInt8, eqSs (l.map fun b => (.pl (.int .u8 b.toNat) : RV)) (l.map fun b => (.pl (.int .u8 b.toNat) : RV)) = true
  | [] => rfl
  | b :: l => by
    show (match eqS (.pl (.int .u8 b.toNat)) (.pl (.int .u8 b.toNat)) with | true => eqSs (l.map fun b => (.pl (.int .u8 b.toNat) : RV)) (l.map fun b => (.pl (.int .u8 b.toNat) : RV)) | false => false) = true
    rw [show eqS (.pl (.int .u8 b.toNat)) (.pl (.int .u8 b.toNat)) = true from beq_self_eq_true (b.toNat : Int)]
    exact eqSs_bytes l
/-- A string by its name behind a named list of bytes. -/
theorem fit_appS (hT : TOK P g) (H : HInv ro base w0 E h w) {argTypes : Array TypeId} {ty : TypeId} {s x : RV} {us u : Value} {e : Eff} (hsr : VRel E s us) (hx : VRel E x u) (hs : appS P g h argTypes s x = some e) :
    Fits ro base w0 E h w ((vSem (Builtin.append_ argTypes ty #[us, u])).run P w) e := by
  unfold appS at hs
  split at hs
  · rename_i b i t tS tX hTy
    obtain rfl : u = .string (Val.S t) := hx
    split at hs
    · rename_i elem hu hux
      split at hs
      · rename_i ti zero he hi hz
        split at hs
        · cases hs
        · rename_i hcz
          simp only [Bool.or_eq_true, decide_eq_true_eq, not_or, Decidable.not_not, Bool.not_eq_true', Bool.not_eq_false, ne_eq] at hcz
          obtain ⟨⟨hzl, hs1⟩, hby⟩ := hcz
          split at hs
          · rename_i i' e' l hl hbl
            split at hs
            · rename_i hc
              obtain ⟨rfl, rfl⟩ := hc
              have hbs : Val.L l = (Val.S t).data.toList.map fun b => Value.int .u8 b.toNat := hT.bs _ (bslook_mem _ _ _ hbl)
              have hxs : VRel E (.pl (.string (Val.S t))) (.string (Val.S t)) := rfl
              split at hs
              · rename_i hz0
                cases hs
                have h0 : (Val.S t).data.toList = [] := by
                  rw [hT.lz _ (memZ_mem _ _ hz0)] at hbs
                  exact List.map_eq_nil_iff.1 hbs.symm
                rw [lkp_eq] at hl
                have H1 := H.swap (o' := .cells ((Val.L i').map .pl) e' true false) hl rfl rfl (fun q => lst_cells.1)
                obtain ⟨p', n', hp', hs0', hn', hnk', rfl⟩ := hsr
                have hsr' : VRel E (.sl b 0 n' 1 none) (.slice (some ⟨p'.1, 0, none⟩) n' (p'.2 / 1)) := ⟨p', p'.2 / 1, hp', by simp, hnk', rfl⟩
                have happ : appendOp P (h.set b (some (.cells ((Val.L i').map .pl) e' true false))) argTypes (.sl b 0 n' 1 none) (.pl (.string (Val.S t))) = some (.same (.sl b 0 n' 1 none)) := by
                  unfold appendOp
                  rw [hTy]
                  simp only [hu, hi, hz, srcCells, hux, he, hs1]
                  rw [if_neg (by simp; omega)]
                  simp [bytesR, h0, lenB, appendTo]
                obtain ⟨u', hu', hres⟩ := fit_append (ty := ty) H1 hsr' hxs happ
                obtain rfl := VRel.fn _ _ _ hu' hsr'
                exact ⟨_, ⟨p', n', hp', hs0', hn', hnk', rfl⟩, hres⟩
              · obtain ⟨k, hk, rfl⟩ : ∃ k, lblook g.LB i' l = some k ∧ e = .moveB (.slN h.length k 1) b (.lst k e' true) := by
                  cases hq : lblook g.LB i' l with
                  | none => rw [hq] at hs; cases hs
                  | some k => rw [hq] at hs; cases hs; exact ⟨k, rfl, rfl⟩
                obtain ⟨hne, hLk, hLb, hL1⟩ := hT.lb _ (lblook_mem _ _ _ _ hk)
                replace hLk : Val.L k = Val.L i' ++ Val.L l := hLk
                have hcv : (bytesR (Val.S t)).map cv = Val.L l := by
                  rw [hbs]
                  unfold bytesR
                  rw [List.map_map]
                  rfl
                have hla : ∀ en : LAE, en ∈ [(⟨i', bytesR (Val.S t), k⟩ : LAE)] → LATrue en := by
                  intro en hen
                  obtain rfl := List.mem_singleton.1 hen
                  refine ⟨?_, hLb, fun v hv => hL1 v ?_⟩
                  · show Val.L k = Val.L i' ++ (bytesR (Val.S t)).map cv
                    rw [hcv]
                    exact hLk
                  · show v ∈ Val.L k
                    rw [hLk]
                    exact List.mem_append_left _ hv
                have hT' : TOK P { g with LA := [⟨i', bytesR (Val.S t), k⟩] } := ⟨hT.t, hT.n, hT.ll, hT.lx, hla, hT.ms, hT.ss, hT.lp, hT.lb, hT.lz, hT.ex, hT.lq, hT.iz, hT.lm, hT.lw, hT.oc, hT.lna, hT.lne, hT.lf, hT.lnw, hT.lnv, hT.bs, hT.j⟩
                have hm : lenB (Val.S t).data.toList ≠ 0 := by
                  rw [lenB_eq]
                  intro h0
                  apply hne
                  show Val.L l = []
                  rw [hbs, List.eq_nil_of_length_eq_zero h0]
                  rfl
                refine fit_appN hT' H hsr hxs ?_
                unfold appN
                rw [hTy]
                simp only [hu, hi, hz, srcCells, hux, he, hs1, hl]
                rw [if_neg (by simp [hby]; omega)]
                have hone : (bytesR (Val.S t)).all one = true := by
                  unfold bytesR
                  rw [List.all_map, List.all_eq_true]
                  exact fun _ _ => rfl
                have hfl : (bytesR (Val.S t)).all flat0 = true := by
                  unfold bytesR
                  rw [List.all_map, List.all_eq_true]
                  exact fun _ _ => rfl
                have hlk : applook [(⟨i', bytesR (Val.S t), k⟩ : LAE)] i' (bytesR (Val.S t)) = some k := by
                  show (match Nat.beq i' i' with | true => (match eqSs (bytesR (Val.S t)) (bytesR (Val.S t)) with | true => some k | false => none) | false => none) = some k
                  rw [Nat.beq_refl, show eqSs (bytesR (Val.S t)) (bytesR (Val.S t)) = true from eqSs_bytes _]
                show (if ((bytesR (Val.S t)).all one && (bytesR (Val.S t)).all flat0 && decide (lenB (Val.S t).data.toList ≠ 0) && decide (e' = e') && decide (i' = i')) = true then Option.map (fun j => Eff.moveB (.slN h.length j 1) b (.lst j e' true)) (applook [(⟨i', bytesR (Val.S t), k⟩ : LAE)] i' (bytesR (Val.S t))) else none) = _
                rw [if_pos (by simp [hm, hone, hfl]), hlk]
                rfl
            · cases hs
          · cases hs
      · cases hs
    · cases hs
  · cases hs
/-- A named list of bytes as a string by a name. -/
theorem fit_strN (hT : TOK P g) (H : HInv ro base w0 E h w) {sT dT : TypeId} {x v : RV} {u : Value} (hx : VRel E x u) (hs : strN P g h sT dT x = some v) : ∃ r, VRel E v r ∧ (convert sT dT u).run P w = .ok r w := by
  unfold strN at hs
  split at hs
  · rename_i b i e hu hd
    split at hs
    · rename_i i' e' he hl
      split at hs
      · rename_i hi
        obtain rfl := Nat.eq_of_beq_eq_true hi
        obtain ⟨t, ht, rfl⟩ : ∃ t, bslookL g.BS i' = some t ∧ v = .sym .str t := by
          cases hq : bslookL g.BS i' with
          | none => rw [hq] at hs; cases hs
          | some t => rw [hq] at hs; cases hs; exact ⟨t, rfl, rfl⟩
        have hbs : Val.L i' = (Val.S t).data.toList.map fun b => Value.int .u8 b.toNat := hT.bs _ (bslookL_mem _ _ _ ht)
        obtain ⟨p, n, hp, h0, hn, hnk, rfl⟩ := hx
        rw [lkp_eq] at hl
        have H1 := H.swap (o' := .cells ((Val.L i').map .pl) e' true false) hl rfl rfl (fun q => lst_cells.1)
        have hlt := at?_lt hl
        have hgc : Ri.getCells (h.set b (some (.cells ((Val.L i').map .pl) e' true false))) b 0 n = some ((Val.L i').map .pl) := by
          have ha : lkp (h.set b (some (.cells ((Val.L i').map .pl) e' true false))) b = some (.cells ((Val.L i').map .pl) e' true false) := (lkp_eq _ _).trans (at?_set_same _ hlt)
          have hl : ((Val.L i').map RV.pl).length = n := by rw [List.length_map, hn, Nat.mul_one]
          unfold Ri.getCells
          rw [ha]
          show seg _ 0 n = _
          rw [seg_some _ 0 n (by omega), List.drop_zero, ← hl, List.take_length]
        obtain ⟨vs, g1, g2, g3⟩ := H1.getCells_seg hgc hp
        have e1 : vs = ((Val.S t).data.toList.map fun b => (b.toNat : Int)).map (Value.int .u8) := by
          rw [pls_list.1 (show All2 (VRel E) ((Val.L i').map RV.pl) vs from g1), hbs, List.map_map]
          rfl
        refine ⟨.string (Val.S t), rfl, ?_⟩
        have hl := run_loadCells_list (P := P) w ⟨p.1, 0, none⟩ vs g3
        rw [g2, e1] at hl
        rw [run_convert_bytes_string w sT dT e _ n _ hu he hd, run_bytesToString w ⟨p.1, 0, none⟩ n _ _ hl, push_fold]
        have hid : ((fun n : Int => UInt8.ofNat n.toNat) ∘ fun b : UInt8 => (b.toNat : Int)) = id := funext fun b => by simp
        simp [hid]
      · cases hs
    · cases hs
  · cases hs
theorem emptyS_spec (H : HInv ro base w0 E h w) {s : RV} {u : Value} (he : emptyS h s = true) (hs : VRel E s u) : ∃ oa, u = .slice oa 0 0 := by
  unfold emptyS at he
  split at he
  · exact ⟨none, hs⟩
  · rename_i b s'
    split at he
    · rename_i e fz hl
      rw [lkp_eq] at hl
      obtain ⟨p, k, hp, hk, hnk, rfl⟩ := hs
      obtain ⟨q, q1, _, cur, fr, g1, g2, g3, g4, _⟩ := H.blk b _ hl
      rw [hp] at q1
      cases q1
      have h0 : p.2 = 0 := (g4 rfl).symm
      refine ⟨some ⟨p.1, 0 * s', none⟩, ?_⟩
      have hk0 : k = 0 := by
        have hk : k = p.2 / s' := by simpa using hk
        rw [hk, h0]
        simp
      rw [hk0]
      simp
    · cases he
  · cases he
theorem fit_appA (hT : TOK P g) (H : HInv ro base w0 E h w) {argTypes : Array TypeId} {ty : TypeId} {s x : RV} {us u : Value} {e : Eff} (hsr : VRel E s us) (hx : VRel E x u) (hs : appA P g h argTypes s x = some e) :
    Fits ro base w0 E h w ((vSem (Builtin.append_ argTypes ty #[us, u])).run P w) e := by
  unfold appA at hs
  split at hs
  · rename_i b j sz tS tX hTy
    split at hs
    · rename_i elem hu
      split at hs
      · rename_i t zero hi hz
        split at hs
        · cases hs
        · rename_i hcz
          simp only [Bool.or_eq_true, decide_eq_true_eq, not_or, Decidable.not_not, Bool.not_eq_true', Bool.not_eq_false, ne_eq] at hcz
          obtain ⟨⟨⟨⟨hsz0, hzl⟩, hsz⟩, hby⟩, htt⟩ := hcz
          subst hsz
          subst htt
          have hby' : t.bytes ≤ 1000 := Nat.le_of_ble_eq_true hby
          have hTt : argTypes = #[tS, tS] := Array.ext' hTy
          subst hTt
          obtain ⟨z, hzr, hza⟩ := zero_rel (E := E) hz
          have hzz : z.cells.size = t.size := by rw [← hzl, hza.length, Array.length_toList]
          have hiz : t.zero = some z := by
            have := hzr w
            simp [zeroValue, typeInfo, hi] at this
            split at this
            · rename_i z' hz'; simp at this; rw [hz', this]
            · simp at this
          have hd : notInt (TypeDesc.slice elem) := .inl ⟨elem, rfl⟩
          split at hs
          · rename_i j' hl
            split at hs
            · rename_i hc
              obtain ⟨rfl, he⟩ := hc
              rw [lkp_eq] at hl
              obtain ⟨p, oa, n, cap, hp, hpv, hab, hs0, hn, hk, rfl⟩ := hx
              obtain ⟨p2, r1, _, r2, oa2, n2, cap2, r3, r4, r5⟩ := H.blk b _ hl
              rw [hp] at r1
              cases r1
              rw [hpv] at r3
              cases r3
              obtain ⟨o0, rfl⟩ := emptyS_spec H he hsr
              have hlen : ∀ w : World, (Builtin.lenOf (.slice oa n cap)).run P w = .ok n w := fun w => by simp [Builtin.lenOf]
              have hload : (Builtin.firstCells t.size n (.slice oa n cap)).run P w.drew = .ok (Val.L j').toArray w.drew := by
                cases oa with
                | none =>
                  have : Val.L j' = [] := by
                    by_cases hnil : Val.L j' = []
                    · exact hnil
                    · obtain ⟨a, ha, _⟩ := hab hnil
                      cases ha
                  rw [this]
                  rfl
                | some a =>
                  simp only [Builtin.firstCells]
                  have := run_loadCells_list (P := P) w.drew a (Val.L j') (fun j v hj => r5 a rfl j v hj)
                  rw [hn] at this
                  exact this
              split at hs
              · rename_i hz0
                cases hs
                have hn0 : n = 0 := by
                  rw [hT.lz _ (memZ_mem _ _ hz0)] at hn
                  rcases Nat.mul_eq_zero.1 hn.symm with h | h
                  · exact h
                  · omega
                subst hn0
                have hload0 : (Builtin.firstCells t.size 0 (.slice oa 0 cap)).run P w = .ok ([] : List Value).toArray w := by
                  cases oa with
                  | none => simp [Builtin.firstCells]
                  | some a =>
                    simp only [Builtin.firstCells]
                    rw [Nat.zero_mul]
                    exact run_loadCells_list (P := P) w a [] (fun j v hj => by cases hj)
                refine ⟨_, hsr, .inl (run_vSem ?_)⟩
                rw [run_app_room hu hu hd hi o0 0 0 0 _ [] (hlen w) hload0 (by omega)]
                cases o0 <;> simp [storeCells]
              · obtain ⟨k, hk, rfl⟩ : ∃ k, lblook0 g.LB j' = some k ∧ e = .newB (.slN h.length k t.size) (.lst k elem true) := by
                  cases hq : lblook0 g.LB j' with
                  | none => rw [hq] at hs; cases hs
                  | some k => rw [hq] at hs; cases hs; exact ⟨k, rfl, rfl⟩
                obtain ⟨hne, hLk, hLb, hL1⟩ := hT.lb _ (lblook0_mem0 _ _ _ hk)
                replace hLk : Val.L k = Val.L j' := hLk
                have hn1 : n ≠ 0 := by
                  rintro rfl
                  apply hne
                  exact List.eq_nil_of_length_eq_zero (by rw [hn]; simp)
                have hnb : n ≤ 1000000 := by
                  have h1 : n * 1 ≤ n * t.size := Nat.mul_le_mul_left _ (by omega)
                  have h2 : (Val.L k).length ≤ 1000000 := hLb
                  rw [hLk, hn] at h2
                  omega
                have hbig : n * t.bytes ≤ 1000000000 := by
                  have := Nat.mul_le_mul hnb hby'
                  omega
                have hold : (Builtin.firstCells t.size 0 (.slice o0 0 0)).run P w.drew = .ok ([] : List Value).toArray w.drew := by
                  cases o0 with
                  | none => simp [Builtin.firstCells]
                  | some a =>
                    simp only [Builtin.firstCells]
                    rw [Nat.zero_mul]
                    exact run_loadCells_list (P := P) w.drew a [] (fun j v hj => by cases hj)
                have hr := run_app_grow (w := w) hu hu hd hi hiz o0 0 0 n _ _ _ (ty := ty) (hlen w) hold hload (by omega) (by omega) (by rw [Nat.zero_add]; exact hbig)
                have hge := grownCap_ge w (0 + n) 0 elem
                let pn : EP := ⟨w.heap.size, grownCap w (0 + n) 0 elem * t.size, undef, .no⟩
                have hcs : (([] : List Value).toArray ++ (Val.L j').toArray ++ Builtin.zeroCells z.cells (grownCap w (0 + n) 0 elem - (0 + n))).size = grownCap w (0 + n) 0 elem * t.size := by
                  simp only [Array.size_append, List.size_toArray, size_zeroCells, hzz, hn, List.length_nil, Nat.zero_add] at hge ⊢
                  rw [← Nat.add_mul]
                  congr 1
                  omega
                have H2 := H.drew.alloc (.cells (([] : List Value).toArray ++ (Val.L j').toArray ++ Builtin.zeroCells z.cells (grownCap w (0 + n) 0 elem - (0 + n))) elem) (grownCap w (0 + n) 0 elem * t.size) (.lst k elem true) rfl rfl ⟨_, (0, 0), heap_alloc_new w.drew _, hcs, by
                  rw [hLk]
                  simp, fun _ => .inl rfl⟩
                have hget : (E ++ [pn])[h.length]? = some pn := H.new_get pn
                refine ⟨_, _, _, List.prefix_append E [pn], ⟨pn, n, hget, by omega, by rw [hLk]; exact hn, ?_, ?_⟩, .inl (run_vSem hr), H2⟩
                · show n ≤ grownCap w (0 + n) 0 elem * t.size / t.size
                  rw [Nat.mul_div_cancel _ (by omega)]
                  omega
                · show _ = Value.slice (some ⟨w.heap.size, 0, none⟩) n (grownCap w (0 + n) 0 elem * t.size / t.size)
                  rw [Nat.mul_div_cancel _ (by omega), Nat.zero_add]
            · cases hs
          · cases hs
      · cases hs
    · cases hs
  · cases hs
theorem fit_appLQ (hT : TOK P g) (H : HInv ro base w0 E h w) {argTypes : Array TypeId} {ty : TypeId} {s x : RV} {us u : Value} {e : Eff} (hsr : VRel E s us) (hx : VRel E x u) (hs : appLQ P g h argTypes s x = some e) :
    Fits ro base w0 E h w ((vSem (Builtin.append_ argTypes ty #[us, u])).run P w) e := by
  unfold appLQ at hs
  split at hs
  · rename_i b i sz tS tX hTy
    split at hs
    · rename_i elem hu
      split at hs
      · rename_i t zero hi hz
        split at hs
        · cases hs
        · rename_i hcz
          simp only [Bool.or_eq_true, decide_eq_true_eq, not_or, Decidable.not_not, Bool.not_eq_true', Bool.not_eq_false] at hcz
          obtain ⟨⟨⟨hsz0, hzl⟩, hsz⟩, hby⟩ := hcz
          subst hsz
          split at hs
          · rename_i ncs m i' e' s' hsrc hl
            split at hs
            · rename_i hc
              simp only [Bool.and_eq_true, decide_eq_true_eq, ne_eq] at hc
              obtain ⟨⟨⟨⟨⟨hone, hfl⟩, hm⟩, rfl⟩, rfl⟩, rfl⟩ := hc
              obtain ⟨j, hj, rfl⟩ : ∃ j, applook g.LA i' ncs = some j ∧ e = .moveB (.slA h.length j t.size) b (.lstQ j e' t.size) := by
                cases hq : applook g.LA i' ncs with
                | none => rw [hq] at hs; cases hs
                | some j => rw [hq] at hs; cases hs; exact ⟨j, rfl, rfl⟩
              obtain ⟨en, hen, rfl, rfl, rfl⟩ := applook_mem _ _ _ _ hj
              obtain ⟨hLj, hLb, hL1⟩ := hT.la en hen
              have hTt : argTypes = #[tS, tX] := Array.ext' hTy
              subst hTt
              obtain ⟨z, hzr, hza⟩ := zero_rel (E := E) hz
              have hzz : z.cells.size = t.size := by rw [← hzl, hza.length, Array.length_toList]
              have hiz : t.zero = some z := by
                have := hzr w
                simp [zeroValue, typeInfo, hi] at this
                split at this
                · rename_i z' hz'; simp at this; rw [hz', this]
                · simp at this
              obtain ⟨vs, hvs, hnl, ⟨d, hd, hnd⟩, hlen, hfirst⟩ := src_spec H hx hu hsrc
              rw [lkp_eq] at hl
              obtain ⟨p, a1, n, cap, hp, hv, hab, hs0, hn, hk, rfl⟩ := hsr
              obtain ⟨p', q1, q2, hB0⟩ := H.blk1 b _ hl rfl
              rw [hp] at q1
              cases q1
              obtain ⟨off, n2, cap2, cur, g1, ⟨fr, g2, hF⟩, g3, g4, g5, g6, g7, g8⟩ := hB0
              rw [hv] at g1
              cases g1
              obtain rfl : vs = en.cs.map cv := VRels.fn _ _ _ (VRels_iff.2 hvs) (VRels_iff.2 (rel_cvs (E := E) en.cs hfl))
              have hml : (en.cs.map cv).length = m * t.size := by rw [List.length_map]; exact hnl
              have hlenj : (Val.L en.j).length = (n + m) * t.size := by
                rw [hLj, List.length_append, hn, hml, Nat.add_mul]
              have hnm1 : n + m ≤ 1000000 := by
                have : (n + m) * 1 ≤ (n + m) * t.size := Nat.mul_le_mul_left _ (by omega)
                omega
              have hbig : (n + m) * t.bytes ≤ 1000000000 := by
                have h2 : t.bytes ≤ 1000 := Nat.le_of_ble_eq_true hby
                have := Nat.mul_le_mul hnm1 h2
                omega
              by_cases hroom : n + m ≤ cap
              · have hfit : off + (n + m) * t.size ≤ p.2 := by
                  have := Nat.mul_le_mul_right t.size hroom
                  omega
                have hfit2 : off + n * t.size + (en.cs.map cv).length ≤ cur.size := by
                  rw [hml, g3]
                  rw [Nat.add_mul] at hfit
                  omega
                have hst := store_free P p.1 (off + n * t.size) e' fr (en.cs.map cv) 0 cur w g2 (by rw [g3]; exact hF) (by simpa using hfit2) (all_one_rel hvs hone)
                simp only [Nat.add_zero] at hst
                have hcl : off + n * t.size ≤ cur.toList.length := by simp; omega
                let p2 : EP := ⟨p.1, p.2, .slice (some ⟨p.1, off, none⟩) (n + m) cap, .no⟩
                have hnk := H.no_pin hl hp rfl
                have H1 := (H.kill b).loose (H.killed hl hp rfl) (H.killed_in (p := p) hl hp rfl) (H.unpinned hl hp rfl) (below_setRow w p.1 (cur.toList.take (off + n * t.size) ++ en.cs.map cv ++ cur.toList.drop (off + n * t.size + (en.cs.map cv).length)).toArray q2) (fun k hk _ => setRow_other w p.1 k _ hk)
                have H2 := H1.push p2 (.lstQ en.j e' t.size) rfl rfl q2 (fun b' o' p' h1 h2 => H.killed hl hp rfl b' o' p' h1 h2) (H.killed_in (p := p) hl hp rfl) ⟨off, n + m, cap, _, rfl, ⟨fr, setRow_heap w p.1 cur _ e' _ g2, hF⟩, by
                  rw [List.size_toArray]
                  simp only [List.length_append, List.length_take, List.length_drop, Array.length_toList]
                  rw [Nat.min_eq_left (by omega)]
                  show _ = p.2
                  omega, hroom, g5, hlenj, hs0, by
                  rw [hLj, ← g8, Nat.add_mul, ← hml]
                  simp only
                  rw [List.append_assoc, List.drop_append_of_le_length (by rw [List.length_take, Nat.min_eq_left hcl]; omega), List.drop_take, Nat.add_sub_cancel_left]
                  have hl1 : (List.take (n * t.size) (List.drop off cur.toList)).length = n * t.size := by
                    rw [g8]
                    exact hn
                  rw [List.take_append, hl1, Nat.add_sub_cancel_left, List.take_of_length_le (by rw [hl1]; omega), List.take_append_of_le_length (Nat.le_refl _), List.take_of_length_le (Nat.le_refl _)]⟩
                refine ⟨_, _, _, List.prefix_append _ _, ⟨p2, some ⟨p.1, off, none⟩, n + m, cap, H.new_get p2, rfl, fun _ => ⟨_, rfl, rfl⟩, hs0, hlenj, hroom, rfl⟩, .inl (run_vSem ?_), H2⟩
                rw [run_app_room hu hd hnd hi _ n cap m u _ (hlen w) (hfirst w rfl) hroom]
                simp only [add_lit, hst, Result.andThen_ok]
              · have hg : cap < n + m := by omega
                have hold : (Builtin.firstCells t.size n (.slice (some ⟨p.1, off, none⟩) n cap)).run P w.drew = .ok (Val.L en.i).toArray w.drew := by
                  simp only [Builtin.firstCells]
                  have := run_loadCells_list (P := P) w.drew ⟨p.1, off, none⟩ (Val.L en.i) (by rw [← g8]; exact seg_cells (w := w.drew) (o := off) (n := n * t.size) g2)
                  rw [hn] at this
                  exact this
                have hr := run_app_grow (w := w) hu hd hnd hi hiz (some ⟨p.1, off, none⟩) n cap m u _ _ (ty := ty) (hlen w) hold (hfirst w.drew rfl) hg (by omega) hbig
                have hge := grownCap_ge w (n + m) cap e'
                let p2 : EP := ⟨w.heap.size, grownCap w (n + m) cap e' * t.size, .slice (some ⟨w.heap.size, 0, none⟩) (n + m) (grownCap w (n + m) cap e'), .no⟩
                have H0 := (H.kill b).drew
                have H1 := H0.world ((Below.refl _ _).alloc (Nat.le_refl _) (.cells ((Val.L en.i).toArray ++ (en.cs.map cv).toArray ++ Builtin.zeroCells z.cells (grownCap w (n + m) cap e' - (n + m))) e'))
                have H2 := H1.push p2 (.lstQ en.j e' t.size) rfl rfl H.size (fun b' o' p' hb hp => Nat.ne_of_lt (H0.heap_ne hb hp)) (fun b' o' p' hb hn hp hq => Nat.lt_irrefl _ (H0.frm b' o' p' hb hn hp _ hq).1) ⟨0, n + m, _, _, rfl, ⟨(0, 0), heap_alloc_new w.drew _, .inl rfl⟩, by
                  simp only [Array.size_append, List.size_toArray, size_zeroCells, hzz, hn, hml, ← Nat.add_mul]
                  show _ = grownCap w (n + m) cap e' * t.size
                  congr 1
                  omega, hge, by show 0 + _ ≤ grownCap w (n + m) cap e' * t.size; omega, hlenj, hs0, by
                  rw [hLj, List.drop_zero]
                  simp only [Array.toList_append]
                  rw [List.take_left' (by rw [List.length_append, hn, hml, Nat.add_mul])]⟩
                have hget : (E ++ [p2])[h.length]? = some p2 := H.new_get p2
                refine ⟨_, _, _, List.prefix_append E [p2], ⟨p2, some ⟨w.heap.size, 0, none⟩, n + m, grownCap w (n + m) cap e', hget, rfl, fun _ => ⟨_, rfl, rfl⟩, hs0, hlenj, hge, rfl⟩, .inl (run_vSem hr), H2⟩
            · cases hs
          · cases hs
      · cases hs
    · cases hs
  · cases hs
omit [Val] in
theorem lnxlook_mem (i n j : Nat) : ∀ T : List LNX, lnxlook T i n = some j → ∃ e, e ∈ T ∧ e.i = i ∧ e.n = n ∧ e.j = j
  | [], h => by cases h
  | e :: T, h => by
    have h : (match Nat.beq e.i i with
      | true => match Nat.beq e.n n with | true => some e.j | false => lnxlook T i n
      | false => lnxlook T i n) = some j := h
    have go : lnxlook T i n = some j → ∃ e2, e2 ∈ e :: T ∧ e2.i = i ∧ e2.n = n ∧ e2.j = j := fun h => by
      obtain ⟨e2, he, q⟩ := lnxlook_mem i n j T h
      exact ⟨e2, List.mem_cons_of_mem _ he, q⟩
    split at h
    · rename_i h1
      split at h
      · rename_i h2
        cases h
        exact ⟨e, List.mem_cons_self, Nat.eq_of_beq_eq_true h1, Nat.eq_of_beq_eq_true h2, rfl⟩
      · exact go h
    · exact go h
omit [Val] in
theorem all2_at {α β : Type} {R : α → β → Prop} : ∀ {l : List α} {m : List β} (k : Nat) {a : α}, All2 R l m → l[k]? = some a → ∃ b, m[k]? = some b ∧ R a b
  | _, _, k, _, h, ha => h.get k _ ha
theorem fit_nestLoad (hT : TOK P g) (H : HInv ro base w0 E h w) {ty : TypeId} {x v : RV} {u : Value} (hx : VRel E x u) (hl : nestLoad P g h ty x = some v) :
    ∃ r, VRel E v r ∧ (Instr.loadAt ty u).run P w = .ok r w := by
  unfold nestLoad at hl
  split at hl
  · rename_i b i hagg hsz
    have hagg := quiet_run P _ _ hagg w
    have hsz := quiet_run P _ _ hsz w
    split at hl
    · rename_i k sz hk
      obtain ⟨j, hj, rfl⟩ : ∃ j, lnxlook g.LNE k i = some j ∧ v = .slX b k i j sz := by
        cases hq : lnxlook g.LNE k i with
        | none => rw [hq] at hl; cases hl
        | some j => rw [hq] at hl; cases hl; exact ⟨j, rfl, rfl⟩
      obtain ⟨e, he, rfl, rfl, rfl⟩ := lnxlook_mem _ _ _ _ hj
      have hL := hT.lne e he
      rw [lkp_eq] at hk
      obtain ⟨p, a, n, cap, hp, hpv, rfl⟩ := hx
      obtain ⟨p', q1, _, hlt, oa, n2, cap2, g1, g2, g3, g4⟩ := H.blk b _ hk
      rw [hp] at q1
      cases q1
      rw [hpv] at g1
      cases g1
      obtain ⟨u, hu, oa, n3, cap3, rfl, f1, f2, f3, f4, f5⟩ := all2_at _ g4 hL
      refine ⟨_, ⟨p, oa, n3, cap3, hp, hu, hL, f1, f2, f4, rfl⟩, ?_⟩
      have hc := g3 a rfl _ _ hu
      rw [Nat.mul_one]
      have hrun := run_load_seg hagg hsz (a.add (Val.I e.n).toNat) [.slice oa n3 cap3] rfl (by
        intro j v hj
        rw [add_add]
        match j, hj with
        | 0, hj =>
          cases hj
          rw [Nat.add_zero]
          exact hc)
      simp only [Instr.loadAt, Sem.run_bind, Instr.sureAddr, Sem.run_pure, Result.andThen_ok]
      rw [hrun]
      rfl
    · cases hl
  · rename_i b i hagg hsz
    have hagg := quiet_run P _ _ hagg w
    have hsz := quiet_run P _ _ hsz w
    split at hl
    · rename_i k e0 sz hk
      obtain ⟨j, hj, rfl⟩ : ∃ j, lnxlook g.LNE k i = some j ∧ v = .slX b k i j sz := by
        cases hq : lnxlook g.LNE k i with
        | none => rw [hq] at hl; cases hl
        | some j => rw [hq] at hl; cases hl; exact ⟨j, rfl, rfl⟩
      obtain ⟨e, he, rfl, rfl, rfl⟩ := lnxlook_mem _ _ _ _ hj
      have hL := hT.lne e he
      rw [lkp_eq] at hk
      obtain ⟨p, hp, rfl⟩ := hx
      obtain ⟨p', q1, _, cur, ⟨_, g1, _⟩, g2, g3, g4⟩ := H.blk b _ hk
      rw [hp] at q1
      cases q1
      obtain ⟨u, hu, oa, n3, cap3, rfl, f1, f2, f3, f4, f5⟩ := all2_at _ g4 hL
      refine ⟨_, ⟨p, oa, n3, cap3, hp, hu, hL, f1, f2, f4, rfl⟩, ?_⟩
      have hc : cur.toList[(Val.I e.n).toNat]? = some (.slice oa n3 cap3) := by
        rw [← g3, List.getElem?_take] at hu
        split at hu
        · exact hu
        · cases hu
      rw [Nat.mul_one]
      have hrun := run_load_seg hagg hsz ⟨p.1, (Val.I e.n).toNat, none⟩ [.slice oa n3 cap3] rfl (by
        intro j v hj
        match j, hj with
        | 0, hj =>
          cases hj
          rw [add_lit, Nat.add_zero, cell_of_row w p.1 _ cur _ _ g1]
          simpa using hc)
      simp only [Instr.loadAt, Sem.run_bind, Instr.sureAddr, Sem.run_pure, Result.andThen_ok]
      rw [hrun]
      rfl
    · cases hl
  · rename_i b i k j n s agg sz hagg hsz
    split at hl
    · rename_i r hc hr
      simp only [Bool.and_eq_true] at hc
      split at hl
      · rename_i hlen
        have hlen := Nat.eq_of_beq_eq_true hlen
        have hcn := Nat.eq_of_beq_eq_true hc.1
        obtain ⟨p, a, m, cap, hp, hpi, hLj, rfl⟩ := hx
        have hin : ∃ ss, ss = p.inn ∧ All2 (Inn w s) (Val.L i) ss := by
          have hc2 := hc.2
          unfold innOK at hc2
          split at hc2
          · rename_i i' e0 s' hk
            simp only [Bool.and_eq_true] at hc2
            obtain rfl := Nat.eq_of_beq_eq_true hc2.1
            obtain rfl := Nat.eq_of_beq_eq_true hc2.2
            rw [lkp_eq] at hk
            obtain ⟨p', q1, _, cur, ⟨_, g1, _⟩, g2, g3, g4⟩ := H.blk b _ hk
            rw [hp] at q1
            cases q1
            exact ⟨_, rfl, g4⟩
          · rename_i i' s' hk
            simp only [Bool.and_eq_true] at hc2
            obtain rfl := Nat.eq_of_beq_eq_true hc2.1
            obtain rfl := Nat.eq_of_beq_eq_true hc2.2
            rw [lkp_eq] at hk
            obtain ⟨p', q1, _, hlt, oa, n2, cap2, g1, g2, g3, g4⟩ := H.blk b _ hk
            rw [hp] at q1
            cases q1
            exact ⟨_, rfl, g4⟩
          · cases hc2
        obtain ⟨ss, rfl, hA⟩ := hin
        obtain ⟨u, hu, oa, n3, cap3, e3, f1, f2, f3, f4, f5⟩ := all2_at _ hA hLj
        rw [hpi] at hu
        cases hu
        cases e3
        obtain ⟨e, he, rfl, rfl, rfl⟩ := ellook_mem _ _ _ _ hr
        obtain ⟨h1, h2, h3⟩ := hT.lx e he
        rw [hlen] at h2 h3
        have hagg := quiet_run P _ _ hagg w
        have hsz := quiet_run P _ _ hsz w
        have hrun := run_load_seg hagg hsz (a.add ((Val.I e.i).toNat * s)) (e.r.map cv) (by rw [List.length_map, hlen, hcn]) (by
          intro j v hj
          rw [add_add]
          apply (f5 a rfl).2
          show (Val.L e.l)[_]? = some v
          rw [← h3, List.getElem?_take] at hj
          split at hj
          · rw [List.getElem?_drop] at hj
            exact hj
          · cases hj)
        have hr := loadAs_rel (v := v) hl (rel_cvs (E := E) e.r h1) (fun ea => by rw [hlen, ← hcn, ea]; rfl)
        simp only [Instr.loadAt, Sem.run_bind, Instr.sureAddr, Sem.run_pure, Result.andThen_ok]
        rw [hrun]
        rcases hr with ⟨rfl, hr⟩ | ⟨rfl, u, hu, hr⟩
        · exact ⟨_, hr, rfl⟩
        · refine ⟨u, hr, ?_⟩
          rw [hu]
          rfl
      · cases hl
    · cases hl
  · rename_i b sz hagg hsz
    split at hl
    · rename_i k e o i hk hi
      split at hl
      · rename_i r hr
        split at hl
        · rename_i hlen
          cases hl
          have hz : Val.I i = 0 := hT.iz _ (izlook_mem _ _ _ hi)
          refine fit_elLoad hT H (x := .el b i sz) (v := mkAgg r) ?_ ?_
          · obtain ⟨p, hp, rfl⟩ := hx
            exact ⟨p, hp, by rw [hz]; simp⟩
          · have hrow : rowQ g h b i = some r := by
              unfold rowQ
              rw [hk]
              exact hr
            unfold elLoad
            rw [hagg, hsz]
            show (match Nat.beq sz sz, rowQ g h b i with
              | true, some r => match Nat.beq r.length sz with | true => loadAs true r | false => none
              | _, _ => none) = _
            rw [hrow, show Nat.beq sz sz = true from Nat.beq_refl sz]
            simp only [hlen]
            rfl
        · cases hl
      · cases hl
    · cases hl
  · cases hl
theorem all2_one' {x : RV} {l : List Value} (h : All2 (VRel E) [x] l) : ∃ u, l = [u] ∧ VRel E x u := by
  cases h with
  | cons hx h => cases h; exact ⟨_, rfl, hx⟩
omit [Val] in
theorem lnlook_mem (i : Option Nat) (j k : Nat) : ∀ T : List LNL, lnlook T i j = some k → ∃ e, e ∈ T ∧ e.i = i ∧ e.j = j ∧ e.k = k
  | [], h => by cases h
  | e :: T, h => by
    have h : (match Nat.beq e.j j with
      | true => match (generalizing := false) i, e.i with
        | none, none => some e.k
        | some a, some b => match Nat.beq a b with | true => some e.k | false => lnlook T i j
        | _, _ => lnlook T i j
      | false => lnlook T i j) = some k := h
    have go : lnlook T i j = some k → ∃ e2, e2 ∈ e :: T ∧ e2.i = i ∧ e2.j = j ∧ e2.k = k := fun h => by
      obtain ⟨e2, he, q⟩ := lnlook_mem i j k T h
      exact ⟨e2, List.mem_cons_of_mem _ he, q⟩
    split at h
    · rename_i h1
      split at h
      · rename_i hei _
        cases h
        exact ⟨e, List.mem_cons_self, hei, Nat.eq_of_beq_eq_true h1, rfl⟩
      · rename_i a b hei _
        split at h
        · rename_i hab
          cases h
          exact ⟨e, List.mem_cons_self, by rw [hei, Nat.eq_of_beq_eq_true hab], Nat.eq_of_beq_eq_true h1, rfl⟩
        · exact go h
      · exact go h
    · exact go h
omit [Val] in
theorem agg_inn {p : EP} {ss : List Value} {a n : Nat} (hp : p = ⟨a, n, .agg ss.toArray, .no⟩) : p.inn = ss := by
  subst hp
  rfl
/-- What an own list is, as a list within a list. -/
theorem own_inn (H : HInv ro base w0 E h w) {b2 j sz : Nat} {e2 : TypeId} {v : Value} (hl : at? h b2 = some (.lst j e2 true)) (hv : VRel E (.slN b2 j sz) v) : ∃ p2, E[b2]? = some p2 ∧ base ≤ p2.1 ∧ p2.1 < w.heap.size ∧ innB v = some p2.1 ∧ v.oneCell' = true ∧
    ∀ w', w'.heap[p2.1]? = w.heap[p2.1]? → Inn w' sz (.agg (Val.L j).toArray) v := by
  obtain ⟨p, n, hp, hs, hn, hk, rfl⟩ := hv
  obtain ⟨q, q1, q2, cur, fr, g1, g2, g3, _⟩ := H.blk1 b2 _ hl rfl
  rw [hp] at q1
  cases q1
  have hlt := H.heap_ne hl hp
  refine ⟨p, hp, q2, hlt, rfl, rfl, fun w' hw => ⟨_, n, _, rfl, hs, hn, hk, fun _ => ⟨_, rfl⟩, fun a ha => ?_⟩⟩
  cases ha
  refine ⟨size_keep hw hlt, fun k u hu => ?_⟩
  have hu : (Val.L j)[k]? = some u := hu
  rw [add_lit, Nat.zero_add, cell_of_row w' p.1 k cur e2 fr (hw.trans g1)]
  rw [← g3, List.getElem?_take] at hu
  split at hu
  · simpa using hu
  · cases hu
set_option maxHeartbeats 1000000 in
theorem fit_appNest (hT : TOK P g) (H : HInv ro base w0 E h w) {argTypes : Array TypeId} {ty : TypeId} {s x : RV} {us u : Value} {e : Eff} (hsr : VRel E s us) (hx : VRel E x u) (hs : appNest P g h argTypes s x = some e) :
    Fits ro base w0 E h w ((vSem (Builtin.append_ argTypes ty #[us, u])).run P w) e := by
  unfold appNest at hs
  split at hs
  · rename_i tS tX hTy
    split at hs
    · rename_i elem hu
      split at hs
      · rename_i t zero hi hz
        split at hs
        · cases hs
        · rename_i hcz
          simp only [Bool.or_eq_true, decide_eq_true_eq, not_or, Decidable.not_not, Bool.not_eq_true', Bool.not_eq_false, ne_eq] at hcz
          obtain ⟨⟨hsz1, hzl⟩, hby⟩ := hcz
          split at hs
          · rename_i b2 j sz hsrc
            unfold appNest1 at hs
            split at hs
            · rename_i j' e2 hl2
              split at hs
              · rename_i hjj
                obtain rfl := Nat.eq_of_beq_eq_true hjj
                have hTt : argTypes = #[tS, tX] := Array.ext' hTy
                subst hTt
                obtain ⟨z, hzr, hza⟩ := zero_rel (E := E) hz
                have hzz : z.cells.size = t.size := by rw [hsz1, ← hzl, hza.length, Array.length_toList]
                have hiz : t.zero = some z := by
                  have := hzr w
                  simp [zeroValue, typeInfo, hi] at this
                  split at this
                  · rename_i z' hz'; simp at this; rw [hz', this]
                  · simp at this
                obtain ⟨vs, hvs, hnl, ⟨d, hd, hnd⟩, hlen, hfirst⟩ := src_spec H hx hu hsrc
                rw [lkp_eq] at hl2
                obtain ⟨v, rfl, hv⟩ := all2_one' hvs
                obtain ⟨p2, hp2, hb2, hlt2, hinv, hone, hinn⟩ := own_inn H hl2 hv
                have hby : t.bytes ≤ 1000 := Nat.le_of_ble_eq_true hby
                split at hs
                · -- behind nothing
                  cases hsr
                  obtain ⟨k, hk, rfl⟩ : ∃ k, lnlook g.LNA none j = some k ∧ e = .move2 (.slN h.length k 1) b2 b2 (.lstL k elem sz) := by
                    cases hq : lnlook g.LNA none j with
                    | none => rw [hq] at hs; cases hs
                    | some k => rw [hq] at hs; cases hs; exact ⟨k, rfl, rfl⟩
                  obtain ⟨en, hen, hei, rfl, rfl⟩ := lnlook_mem _ _ _ _ hk
                  obtain ⟨hLk, _⟩ := hT.lna en hen
                  rw [hei] at hLk
                  have hLk : Val.L en.k = [.agg (Val.L en.j).toArray] := hLk
                  have hold : (Builtin.firstCells t.size 0 (.slice none 0 0)).run P w.drew = .ok ([] : List Value).toArray w.drew := by
                    simp [Builtin.firstCells]
                  have hr := run_app_grow (w := w) hu hd hnd hi hiz none 0 0 1 u _ _ (ty := ty) (hlen w) hold (by rw [hsz1]; exact hfirst w.drew rfl) (by omega) (by omega) (by omega)
                  have hge := grownCap_ge w (0 + 1) 0 elem
                  let pn : EP := ⟨w.heap.size, grownCap w (0 + 1) 0 elem * t.size, .agg #[v], .no⟩
                  have H0 := (((H.kill b2).kill b2).drew)
                  have H1 := H0.world ((Below.refl _ _).alloc (Nat.le_refl _) (.cells (([] : List Value).toArray ++ [v].toArray ++ Builtin.zeroCells z.cells (grownCap w (0 + 1) 0 elem - (0 + 1))) elem))
                  have hw2 : ((w.drew.alloc (.cells (([] : List Value).toArray ++ [v].toArray ++ Builtin.zeroCells z.cells (grownCap w (0 + 1) 0 elem - (0 + 1))) elem))).heap[p2.1]? = w.heap[p2.1]? := by
                    show (w.heap.push _)[p2.1]? = _
                    rw [Array.getElem?_push_lt hlt2, Array.getElem?_eq_getElem hlt2]
                  have H2 := H1.pushN pn (.lstL en.k elem sz) rfl (fun _ q hq => by
                    have hq : q ∈ [v].filterMap innB := hq
                    obtain ⟨v', hv', hqb⟩ := List.mem_filterMap.1 hq
                    obtain rfl := List.mem_singleton.1 hv'
                    rw [hinv] at hqb
                    cases hqb
                    have hs2 : w.heap.size < (w.drew.alloc (.cells (([] : List Value).toArray ++ [v'].toArray ++ Builtin.zeroCells z.cells (grownCap w (0 + 1) 0 elem - (0 + 1))) elem)).heap.size := by
                      show w.heap.size < (w.heap.push _).size
                      rw [Array.size_push]
                      omega
                    refine ⟨by omega, hb2, Nat.ne_of_lt hlt2, fun b' o' p' hb' wo' hp' => ?_⟩
                    have hk1 : at? (h.set b2 none) b' = some o' := by
                      by_cases e : b2 = b'
                      · subst e
                        have := at?_lt hb'
                        rw [at?_set_same none (by simpa using this)] at hb'
                        cases hb'
                      · rwa [at?_set_other none e] at hb'
                    exact H.killed hl2 hp2 rfl b' o' p' hk1 hp') H.size (fun b' o' p' hb hp => Nat.ne_of_lt (H0.heap_ne hb hp)) (fun b' o' p' hb hn hp hq => Nat.lt_irrefl _ (H0.frm b' o' p' hb hn hp _ hq).1) ⟨_, ⟨(0, 0), heap_alloc_new w.drew _, .inl rfl⟩, by
                      simp only [Array.size_append, List.size_toArray, size_zeroCells, hzz, hsz1]
                      show _ = grownCap w (0 + 1) 0 elem * t.size
                      rw [hsz1]
                      simp only [List.length_nil, List.length_cons, Nat.mul_one]
                      omega, by
                      rw [hLk]
                      simp
                      rfl, by
                      rw [hLk]
                      exact .cons (hinn _ hw2) .nil⟩
                  have hget : (E ++ [pn])[h.length]? = some pn := H.new_get pn
                  refine ⟨_, _, _, List.prefix_append E [pn], ⟨pn, 1, hget, by decide, by rw [hLk]; rfl, ?_, ?_⟩, .inl (run_vSem hr), H2⟩
                  · show 1 ≤ grownCap w (0 + 1) 0 elem * t.size / 1
                    rw [hsz1]
                    omega
                  · show _ = Value.slice (some ⟨w.heap.size, 0, none⟩) 1 (grownCap w (0 + 1) 0 elem * t.size / 1)
                    rw [hsz1, Nat.mul_one, Nat.div_one]
                · rename_i b i
                  split at hs
                  · rename_i i' e' s' hl
                    split at hs
                    · rename_i hc
                      obtain ⟨rfl, rfl, rfl, hbb⟩ := hc
                      obtain ⟨k, hk, rfl⟩ : ∃ k, lnlook g.LNA (some i) j = some k ∧ e = .move2 (.slN h.length k 1) b b2 (.lstL k e' s') := by
                        cases hq : lnlook g.LNA (some i) j with
                        | none => rw [hq] at hs; cases hs
                        | some k => rw [hq] at hs; cases hs; exact ⟨k, rfl, rfl⟩
                      obtain ⟨en, hen, hei, rfl, rfl⟩ := lnlook_mem _ _ _ _ hk
                      obtain ⟨hLk, hLb⟩ := hT.lna en hen
                      rw [hei] at hLk
                      have hLk : Val.L en.k = Val.L i ++ [.agg (Val.L en.j).toArray] := hLk
                      rw [lkp_eq] at hl
                      obtain ⟨p, n, hp, hs0, hn, hkc, rfl⟩ := hsr
                      rw [Nat.mul_one] at hn
                      rw [Nat.div_one] at hkc
                      obtain ⟨p', q1, q2, cur, ⟨fr, g1, hF⟩, g2, g3, g4⟩ := H.blk1 b _ hl rfl
                      rw [hp] at q1
                      cases q1
                      have hne : p.1 ≠ p2.1 := fun e => hbb (H.inj b b2 _ _ p p2 hl hl2 rfl rfl hp hp2 e)
                      have hfrm := H.frm b _ p hl rfl hp
                      have hinnp : ∀ q, q ∈ p.innP → q < w.heap.size ∧ base ≤ q ∧ q ≠ p.1 ∧ q ≠ p2.1 ∧ ∀ b' o' p', at? h b' = some o' → o'.own = true → E[b']? = some p' → p'.1 ≠ q := fun q hq => by
                        obtain ⟨f1, f2⟩ := hfrm q hq
                        have f2 : base ≤ q ∧ ∀ b' o' p', at? h b' = some o' → o'.own = true → E[b']? = some p' → p'.1 ≠ q := f2
                        exact ⟨f1, f2.1, fun e => f2.2 b _ p hl rfl hp e.symm, fun e => f2.2 b2 _ p2 hl2 rfl hp2 e.symm, f2.2⟩
                      have hinl : p.inn.length = n := by rw [← g4.length, hn]
                      have hn1 : n + 1 ≤ 1000000 := by
                        rw [hLk, List.length_append, hn] at hLb
                        exact hLb
                      have hlk : (Val.L en.k).length = n + 1 := by rw [hLk, List.length_append, hn]; rfl
                      have hback : ∀ b' o', at? ((h.set b none).set b2 none) b' = some o' → at? h b' = some o' ∧ b ≠ b' ∧ b2 ≠ b' := fun b' o' hb' => by
                        by_cases e : b2 = b'
                        · subst e
                          have := at?_lt hb'
                          rw [at?_set_same none (by simpa using this)] at hb'
                          cases hb'
                        · rw [at?_set_other none e] at hb'
                          by_cases e2 : b = b'
                          · subst e2
                            have := at?_lt hb'
                            rw [at?_set_same none (by simpa using this)] at hb'
                            cases hb'
                          · rw [at?_set_other none e2] at hb'
                            exact ⟨hb', e2, e⟩
                      have hnot : ∀ b' o' p', at? ((h.set b none).set b2 none) b' = some o' → E[b']? = some p' → p'.1 ≠ p.1 := fun b' o' p' hb' hp' => by
                        obtain ⟨k1, k2, _⟩ := hback b' o' hb'
                        exact H.killed hl hp rfl b' o' p' (by rw [at?_set_other none k2]; exact k1) hp'
                      have hnin : ∀ b' o' p', at? ((h.set b none).set b2 none) b' = some o' → o'.nest = true → E[b']? = some p' → p.1 ∉ p'.innP := fun b' o' p' hb' hn' hp' => by
                        obtain ⟨k1, k2, _⟩ := hback b' o' hb'
                        exact H.killed_in (p := p) hl hp rfl b' o' p' (by rw [at?_set_other none k2]; exact k1) hn' hp'
                      have hnotown2 : ∀ b' o' p', at? ((h.set b none).set b2 none) b' = some o' → o'.own = true → E[b']? = some p' → p'.1 ≠ p2.1 := fun b' o' p' hb' _ hp' => by
                        obtain ⟨k1, _, k2⟩ := hback b' o' hb'
                        exact H.killed hl2 hp2 rfl b' o' p' (by rw [at?_set_other none k2]; exact k1) hp'
                      have hself : ∀ (B : Nat) (sz2 : Nat), w.heap.size ≤ sz2 → (∀ q, q ∈ p.innP → q ≠ B) → p2.1 ≠ B → ∀ q, q ∈ (p.inn ++ [v]).filterMap innB → q < sz2 ∧ base ≤ q ∧ q ≠ B ∧ ∀ b' o' p', at? ((h.set b none).set b2 none) b' = some o' → o'.own = true → E[b']? = some p' → p'.1 ≠ q := fun B sz2 hsz hB1 hB2 q hq => by
                        rw [List.filterMap_append, List.mem_append] at hq
                        rcases hq with hq | hq
                        · obtain ⟨f1, f2, f3, f4, f5⟩ := hinnp q hq
                          exact ⟨by omega, f2, hB1 q hq, fun b' o' p' hb' wo' hp' => f5 b' o' p' (hback b' o' hb').1 wo' hp'⟩
                        · obtain ⟨v', hv', hqb⟩ := List.mem_filterMap.1 hq
                          obtain rfl := List.mem_singleton.1 hv'
                          rw [hinv] at hqb
                          cases hqb
                          exact ⟨by omega, hb2, hB2, fun b' o' p' hb' wo' hp' => hnotown2 b' o' p' hb' wo' hp'⟩
                      have hcells : cur.toList.take n = p.inn := by rw [← hn]; exact g3
                      by_cases hroom : n + 1 ≤ p.2
                      · have hfit2 : n + ([v] : List Value).length ≤ cur.size := by rw [g2]; exact hroom
                        have hst := store_free P p.1 n e' fr [v] 0 cur w g1 (by rw [g2]; exact hF) (by simpa using hfit2) (fun x hx => by obtain rfl := List.mem_singleton.1 hx; exact hone)
                        simp only [Nat.add_zero] at hst
                        let pn : EP := ⟨p.1, p.2, .agg (p.inn ++ [v]).toArray, .no⟩
                        have hin : pn.inn = p.inn ++ [v] := rfl
                        have H1 := ((H.kill b).kill b2).loose hnot hnin (H.unpinned hl hp rfl) (below_setRow w p.1 (cur.toList.take n ++ [v] ++ cur.toList.drop (n + [v].length)).toArray q2) (fun k hk _ => setRow_other w p.1 k _ hk)
                        have hsz' : (w.setRow p.1 (cur.toList.take n ++ [v] ++ cur.toList.drop (n + [v].length)).toArray).heap.size = w.heap.size := by simp
                        have H2 := H1.pushN pn (.lstL en.k e' s') rfl (fun _ q hq => hself p.1 _ (by rw [hsz']; exact Nat.le_refl _) (fun q hq => (hinnp q hq).2.2.1) (fun e => hne e.symm) q hq) q2 hnot hnin ⟨_, ⟨fr, setRow_heap w p.1 cur _ e' _ g1, hF⟩, by
                          rw [List.size_toArray]
                          simp only [List.length_append, List.length_take, List.length_drop, Array.length_toList, List.length_cons, List.length_nil]
                          rw [Nat.min_eq_left (by omega)]
                          show _ = p.2
                          omega, by
                          rw [hin, hlk, ← hcells]
                          have hl3 : (List.take n cur.toList ++ [v]).length = n + 1 := by
                            rw [List.length_append, hcells, hinl]
                            rfl
                          show List.take (n + 1) (List.take n cur.toList ++ [v] ++ _) = _
                          rw [← hl3, List.take_left], by
                          rw [hin, hLk]
                          exact (g4.mono_mem fun a b hb => Inn.keep (p := p) (fun q hq => setRow_other w p.1 q _ (hinnp q hq).2.2.1) hb).append (.cons (hinn _ (setRow_other w p.1 p2.1 _ (fun e => hne e.symm))) .nil)⟩
                        refine ⟨_, _, _, List.prefix_append _ _, ⟨pn, n + 1, H.new_get pn, by decide, by rw [hlk, Nat.mul_one], by rw [Nat.div_one]; exact hroom, rfl⟩, .inl (run_vSem ?_), H2⟩
                        rw [run_app_room hu hd hnd hi _ n _ 1 u _ (hlen w) (by rw [hsz1]; exact hfirst w rfl) (by rw [Nat.div_one]; exact hroom)]
                        simp only [add_lit, Nat.zero_add, hsz1, Nat.mul_one, hst, Result.andThen_ok]
                        rfl
                      · have hg : p.2 < n + 1 := by omega
                        have hold : (Builtin.firstCells t.size n (.slice (some ⟨p.1, 0, none⟩) n (p.2 / 1))).run P w.drew = .ok p.inn.toArray w.drew := by
                          simp only [Builtin.firstCells]
                          have := run_loadCells_list (P := P) w.drew ⟨p.1, 0, none⟩ p.inn (by rw [← hcells]; exact seg_cells (w := w.drew) (o := 0) (n := n) g1)
                          rw [hinl] at this
                          rw [hsz1, Nat.mul_one]
                          exact this
                        have hr := run_app_grow (w := w) hu hd hnd hi hiz (some ⟨p.1, 0, none⟩) n (p.2 / 1) 1 u _ _ (ty := ty) (hlen w) hold (by rw [hsz1]; exact hfirst w.drew rfl) (by rw [Nat.div_one]; exact hg) (by omega) (by
                          have := Nat.mul_le_mul hn1 hby
                          omega)
                        have hge := grownCap_ge w (n + 1) (p.2 / 1) e'
                        let pn : EP := ⟨w.heap.size, grownCap w (n + 1) (p.2 / 1) e' * t.size, .agg (p.inn ++ [v]).toArray, .no⟩
                        have hin : pn.inn = p.inn ++ [v] := rfl
                        have H0 := ((H.kill b).kill b2).drew
                        have H1 := H0.world ((Below.refl _ _).alloc (Nat.le_refl _) (.cells (p.inn.toArray ++ [v].toArray ++ Builtin.zeroCells z.cells (grownCap w (n + 1) (p.2 / 1) e' - (n + 1))) e'))
                        have hw2 : ∀ q, q < w.heap.size → ((w.drew.alloc (.cells (p.inn.toArray ++ [v].toArray ++ Builtin.zeroCells z.cells (grownCap w (n + 1) (p.2 / 1) e' - (n + 1))) e'))).heap[q]? = w.heap[q]? := fun q hq => by
                          show (w.heap.push _)[q]? = _
                          rw [Array.getElem?_push_lt hq, Array.getElem?_eq_getElem hq]
                        have H2 := H1.pushN pn (.lstL en.k e' s') rfl (fun _ q hq => hself w.heap.size _ (by show w.heap.size ≤ (w.heap.push _).size; rw [Array.size_push]; omega) (fun q hq => Nat.ne_of_lt (hinnp q hq).1) (Nat.ne_of_lt hlt2) q hq) H.size (fun b' o' p' hb hp => Nat.ne_of_lt (H0.heap_ne hb hp)) (fun b' o' p' hb hn hp hq => Nat.lt_irrefl _ (H0.frm b' o' p' hb hn hp _ hq).1) ⟨_, ⟨(0, 0), heap_alloc_new w.drew _, .inl rfl⟩, by
                          simp only [Array.size_append, List.size_toArray, size_zeroCells, hzz, hsz1, hinl]
                          show _ = grownCap w (n + 1) (p.2 / 1) e' * t.size
                          rw [hsz1]
                          simp only [List.length_nil, List.length_cons, Nat.mul_one]
                          omega, by
                          rw [hin, hlk]
                          simp only [Array.toList_append]
                          have hl3 : (p.inn ++ [v]).length = n + 1 := by rw [List.length_append, hinl]; rfl
                          rw [← hl3, List.take_left], by
                          rw [hin, hLk]
                          exact (g4.mono_mem fun a b hb => Inn.keep (p := p) (fun q hq => hw2 q (hinnp q hq).1) hb).append (.cons (hinn _ (hw2 _ hlt2)) .nil)⟩
                        have hget : (E ++ [pn])[h.length]? = some pn := H.new_get pn
                        refine ⟨_, _, _, List.prefix_append E [pn], ⟨pn, n + 1, hget, by decide, by rw [hlk, Nat.mul_one], ?_, ?_⟩, .inl (run_vSem hr), H2⟩
                        · show n + 1 ≤ grownCap w (n + 1) (p.2 / 1) e' * t.size / 1
                          rw [hsz1, Nat.mul_one, Nat.div_one (grownCap w (n + 1) (p.2 / 1) e')]
                          exact hge
                        · show _ = Value.slice (some ⟨w.heap.size, 0, none⟩) (n + 1) (grownCap w (n + 1) (p.2 / 1) e' * t.size / 1)
                          rw [hsz1, Nat.mul_one, Nat.div_one (grownCap w (n + 1) (p.2 / 1) e')]
                    · cases hs
                  · cases hs
                · cases hs
              · cases hs
            · cases hs
          · cases hs
      · cases hs
    · cases hs
  · cases hs
theorem all2_two {x y : RV} {l : List Value} (h : All2 (VRel E) [x, y] l) : ∃ u v, l = [u, v] ∧ VRel E x u ∧ VRel E y v := by
  cases h with
  | cons hx h => cases h with
    | cons hy h => cases h; exact ⟨_, _, rfl, hx, hy⟩
theorem all2_one {x : RV} {l : List Value} (h : All2 (VRel E) [x] l) : ∃ u, l = [u] ∧ VRel E x u := by
  cases h with
  | cons hx h => cases h; exact ⟨_, rfl, hx⟩

omit [Val] in
theorem lmlook_mem (i : Nat) (z : RV) (j : Nat) : ∀ T : List LME, lmlook T i z = some j → ∃ e, e ∈ T ∧ e.n = i ∧ e.z = z ∧ e.j = j
  | [], h => by cases h
  | e :: T, h => by
    have h : (match Nat.beq e.n i with
      | true => match eqS e.z z with | true => some e.j | false => lmlook T i z
      | false => lmlook T i z) = some j := h
    have go : lmlook T i z = some j → ∃ e', e' ∈ e :: T ∧ e'.n = i ∧ e'.z = z ∧ e'.j = j := fun h => by
      obtain ⟨e', he, q⟩ := lmlook_mem i z j T h
      exact ⟨e', List.mem_cons_of_mem _ he, q⟩
    split at h
    · rename_i h1
      split at h
      · rename_i h2
        cases h
        exact ⟨e, List.mem_cons_self, Nat.eq_of_beq_eq_true h1, eqS_eq h2, rfl⟩
      · exact go h
    · exact go h
omit [Val] in
theorem lwlook_mem (i k : Nat) (x : RV) (j : Nat) : ∀ T : List LWE, lwlook T i k x = some j → ∃ e, e ∈ T ∧ e.i = i ∧ e.k = k ∧ e.x = x ∧ e.j = j
  | [], h => by cases h
  | e :: T, h => by
    have h : (match Nat.beq e.i i with
      | true => match Nat.beq e.k k with
        | true => match eqS e.x x with | true => some e.j | false => lwlook T i k x
        | false => lwlook T i k x
      | false => lwlook T i k x) = some j := h
    have go : lwlook T i k x = some j → ∃ e', e' ∈ e :: T ∧ e'.i = i ∧ e'.k = k ∧ e'.x = x ∧ e'.j = j := fun h => by
      obtain ⟨e', he, q⟩ := lwlook_mem i k x j T h
      exact ⟨e', List.mem_cons_of_mem _ he, q⟩
    split at h
    · rename_i h1
      split at h
      · rename_i h2
        split at h
        · rename_i h3
          cases h
          exact ⟨e, List.mem_cons_self, Nat.eq_of_beq_eq_true h1, Nat.eq_of_beq_eq_true h2, eqS_eq h3, rfl⟩
        · exact go h
      · exact go h
    · exact go h
omit [Val] in
theorem lmfind_mem (L : List LNE) (i s : Nat) (z : RV) (j : Nat) : ∀ T : List LME, lmfind L i s z T = some j → ∃ e, e ∈ T ∧ e.z = z ∧ lenlook L e.j s = some (.sym (.int .i64) i) ∧ e.j = j
  | [], h => by cases h
  | e :: T, h => by
    have h : (match eqS e.z z with
      | true => match lenlook L e.j s with
        | some r => match eqS r (.sym (.int .i64) i) with | true => some e.j | false => lmfind L i s z T
        | none => lmfind L i s z T
      | false => lmfind L i s z T) = some j := h
    have go : lmfind L i s z T = some j → ∃ e', e' ∈ e :: T ∧ e'.z = z ∧ lenlook L e'.j s = some (.sym (.int .i64) i) ∧ e'.j = j := fun h => by
      obtain ⟨e', he, q⟩ := lmfind_mem L i s z j T h
      exact ⟨e', List.mem_cons_of_mem _ he, q⟩
    split at h
    · rename_i h1
      split at h
      · rename_i r hr
        split at h
        · rename_i h2
          cases h
          exact ⟨e, List.mem_cons_self, eqS_eq h1, by rw [hr, eqS_eq h2], rfl⟩
        · exact go h
      · exact go h
    · exact go h
omit [Val] in
theorem rep_same {z : RV} {zs : List RV} {m : Nat} (hz : ∀ r, r ∈ zs → r = z) (hl : zs.length = m) : ∀ n, rep n (z :: zs) = List.replicate (n * (m + 1)) z
  | 0 => by unfold rep; simp
  | n + 1 => by
    have ih := rep_same hz hl n
    unfold rep at ih ⊢
    rw [List.replicate_succ, List.flatten_cons, ih, show z :: zs = List.replicate (m + 1) z from List.eq_replicate_iff.2 ⟨by rw [List.length_cons, hl], fun r hr => by
      rcases List.mem_cons.1 hr with h | h
      · exact h
      · exact hz r h⟩, List.replicate_append_replicate]
    congr 1
    rw [Nat.succ_mul]
    omega
theorem fit_makeN (hT : TOK P g) (H : HInv ro base w0 E h w) {ty : TypeId} {x y : RV} {u v : Value} {e : Eff} (hx : VRel E x u) (hy : VRel E y v) (hs : makeN P g h ty x y = some e) :
    Fits ro base w0 E h w ((vSem (Instr.makeSlice ty u v)).run P w) e := by
  unfold makeN at hs
  split at hs
  · rename_i elem i i' hu
    split at hs
    · rename_i z hsz hz
      split at hs
      · rename_i hc
        simp only [Bool.and_eq_true] at hc
        obtain ⟨⟨⟨h1, h2⟩, h3⟩, h4⟩ := hc
        obtain rfl := Nat.eq_of_beq_eq_true h1
        have h4 := Nat.le_of_ble_eq_true h4
        cases hq : lmlook g.LM i z with
        | none => rw [hq] at hs; cases hs
        | some j =>
          rw [hq] at hs
          cases hs
          obtain ⟨en, hen, rfl, rfl, rfl⟩ := lmlook_mem _ _ _ _ hq
          obtain ⟨n, hn, hI, hL⟩ := hT.lm en hen
          have hx : u = .int .i64 (Val.I en.n) := hx
          have hy : v = .int .i64 (Val.I en.n) := hy
          rw [hI] at hx hy
          subst hx
          subst hy
          obtain ⟨zv, hzrun, hzr⟩ := zero_rel (E := E) hz
          obtain ⟨ti, hi⟩ : ∃ i, P.info? elem = some i := by
            cases hq : P.info? elem with
            | none => rw [hq] at h4; simp at h4
            | some i => exact ⟨i, rfl⟩
          rw [hi] at h4
          simp only [Option.map_some, Option.getD_some] at h4
          have hw1 : IntKind.i64.wrap (n : Int) = n := IntWalk.i64_in _ (by omega)
          have hbig : ¬ ((ti.bytes : Int) * (n : Int) > 281474976710656) := by
            have : (ti.bytes : Int) * (n : Int) ≤ 65536 * 2000000 := Int.mul_le_mul (by omega) (by omega) (by omega) (by omega)
            omega
          have hc0 : ¬ (n : Int) < 0 := by omega
          have hlc : ¬ (n : Int) > (n : Int) := by omega
          have hr := rep_rel hzr n 0 rfl
          have hrep : rep n [en.z] = List.replicate n en.z := by
            unfold rep
            induction n with
            | zero => rfl
            | succ n ih => simp [List.replicate_succ]
          rw [hrep] at hr
          have hcur := VRels.fn _ _ _ (VRels_iff.2 hr) (VRels_iff.2 (rel_cvs (E := E) (List.replicate n en.z) (by rw [List.all_eq_true]; intro r hr; rw [List.eq_of_mem_replicate hr]; exact h3)))
          rw [List.map_replicate] at hcur
          have hsz1 : (((Array.range (n * (0 + 1))).map fun k => zv.cells[k % zv.cells.size]!)).size = n := by simp
          have H' := H.alloc (.cells ((Array.range (n * (0 + 1))).map fun k => zv.cells[k % zv.cells.size]!) elem) (((Array.range (n * (0 + 1))).map fun k => zv.cells[k % zv.cells.size]!)).size (.lst en.j elem true) rfl rfl ⟨_, (0, 0), heap_alloc_new w _, rfl, by
            rw [hcur, hL, List.length_replicate]
            exact List.take_of_length_le (by simp), fun _ => .inl rfl⟩
          refine ⟨_, _, _, List.prefix_append _ _, ⟨_, n, H.new_get _, by decide, by rw [hL]; simp, by rw [hsz1]; simp, rfl⟩, .inl (run_vSem ?_), H'⟩
          rw [hsz1]
          by_cases hn0 : n = 0
          · subst hn0
            have hw0 : IntKind.i64.wrap 0 = 0 := by decide
            simp [Instr.makeSlice, run_under hu, asInt, asIntOf, typeInfo, hi, hw0, run_sizeB hsz, newRow]
            have e0 : ∀ f : Nat → Value, (Array.range 0).map f = #[] := fun f => by simp
            first | done | (rw [e0, e0]) | (rw [e0])
          · simp [Instr.makeSlice, run_under hu, asInt, asIntOf, typeInfo, hi, hw1, hc0, hbig, run_sizeB hsz, hzrun, newRow, hn0]
      · cases hs
    · rename_i m z zs hsz hz
      split at hs
      · rename_i hc
        simp only [Bool.and_eq_true] at hc
        obtain ⟨⟨⟨⟨⟨h1, h2⟩, h3⟩, h5⟩, h6⟩, h4⟩ := hc
        obtain rfl := Nat.eq_of_beq_eq_true h1
        have h4 := Nat.le_of_ble_eq_true h4
        have h6 := Nat.eq_of_beq_eq_true h6
        have h5 : ∀ r, r ∈ zs → r = z := fun r hr => eqS_eq (List.all_eq_true.1 h5 r hr)
        cases hq : lmfind g.LL i (m + 2) z g.LM with
        | none => rw [hq] at hs; cases hs
        | some j =>
          rw [hq] at hs
          cases hs
          obtain ⟨en, hen, rfl, hlk, rfl⟩ := lmfind_mem _ _ _ _ _ _ hq
          obtain ⟨el, hel, e1, e2, e3⟩ := lenlook_mem _ _ _ _ hlk
          obtain ⟨_, n, _, hnl, hnv⟩ := hT.ll el hel
          rw [e1, e2] at hnl
          rw [e3] at hnv
          have hI : Val.I i = n := by
            have hnv : Value.int .i64 (Val.I i) = .int .i64 n := hnv
            injection hnv
          obtain ⟨N, hN, _, hL⟩ := hT.lm en hen
          have hNn : N = n * (m + 2) := by
            rw [hL, List.length_replicate] at hnl
            exact hnl
          have hn : n ≤ 2000000 := by
            have : n * 1 ≤ n * (m + 2) := Nat.mul_le_mul_left n (by omega)
            omega
          have hx : u = .int .i64 (Val.I i) := hx
          have hy : v = .int .i64 (Val.I i) := hy
          rw [hI] at hx hy
          subst hx
          subst hy
          obtain ⟨zv, hzrun, hzr⟩ := zero_rel (E := E) hz
          obtain ⟨ti, hi⟩ : ∃ i, P.info? elem = some i := by
            cases hq : P.info? elem with
            | none => rw [hq] at h4; simp at h4
            | some i => exact ⟨i, rfl⟩
          rw [hi] at h4
          simp only [Option.map_some, Option.getD_some] at h4
          have hw1 : IntKind.i64.wrap (n : Int) = n := IntWalk.i64_in _ (by omega)
          have hbig : ¬ ((ti.bytes : Int) * (n : Int) > 281474976710656) := by
            have : (ti.bytes : Int) * (n : Int) ≤ 65536 * 2000000 := Int.mul_le_mul (by omega) (by omega) (by omega) (by omega)
            omega
          have hc0 : ¬ (n : Int) < 0 := by omega
          have hr := rep_rel hzr n (m + 1) (by rw [List.length_cons, h6])
          rw [rep_same h5 h6 n] at hr
          have hcur := VRels.fn _ _ _ (VRels_iff.2 hr) (VRels_iff.2 (rel_cvs (E := E) (List.replicate (n * (m + 1 + 1)) en.z) (by rw [List.all_eq_true]; intro r hr; rw [List.eq_of_mem_replicate hr]; exact h3)))
          rw [List.map_replicate] at hcur
          have hsz1 : (((Array.range (n * (m + 1 + 1))).map fun k => zv.cells[k % zv.cells.size]!)).size = n * (m + 2) := by simp
          have H' := H.alloc (.cells ((Array.range (n * (m + 1 + 1))).map fun k => zv.cells[k % zv.cells.size]!) elem) (((Array.range (n * (m + 1 + 1))).map fun k => zv.cells[k % zv.cells.size]!)).size (.lst en.j elem true) rfl rfl ⟨_, (0, 0), heap_alloc_new w _, rfl, by
            rw [hcur, hL, List.length_replicate, hNn]
            exact List.take_of_length_le (by simp), fun _ => .inl rfl⟩
          refine ⟨_, _, _, List.prefix_append _ _, ⟨_, n, H.new_get _, by omega, by rw [hL, List.length_replicate, hNn], by rw [hsz1]; show n ≤ n * (m + 2) / (m + 2); exact Nat.le_of_eq (Nat.mul_div_cancel n (by omega)).symm, rfl⟩, .inl (run_vSem ?_), H'⟩
          rw [hsz1]
          by_cases hn0 : n = 0
          · subst hn0
            have hw0 : IntKind.i64.wrap 0 = 0 := by decide
            simp [Instr.makeSlice, run_under hu, asInt, asIntOf, typeInfo, hi, hw0, run_sizeB hsz, newRow]
            have e0 : ∀ f : Nat → Value, (Array.range 0).map f = #[] := fun f => by simp
            first | done | (rw [e0, e0]) | (rw [e0])
          · simp [Instr.makeSlice, run_under hu, asInt, asIntOf, typeInfo, hi, hw1, hc0, hbig, run_sizeB hsz, hzrun, newRow]
            intro h0
            have := Nat.mul_eq_zero.1 h0
            omega
      · cases hs
    · cases hs
  · cases hs
set_option maxHeartbeats 1000000 in
/-- A slice that holds nothing, with room of a size by a name. -/
theorem fit_makeR (hT : TOK P g) (H : HInv ro base w0 E h w) {ty : TypeId} {x y : RV} {u v : Value} {e : Eff} (hx : VRel E x u) (hy : VRel E y v) (hs : makeR P g h ty x y = some e) :
    Fits ro base w0 E h w ((vSem (Instr.makeSlice ty u v)).run P w) e := by
  unfold makeR at hs
  split at hs
  · rename_i elem i hu
    split at hs
    · rename_i z j js hsz hz hlz
      split at hs
      · rename_i hc
        simp only [Bool.and_eq_true] at hc
        obtain ⟨⟨h2, h3⟩, h4⟩ := hc
        have h4 := Nat.le_of_ble_eq_true h4
        cases hq : lmlook g.LM i z with
        | none => rw [hq] at hs; cases hs
        | some j' =>
          rw [hq] at hs
          cases hs
          obtain ⟨en, hen, rfl, rfl, rfl⟩ := lmlook_mem _ _ _ _ hq
          obtain ⟨n, hn, hI, hL⟩ := hT.lm en hen
          have hLj : Val.L j = [] := hT.lz j (by rw [hlz]; exact List.mem_cons_self)
          have hx : u = .int .i64 0 := hx
          have hy : v = .int .i64 (Val.I en.n) := hy
          rw [hI] at hy
          subst hx
          subst hy
          obtain ⟨zv, hzrun, hzr⟩ := zero_rel (E := E) hz
          obtain ⟨ti, hi⟩ : ∃ i, P.info? elem = some i := by
            cases hq : P.info? elem with
            | none => rw [hq] at h4; simp at h4
            | some i => exact ⟨i, rfl⟩
          rw [hi] at h4
          simp only [Option.map_some, Option.getD_some] at h4
          have hw1 : IntKind.i64.wrap (n : Int) = n := IntWalk.i64_in _ (by omega)
          have hw0 : IntKind.i64.wrap 0 = 0 := by decide
          have hbig : ¬ ((ti.bytes : Int) * (n : Int) > 281474976710656) := by
            have : (ti.bytes : Int) * (n : Int) ≤ 65536 * 2000000 := Int.mul_le_mul (by omega) (by omega) (by omega) (by omega)
            omega
          have hc0 : ¬ (n : Int) < 0 := by omega
          have hsz1 : (((Array.range (n * (0 + 1))).map fun k => zv.cells[k % zv.cells.size]!)).size = n := by simp
          have H' := H.alloc (.cells ((Array.range (n * (0 + 1))).map fun k => zv.cells[k % zv.cells.size]!) elem) (((Array.range (n * (0 + 1))).map fun k => zv.cells[k % zv.cells.size]!)).size (.lst j elem true) rfl rfl ⟨_, (0, 0), heap_alloc_new w _, rfl, by
            rw [hLj]
            rfl, fun _ => .inl rfl⟩
          refine ⟨_, _, _, List.prefix_append _ _, ⟨_, 0, H.new_get _, by decide, by rw [hLj]; rfl, Nat.zero_le _, rfl⟩, .inl (run_vSem ?_), H'⟩
          rw [hsz1]
          by_cases hn0 : n = 0
          · subst hn0
            simp [Instr.makeSlice, run_under hu, asInt, asIntOf, typeInfo, hi, hw0, run_sizeB hsz, newRow]
            have e0 : ∀ f : Nat → Value, (Array.range 0).map f = #[] := fun f => by simp
            first | done | (rw [e0, e0]) | (rw [e0])
          · simp [Instr.makeSlice, run_under hu, asInt, asIntOf, typeInfo, hi, hw1, hw0, hc0, hbig, run_sizeB hsz, hzrun, newRow, hn0]
      · cases hs
    · cases hs
  · cases hs
theorem fit_mMake (hT : TOK P g) (H : HInv ro base w0 E h w) {ty : TypeId} {x y : RV} {u v : Value} {e : Eff} (hx : VRel E x u) (hy : VRel E y v) (hs : mMake P g h ty x y = some e) :
    Fits ro base w0 E h w ((vSem (Instr.makeSlice ty u v)).run P w) e := by
  unfold mMake at hs
  split at hs
  · rename_i e' he'
    cases hs
    exact fit_makeSlice H hx hy he'
  · split at hs
    · rename_i e' he'
      cases hs
      exact fit_makeN hT H hx hy he'
    · exact fit_makeR hT H hx hy hs
omit [Val] in
theorem set_take {cur L : List Value} {i : Nat} {v : Value} (hi : i < L.length) (hc : cur.take L.length = L) (hl : L.length ≤ cur.length) : (cur.take i ++ [v] ++ cur.drop (i + 1)).take L.length = L.set i v := by
  have e : cur.take i ++ [v] ++ cur.drop (i + 1) = cur.set i v := by
    rw [List.set_eq_take_append_cons_drop, if_pos (by omega)]
    simp
  rw [e, List.take_set, hc]
omit [Val] in
theorem lflook_mem (i k s o : Nat) (x : RV) (j : Nat) : ∀ T : List LFE, lflook T i k s o x = some j → ∃ e, e ∈ T ∧ e.i = i ∧ e.k = k ∧ e.s = s ∧ e.o = o ∧ e.x = x ∧ e.j = j
  | [], h => by cases h
  | e :: T, h => by
    have h : (match Nat.beq e.i i && Nat.beq e.k k && Nat.beq e.s s && Nat.beq e.o o with
      | true => match eqS e.x x with | true => some e.j | false => lflook T i k s o x
      | false => lflook T i k s o x) = some j := h
    have go : lflook T i k s o x = some j → ∃ e2, e2 ∈ e :: T ∧ e2.i = i ∧ e2.k = k ∧ e2.s = s ∧ e2.o = o ∧ e2.x = x ∧ e2.j = j := fun h => by
      obtain ⟨e2, he, q⟩ := lflook_mem i k s o x j T h
      exact ⟨e2, List.mem_cons_of_mem _ he, q⟩
    split at h
    · rename_i h1
      simp only [Bool.and_eq_true] at h1
      obtain ⟨⟨⟨h1, h2⟩, h3⟩, h4⟩ := h1
      split at h
      · rename_i hx
        cases h
        exact ⟨e, List.mem_cons_self, Nat.eq_of_beq_eq_true h1, Nat.eq_of_beq_eq_true h2, Nat.eq_of_beq_eq_true h3, Nat.eq_of_beq_eq_true h4, eqS_eq hx, rfl⟩
      · exact go h
    · exact go h
theorem lfchain_ok {T : List LFE} (hT : ∀ e, e ∈ T → LFTrue e) (k s : Nat) : ∀ (xs : List RV) (i o j : Nat), lfchain T k s xs i o = some j →
    (xs ≠ [] → (Val.I k).toNat * s + o + xs.length ≤ (Val.L i).length) ∧ (Val.L j).length = (Val.L i).length ∧ Val.L j = (Val.L i).take ((Val.I k).toNat * s + o) ++ xs.map cv ++ (Val.L i).drop ((Val.I k).toNat * s + o + xs.length)
  | [], i, o, j, h => by
    have h : some i = some j := h
    cases h
    exact ⟨fun h => absurd rfl h, rfl, by simp⟩
  | x :: xs, i, o, j, h => by
    have h : (match lflook T i k s o x with | some j => lfchain T k s xs j (o + 1) | none => none) = some j := h
    cases hq : lflook T i k s o x with
    | none => rw [hq] at h; cases h
    | some j1 =>
      rw [hq] at h
      have h : lfchain T k s xs j1 (o + 1) = some j := h
      obtain ⟨en, hen, rfl, rfl, rfl, rfl, rfl, rfl⟩ := lflook_mem _ _ _ _ _ _ _ hq
      obtain ⟨hlt, hL⟩ := hT en hen
      obtain ⟨g1, g2, g3⟩ := lfchain_ok hT en.k en.s xs en.j (en.o + 1) j h
      have hlen : (Val.L en.j).length = (Val.L en.i).length := by rw [hL, List.length_set]
      refine ⟨fun _ => ?_, g2.trans hlen, ?_⟩
      · by_cases hx : xs = []
        · subst hx
          show _ + 1 ≤ _
          omega
        · have := g1 hx
          rw [hlen] at this
          show _ + (xs.length + 1) ≤ _
          omega
      · rw [g3, hL]
        have e1 : ((Val.L en.i).set ((Val.I en.k).toNat * en.s + en.o) (cv en.x)).take ((Val.I en.k).toNat * en.s + (en.o + 1)) = (Val.L en.i).take ((Val.I en.k).toNat * en.s + en.o) ++ [cv en.x] := by
          rw [← Nat.add_assoc, List.take_succ_eq_append_getElem (by rw [List.length_set]; exact hlt), List.take_set_of_le (Nat.le_refl _), List.getElem_set_self]
        have e2 : ((Val.L en.i).set ((Val.I en.k).toNat * en.s + en.o) (cv en.x)).drop ((Val.I en.k).toNat * en.s + (en.o + 1) + xs.length) = (Val.L en.i).drop ((Val.I en.k).toNat * en.s + en.o + (xs.length + 1)) := by
          rw [List.drop_set_of_lt (by omega)]
          congr 1
          omega
        rw [e1, e2]
        simp
omit [Val] in
theorem put_take {cur L xs : List Value} {a : Nat} (hi : a + xs.length ≤ L.length) (hc : cur.take L.length = L) : (cur.take a ++ xs ++ cur.drop (a + xs.length)).take L.length = L.take a ++ xs ++ L.drop (a + xs.length) := by
  have e : cur = L ++ cur.drop L.length := by
    conv => lhs; rw [← List.take_append_drop L.length cur, hc]
  generalize cur.drop L.length = R at e
  subst e
  rw [List.take_append_of_le_length (by omega : a ≤ L.length), List.drop_append_of_le_length hi, ← List.append_assoc]
  have hl : (L.take a ++ xs ++ L.drop (a + xs.length)).length = L.length := by
    simp only [List.length_append, List.length_take, List.length_drop]
    omega
  rw [List.take_append_of_le_length (by rw [hl]; exact Nat.le_refl _)]
  exact List.take_of_length_le (by rw [hl]; exact Nat.le_refl _)
theorem fit_storeEl (hT : TOK P g) (H : HInv ro base w0 E h w) {ty : TypeId} {x y : RV} {u v : Value} {e : Eff} (hx : VRel E x u) (hy : VRel E y v) (hs : storeEl P g h ty x y = some e) :
    Fits ro base w0 E h w ((uSem (Instr.storeAt ty u v)).run P w) e := by
  unfold storeEl at hs
  split at hs
  · rename_i b i hn
    split at hs
    · rename_i k et hl
      split at hs
      · rename_i hc
        simp only [Bool.and_eq_true] at hc
        cases hq : lwlook g.LW k i y with
        | none => rw [hq] at hs; cases hs
        | some j =>
          rw [hq] at hs
          cases hs
          obtain ⟨en, hen, rfl, rfl, rfl, rfl⟩ := lwlook_mem _ _ _ _ _ hq
          obtain ⟨h0, hlt, hL⟩ := hT.lw en hen
          rw [lkp_eq] at hl
          obtain ⟨p, hp, rfl⟩ := hx
          obtain ⟨q, q1, q2, cur, fr, q3, q4, q5, q6⟩ := H.blk1 b _ hl rfl
          rw [hp] at q1
          cases q1
          have hfr := q6 rfl
          have hv : v = cv en.x := cv_rel hc.1 hy
          have hone := one_rel hy hc.2
          have hcell : v.cells.toList = [v] := by
            have := cellsOf_rel hy (by cases hx : en.x <;> first | rfl | (rw [hx] at hc; cases hc.1))
            have e1 : cellsOf en.x = [en.x] ∨ ∃ u, en.x = .pl u := by
              cases hx : en.x with
              | pl u => exact .inr ⟨u, rfl⟩
              | sym k i => exact .inl rfl
              | _ => rw [hx] at hc; cases hc.1
            cases v with
            | agg l => cases hone
            | _ => rfl
          have hlen : (Val.L en.i).length ≤ cur.size := by
            have := congrArg List.length q5
            simp at this
            omega
          have hst := store_free P p.1 (Val.I en.k).toNat et fr [v] 0 cur w q3 (by rw [q4]; exact hfr) (by simp; omega) (by simp [hone])
          simp only [Nat.add_zero] at hst
          have hsz := quiet_run P _ _ hn w
          refine ⟨E, undef, _, List.prefix_refl E, rfl, .inr ⟨run_uSem (w' := w.setRow p.1 (cur.toList.take (Val.I en.k).toNat ++ [v] ++ cur.toList.drop ((Val.I en.k).toNat + [v].length)).toArray) ?_, rfl⟩, H.write hl hp rfl rfl rfl _ (below_setRow w p.1 _ q2) (fun k hk _ => setRow_other w p.1 k _ hk) ⟨_, fr, setRow_heap w p.1 cur _ et _ q3, ?_, ?_, fun _ => hfr⟩⟩
          · have hl : v.cells.size = 1 := by
              have := congrArg List.length hcell
              simpa using this
            simp only [Instr.storeAt, Instr.sureAddr, storeVar, Sem.run_bind, Sem.run_pure, Result.andThen_ok, hsz, hl]
            simp only [Nat.mul_one, hcell, ne_eq, not_true_eq_false, if_false]
            first | exact hst | (simp [hst])
          · simp
            omega
          · rw [hL, List.length_set, ← hv]
            exact set_take hlt q5 (by simpa using hlen)
      · cases hs
    · cases hs
  · rename_i b i s o hn
    split at hs
    · rename_i k et hl
      split at hs
      · rename_i hc
        simp only [Bool.and_eq_true] at hc
        cases hq : lflook g.LF k i s o y with
        | none => rw [hq] at hs; cases hs
        | some j =>
          rw [hq] at hs
          cases hs
          obtain ⟨en, hen, rfl, rfl, rfl, rfl, rfl, rfl⟩ := lflook_mem _ _ _ _ _ _ _ hq
          obtain ⟨hlt, hL⟩ := hT.lf en hen
          rw [lkp_eq] at hl
          obtain ⟨p, hp, rfl⟩ := hx
          obtain ⟨q, q1, q2, cur, fr, q3, q4, q5, q6⟩ := H.blk1 b _ hl rfl
          rw [hp] at q1
          cases q1
          have hfr := q6 rfl
          have hv : v = cv en.x := cv_rel hc.1 hy
          have hone := one_rel hy hc.2
          have hcell : v.cells.toList = [v] := by
            have := cellsOf_rel hy (by cases hx : en.x <;> first | rfl | (rw [hx] at hc; cases hc.1))
            have e1 : cellsOf en.x = [en.x] ∨ ∃ u, en.x = .pl u := by
              cases hx : en.x with
              | pl u => exact .inr ⟨u, rfl⟩
              | sym k i => exact .inl rfl
              | _ => rw [hx] at hc; cases hc.1
            cases v with
            | agg l => cases hone
            | _ => rfl
          have hlen : (Val.L en.i).length ≤ cur.size := by
            have := congrArg List.length q5
            simp at this
            omega
          have hst := store_free P p.1 ((Val.I en.k).toNat * en.s + en.o) et fr [v] 0 cur w q3 (by rw [q4]; exact hfr) (by simp; omega) (by simp [hone])
          simp only [Nat.add_zero] at hst
          have hsz := quiet_run P _ _ hn w
          refine ⟨E, undef, _, List.prefix_refl E, rfl, .inr ⟨run_uSem (w' := w.setRow p.1 (cur.toList.take ((Val.I en.k).toNat * en.s + en.o) ++ [v] ++ cur.toList.drop (((Val.I en.k).toNat * en.s + en.o) + [v].length)).toArray) ?_, rfl⟩, H.write hl hp rfl rfl rfl _ (below_setRow w p.1 _ q2) (fun k hk _ => setRow_other w p.1 k _ hk) ⟨_, fr, setRow_heap w p.1 cur _ et _ q3, ?_, ?_, fun _ => hfr⟩⟩
          · have hl : v.cells.size = 1 := by
              have := congrArg List.length hcell
              simpa using this
            simp only [Instr.storeAt, Instr.sureAddr, storeVar, Sem.run_bind, Sem.run_pure, Result.andThen_ok, hsz, hl]
            simp only [hcell, ne_eq, not_true_eq_false, if_false]
            first | exact hst | (simp [hst])
          · simp
            omega
          · rw [hL, List.length_set, ← hv]
            exact set_take hlt q5 (by simpa using hlen)
      · cases hs
    · cases hs
  · rename_i b i s n hn
    split at hs
    · rename_i k et hl
      split at hs
      · rename_i hc
        simp only [Bool.and_eq_true, Bool.not_eq_true', List.all_eq_true] at hc
        obtain ⟨⟨⟨c1, c2⟩, c3⟩, c4⟩ := hc
        have c1 := Nat.eq_of_beq_eq_true c1
        have c2 := Nat.eq_of_beq_eq_true c2
        cases hq : lfchain g.LF i s (cellsOf y) k 0 with
        | none => rw [hq] at hs; cases hs
        | some j =>
          rw [hq] at hs
          cases hs
          obtain ⟨b1, b2, b3⟩ := lfchain_ok hT.lf i s (cellsOf y) k 0 j hq
          have hne : cellsOf y ≠ [] := fun e => by rw [e] at c2; simp at c2; omega
          have b1 := b1 hne
          rw [Nat.add_zero] at b1 b3
          rw [lkp_eq] at hl
          obtain ⟨p, hp, rfl⟩ := hx
          obtain ⟨q, q1, q2, cur, fr, q3, q4, q5, q6⟩ := H.blk1 b _ hl rfl
          rw [hp] at q1
          cases q1
          have hfr := q6 rfl
          have hcs := cellsOf_rel hy c3
          have hcells : v.cells.toList = (cellsOf y).map cv := VRels.fn _ _ _ (VRels_iff.2 hcs) (VRels_iff.2 (rel_cvs (E := E) (cellsOf y) (by rw [List.all_eq_true]; exact fun r hr => (c4 r hr).1)))
          have hone : ∀ u, u ∈ v.cells.toList → u.oneCell' = true := fun u hu => by
            rw [hcells] at hu
            obtain ⟨r, hr, rfl⟩ := List.mem_map.1 hu
            exact one_rel (rel_cv (E := E) (c4 r hr).1) (c4 r hr).2
          have hlen : (Val.L k).length ≤ cur.size := by
            have := congrArg List.length q5
            simp at this
            omega
          have hvl : v.cells.toList.length = s := by rw [hcells, List.length_map, c2]
          have hvs : v.cells.size = s := by
            have : v.cells.size = v.cells.toList.length := by simp
            rw [this, hvl]
          have hst := store_free P p.1 ((Val.I i).toNat * s) et fr v.cells.toList 0 cur w q3 (by rw [q4]; exact hfr) (by rw [hvl]; omega) hone
          simp only [Nat.add_zero] at hst
          have hsz := quiet_run P _ _ hn w
          refine ⟨E, undef, _, List.prefix_refl E, rfl, .inr ⟨run_uSem (w' := w.setRow p.1 (cur.toList.take ((Val.I i).toNat * s) ++ v.cells.toList ++ cur.toList.drop ((Val.I i).toNat * s + v.cells.toList.length)).toArray) ?_, rfl⟩, H.write hl hp rfl rfl rfl _ (below_setRow w p.1 _ q2) (fun k hk _ => setRow_other w p.1 k _ hk) ⟨_, fr, setRow_heap w p.1 cur _ et _ q3, ?_, ?_, fun _ => hfr⟩⟩
          · have hl : v.cells.size = n + 2 := by omega
            simp only [Instr.storeAt, Instr.sureAddr, storeVar, Sem.run_bind, Sem.run_pure, Result.andThen_ok, hsz, hl]
            simp only [ne_eq, not_true_eq_false, if_false]
            first | exact hst | (simp [hst])
          · simp only [List.size_toArray, List.length_append, List.length_take, List.length_drop, hvl]
            have : cur.toList.length = cur.size := by simp
            omega
          · rw [b2, b3, hcells]
            have := put_take (cur := cur.toList) (L := Val.L k) (xs := (cellsOf y).map cv) (a := (Val.I i).toNat * s) (by rw [List.length_map]; omega) q5
            rw [List.length_map] at this
            simpa using this
      · cases hs
    · cases hs
  · cases hs
theorem fit_mStore (hT : TOK P g) (H : HInv ro base w0 E h w) {ty : TypeId} {x y : RV} {u v : Value} {e : Eff} (hx : VRel E x u) (hy : VRel E y v) (hs : mStore P g h ty x y = some e) :
    Fits ro base w0 E h w ((uSem (Instr.storeAt ty u v)).run P w) e := by
  unfold mStore at hs
  split at hs
  · rename_i e' he'
    cases hs
    exact fit_store H hx hy he'
  · exact fit_storeEl hT H hx hy hs
theorem copy_core (hT : TOK P g) (H : HInv ro base w0 E h w) {argTypes : Array TypeId} {ty tD : TypeId} {ud : Value} {b i s i' : Nat} {sz : Nat} {elem et : TypeId} {k : Nat} {r r' : RV} {oa : Option Addr} {n' cap' : Nat} (hT0 : argTypes[0]? = some tD) (hu : P.underlying tD = some (.slice elem)) (hl : lkp h b = some (.lst k et true))
    (hsz : sizeB P elem = some sz) (hr : lenlook g.LL i s = some r) (hr' : lenlook g.LL i' s = some r') (hss : sz = s) (hrr : eqS r r' = true) (hoc : g.OC.contains i' = true) (hd : VRel E (.slN b i s) ud)
    (hn' : (Val.L i').length = n' * s) (hab : Val.L i' ≠ [] → ∃ a : Addr, oa = some a) (hcell : ∀ a : Addr, oa = some a → ∀ j v, (Val.L i')[j]? = some v → w.cell? (a.add j) = some v) :
    Fits ro base w0 E h w ((vSem (Builtin.copy_ argTypes ty #[ud, .slice oa n' cap'])).run P w) (.setB r b (.lst i' et true)) := by
  subst hss
  obtain ⟨e1, he1, rfl, he1s, rfl⟩ := lenlook_mem _ _ _ _ hr
  obtain ⟨e2, he2, rfl, he2s, rfl⟩ := lenlook_mem _ _ _ _ hr'
  obtain ⟨f1, n1, hs1, hn1, hv1⟩ := hT.ll e1 he1
  obtain ⟨f2, n2, hs2, hn2, hv2⟩ := hT.ll e2 he2
  have hrr := eqS_eq hrr
  rw [← hrr, hv1] at hv2
  have hnn : n1 = n2 := by
    have : (n1 : Int) = n2 := by simpa using hv2
    omega
  subst hnn
  rw [lkp_eq] at hl
  obtain ⟨p, n, hp, hs0, hn, hnk, rfl⟩ := hd
  rw [he1s] at hn1 hs1
  rw [he2s] at hn2
  have e1n : n = n1 := Nat.eq_of_mul_eq_mul_right hs0 (hn.symm.trans hn1)
  have e2n : n' = n1 := Nat.eq_of_mul_eq_mul_right hs0 (hn'.symm.trans hn2)
  subst e1n
  subst e2n
  obtain ⟨q, q1, q2, cur, fr, q3, q4, q5, q6⟩ := H.blk1 b _ hl rfl
  rw [hp] at q1
  cases q1
  have hfr := q6 rfl
  have hone := hT.oc e2.i (List.contains_iff_mem.1 hoc)
  have hroom : (Val.L e2.i).length ≤ cur.size := by
    rw [hn', q4]
    have h1 := Nat.mul_le_mul_right sz hnk
    have h2 := Nat.div_mul_le_self p.2 sz
    omega
  have hload : (Builtin.firstCells sz n' (.slice oa n' cap')).run P w = .ok (Val.L e2.i).toArray w := by
    cases oa with
    | none =>
      have : Val.L e2.i = [] := by
        by_cases hnil : Val.L e2.i = []
        · exact hnil
        · obtain ⟨a, ha⟩ := hab hnil
          cases ha
      rw [this]
      rfl
    | some a =>
      simp only [Builtin.firstCells]
      have := run_loadCells_list (P := P) w a (Val.L e2.i) (fun j v hj => hcell a rfl j v hj)
      rw [hn'] at this
      exact this
  have hst := store_free P p.1 0 et fr (Val.L e2.i) 0 cur w q3 (by rw [q4]; exact hfr) (by simpa using hroom) hone
  simp only [Nat.add_zero, Nat.zero_add, List.take_zero, List.nil_append] at hst
  refine ⟨E, _, _, List.prefix_refl E, rel_cv f1, .inl (run_vSem (w' := w.setRow p.1 (Val.L e2.i ++ cur.toList.drop (Val.L e2.i).length).toArray) ?_), H.write hl hp rfl rfl rfl _ (below_setRow w p.1 _ q2) (fun k hk _ => setRow_other w p.1 k _ hk) ⟨_, fr, setRow_heap w p.1 cur _ et _ q3, ?_, ?_, fun _ => hfr⟩⟩
  · simp only [Builtin.copy_, hT0]
    simp [run_under hu, Builtin.lenOf, run_sizeB hsz, hload, hst, hv1, goInt]
  · simp
    omega
  · simp
omit [Val] in
theorem eqLen_eq {g : Cfg} {i j s : Nat} (h : eqLen g i j s = true) : i = j ∨ ∃ r, lenlook g.LL i s = some r ∧ lenlook g.LL j s = some r := by
  unfold eqLen at h
  split at h
  · rename_i h1
    exact .inl (Nat.eq_of_beq_eq_true h1)
  · split at h
    · rename_i r r' h1 h2
      have e := eqS_eq h
      subst e
      exact .inr ⟨r, h1, h2⟩
    · cases h
theorem eqLen_rel (hT : TOK P g) {b2 j j' s : Nat} {v : Value} (h : eqLen g j j' s = true) (hv : VRel E (.slN b2 j s) v) : VRel E (.slN b2 j' s) v := by
  rcases eqLen_eq h with rfl | ⟨r, h1, h2⟩
  · exact hv
  · obtain ⟨e1, he1, rfl, he1s, rfl⟩ := lenlook_mem _ _ _ _ h1
    obtain ⟨e2, he2, rfl, he2s, he2r⟩ := lenlook_mem _ _ _ _ h2
    obtain ⟨_, n1, hs1, hn1, hv1⟩ := hT.ll e1 he1
    obtain ⟨_, n2, hs2, hn2, hv2⟩ := hT.ll e2 he2
    rw [he2r, hv1] at hv2
    have hnn : n1 = n2 := by
      have : (n1 : Int) = n2 := by simpa using hv2
      omega
    obtain ⟨p, m, hp, hs, hm, hk, hv⟩ := hv
    refine ⟨p, m, hp, hs, ?_, hk, hv⟩
    rw [he2s] at hn2
    rw [he1s] at hn1
    rw [hn2, ← hnn, ← hn1, hm]
theorem fit_copyN (hT : TOK P g) (H : HInv ro base w0 E h w) {argTypes : Array TypeId} {ty : TypeId} {d x : RV} {ud u : Value} {e : Eff} (hd : VRel E d ud) (hx : VRel E x u) (hs : copyN P g h argTypes d x = some e) :
    Fits ro base w0 E h w ((vSem (Builtin.copy_ argTypes ty #[ud, u])).run P w) e := by
  have first : ∀ {tD : TypeId} {rest : List TypeId}, argTypes.toList = tD :: rest → argTypes[0]? = some tD := fun {tD rest} hTy => by
    have : argTypes.toList[0]? = some tD := by rw [hTy]; rfl
    simpa using this
  unfold copyN at hs
  split at hs
  · rename_i tD rest b i s b' i' s' hTy
    split at hs
    · rename_i elem k et i'' hu hl hl'
      split at hs
      · rename_i sz r r' hsz hr hr'
        split at hs
        · rename_i hc
          obtain ⟨hss, rfl, rfl, hrr, hoc⟩ := hc
          cases hs
          rw [lkp_eq] at hl'
          obtain ⟨p', oa, n', cap', hp', hpv, hab, hs0', hn', hk', rfl⟩ := hx
          obtain ⟨p2, r1, _, r2, oa2, n2, cap2, r3, r4, r5⟩ := H.blk b' _ hl'
          rw [hp'] at r1
          cases r1
          rw [hpv] at r3
          cases r3
          exact copy_core hT H (first hTy) hu hl hsz hr hr' hss hrr hoc hd hn' (fun h => by obtain ⟨a, ha, _⟩ := hab h; exact ⟨a, ha⟩) r5
        · cases hs
      · cases hs
    · cases hs
  · rename_i tD rest b i s b' i' s' hTy
    split at hs
    · rename_i elem k et i'' e0 o0 hu hl hl'
      split at hs
      · rename_i sz r r' hsz hr hr'
        split at hs
        · rename_i hc
          obtain ⟨hss, rfl, heq, hrr, hoc⟩ := hc
          cases hs
          rw [lkp_eq] at hl'
          obtain ⟨p', n', hp', hs0', hn', hk', rfl⟩ := eqLen_rel hT heq hx
          obtain ⟨p2, r1, _, cur, fr, g1, g2, g3, g4⟩ := H.blk b' _ hl'
          rw [hp'] at r1
          cases r1
          refine copy_core hT H (first hTy) hu hl hsz hr hr' hss hrr hoc hd hn' (fun _ => ⟨_, rfl⟩) fun a ha j v hj => ?_
          cases ha
          rw [add_lit, Nat.zero_add, cell_of_row w p'.1 _ cur _ _ g1]
          rw [← g3] at hj
          rw [List.getElem?_take] at hj
          split at hj
          · simpa using hj
          · cases hj
        · cases hs
      · cases hs
    · cases hs
  · rename_i tD rest b i s b' k q i' s' hTy
    split at hs
    · rename_i elem k0 et k' e0 s'' hu hl hl'
      split at hs
      · rename_i sz r r' hsz hr hr'
        split at hs
        · rename_i hc
          obtain ⟨hss, rfl, ⟨rfl, rfl⟩, hrr, hoc⟩ := hc
          cases hs
          rw [lkp_eq] at hl'
          obtain ⟨p', oa, n', cap', hp', hpi, hLk, hs0', hn', hab, rfl⟩ := hx
          obtain ⟨p2, r1, _, cur, ⟨_, g1, _⟩, g2, g3, g4⟩ := H.blk b' _ hl'
          rw [hp'] at r1
          cases r1
          obtain ⟨u, hu2, oa2, n2, cap2, rfl, f1, f2, f3, f4, f5⟩ := all2_at _ g4 hLk
          rw [hpi] at hu2
          cases hu2
          exact copy_core hT H (first hTy) hu hl hsz hr hr' hss hrr hoc hd hn' hab fun a ha j v hj => (f5 a ha).2 j v hj
        · cases hs
      · cases hs
    · cases hs
  · cases hs
theorem intR_rel {r : RV} {v : Value} (hi : intR r = true) (h : VRel E r v) : flat0 r = true ∧ ∃ k n, v = .int k n ∧ cv r = .int k n := by
  unfold intR at hi
  split at hi
  · rename_i k n
    exact ⟨rfl, k, n, h, rfl⟩
  · rename_i k i
    exact ⟨rfl, k, Val.I i, h, rfl⟩
  · cases hi
omit [Val] in
theorem lss_kinds {k k' : IntKind} {m n : Int} {b : Bool} (h : TCTrue (.bin .lss) (.int k m) (.int k' n) (.bool b)) : k = k' ∧ b = decide (m < n) := by
  have h1 := h { (default : Program) with } 0 (.const undef) (.const undef) default
  by_cases hk : k = k'
  · subst hk
    have h2 := (fun P ty a b w => by simp [guard_other, binOp, Op.intCmp] : TCTrue (.bin .lss) (.int k m) (.int k n) (.bool (decide (m < n)))) { (default : Program) with } 0 (.const undef) (.const undef) default
    rw [h2] at h1
    exact ⟨rfl, by simpa using h1.symm⟩
  · exfalso
    simp [guard_other, binOp, hk] at h1
omit [Val] in
theorem gtr_kinds {k k' : IntKind} {m n : Int} {b : Bool} (h : TCTrue (.bin .gtr) (.int k m) (.int k' n) (.bool b)) : k = k' ∧ b = decide (m > n) := by
  have h1 := h { (default : Program) with } 0 (.const undef) (.const undef) default
  by_cases hk : k = k'
  · subst hk
    have h2 := (fun P ty a b w => by simp [guard_other, binOp, Op.intCmp] : TCTrue (.bin .gtr) (.int k m) (.int k n) (.bool (decide (m > n)))) { (default : Program) with } 0 (.const undef) (.const undef) default
    rw [h2] at h1
    exact ⟨rfl, by simpa using h1.symm⟩
  · exfalso
    simp [guard_other, binOp, hk] at h1
theorem fit_min (hT : TOK P g) {argTypes : Array TypeId} {ty : TypeId} {cs : Array Bool} {x y : RV} {u v : Value} {e : Eff} (hx : VRel E x u) (hy : VRel E y v) (hs : minOp g.T false x y = some e) :
    Fits ro base w0 E h w ((builtin .min argTypes ty cs #[u, v]).run P w) e := by
  unfold minOp at hs
  split at hs
  · rename_i hi
    simp only [Bool.and_eq_true] at hi
    obtain ⟨fx, k, m, rfl, ex⟩ := intR_rel hi.1 hx
    obtain ⟨fy, k', n, rfl, ey⟩ := intR_rel hi.2 hy
    split at hs
    · rename_i hq
      cases hs
      obtain ⟨_, _, _, ht⟩ := tlook_true hT hq
      rw [ex, ey] at ht
      obtain ⟨rfl, hb⟩ := lss_kinds ht
      refine ⟨_, hy, .inl (run_vSem (s := Builtin.min_ argTypes ty _) ?_)⟩
      rw [run_min_int2, if_pos (of_decide_eq_true hb.symm)]
    · rename_i hq
      cases hs
      obtain ⟨_, _, _, ht⟩ := tlook_true hT hq
      rw [ex, ey] at ht
      obtain ⟨rfl, hb⟩ := lss_kinds ht
      refine ⟨_, hx, .inl (run_vSem (s := Builtin.min_ argTypes ty _) ?_)⟩
      rw [run_min_int2, if_neg (of_decide_eq_false hb.symm)]
    · cases hs
  · cases hs
theorem fit_max (hT : TOK P g) {argTypes : Array TypeId} {ty : TypeId} {cs : Array Bool} {x y : RV} {u v : Value} {e : Eff} (hx : VRel E x u) (hy : VRel E y v) (hs : minOp g.T true x y = some e) :
    Fits ro base w0 E h w ((builtin .max argTypes ty cs #[u, v]).run P w) e := by
  unfold minOp at hs
  split at hs
  · rename_i hi
    simp only [Bool.and_eq_true] at hi
    obtain ⟨fx, k, m, rfl, ex⟩ := intR_rel hi.1 hx
    obtain ⟨fy, k', n, rfl, ey⟩ := intR_rel hi.2 hy
    split at hs
    · rename_i hq
      cases hs
      obtain ⟨_, _, _, ht⟩ := tlook_true hT hq
      rw [ex, ey] at ht
      obtain ⟨rfl, hb⟩ := gtr_kinds ht
      refine ⟨_, hy, .inl (run_vSem (s := Builtin.max_ argTypes ty _) ?_)⟩
      rw [run_max_int2, if_pos (of_decide_eq_true hb.symm)]
    · rename_i hq
      cases hs
      obtain ⟨_, _, _, ht⟩ := tlook_true hT hq
      rw [ex, ey] at ht
      obtain ⟨rfl, hb⟩ := gtr_kinds ht
      refine ⟨_, hx, .inl (run_vSem (s := Builtin.max_ argTypes ty _) ?_)⟩
      rw [run_max_int2, if_neg (of_decide_eq_false hb.symm)]
    · cases hs
  · cases hs
theorem fit_appZ (H : HInv ro base w0 E h w) {argTypes : Array TypeId} {ty : TypeId} {s x : RV} {us u : Value} {e : Eff} (hsr : VRel E s us) (hx : VRel E x u) (hs : appZ P h argTypes s x = some e) :
    Fits ro base w0 E h w ((vSem (Builtin.append_ argTypes ty #[us, u])).run P w) e := by
  unfold appZ at hs
  split at hs
  · rename_i tS tX n hT
    have hT : argTypes = #[tS, tX] := by
      apply Array.ext'
      rw [hT]
    subst hT
    cases hsr
    cases hx
    split at hs
    · rename_i elem k ht htx
      split at hs
      · rename_i i zero hi hz
        split at hs
        · rename_i hc
          simp only [Bool.and_eq_true, decide_eq_true_eq] at hc
          obtain ⟨⟨⟨⟨⟨h1, h2⟩, h3⟩, h4⟩, h5⟩, h6⟩ := hc
          cases hs
          have hsz : 0 < i.size := by omega
          obtain ⟨z, hzr, hza⟩ := zero_rel (E := E) hz
          have hzz : z.cells.size = i.size := by rw [← h2, hza.length, Array.length_toList]
          have hiz : i.zero = some z := by
            have := hzr w
            simp [zeroValue, typeInfo, hi] at this
            split at this
            · rename_i z' hz'; simp at this; rw [hz', this]
            · simp at this
          obtain ⟨m, rfl⟩ : ∃ m : Nat, n = (m : Int) := ⟨n.toNat, by omega⟩
          have hm : (m : Int).toNat = m := by simp
          rw [hm] at h6 ⊢
          have hm0 : 0 < m := by omega
          have hrep : All2 (VRel E) (rep m zero) (Builtin.zeroCells z.cells m).toList := by
            obtain ⟨q, hq⟩ : ∃ q, zero.length = q + 1 := ⟨zero.length - 1, by omega⟩
            have := rep_rel hza m q hq
            have hzq : z.cells.size = q + 1 := by rw [hzz, ← h2, hq]
            unfold Builtin.zeroCells
            have e : m * z.cells.size = m * (q + 1) := by rw [hzq]
            rw [e]
            exact this
          have hwrap : IntKind.i64.wrap (m : Int) = m := IntWalk.i64_in _ (by omega)
          have hn0 : ¬ (m = 0) := by omega
          have hg : 0 < 0 + m := by omega
          have h48 : ¬ (281474976710656 < Builtin.nextslicecap m 0 * i.bytes) := by
            have := growslice_fits (bytes := i.bytes) hm0 (by omega : m * i.bytes ≤ _)
            omega
          have hsz0 : ¬ (i.size = 0) := by omega
          have hrun : (Builtin.append_ #[tS, tX] ty #[.slice none 0 0, .int .i64 m]).run P w = .ok (.slice (some ⟨w.heap.size, 0, none⟩) m (grownCap w m 0 elem))
              (w.drew.alloc (.cells ((Builtin.zeroCells z.cells m).toList.toArray ++ Builtin.zeroCells z.cells (grownCap w m 0 elem - m)) elem)) := by
            have hl0 : ¬ ((m : Int) < 0) := by omega
            have hb48 : ¬ (281474976710656 < (m : Int) * (i.bytes : Int)) := by
              have h7 := Int.ofNat_le.2 h6
              rw [Int.natCast_mul] at h7
              omega
            have h63 : ¬ (9223372036854775807 < (m : Int)) := by omega
            simp [Builtin.append_, run_under ht, run_under htx, sizeOf, typeInfo, zeroValue, hi, hiz, asInt, asIntOf, hwrap, hl0, hb48, hn0, h63, h48, Question.forced, newRow, grownCap, Builtin.firstCells]
            intro e0
            have := Nat.mul_pos hm0 hsz
            omega
          obtain ⟨H', hv⟩ := grown_new (e := elem) H hsz hzz (grownCap_ge w m 0 elem) hrep (by
            rw [hrep.length, Array.length_toList, size_zeroCells, hzz])
          exact ⟨_, _, _, List.prefix_append _ _, hv, .inl (run_vSem hrun), by simpa using H'⟩
        · cases hs
      · cases hs
    · cases hs
  · cases hs
theorem fit_builtin (hT : TOK P g) (H : HInv ro base w0 E h w) {b : Builtin} {argTypes : Array TypeId} {ty : TypeId} {cs : Array Bool} {args : List RV} {vs : Array Value} {e : Eff} (ha : All2 (VRel E) args vs.toList)
    (hs : builtinOp P g h b argTypes args = some e) : Fits ro base w0 E h w ((builtin b argTypes ty cs vs).run P w) e := by
  unfold builtinOp at hs
  split at hs
  · obtain ⟨u, v, hl, hx, hy⟩ := all2_two ha
    have : vs = #[u, v] := by apply Array.ext'; rw [hl]
    subst this
    split at hs
    · rename_i e' he'
      cases hs
      exact fit_appNest hT H hx hy he'
    · split at hs
      · rename_i e' he'
        cases hs
        exact fit_append H hx hy he'
      · split at hs
        · rename_i e' he'
          cases hs
          exact fit_appN hT H hx hy he'
        · split at hs
          · rename_i e' he'
            cases hs
            exact fit_appP hT H hx hy he'
          · split at hs
            · rename_i e' he'
              cases hs
              exact fit_appLQ hT H hx hy he'
            · split at hs
              · rename_i e' he'
                cases hs
                exact fit_appA hT H hx hy he'
              · split at hs
                · rename_i e' he'
                  cases hs
                  exact fit_appS hT H hx hy he'
                · exact fit_appZ H hx hy hs
  · obtain ⟨u, v, hl, hx, hy⟩ := all2_two ha
    have : vs = #[u, v] := by apply Array.ext'; rw [hl]
    subst this
    split at hs
    · rename_i e' he'
      cases hs
      exact fit_copy H hx hy he'
    · exact fit_copyN hT H hx hy hs
  · rename_i s
    obtain ⟨u, hl, hx⟩ := all2_one ha
    have : vs = #[u] := by apply Array.ext'; rw [hl]
    subst this
    cases hx
    split at hs
    · rename_i t hT
      split at hs
      · rename_i hu
        cases hs
        exact ⟨_, rfl, .inl (run_vSem (fit_lenS hT hu w))⟩
      · cases hs
    · cases hs
  · rename_i i
    obtain ⟨u, hl, hx⟩ := all2_one ha
    have : vs = #[u] := by apply Array.ext'; rw [hl]
    subst this
    split at hs
    · rename_i t hT'
      split at hs
      · rename_i hu
        cases hq : tlook g.T .len (.sym .str i) (.sym .str i) with
        | none => rw [hq] at hs; cases hs
        | some r =>
          rw [hq] at hs
          cases hs
          obtain ⟨f0, f1, f2, s, e1, e2⟩ := tlook_true hT hq
          refine ⟨cv r, rel_cv f0, .inl ?_⟩
          rw [cv_rel f1 hx, e1, e2]
          have := fit_lenS (s := s) (ty := ty) hT' hu w
          rw [lenB_eq] at this
          exact run_vSem this
      · cases hs
    · cases hs
  · rename_i b o n s c
    obtain ⟨u, hl, hx⟩ := all2_one ha
    have : vs = #[u] := by apply Array.ext'; rw [hl]
    subst this
    obtain ⟨p, k, hp, hk, hnk, rfl⟩ := hx
    split at hs
    · rename_i t hT
      split at hs
      · rename_i elem hu
        cases hs
        refine ⟨_, rfl, .inl (run_vSem (s := Builtin.len_ argTypes ty _) ?_)⟩
        rw [toList_one hT]
        simp [Builtin.len_, run_under hu]
      · cases hs
    · cases hs
  · rename_i b i s
    obtain ⟨u, hl, hx⟩ := all2_one ha
    have : vs = #[u] := by apply Array.ext'; rw [hl]
    subst this
    obtain ⟨p, n, hp, hs0, hn, hnk, rfl⟩ := hx
    split at hs
    · rename_i t hTy
      split at hs
      · rename_i elem hu
        cases hq : lenlook g.LL i s with
        | none => rw [hq] at hs; cases hs
        | some r =>
          rw [hq] at hs
          cases hs
          obtain ⟨e, he, rfl, he2, rfl⟩ := lenlook_mem _ _ _ _ hq
          obtain ⟨fr, n0, _, hn0, hr⟩ := hT.ll e he
          have hnn : n = n0 := by
            rw [hn, he2] at hn0
            exact Nat.eq_of_mul_eq_mul_right hs0 hn0
          subst hnn
          refine ⟨cv e.r, rel_cv fr, .inl (run_vSem (s := Builtin.len_ argTypes ty _) ?_)⟩
          rw [toList_one hTy, hr]
          simp [Builtin.len_, run_under hu, goInt]
      · cases hs
    · cases hs
  · rename_i b i s
    obtain ⟨u, hl, hx⟩ := all2_one ha
    have : vs = #[u] := by apply Array.ext'; rw [hl]
    subst this
    obtain ⟨p, a0, n, cap0, hp, hpv, hab, hs0, hn, hnk, rfl⟩ := hx
    split at hs
    · rename_i t hTy
      split at hs
      · rename_i elem hu
        cases hq : lenlook g.LL i s with
        | none => rw [hq] at hs; cases hs
        | some r =>
          rw [hq] at hs
          cases hs
          obtain ⟨e, he, rfl, he2, rfl⟩ := lenlook_mem _ _ _ _ hq
          obtain ⟨fr, n0, _, hn0, hr⟩ := hT.ll e he
          have hnn : n = n0 := by
            rw [hn, he2] at hn0
            exact Nat.eq_of_mul_eq_mul_right hs0 hn0
          subst hnn
          refine ⟨cv e.r, rel_cv fr, .inl (run_vSem (s := Builtin.len_ argTypes ty _) ?_)⟩
          rw [toList_one hTy, hr]
          simp [Builtin.len_, run_under hu, goInt]
      · cases hs
    · cases hs
  · rename_i b i k j s
    obtain ⟨u, hl, hx⟩ := all2_one ha
    have : vs = #[u] := by apply Array.ext'; rw [hl]
    subst this
    obtain ⟨p, oa, n, cap0, hp, hpv, hLj, hs0, hn, hab, rfl⟩ := hx
    split at hs
    · rename_i t hTy
      split at hs
      · rename_i elem hu
        cases hq : lenlook g.LL j s with
        | none => rw [hq] at hs; cases hs
        | some r =>
          rw [hq] at hs
          cases hs
          obtain ⟨e, he, rfl, he2, rfl⟩ := lenlook_mem _ _ _ _ hq
          obtain ⟨fr, n0, _, hn0, hr⟩ := hT.ll e he
          have hnn : n = n0 := by
            rw [hn, he2] at hn0
            exact Nat.eq_of_mul_eq_mul_right hs0 hn0
          subst hnn
          refine ⟨cv e.r, rel_cv fr, .inl (run_vSem (s := Builtin.len_ argTypes ty _) ?_)⟩
          rw [toList_one hTy, hr]
          simp [Builtin.len_, run_under hu, goInt]
      · cases hs
    · cases hs
  · rename_i b o n s c
    obtain ⟨u, hl, hx⟩ := all2_one ha
    have : vs = #[u] := by apply Array.ext'; rw [hl]
    subst this
    obtain ⟨p, k, hp, hk, hnk, rfl⟩ := hx
    split at hs
    · rename_i t hT
      split at hs
      · rename_i elem hu
        cases hcap : capOf h b o s c with
        | none => rw [hcap] at hs; cases hs
        | some k' =>
          rw [hcap] at hs
          cases hs
          have hkk := capOf_spec H hp hcap
          rw [← hk] at hkk
          subst hkk
          refine ⟨_, rfl, .inl (run_vSem (s := Builtin.cap_ argTypes ty _) ?_)⟩
          rw [toList_one hT]
          simp [Builtin.cap_, run_under hu]
      · cases hs
    · cases hs
  · rename_i b o n s c
    obtain ⟨u, hl, hx⟩ := all2_one ha
    have : vs = #[u] := by apply Array.ext'; rw [hl]
    subst this
    obtain ⟨p, k, hp, hk, hnk, rfl⟩ := hx
    split at hs
    · rename_i hn
      cases hs
      refine ⟨_, ⟨p, hp, rfl⟩, .inl (run_vSem (s := Builtin.unsafeSliceData_ argTypes ty _) ?_)⟩
      have hk0 : k ≠ 0 := by omega
      have hdef : Builtin.unsafeSliceData_ argTypes ty #[.slice (some ⟨p.1, o, none⟩) n k] =
        (if k ≠ 0 then pure (.pointer (some ⟨p.1, o, none⟩))
         else do
          if (← viewAt p.1).isSome then pure (.pointer (some ⟨p.1, o, none⟩))
          else pure (.pointer (some ⟨← newObj (.view ⟨p.1, o, none⟩ (← elemOf ty)), 0, none⟩))) := rfl
      rw [hdef, if_pos hk0]
      rfl
    · cases hs
  · obtain ⟨u, v, hl, hx, hy⟩ := all2_two ha
    have : vs = #[u, v] := by apply Array.ext'; rw [hl]
    subst this
    exact fit_string (ms_ok hT) H hx hy hs
  · obtain ⟨u, v, hl, hx, hy⟩ := all2_two ha
    have : vs = #[u, v] := by apply Array.ext'; rw [hl]
    subst this
    exact fit_min hT hx hy hs
  · obtain ⟨u, v, hl, hx, hy⟩ := all2_two ha
    have : vs = #[u, v] := by apply Array.ext'; rw [hl]
    subst this
    exact fit_max hT hx hy hs
  · obtain ⟨u, hl, hx⟩ := all2_one ha
    have : vs = #[u] := toList_one hl
    subst this
    exact fit_clear H hx hs
  · cases hs

theorem fit_mCall (hT : TOK P g) (G : CfgOK P g) (H : HInv ro base w0 E h w) (ht : All2 (VRel E) t a.tmps.toList) {c : Call} {ty : TypeId} {e : Eff} (hs : mCall P g h t c = some e) :
    Fits ro base w0 E h w ((do let d ← resolve a.eval c ty; invoke d.target d.args : Sem Next).run P w) e := by
  unfold mCall at hs
  have hargs := evL_rel ht c.args
  unfold resolve
  split at hs
  · rename_i b hc
    rw [hc]
    simp only
    show Fits ro base w0 E h w ((builtin b c.argTypes ty _ (c.args.map a.eval)).run P w) e
    exact fit_builtin hT H hargs hs
  · rename_i f hc
    rw [hc]
    exact fit_callOp hT G H (ev_rel ht f) hargs hs
  · cases hs
end
end Go.Ri

namespace Go.Ri
open Go Go.RowKit
variable [Val]

section
variable {P : Program} {g : Cfg} {base : Nat} {w0 : World} {E : Env} {h : RH} {w : World} {t : List RV} {a : Act}

omit [Val] in
theorem optMap {α : Type} {x : Option α} {f : α → Eff} {e : Eff} (hs : x.map f = some e) : ∃ v, x = some v ∧ e = f v := by
  cases x with
  | none => cases hs
  | some v => cases hs; exact ⟨v, rfl, rfl⟩

theorem fit_val {ro : Ro} {v : RV} {s : Sem Value} {r : Value} (hr : VRel E v r) (hrun : s.run P w = .ok r w) : Fits ro base w0 E h w ((vSem s).run P w) (.val v) :=
  ⟨r, hr, .inl (run_vSem hrun)⟩
theorem fit_same {ro : Ro} {v : RV} {s : Sem Value} {r : Value} (hr : VRel E v r) (hrun : s.run P w = .ok r w) : Fits ro base w0 E h w ((vSem s).run P w) (.same v) :=
  ⟨r, hr, .inl (run_vSem hrun)⟩

theorem memC_fits (hT : TOK P g) (G : CfgOK P g) (H : HInv g.ro base w0 E h w) (ht : All2 (VRel E) t a.tmps.toList) (o : Oper) {e : Eff} (hs : (memC P g o.op).f t h = some e) :
    Fits g.ro base w0 E h w ((execOp a.eval o).run P w) e := by
  obtain ⟨dst, op, type, pos, after, guard⟩ := o
  cases op with
  | move x => cases hs; exact ⟨_, ev_rel ht x, .inl rfl⟩
  | assign x => cases hs; exact ⟨_, ev_rel ht x, .inl rfl⟩
  | pick c x y =>
    have hs : mPick (ev t c) (ev t x) (ev t y) = some e := hs
    have hc := ev_rel ht c
    unfold mPick at hs
    split at hs
    · rename_i q heq
      rw [heq] at hc
      cases hs
      have hc : a.eval c = .bool q := hc
      refine ⟨if q then a.eval x else a.eval y, ?_, .inl ?_⟩
      · cases q
        · exact ev_rel ht y
        · exact ev_rel ht x
      · simp [execOp, hc, asBool]
    · cases hs
  | alloc el => exact fit_alloc H hs
  | box el x => exact fit_box H (ev_rel ht x) hs
  | build ty ps =>
    obtain ⟨v, hv, rfl⟩ := optMap (x := buildOp P ty (evP t ps)) hs
    obtain ⟨r, hr, hrun⟩ := fit_build (evP_rel ht ps) hv
    exact fit_val hr (hrun w)
  | buildSlice ty n ps => exact fit_buildSlice H (evP_rel ht ps) hs
  | load ty x =>
    have hs : mLoad P g h ty (ev t x) = some e := hs
    unfold mLoad at hs
    split at hs
    · rename_i v hv
      cases hs
      obtain ⟨r, hr, hrun⟩ := fit_load H (ev_rel ht x) hv
      exact fit_same hr hrun
    · split at hs
      · rename_i v hv
        cases hs
        obtain ⟨r, hr, hrun⟩ := fit_elLoad hT H (ev_rel ht x) hv
        exact fit_same hr hrun
      · obtain ⟨v, hv, rfl⟩ := optMap hs
        obtain ⟨r, hr, hrun⟩ := fit_nestLoad hT H (ev_rel ht x) hv
        exact fit_same hr hrun
  | store ty x y => exact fit_mStore hT H (ev_rel ht x) (ev_rel ht y) hs
  | nilCheck x =>
    have hs : mNil (ev t x) = some e := hs
    have hx := ev_rel ht x
    unfold mNil at hs
    split at hs
    · rename_i b o heq
      rw [heq] at hx
      cases hs
      obtain ⟨p, hp, hv⟩ := hx
      refine ⟨_, ⟨p, hp, rfl⟩, .inl ?_⟩
      simp [execOp, hv]
    · cases hs
  | binOp op ty x y yt => exact fit_binS hT H (ev_rel ht x) (ev_rel ht y) hs
  | unOp op ty x =>
    have hs : mUn g op (ev t x) = some e := hs
    have hx := ev_rel ht x
    unfold mUn at hs
    split at hs
    · split at hs
      · rename_i e' he
        cases hs
        unfold mNot at he
        split at he
        · rename_i b heq
          rw [heq] at hx
          cases he
          have hx : a.eval x = .bool b := hx
          refine ⟨_, rfl, .inl ?_⟩
          simp [execOp, hx, Op.unary]
        · cases he
      · unfold symNot at hs
        split at hs
        · rename_i i heq
          rw [heq] at hx
          cases hq : tlook g.T .not (.sym .bool i) (.sym .bool i) with
          | none => rw [hq] at hs; cases hs
          | some r =>
            rw [hq] at hs
            cases hs
            obtain ⟨f0, f1, f2, b, e1, e2⟩ := tlook_true hT hq
            refine ⟨cv r, rel_cv f0, .inl ?_⟩
            have hx : a.eval x = .bool b := (cv_rel f1 hx).trans e1
            simp [execOp, hx, Op.unary, e2]
        · cases hs
    · unfold symNeg at hs
      split at hs
      · rename_i k i heq
        rw [heq] at hx
        cases hq : tlook g.T (.bin .sub) (.pl (.int k 0)) (.sym (.int k) i) with
        | none => rw [hq] at hs; cases hs
        | some r =>
          rw [hq] at hs
          cases hs
          obtain ⟨f0, f1, f2, h1⟩ := tlook_true hT hq
          have h1 : TCTrue (.bin .sub) (.int k 0) (.int k (Val.I i)) (cv r) := h1
          have h2 := h1 { (default : Program) with } 0 (.const undef) (.const undef) default
          simp [guard_other, binOp, Op.intArith] at h2
          refine ⟨cv r, rel_cv f0, .inl ?_⟩
          have hx : a.eval x = .int k (Val.I i) := cv_rel f2 hx
          simp [execOp, hx, Op.unary, Op.intArith, h2]
      · cases hs
    · cases hs
  | convert s d x =>
    have hs : mConv P g h s d (ev t x) = some e := hs
    unfold mConv at hs
    split at hs
    · rename_i v hv
      cases hs
      obtain ⟨r, hr, hrun⟩ := fit_conv H (ev_rel ht x) hv
      exact fit_val hr hrun
    · split at hs
      · rename_i v hv
        cases hs
        obtain ⟨r, hr, hrun⟩ := fit_bytesStr hT H (ev_rel ht x) hv
        exact fit_val hr hrun
      · split at hs
        · rename_i e' he'
          cases hs
          exact fit_strBytes H (ev_rel ht x) he'
        · split at hs
          · rename_i e' he'
            cases hs
            exact fit_idBytes H (ev_rel ht x) he'
          · split at hs
            · rename_i v hv
              cases hs
              obtain ⟨r, hr, hrun⟩ := fit_strN hT H (ev_rel ht x) hv
              exact fit_same hr hrun
            · exact fit_symConv hT (ev_rel ht x) hs
  | makeFunc f x y =>
    cases hs
    refine ⟨.func f (x.map a.eval) (y.map a.eval), ⟨_, _, rfl, VRels_iff.2 (evL_rel ht x), VRels_iff.2 (evL_rel ht y)⟩, .inl rfl⟩
  | makeSlice ty x y => exact fit_mMake hT H (ev_rel ht x) (ev_rel ht y) hs
  | slice ty x lo hi mx => exact fit_mSliceQ hT H (ev_rel ht x) (orel_map ht lo) (orel_map ht hi) (orel_map ht mx) hs
  | index ty x i =>
    have hs : mIndex P g ty (ev t x) (ev t i) = some e := hs
    have hx := ev_rel ht x
    have hi := ev_rel ht i
    unfold mIndex at hs
    split at hs
    · rename_i s k i' h1 h2
      rw [h1] at hx
      rw [h2] at hi
      obtain ⟨v, hv, rfl⟩ := optMap hs
      obtain ⟨r, hr, hrun⟩ := fit_strIndex (E := E) (k := k) hv
      have hx : a.eval x = .string s := hx
      have hi : a.eval i = .int k i' := hi
      show Fits g.ro base w0 E h w ((vSem (Instr.index ty (a.eval x) (a.eval i))).run P w) _
      rw [hx, hi]
      exact fit_val hr (hrun w)
    · rename_i l k i' h1 h2
      rw [h1] at hx
      rw [h2] at hi
      obtain ⟨l', hx, hl⟩ := hx
      have hi : a.eval i = .int k i' := hi
      show Fits g.ro base w0 E h w ((vSem (Instr.index ty (a.eval x) (a.eval i))).run P w) _
      rw [hx, hi]
      exact fit_aggIndex (VRels_iff.1 hl) hs
    · rename_i j h1
      rw [h1] at hx
      exact fit_symIndex hT hx hi hs
    · rename_i s k j h1 h2
      rw [h1] at hx
      rw [h2] at hi
      exact fit_symIndex hT hx hi hs
    · cases hs
  | fieldAddr s x f =>
    obtain ⟨v, hv, rfl⟩ := optMap (x := mFieldAddr P s (ev t x) f) hs
    obtain ⟨r, hr, hrun⟩ := fit_mFieldAddr (ev_rel ht x) hv
    exact fit_val hr (hrun w)
  | field s x f =>
    obtain ⟨v, hv, rfl⟩ := optMap (x := fieldOp P s (ev t x) f) hs
    obtain ⟨r, hr, hrun⟩ := fit_field (ev_rel ht x) hv
    exact fit_val hr (hrun w)
  | indexAddr ty x i =>
    have hs : mIndexAddr P g ty (ev t x) (ev t i) = some e := hs
    unfold mIndexAddr at hs
    split at hs
    · rename_i v hv
      cases hs
      obtain ⟨r, hr, hrun⟩ := fit_indexAddr (ev_rel ht x) (ev_rel ht i) hv
      exact fit_val hr (hrun w)
    · exact fit_elAddrZ hT (ev_rel ht x) (ev_rel ht i) hs
  | range ty x => exact fit_range H (ev_rel ht x) hs
  | next x s => exact fit_next H (ev_rel ht x) hs
  | extract x i => exact fit_extract (ev_rel ht x) hs
  | call c => exact fit_mCall hT G H ht hs
  | _ => cases hs

theorem opC_fits (hT : TOK P g) (G : CfgOK P g) (H : HInv g.ro base w0 E h w) (ht : All2 (VRel E) t a.tmps.toList) (o : Oper) {e : Eff} (hs : orElse P o t ((memC P g o.op).f t h) = some e) :
    Fits g.ro base w0 E h w ((execOp a.eval o).run P w) e := by
  unfold orElse at hs
  split at hs
  · rename_i e' he
    cases hs
    exact memC_fits hT G H ht o he
  · refine fit_pure ht ?_
    unfold noCall at hs
    split at hs
    · rename_i f args hp
      split at hs
      · cases hs
      · rw [hp]; exact hs
    · exact hs
end
end Go.Ri

/-! A list that is put into a list of lists, by a name's number: what holds then. -/
namespace Go.Ri
open Go Go.RowKit
variable [Val]
section
variable {ro : Ro} {base : Nat} {w0 : World} {E : Env} {h : RH} {w : World}
omit [Val] in
theorem nst_set {α β : Type} {R : α → β → Prop} {x : α} {y : β} (hxy : R x y) : ∀ {l : List α} {m : List β} (q : Nat), All2 R l m → All2 R (l.set q x) (m.set q y)
  | _, _, _, .nil => .nil
  | _, _, 0, .cons _ h2 => .cons hxy h2
  | _, _, q + 1, .cons h1 h2 => .cons h1 (nst_set hxy q h2)
theorem nst_core (H : HInv ro base w0 E h w) {b b2 j k q s' : Nat} {o : RO} {e' e2 : TypeId} {p : EP} {v : Value} {ss Lo : List Value} {cur : Array Value} (hl : at? h b = some o) (ho : o.own = true) (hp : E[b]? = some p) (q2 : base ≤ p.1) (hl2 : at? h b2 = some (.lst j e2 true)) (hv : VRel E (.slN b2 j s') v) (hbb : b ≠ b2)
    {fr : Nat × Nat} (g1 : w.heap[p.1]? = some (.cells cur e' fr)) (hF : Free fr p.2) (g2 : cur.size = p.2) (g3 : cur.toList.take ss.length = ss) (g4 : All2 (Inn w s') Lo ss)
    (hinss : ∀ r, r ∈ ss.filterMap innB → r < w.heap.size ∧ base ≤ r ∧ r ≠ p.1 ∧ ∀ b' o' p', at? h b' = some o' → o'.own = true → E[b']? = some p' → p'.1 ≠ r) (hq : q < ss.length) (hLk : Val.L k = Lo.set q (.agg (Val.L j).toArray)) :
    q < cur.size ∧ v.oneCell' = true ∧ ∃ pn : EP, pn.1 = p.1 ∧ pn.2 = p.2 ∧ pn.inn[q]? = some v ∧
      HInv ro base w0 (E ++ [pn]) ((h.set b none).set b2 none ++ [some (.lstL k e' s')]) (w.setRow p.1 (cur.toList.set q v).toArray) := by
  obtain ⟨p2, hp2, hb2, hlt2, hinv, hone, hinn⟩ := own_inn H hl2 hv
  have hne : p.1 ≠ p2.1 := fun e => hbb (H.inj b b2 _ _ p p2 hl hl2 ho rfl hp hp2 e)
  have hlen : Lo.length = ss.length := g4.length
  have hback : ∀ b' o', at? ((h.set b none).set b2 none) b' = some o' → at? h b' = some o' ∧ b ≠ b' ∧ b2 ≠ b' := fun b' o' hb' => by
    by_cases e : b2 = b'
    · subst e
      have := at?_lt hb'
      rw [at?_set_same none (by simpa using this)] at hb'
      cases hb'
    · rw [at?_set_other none e] at hb'
      by_cases e2 : b = b'
      · subst e2
        have := at?_lt hb'
        rw [at?_set_same none (by simpa using this)] at hb'
        cases hb'
      · rw [at?_set_other none e2] at hb'
        exact ⟨hb', e2, e⟩
  have hnot : ∀ b' o' p', at? ((h.set b none).set b2 none) b' = some o' → E[b']? = some p' → p'.1 ≠ p.1 := fun b' o' p' hb' hp' => by
    obtain ⟨k1, k2, _⟩ := hback b' o' hb'
    exact H.killed hl hp ho b' o' p' (by rw [at?_set_other none k2]; exact k1) hp'
  have hnin : ∀ b' o' p', at? ((h.set b none).set b2 none) b' = some o' → o'.nest = true → E[b']? = some p' → p.1 ∉ p'.innP := fun b' o' p' hb' hn' hp' => by
    obtain ⟨k1, k2, _⟩ := hback b' o' hb'
    exact H.killed_in (p := p) hl hp ho b' o' p' (by rw [at?_set_other none k2]; exact k1) hn' hp'
  have hnotown2 : ∀ b' o' p', at? ((h.set b none).set b2 none) b' = some o' → o'.own = true → E[b']? = some p' → p'.1 ≠ p2.1 := fun b' o' p' hb' _ hp' => by
    obtain ⟨k1, _, k2⟩ := hback b' o' hb'
    exact H.killed hl2 hp2 rfl b' o' p' (by rw [at?_set_other none k2]; exact k1) hp'
  have hself : ∀ r, r ∈ (ss.set q v).filterMap innB → r < w.heap.size ∧ base ≤ r ∧ r ≠ p.1 ∧ ∀ b' o' p', at? ((h.set b none).set b2 none) b' = some o' → o'.own = true → E[b']? = some p' → p'.1 ≠ r := fun r hr => by
    obtain ⟨v', hv', hrb⟩ := List.mem_filterMap.1 hr
    rcases List.mem_or_eq_of_mem_set hv' with hv' | rfl
    · obtain ⟨f1, f2, f3, f5⟩ := hinss r (List.mem_filterMap.2 ⟨v', hv', hrb⟩)
      exact ⟨f1, f2, f3, fun b' o' p' hb' wo' hp' => f5 b' o' p' (hback b' o' hb').1 wo' hp'⟩
    · rw [hinv] at hrb
      cases hrb
      exact ⟨hlt2, hb2, fun e => hne e.symm, fun b' o' p' hb' wo' hp' => hnotown2 b' o' p' hb' wo' hp'⟩
  have hcs : ss.length ≤ cur.size := by
    have := congrArg List.length g3
    simp at this
    omega
  refine ⟨by omega, hone, ⟨p.1, p.2, .agg (ss.set q v).toArray, .no⟩, rfl, rfl, ?_, ?_⟩
  · show (ss.set q v)[q]? = some v
    rw [List.getElem?_set_self (by omega)]
  · have H1 := ((H.kill b).kill b2).loose hnot hnin (H.unpinnedC g1) (below_setRow w p.1 (cur.toList.set q v).toArray q2) (fun k hk _ => setRow_other w p.1 k _ hk)
    have hsz' : (w.setRow p.1 (cur.toList.set q v).toArray).heap.size = w.heap.size := by simp
    refine H1.pushN ⟨p.1, p.2, .agg (ss.set q v).toArray, .no⟩ (.lstL k e' s') rfl (fun _ r hr => by rw [hsz']; exact hself r hr) q2 hnot hnin ⟨_, ⟨fr, setRow_heap w p.1 cur _ e' _ g1, hF⟩, ?_, ?_, ?_⟩
    · rw [List.size_toArray, List.length_set, Array.length_toList]
      exact g2
    · show (cur.toList.set q v).take (Val.L k).length = ss.set q v
      rw [hLk, List.length_set, hlen, List.take_set, g3]
    · show All2 _ (Val.L k) (ss.set q v)
      rw [hLk]
      exact nst_set (hinn _ (setRow_other w p.1 p2.1 _ (fun e => hne e.symm))) q (g4.mono_mem fun a b hb => Inn.keep (p := ⟨0, 0, .agg ss.toArray, .no⟩) (fun r hr => setRow_other w p.1 r _ (hinss r hr).2.2.1) hb)
theorem nst_put (H : HInv ro base w0 E h w) {b b2 i j k q s' : Nat} {e' e2 : TypeId} {p : EP} {v : Value} (hl : at? h b = some (.lstL i e' s')) (hp : E[b]? = some p) (hl2 : at? h b2 = some (.lst j e2 true)) (hv : VRel E (.slN b2 j s') v) (hbb : b ≠ b2) (hq : q < (Val.L i).length)
    (hLk : Val.L k = (Val.L i).set q (.agg (Val.L j).toArray)) :
    ∃ cur, RowF w p.1 cur e' cur.size ∧ q < cur.size ∧ v.oneCell' = true ∧ ∃ pn : EP, pn.1 = p.1 ∧ pn.2 = p.2 ∧ pn.inn[q]? = some v ∧
      HInv ro base w0 (E ++ [pn]) ((h.set b none).set b2 none ++ [some (.lstL k e' s')]) (w.setRow p.1 (cur.toList.set q v).toArray) := by
  obtain ⟨p', q1, q2, cur, ⟨fr, g1, hF⟩, g2, g3, g4⟩ := H.blk1 b _ hl rfl
  rw [hp] at q1
  cases q1
  have hinl : p.inn.length = (Val.L i).length := g4.length.symm
  refine ⟨cur, ⟨fr, g1, by rw [g2]; exact hF⟩, nst_core H hl rfl hp q2 hl2 hv hbb g1 hF g2 (by rw [hinl]; exact g3) g4 (fun r hr => ?_) (by omega) hLk⟩
  obtain ⟨f1, f2⟩ := H.frm b _ p hl rfl hp r hr
  have f2 : base ≤ r ∧ ∀ b' o' p', at? h b' = some o' → o'.own = true → E[b']? = some p' → p'.1 ≠ r := f2
  exact ⟨f1, f2.1, fun e => f2.2 b _ p hl rfl hp e.symm, f2.2⟩
/-- The same, where no list has come yet. -/
theorem nst_put0 (H : HInv ro base w0 E h w) {b b2 i j k q s' n : Nat} {e' e2 : TypeId} {p : EP} {v : Value} (hl : at? h b = some (.lst i e' true)) (hp : E[b]? = some p) (hl2 : at? h b2 = some (.lst j e2 true)) (hv : VRel E (.slN b2 j s') v) (hbb : b ≠ b2) (hi : Val.L i = List.replicate n (.slice none 0 0)) (hq : q < n)
    (hLk : Val.L k = (List.replicate n (.agg #[])).set q (.agg (Val.L j).toArray)) :
    ∃ cur, RowF w p.1 cur e' cur.size ∧ q < cur.size ∧ v.oneCell' = true ∧ ∃ pn : EP, pn.1 = p.1 ∧ pn.2 = p.2 ∧ pn.inn[q]? = some v ∧
      HInv ro base w0 (E ++ [pn]) ((h.set b none).set b2 none ++ [some (.lstL k e' s')]) (w.setRow p.1 (cur.toList.set q v).toArray) := by
  obtain ⟨p', q1, q2, cur, fr, g1, g2, g3, g5⟩ := H.blk1 b _ hl rfl
  rw [hp] at q1
  cases q1
  have hF := g5 rfl
  rw [hi] at g3
  have hs : 0 < s' := by obtain ⟨_, _, _, hs, _⟩ := hv; exact hs
  refine ⟨cur, ⟨fr, g1, by rw [g2]; exact hF⟩, nst_core (ss := List.replicate n (.slice none 0 0)) (Lo := List.replicate n (.agg #[])) H hl rfl hp q2 hl2 hv hbb g1 hF g2 g3 ?_ (fun r hr => ?_) (by rw [List.length_replicate]; exact hq) hLk⟩
  · clear hLk hq g3 hi
    induction n with
    | zero => exact .nil
    | succ n ih => exact .cons ⟨none, 0, 0, rfl, hs, by rw [Nat.zero_mul]; rfl, Nat.le_refl _, fun h => absurd rfl h, fun a ha => by cases ha⟩ ih
  · obtain ⟨v', hv', hrb⟩ := List.mem_filterMap.1 hr
    rw [List.eq_of_mem_replicate hv'] at hrb
    cases hrb
end
omit [Val] in
theorem lnplook_mem (i n j k : Nat) : ∀ T : List LNP, lnplook T i n j = some k → ∃ e, e ∈ T ∧ e.i = i ∧ e.n = n ∧ e.j = j ∧ e.k = k
  | [], h => by cases h
  | e :: T, h => by
    have h : (match Nat.beq e.i i && Nat.beq e.n n && Nat.beq e.j j with
      | true => some e.k
      | false => lnplook T i n j) = some k := h
    split at h
    · rename_i h1
      simp only [Bool.and_eq_true] at h1
      cases h
      exact ⟨e, List.mem_cons_self, Nat.eq_of_beq_eq_true h1.1.1, Nat.eq_of_beq_eq_true h1.1.2, Nat.eq_of_beq_eq_true h1.2, rfl⟩
    · obtain ⟨e2, he, q⟩ := lnplook_mem i n j k T h
      exact ⟨e2, List.mem_cons_of_mem _ he, q⟩
section
variable {P : Program} {g : Cfg} {base : Nat} {w0 : World} {E : Env} {h : RH} {w : World} {t : List RV}
theorem nest_fin (H : HInv g.ro base w0 E h w) {b n b2 j jn sz i k : Nat} {e' : TypeId} {ty : TypeId} {p pn : EP} {v : Value} {cur : Array Value} {h' : RH} {ts : List Value} (ht : All2 (VRel E) t ts) (hn : quiet P (sizeOf ty) = some 1) (hp : E[b]? = some p) (hy : VRel E (.slN b2 j sz) v) (hy2 : VRel E (.slN b2 jn sz) v) (hLk : (Val.L k).length = (Val.L i).length)
    (hLq : (Val.L k)[(Val.I n).toNat]? = some (.agg (Val.L jn).toArray)) (g1 : RowF w p.1 cur e' cur.size) (g2 : (Val.I n).toNat < cur.size) (hone : v.oneCell' = true) (n1 : pn.1 = p.1) (n2 : pn.2 = p.2) (n3 : pn.inn[(Val.I n).toNat]? = some v) (H' : HInv g.ro base w0 (E ++ [pn]) h' (w.setRow p.1 (cur.toList.set (Val.I n).toNat v).toArray)) :
    ∃ E' w', E <+: E' ∧ (uSem (Instr.storeAt ty (.pointer (some ⟨p.1, (Val.I n).toNat * 1, none⟩)) v)).run P w = .ok .skip w' ∧ All2 (VRel E') (t.map (renR b i b2 j jn sz h.length k n)) ts ∧ HInv g.ro base w0 E' h' w' := by
  have hget : (E ++ [pn])[h.length]? = some pn := H.new_get pn
  have hpre : E <+: E ++ [pn] := List.prefix_append _ _
  have hy0 := hy2
  obtain ⟨p2, m2, hp2, hs2, hm2, hk2, hv2⟩ := hy0
  have hcell : v.cells.toList = [v] := by rw [hv2]; rfl
  obtain ⟨fr, g1, hF⟩ := g1
  have hst := store_free P p.1 (Val.I n).toNat e' fr [v] 0 cur w g1 hF (by simp; omega) (by simp [hone])
  simp only [Nat.add_zero] at hst
  have hset : cur.toList.take (Val.I n).toNat ++ [v] ++ cur.toList.drop ((Val.I n).toNat + [v].length) = cur.toList.set (Val.I n).toNat v := by
    rw [List.set_eq_take_append_cons_drop, if_pos (by simpa using g2)]
    simp
  rw [hset] at hst
  have hsz := quiet_run P _ _ hn w
  refine ⟨E ++ [pn], _, hpre, run_uSem (w' := w.setRow p.1 (cur.toList.set (Val.I n).toNat v).toArray) ?_, ?_, H'⟩
  · have hl : v.cells.size = 1 := by
      have := congrArg List.length hcell
      simpa using this
    simp only [Instr.storeAt, Instr.sureAddr, storeVar, Sem.run_bind, Sem.run_pure, Result.andThen_ok, hsz, hl]
    simp only [Nat.mul_one, hcell, ne_eq, not_true_eq_false, if_false]
    first | exact hst | (simp [hst])
  · have one : ∀ r x, VRel E r x → VRel (E ++ [pn]) (renR b i b2 j jn sz h.length k n r) x := fun r x hr => by
      unfold renR
      split
      · rename_i a1 a2 a3
        split
        · rename_i hc1
          simp only [Bool.and_eq_true] at hc1
          obtain rfl := Nat.eq_of_beq_eq_true hc1.1.1
          obtain rfl := Nat.eq_of_beq_eq_true hc1.1.2
          obtain rfl := Nat.eq_of_beq_eq_true hc1.2
          obtain ⟨p', m, hp', hs, hm, hk, rfl⟩ := hr
          rw [hp] at hp'
          cases hp'
          exact ⟨pn, m, hget, hs, hLk.trans hm, by rw [n2]; exact hk, by rw [n1, n2]⟩
        · split
          · rename_i hc2
            simp only [Bool.and_eq_true] at hc2
            obtain rfl := Nat.eq_of_beq_eq_true hc2.1.1
            obtain rfl := Nat.eq_of_beq_eq_true hc2.1.2
            obtain rfl := Nat.eq_of_beq_eq_true hc2.2
            have e := VRel.fn _ x v hr hy
            rw [e]
            refine ⟨pn, _, m2, _, hget, n3, ?_, hs2, hm2, fun _ => ⟨_, rfl⟩, hv2⟩
            exact hLq
          · exact VRel.ext hpre _ _ hr
      · exact VRel.ext hpre _ _ hr
    have all : ∀ {l : List RV} {us : List Value}, All2 (VRel E) l us → All2 (VRel (E ++ [pn])) (l.map (renR b i b2 j jn sz h.length k n)) us := fun {l us} hh => by
      induction hh with
      | nil => exact .nil
      | cons h1 _ ih => exact .cons (one _ _ h1) ih
    exact all ht
theorem nestPut_ok (hT : TOK P g) (H : HInv g.ro base w0 E h w) {ty : TypeId} {x y : RV} {u v : Value} {s' : St} {ts : List Value} (ht : All2 (VRel E) t ts) (hx : VRel E x u) (hy : VRel E y v) (hs : nestPut P g t h ty x y = some s') :
    ∃ E' w', E <+: E' ∧ (uSem (Instr.storeAt ty u v)).run P w = .ok .skip w' ∧ All2 (VRel E') s'.t ts ∧ HInv g.ro base w0 E' s'.h w' := by
  unfold nestPut at hs
  split at hs
  · rename_i b n b2 j sz hn
    split at hs
    · rename_i i e' s1 j' e2 hl hl2
      split at hs
      · rename_i hc
        simp only [Bool.and_eq_true, Bool.not_eq_true'] at hc
        obtain ⟨⟨hj, hsz⟩, hbb⟩ := hc
        have hy2 := eqLen_rel hT hj hy
        obtain rfl := Nat.eq_of_beq_eq_true hsz
        have hbb : b ≠ b2 := fun e => by rw [e, Nat.beq_refl] at hbb; cases hbb
        cases hq : lnplook g.LNW i n j' with
        | none => rw [hq] at hs; cases hs
        | some k =>
          rw [hq] at hs
          simp only [fList_eq _ (fun x k => fRV_eq x k), fSpine_eq] at hs
          cases hs
          obtain ⟨en, hen, rfl, rfl, rfl, rfl⟩ := lnplook_mem _ _ _ _ _ hq
          obtain ⟨hlt, hL⟩ := hT.lnw en hen
          rw [lkp_eq] at hl hl2
          obtain ⟨p, hp, rfl⟩ := hx
          obtain ⟨cur, g1, g2, hone, pn, n1, n2, n3, H'⟩ := nst_put H hl hp hl2 hy2 hbb hlt hL
          have e1 : (Val.L en.k).length = (Val.L en.i).length := by rw [hL, List.length_set]
          exact nest_fin H ht hn hp hy hy2 e1 (by rw [hL, List.getElem?_set_self hlt]) g1 g2 hone n1 n2 n3 H'
      · cases hs
    · rename_i i e' j' e2 hl hl2
      split at hs
      · rename_i hc
        simp only [Bool.and_eq_true, Bool.not_eq_true'] at hc
        obtain ⟨hj, hbb⟩ := hc
        have hy2 := eqLen_rel hT hj hy
        have hbb : b ≠ b2 := fun e => by rw [e, Nat.beq_refl] at hbb; cases hbb
        cases hq : lnplook g.LNV i n j' with
        | none => rw [hq] at hs; cases hs
        | some k =>
          rw [hq] at hs
          simp only [fList_eq _ (fun x k => fRV_eq x k), fSpine_eq] at hs
          cases hs
          obtain ⟨en, hen, rfl, rfl, rfl, rfl⟩ := lnplook_mem _ _ _ _ _ hq
          obtain ⟨m, hm, hlt, hL⟩ := hT.lnv en hen
          rw [lkp_eq] at hl hl2
          obtain ⟨p, hp, rfl⟩ := hx
          obtain ⟨cur, g1, g2, hone, pn, n1, n2, n3, H'⟩ := nst_put0 H hl hp hl2 hy2 hbb hm hlt hL
          have e1 : (Val.L en.k).length = (Val.L en.i).length := by rw [hL, List.length_set, hm, List.length_replicate, List.length_replicate]
          exact nest_fin H ht hn hp hy hy2 e1 (by rw [hL, List.getElem?_set_self (by rw [List.length_replicate]; exact hlt)]) g1 g2 hone n1 n2 n3 H'
      · cases hs
    · cases hs
  · cases hs
end
end Go.Ri

/-! Two states that differ in how their blocks are numbered: what holds of the one holds of the other. -/
namespace Go.Ri
open Go Go.RowKit
theorem sameL_eq {α : Type} {f : α → α → Bool} (hf : ∀ x y, f x y = true → x = y) : ∀ (l m : List α), sameL f l m = true → l = m
  | [], [], _ => rfl
  | [], _ :: _, h => by cases h
  | _ :: _, [], h => by cases h
  | x :: l, y :: m, h => by
    simp only [sameL, Bool.and_eq_true] at h
    rw [hf x y h.1, sameL_eq hf l m h.2]
theorem toList_nil {α : Type} {a : Array α} (h : a.toList.isEmpty = true) : a = #[] := by
  apply Array.ext'
  simpa using h
theorem bytes_eq {a b : ByteArray} (h : (a.data.toList == b.data.toList) = true) : a = b := by
  apply ByteArray.ext
  apply Array.ext'
  simpa using h
theorem sameA_eq (u v : Value) (h : sameA u v = true) : u = v := by
  unfold sameA at h
  split at h
  · simp at h; rw [h]
  · simp at h; rw [h.1, h.2]
  · rw [bytes_eq h]
  · rfl
  · simp at h; rw [h.1, h.2]
  · simp at h; rw [h.1, h.2]
  · rfl
  · rfl
  · simp only [Bool.and_eq_true] at h
    obtain ⟨⟨⟨⟨h1, h2⟩, h3⟩, h4⟩, h5⟩ := h
    rw [toList_nil h2, toList_nil h3, toList_nil h4, toList_nil h5]
    simp at h1
    rw [h1]
  · cases h
theorem sameV1_eq (u v : Value) (h : sameV1 u v = true) : u = v := by
  unfold sameV1 at h
  split at h
  · rw [Array.toList_inj.1 (sameL_eq sameA_eq _ _ h)]
  · exact sameA_eq _ _ h
theorem sameV_eq (u v : Value) (h : sameV u v = true) : u = v := by
  unfold sameV at h
  split at h
  · rw [Array.toList_inj.1 (sameL_eq sameV1_eq _ _ h)]
  · exact sameV1_eq _ _ h
theorem sameR0_eq (x y : RV) (h : sameR0 x y = true) : x = y := by
  unfold sameR0 at h
  split at h
  · rw [sameV_eq _ _ h]
  · simp at h; rw [h.1, h.2]
  · simp at h; rw [h.1.1, h.1.2, h.2]
  · simp at h; rw [h.1, h.2]
  · simp at h
    obtain ⟨⟨⟨⟨h1, h2⟩, h3⟩, h4⟩, h5⟩ := h
    rw [h1, h2, h3, h4, h5]
  · simp at h; rw [h.1.1, h.1.2, h.2]
  · simp at h; rw [h.1.1, h.1.2, h.2]
  · simp at h; rw [h.1.1, h.1.2, h.2]
  · simp at h; rw [h.1.1.1, h.1.1.2, h.1.2, h.2]
  · simp at h; rw [h.1.1.1, h.1.1.2, h.1.2, h.2]
  · simp at h
    obtain ⟨⟨⟨⟨h1, h2⟩, h3⟩, h4⟩, h5⟩ := h
    rw [h1, h2, h3, h4, h5]
  · simp at h
    obtain ⟨⟨⟨⟨⟨h1, h2⟩, h3⟩, h4⟩, h5⟩, h6⟩ := h
    rw [h1, h2, h3, h4, h5, h6]
  · simp at h; rw [h.1, h.2]
  · simp at h
    obtain ⟨⟨⟨⟨h1, h2⟩, h3⟩, h4⟩, h5⟩ := h
    rw [h1, h2, h3, h4, h5]
  · simp at h; rw [h]
  · simp at h; rw [h]
  · simp at h; rw [h.1, h.2]
  · cases h
theorem sameR1_eq (x y : RV) (h : sameR1 x y = true) : x = y := by
  unfold sameR1 at h
  split at h
  · simp only [Bool.and_eq_true] at h
    obtain ⟨⟨h1, h2⟩, h3⟩ := h
    rw [sameL_eq sameR0_eq _ _ h2, sameL_eq sameR0_eq _ _ h3]
    simp at h1
    rw [h1]
  · rw [sameL_eq sameR0_eq _ _ h]
  · exact sameR0_eq _ _ h
theorem sameR_eq (x y : RV) (h : sameR x y = true) : x = y := by
  unfold sameR at h
  split at h
  · rw [sameL_eq sameR1_eq _ _ h]
  · exact sameR1_eq _ _ h
theorem sameO_eq (x y : Option RO) (h : sameO x y = true) : x = y := by
  unfold sameO at h
  split at h
  · rfl
  · simp only [Bool.and_eq_true, beq_iff_eq] at h
    obtain ⟨⟨⟨h1, h2⟩, h3⟩, h4⟩ := h
    rw [sameL_eq sameR_eq _ _ h1, h2, h3, h4]
  · simp only [Bool.and_eq_true, beq_iff_eq] at h
    rw [sameL_eq sameR_eq _ _ h.1, h.2]
  · simp only [Bool.and_eq_true, beq_iff_eq] at h
    rw [h.1.1, h.1.2, h.2]
  · simp only [beq_iff_eq] at h
    rw [h]
  · simp only [Bool.and_eq_true, beq_iff_eq] at h
    rw [h.1.1, h.1.2, h.2]
  · simp only [Bool.and_eq_true, beq_iff_eq] at h
    rw [h.1.1, h.1.2, h.2]
  · simp only [Bool.and_eq_true, beq_iff_eq] at h
    rw [h.1, h.2]
  · simp only [Bool.and_eq_true] at h
    rw [bytes_eq h.1]
    have := h.2
    simp at this
    rw [this]
  · simp only [Bool.and_eq_true, beq_iff_eq, decide_eq_true_eq] at h
    rw [h.1, h.2]
  · cases h
theorem sameSt_eq (x y : St) (h : sameSt x y = true) : x = y := by
  unfold sameSt at h
  simp only [Bool.and_eq_true] at h
  obtain ⟨t, h'⟩ := x
  obtain ⟨t2, h2⟩ := y
  have e1 : t = t2 := sameL_eq sameR_eq _ _ h.1
  have e2 : h' = h2 := sameL_eq sameO_eq _ _ h.2
  rw [e1, e2]

theorem pmL_spec {f : RV → RV → Bool} : ∀ (l m : List RV), sameL f l m = true → All2 (fun x y => f x y = true) l m
  | [], [], _ => .nil
  | [], _ :: _, h => by cases h
  | _ :: _, [], h => by cases h
  | x :: l, y :: m, h => by
    have h : (f x y && sameL f l m) = true := h
    simp only [Bool.and_eq_true] at h
    exact .cons h.1 (pmL_spec l m h.2)
theorem rk_spec {R : List Nat} {b c : Nat} (h : rk R b c = true) : R[b]? = some c := by
  unfold rk at h
  split at h
  · rename_i x hx
    rw [hx, eq_of_beq h]
  · cases h
theorem noDup_spec : ∀ (R : List Nat), noDup R = true → ∀ b b' c : Nat, R[b]? = some c → R[b']? = some c → b = b'
  | [], _, b, b', c, h, _ => by simp at h
  | x :: R, h, b, b', c, h1, h2 => by
    have h : (!(R.contains x) && noDup R) = true := h
    simp only [Bool.and_eq_true, Bool.not_eq_true'] at h
    have hno : ∀ y, y ∈ R → x ≠ y := fun y hy e => by
      have := h.1
      rw [List.contains_eq_mem, e] at this
      exact absurd hy (of_decide_eq_false this)
    cases b with
    | zero => cases b' with
      | zero => rfl
      | succ b' =>
        simp at h1 h2
        exact absurd h1 (hno c (List.mem_of_getElem? h2))
    | succ b => cases b' with
      | zero =>
        simp at h1 h2
        exact absurd h2 (hno c (List.mem_of_getElem? h1))
      | succ b' =>
        simp at h1 h2
        rw [noDup_spec R h.2 b b' c h1 h2]
def pkE (R : List Nat) (E : Env) : Env := R.map fun x => E.getD x ⟨0, 0, undef, .no⟩
theorem pk_get {R : List Nat} {E : Env} {b c : Nat} {p : EP} (hb : R[b]? = some c) (hp : E[c]? = some p) : (pkE R E)[b]? = some p := by
  unfold pkE
  rw [List.getElem?_map, hb]
  simp [List.getD_eq_getElem?_getD, hp]
theorem pk_take {R : List Nat} {E : Env} {n : Nat} (h : R.take n = List.range n) (hn : n ≤ E.length) : (pkE R E).take n = E.take n := by
  unfold pkE
  rw [← List.map_take, h]
  apply List.ext_getElem?
  intro j
  rw [List.getElem?_map, List.getElem?_take]
  by_cases hj : j < n
  · rw [List.getElem?_range hj, if_pos hj]
    simp [List.getD_eq_getElem?_getD, List.getElem?_eq_getElem (Nat.lt_of_lt_of_le hj hn)]
  · rw [if_neg hj]
    simp [Nat.le_of_not_lt hj]
variable [Val]
section
variable {R : List Nat} {E : Env}
theorem pm0_ok {x y : RV} {v : Value} (h : pm0 R x y = true) (hx : VRel E x v) : VRel (pkE R E) y v := by
  unfold pm0 at h
  split at h
  · rw [← sameV_eq _ _ h]; exact hx
  · simp at h; rw [← h.1, ← h.2]; exact hx
  · simp only [Bool.and_eq_true, beq_iff_eq] at h
    obtain ⟨⟨h1, rfl⟩, rfl⟩ := h
    obtain ⟨p, hp, q⟩ := hx
    exact ⟨p, pk_get (rk_spec h1) hp, q⟩
  · simp only [Bool.and_eq_true, beq_iff_eq] at h
    obtain ⟨h1, rfl⟩ := h
    obtain ⟨p, hp, q⟩ := hx
    exact ⟨p, pk_get (rk_spec h1) hp, q⟩
  · simp only [Bool.and_eq_true, beq_iff_eq] at h
    obtain ⟨⟨⟨⟨h1, rfl⟩, rfl⟩, rfl⟩, rfl⟩ := h
    obtain ⟨p, k, hp, q⟩ := hx
    exact ⟨p, k, pk_get (rk_spec h1) hp, q⟩
  · simp only [Bool.and_eq_true, beq_iff_eq] at h
    obtain ⟨⟨h1, rfl⟩, rfl⟩ := h
    obtain ⟨p, n, hp, q⟩ := hx
    exact ⟨p, n, pk_get (rk_spec h1) hp, q⟩
  · simp only [Bool.and_eq_true, beq_iff_eq] at h
    obtain ⟨⟨h1, rfl⟩, rfl⟩ := h
    obtain ⟨p, a, n, cap, hp, q⟩ := hx
    exact ⟨p, a, n, cap, pk_get (rk_spec h1) hp, q⟩
  · simp only [Bool.and_eq_true, beq_iff_eq] at h
    obtain ⟨⟨h1, rfl⟩, rfl⟩ := h
    obtain ⟨p, a, n, cap, hp, q⟩ := hx
    exact ⟨p, a, n, cap, pk_get (rk_spec h1) hp, q⟩
  · simp only [Bool.and_eq_true, beq_iff_eq] at h
    obtain ⟨⟨⟨h1, rfl⟩, rfl⟩, rfl⟩ := h
    obtain ⟨p, hp, q⟩ := hx
    exact ⟨p, pk_get (rk_spec h1) hp, q⟩
  · simp only [Bool.and_eq_true, beq_iff_eq] at h
    obtain ⟨⟨⟨h1, rfl⟩, rfl⟩, rfl⟩ := h
    obtain ⟨p, a, n, cap, hp, q⟩ := hx
    exact ⟨p, a, n, cap, pk_get (rk_spec h1) hp, q⟩
  · simp only [Bool.and_eq_true, beq_iff_eq] at h
    obtain ⟨h1, rfl⟩ := h
    obtain ⟨p, hp, q⟩ := hx
    exact ⟨p, pk_get (rk_spec h1) hp, q⟩
  · simp at h; rw [← h]; exact hx
  · obtain ⟨p, hp, q⟩ := hx
    exact ⟨p, pk_get (rk_spec h) hp, q⟩
  · simp only [Bool.and_eq_true, beq_iff_eq] at h
    obtain ⟨h1, rfl⟩ := h
    obtain ⟨p, hp, q⟩ := hx
    exact ⟨p, pk_get (rk_spec h1) hp, q⟩
  · cases h
theorem pms_ok {f : RV → RV → Bool} (hf : ∀ x y v, f x y = true → VRel E x v → VRel (pkE R E) y v) : ∀ {l m : List RV} {vs : List Value}, sameL f l m = true → All2 (VRel E) l vs → All2 (VRel (pkE R E)) m vs
  | [], [], _, _, h => by cases h; exact .nil
  | [], _ :: _, _, h, _ => by cases h
  | _ :: _, [], _, h, _ => by cases h
  | x :: l, y :: m, _, h, hx => by
    have h : (f x y && sameL f l m) = true := h
    simp only [Bool.and_eq_true] at h
    cases hx with
    | cons h1 h2 => exact .cons (hf _ _ _ h.1 h1) (pms_ok hf h.2 h2)
theorem pm1_ok {x y : RV} {v : Value} (h : pm1 R x y = true) (hx : VRel E x v) : VRel (pkE R E) y v := by
  unfold pm1 at h
  split at h
  · simp only [Bool.and_eq_true, beq_iff_eq] at h
    obtain ⟨⟨rfl, h1⟩, h2⟩ := h
    obtain ⟨a', c', hv, ha, hc⟩ := hx
    exact ⟨a', c', hv, VRels_iff.2 (pms_ok (fun _ _ _ => pm0_ok) h1 (VRels_iff.1 ha)), VRels_iff.2 (pms_ok (fun _ _ _ => pm0_ok) h2 (VRels_iff.1 hc))⟩
  · obtain ⟨l', hv, hl⟩ := hx
    exact ⟨l', hv, VRels_iff.2 (pms_ok (fun _ _ _ => pm0_ok) h (VRels_iff.1 hl))⟩
  · exact pm0_ok h hx
theorem pm2_ok {x y : RV} {v : Value} (h : pm2 R x y = true) (hx : VRel E x v) : VRel (pkE R E) y v := by
  unfold pm2 at h
  split at h
  · obtain ⟨l', hv, hl⟩ := hx
    exact ⟨l', hv, VRels_iff.2 (pms_ok (fun _ _ _ => pm1_ok) h (VRels_iff.1 hl))⟩
  · exact pm1_ok h hx
omit [Val] in
theorem pmL_len {f : RV → RV → Bool} : ∀ {l m : List RV}, sameL f l m = true → l.length = m.length
  | [], [], _ => rfl
  | [], _ :: _, h => by cases h
  | _ :: _, [], h => by cases h
  | x :: l, y :: m, h => by
    have h : (f x y && sameL f l m) = true := h
    simp only [Bool.and_eq_true] at h
    rw [List.length_cons, List.length_cons, pmL_len h.2]
theorem pmO_ok {o q : RO} {p : EP} {w : World} (hm : pmO R (some o) (some q) = true) (hr : BRel E p w o) : BRel (pkE R E) p w q ∧ q.own = o.own ∧ q.nest = o.nest := by
  unfold pmO at hm
  split at hm
  · rename_i h; cases h
  · rename_i l e r f l' e' r' f' h1 h2
    cases h1; cases h2
    simp only [Bool.and_eq_true, beq_iff_eq] at hm
    obtain ⟨⟨⟨h1, rfl⟩, rfl⟩, rfl⟩ := hm
    obtain ⟨cur, fr, g1, g2, g3, g4, g5⟩ := hr
    have hl := pmL_len h1
    refine ⟨⟨cur, fr, g1, g2, ?_, fun h => by rw [← hl]; exact g4 h, g5⟩, rfl, rfl⟩
    rw [← hl]
    exact pms_ok (fun _ _ _ => pm1_ok) h1 g3
  · rename_i h1 h2
    cases h1; cases h2
    simp only [Bool.and_eq_true, beq_iff_eq] at hm
    obtain ⟨h1, rfl⟩ := hm
    obtain ⟨cur, fr, g1, g2, g3⟩ := hr
    have hl := pmL_len h1
    refine ⟨⟨cur, fr, g1, g2, ?_⟩, rfl, rfl⟩
    rw [← hl]
    exact pms_ok (fun _ _ _ => pm1_ok) h1 g3
  · rename_i h1 h2
    cases h1; cases h2
    simp only [Bool.and_eq_true, beq_iff_eq] at hm
    obtain ⟨⟨rfl, rfl⟩, rfl⟩ := hm
    exact ⟨hr, rfl, rfl⟩
  · rename_i h1 h2
    cases h1; cases h2
    simp only [beq_iff_eq] at hm
    subst hm
    exact ⟨hr, rfl, rfl⟩
  · rename_i h1 h2
    cases h1; cases h2
    simp only [Bool.and_eq_true, beq_iff_eq] at hm
    obtain ⟨⟨rfl, rfl⟩, rfl⟩ := hm
    exact ⟨hr, rfl, rfl⟩
  · rename_i h1 h2
    cases h1; cases h2
    simp only [Bool.and_eq_true, beq_iff_eq] at hm
    obtain ⟨⟨rfl, rfl⟩, rfl⟩ := hm
    exact ⟨hr, rfl, rfl⟩
  · rename_i h1 h2
    cases h1; cases h2
    simp only [Bool.and_eq_true, beq_iff_eq] at hm
    obtain ⟨rfl, rfl⟩ := hm
    exact ⟨hr, rfl, rfl⟩
  · rename_i h1 h2
    cases h1; cases h2
    simp only [Bool.and_eq_true] at hm
    obtain ⟨h1, h2⟩ := hm
    rw [beq_iff_eq] at h2
    rw [← h2, ← bytes_eq h1]
    exact ⟨hr, rfl, rfl⟩
  · rename_i h1 h2
    cases h1; cases h2
    simp only [Bool.and_eq_true, beq_iff_eq, decide_eq_true_eq] at hm
    obtain ⟨rfl, rfl⟩ := hm
    exact ⟨hr, rfl, rfl⟩
  · cases hm
omit [Val] in
theorem pmH_get {h : RH} : ∀ (L : List Nat) (m : RH), pmH R h L m = true → L.length = m.length ∧ ∀ (b : Nat) q, at? m b = some q → ∃ c, L[b]? = some c ∧ pmO R (at? h c) (some q) = true
  | [], [], _ => ⟨rfl, fun b q hq => by simp [at?] at hq⟩
  | [], _ :: _, h => by cases h
  | _ :: _, [], h => by cases h
  | x :: l, y :: m, hh => by
    have hh : (pmO R (match h[x]? with | some o => o | none => none) y && pmH R h l m) = true := hh
    simp only [Bool.and_eq_true] at hh
    obtain ⟨h1, h2⟩ := pmH_get l m hh.2
    refine ⟨by simp [h1], fun b q hq => ?_⟩
    cases b with
    | zero =>
      have hq : y = some q := by simpa [at?] using hq
      subst hq
      refine ⟨x, by simp, ?_⟩
      have e : at? h x = (match h[x]? with | some o => o | none => none) := by
        unfold at?
        cases h[x]? <;> rfl
      rw [e]
      exact hh.1
    | succ b =>
      obtain ⟨c, h3, h4⟩ := h2 b q (by simpa [at?] using hq)
      exact ⟨c, by simpa using h3, h4⟩
omit [Val] in
theorem pk_pin {w : World} (hp : ∀ (i : Nat) p, E[i]? = some p → PinOK w p) : ∀ (i : Nat) q, (pkE R E)[i]? = some q → PinOK w q := by
  intro i q hq
  unfold pkE at hq
  rw [List.getElem?_map] at hq
  cases hx : R[i]? with
  | none => rw [hx] at hq; cases hq
  | some x =>
    rw [hx] at hq
    have hq : E.getD x ⟨0, 0, undef, .no⟩ = q := Option.some.inj hq
    rw [List.getD_eq_getElem?_getD] at hq
    cases he : E[x]? with
    | none => rw [he] at hq; subst hq; exact trivial
    | some p => rw [he] at hq; subst hq; exact hp x p he
theorem pmH_inv {ro : Ro} {base : Nat} {w0 w : World} {h p : RH} (hn : noDup R = true) (hm : pmH R h R p = true) (H : HInv ro base w0 E h w) : HInv ro base w0 (pkE R E) p w := by
  obtain ⟨hlen, hget⟩ := pmH_get _ _ hm
  have back : ∀ b q, at? p b = some q → ∃ c o, R[b]? = some c ∧ at? h c = some o ∧ pmO R (some o) (some q) = true := by
    intro b q hb
    obtain ⟨c, hc, this⟩ := hget b q hb
    cases ho : at? h c with
    | none =>
      rw [ho] at this
      cases q <;> cases this
    | some o =>
      rw [ho] at this
      exact ⟨c, o, hc, ho, this⟩
  refine ⟨H.below, H.lb, by simp [pkE, hlen], H.ro, fun b q hb => ?_, fun b b' q q' k k' hb hb' v1 v2 e1 e2 e3 => ?_, fun b q k hb hn2 hk x hx => ?_, fun i q hq => pk_pin H.pin i q hq⟩
  rotate_right
  · obtain ⟨c, o, hc, ho, hmo⟩ := back b q hb
    obtain ⟨k1, g1, _, g3⟩ := H.blk c o ho
    obtain ⟨_, w1, wn⟩ := pmO_ok hmo g3
    rw [pk_get hc g1] at hk
    cases hk
    obtain ⟨f1, f2⟩ := H.frm c o _ ho (wn ▸ hn2) g1 x hx
    refine ⟨f1, ?_⟩
    rw [w1]
    split
    · rename_i how
      rw [if_pos how] at f2
      refine ⟨f2.1, fun b' q' k' hb' v2 e2 => ?_⟩
      obtain ⟨c', o', hc', ho', hmo'⟩ := back b' q' hb'
      obtain ⟨k2, g1', _, g3'⟩ := H.blk c' o' ho'
      have w2 := (pmO_ok hmo' g3').2.1
      rw [pk_get hc' g1'] at e2
      cases e2
      exact f2.2 c' o' _ ho' (w2 ▸ v2) g1'
    · rename_i how
      rwa [if_neg how] at f2
  · obtain ⟨c, o, hc, ho, hmo⟩ := back b q hb
    obtain ⟨k, h1, h2, h3⟩ := H.blk c o ho
    obtain ⟨h4, h5, _⟩ := pmO_ok hmo h3
    exact ⟨k, pk_get hc h1, by rw [h5]; exact h2, h4⟩
  · obtain ⟨c, o, hc, ho, hmo⟩ := back b q hb
    obtain ⟨c', o', hc', ho', hmo'⟩ := back b' q' hb'
    obtain ⟨k1, g1, _, g3⟩ := H.blk c o ho
    obtain ⟨k2, g1', _, g3'⟩ := H.blk c' o' ho'
    have w1 := (pmO_ok hmo g3).2.1
    have w2 := (pmO_ok hmo' g3').2.1
    rw [pk_get hc g1] at e1
    rw [pk_get hc' g1'] at e2
    cases e1
    cases e2
    have hcc := H.inj c c' o o' _ _ ho ho' (w1 ▸ v1) (w2 ▸ v2) g1 g1' e3
    subst hcc
    exact noDup_spec R hn b b' c hc hc'
end
end Go.Ri
