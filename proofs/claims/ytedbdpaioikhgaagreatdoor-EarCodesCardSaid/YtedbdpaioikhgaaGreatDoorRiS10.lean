/- An interpreter for calls whose arguments are closed or names, and its soundness: a part of the proofs. -/
import Derived.Test.YtedbdpaioikhgaaGreatDoorRiSy
namespace Go.Ri
open Go Go.RowKit
variable [Val]

section
variable {P : Program} {g : Cfg} {ro : Ro} {base : Nat} {w0 : World} {E : Env} {h : RH} {w : World} {t : List RV} {a : Act}

theorem fit_binII {op : BinOp} {ty : TypeId} {k k' : IntKind} {m n : Int} {a b : Operand} {e : Eff} (hs : binII op k m k' n = some e) :
    Fits ro base w0 E h w ((vSem (do eqGuard op ty a b (.int k m) (.int k' n); binOp op ty (.int k m) (.int k' n))).run P w) e := by
  unfold binII at hs
  split at hs
  · rename_i hk
    subst hk
    have hg : ∀ op, (eqGuard op ty a b (.int k m) (.int k n)).run P w = .ok () w := fun op => guard_other (by simp) (by simp) w
    cases hq : fastInt op k m n with
    | none => rw [hq] at hs; cases hs
    | some r =>
      rw [hq] at hs
      cases hs
      unfold fastInt at hq
      split at hq <;> cases hq <;> exact ⟨_, rfl, .inl (run_vSem (by simp [hg, binOp, Op.intArith, Op.intCmp]))⟩
  · cases hs

theorem fit_fastBool {op : BinOp} {ty : TypeId} {p q : Bool} {a b : Operand} {e : Eff} (hs : fastBool P op ty p q = some e) :
    Fits ro base w0 E h w ((vSem (do eqGuard op ty a b (.bool p) (.bool q); binOp op ty (.bool p) (.bool q))).run P w) e := by
  have hg : ∀ op, (eqGuard op ty a b (.bool p) (.bool q)).run P w = .ok () w := fun op => guard_other (by simp) (by simp) w
  unfold fastBool at hs
  split at hs
  · rename_i hu
    cases hs
    have h1 : binOp .eql ty (.bool p) (.bool q) = (do let r ← Op.equal ty (.bool p) (.bool q); pure (.bool r)) := rfl
    exact ⟨_, rfl, .inl (run_vSem (by simp [hg, h1, run_equal_bool w ty p q hu]))⟩
  · rename_i hu
    cases hs
    have h1 : binOp .neq ty (.bool p) (.bool q) = (do let r ← Op.equal ty (.bool p) (.bool q); pure (.bool !r)) := rfl
    exact ⟨_, rfl, .inl (run_vSem (by simp [hg, h1, run_equal_bool w ty p q hu]))⟩
  · cases hs

theorem fit_binSS {op : BinOp} {ty : TypeId} {p q : ByteArray} {a b : Operand} {e : Eff} (hs : binSS op p q = some e) :
    Fits ro base w0 E h w ((vSem (do eqGuard op ty a b (.string p) (.string q); binOp op ty (.string p) (.string q))).run P w) e := by
  have hg : ∀ op, (eqGuard op ty a b (.string p) (.string q)).run P w = .ok () w := fun op => guard_other (by simp) (by simp) w
  have hb : ∀ op, op ≠ .shl → op ≠ .shr → binOp op ty (.string p) (.string q) = Op.stringOp op p q := fun op h1 h2 => by cases op <;> first | rfl | exact absurd rfl h1 | exact absurd rfl h2
  unfold binSS at hs
  cases hq : fastStr op p q with
  | none => rw [hq] at hs; cases hs
  | some r =>
    rw [hq] at hs
    cases hs
    unfold fastStr at hq
    split at hq
    · cases hq
      refine ⟨_, rfl, .inl (run_vSem ?_)⟩
      rw [eqB_eq, ← ByteArray.toList_eq, ← ByteArray.toList_eq]
      simp [hg, hb, Op.stringOp]
    · cases hq
      refine ⟨_, rfl, .inl (run_vSem ?_)⟩
      rw [eqB_eq, ← ByteArray.toList_eq, ← ByteArray.toList_eq]
      simp [hg, hb, Op.stringOp]
    · split at hq
      · rename_i hle
        cases hq
        rw [lenB_eq, lenB_eq] at hle
        have hle' : p.size + q.size ≤ 1000000000 := hle
        refine ⟨_, rfl, .inl (run_vSem ?_)⟩
        have hmax : IntKind.i64.max = 9223372036854775807 := rfl
        have hno : ¬ (9223372036854775807 < (p.size : Int) + (q.size : Int)) := by omega
        rw [appB_eq]
        simp [hg, hb, Op.stringOp, hmax, hno]
        apply ByteArray.ext
        rw [ByteArray.data_append]
        apply Array.ext'
        simp
      · cases hq
    · cases hq

theorem fit_binAA {op : BinOp} {ty : TypeId} {xs ys : Array Value} {a b : Operand} {e : Eff} (hs : binAA P op ty xs ys = some e) :
    Fits ro base w0 E h w ((vSem (do eqGuard op ty a b (.agg xs) (.agg ys); binOp op ty (.agg xs) (.agg ys))).run P w) e := by
  unfold binAA at hs
  cases hq : fastAgg P op ty xs ys with
  | none => rw [hq] at hs; cases hs
  | some r =>
    rw [hq] at hs
    cases hs
    unfold fastAgg at hq
    split at hq
    · cases hq
    · rename_i hgt
      have hg := fun op => run_eqGuard_agg (P := P) w op ty a b xs ys (by simpa using hgt)
      split at hq
      · cases hv : eqV P 8 ty (.agg xs) (.agg ys) with
        | none => rw [hv] at hq; cases hq
        | some q =>
          rw [hv] at hq
          cases hq
          have he : (Op.equalIn 10000 ty (.agg xs) (.agg ys)).run P w = .ok q w := eqV_run 8 9992 _ _ _ _ hv w
          refine ⟨_, rfl, .inl (run_vSem ?_)⟩
          simp only [Sem.run_bind, hg, Result.andThen_ok, run_eql_struct, he]
      · cases hv : eqV P 8 ty (.agg xs) (.agg ys) with
        | none => rw [hv] at hq; cases hq
        | some q =>
          rw [hv] at hq
          cases hq
          have he : (Op.equalIn 10000 ty (.agg xs) (.agg ys)).run P w = .ok q w := eqV_run 8 9992 _ _ _ _ hv w
          refine ⟨_, rfl, .inl (run_vSem ?_)⟩
          simp only [Sem.run_bind, hg, Result.andThen_ok, run_neq_struct, he]
      · cases hq

theorem fit_bin (H : HInv ro base w0 E h w) {op : BinOp} {ty : TypeId} {x y : RV} {u v : Value} {a b : Operand} {e : Eff} (hx : VRel E x u) (hy : VRel E y v) (hs : mBin P op ty x y = some e) :
    Fits ro base w0 E h w ((vSem (do eqGuard op ty a b u v; binOp op ty u v)).run P w) e := by
  unfold mBin at hs
  split at hs
  · cases hx; cases hy; exact fit_binII hs
  · cases hx; cases hy; exact fit_fastBool hs
  · cases hx; cases hy; exact fit_binSS hs
  · cases hx; cases hy; exact fit_binAA hs
  · exact fit_ref H hx hy hs

theorem fit_symBin (hT : TOK g) (_ : HInv ro base w0 E h w) {op : BinOp} {ty : TypeId} {x y : RV} {u v : Value} {a b : Operand} {e : Eff} (hx : VRel E x u) (hy : VRel E y v) (hs : symBin P g op ty x y = some e) :
    Fits ro base w0 E h w ((vSem (do eqGuard op ty a b u v; binOp op ty u v)).run P w) e := by
  have hint : ∀ (k : IntKind) (m n : Int) (op : BinOp), (eqGuard op ty a b (.int k m) (.int k n)).run P w = .ok () w := fun k m n op => guard_other (by simp) (by simp) w
  have hbool : ∀ (m n : Bool) (op : BinOp), (eqGuard op ty a b (.bool m) (.bool n)).run P w = .ok () w := fun m n op => guard_other (by simp) (by simp) w
  have hstr : ∀ (m n : ByteArray) (op : BinOp), (eqGuard op ty a b (.string m) (.string n)).run P w = .ok () w := fun m n op => guard_other (by simp) (by simp) w
  have eI : ∀ (k : IntKind) (m n : Int), (do eqGuard .eql ty a b (.int k m) (.int k n); binOp .eql ty (.int k m) (.int k n) : Sem Value).run P w = .ok (.bool (m == n)) w ∧
      (do eqGuard .neq ty a b (.int k m) (.int k n); binOp .neq ty (.int k m) (.int k n) : Sem Value).run P w = .ok (.bool !(m == n)) w := fun k m n =>
    ⟨by simp [hint, binOp, Op.intCmp], by simp [hint, binOp, Op.intCmp, bne]⟩
  have eB : P.underlying ty = some .bool → ∀ (m n : Bool), (do eqGuard .eql ty a b (.bool m) (.bool n); binOp .eql ty (.bool m) (.bool n) : Sem Value).run P w = .ok (.bool (m == n)) w ∧
      (do eqGuard .neq ty a b (.bool m) (.bool n); binOp .neq ty (.bool m) (.bool n) : Sem Value).run P w = .ok (.bool !(m == n)) w := fun hu m n => by
    have h1 : binOp .eql ty (.bool m) (.bool n) = (do let r ← Op.equal ty (.bool m) (.bool n); pure (.bool r)) := rfl
    have h2 : binOp .neq ty (.bool m) (.bool n) = (do let r ← Op.equal ty (.bool m) (.bool n); pure (.bool !r)) := rfl
    exact ⟨by simp [hbool, h1, run_equal_bool w ty m n hu], by simp [hbool, h2, run_equal_bool w ty m n hu]⟩
  have eS : ∀ (m n : ByteArray), (do eqGuard .eql ty a b (.string m) (.string n); binOp .eql ty (.string m) (.string n) : Sem Value).run P w = .ok (.bool (m.toList == n.toList)) w ∧
      (do eqGuard .neq ty a b (.string m) (.string n); binOp .neq ty (.string m) (.string n) : Sem Value).run P w = .ok (.bool !(m.toList == n.toList)) w := fun m n => by
    have hb : ∀ op, op ≠ .shl → op ≠ .shr → binOp op ty (.string m) (.string n) = Op.stringOp op m n := fun op h1 h2 => by cases op <;> first | rfl | exact absurd rfl h1 | exact absurd rfl h2
    exact ⟨by simp [hstr, hb, Op.stringOp], by simp [hstr, hb, Op.stringOp]⟩
  have key : ∀ q, symEq P g ty x y = some q → (do eqGuard .eql ty a b u v; binOp .eql ty u v : Sem Value).run P w = .ok (.bool q) w ∧ (do eqGuard .neq ty a b u v; binOp .neq ty u v : Sem Value).run P w = .ok (.bool !q) w := by
    clear hs
    intro q hq
    have known : ∀ x y : RV, VRel E x u → VRel E y v → eqKnown P g ty x y = some q → (do eqGuard .eql ty a b u v; binOp .eql ty u v : Sem Value).run P w = .ok (.bool q) w ∧ (do eqGuard .neq ty a b u v; binOp .neq ty u v : Sem Value).run P w = .ok (.bool !q) w := by
      intro x y hx hy hq
      unfold eqKnown at hq
      split at hq
      · rename_i b hb
        cases hq
        obtain ⟨_, f1, f2, k, m, n, e1, e2, e3⟩ := tlook_true hT hb
        rw [cv_rel f1 hx, e1, cv_rel f2 hy, e2]
        have : q = (m == n) := by simpa [cv] using e3
        subst this
        exact eI k m n
      · split at hq
        · rename_i b hb
          cases hq
          obtain ⟨_, f1, f2, m, n, e1, e2, e3⟩ := tlook_true hT hb
          rw [cv_rel f1 hx, e1, cv_rel f2 hy, e2]
          have : q = (m.toList == n.toList) := by simpa [cv] using e3
          subst this
          exact eS m n
        · split at hq
          · rename_i hu
            split at hq
            · rename_i b hb
              cases hq
              obtain ⟨_, f1, f2, m, n, e1, e2, e3⟩ := tlook_true hT hb
              rw [cv_rel f1 hx, e1, cv_rel f2 hy, e2]
              have : q = (m == n) := by simpa [cv] using e3
              subst this
              exact eB hu m n
            · cases hq
          · cases hq
    unfold symEq at hq
    split at hq
    · unfold eqScal at hq
      split at hq
      · rename_i k i k' j _ _ _ _
        split at hq
        · rename_i he
          cases hq
          have e := eqS_eq he
          cases e
          have hx : u = .int k (Val.I i) := hx
          have hy : v = .int k (Val.I i) := hy
          rw [hx, hy]
          simpa using eI k (Val.I i) (Val.I i)
        · exact known _ _ hx hy hq
      · rename_i i j _ _ _ _
        split at hq
        · rename_i he
          cases hq
          have e := Nat.eq_of_beq_eq_true he
          cases e
          have hx : u = .string (Val.S i) := hx
          have hy : v = .string (Val.S i) := hy
          rw [hx, hy]
          simpa using eS (Val.S i) (Val.S i)
        · exact known _ _ hx hy hq
      · rename_i i j _ _ _ _
        split at hq
        · rename_i he hu
          cases hq
          have e := Nat.eq_of_beq_eq_true he
          cases e
          have hx : u = .bool (Val.B i) := hx
          have hy : v = .bool (Val.B i) := hy
          rw [hx, hy]
          simpa using eB hu (Val.B i) (Val.B i)
        · exact known _ _ hx hy hq
      · exact known _ _ hx hy hq
    · unfold eqAgg at hq
      split at hq
      · rename_i l m hg hl hm
        have he := eqR_run hT 8 9992 ty x y u v q hx hy hq w
        have hg2 := fun op => run_eqGuard_agg (P := P) w op ty a b
        obtain ⟨xs, rfl, _⟩ := aggL_rel hl hx
        obtain ⟨ys, rfl, _⟩ := aggL_rel hm hy
        have hg3 := fun op => hg2 op xs ys hg
        exact ⟨by simp only [Sem.run_bind, hg3, Result.andThen_ok, run_eql_struct, he], by simp only [Sem.run_bind, hg3, Result.andThen_ok, run_neq_struct, he]⟩
      · cases hq
  unfold symBin at hs
  split at hs
  · cases hs
  · split at hs
    · cases hq : symEq P g ty x y with
      | none => rw [hq] at hs; cases hs
      | some q =>
        rw [hq] at hs
        cases hs
        exact ⟨_, rfl, .inl (run_vSem (key q hq).1)⟩
    · cases hq : symEq P g ty x y with
      | none => rw [hq] at hs; cases hs
      | some q =>
        rw [hq] at hs
        cases hs
        exact ⟨_, rfl, .inl (run_vSem (key q hq).2)⟩
    · cases hq : tlook g.T (.bin op) x y with
      | none => rw [hq] at hs; cases hs
      | some r =>
        rw [hq] at hs
        cases hs
        obtain ⟨f0, f1, f2, ht⟩ := tlook_true hT hq
        refine ⟨cv r, rel_cv f0, .inl (run_vSem ?_)⟩
        rw [cv_rel f1 hx, cv_rel f2 hy]
        exact ht P ty a b w

theorem fit_binS (hT : TOK g) (H : HInv ro base w0 E h w) {op : BinOp} {ty : TypeId} {x y : RV} {u v : Value} {a b : Operand} {e : Eff} (hx : VRel E x u) (hy : VRel E y v) (hs : mBinS P g op ty x y = some e) :
    Fits ro base w0 E h w ((vSem (do eqGuard op ty a b u v; binOp op ty u v)).run P w) e := by
  unfold mBinS at hs
  split at hs
  · rename_i e' he
    cases hs
    exact fit_bin H hx hy he
  · exact fit_symBin hT H hx hy hs

theorem fit_symConv (hT : TOK g) {sT dT : TypeId} {x : RV} {u : Value} {e : Eff} (hx : VRel E x u) (hs : symConv P g sT dT x = some e) :
    Fits ro base w0 E h w ((vSem (convert sT dT u)).run P w) e := by
  unfold symConv at hs
  split at hs
  · rename_i k i k0 k' hu hu'
    cases hq : tlook g.T (.conv k') (.sym k i) (.sym k i) with
    | none => rw [hq] at hs; cases hs
    | some r =>
      rw [hq] at hs
      cases hs
      obtain ⟨f0, f1, f2, j, n, e1, e2⟩ := tlook_true hT hq
      refine ⟨cv r, rel_cv f0, .inl (run_vSem ?_)⟩
      rw [cv_rel f1 hx, e1, e2]
      simp [convert, run_under hu, run_under hu', Conv.intToInt]
  · cases hs

theorem fit_elAddr (hT : TOK g) {ty : TypeId} {x i : RV} {u v : Value} {e : Eff} (hx : VRel E x u) (hi : VRel E i v) (hs : elAddr P g ty x i = some e) :
    Fits ro base w0 E h w ((vSem (Instr.indexAt ty u v)).run P w) e := by
  unfold elAddr at hs
  split at hs
  · rename_i b n s k j elem hu
    split at hs
    · rename_i s' hsz
      split at hs
      · rename_i hbq hq
        cases hs
        obtain rfl := Nat.eq_of_beq_eq_true hbq
        obtain ⟨_, f1, _, k1, k2, m, n', e1, e2, e3⟩ := tlook_true hT hq
        obtain ⟨p, kk, hp, hk, hn, rfl⟩ := hx
        have hv : v = .int k (Val.I j) := hi
        have e1 : Value.int k (Val.I j) = .int k1 m := e1
        cases e1
        have e2 : Value.int .i64 (n : Int) = .int k2 n' := e2
        cases e2
        have e3 : true = decide (0 ≤ Val.I j ∧ Val.I j < (n : Int)) := by
          have e3 : Value.bool true = .bool _ := e3
          cases e3' : decide (0 ≤ Val.I j ∧ Val.I j < (n : Int)) with
          | true => rfl
          | false => rw [e3'] at e3; cases e3
        have hb := of_decide_eq_true e3.symm
        refine ⟨_, ⟨p, hp, rfl⟩, .inl (run_vSem ?_)⟩
        rw [hv]
        simp [Instr.indexAt, asIntOf, run_under hu, hb, run_sizeB hsz, add_lit]
      · cases hs
    · cases hs
  · cases hs

theorem fit_elLoad (hT : TOK g) (H : HInv ro base w0 E h w) {ty : TypeId} {x v : RV} {u : Value} (hx : VRel E x u) (hl : elLoad P g h ty x = some v) :
    ∃ r, VRel E v r ∧ (Instr.loadAt ty u).run P w = .ok r w := by
  unfold elLoad at hl
  split at hl
  · rename_i b i s agg sz hagg hsz
    have hagg := quiet_run P _ _ hagg w
    have hsz := quiet_run P _ _ hsz w
    split at hl
    · rename_i l hcn hrow
      have hcn := Nat.eq_of_beq_eq_true hcn
      split at hl
      · rename_i r hn
        split at hl
        · rename_i hlen
          have hlen := Nat.eq_of_beq_eq_true hlen
          obtain ⟨e, he, rfl, rfl, rfl⟩ := nlook_mem _ _ _ _ hn
          obtain ⟨f1, f2, f3, f4⟩ := hT.n e he
          obtain ⟨p, hp, rfl⟩ := hx
          obtain ⟨p', cur, el, fr, g1, g2, g4⟩ : ∃ p' cur el fr, E[b]? = some p' ∧ w.heap[p'.1]? = some (.cells cur el fr) ∧ All2 (VRel E) e.l (cur.toList.take e.l.length) := by
            unfold rowOf at hrow
            split at hrow
            · rename_i l0 e0 room fz hk
              cases hrow
              rw [lkp_eq] at hk
              obtain ⟨p', q1, _, cur, fr, q3, _, q5, _⟩ := H.blk b _ hk
              exact ⟨p', cur, _, fr, q1, q3, q5⟩
            · rename_i l0 e0 hk
              cases hrow
              rw [lkp_eq] at hk
              obtain ⟨p', q1, _, cur, fr, q3, _, q5⟩ := H.blk b _ hk
              exact ⟨p', cur, _, fr, q1, q3, q5⟩
            · cases hrow
          rw [hp] at g1
          cases g1
          have hcur : cur.toList.take e.l.length = e.l.map cv := by
            have := All2.length g4
            have h2 := rel_cvs (E := E) e.l f1
            exact VRels.fn _ _ _ (VRels_iff.2 g4) (VRels_iff.2 h2)
          have hle : e.l.length ≤ cur.size := by
            have := g4.length
            simp at this
            omega
          have hseg : (cur.toList.drop ((Val.I e.i).toNat * s)).take s = e.r.map cv := by
            have f3' : (Val.I e.i).toNat * s + s ≤ e.l.length := by rw [hlen] at f3; exact f3
            rw [← f4, ← hcur, hlen, List.drop_take, List.take_take, Nat.min_eq_left (by omega)]
          have hrun := run_load_seg hagg hsz ⟨p.1, (Val.I e.i).toNat * s, none⟩ (e.r.map cv) (by rw [List.length_map, hlen, hcn]) (by
            rw [← hseg]
            exact seg_cells g2)
          have hr := loadAs_rel (v := v) hl (rel_cvs (E := E) e.r f2) (fun ea => by rw [hlen, ← hcn, ea]; rfl)
          simp only [Instr.loadAt, Sem.run_bind, Instr.sureAddr, Sem.run_pure, Result.andThen_ok]
          rw [hrun]
          rcases hr with ⟨rfl, hr⟩ | ⟨rfl, u, hu, hr⟩
          · exact ⟨_, hr, rfl⟩
          · refine ⟨u, hr, ?_⟩
            rw [hu]
            rfl
        · cases hl
      · cases hl
    · cases hl
  · cases hl

theorem fit_aggIndex {ty : TypeId} {l : List RV} {cs : Array Value} {k : IntKind} {i : Int} {e : Eff} (hl : All2 (VRel E) l cs.toList) (hs : aggIndex P ty l i = some e) :
    Fits ro base w0 E h w ((vSem (Instr.index ty (.agg cs) (.int k i))).run P w) e := by
  unfold aggIndex at hs
  split at hs
  · rename_i len elem hu
    split at hs
    · rename_i s hsz
      split at hs
      · rename_i hi
        cases hq : partOp P elem l (i.toNat * s) with
        | none => rw [hq] at hs; cases hs
        | some v =>
          rw [hq] at hs
          cases hs
          obtain ⟨r, hr, hrun⟩ := fit_part hl hq
          refine ⟨r, hr, .inl (run_vSem ?_)⟩
          simp [Instr.index, asIntOf, run_under hu, hi, run_sizeB hsz, hrun]
      · cases hs
    · cases hs
  · cases hs

theorem fit_symIndex (hT : TOK g) {ty : TypeId} {x i : RV} {u v : Value} {e : Eff} (hx : VRel E x u) (hi : VRel E i v) (hs : symIndex P g ty x i = some e) :
    Fits ro base w0 E h w ((vSem (Instr.index ty u v)).run P w) e := by
  unfold symIndex at hs
  split at hs
  · rename_i hu
    cases hq : tlook g.T .idx x i with
    | none => rw [hq] at hs; cases hs
    | some r =>
      rw [hq] at hs
      cases hs
      obtain ⟨f0, f1, f2, s, k, n, b, e1, e2, h0, hb, e3⟩ := tlook_true hT hq
      refine ⟨cv r, rel_cv f0, .inl (run_vSem ?_)⟩
      rw [cv_rel f1 hx, cv_rel f2 hi, e1, e2, e3]
      have hb' : s[n.toNat]? = some b := by
        have hlt : n.toNat < s.size := by
          have := (List.getElem?_eq_some_iff.1 hb).1
          simpa using this
        rw [getElem?_pos s n.toNat hlt]
        have := (List.getElem?_eq_some_iff.1 hb).2
        simp at this
        exact congrArg some this
      simp [Instr.index, asIntOf, run_under hu, h0, hb']
  · cases hs

theorem fit_strIndex {ty : TypeId} {s : ByteArray} {k : IntKind} {i : Int} {v : RV} (hs : strIndex P ty s i = some v) :
    ∃ r, VRel E v r ∧ ∀ w, (Instr.index ty (.string s) (.int k i)).run P w = .ok r w := by
  unfold strIndex at hs
  split at hs
  · rename_i hu
    split at hs
    · rename_i h0
      rw [nthB_eq] at hs
      cases hb : s.data.toList[i.toNat]? with
      | none => rw [hb] at hs; cases hs
      | some b =>
        rw [hb] at hs
        cases hs
        refine ⟨_, rfl, fun w => ?_⟩
        have hlt : i.toNat < s.size := by
          have := (List.getElem?_eq_some_iff.1 hb).1
          simpa using this
        have hsb : s[i.toNat]? = some b := by
          rw [getElem?_pos s i.toNat hlt]
          congr 1
          have h2 := (List.getElem?_eq_some_iff.1 hb).2
          rw [← h2]
          rfl
        simp [Instr.index, asIntOf, run_under hu, h0, hsb]
    · cases hs
  · cases hs

theorem fit_strSlice {ty : TypeId} {s : ByteArray} {lo hi : Option RV} {lo' hi' : Option Value} {v : RV} (hlo : ORel E lo lo') (hhi : ORel E hi hi') (hs : strSlice P ty s lo hi = some v) :
    ∃ r, VRel E v r ∧ ∀ w, (Instr.sliceAt ty (.string s) lo' hi' none).run P w = .ok r w := by
  unfold strSlice at hs
  split at hs
  · rename_i hu
    simp only at hs
    split at hs
    · rename_i l g' hl hg'
      split at hs
      · rename_i hc
        simp only [Bool.and_eq_true, decide_eq_true_eq] at hc
        rw [lenB_eq] at hg' hc
        have hc2 : g' ≤ s.size := hc.2
        cases hq : segB s.data.toList l (g' - l) with
        | none => rw [hq] at hs; cases hs
        | some r =>
          rw [hq] at hs
          cases hs
          obtain ⟨h1, h2⟩ := segB_eq _ _ _ _ hq
          refine ⟨_, rfl, fun w => ?_⟩
          have hb := run_bounds (P := P) (n := s.size) false hlo hhi hl hg' hc.1 hc2 (Nat.le_refl _) w
          simp [Instr.sliceAt, Instr.slice, run_under hu, hb]
          apply ByteArray.ext
          apply Array.ext'
          rw [ByteArray.data_extract]
          simp [h2]
      · cases hs
    · cases hs
  · cases hs

theorem orel_map (ht : All2 (VRel E) t a.tmps.toList) (x : Option Operand) : ORel E (x.map (ev t)) (x.map a.eval) := by
  cases x with
  | none => trivial
  | some x => exact ev_rel ht x

theorem fit_mSlice (H : HInv ro base w0 E h w) {ty : TypeId} {x : RV} {u : Value} {lo hi mx : Option RV} {lo' hi' mx' : Option Value} {e : Eff} (hx : VRel E x u) (hlo : ORel E lo lo') (hhi : ORel E hi hi') (hmx : ORel E mx mx')
    (hs : mSlice P h ty x lo hi mx = some e) : Fits ro base w0 E h w ((vSem (Instr.sliceAt ty u lo' hi' mx')).run P w) e := by
  unfold mSlice at hs
  split at hs
  · rename_i s
    cases hx
    have : mx' = none := by cases mx' with
      | none => rfl
      | some _ => exact hmx.elim
    subst this
    cases hq : strSlice P ty s lo hi with
    | none => rw [hq] at hs; cases hs
    | some v =>
      rw [hq] at hs
      cases hs
      obtain ⟨r, hr, hrun⟩ := fit_strSlice hlo hhi hq
      exact ⟨r, hr, .inl (run_vSem (hrun w))⟩
  · cases hq : sliceOp P h ty x lo hi mx with
    | none => rw [hq] at hs; cases hs
    | some v =>
      rw [hq] at hs
      cases hs
      obtain ⟨r, hr, hrun⟩ := fit_slice H hx hlo hhi hmx hq
      exact ⟨r, hr, .inl (run_vSem (hrun w))⟩

theorem fit_makeSlice (H : HInv ro base w0 E h w) {ty : TypeId} {x y : RV} {u v : Value} {e : Eff} (hx : VRel E x u) (hy : VRel E y v) (hs : makeSliceOp P h ty x y = some e) :
    Fits ro base w0 E h w ((vSem (Instr.makeSlice ty u v)).run P w) e := by
  unfold makeSliceOp at hs
  split at hs
  · rename_i elem l c hu
    cases hx
    cases hy
    split at hs
    · rename_i s zero hsz hz
      obtain ⟨z, hzrun, hzr⟩ := zero_rel (E := E) hz
      split at hs
      · rename_i hc
        simp only [Bool.and_eq_true, decide_eq_true_eq] at hc
        obtain ⟨⟨⟨⟨⟨h0, h1⟩, h2⟩, h3⟩, h4⟩, h5⟩ := hc
        cases hs
        obtain ⟨i, hi⟩ : ∃ i, P.info? elem = some i := by
          cases hq : P.info? elem with
          | none => rw [hq] at h5; simp at h5
          | some i => exact ⟨i, rfl⟩
        rw [hi] at h5
        simp only [Option.map_some, Option.getD_some] at h5
        have hcs : c ≤ 65536 := by
          by_cases hge : c < 65537
          · omega
          · exfalso
            have hge : 65537 ≤ c := by omega
            have : (65537 : Int) * 1 ≤ c * ((s : Int) + 1) := by
              apply Int.mul_le_mul hge (by omega) (by omega) (by omega)
            omega
        have hw1 : IntKind.i64.wrap l = l := IntWalk.i64_in _ (by omega)
        have hw2 : IntKind.i64.wrap c = c := IntWalk.i64_in _ (by omega)
        have hbig : ¬ ((i.bytes : Int) * c > 281474976710656) := by
          have : (i.bytes : Int) * c ≤ 65536 * 65536 := Int.mul_le_mul (by omega) hcs (by omega) (by omega)
          omega
        have hc0 : ¬ c < 0 := by omega
        have hl0 : ¬ l < 0 := by omega
        have hlc : ¬ l > c := by omega
        have hr := rep_rel hzr c.toNat s h3
        have hrl := hr.length
        have H' := H.allocCells _ elem _ false (by rw [hrl, List.take_length]; exact hr) (fun _ => by rw [hrl, Array.length_toList])
        refine ⟨_, _, _, List.prefix_append _ _, ⟨_, c.toNat, H.new_get _, ?_, by omega, rfl⟩, .inl (run_vSem ?_), H'⟩
        · simp
        · have hdef : (Instr.makeSlice ty (.int .i64 l) (.int .i64 c)).run P w = _ := rfl
          by_cases hn : c.toNat * (s + 1) = 0
          · have hcz : c.toNat = 0 := by
              rcases Nat.mul_eq_zero.1 hn with e | e
              · exact e
              · omega
            simp [Instr.makeSlice, run_under hu, asInt, asIntOf, typeInfo, hi, hw1, hw2, hc0, hl0, hlc, hbig, run_sizeB hsz, hcz, newRow]
            have e0 : ∀ f : Nat → Value, (Array.range 0).map f = #[] := fun f => by simp
            rw [e0, e0]
          · have hcz : ¬ c.toNat = 0 := fun e => hn (by rw [e]; simp)
            simp [Instr.makeSlice, run_under hu, asInt, asIntOf, typeInfo, hi, hw1, hw2, hc0, hl0, hlc, hbig, run_sizeB hsz, hzrun, newRow]
            intro e
            exact absurd e hn
      · cases hs
    · cases hs
  · cases hs

theorem fit_pure (ht : All2 (VRel E) t a.tmps.toList) {o : Oper} {e : Eff} (hs : pureOp P o t = some e) : Fits ro base w0 E h w ((execOp a.eval o).run P w) e := by
  unfold pureOp at hs
  split at hs
  · cases hs
  · rename_i hsel
    split at hs
    · rename_i hall
      have hcong : execOp a.eval o = execOp (fun x => (ev t x).v) o := by
        refine execOp_congr o (fun cs b e => hsel cs b e) fun x hx => ?_
        have h1 := ev_rel ht x
        have h2 : (ev t x).isPl = true := by
          rw [List.all_eq_true] at hall
          exact hall x (by simpa using hx)
        cases hev : ev t x with
        | pl v => rw [hev] at h1; exact h1
        | _ => rw [hev] at h2; cases h2
      rw [hcong]
      split at hs
      · rename_i v hq
        cases hs
        exact ⟨v, rfl, .inl (quiet_run P _ _ hq w)⟩
      · rename_i hq
        cases hs
        exact ⟨undef, rfl, .inr ⟨quiet_run P _ _ hq w, rfl⟩⟩
      · rename_i f args hq
        cases hs
        exact ⟨args.toList, All2.pls _, by rw [quiet_run P _ _ hq w]⟩
      · cases hs
    · cases hs

theorem all2_two {x y : RV} {l : List Value} (h : All2 (VRel E) [x, y] l) : ∃ u v, l = [u, v] ∧ VRel E x u ∧ VRel E y v := by
  cases h with
  | cons hx h => cases h with
    | cons hy h => cases h; exact ⟨_, _, rfl, hx, hy⟩
theorem all2_one {x : RV} {l : List Value} (h : All2 (VRel E) [x] l) : ∃ u, l = [u] ∧ VRel E x u := by
  cases h with
  | cons hx h => cases h; exact ⟨_, rfl, hx⟩

theorem fit_builtin (hT : TOK g) (H : HInv ro base w0 E h w) {b : Builtin} {argTypes : Array TypeId} {ty : TypeId} {cs : Array Bool} {args : List RV} {vs : Array Value} {e : Eff} (ha : All2 (VRel E) args vs.toList)
    (hs : builtinOp P g h b argTypes args = some e) : Fits ro base w0 E h w ((builtin b argTypes ty cs vs).run P w) e := by
  unfold builtinOp at hs
  split at hs
  · obtain ⟨u, v, hl, hx, hy⟩ := all2_two ha
    have : vs = #[u, v] := by apply Array.ext'; rw [hl]
    subst this
    exact fit_append H hx hy hs
  · obtain ⟨u, v, hl, hx, hy⟩ := all2_two ha
    have : vs = #[u, v] := by apply Array.ext'; rw [hl]
    subst this
    exact fit_copy H hx hy hs
  · rename_i s
    obtain ⟨u, hl, hx⟩ := all2_one ha
    have : vs = #[u] := by apply Array.ext'; rw [hl]
    subst this
    cases hx
    split at hs
    · rename_i t hT
      split at hs
      · rename_i hu
        cases hs
        exact ⟨_, rfl, .inl (run_vSem (fit_lenS hT hu w))⟩
      · cases hs
    · cases hs
  · rename_i i
    obtain ⟨u, hl, hx⟩ := all2_one ha
    have : vs = #[u] := by apply Array.ext'; rw [hl]
    subst this
    split at hs
    · rename_i t hT'
      split at hs
      · rename_i hu
        cases hq : tlook g.T .len (.sym .str i) (.sym .str i) with
        | none => rw [hq] at hs; cases hs
        | some r =>
          rw [hq] at hs
          cases hs
          obtain ⟨f0, f1, f2, s, e1, e2⟩ := tlook_true hT hq
          refine ⟨cv r, rel_cv f0, .inl ?_⟩
          rw [cv_rel f1 hx, e1, e2]
          have := fit_lenS (s := s) (ty := ty) hT' hu w
          rw [lenB_eq] at this
          exact run_vSem this
      · cases hs
    · cases hs
  · rename_i b o n s c
    obtain ⟨u, hl, hx⟩ := all2_one ha
    have : vs = #[u] := by apply Array.ext'; rw [hl]
    subst this
    obtain ⟨p, k, hp, hk, hnk, rfl⟩ := hx
    split at hs
    · rename_i t hT
      split at hs
      · rename_i elem hu
        cases hs
        refine ⟨_, rfl, .inl (run_vSem (s := Builtin.len_ argTypes ty _) ?_)⟩
        rw [toList_one hT]
        simp [Builtin.len_, run_under hu]
      · cases hs
    · cases hs
  · rename_i b o n s c
    obtain ⟨u, hl, hx⟩ := all2_one ha
    have : vs = #[u] := by apply Array.ext'; rw [hl]
    subst this
    obtain ⟨p, k, hp, hk, hnk, rfl⟩ := hx
    split at hs
    · rename_i t hT
      split at hs
      · rename_i elem hu
        cases hcap : capOf h b o s c with
        | none => rw [hcap] at hs; cases hs
        | some k' =>
          rw [hcap] at hs
          cases hs
          have hkk := capOf_spec H hp hcap
          rw [← hk] at hkk
          subst hkk
          refine ⟨_, rfl, .inl (run_vSem (s := Builtin.cap_ argTypes ty _) ?_)⟩
          rw [toList_one hT]
          simp [Builtin.cap_, run_under hu]
      · cases hs
    · cases hs
  · rename_i b o n s c
    obtain ⟨u, hl, hx⟩ := all2_one ha
    have : vs = #[u] := by apply Array.ext'; rw [hl]
    subst this
    obtain ⟨p, k, hp, hk, hnk, rfl⟩ := hx
    split at hs
    · rename_i hn
      cases hs
      refine ⟨_, ⟨p, hp, rfl⟩, .inl (run_vSem (s := Builtin.unsafeSliceData_ argTypes ty _) ?_)⟩
      have hk0 : k ≠ 0 := by omega
      have hdef : Builtin.unsafeSliceData_ argTypes ty #[.slice (some ⟨p.1, o, none⟩) n k] =
        (if k ≠ 0 then pure (.pointer (some ⟨p.1, o, none⟩))
         else do
          if (← viewAt p.1).isSome then pure (.pointer (some ⟨p.1, o, none⟩))
          else pure (.pointer (some ⟨← newObj (.view ⟨p.1, o, none⟩ (← elemOf ty)), 0, none⟩))) := rfl
      rw [hdef, if_pos hk0]
      rfl
    · cases hs
  · obtain ⟨u, v, hl, hx, hy⟩ := all2_two ha
    have : vs = #[u, v] := by apply Array.ext'; rw [hl]
    subst this
    exact fit_string H hx hy hs
  · cases hs

theorem fit_mCall (hT : TOK g) (G : CfgOK P g) (H : HInv ro base w0 E h w) (ht : All2 (VRel E) t a.tmps.toList) {c : Call} {ty : TypeId} {e : Eff} (hs : mCall P g h t c = some e) :
    Fits ro base w0 E h w ((do let d ← resolve a.eval c ty; invoke d.target d.args : Sem Next).run P w) e := by
  unfold mCall at hs
  have hargs := evL_rel ht c.args
  unfold resolve
  split at hs
  · rename_i b hc
    rw [hc]
    simp only
    show Fits ro base w0 E h w ((builtin b c.argTypes ty _ (c.args.map a.eval)).run P w) e
    exact fit_builtin hT H hargs hs
  · rename_i f hc
    rw [hc]
    exact fit_callOp G H (ev_rel ht f) hargs hs
  · cases hs
end
end Go.Ri
