/- An interpreter for calls whose arguments are closed or names, and its soundness: a part of the proofs. -/
import Derived.Test.YtedbdpaioikhgaaGreatDoorRiS8
import Derived.Lib.MakeNoZero
import Derived.Laws.StructEq
namespace Go.Ri
open Go Go.RowKit
variable [Val]

structure CfgOK (P : Program) (g : Cfg) : Prop where
  ne : ∀ f, g.ne.contains f = true → ∀ x w, (callFunc f #[x]).run P w = .ok (.value x) w
  mz : ∀ f e, g.mz.lookup f = some e → ∀ (n : Int) (w : World), 0 ≤ n → n ≤ 1000000000 → ∃ (cs : Array Value) (k : Nat),
    (callFunc f #[.int .i64 n]).run P w = .ok (.value (.slice (some ⟨w.heap.size, 0, none⟩) n.toNat cs.size)) ((w.drewN k).alloc (.cells cs e)) ∧ n.toNat ≤ cs.size

section
variable {P : Program} {g : Cfg} {ro : Ro} {base : Nat} {w0 : World} {E : Env} {h : RH} {w : World}

theorem HInv.drewN (H : HInv ro base w0 E h w) (n : Nat) : HInv ro base w0 E h (w.drewN n) :=
  ⟨⟨H.below.os, H.below.tape, H.below.output, H.below.size, H.below.block⟩, H.lb, H.len, H.ro, H.blk, H.inj⟩

theorem fit_extern (G : CfgOK P g) (H : HInv ro base w0 E h w) {f : FuncId} {args : List RV} {vs : List Value} {e : Eff} (ha : All2 (VRel E) args vs) (hs : externOp g h f args = some e) :
    Fits ro base w0 E h w ((callFunc f vs.toArray).run P w) e := by
  unfold externOp at hs
  split at hs
  · rename_i hne
    split at hs
    · cases hs
      cases ha with
      | cons hx hn =>
        cases hn
        exact ⟨_, hx, .inl (G.ne f hne _ w)⟩
    · cases hs
  · split at hs
    · rename_i elem n hmz
      split at hs
      · rename_i hc
        simp only [Bool.and_eq_true, decide_eq_true_eq] at hc
        cases hs
        cases ha with
        | cons hx hn =>
          cases hn
          cases hx
          obtain ⟨cs, k, hrun, hle⟩ := G.mz f elem hmz n w hc.1 hc.2
          have H' := (H.drewN k).allocCells cs elem [] true .nil (fun e => by cases e)
          refine ⟨_, _, _, List.prefix_append E [(w.heap.size, cs.size)], ⟨_, cs.size, H.new_get _, ?_, hle, rfl⟩, .inl hrun, H'⟩
          simp
      · cases hs
    · cases hs

omit [Val] in
theorem isBody_true {f : FuncId} (hb : isBodyName P f = some true) (args : Array Value) (w : World) : (callFunc f args).run P w = .ok (.enter f args) w := by
  unfold isBodyName at hb
  cases hf : P.funcs[f]? with
  | none => rw [hf] at hb; cases hb
  | some fn =>
    rw [hf] at hb
    simp at hb
    obtain ⟨h1, h2⟩ := hb
    cases hbd : fn.body with
    | none => rw [hbd] at h1; cases h1
    | some c => simp [callFunc, hf, h2, hbd]

theorem fit_callAt (G : CfgOK P g) (H : HInv ro base w0 E h w) {f : FuncId} {args : List RV} {vs : List Value} {e : Eff} (ha : All2 (VRel E) args vs) (hs : callAt P g h f args = some e) :
    Fits ro base w0 E h w ((callFunc f vs.toArray).run P w) e := by
  unfold callAt at hs
  split at hs
  · rename_i hb
    cases hs
    exact ⟨vs, ha, isBody_true hb _ w⟩
  · exact fit_extern G H ha hs
  · cases hs

theorem fit_callOp (G : CfgOK P g) (H : HInv ro base w0 E h w) {f : RV} {uf : Value} {args : List RV} {vs : Array Value} {e : Eff} (hf : VRel E f uf) (ha : All2 (VRel E) args vs.toList) (hs : callOp P g h f args = some e) :
    Fits ro base w0 E h w ((do let d ← Deferred.ofValue uf vs; invoke d.target d.args : Sem Next).run P w) e := by
  unfold callOp at hs
  split at hs
  · rename_i k first cap
    cases hf
    have hall : All2 (VRel E) (first.toList.map .pl ++ args ++ cap.toList.map .pl) (first ++ vs ++ cap).toList := by
      simp only [Array.toList_append]
      exact ((All2.pls _).append ha).append (All2.pls _)
    have := fit_callAt G H hall hs
    rw [Array.toArray_toList] at this
    simpa [Deferred.ofValue, invoke] using this
  · rename_i k first cap
    obtain ⟨a', c', rfl, h1, h2⟩ := hf
    have hall : All2 (VRel E) (first ++ args ++ cap) (a' ++ vs ++ c').toList := by
      simp only [Array.toList_append]
      exact ((VRels_iff.1 h1).append ha).append (VRels_iff.1 h2)
    have := fit_callAt G H hall hs
    rw [Array.toArray_toList] at this
    simpa [Deferred.ofValue, invoke] using this
  · cases hs

omit [Val] in
theorem eqIn_ptr (d : Nat) {ty e : TypeId} {n : Nat} (hu : P.underlying ty = some (.pointer e)) (hsz : sizeB P e = some (n + 1)) (b o o' : Nat) (w : World) :
    (Op.equalIn (d + 1) ty (.pointer (some ⟨b, o, none⟩)) (.pointer (some ⟨b, o', none⟩))).run P w = .ok (o == o') w := by
  have hbeq : ((⟨b, o, none⟩ : Addr) == ⟨b, o', none⟩) = (o == o') := by
    rw [Bool.eq_iff_iff]; simp
  simp [Op.equalIn, run_under hu, run_sizeB hsz, sameAddr, hbeq]
omit [Val] in
theorem eqIn_nil1 (d : Nat) {ty e : TypeId} (hu : P.underlying ty = some (.pointer e)) (a : Addr) (w : World) : (Op.equalIn (d + 1) ty (.pointer none) (.pointer (some a))).run P w = .ok false w := by
  simp [Op.equalIn, run_under hu]
omit [Val] in
theorem eqIn_nil2 (d : Nat) {ty e : TypeId} (hu : P.underlying ty = some (.pointer e)) (a : Addr) (w : World) : (Op.equalIn (d + 1) ty (.pointer (some a)) (.pointer none)).run P w = .ok false w := by
  simp [Op.equalIn, run_under hu]
omit [Val] in
theorem eqIn_sl1 (d : Nat) {ty e : TypeId} (hu : P.underlying ty = some (.slice e)) (a : Addr) (n c n' c' : Nat) (w : World) : (Op.equalIn (d + 1) ty (.slice none n c) (.slice (some a) n' c')).run P w = .ok false w := by
  simp [Op.equalIn, run_under hu]
omit [Val] in
theorem eqIn_sl2 (d : Nat) {ty e : TypeId} (hu : P.underlying ty = some (.slice e)) (a : Addr) (n c n' c' : Nat) (w : World) : (Op.equalIn (d + 1) ty (.slice (some a) n c) (.slice none n' c')).run P w = .ok false w := by
  simp [Op.equalIn, run_under hu]
omit [Val] in
theorem eqIn_fn1 (d : Nat) {ty : TypeId} {ps rs : Array TypeId} {v : Bool} (hu : P.underlying ty = some (.func ps rs v)) (f : Fn) (a c : Array Value) (w : World) : (Op.equalIn (d + 1) ty .nilFunc (.func f a c)).run P w = .ok false w := by
  simp [Op.equalIn, run_under hu]
omit [Val] in
theorem eqIn_fn2 (d : Nat) {ty : TypeId} {ps rs : Array TypeId} {v : Bool} (hu : P.underlying ty = some (.func ps rs v)) (f : Fn) (a c : Array Value) (w : World) : (Op.equalIn (d + 1) ty (.func f a c) .nilFunc).run P w = .ok false w := by
  simp [Op.equalIn, run_under hu]

omit [Val] in
theorem guard_other {op : BinOp} {ty : TypeId} {a b : Operand} {u v : Value} (h : ∀ xs ys, ¬ (u = .agg xs ∧ v = .agg ys)) (h' : ¬ (u = .nilIface ∧ v = .nilIface)) (w : World) : (eqGuard op ty a b u v).run P w = .ok () w := by
  have key : (match (generalizing := false) u, v with
    | .nilIface, .nilIface => false
    | .agg _, .agg _ => false
    | _, _ => true) = true := by
    split
    · exact absurd ⟨rfl, rfl⟩ h'
    · exact absurd ⟨rfl, rfl⟩ (h _ _)
    · rfl
  cases u <;> first
    | (cases op <;> rfl)
    | (cases v <;> first
        | (simp at key; done)
        | (cases op <;> rfl))

theorem fit_ref (_ : HInv ro base w0 E h w) {op : BinOp} {ty : TypeId} {x y : RV} {u v : Value} {a b : Operand} {e : Eff} (hx : VRel E x u) (hy : VRel E y v) (hs : binRef P op ty x y = some e) :
    Fits ro base w0 E h w ((vSem (do eqGuard op ty a b u v; binOp op ty u v)).run P w) e := by
  have key : ∀ q, eqlOp P ty x y = some q → (∀ op, (eqGuard op ty a b u v).run P w = .ok () w) ∧ (Op.equal ty u v).run P w = .ok q w ∧
      binOp .eql ty u v = (do let r ← Op.equal ty u v; pure (.bool r)) ∧ binOp .neq ty u v = (do let r ← Op.equal ty u v; pure (.bool !r)) := by
    clear hs
    intro q hs
    unfold eqlOp at hs
    split at hs
    · rename_i e b o b' o' hu
      split at hs
      · rename_i n hsz
        split at hs
        · rename_i hbb
          subst hbb
          cases hs
          obtain ⟨p, hp, rfl⟩ := hx
          obtain ⟨p', hp', rfl⟩ := hy
          rw [hp] at hp'
          cases hp'
          exact ⟨fun op => guard_other (by simp) (by simp) w, eqIn_ptr 9999 hu hsz _ _ _ w, rfl, rfl⟩
        · cases hs
      · cases hs
    · rename_i e b o hu
      cases hs
      cases hx
      obtain ⟨p, hp, rfl⟩ := hy
      exact ⟨fun op => guard_other (by simp) (by simp) w, eqIn_nil1 9999 hu _ w, rfl, rfl⟩
    · rename_i e b o hu
      cases hs
      cases hy
      obtain ⟨p, hp, rfl⟩ := hx
      exact ⟨fun op => guard_other (by simp) (by simp) w, eqIn_nil2 9999 hu _ w, rfl, rfl⟩
    · rename_i e n c b o m s c' hu
      cases hs
      cases hx
      obtain ⟨p, k, hp, hk, hnk, rfl⟩ := hy
      exact ⟨fun op => guard_other (by simp) (by simp) w, eqIn_sl1 9999 hu _ _ _ _ _ w, rfl, rfl⟩
    · rename_i e b o m s c' n c hu
      cases hs
      cases hy
      obtain ⟨p, k, hp, hk, hnk, rfl⟩ := hx
      exact ⟨fun op => guard_other (by simp) (by simp) w, eqIn_sl2 9999 hu _ _ _ _ _ w, rfl, rfl⟩
    · rename_i p r vr f a c hu
      cases hs
      cases hx
      obtain ⟨a', c', rfl, h1, h2⟩ := hy
      exact ⟨fun op => guard_other (by simp) (by simp) w, eqIn_fn1 9999 hu _ _ _ w, rfl, rfl⟩
    · rename_i p r vr f a c hu
      cases hs
      cases hy
      obtain ⟨a', c', rfl, h1, h2⟩ := hx
      exact ⟨fun op => guard_other (by simp) (by simp) w, eqIn_fn2 9999 hu _ _ _ w, rfl, rfl⟩
    · cases hs
  unfold binRef at hs
  split at hs
  · cases hq : eqlOp P ty x y with
    | none => rw [hq] at hs; cases hs
    | some q =>
      rw [hq] at hs
      cases hs
      obtain ⟨h1, h2, h3, h4⟩ := key q hq
      exact ⟨_, rfl, .inl (run_vSem (by simp [h1, h3, h2]))⟩
  · cases hq : eqlOp P ty x y with
    | none => rw [hq] at hs; cases hs
    | some q =>
      rw [hq] at hs
      cases hs
      obtain ⟨h1, h2, h3, h4⟩ := key q hq
      exact ⟨_, rfl, .inl (run_vSem (by simp [h1, h4, h2]))⟩
  · cases hs

omit [Val] in
theorem eqB_eq : ∀ (a b : List UInt8), eqB a b = (a == b)
  | [], [] => rfl
  | [], _ :: _ => rfl
  | _ :: _, [] => rfl
  | x :: a, y :: b => by
    have e : eqB (x :: a) (y :: b) = (match Nat.beq x.toNat y.toNat with | true => eqB a b | false => false) := rfl
    rw [e, eqB_eq a b]
    by_cases hxy : x = y
    · subst hxy
      simp
    · have : Nat.beq x.toNat y.toNat = false := by
        rw [← Bool.not_eq_true]
        intro hb
        exact hxy (UInt8.toNat_inj.1 (Nat.eq_of_beq_eq_true hb))
      rw [this]
      simp [hxy]
omit [Val] in
theorem appB_eq : ∀ (a b : List UInt8), appB a b = a ++ b
  | [], _ => rfl
  | x :: a, b => congrArg (x :: ·) (appB_eq a b)
omit [Val] in
theorem takeB_eq : ∀ (n : Nat) (l r : List UInt8), takeB n l = some r → n ≤ l.length ∧ r = l.take n
  | 0, l, r, h => by cases h; simp
  | n + 1, [], r, h => by cases h
  | n + 1, x :: l, r, h => by
    have e : takeB (n + 1) (x :: l) = (match takeB n l with | some r => some (x :: r) | none => none) := rfl
    rw [e] at h
    cases hq : takeB n l with
    | none => rw [hq] at h; cases h
    | some q =>
      rw [hq] at h
      cases h
      obtain ⟨h1, h2⟩ := takeB_eq n l q hq
      subst h2
      exact ⟨by simp; omega, by simp⟩
omit [Val] in
theorem segB_eq : ∀ (l : List UInt8) (o n : Nat) (r : List UInt8), segB l o n = some r → o + n ≤ l.length ∧ r = (l.drop o).take n
  | l, 0, n, r, h => by
    have := takeB_eq n l r h
    simpa using this
  | [], o + 1, n, r, h => by cases h
  | x :: l, o + 1, n, r, h => by
    have := segB_eq l o n r h
    simp
    exact ⟨by omega, this.2⟩
omit [Val] in
theorem takeV_eq : ∀ (n : Nat) (l r : List Value), takeV n l = some r → n ≤ l.length ∧ r = l.take n
  | 0, l, r, h => by cases h; simp
  | n + 1, [], r, h => by cases h
  | n + 1, x :: l, r, h => by
    have e : takeV (n + 1) (x :: l) = (match takeV n l with | some r => some (x :: r) | none => none) := rfl
    rw [e] at h
    cases hq : takeV n l with
    | none => rw [hq] at h; cases h
    | some q =>
      rw [hq] at h
      cases h
      obtain ⟨h1, h2⟩ := takeV_eq n l q hq
      subst h2
      exact ⟨by simp; omega, by simp⟩
omit [Val] in
theorem segV_eq : ∀ (l : List Value) (o n : Nat) (r : List Value), segV l o n = some r → o + n ≤ l.length ∧ r = (l.drop o).take n
  | l, 0, n, r, h => by
    have := takeV_eq n l r h
    simpa using this
  | [], o + 1, n, r, h => by cases h
  | x :: l, o + 1, n, r, h => by
    have := segV_eq l o n r h
    simp
    exact ⟨by omega, this.2⟩

omit [Val] in
theorem partV_run {t : TypeId} {xs : Array Value} {off : Nat} {v : Value} (hs : partV P t xs.toList off = some v) (w : World) : (part t xs off).run P w = .ok v w := by
  unfold partV at hs
  split at hs
  · rename_i ha
    split at hs
    · rename_i n hn
      cases hq : segV xs.toList off n with
      | none => rw [hq] at hs; cases hs
      | some r =>
        rw [hq] at hs
        cases hs
        obtain ⟨h1, h2⟩ := segV_eq _ _ _ _ hq
        simp [part, quiet_run P _ _ ha w, run_sizeB hn w]
        apply Array.ext'
        simp [h2]
    · cases hs
  · rename_i ha
    rw [nthV_eq] at hs
    have : xs[off]? = some v := by simpa using hs
    simp [part, quiet_run P _ _ ha w, this]
  · cases hs

omit [Val] in
theorem eqFieldsV_run {d : Nat} {e : TypeId → Value → Value → Option Bool} (he : ∀ t x y q, e t x y = some q → ∀ w, (Op.equalIn d t x y).run P w = .ok q w) {xs ys : Array Value} :
    ∀ (fs : List Field) (q : Bool), eqFieldsV P e xs.toList ys.toList fs = some q → ∀ w, (Op.eqFields d xs ys fs).run P w = .ok q w := by
  intro fs
  induction fs with
  | nil => intro q hq w; cases hq; rfl
  | cons f fs ih =>
    intro q hq w
    have eq : eqFieldsV P e xs.toList ys.toList (f :: fs) = (if f.name = "_" then eqFieldsV P e xs.toList ys.toList fs else
      match partV P f.type xs.toList f.offset, partV P f.type ys.toList f.offset with
      | some a, some b => match e f.type a b with
        | some true => eqFieldsV P e xs.toList ys.toList fs
        | r => r
      | _, _ => none) := rfl
    rw [eq] at hq
    unfold Op.eqFields
    split at hq
    · rename_i hname
      rw [if_neg (by simpa using hname)]
      exact ih q hq w
    · rename_i hname
      rw [if_pos hname]
      split at hq
      · rename_i a b ha hb
        simp only [Sem.run_bind, partV_run ha, partV_run hb, Result.andThen_ok]
        split at hq
        · rename_i hab
          simp only [he _ _ _ _ hab, Result.andThen_ok]
          simpa using ih q hq w
        · rename_i r hr hne
          have hqq : q = false := by
            cases q with
            | false => rfl
            | true => exact absurd hq (by simpa using hne)
          subst hqq
          simp [he _ _ _ _ hq]
      · cases hq

omit [Val] in
theorem run_equalIn_array (d : Nat) (t elem : TypeId) (len n : Nat) (xs ys : Array Value) (ht : P.underlying t = some (.array len elem)) (hn : sizeB P elem = some n)
    {e : TypeId → Value → Value → Option Bool} (he : ∀ t x y q, e t x y = some q → ∀ w, (Op.equalIn d t x y).run P w = .ok q w) (q : Bool)
    (hq : eqElemsV P e elem n xs.toList ys.toList (List.range len) = some q) (w : World) : (Op.equalIn (d + 1) t (.agg xs) (.agg ys)).run P w = .ok q w := by
  simp only [Op.equalIn, Sem.run_bind, run_under ht, Result.andThen_ok, run_sizeB hn]
  rw [Std.Legacy.Range.forIn_eq_forIn_range']
  simp only [Std.Legacy.Range.size, Nat.sub_zero, Nat.add_sub_cancel, Nat.div_one, ← List.range_eq_range']
  generalize List.range len = is at hq
  induction is generalizing w with
  | nil => cases hq; rfl
  | cons i is ih =>
    have eq : eqElemsV P e elem n xs.toList ys.toList (i :: is) = (match partV P elem xs.toList (i * n), partV P elem ys.toList (i * n) with
      | some a, some b => match e elem a b with
        | some true => eqElemsV P e elem n xs.toList ys.toList is
        | r => r
      | _, _ => none) := rfl
    rw [eq] at hq
    split at hq
    · rename_i a b ha hb
      simp only [List.forIn_cons, Sem.run_bind, partV_run ha, partV_run hb, Result.andThen_ok]
      split at hq
      · rename_i hab
        simp only [he _ _ _ _ hab, Result.andThen_ok, Bool.not_true, Bool.false_eq_true, if_false, Sem.run_pure]
        exact ih w hq
      · rename_i r hr hne
        have hqq : q = false := by
          cases q with
          | false => rfl
          | true => exact absurd hq (by simpa using hne)
        subst hqq
        simp [he _ _ _ _ hq]
    · cases hq

omit [Val] in
theorem eqV_run : ∀ (d k : Nat) (t : TypeId) (x y : Value) (q : Bool), eqV P d t x y = some q → ∀ w, (Op.equalIn (d + k) t x y).run P w = .ok q w
  | 0, _, _, _, _, _, h => by cases h
  | d + 1, k, t, x, y, q, h => by
    have eq : eqV P (d + 1) t x y = (match (generalizing := false) P.underlying t, x, y with
      | some (.int _), .int k a, .int k' b => if k = k' then some (a == b) else none
      | some .bool, .bool a, .bool b => some (a == b)
      | some .string, .string a, .string b => some (eqB a.data.toList b.data.toList)
      | some (.struct fs), .agg xs, .agg ys => if P.stoodInHeld t then none else eqFieldsV P (eqV P d) xs.toList ys.toList fs.toList
      | some (.array len elem), .agg xs, .agg ys => match sizeB P elem with
        | some n => eqElemsV P (eqV P d) elem n xs.toList ys.toList (List.range len)
        | none => none
      | _, _, _ => none) := rfl
    rw [eq] at h
    intro w
    rw [show d + 1 + k = (d + k) + 1 from by omega]
    split at h
    · rename_i hu
      split at h
      · rename_i hk
        subst hk
        cases h
        exact run_equalIn_int w _ _ _ _ _ _ hu
      · cases h
    · rename_i hu
      cases h
      exact run_equalIn_bool w _ _ _ _ hu
    · rename_i a b hu
      cases h
      rw [run_equalIn_string w _ _ _ _ hu, eqB_eq, ByteArray.toList_eq, ByteArray.toList_eq]
    · rename_i fs xs ys hu
      split at h
      · cases h
      · rename_i hst
        have hfs : P.underlying t = some (.struct (P.fieldsOf t)) := by simp [Program.fieldsOf, hu]
        have hfe : P.fieldsOf t = fs := by simp [Program.fieldsOf, hu]
        rw [run_equalIn_struct w _ t xs ys hfs (by simpa using hst), hfe]
        exact eqFieldsV_run (fun t x y q hq w => eqV_run d k t x y q hq w) _ _ h w
    · rename_i len elem xs ys hu
      split at h
      · rename_i n hn
        exact run_equalIn_array _ _ _ _ _ _ _ hu hn (fun t x y q hq w => eqV_run d k t x y q hq w) q h w
      · cases h
    · cases h
end
end Go.Ri
