/- An interpreter for calls whose arguments are closed or names, and its soundness: a part of the proofs. -/
import Derived.Test.YtedbdpaioikhgaaGreatDoorRiS9
/-! Operations on names: what the table of known facts gives. -/
namespace Go.Ri
open Go Go.RowKit
variable [Val]

def TCTrue (c : TC) (u v z : Value) : Prop :=
  match c with
  | .bin op => ∀ (P : Program) (ty : TypeId) (a b : Operand) (w : World), (do eqGuard op ty a b u v; binOp op ty u v : Sem Value).run P w = .ok z w
  | .ieq => ∃ k a b, u = .int k a ∧ v = .int k b ∧ z = .bool (a == b)
  | .beq => ∃ a b, u = .bool a ∧ v = .bool b ∧ z = .bool (a == b)
  | .seq => ∃ a b : ByteArray, u = .string a ∧ v = .string b ∧ z = .bool (a.toList == b.toList)
  | .idx => ∃ s k i b, u = .string s ∧ v = .int k i ∧ 0 ≤ i ∧ s.data.toList[i.toNat]? = some b ∧ z = .int .u8 b.toNat
  | .len => ∃ s : ByteArray, u = .string s ∧ z = .int .i64 s.data.toList.length
  | .truth => ∃ b, u = .bool b ∧ z = .bool b
  | .not => ∃ b, u = .bool b ∧ z = .bool !b
  | .conv k' => ∃ k a, u = .int k a ∧ z = .int k' (k'.wrap a)
  | .inb => ∃ k k' m n, u = .int k m ∧ v = .int k' n ∧ z = .bool (decide (0 ≤ m ∧ m < n))
def TETrue (e : TE) : Prop := flat0 e.r = true ∧ TCTrue e.c (cv e.x) (cv e.y) (cv e.r)
def NTrue (e : NE) : Prop := e.l.all flat0 = true ∧ e.r.all flat0 = true ∧ (Val.I e.i).toNat * e.r.length + e.r.length ≤ e.l.length ∧ ((e.l.map cv).drop ((Val.I e.i).toNat * e.r.length)).take e.r.length = e.r.map cv
structure TOK (g : Cfg) : Prop where
  t : ∀ e, e ∈ g.T → TETrue e
  n : ∀ e, e ∈ g.N → NTrue e

omit [Val] in
theorem binCode_inj {a b : BinOp} (h : binCode a = binCode b) : a = b := by
  cases a <;> cases b <;> first | rfl | (exact absurd h (by decide))
omit [Val] in
theorem kindCode_inj {a b : IntKind} (h : kindCode a = kindCode b) : a = b := by
  cases a <;> cases b <;> first | rfl | (exact absurd h (by decide))
omit [Val] in
theorem binCode_lt (a : BinOp) : binCode a < 20 := by cases a <;> decide
omit [Val] in
theorem kindCode_lt (a : IntKind) : kindCode a < 10 := by cases a <;> decide
omit [Val] in
theorem tcCode_inj {a b : TC} (h : tcCode a = tcCode b) : a = b := by
  cases a <;> cases b <;> first
    | rfl
    | (rename_i x y; first | rw [binCode_inj h] | rw [kindCode_inj (a := x) (b := y) (by have h : 30 + kindCode x = 30 + kindCode y := h; omega)] | (have h : binCode x = 30 + kindCode y := h; have := binCode_lt x; omega) | (have h : 30 + kindCode x = binCode y := h; have := binCode_lt y; omega))
    | (exact absurd h (by decide))
    | (rename_i x; have h : binCode x = _ := h; have := binCode_lt x; simp only [tcCode] at h; omega)
    | (rename_i x; have h : _ = binCode x := h; have := binCode_lt x; simp only [tcCode] at h; omega)
    | (rename_i x; simp only [tcCode] at h; omega)
omit [Val] in
theorem tkCode_inj {a b : TK} (h : tkCode a = tkCode b) : a = b := by
  cases a <;> cases b <;> first
    | rfl
    | (rename_i x y; rw [kindCode_inj h])
    | (exact absurd h (by decide))
    | (rename_i x; have := kindCode_lt x; simp only [tkCode] at h; omega)
omit [Val] in
theorem sameBs_eq : ∀ (a b : List UInt8), sameBs a b = eqB a b
  | [], [] => rfl
  | [], _ :: _ => rfl
  | _ :: _, [] => rfl
  | x :: a, y :: b => by
    have e1 : sameBs (x :: a) (y :: b) = (match Nat.beq x.toNat y.toNat with | true => sameBs a b | false => false) := rfl
    have e2 : eqB (x :: a) (y :: b) = (match Nat.beq x.toNat y.toNat with | true => eqB a b | false => false) := rfl
    rw [e1, e2, sameBs_eq a b]
omit [Val] in
theorem eqS_eq {x y : RV} (h : eqS x y = true) : x = y := by
  unfold eqS at h
  split at h
  · split at h
    · rename_i hij
      rw [Nat.eq_of_beq_eq_true hij, tkCode_inj (Nat.eq_of_beq_eq_true h)]
    · cases h
  · split at h
    · rename_i hk
      rw [kindCode_inj (Nat.eq_of_beq_eq_true hk), beq_iff_eq.mp h]
    · cases h
  · rw [beq_iff_eq.mp h]
  · rename_i a b
    rw [sameBs_eq, eqB_eq] at h
    have := beq_iff_eq.mp h
    have e : a = b := ByteArray.ext (Array.ext' this)
    rw [e]
  · cases h
omit [Val] in
theorem eqS_flat {x y : RV} (h : eqS x y = true) : flat0 x = true := by
  unfold eqS at h
  split at h
  · rfl
  · rfl
  · rfl
  · rfl
  · cases h
omit [Val] in
theorem tlook_mem (c : TC) (x y r : RV) : ∀ T : List TE, tlook T c x y = some r → ∃ e, e ∈ T ∧ e.c = c ∧ e.x = x ∧ e.y = y ∧ e.r = r ∧ flat0 x = true ∧ flat0 y = true
  | [], h => by cases h
  | e :: T, h => by
    have h : (match Nat.beq (tcCode e.c) (tcCode c) with
      | true => match eqS e.x x with
        | true => match eqS e.y y with | true => some e.r | false => tlook T c x y
        | false => tlook T c x y
      | false => tlook T c x y) = some r := h
    have go : tlook T c x y = some r → ∃ e', e' ∈ e :: T ∧ e'.c = c ∧ e'.x = x ∧ e'.y = y ∧ e'.r = r ∧ flat0 x = true ∧ flat0 y = true := fun h => by
      obtain ⟨e', he, r⟩ := tlook_mem c x y r T h
      exact ⟨e', List.mem_cons_of_mem _ he, r⟩
    split at h
    · rename_i h1
      split at h
      · rename_i h2
        split at h
        · rename_i h3
          cases h
          have f1 := eqS_flat h2
          have f2 := eqS_flat h3
          rw [eqS_eq h2] at f1
          rw [eqS_eq h3] at f2
          exact ⟨e, List.mem_cons_self, tcCode_inj (Nat.eq_of_beq_eq_true h1), eqS_eq h2, eqS_eq h3, rfl, f1, f2⟩
        · exact go h
      · exact go h
    · exact go h
theorem tlook_true {g : Cfg} (hT : TOK g) {c : TC} {x y r : RV} (h : tlook g.T c x y = some r) : flat0 r = true ∧ flat0 x = true ∧ flat0 y = true ∧ TCTrue c (cv x) (cv y) (cv r) := by
  obtain ⟨e, he, rfl, rfl, rfl, rfl, f1, f2⟩ := tlook_mem c x y r g.T h
  exact ⟨(hT.t e he).1, f1, f2, (hT.t e he).2⟩
omit [Val] in
theorem eqSs_eq : ∀ (l m : List RV), eqSs l m = true → l = m
  | [], [], _ => rfl
  | [], _ :: _, h => by cases h
  | _ :: _, [], h => by cases h
  | x :: l, y :: m, h => by
    have h : (match eqS x y with | true => eqSs l m | false => false) = true := h
    split at h
    · rename_i hx; rw [eqS_eq hx, eqSs_eq l m h]
    · cases h
omit [Val] in
theorem nlook_mem (l : List RV) (i : Nat) (r : List RV) : ∀ T : List NE, nlook T l i = some r → ∃ e, e ∈ T ∧ e.i = i ∧ e.l = l ∧ e.r = r
  | [], h => by cases h
  | e :: T, h => by
    have h : (match Nat.beq e.i i with
      | true => match eqSs e.l l with | true => some e.r | false => nlook T l i
      | false => nlook T l i) = some r := h
    have go : nlook T l i = some r → ∃ e', e' ∈ e :: T ∧ e'.i = i ∧ e'.l = l ∧ e'.r = r := fun h => by
      obtain ⟨e', he, q⟩ := nlook_mem l i r T h
      exact ⟨e', List.mem_cons_of_mem _ he, q⟩
    split at h
    · rename_i h1
      split at h
      · rename_i h2
        cases h
        exact ⟨e, List.mem_cons_self, Nat.eq_of_beq_eq_true h1, eqSs_eq _ _ h2, rfl⟩
      · exact go h
    · exact go h

section
variable {P : Program} {g : Cfg} {ro : Ro} {base : Nat} {w0 : World} {E : Env} {h : RH} {w : World} {t : List RV} {a : Act}

theorem aggL_rel {r : RV} {l : List RV} {v : Value} (hl : aggL r = some l) (hv : VRel E r v) : ∃ l', v = .agg l' ∧ All2 (VRel E) l l'.toList := by
  unfold aggL at hl
  split at hl
  · cases hl
    obtain ⟨l', e, hr⟩ := hv
    exact ⟨l', e, VRels_iff.1 hr⟩
  · cases hl
    exact ⟨_, hv, All2.pls _⟩
  · cases hl
theorem partR_run {ty : TypeId} {l : List RV} {xs : Array Value} {off : Nat} {r : RV} (hl : All2 (VRel E) l xs.toList) (hs : partR P ty l off = some r) :
    ∃ v, VRel E r v ∧ ∀ w, (part ty xs off).run P w = .ok v w := by
  unfold partR at hs
  split at hs
  · rename_i ha
    split at hs
    · rename_i n hn
      cases hq : seg l off n with
      | none => rw [hq] at hs; cases hs
      | some q =>
        rw [hq] at hs
        cases hs
        obtain ⟨h1, rfl⟩ := seg_eq _ _ _ _ hq
        refine ⟨.agg ((xs.toList.drop off).take n).toArray, ⟨_, rfl, VRels_iff.2 ?_⟩, fun w => ?_⟩
        · simpa using (hl.drop off).take n
        · simp [part, quiet_run P _ _ ha w, run_sizeB hn w]
          apply Array.ext'
          simp
    · cases hs
  · rename_i ha
    obtain ⟨v, hv, hr⟩ := hl.get off r hs
    refine ⟨v, hr, fun w => ?_⟩
    have : xs[off]? = some v := by simpa using hv
    simp [part, quiet_run P _ _ ha w, this]
  · cases hs

theorem eqLeaf_run (hT : TOK g) {d : Nat} {ty : TypeId} {x y : RV} {u v : Value} {q : Bool} (hx : VRel E x u) (hy : VRel E y v) (h : eqLeaf P g ty x y = some q) (w : World) :
    (Op.equalIn (d + 1) ty u v).run P w = .ok q w := by
  have fI : ∀ x y : RV, VRel E x u → VRel E y v → ∀ k', P.underlying ty = some (.int k') → ∀ b, tlook g.T .ieq x y = some (.pl (.bool b)) → (Op.equalIn (d + 1) ty u v).run P w = .ok b w := by
    intro x y hx hy k' hu b hb
    obtain ⟨_, f1, f2, k, m, n, e1, e2, e3⟩ := tlook_true hT hb
    rw [cv_rel f1 hx, e1, cv_rel f2 hy, e2]
    have : b = (m == n) := by simpa [cv] using e3
    subst this
    exact run_equalIn_int w _ _ _ _ _ _ hu
  have fB : ∀ x y : RV, VRel E x u → VRel E y v → P.underlying ty = some .bool → ∀ b, tlook g.T .beq x y = some (.pl (.bool b)) → (Op.equalIn (d + 1) ty u v).run P w = .ok b w := by
    intro x y hx hy hu b hb
    obtain ⟨_, f1, f2, m, n, e1, e2, e3⟩ := tlook_true hT hb
    rw [cv_rel f1 hx, e1, cv_rel f2 hy, e2]
    have : b = (m == n) := by simpa [cv] using e3
    subst this
    exact run_equalIn_bool w _ _ _ _ hu
  have fS : ∀ x y : RV, VRel E x u → VRel E y v → P.underlying ty = some .string → ∀ b, tlook g.T .seq x y = some (.pl (.bool b)) → (Op.equalIn (d + 1) ty u v).run P w = .ok b w := by
    intro x y hx hy hu b hb
    obtain ⟨_, f1, f2, m, n, e1, e2, e3⟩ := tlook_true hT hb
    rw [cv_rel f1 hx, e1, cv_rel f2 hy, e2]
    have : b = (m.toList == n.toList) := by simpa [cv] using e3
    subst this
    exact run_equalIn_string w _ _ _ _ hu
  unfold eqLeaf at h
  split at h
  · cases hx; cases hy
    have := eqV_run 1 d ty _ _ q h w
    rwa [Nat.add_comm] at this
  · rename_i k0 k i k' j hu
    split at h
    · rename_i he
      cases h
      have e := eqS_eq he
      cases e
      have hx : u = .int k (Val.I i) := hx
      have hy : v = .int k (Val.I i) := hy
      rw [hx, hy, run_equalIn_int w _ _ _ _ _ _ hu]
      simp
    · split at h
      · rename_i b hb; cases h; exact fI _ _ hx hy _ hu _ hb
      · cases h
  · rename_i k0 hu _ _
    split at h
    · rename_i b hb; cases h; exact fI _ _ hx hy _ hu _ hb
    · cases h
  · rename_i i j hu
    split at h
    · rename_i he
      cases h
      have e := Nat.eq_of_beq_eq_true he
      cases e
      have hx : u = .bool (Val.B i) := hx
      have hy : v = .bool (Val.B i) := hy
      rw [hx, hy, run_equalIn_bool w _ _ _ _ hu]
      simp
    · split at h
      · rename_i b hb; cases h; exact fB _ _ hx hy hu _ hb
      · cases h
  · rename_i hu _ _
    split at h
    · rename_i b hb; cases h; exact fB _ _ hx hy hu _ hb
    · cases h
  · rename_i i j hu
    split at h
    · rename_i he
      cases h
      have e := Nat.eq_of_beq_eq_true he
      cases e
      have hx : u = .string (Val.S i) := hx
      have hy : v = .string (Val.S i) := hy
      rw [hx, hy, run_equalIn_string w _ _ _ _ hu]
      simp
    · split at h
      · rename_i b hb; cases h; exact fS _ _ hx hy hu _ hb
      · cases h
  · rename_i hu _ _
    split at h
    · rename_i b hb; cases h; exact fS _ _ hx hy hu _ hb
    · cases h
  · cases h

theorem eqFieldsR_run {d : Nat} {e : TypeId → RV → RV → Option Bool} (he : ∀ t x y u v q, VRel E x u → VRel E y v → e t x y = some q → ∀ w, (Op.equalIn d t u v).run P w = .ok q w) {l m : List RV} {xs ys : Array Value}
    (hl : All2 (VRel E) l xs.toList) (hm : All2 (VRel E) m ys.toList) :
    ∀ (fs : List Field) (q : Bool), eqFieldsR P e l m fs = some q → ∀ w, (Op.eqFields d xs ys fs).run P w = .ok q w := by
  intro fs
  induction fs with
  | nil => intro q hq w; cases hq; rfl
  | cons f fs ih =>
    intro q hq w
    have eq : eqFieldsR P e l m (f :: fs) = (if f.name = "_" then eqFieldsR P e l m fs else
      match partR P f.type l f.offset, partR P f.type m f.offset with
      | some a, some b => match e f.type a b with
        | some true => eqFieldsR P e l m fs
        | r => r
      | _, _ => none) := rfl
    rw [eq] at hq
    unfold Op.eqFields
    split at hq
    · rename_i hname
      rw [if_neg (by simpa using hname)]
      exact ih q hq w
    · rename_i hname
      rw [if_pos hname]
      split at hq
      · rename_i a b ha hb
        obtain ⟨va, ra, pa⟩ := partR_run hl ha
        obtain ⟨vb, rb, pb⟩ := partR_run hm hb
        simp only [Sem.run_bind, pa, pb, Result.andThen_ok]
        split at hq
        · rename_i hab
          simp only [he _ _ _ _ _ _ ra rb hab, Result.andThen_ok]
          simpa using ih q hq w
        · rename_i r hr hne
          have hqq : q = false := by
            cases q with
            | false => rfl
            | true => exact absurd hq (by simpa using hne)
          subst hqq
          simp [he _ _ _ _ _ _ ra rb hq]
      · cases hq

theorem run_equalIn_arrayR (d : Nat) (t elem : TypeId) (len n : Nat) {l m : List RV} (xs ys : Array Value) (hl : All2 (VRel E) l xs.toList) (hm : All2 (VRel E) m ys.toList) (ht : P.underlying t = some (.array len elem)) (hn : sizeB P elem = some n)
    {e : TypeId → RV → RV → Option Bool} (he : ∀ t x y u v q, VRel E x u → VRel E y v → e t x y = some q → ∀ w, (Op.equalIn d t u v).run P w = .ok q w) (q : Bool)
    (hq : eqElemsR P e elem n l m (List.range len) = some q) (w : World) : (Op.equalIn (d + 1) t (.agg xs) (.agg ys)).run P w = .ok q w := by
  simp only [Op.equalIn, Sem.run_bind, run_under ht, Result.andThen_ok, run_sizeB hn]
  rw [Std.Legacy.Range.forIn_eq_forIn_range']
  simp only [Std.Legacy.Range.size, Nat.sub_zero, Nat.add_sub_cancel, Nat.div_one, ← List.range_eq_range']
  generalize List.range len = is at hq
  induction is generalizing w with
  | nil => cases hq; rfl
  | cons i is ih =>
    have eq : eqElemsR P e elem n l m (i :: is) = (match partR P elem l (i * n), partR P elem m (i * n) with
      | some a, some b => match e elem a b with
        | some true => eqElemsR P e elem n l m is
        | r => r
      | _, _ => none) := rfl
    rw [eq] at hq
    split at hq
    · rename_i a b ha hb
      obtain ⟨va, ra, pa⟩ := partR_run hl ha
      obtain ⟨vb, rb, pb⟩ := partR_run hm hb
      simp only [List.forIn_cons, Sem.run_bind, pa, pb, Result.andThen_ok]
      split at hq
      · rename_i hab
        simp only [he _ _ _ _ _ _ ra rb hab, Result.andThen_ok, Bool.not_true, Bool.false_eq_true, if_false, Sem.run_pure]
        exact ih w hq
      · rename_i r hr hne
        have hqq : q = false := by
          cases q with
          | false => rfl
          | true => exact absurd hq (by simpa using hne)
        subst hqq
        simp [he _ _ _ _ _ _ ra rb hq]
    · cases hq

theorem eqR_run (hT : TOK g) : ∀ (d k : Nat) (t : TypeId) (x y : RV) (u v : Value) (q : Bool), VRel E x u → VRel E y v → eqR P g d t x y = some q → ∀ w, (Op.equalIn (d + k) t u v).run P w = .ok q w
  | 0, _, _, _, _, _, _, _, _, _, h => by cases h
  | d + 1, k, t, x, y, u, v, q, hx, hy, h => by
    have eq : eqR P g (d + 1) t x y = (match P.underlying t with
      | some (.struct fs) => match P.stoodInHeld t, aggL x, aggL y with
        | false, some xs, some ys => eqFieldsR P (eqR P g d) xs ys fs.toList
        | _, _, _ => none
      | some (.array len elem) => match sizeB P elem, aggL x, aggL y with
        | some n, some xs, some ys => eqElemsR P (eqR P g d) elem n xs ys (List.range len)
        | _, _, _ => none
      | _ => eqLeaf P g t x y) := rfl
    rw [eq] at h
    intro w
    rw [show d + 1 + k = (d + k) + 1 from by omega]
    split at h
    · rename_i fs hu
      split at h
      · rename_i l m hst hl hm
        obtain ⟨xs, rfl, rl⟩ := aggL_rel hl hx
        obtain ⟨ys, rfl, rm⟩ := aggL_rel hm hy
        have hfs : P.underlying t = some (.struct (P.fieldsOf t)) := by simp [Program.fieldsOf, hu]
        have hfe : P.fieldsOf t = fs := by simp [Program.fieldsOf, hu]
        rw [run_equalIn_struct w _ t xs ys hfs (by simpa using hst), hfe]
        exact eqFieldsR_run (fun t x y u v q hx hy hq w => eqR_run hT d k t x y u v q hx hy hq w) rl rm _ _ h w
      · cases h
    · rename_i len elem hu
      split at h
      · rename_i n l m hn hl hm
        obtain ⟨xs, rfl, rl⟩ := aggL_rel hl hx
        obtain ⟨ys, rfl, rm⟩ := aggL_rel hm hy
        exact run_equalIn_arrayR _ _ _ _ _ _ _ rl rm hu hn (fun t x y u v q hx hy hq w => eqR_run hT d k t x y u v q hx hy hq w) q h w
      · cases h
    · exact eqLeaf_run hT hx hy h w

omit [Val] in
theorem eqGuard_off {op : BinOp} {ty : TypeId} {a b : Operand} {u v : Value} (hg : P.eqGuardType P.depth ty = false) (hn : ¬ (u = .nilIface ∧ v = .nilIface)) (w : World) : (eqGuard op ty a b u v).run P w = .ok () w := by
  by_cases hq : ∃ xs ys, u = .agg xs ∧ v = .agg ys
  · obtain ⟨xs, ys, rfl, rfl⟩ := hq
    exact run_eqGuard_agg (P := P) w op ty a b xs ys hg
  · exact guard_other (fun xs ys h => hq ⟨xs, ys, h⟩) hn w
end
end Go.Ri
