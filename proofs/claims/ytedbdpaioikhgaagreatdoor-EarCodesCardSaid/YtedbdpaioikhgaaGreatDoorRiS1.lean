/- An interpreter for calls whose arguments are closed or names, and its soundness: a part of the proofs. -/
import Derived.Test.YtedbdpaioikhgaaGreatDoorRiDef
namespace Go.Ri
open Go Go.RowKit

theorem quiet_pure (P : Program) {α : Type} (a : α) : quiet P (Sem.pure a) = some a := rfl
theorem quiet_run (P : Program) {α : Type} (s : Sem α) (a : α) (h : quiet P s = some a) (w : World) : s.run P w = .ok a w := by
  induction s with
  | pure b => cases h; rfl
  | program k ih => exact ih P h
  | mark m k ih => exact ih h
  | _ => cases h

/-! Lists, related element by element. -/
inductive All2 {α β : Type} (R : α → β → Prop) : List α → List β → Prop
  | nil : All2 R [] []
  | cons {a b l m} : R a b → All2 R l m → All2 R (a :: l) (b :: m)

namespace All2
variable {α β : Type} {R S : α → β → Prop} {l l' : List α} {m m' : List β}
theorem length (h : All2 R l m) : l.length = m.length := by induction h <;> simp_all
theorem mono (hRS : ∀ a b, R a b → S a b) (h : All2 R l m) : All2 S l m := by
  induction h with
  | nil => exact .nil
  | cons r _ ih => exact .cons (hRS _ _ r) ih
theorem append (h : All2 R l m) (h' : All2 R l' m') : All2 R (l ++ l') (m ++ m') := by
  induction h with
  | nil => exact h'
  | cons r _ ih => exact .cons r ih
theorem take (h : All2 R l m) (n : Nat) : All2 R (l.take n) (m.take n) := by
  induction h generalizing n with
  | nil => simpa using All2.nil
  | cons r _ ih => cases n with
    | zero => exact .nil
    | succ n => exact .cons r (ih n)
theorem drop (h : All2 R l m) (n : Nat) : All2 R (l.drop n) (m.drop n) := by
  induction h generalizing n with
  | nil => simpa using All2.nil
  | cons r h ih => cases n with
    | zero => exact .cons r h
    | succ n => exact ih n
theorem get (h : All2 R l m) (i : Nat) (a : α) (ha : l[i]? = some a) : ∃ b, m[i]? = some b ∧ R a b := by
  induction h generalizing i with
  | nil => simp at ha
  | cons r _ ih => cases i with
    | zero => simp at ha; subst ha; exact ⟨_, by simp, r⟩
    | succ i => simp at ha ⊢; exact ih i ha
theorem get_none (h : All2 R l m) (i : Nat) (ha : l[i]? = none) : m[i]? = none := by
  have := h.length
  simp at ha ⊢
  omega
theorem set (h : All2 R l m) (i : Nat) {a : α} {b : β} (r : R a b) : All2 R (l.set i a) (m.set i b) := by
  induction h generalizing i with
  | nil => exact .nil
  | cons r' h ih => cases i with
    | zero => exact .cons r h
    | succ i => exact .cons r' (ih i)
theorem replicate (n : Nat) {a : α} {b : β} (r : R a b) : All2 R (List.replicate n a) (List.replicate n b) := by
  induction n with
  | zero => exact .nil
  | succ n ih => exact .cons r ih
theorem map {γ : Type} (f : γ → α) (g : γ → β) (h : ∀ x, R (f x) (g x)) : ∀ xs : List γ, All2 R (xs.map f) (xs.map g)
  | [] => .nil
  | x :: xs => .cons (h x) (map f g h xs)
theorem of_get (hl : l.length = m.length) (h : ∀ (i : Nat) (a : α), l[i]? = some a → ∃ b, m[i]? = some b ∧ R a b) : All2 R l m := by
  induction l generalizing m with
  | nil => cases m with
    | nil => exact .nil
    | cons => simp at hl
  | cons a l ih => cases m with
    | nil => simp at hl
    | cons b m =>
      obtain ⟨b', hb, r⟩ := h 0 a (by simp)
      simp at hb
      subst hb
      exact .cons r (ih (by simpa using hl) fun i a ha => by simpa using h (i + 1) a (by simpa using ha))
end All2

abbrev Env := List (Nat × Nat)

/-- What the names stand for. -/
class Val where
  I : Nat → Int
  B : Nat → Bool
  S : Nat → ByteArray
  V : Nat → { v : Value // v.oneCell' = true }
def TK.val [Val] : TK → Nat → Value
  | .int k, i => .int k (Val.I i)
  | .bool, i => .bool (Val.B i)
  | .str, i => .string (Val.S i)
  | .any, i => (Val.V i).1
theorem TK.one [Val] (k : TK) (i : Nat) : (k.val i).oneCell' = true := by
  cases k with
  | any => exact (Val.V i).2
  | _ => rfl
theorem TK.not_agg [Val] (k : TK) (i : Nat) (l : Array Value) : k.val i ≠ .agg l := by
  intro h
  have := k.one i
  rw [h] at this
  cases this
section
variable [Val]

mutual
def VRel (E : Env) : RV → Value → Prop
  | .pl u, v => v = u
  | .sym k i, v => v = k.val i
  | .el b i s, v => ∃ p, E[b]? = some p ∧ v = .pointer (some ⟨p.1, (Val.I i).toNat * s, none⟩)
  | .ptr b o, v => ∃ p, E[b]? = some p ∧ v = .pointer (some ⟨p.1, o, none⟩)
  | .sl b o n s c, v => ∃ p k, E[b]? = some p ∧ k = c.getD ((p.2 - o) / s) ∧ n ≤ k ∧ v = .slice (some ⟨p.1, o, none⟩) n k
  | .fn f a c, v => ∃ a' c', v = .func f a' c' ∧ VRels E a a'.toList ∧ VRels E c c'.toList
  | .agg l, v => ∃ l', v = .agg l' ∧ VRels E l l'.toList
  | .tup l, v => ∃ l', v = .tuple l' ∧ VRels E l l'.toList
def VRels (E : Env) : List RV → List Value → Prop
  | [], vs => vs = []
  | r :: l, vs => ∃ v vs', vs = v :: vs' ∧ VRel E r v ∧ VRels E l vs'
end

theorem VRels_iff {E : Env} : ∀ {l : List RV} {vs : List Value}, VRels E l vs ↔ All2 (VRel E) l vs
  | [], vs => by
    simp only [VRels]
    exact ⟨fun h => h ▸ .nil, fun h => by cases h; rfl⟩
  | r :: l, vs => by
    simp only [VRels]
    constructor
    · rintro ⟨v, vs', rfl, h, h'⟩
      exact .cons h (VRels_iff.1 h')
    · intro h
      cases h with
      | cons r h => exact ⟨_, _, rfl, r, VRels_iff.2 h⟩

omit [Val] in
theorem getElem?_prefix {α : Type} {E E' : List α} (h : E <+: E') {b : Nat} {p : α} (hb : E[b]? = some p) : E'[b]? = some p := by
  obtain ⟨t, rfl⟩ := h
  rw [List.getElem?_append_left]
  · exact hb
  · exact (List.getElem?_eq_some_iff.1 hb).1

mutual
theorem VRel.ext {E E' : Env} (h : E <+: E') : ∀ (r : RV) (v : Value), VRel E r v → VRel E' r v
  | .pl _, _, hv => hv
  | .sym _ _, _, hv => hv
  | .el _ _ _, _, ⟨p, hp, hv⟩ => ⟨p, getElem?_prefix h hp, hv⟩
  | .ptr _ _, _, ⟨p, hp, hv⟩ => ⟨p, getElem?_prefix h hp, hv⟩
  | .sl _ _ _ _ _, _, ⟨p, k, hp, hv⟩ => ⟨p, k, getElem?_prefix h hp, hv⟩
  | .fn _ a c, _, ⟨a', c', hv, ha, hc⟩ => ⟨a', c', hv, VRels.ext h a _ ha, VRels.ext h c _ hc⟩
  | .agg l, _, ⟨l', hv, hl⟩ => ⟨l', hv, VRels.ext h l _ hl⟩
  | .tup l, _, ⟨l', hv, hl⟩ => ⟨l', hv, VRels.ext h l _ hl⟩
theorem VRels.ext {E E' : Env} (h : E <+: E') : ∀ (l : List RV) (vs : List Value), VRels E l vs → VRels E' l vs
  | [], _, hv => hv
  | r :: l, _, ⟨v, vs', e, hv, hl⟩ => ⟨v, vs', e, VRel.ext h r v hv, VRels.ext h l vs' hl⟩
end

mutual
theorem VRel.fn {E : Env} : ∀ (r : RV) (v v' : Value), VRel E r v → VRel E r v' → v = v'
  | .pl _, _, _, h, h' => h.trans h'.symm
  | .sym _ _, _, _, h, h' => h.trans h'.symm
  | .el _ _ _, _, _, ⟨p, hp, hv⟩, ⟨p', hp', hv'⟩ => by
    rw [hp] at hp'; cases hp'; rw [hv, hv']
  | .ptr _ _, _, _, ⟨p, hp, hv⟩, ⟨p', hp', hv'⟩ => by
    rw [hp] at hp'; cases hp'; rw [hv, hv']
  | .sl _ _ _ _ _, _, _, ⟨p, k, hp, hk, _, hv⟩, ⟨p', k', hp', hk', _, hv'⟩ => by
    rw [hp] at hp'; cases hp'; rw [hv, hv', hk, hk']
  | .fn _ a c, _, _, ⟨a1, c1, hv, ha, hc⟩, ⟨a2, c2, hv', ha', hc'⟩ => by
    have e1 := VRels.fn a _ _ ha ha'
    have e2 := VRels.fn c _ _ hc hc'
    rw [hv, hv', Array.toList_inj.1 e1, Array.toList_inj.1 e2]
  | .agg l, _, _, ⟨l1, hv, hl⟩, ⟨l2, hv', hl'⟩ => by
    have e1 := VRels.fn l _ _ hl hl'
    rw [hv, hv', Array.toList_inj.1 e1]
  | .tup l, _, _, ⟨l1, hv, hl⟩, ⟨l2, hv', hl'⟩ => by
    have e1 := VRels.fn l _ _ hl hl'
    rw [hv, hv', Array.toList_inj.1 e1]
theorem VRels.fn {E : Env} : ∀ (l : List RV) (vs vs' : List Value), VRels E l vs → VRels E l vs' → vs = vs'
  | [], _, _, h, h' => h.trans h'.symm
  | r :: l, _, _, ⟨v, vs1, e, hv, hl⟩, ⟨v', vs2, e', hv', hl'⟩ => by
    rw [e, e', VRel.fn r v v' hv hv', VRels.fn l vs1 vs2 hl hl']
end

theorem All2.ext {E E' : Env} (h : E <+: E') {l : List RV} {vs : List Value} (hl : All2 (VRel E) l vs) : All2 (VRel E') l vs :=
  hl.mono fun r v => VRel.ext h r v
theorem All2.pls {E : Env} : ∀ vs : List Value, All2 (VRel E) (vs.map .pl) vs
  | [] => .nil
  | _ :: vs => .cons rfl (All2.pls vs)

omit [Val] in
theorem plains_spec {l : List RV} {vs : List Value} (h : plains l = some vs) : l = vs.map .pl := by
  induction l generalizing vs with
  | nil => cases h; rfl
  | cons r l ih =>
    cases r with
    | pl v =>
      have e : plains (.pl v :: l) = (match plains l with | some vs => some (v :: vs) | none => none) := rfl
      rw [e] at h
      cases hl : plains l with
      | none => rw [hl] at h; cases h
      | some vs' => rw [hl] at h; cases h; simp [ih hl]
    | _ => cases h
theorem plains_rel {E : Env} {l : List RV} {vs us : List Value} (h : plains l = some vs) (hr : All2 (VRel E) l us) : us = vs := by
  subst_vars
  have := plains_spec h
  subst this
  exact VRels.fn _ _ _ (VRels_iff.2 hr) (VRels_iff.2 (All2.pls vs))
theorem mkAgg_rel {E : Env} {l : List RV} {vs : List Value} (h : All2 (VRel E) l vs) : VRel E (mkAgg l) (.agg vs.toArray) := by
  unfold mkAgg
  split
  · rename_i us hus
    have := plains_rel hus h
    subst this
    rfl
  · exact ⟨vs.toArray, rfl, VRels_iff.2 (by simpa using h)⟩
theorem mkTup_rel {E : Env} {l : List RV} {vs : List Value} (h : All2 (VRel E) l vs) : VRel E (mkTup l) (.tuple vs.toArray) := by
  unfold mkTup
  split
  · rename_i us hus
    have := plains_rel hus h
    subst this
    rfl
  · exact ⟨vs.toArray, rfl, VRels_iff.2 (by simpa using h)⟩
theorem cellsOf_rel {E : Env} {r : RV} {v : Value} (h : VRel E r v) : All2 (VRel E) (cellsOf r) v.cells.toList := by
  cases r with
  | pl u => cases h; exact All2.pls _
  | sym k i =>
    cases h
    have e : (k.val i).cells.toList = [k.val i] := by
      have := TK.not_agg k i
      generalize k.val i = v at this
      cases v with
      | agg l => exact absurd rfl (this l)
      | _ => rfl
    rw [e]
    exact .cons rfl .nil
  | el b i s => obtain ⟨p, hp, rfl⟩ := h; exact .cons ⟨p, hp, rfl⟩ .nil
  | ptr b o => obtain ⟨p, hp, rfl⟩ := h; exact .cons ⟨p, hp, rfl⟩ .nil
  | sl b o n s c => obtain ⟨p, k, hp, hk, hn, rfl⟩ := h; exact .cons ⟨p, k, hp, hk, hn, rfl⟩ .nil
  | fn f a c => obtain ⟨a', c', rfl, ha, hc⟩ := h; exact .cons ⟨a', c', rfl, ha, hc⟩ .nil
  | agg l => obtain ⟨l', rfl, hl⟩ := h; exact VRels_iff.1 hl
  | tup l => obtain ⟨l', rfl, hl⟩ := h; exact .cons ⟨l', rfl, hl⟩ .nil
theorem one_rel {E : Env} {r : RV} {v : Value} (h : VRel E r v) (h1 : one r = true) : v.oneCell' = true := by
  cases r with
  | pl u => cases h; exact h1
  | sym k i => cases h; exact k.one i
  | el b i s => obtain ⟨p, hp, rfl⟩ := h; rfl
  | ptr b o => obtain ⟨p, hp, rfl⟩ := h; rfl
  | sl b o n s c => obtain ⟨p, k, hp, hk, hn, rfl⟩ := h; rfl
  | fn f a c => obtain ⟨a', c', rfl, ha, hc⟩ := h; rfl
  | agg l => cases h1
  | tup l => cases h1
theorem all_one_rel {E : Env} {l : List RV} {vs : List Value} (h : All2 (VRel E) l vs) (h1 : l.all one = true) : ∀ v ∈ vs, v.oneCell' = true := by
  induction h with
  | nil => simp
  | cons r _ ih =>
    simp at h1
    intro v hv
    simp at hv
    rcases hv with rfl | hv
    · exact one_rel r h1.1
    · exact ih (by simpa using h1.2) v hv

/-! What stands for itself or by a name. -/
def cv : RV → Value
  | .pl v => v
  | .sym k i => k.val i
  | _ => undef
theorem cv_rel {E : Env} {r : RV} {v : Value} (hf : flat0 r = true) (h : VRel E r v) : v = cv r := by
  cases r with
  | pl u => exact h
  | sym k i => exact h
  | _ => cases hf
theorem rel_cv {E : Env} {r : RV} (hf : flat0 r = true) : VRel E r (cv r) := by
  cases r with
  | pl u => exact rfl
  | sym k i => exact rfl
  | _ => cases hf
theorem flat0_rel {E E' : Env} {r : RV} {v : Value} (hf : flat0 r = true) (h : VRel E r v) : VRel E' r v := by
  cases r with
  | pl u => exact h
  | sym k i => exact h
  | _ => cases hf
theorem flat0s_rel {E E' : Env} {l : List RV} {vs : List Value} (hf : l.all flat0 = true) (h : All2 (VRel E) l vs) : All2 (VRel E') l vs := by
  induction h with
  | nil => exact .nil
  | cons r _ ih =>
    simp only [List.all_cons, Bool.and_eq_true] at hf
    exact .cons (flat0_rel hf.1 r) (ih hf.2)
theorem flat1_rel {E E' : Env} {r : RV} {v : Value} (hf : flat1 r = true) (h : VRel E r v) : VRel E' r v := by
  cases r with
  | agg l => obtain ⟨l', hv, hl⟩ := h; exact ⟨l', hv, VRels_iff.2 (flat0s_rel hf (VRels_iff.1 hl))⟩
  | pl u => exact h
  | sym k i => exact h
  | _ => cases hf
theorem flat1s_rel {E E' : Env} {l : List RV} {vs : List Value} (hf : l.all flat1 = true) (h : All2 (VRel E) l vs) : All2 (VRel E') l vs := by
  induction h with
  | nil => exact .nil
  | cons r _ ih =>
    simp only [List.all_cons, Bool.and_eq_true] at hf
    exact .cons (flat1_rel hf.1 r) (ih hf.2)
theorem flat_rel {E E' : Env} {r : RV} {v : Value} (hf : flat r = true) (h : VRel E r v) : VRel E' r v := by
  cases r with
  | tup l => obtain ⟨l', hv, hl⟩ := h; exact ⟨l', hv, VRels_iff.2 (flat1s_rel hf (VRels_iff.1 hl))⟩
  | agg l => exact flat1_rel (r := .agg l) hf h
  | pl u => exact h
  | sym k i => exact h
  | _ => cases hf
/-- What is flat stands for one value. -/
def cv1 : RV → Value
  | .agg l => .agg (l.map cv).toArray
  | r => cv r
def cvF : RV → Value
  | .tup l => .tuple (l.map cv1).toArray
  | r => cv1 r
theorem rel_cvs {E : Env} : ∀ l : List RV, l.all flat0 = true → All2 (VRel E) l (l.map cv)
  | [], _ => .nil
  | r :: l, h => by
    simp only [List.all_cons, Bool.and_eq_true] at h
    exact .cons (rel_cv h.1) (rel_cvs l h.2)
theorem rel_cv1 {E : Env} {r : RV} (hf : flat1 r = true) : VRel E r (cv1 r) := by
  cases r with
  | agg l => exact ⟨_, rfl, VRels_iff.2 (by simpa using rel_cvs l hf)⟩
  | pl u => exact rfl
  | sym k i => exact rfl
  | _ => cases hf
theorem rel_cv1s {E : Env} : ∀ l : List RV, l.all flat1 = true → All2 (VRel E) l (l.map cv1)
  | [], _ => .nil
  | r :: l, h => by
    simp only [List.all_cons, Bool.and_eq_true] at h
    exact .cons (rel_cv1 h.1) (rel_cv1s l h.2)
theorem rel_cvF {E : Env} {r : RV} (hf : flat r = true) : VRel E r (cvF r) := by
  cases r with
  | tup l => exact ⟨_, rfl, VRels_iff.2 (by simpa using rel_cv1s l hf)⟩
  | agg l => exact rel_cv1 (r := .agg l) hf
  | pl u => exact rfl
  | sym k i => exact rfl
  | _ => cases hf
theorem flats_rel {E E' : Env} {l : List RV} {vs : List Value} (hf : l.all flat = true) (h : All2 (VRel E) l vs) : All2 (VRel E') l vs := by
  induction h with
  | nil => exact .nil
  | cons r _ ih =>
    simp only [List.all_cons, Bool.and_eq_true] at hf
    exact .cons (flat_rel hf.1 r) (ih hf.2)
end

theorem lkp_eq : ∀ (h : RH) (b : Nat), lkp h b = (h[b]?).join
  | [], _ => rfl
  | _ :: _, 0 => rfl
  | _ :: h, b + 1 => (lkp_eq h b).trans (by simp)
theorem nth_eq : ∀ (l : List RV) (i : Nat), nth l i = l.getD i (.pl undef)
  | [], _ => rfl
  | _ :: _, 0 => rfl
  | _ :: l, i + 1 => (nth_eq l i).trans (by simp)
theorem takeN_eq : ∀ (n : Nat) (l r : List RV), takeN n l = some r → n ≤ l.length ∧ r = l.take n
  | 0, l, r, h => by cases h; simp
  | n + 1, [], r, h => by cases h
  | n + 1, x :: l, r, h => by
    have e : takeN (n + 1) (x :: l) = (match takeN n l with | some r => some (x :: r) | none => none) := rfl
    rw [e] at h
    cases hq : takeN n l with
    | none => rw [hq] at h; cases h
    | some q =>
      rw [hq] at h
      cases h
      obtain ⟨h1, h2⟩ := takeN_eq n l q hq
      subst h2
      exact ⟨by simp; omega, by simp⟩
theorem seg_eq : ∀ (l : List RV) (o n : Nat) (r : List RV), seg l o n = some r → o + n ≤ l.length ∧ r = (l.drop o).take n
  | l, 0, n, r, h => by
    have := takeN_eq n l r h
    simpa using this
  | [], o + 1, n, r, h => by cases h
  | x :: l, o + 1, n, r, h => by
    have := seg_eq l o n r h
    simp
    exact ⟨by omega, this.2⟩
