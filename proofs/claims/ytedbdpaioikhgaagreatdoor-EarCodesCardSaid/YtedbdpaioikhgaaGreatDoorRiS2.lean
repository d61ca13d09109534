/- An interpreter for calls whose arguments are closed or names, and its soundness: a part of the proofs. -/
import Derived.Test.YtedbdpaioikhgaaGreatDoorRiS1
namespace Go.Ri
open Go Go.RowKit
variable [Val]

def BRel (E : Env) (p : Nat × Nat) (w : World) : RO → Prop
  | .cells l e room froz => ∃ cur fr, w.heap[p.1]? = some (.cells cur e fr) ∧ cur.size = p.2 ∧ All2 (VRel E) l (cur.toList.take l.length) ∧
      (room = false → l.length = p.2) ∧ (froz = false → fr = (0, 0))
  | .iter s pos => w.heap[p.1]? = some (.stringIter s pos)
  | .lent l e => ∃ cur fr, w.heap[p.1]? = some (.cells cur e fr) ∧ cur.size = p.2 ∧ All2 (VRel E) l (cur.toList.take l.length)
/-- Is a block the run's own. -/
def RO.own : RO → Bool
  | .lent _ _ => false
  | _ => true

def at? (h : RH) (b : Nat) : Option RO := (h[b]?).join

structure HInv (ro : Ro) (base : Nat) (w0 : World) (E : Env) (h : RH) (w : World) : Prop where
  below : Below base w0 w
  lb : base ≤ w0.heap.size
  len : h.length = E.length
  ro : ∀ g cs, ro.lookup g = some cs → g < base ∧ ∃ cur e fr, w0.heap[g]? = some (.cells cur e fr) ∧ cur.toList = cs
  blk : ∀ b o, at? h b = some o → ∃ p, E[b]? = some p ∧ (if o.own then base ≤ p.1 else p.1 < base) ∧ BRel E p w o
  inj : ∀ b b' o o' p p', at? h b = some o → at? h b' = some o' → o.own = true → o'.own = true → E[b]? = some p → E[b']? = some p' → p.1 = p'.1 → b = b'

omit [Val] in
theorem at?_lt {h : RH} {b : Nat} {o : RO} (hb : at? h b = some o) : b < h.length := by
  unfold at? at hb
  by_cases hlt : b < h.length
  · exact hlt
  · rw [List.getElem?_eq_none (by omega)] at hb
    cases hb
omit [Val] in
theorem at?_push_old {h : RH} {b : Nat} {x : Option RO} (hb : b < h.length) : at? (h ++ [x]) b = at? h b := by
  unfold at?
  rw [List.getElem?_append_left hb]
omit [Val] in
theorem at?_push_new (h : RH) (x : Option RO) : at? (h ++ [x]) h.length = x := by
  unfold at?
  rw [List.getElem?_append_right (by omega)]
  simp
omit [Val] in
theorem at?_push_far {h : RH} {b : Nat} {x : Option RO} (hb : h.length < b) : at? (h ++ [x]) b = none := by
  unfold at?
  rw [List.getElem?_eq_none (by simp; omega)]
  rfl
omit [Val] in
theorem at?_set_same {h : RH} {b : Nat} (x : Option RO) (hb : b < h.length) : at? (h.set b x) b = x := by
  unfold at?
  rw [List.getElem?_set_self hb]
  rfl
omit [Val] in
theorem at?_set_other {h : RH} {b b' : Nat} (x : Option RO) (hb : b ≠ b') : at? (h.set b x) b' = at? h b' := by
  unfold at?
  rw [List.getElem?_set_ne hb]

theorem BRel.heap_lt {E : Env} {p : Nat × Nat} {w : World} {o : RO} (h : BRel E p w o) : p.1 < w.heap.size := by
  have key : ∀ x : Obj, w.heap[p.1]? = some x → p.1 < w.heap.size := fun x hx => (Array.getElem?_eq_some_iff.1 hx).1
  cases o with
  | cells l e room froz => obtain ⟨cur, fr, hh, _⟩ := h; exact key _ hh
  | iter s pos => exact key _ h
  | lent l e => obtain ⟨cur, fr, hh, _⟩ := h; exact key _ hh
theorem BRel.keep {E E' : Env} (hE : E <+: E') {p : Nat × Nat} {w w' : World} {o : RO} (hh : w'.heap[p.1]? = w.heap[p.1]?) (h : BRel E p w o) : BRel E' p w' o := by
  cases o with
  | cells l e room froz =>
    obtain ⟨cur, fr, h1, h2, h3, h4⟩ := h
    exact ⟨cur, fr, hh.trans h1, h2, h3.ext hE, h4⟩
  | iter s pos => exact hh.trans h
  | lent l e =>
    obtain ⟨cur, fr, h1, h2, h3⟩ := h
    exact ⟨cur, fr, hh.trans h1, h2, h3.ext hE⟩

section
variable {ro : Ro} {base : Nat} {w0 : World} {E : Env} {h : RH} {w : World}

theorem HInv.size (H : HInv ro base w0 E h w) : base ≤ w.heap.size := Nat.le_trans H.lb H.below.size

/-- A draw. -/
theorem HInv.drew (H : HInv ro base w0 E h w) : HInv ro base w0 E h w.drew :=
  ⟨H.below.drew, H.lb, H.len, H.ro, H.blk, H.inj⟩

/-- A world in which all blocks that were there are as they were. -/
theorem HInv.world {w' : World} (H : HInv ro base w0 E h w) (hb : Below w.heap.size w w') : HInv ro base w0 E h w' :=
  ⟨H.below.trans (hb.mono H.size), H.lb, H.len, H.ro, fun b o hbo => by
    obtain ⟨p, h1, h2, h3⟩ := H.blk b o hbo
    exact ⟨p, h1, h2, h3.keep (List.prefix_refl E) (hb.block _ h3.heap_lt)⟩, H.inj⟩

/-- A block given up. -/
theorem HInv.kill (H : HInv ro base w0 E h w) (b : Nat) : HInv ro base w0 E (h.set b none) w := by
  have key : ∀ b' o, at? (h.set b none) b' = some o → at? h b' = some o := fun b' o hb => by
    by_cases e : b = b'
    · subst e
      have hlt := at?_lt hb
      rw [at?_set_same none (by simpa using hlt)] at hb
      cases hb
    · rwa [at?_set_other none e] at hb
  exact ⟨H.below, H.lb, by simpa using H.len, H.ro, fun b' o hb => H.blk b' o (key _ _ hb), fun b1 b2 o1 o2 p1 p2 h1 h2 => H.inj b1 b2 o1 o2 p1 p2 (key _ _ h1) (key _ _ h2)⟩

/-- A block behind the others, whichever real block it is, as long as no other one is it. -/
theorem HInv.blk1 (H : HInv ro base w0 E h w) (b : Nat) (o : RO) (hb : at? h b = some o) (ho : o.own = true) : ∃ p, E[b]? = some p ∧ base ≤ p.1 ∧ BRel E p w o := by
  obtain ⟨p, h1, h2, h3⟩ := H.blk b o hb
  rw [if_pos ho] at h2
  exact ⟨p, h1, h2, h3⟩
theorem HInv.push (H : HInv ro base w0 E h w) (p : Nat × Nat) (o : RO) (hown : o.own = true) (hp : base ≤ p.1) (hnew : ∀ b o' p', at? h b = some o' → E[b]? = some p' → p'.1 ≠ p.1)
    (ho : BRel (E ++ [p]) p w o) : HInv ro base w0 (E ++ [p]) (h ++ [some o]) w := by
  have hE : E <+: E ++ [p] := List.prefix_append _ _
  have old : ∀ b o', at? (h ++ [some o]) b = some o' → (b < h.length ∧ at? h b = some o') ∨ (b = h.length ∧ o' = o) := fun b o' hb => by
    by_cases h1 : b < h.length
    · exact .inl ⟨h1, by rwa [at?_push_old h1] at hb⟩
    · by_cases h2 : b = h.length
      · subst h2
        rw [at?_push_new] at hb
        cases hb
        exact .inr ⟨rfl, rfl⟩
      · rw [at?_push_far (by omega)] at hb
        cases hb
  have atnew : (E ++ [p])[h.length]? = some p := by rw [H.len]; simp
  have atold : ∀ b, b < h.length → (E ++ [p])[b]? = E[b]? := fun b hb => List.getElem?_append_left (by have := H.len; omega)
  refine ⟨H.below, H.lb, by simp [H.len], H.ro, fun b o' hb => ?_, fun b b' o1 o2 p1 p2 h1 h2 w1 w2 e1 e2 e3 => ?_⟩
  · rcases old b o' hb with ⟨hlt, hb⟩ | ⟨rfl, rfl⟩
    · obtain ⟨q, h1, h2, h3⟩ := H.blk b o' hb
      exact ⟨q, getElem?_prefix hE h1, h2, h3.keep hE rfl⟩
    · exact ⟨p, atnew, by rw [if_pos hown]; exact hp, ho⟩
  · rcases old b o1 h1 with ⟨hl1, k1⟩ | ⟨r1, s1⟩ <;> rcases old b' o2 h2 with ⟨hl2, k2⟩ | ⟨r2, s2⟩
    · rw [atold _ hl1] at e1
      rw [atold _ hl2] at e2
      exact H.inj b b' o1 o2 p1 p2 k1 k2 w1 w2 e1 e2 e3
    · rw [atold _ hl1] at e1
      rw [r2, atnew] at e2
      cases e2
      exact absurd e3 (hnew b o1 p1 k1 e1)
    · rw [r1, atnew] at e1
      rw [atold _ hl2] at e2
      cases e1
      exact absurd e3.symm (hnew b' o2 p2 k2 e2)
    · rw [r1, r2]

theorem HInv.heap_ne (H : HInv ro base w0 E h w) {b : Nat} {o : RO} {p : Nat × Nat} (hb : at? h b = some o) (hp : E[b]? = some p) : p.1 < w.heap.size := by
  obtain ⟨q, h1, _, h3⟩ := H.blk b o hb
  rw [hp] at h1
  cases h1
  exact h3.heap_lt

/-- A new block. -/
theorem HInv.alloc (H : HInv ro base w0 E h w) (ob : Obj) (n : Nat) (o : RO) (hown : o.own = true) (ho : BRel (E ++ [(w.heap.size, n)]) (w.heap.size, n) (w.alloc ob) o) :
    HInv ro base w0 (E ++ [(w.heap.size, n)]) (h ++ [some o]) (w.alloc ob) := by
  have H' : HInv ro base w0 E h (w.alloc ob) := H.world ((Below.refl _ _).alloc (Nat.le_refl _) ob)
  exact H'.push _ o hown H.size (fun b o' p' hb hp => Nat.ne_of_lt (H.heap_ne hb hp)) ho

theorem HInv.allocCells (H : HInv ro base w0 E h w) (cur : Array Value) (e : TypeId) (l : List RV) (room : Bool)
    (hl : All2 (VRel E) l (cur.toList.take l.length)) (hr : room = false → l.length = cur.size) :
    HInv ro base w0 (E ++ [(w.heap.size, cur.size)]) (h ++ [some (.cells l e room false)]) (w.alloc (.cells cur e)) :=
  H.alloc _ _ _ rfl ⟨cur, (0, 0), heap_alloc_new w _, rfl, hl.ext (List.prefix_append _ _), hr, fun _ => rfl⟩

/-- A block written anew. -/
theorem HInv.write (H : HInv ro base w0 E h w) {b : Nat} {o o' : RO} {p : Nat × Nat} (hb : at? h b = some o) (hp : E[b]? = some p) (hw : o.own = true) (hw' : o'.own = true) (w' : World) (hB : Below base w w')
    (hother : ∀ k, k ≠ p.1 → k < w.heap.size → w'.heap[k]? = w.heap[k]?) (ho : BRel E p w' o') : HInv ro base w0 E (h.set b (some o')) w' := by
  have hlt := at?_lt hb
  have key : ∀ b' x, at? (h.set b (some o')) b' = some x → (b' = b ∧ x = o') ∨ (b ≠ b' ∧ at? h b' = some x) := fun b' x hx => by
    by_cases e : b = b'
    · subst e
      rw [at?_set_same _ hlt] at hx
      cases hx
      exact .inl ⟨rfl, rfl⟩
    · exact .inr ⟨e, by rwa [at?_set_other _ e] at hx⟩
  have alive : ∀ b' x, at? (h.set b (some o')) b' = some x → x.own = true → ∃ y, at? h b' = some y ∧ y.own = true := fun b' x hx hxo => by
    rcases key b' x hx with ⟨rfl, rfl⟩ | ⟨_, h1⟩
    · exact ⟨o, hb, hw⟩
    · exact ⟨x, h1, hxo⟩
  refine ⟨H.below.trans hB, H.lb, by simpa using H.len, H.ro, fun b' x hx => ?_, fun b1 b2 o1 o2 p1 p2 h1 h2 v1 v2 => ?_⟩
  · rcases key b' x hx with ⟨rfl, rfl⟩ | ⟨hne, h1⟩
    · obtain ⟨q, e1, e2, _⟩ := H.blk1 b' o hb hw
      rw [hp] at e1
      cases e1
      exact ⟨p, hp, by rw [if_pos hw']; exact e2, ho⟩
    · obtain ⟨q, e1, e2, e3⟩ := H.blk b' x h1
      have hq : q.1 ≠ p.1 := fun e => by
        cases hx : x.own with
        | true => exact hne (H.inj b b' o x p q hb h1 hw hx hp e1 e.symm)
        | false =>
          obtain ⟨p0, g1, g2, _⟩ := H.blk1 b o hb hw
          rw [hp] at g1
          cases g1
          rw [hx, if_neg (by simp)] at e2
          omega
      exact ⟨q, e1, e2, e3.keep (List.prefix_refl E) (hother _ hq e3.heap_lt)⟩
  · obtain ⟨y1, hy1, z1⟩ := alive b1 o1 h1 v1
    obtain ⟨y2, hy2, z2⟩ := alive b2 o2 h2 v2
    exact H.inj b1 b2 y1 y2 p1 p2 hy1 hy2 z1 z2

omit [Val] in
theorem below_setRow (w : World) (g : Nat) (cs : Array Value) (hb : base ≤ g) : Below base w (w.setRow g cs) :=
  ⟨rfl, rfl, rfl, by simp, fun k hk => setRow_other w g k cs (by omega)⟩

/-- What getCells finds. -/
theorem HInv.getCells (H : HInv ro base w0 E h w) {b o n : Nat} {l : List RV} (hg : getCells h b o n = some l) :
    ∃ p cur e fr, E[b]? = some p ∧ w.heap[p.1]? = some (.cells cur e fr) ∧ cur.size = p.2 ∧ o + n ≤ cur.size ∧ l.length = n ∧ All2 (VRel E) l ((cur.toList.drop o).take n) := by
  unfold Ri.getCells at hg
  split at hg
  · rename_i l0 e room froz hl
    rw [lkp_eq] at hl
    obtain ⟨p, h1, h2, cur, fr, h3, h4, h5, h6⟩ := H.blk b _ hl
    obtain ⟨hlen, rfl⟩ := seg_eq _ _ _ _ hg
    have hlc := h5.length
    have hle : l0.length ≤ cur.size := by simp at hlc; omega
    refine ⟨p, cur, e, fr, h1, h3, h4, by omega, by simp; omega, ?_⟩
    have := (h5.drop o).take n
    rw [List.drop_take, List.take_take, Nat.min_eq_left (by omega)] at this
    exact this
  · rename_i l0 e hl
    rw [lkp_eq] at hl
    obtain ⟨p, h1, h2, cur, fr, h3, h4, h5⟩ := H.blk b _ hl
    obtain ⟨hlen, rfl⟩ := seg_eq _ _ _ _ hg
    have hlc := h5.length
    have hle : l0.length ≤ cur.size := by simp at hlc; omega
    refine ⟨p, cur, e, fr, h1, h3, h4, by omega, by simp; omega, ?_⟩
    have := (h5.drop o).take n
    rw [List.drop_take, List.take_take, Nat.min_eq_left (by omega)] at this
    exact this
  · cases hg

omit [Val] in
theorem add_lit (b o n : Nat) : (⟨b, o, none⟩ : Addr).add n = ⟨b, o + n, none⟩ := by
  unfold Addr.add
  split <;> simp_all

omit [Val] in
/-- The cells of a found segment, as the run of a load wants them. -/
theorem seg_cells {g o n : Nat} {cur : Array Value} {e : TypeId} {fr : Nat × Nat} (hg : w.heap[g]? = some (.cells cur e fr)) :
    ∀ j v, ((cur.toList.drop o).take n)[j]? = some v → w.cell? ((⟨g, o, none⟩ : Addr).add j) = some v := by
  intro j v hv
  rw [add_lit, cell_of_row w g (o + j) cur e fr hg]
  rw [List.getElem?_take] at hv
  split at hv
  · simpa using hv
  · cases hv
end
end Go.Ri
