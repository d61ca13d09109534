/- An interpreter for calls whose arguments are closed or names, and its soundness: a part of the proofs. -/
import Derived.Test.YtedbdpaioikhgaaGreatDoorRiS7
namespace Go.Ri
open Go Go.RowKit
variable [Val]

section
variable {P : Program} {ro : Ro} {base : Nat} {w0 : World} {E : Env} {h : RH} {w : World}

theorem fit_copy (H : HInv ro base w0 E h w) {argTypes : Array TypeId} {ty : TypeId} {d x : RV} {ud u : Value} {e : Eff} (hd : VRel E d ud) (hx : VRel E x u) (hs : copyOp P h argTypes d x = some e) :
    Fits ro base w0 E h w ((vSem (Builtin.copy_ argTypes ty #[ud, u])).run P w) e := by
  unfold copyOp at hs
  split at hs
  · rename_i tD rest hT
    have hT0 : argTypes[0]? = some tD := by
      have : argTypes.toList[0]? = some tD := by rw [hT]; rfl
      simpa using this
    split at hs
    · rename_i elem ht
      split at hs
      · rename_i sz hsz
        split at hs
        · rename_i b o n s c b2 o2 n2 s2 c2
          split at hs
          · rename_i hc
            simp only [Bool.and_eq_true, decide_eq_true_eq] at hc
            obtain ⟨rfl, rfl⟩ := hc
            obtain ⟨p, k, hp, hk, hnk, rfl⟩ := hd
            obtain ⟨p2, k2, hp2, hk2, hnk2, rfl⟩ := hx
            cases hg : getCells h b2 o2 (Nat.min n2 n * s2) with
            | none => rw [hg] at hs; cases hs
            | some l =>
              rw [hg] at hs
              simp only [Option.bind_some] at hs
              cases hput : putCells h b o l with
              | none => rw [hput] at hs; cases hs
              | some ob =>
                rw [hput] at hs
                cases hs
                obtain ⟨q, cur, e, fr, h1, h2, h3, h4, h5, h6⟩ := H.getCells hg
                rw [hp2] at h1
                cases h1
                obtain ⟨w', hrun, H'⟩ := fit_put (P := P) H h6 hp hput
                have hl := run_loadCells_list (P := P) w ⟨p2.1, o2, none⟩ _ (seg_cells (w := w) (o := o2) (n := Nat.min n2 n * s2) h2)
                rw [← h6.length, h5] at hl
                refine ⟨E, _, w', List.prefix_refl E, rfl, .inl (run_vSem ?_), H'⟩
                simp only [Builtin.copy_, hT0]
                simp [run_under ht, Builtin.lenOf, Builtin.firstCells, run_sizeB hsz, hl, hrun]
          · cases hs
        · cases hs
          cases hx
          obtain ⟨p, k, hp, hk, hnk, rfl⟩ := hd
          refine ⟨_, rfl, .inl (run_vSem ?_)⟩
          simp only [Builtin.copy_, hT0]
          simp [run_under ht, Builtin.lenOf, Builtin.firstCells, run_sizeB hsz, storeCells]
        · cases hs
      · cases hs
    · cases hs
  · cases hs

omit [Val] in
theorem toList_one {α : Type} {a : Array α} {x : α} (h : a.toList = [x]) : a = #[x] := by
  apply Array.ext'
  rw [h]

omit [Val] in
theorem fit_lenS {argTypes : Array TypeId} {ty t : TypeId} {s : ByteArray} (hT : argTypes.toList = [t]) (hu : P.underlying t = some .string) (w : World) :
    (Builtin.len_ argTypes ty #[.string s]).run P w = .ok (goInt (lenB s.data.toList)) w := by
  rw [toList_one hT, lenB_eq]
  simp [Builtin.len_, run_under hu]

theorem fit_conv (H : HInv ro base w0 E h w) {sT dT : TypeId} {x v : RV} {u : Value} (hx : VRel E x u) (hs : unsafeConv P h sT dT x = some v) :
    ∃ r, VRel E v r ∧ (convert sT dT u).run P w = .ok r w := by
  unfold unsafeConv at hs
  split at hs
  · rename_i t b o hu1 hu2
    obtain ⟨p, hp, rfl⟩ := hx
    split at hs
    · rename_i n l e room froz hsz hl
      rw [lkp_eq] at hl
      obtain ⟨q, h1, h2, cur, fr, h3, h4, h5, h6, h7⟩ := H.blk1 b _ hl rfl
      rw [hp] at h1
      cases h1
      split at hs
      · rename_i ho
        cases hs
        have hlc := h5.length
        have hoc : o < cur.size := by simp at hlc; omega
        refine ⟨_, ⟨p, hp, rfl⟩, ?_⟩
        have hshape : w.shape? p.1 = some (e, cur.size) := by simp [World.shape?, h3]
        have hno : ¬ (cur.size ≤ o) := by omega
        simp [convert, run_under hu1, run_under hu2, Conv.unsafePointer, Conv.seenAt, viewAt, hshape, cellsIn, run_sizeB hsz, hno]
      · cases hs
    · cases hs
  · rename_i u b o hu1 hu2
    obtain ⟨p, hp, rfl⟩ := hx
    split at hs
    · rename_i l e froz hl
      rw [lkp_eq] at hl
      obtain ⟨q, h1, h2, cur, fr, h3, h4, h5, h6, h7⟩ := H.blk1 b _ hl rfl
      rw [hp] at h1
      cases h1
      split at hs
      · rename_i hlies
        cases hs
        have hK := h6 rfl
        refine ⟨_, ⟨p, hp, rfl⟩, ?_⟩
        have hshape : w.shape? p.1 = some (e, cur.size) := by simp [World.shape?, h3]
        simp only [Bool.and_eq_true] at hlies
        obtain ⟨hsz, hlies⟩ := hlies
        obtain ⟨sz, hsz⟩ := Option.isSome_iff_exists.1 hsz
        rw [hK, ← h4] at hlies
        have hvar : (variablesAt ⟨p.1, o, none⟩ u 1).run P w = .ok true w := by
          unfold variablesAt
          simp [hshape, hlies]
        simp [convert, run_under hu1, run_under hu2, Conv.unsafePointer, Conv.seenAt, viewAt, hshape, run_sizeB hsz, hvar]
      · cases hs
    · cases hs
  · cases hs

theorem strOf_rel {l : List RV} {vs : List Value} {s : List UInt8} (hl : All2 (VRel E) l vs) (hs : strOf l = some s) : ∃ ns : List Int, vs = ns.map (Value.int .u8) ∧ s = ns.map fun n => UInt8.ofNat n.toNat := by
  induction hl generalizing s with
  | nil => cases hs; exact ⟨[], rfl, rfl⟩
  | @cons r v l vs hr _ ih =>
    unfold strOf at hs
    split at hs
    · rename_i b q hb hq
      cases hs
      obtain ⟨ns, h1, h2⟩ := ih hq
      unfold byteOfR at hb
      split at hb
      · rename_i n
        cases hb
        cases hr
        exact ⟨n :: ns, by simp [h1], by simp [h2]⟩
      · cases hb
    · cases hs

omit [Val] in
theorem rowAt_flat {fits : TypeId → Bool} {e : TypeId} {count o n d : Nat} (hc : P.cellsOf e = 1) (hf : fits e = true) (hle : o + n ≤ count) : rowAt P fits (d + 1) e count o n = true := by
  unfold rowAt
  simp [hc, hf, hle, Nat.mod_one]

omit [Val] in
theorem run_loadBytes (b o : Nat) (cur : Array Value) (e : TypeId) (fr : Nat × Nat) (hg : w.heap[b]? = some (.cells cur e fr)) : ∀ (ns : List Int) (k : Nat) (acc : ByteArray),
    (∀ j n, ns[j]? = some n → cur[o + k + j]? = some (.int .u8 n)) →
    (loadBytes ⟨b, o + k, none⟩ acc ns.length).run P w = .ok ⟨(acc.data.toList ++ ns.map fun n => UInt8.ofNat n.toNat).toArray⟩ w
  | [], k, acc, _ => by simp [loadBytes]
  | n :: ns, k, acc, hc => by
    have h0 := hc 0 n (by simp)
    have hcell : w.cell? ⟨b, o + k, none⟩ = some (.int .u8 n) := by rw [cell_of_row w b (o + k) cur e fr hg]; simpa using h0
    have ih := run_loadBytes b o cur e fr hg ns (k + 1) (acc.push n.toNat.toUInt8) (fun j m hm => by
      have := hc (j + 1) m (by simpa using hm)
      rw [← this]; congr 1; omega)
    simp only [List.length_cons, loadBytes, Sem.run_bind, run_load, hcell, Result.andThen_ok, add_lit]
    rw [show o + k + 1 = o + (k + 1) from rfl, ih]
    congr 1
    simp [ByteArray.push]

theorem fit_string (H : HInv ro base w0 E h w) {argTypes : Array TypeId} {ty : TypeId} {x l : RV} {u ul : Value} {e : Eff} (hx : VRel E x u) (hl : VRel E l ul) (hs : unsafeStringOp P h argTypes x l = some e) :
    Fits ro base w0 E h w ((vSem (Builtin.unsafeString_ argTypes ty #[u, ul])).run P w) e := by
  unfold unsafeStringOp at hs
  split at hs
  · rename_i b o k n pt rest hT
    have hT0 : argTypes[0]? = some pt := by
      have : argTypes.toList[0]? = some pt := by rw [hT]; rfl
      simpa using this
    obtain ⟨p, hp, rfl⟩ := hx
    cases hl
    split at hs
    · rename_i ue cs e room froz hu hlk
      rw [lkp_eq] at hlk
      obtain ⟨q, h1, h2, cur, fr, h3, h4, h5, h6, h7⟩ := H.blk1 b _ hlk rfl
      rw [hp] at h1
      cases h1
      split at hs
      · rename_i hc
        simp only [Bool.and_eq_true, decide_eq_true_eq, beq_iff_eq] at hc
        obtain ⟨⟨⟨hn0, hn1⟩, hid⟩, hc1⟩ := hc
        split at hs
        · rename_i sg hg
          cases hst : strOf sg with
          | none => rw [hst] at hs; cases hs
          | some s =>
            rw [hst] at hs
            cases hs
            obtain ⟨q, cur', e', fr', g1, g2, g3, g4, g5, g6⟩ := H.getCells hg
            rw [hp] at g1
            cases g1
            rw [h3] at g2
            cases g2
            obtain ⟨ns, e1, e2⟩ := strOf_rel g6 hst
            have hnl : ns.length = n.toNat := by
              have := congrArg List.length e1
              rw [← g6.length, g5] at this
              simpa using this.symm
            have hrun := run_loadBytes (P := P) (w := w) p.1 o cur e fr h3 ns 0 .empty (fun j m hm => by
              have : (ns.map (Value.int .u8))[j]? = some (.int .u8 m) := by simp [hm]
              rw [← e1, List.getElem?_take] at this
              split at this
              · simpa using this
              · cases this)
            simp only [Nat.add_zero, hnl] at hrun
            have hshape : w.shape? p.1 = some (e, cur.size) := by simp [World.shape?, h3]
            have hdep : ∃ d, P.depth = d + 1 := ⟨2 * (P.types.size + Made.depth) + 1, rfl⟩
            obtain ⟨dd, hdd⟩ := hdep
            have hlies : liesAt P P.depth e (cur.size / P.cellsOf e) o ue n.toNat = true := by
              have hrow : rowAt P (fun t => sameLayout P P.depth t ue) P.depth e cur.size o n.toNat = true := by
                rw [hdd]
                exact rowAt_flat hc1 (by rw [← hdd, hdd]; unfold sameLayout; simp [hid]) g4
              rw [hc1, Nat.div_one]
              unfold liesAt
              rw [hdd] at hrow ⊢
              simp only
              rw [hrow]
              rfl
            have hw' : ∀ k, k ≠ p.1 → (w.freeze ⟨p.1, o, none⟩ n.toNat).heap[k]? = w.heap[k]? := by
              intro k hk
              unfold World.freeze
              split
              · rfl
              · simp [Array.getElem?_modify, Ne.symm hk]
            have hsize : (w.freeze ⟨p.1, o, none⟩ n.toNat).heap.size = w.heap.size := by
              unfold World.freeze
              split <;> simp
            have hself : ∃ fr', (w.freeze ⟨p.1, o, none⟩ n.toNat).heap[p.1]? = some (.cells cur e fr') := by
              unfold World.freeze
              split
              · exact ⟨fr, h3⟩
              · obtain ⟨lo, hi⟩ := fr
                simp only [Array.getElem?_modify, if_true, h3, Option.map_some]
                exact ⟨_, rfl⟩
            obtain ⟨fr2, hself⟩ := hself
            have hbel : Below base w (w.freeze ⟨p.1, o, none⟩ n.toNat) := by
              refine ⟨?_, ?_, ?_, by omega, fun k hk => hw' k (by omega)⟩ <;> (unfold World.freeze; split <;> rfl)
            refine ⟨E, .string ⟨s.toArray⟩, _, List.prefix_refl E, rfl, .inl (run_vSem ?_), H.write hlk hp rfl rfl (w.freeze ⟨p.1, o, none⟩ n.toNat) hbel (fun k hk _ => hw' k hk) ⟨cur, fr2, hself, h4, h5, h6, fun e => by cases e⟩⟩
            have hn2 : ¬ (n < 0) := by omega
            have hn3 : ¬ (9223372036854775807 < n) := by omega
            have hn4 : n ≠ 0 := by omega
            have hvar : (variablesAt ⟨p.1, o, none⟩ ue n.toNat).run P w = .ok true w := by
              unfold variablesAt
              simp [hshape, hlies]
            have hdef : Builtin.unsafeString_ argTypes ty #[.pointer (some ⟨p.1, o, none⟩), .int k n] =
                (do
                  let n ← asInt (.int k n)
                  let some pt := argTypes[0]? | stuck "unsafe.String: no argument types"
                  if n < 0 then runtimePanic (.error "unsafe.String: len out of range")
                  if n > IntKind.i64.max then unsupported (.unsafePointer "String: a length above the largest int")
                  if n = 0 then pure (.string .empty)
                  else if ← variablesAt ⟨p.1, o, none⟩ (← elemOf pt) n.toNat then do
                    let s ← loadBytes ⟨p.1, o, none⟩ .empty n.toNat
                    freeze ⟨p.1, o, none⟩ n.toNat
                    pure (.string s)
                  else unsupported (.unsafePointer "String: not so many bytes at ptr")) := rfl
            rw [hdef]
            have hmax : IntKind.i64.max = 9223372036854775807 := rfl
            simp [asInt, asIntOf, hT0, hn2, hn4, hmax, hn3, elemOf, run_under hu, hvar, hrun, e2]
        · cases hs
      · cases hs
    · cases hs
  · cases hs
end
end Go.Ri
