/- A part of the proofs that the laws of layer four answer true for every input. -/
import Derived.Test.YtjjmnoiiihcoiaaGreatDoorZPI
import Derived.Test.YtjjmnoiiihcoiaaGreatDoorZNC
import Derived.Test.YtjjmnoiiihcoiaaGreatDoorZLD
namespace Go.Proofs.Z
open Go Go.RowKit Go.Proofs Go.Ri Go.Proofs.Z.Fa
/-! The specification's Parse: runs. 0 the fell's grazings, 2 the line's number, 3 how many lines, 4 one less; 20 what Number answers for the first word, 20 to 23 for four; strings: 0 the text, 30 the line, 40 to 44 its words; lists: 30 the lines, 31 the words, 9 the gates, 10 with one more. -/
def zrErr (i : RV) : RV := .tup [.agg [lI 0, nilR], i, lI 3]
def zrOk : RV := .tup [.agg [sI 0, .slN 0 9 4], lI 0, lI 0]
end Go.Proofs.Z

namespace Go.Proofs.Z
open Go Go.RowKit Go.Proofs Go.Ri Go.Proofs.Z.Fa
/-! The specification's Parse: what its calls answer. -/
theorem qn_flat {V : Val} {f : FuncId} {ds : List RV} {r : RV} {v : Value} (hf : flat r = true) (hv : @cvF V r = v) (h : @AnsN V f ds v) : @QNTrue V ⟨f, ds, r, []⟩ := fun w hr vs hvs => (h w hr vs hvs).mono fun e w' ⟨he, hb⟩ => ⟨v, [], he, by rw [← hv]; exact @rel_cvF V [] r hf, @HInv.world V _ _ _ _ _ _ _ (@HInv.start V _ _ hr) hb⟩
theorem rel_cells {V : Val} {E : Env} : ∀ (cs : List RV), cs.all flat0 = true → All2 (@VRel V E) cs (cs.map (@cv V))
  | [], _ => .nil
  | c :: cs, h => by
    rw [List.all_cons, Bool.and_eq_true] at h
    exact .cons (@rel_cv V E c h.1) (rel_cells cs h.2)
/-- A list that a call made, cell by cell. -/
theorem q_cells {V V' : Val} {i : Nat} {e : TypeId} {cs : List RV} {u : Value} {base : Nat} {w0 w : World} {E : Env} (hi : V'.L i = cs.map (@cv V)) (hf : cs.all flat0 = true) (hu : @VRel V' E (.slN 0 i 1) u) (H : @HInv V' ro base w0 E [some (.lst i e true)] w) :
    @VRel V E (.sl 0 0 cs.length 1 none) u ∧ @HInv V ro base w0 E [some (.cells cs e true false)] w := by
  have hlen : (V'.L i).length = cs.length := by rw [hi, List.length_map]
  obtain ⟨p, n, hp, _, hn, hle, rfl⟩ := hu
  obtain rfl : n = cs.length := by omega
  have one : ∀ {x : RO} {b : Nat} {o : RO}, at? [some x] b = some o → b = 0 ∧ o = x := fun {x b o} h => by
    cases b with
    | zero => simp [at?] at h; exact ⟨rfl, h.symm⟩
    | succ b => simp [at?] at h
  refine ⟨⟨p, p.2 / 1, hp, rfl, hle, rfl⟩, ?_⟩
  have i1 := @HInv.below V' _ _ _ _ _ _ H
  have i2 := @HInv.lb V' _ _ _ _ _ _ H
  have i3 := @HInv.len V' _ _ _ _ _ _ H
  have i4 := @HInv.ro V' _ _ _ _ _ _ H
  refine @HInv.mk V ro base w0 E [some (RO.cells cs e true false)] w i1 i2 i3 i4 (fun b o hb => ?_) (fun b b' o o' p p' hb hb' _ _ _ _ _ => by rw [(one hb).1, (one hb').1]) (fun b o p hb hn => ?_)
  · obtain ⟨rfl, rfl⟩ := one hb
    obtain ⟨p, h1, h2, cur, fr, g1, g2, g3, g4⟩ := @HInv.blk V' _ _ _ _ _ _ H 0 _ rfl
    refine ⟨p, h1, h2, cur, fr, g1, g2, ?_, fun h => (by cases h), fun _ => g4 rfl⟩
    rw [← hlen, g3, hi]
    exact rel_cells cs hf
  · rw [(one hb).2] at hn
    cases hn
theorem spl_wlen (c : UInt8) : ∀ (n : Nat) (l : List UInt8), l.length ≤ n → (∀ w, w ∈ spl c l → w.length ≤ l.length) ∧ (spl c l).length ≤ l.length + 1
  | 0, l, h => by
    obtain rfl : l = [] := List.eq_nil_of_length_eq_zero (by omega)
    refine ⟨fun w hw => ?_, Nat.le_refl _⟩
    rw [show spl c [] = [[]] from rfl, List.mem_singleton] at hw
    rw [hw]
    exact Nat.le_refl _
  | n + 1, l, h => by
    rcases spl_case c l with hc | ⟨a, b, hc, rfl⟩
    · rw [spl_miss hc]
      refine ⟨fun w hw => ?_, by simp⟩
      rw [List.mem_singleton.1 hw]
      exact Nat.le_refl _
    · have hb : b.length ≤ n := by simp at h; omega
      obtain ⟨h1, h2⟩ := spl_wlen c n b hb
      rw [spl_hit hc]
      simp only [List.length_append, List.length_cons]
      refine ⟨fun w hw => ?_, by omega⟩
      rcases List.mem_cons.1 hw with rfl | hw
      · omega
      · have := h1 w hw
        omega
end Go.Proofs.Z

namespace Go.Proofs.Z
open Go Go.RowKit Go.Proofs Go.Ri Go.Proofs.Z.Fa
/-! The specification's Parse: its contract. -/
def zrEV (n : Nat) : Value := .tuple #[.agg #[.int .i64 0, .slice none 0 0], .int .i64 (n : Nat), .int .i64 3]
def zrOV (G : Int) : Value := .tuple #[.agg #[.int .i64 G, .slice none 0 0], .int .i64 0, .int .i64 0]
def zrD (V : Val) (R : Except Nat (Int × List Value)) (w : World) : Ending → World → Prop := match R with
  | .error n => DF (zrEV n) w
  | .ok (G, []) => DF (zrOV G) w
  | .ok (_, _ :: _) => DQ V zrOk [some (.lst 9 tGate true)] w
section
variable {s : List UInt8} {ls : List (List UInt8)} {R : Except Nat (Int × List Value)} {i : Nat} {G : Int} {L : List Value} {ws : List (List UInt8)}
end
end Go.Proofs.Z
