/- A part of the proofs that the laws of layer four answer true for every input. -/
import Derived.Test.YtjjmnoiiihcoiaaGreatDoorZPI
import Derived.Test.YtjjmnoiiihcoiaaGreatDoorZNC
import Derived.Test.YtjjmnoiiihcoiaaGreatDoorZLD
namespace Go.Proofs.Z
open Go Go.RowKit Go.Proofs Go.Ri Go.Proofs.Z.Fa
/-! The specification's Parse: runs. 0 the fell's grazings, 2 the line's number, 3 how many lines, 4 one less; 20 what Number answers for the first word, 20 to 23 for four; strings: 0 the text, 30 the line, 40 to 44 its words; lists: 30 the lines, 31 the words, 9 the gates, 10 with one more. -/
abbrev fRParse : Nat := 61
noncomputable def zrL : QE := ⟨fRSplit, [sS 0, lU8 10], .slN 0 30 1, [some (.lst 30 tStr true)]⟩
noncomputable def zrE : Tb := { T := [⟨.len, sS 0, sS 0, sI 1⟩, ⟨.bin .gtr, sI 1, lI 65536, bR false⟩], LL := [⟨30, 1, sI 3⟩], U := qnU [zrL] }
noncomputable def zrH (ne : Bool) : RH := [some (.cells [lI 0, nilR] tFell false false), some (.lst 30 tStr true), some (.cells [sI 0, if ne then .slN 3 9 4 else nilR] tFell false false)] ++ if ne then [some (.lst 9 tGate true)] else []
noncomputable def zrP (ne : Bool) : St := ⟨patW [(2, .ptr 0 0), (5, .slN 1 30 1), (6, .ptr 2 0), (7, sI 2)] 56 0, zrH ne⟩
def zrS (g i : RV) : List SE := [.int 0 g, .int 2 i, .int 3 (sI 3), .lst 30 30]
set_option maxRecDepth 100000 in
theorem zr_enter : atH (entN zrE [] fRParse [sS 0]) fRParse 0 (zrS (lI 0) (lI 0)) [0, 1, 2] (zrP false) = true := by kernel_rfl
def zrA : RV × RH := (.tup [.agg [lI 0, nilR], sI 7, lI 3], [])
def zrW (k : Nat) : QE := ⟨fRSplit, [sS 30, lU8 32], if Nat.beq k 0 then .slN 0 31 1 else .sl 0 0 k 1 none, if Nat.beq k 0 then [some (.lst 31 tStr true)] else if Nat.beq k 2 then [some (.cells [sS 40, sS 41] tStr true false)] else [some (.cells [sS 40, sS 41, sS 42, sS 43, sS 44] tStr true false)]⟩
def zrT (z : Bool) : List TE := [⟨.bin .sub, sI 3, lI 1, sI 4⟩, ⟨.bin .lss, sI 2, sI 4, bR true⟩, ⟨.inb, sI 2, sI 3, bR true⟩, ⟨.ieq, sI 2, lI 0, bR z⟩, ⟨.bin .add, sI 2, lI 1, sI 7⟩]
/-- c: 0 another number of words, 1 another word ahead, 2 not valid then, 3 right. -/
noncomputable def zrF (c : Nat) : Tb := { T := zrT true ++ (if Nat.beq c 0 then [⟨.ieq, sI 41, lI 2, bR false⟩] else [⟨.seq, sS 40, lB wFell, bR (!(Nat.beq c 1))⟩]), LL := [⟨30, 1, sI 3⟩, ⟨31, 1, sI 41⟩], LX := [⟨30, 2, [sS 30]⟩], Y := ⟨fNumber, [sS 41], sI 20⟩ :: (if Nat.ble 2 c then [⟨fValid, [.agg [sI 20, nilR]], bR (Nat.beq c 3)⟩] else []), U := qnU [zrW (if Nat.beq c 0 then 0 else 2)] }
set_option maxRecDepth 100000 in
theorem zr_fbad : (allU 3 fun c => endF (zrF c) fRParse (fromH (zrF c) [] fRParse 0 (zrP false)) zrA.1) = true := by kernel_rfl
set_option maxRecDepth 100000 in
theorem zr_fell : atH (fromH (zrF 3) [] fRParse 0 (zrP false)) fRParse 0 (zrS (sI 20) (sI 7)) [0, 1, 2] (zrP false) = true := by kernel_rfl
/-- A gate's line: c as before; ne: there are gates. -/
noncomputable def zrG (c : Nat) (ne : Bool) : Tb := { T := zrT false ++ (if Nat.beq c 0 then [⟨.ieq, sI 41, lI 5, bR false⟩] else [⟨.seq, sS 40, lB wGate, bR (!(Nat.beq c 1))⟩]), LL := [⟨30, 1, sI 3⟩, ⟨31, 1, sI 41⟩, ⟨9, 4, sI 42⟩], LX := [⟨30, 2, [sS 30]⟩], Y := [⟨fNumber, [sS 41], sI 20⟩, ⟨fNumber, [sS 42], sI 21⟩, ⟨fNumber, [sS 43], sI 22⟩, ⟨fNumber, [sS 44], sI 23⟩], LA := if Nat.ble 2 c && ne then [⟨9, [sI 20, sI 21, sI 22, sI 23], 10⟩] else [], U := qdU (if ne then [] else [(10, [sI 20, sI 21, sI 22, sI 23])]) (zrW (if Nat.beq c 0 then 0 else 5) :: if Nat.ble 2 c then [⟨fValid, [.agg [sI 0, .slN 0 10 4]], bR (Nat.beq c 3), []⟩] else []) }
set_option maxRecDepth 100000 in
theorem zr_gbad : (all2 fun ne => allU 3 fun c => endF (zrG c ne) fRParse (fromH (zrG c ne) [] fRParse 0 (zrP ne)) zrA.1) = true := by kernel_rfl
def zrQ (ne : Bool) : List SE := zrS (sI 0) (sI 7) ++ [if ne then .lst 9 10 else .new 9 [sI 20, sI 21, sI 22, sI 23]]
set_option maxRecDepth 100000 in
theorem zr_gate : (all2 fun ne => atH (fromH (zrG 3 ne) [] fRParse 0 (zrP ne)) fRParse 0 (zrQ ne) [0, 1, 2, if ne then 8 else 7] (zrP true)) = true := by kernel_rfl
/-- The last line: 0 it is the only one, 1 it is not empty, 2 all is right. -/
noncomputable def zrO (c : Nat) : Tb := { T := [⟨.bin .sub, sI 3, lI 1, sI 4⟩, ⟨.bin .lss, sI 2, sI 4, bR false⟩, ⟨.ieq, sI 3, lI 1, bR (Nat.beq c 0)⟩, ⟨.inb, sI 4, sI 3, bR true⟩] ++ (if Nat.beq c 0 then [] else [⟨.seq, sS 31, lB [], bR (Nat.beq c 2)⟩]), LL := [⟨30, 1, sI 3⟩], LX := if Nat.beq c 0 then [] else [⟨30, 4, [sS 31]⟩] }
def zrErr (i : RV) : RV := .tup [.agg [lI 0, nilR], i, lI 3]
set_option maxRecDepth 100000 in
theorem zr_obad : (all2 fun ne => allU 2 fun c => endF (zrO c) fRParse (fromH (zrO c) [] fRParse 0 (zrP ne)) (zrErr (sI 3))) = true := by kernel_rfl
set_option maxRecDepth 100000 in
theorem zr_okn : endF (zrO 2) fRParse (fromH (zrO 2) [] fRParse 0 (zrP false)) (.tup [.agg [sI 0, nilR], lI 0, lI 0]) = true := by kernel_rfl
def zrOk : RV := .tup [.agg [sI 0, .slN 0 9 4], lI 0, lI 0]
set_option maxRecDepth 100000 in
theorem zr_okg : endQ (zrO 2) fRParse (fromH (zrO 2) [] fRParse 0 (zrP true)) [.int 0 (sI 0), .lst 9 9] [3] zrOk [some (.lst 9 tGate true)] = true := by kernel_rfl
set_option maxRecDepth 100000 in
theorem zr_long : doneQ { T := [⟨.len, sS 0, sS 0, sI 1⟩, ⟨.bin .gtr, sI 1, lI 65536, bR true⟩] } [] fRParse [sS 0] [] [] (.tup [.agg [lI 0, nilR], lI 0, lI 2]) [] = true := by kernel_rfl
end Go.Proofs.Z

namespace Go.Proofs.Z
open Go Go.RowKit Go.Proofs Go.Ri Go.Proofs.Z.Fa
/-! The specification's Parse: what its calls answer. -/
theorem qn_flat {V : Val} {f : FuncId} {ds : List RV} {r : RV} {v : Value} (hf : flat r = true) (hv : @cvF V r = v) (h : @AnsN V f ds v) : @QNTrue V ⟨f, ds, r, []⟩ := fun w hr vs hvs => (h w hr vs hvs).mono fun e w' ⟨he, hb⟩ => ⟨v, [], he, by rw [← hv]; exact @rel_cvF V [] r hf, @HInv.world V _ _ _ _ _ _ _ (@HInv.start V _ _ hr) hb⟩
theorem rel_cells {V : Val} {E : Env} : ∀ (cs : List RV), cs.all flat0 = true → All2 (@VRel V E) cs (cs.map (@cv V))
  | [], _ => .nil
  | c :: cs, h => by
    rw [List.all_cons, Bool.and_eq_true] at h
    exact .cons (@rel_cv V E c h.1) (rel_cells cs h.2)
/-- A list that a call made, cell by cell. -/
theorem q_cells {V V' : Val} {i : Nat} {e : TypeId} {cs : List RV} {u : Value} {base : Nat} {w0 w : World} {E : Env} (hi : V'.L i = cs.map (@cv V)) (hf : cs.all flat0 = true) (hu : @VRel V' E (.slN 0 i 1) u) (H : @HInv V' ro base w0 E [some (.lst i e true)] w) :
    @VRel V E (.sl 0 0 cs.length 1 none) u ∧ @HInv V ro base w0 E [some (.cells cs e true false)] w := by
  have hlen : (V'.L i).length = cs.length := by rw [hi, List.length_map]
  obtain ⟨p, n, hp, _, hn, hle, rfl⟩ := hu
  obtain rfl : n = cs.length := by omega
  have one : ∀ {x : RO} {b : Nat} {o : RO}, at? [some x] b = some o → b = 0 ∧ o = x := fun {x b o} h => by
    cases b with
    | zero => simp [at?] at h; exact ⟨rfl, h.symm⟩
    | succ b => simp [at?] at h
  refine ⟨⟨p, p.2 / 1, hp, rfl, hle, rfl⟩, ?_⟩
  have i1 := @HInv.below V' _ _ _ _ _ _ H
  have i2 := @HInv.lb V' _ _ _ _ _ _ H
  have i3 := @HInv.len V' _ _ _ _ _ _ H
  have i4 := @HInv.ro V' _ _ _ _ _ _ H
  refine @HInv.mk V ro base w0 E [some (RO.cells cs e true false)] w i1 i2 i3 i4 (fun b o hb => ?_) (fun b b' o o' p p' hb hb' _ _ _ _ _ => by rw [(one hb).1, (one hb').1]) (fun b o p hb hn => ?_)
  · obtain ⟨rfl, rfl⟩ := one hb
    obtain ⟨p, h1, h2, cur, fr, g1, g2, g3, g4⟩ := @HInv.blk V' _ _ _ _ _ _ H 0 _ rfl
    refine ⟨p, h1, h2, cur, fr, g1, g2, ?_, fun h => (by cases h), fun _ => g4 rfl⟩
    rw [← hlen, g3, hi]
    exact rel_cells cs hf
  · rw [(one hb).2] at hn
    cases hn
theorem valid_nil (V : Val) {r : RV} {G : Int} (h : @cvF V r = .agg #[.int .i64 G, .slice none 0 0]) : Ans fValid [@cvF V r] (.bool (validM G [] 0)) := by
  intro w hr
  let V1 : Val := (gnm G [] 0 0 nx ny nz).val fun _ => undef
  refine valid_ans V1 (G := G) (l := []) (n := 0) rfl rfl (fun v hv => by cases hv) rfl w hr _ (.cons ?_ .nil)
  rw [h]
  exact ⟨#[.int .i64 G, .slice none 0 0], rfl, .cons rfl (.cons ⟨none, 0, 0, rfl, fun h => absurd rfl h, by decide, rfl, Nat.le_refl _, fun a ha => by cases ha⟩ .nil)⟩
theorem spl_wlen (c : UInt8) : ∀ (n : Nat) (l : List UInt8), l.length ≤ n → (∀ w, w ∈ spl c l → w.length ≤ l.length) ∧ (spl c l).length ≤ l.length + 1
  | 0, l, h => by
    obtain rfl : l = [] := List.eq_nil_of_length_eq_zero (by omega)
    refine ⟨fun w hw => ?_, Nat.le_refl _⟩
    rw [show spl c [] = [[]] from rfl, List.mem_singleton] at hw
    rw [hw]
    exact Nat.le_refl _
  | n + 1, l, h => by
    rcases spl_case c l with hc | ⟨a, b, hc, rfl⟩
    · rw [spl_miss hc]
      refine ⟨fun w hw => ?_, by simp⟩
      rw [List.mem_singleton.1 hw]
      exact Nat.le_refl _
    · have hb : b.length ≤ n := by simp at h; omega
      obtain ⟨h1, h2⟩ := spl_wlen c n b hb
      rw [spl_hit hc]
      simp only [List.length_append, List.length_cons]
      refine ⟨fun w hw => ?_, by omega⟩
      rcases List.mem_cons.1 hw with rfl | hw
      · omega
      · have := h1 w hw
        omega
end Go.Proofs.Z

namespace Go.Proofs.Z
open Go Go.RowKit Go.Proofs Go.Ri Go.Proofs.Z.Fa
/-! The specification's Parse: its contract. -/
theorem zr_words (V : Val) {line : List UInt8} {ws : List (List UInt8)} (h30 : V.S 30 = bs line) (hws : spl 32 line = ws) (hl : line.length ≤ 100000) (h31 : V.L 31 = ws.map strB) (h40 : ∀ j, V.S (40 + j) = bs (ws.getD j [])) (k : Nat) (hk : k = 0 ∨ ((k = 2 ∨ k = 5) ∧ ws.length = k)) : @QNTrue V (zrW k) := by
  let V1 : Val := (⟨fun _ => 0, ny, fun _ => bs line, fun _ => ws.map strB⟩ : Nm).val fun _ => undef
  have conv : ∀ w vs, All2 (@Go.Ri.NVal V w) [sS 30, lU8 32] vs → All2 (@Go.Ri.NVal V1 w) [sS 30, lU8 32] vs := fun w vs hv => by
    cases hv with
    | cons h1 h2 => cases h2 with
      | cons h2 h3 =>
        cases h3
        exact .cons (nval_re (V := V) (V' := V1) (x := sS 30) (y := sS 30) (v := strB line) rfl rfl (congrArg Value.string h30) rfl h1) (.cons (nval_re (V := V) (V' := V1) (x := lU8 32) (y := lU8 32) (v := .int .u8 32) rfl rfl rfl rfl h2) .nil)
  have q := rsplit_q V1 line 32 hl (x := sS 30) (y := lU8 32) rfl rfl rfl rfl (by rw [hws]; exact rfl)
  rcases hk with rfl | ⟨rfl | rfl, hlen⟩
  · exact fun w hr vs hv => (q w hr vs (conv w vs hv)).mono fun x w' ⟨u, E', he, hu, H⟩ => by
      have qq := mtQ_ok (V := V1) (V' := V) (S := [.lst 31 9]) (R := [0]) (r := .slN 0 9 1) (r0 := .slN 0 31 1) (h' := [some (.lst 9 tStr true)]) (h0 := [some (.lst 31 tStr true)]) (by kernel_rfl) rfl (holds_all (fa h31 fz)) hu H
      exact ⟨u, _, he, qq.1, qq.2⟩
  · exact fun w hr vs hv => (q w hr vs (conv w vs hv)).mono fun x w' ⟨u, E', he, hu, H⟩ => by
      obtain ⟨a, b, rfl⟩ := len2 hlen
      have qq := q_cells (V := V) (V' := V1) (cs := [sS 40, sS 41]) (by
        show [strB a, strB b] = [.string (V.S 40), .string (V.S 41)]
        rw [h40 0, h40 1]
        rfl) rfl hu H
      exact ⟨u, _, he, qq.1, qq.2⟩
  · exact fun w hr vs hv => (q w hr vs (conv w vs hv)).mono fun x w' ⟨u, E', he, hu, H⟩ => by
      obtain ⟨a, b, c, d, e, rfl⟩ := len5 hlen
      have qq := q_cells (V := V) (V' := V1) (cs := [sS 40, sS 41, sS 42, sS 43, sS 44]) (by
        show [strB a, strB b, strB c, strB d, strB e] = [.string (V.S 40), .string (V.S 41), .string (V.S 42), .string (V.S 43), .string (V.S 44)]
        rw [h40 0, h40 1, h40 2, h40 3, h40 4]
        rfl) rfl hu H
      exact ⟨u, _, he, qq.1, qq.2⟩
theorem zr_valid (V : Val) {G : Int} {M : List Value} {n : Nat} {b : Bool} (hG : V.I 0 = G) (hL : V.L 10 = M) (hi : ints M) (hn : M.length = n * 4) (hb : validM G M n = b) : @QNTrue V ⟨fValid, [.agg [sI 0, .slN 0 10 4]], bR b, []⟩ := by
  refine qn_flat rfl (v := .bool b) rfl fun w hr vs hv => ?_
  let V2 : Val := (gnm G M n 0 nx ny nz).val fun _ => undef
  rw [← hb]
  refine valid_ans V2 (G := G) (l := M) (n := n) rfl rfl hi hn w hr vs ?_
  cases hv with
  | cons h1 h2 => cases h2; exact .cons (fell_nvalG (V := V) (V' := V2) (i := 10) (j := 0) hG hL h1) .nil
def zrI (G : Int) (L : List Value) (t i n : Nat) (ws : List (List UInt8)) (j : Nat) : Int :=
  if j = 0 then G else if j = 1 then (t : Nat) else if j = 2 then (i : Nat) else if j = 3 then (n : Nat) else if j = 4 then (n : Int) - 1 else if j = 7 then (i : Int) + 1 else if j = 20 then numS (ws.getD 1 []) else if j = 21 then numS (ws.getD 2 []) else if j = 22 then numS (ws.getD 3 []) else if j = 23 then numS (ws.getD 4 []) else if j = 41 then (ws.length : Nat) else ((L.length / 4 : Nat) : Int)
def zrB (s x y : List UInt8) (ws : List (List UInt8)) (j : Nat) : List UInt8 := if j = 0 then s else if j = 30 then x else if j = 31 then y else ws.getD (j - 40) []
def zrNums (ws : List (List UInt8)) : List Value := [iZ (numS (ws.getD 1 [])), iZ (numS (ws.getD 2 [])), iZ (numS (ws.getD 3 [])), iZ (numS (ws.getD 4 []))]
def zrLs (ls ws : List (List UInt8)) (L : List Value) (j : Nat) : List Value := if j = 9 then L else if j = 10 then L ++ zrNums ws else if j = 30 then ls.map strB else ws.map strB
def zrNm (s : List UInt8) (ls ws : List (List UInt8)) (G : Int) (L : List Value) (i : Nat) : Nm := ⟨zrI G L s.length i ls.length ws, ny, fun j => bs (zrB s (ls.getD i []) (ls.getD (ls.length - 1) []) ws j), zrLs ls ws L⟩
theorem zr_ids (s : List UInt8) (ls ws ws' : List (List UInt8)) (G G' : Int) (L L' : List Value) (i i' : Nat) (W W' : Nat → Value) (g x : RV) (hg : @cv ((zrNm s ls ws G L i).val W) g = .int .i64 G') (hx : @cv ((zrNm s ls ws G L i).val W) x = .int .i64 (i' : Nat)) : ∀ q, q ∈ zrS g x → okSE ((zrNm s ls ws G L i).val W) ((zrNm s ls ws' G' L' i').val W') q :=
  fa ⟨.i64, G', hg, rfl⟩ (fa ⟨.i64, (i' : Nat), hx, rfl⟩ (fa ⟨.i64, (ls.length : Nat), rfl, rfl⟩ (fa (okLs (ls.map strB) rfl rfl) fz)))
theorem prsS_step {ls : List (List UInt8)} {i : Nat} (G : Int) (L : List Value) (h : i + 1 < ls.length) : prsS i G L (ls.drop i) = match rdS i G L (ls.getD i []) with | none => .error (i + 1) | some (G', L') => prsS (i + 1) G' L' (ls.drop (i + 1)) := by
  have e1 : ls.drop i = ls.getD i [] :: ls.drop (i + 1) := by
    rw [List.drop_eq_getElem_cons (by omega), List.getD_eq_getElem?_getD, List.getElem?_eq_getElem (by omega)]
    rfl
  have e2 : ls.drop (i + 1) = ls.getD (i + 1) [] :: ls.drop (i + 1 + 1) := by
    rw [List.drop_eq_getElem_cons (by omega), List.getD_eq_getElem?_getD, List.getElem?_eq_getElem (by omega)]
    rfl
  rw [e1, e2]
  rfl
theorem prsS_last {ls : List (List UInt8)} {i : Nat} (G : Int) (L : List Value) (h : i + 1 = ls.length) : prsS i G L (ls.drop i) = if i = 0 ∨ ls.getD i [] ≠ [] then .error (i + 1) else .ok (G, L) := by
  have e1 : ls.drop i = [ls.getD i []] := by
    rw [List.drop_eq_getElem_cons (by omega), List.getD_eq_getElem?_getD, List.getElem?_eq_getElem (by omega), List.drop_of_length_le (by omega)]
    rfl
  rw [e1]
  rfl
theorem map_at {ls : List (List UInt8)} {i : Nat} (h : i < ls.length) : ((ls.map strB).drop (i * 1)).take 1 = [strB (ls.getD i [])] := by
  rw [Nat.mul_one, ← List.map_drop, List.drop_eq_getElem_cons h, List.getD_eq_getElem?_getD, List.getElem?_eq_getElem h]
  rfl
def zrEV (n : Nat) : Value := .tuple #[.agg #[.int .i64 0, .slice none 0 0], .int .i64 (n : Nat), .int .i64 3]
def zrOV (G : Int) : Value := .tuple #[.agg #[.int .i64 G, .slice none 0 0], .int .i64 0, .int .i64 0]
def zrD (V : Val) (R : Except Nat (Int × List Value)) (w : World) : Ending → World → Prop := match R with
  | .error n => DF (zrEV n) w
  | .ok (G, []) => DF (zrOV G) w
  | .ok (_, _ :: _) => DQ V zrOk [some (.lst 9 tGate true)] w
def ZrI (s : List UInt8) (ls : List (List UInt8)) (R : Except Nat (Int × List Value)) (m : Nat) (ne : Bool) (d : Nm) : Prop := ∃ i G L, i < ls.length ∧ prsS i G L (ls.drop i) = R ∧ ((i = 0 ∧ G = 0 ∧ L = []) ∨ (i ≠ 0 ∧ Rgt G L)) ∧ m = ls.length - i ∧ ne = !L.isEmpty ∧ d = zrNm s ls (spl 32 (ls.getD i [])) G L i
section
variable {s : List UInt8} {ls : List (List UInt8)} {R : Except Nat (Int × List Value)} {i : Nat} {G : Int} {L : List Value} {ws : List (List UInt8)}
theorem zrT_ok (W : Nat → Value) (hn : ls.length ≤ 1000000) (hi : i + 1 < ls.length) {z : Bool} (hz : decide (i = 0) = z) : ∀ e, e ∈ zrT z → @TETrue ((zrNm s ls ws G L i).val W) e := by
  letI : Val := (zrNm s ls ws G L i).val W
  exact fa (f_sub (m := (ls.length : Int)) (n := 1) (r := (ls.length : Int) - 1) rfl rfl rfl rfl rfl (by omega) (by omega)) (fa (f_lss (k := .i64) (m := (i : Int)) (n := (ls.length : Int) - 1) rfl rfl (decide_eq_true (by omega))) (fa (f_inb (m := (i : Int)) (n := (ls.length : Int)) rfl rfl (by omega)) (fa (f_ieq (k := .i64) (m := (i : Int)) (n := 0) rfl rfl (by rw [← hz, eqdec]; exact decide_eq_decide.2 (by omega))) (fa (f_add1 (m := (i : Int)) rfl rfl rfl (by omega) (by omega)) fz))))
theorem zr30 (W : Nat → Value) : @LLTrue ((zrNm s ls ws G L i).val W) ⟨30, 1, sI 3⟩ := ⟨rfl, ls.length, Nat.succ_pos 0, by rw [Nat.mul_one]; exact List.length_map _, rfl⟩
theorem zr31 (W : Nat → Value) : @LLTrue ((zrNm s ls ws G L i).val W) ⟨31, 1, sI 41⟩ := ⟨rfl, ws.length, Nat.succ_pos 0, by rw [Nat.mul_one]; exact List.length_map _, rfl⟩
theorem zr9 (W : Nat → Value) (hL : L.length = L.length / 4 * 4) : @LLTrue ((zrNm s ls ws G L i).val W) ⟨9, 4, sI 42⟩ := ⟨rfl, L.length / 4, Nat.succ_pos 3, hL, rfl⟩
theorem zrx30 (W : Nat → Value) (hi : i < ls.length) : @LXTrue ((zrNm s ls ws G L i).val W) ⟨30, 2, [sS 30]⟩ := ⟨rfl, by
  show ((i : Nat) : Int).toNat * 1 + 1 ≤ (ls.map strB).length
  rw [List.length_map, Int.toNat_natCast]
  omega, map_at hi⟩
theorem zr_wl (W : Nat → Value) (hw : spl 32 (ls.getD i []) = ws) (hl : (ls.getD i []).length ≤ 100000) (k : Nat) (hk : k = 0 ∨ ((k = 2 ∨ k = 5) ∧ ws.length = k)) : @QNTrue ((zrNm s ls ws G L i).val W) (zrW k) :=
  zr_words ((zrNm s ls ws G L i).val W) rfl hw hl rfl (fun j => by
    show bs (zrB _ _ _ ws (40 + j)) = _
    unfold zrB
    rw [if_neg (by omega), if_neg (by omega), if_neg (by omega), Nat.add_sub_cancel_left]) k hk
theorem getD_len (hw : spl 32 (ls.getD i []) = ws) (hl : (ls.getD i []).length ≤ 100000) (j : Nat) : (ws.getD j []).length ≤ 100000 := by
  rcases Nat.lt_or_ge j ws.length with h | h
  · rw [List.getD_eq_getElem?_getD, List.getElem?_eq_getElem h]
    have := (spl_wlen 32 _ (ls.getD i []) (Nat.le_refl _)).1 ws[j] (by rw [hw]; exact List.getElem_mem h)
    show (ws[j]).length ≤ _
    omega
  · rw [List.getD_eq_getElem?_getD, List.getElem?_eq_none h]
    exact Nat.zero_le _
end
end Go.Proofs.Z
