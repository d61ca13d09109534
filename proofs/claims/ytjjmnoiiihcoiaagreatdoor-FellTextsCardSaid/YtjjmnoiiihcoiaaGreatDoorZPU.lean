/- A part of the proofs that the laws of layer four answer true for every input. -/
import Derived.Test.YtjjmnoiiihcoiaaGreatDoorZPS
import Derived.Test.YtjjmnoiiihcoiaaGreatDoorZLD
import Derived.Test.YtjjmnoiiihcoiaaGreatDoorZGH
namespace Go.Proofs.Z
open Go Go.RowKit Go.Proofs Go.Ri Go.Proofs.Z.Fa
/-! The law FellTexts: runs. 0 and 1 the fell's, 4 the grazings that were parsed, 5 the line, 6 the answer, 7 Print's answer, 8 the length of the string; strings: 0 the string, 1 the printed text; lists: 0 the fell's, 9 the gates that were parsed. -/
abbrev fFellTexts : Nat := 11
def ftD : List RV := [fellR, sS 0]
def ftT (big long : Bool) : List TE := ⟨.bin .gtr, sI 1, lI 200, bR big⟩ :: if big then [] else [⟨.len, sS 0, sS 0, sI 8⟩, ⟨.bin .gtr, sI 8, lI 70000, bR long⟩]
noncomputable def ftX (big : Bool) : Tb := { X := saneX, T := ftT big true, LL := hLL }
set_option maxRecDepth 100000 in
theorem ft_skip : (all2 fun big => doneQ (ftX big) [] fFellTexts ftD [] [] (bR true) []) = true := by kernel_rfl
noncomputable def ftC : List YE := [⟨fPrint, [fellR], .tup [sS 1, sI 7]⟩, ⟨fRPrint, [fellR], .tup [sS 1, sI 7]⟩]
def ftA : RV := .agg [sI 4, nilR]
def ftL : RV := .agg [sI 4, .slN 0 9 4]
noncomputable def ftF : Tb := { X := saneX, T := ftT false false, LL := hLL, C := ftC, Y := [⟨fParse, [sS 0], .tup [ftA, sI 5, sI 6]⟩, ⟨fRParse, [sS 0], .tup [ftA, sI 5, sI 6]⟩, ⟨fSame, [ftA, ftA], bR true⟩] }
set_option maxRecDepth 100000 in
theorem ft_flat : doneQ ftF [] fFellTexts ftD [] [] (bR true) [] = true := by kernel_rfl
def ftQ (f : FuncId) : QE := ⟨f, [sS 0], .tup [ftL, lI 0, lI 0], [some (.lst 9 tGate true)]⟩
noncomputable def ftG : Tb := { X := saneX, T := ftT false false, LL := hLL, C := ftC, U := qnU [ftQ fParse, ftQ fRParse, ⟨fSame, [ftL, ftL], bR true, []⟩] }
set_option maxRecDepth 100000 in
theorem ft_list : doneQ ftG [] fFellTexts ftD [] [] (bR true) [] = true := by kernel_rfl
end Go.Proofs.Z

namespace Go.Proofs.Z
open Go Go.RowKit Go.Proofs Go.Ri Go.Proofs.Z.Fa
/-! The law FellTexts. -/
def ftNm (G : Int) (l : List Value) (n : Nat) (t : List UInt8) (G' : Int) (L' : List Value) (at' e : Int) : Nm := ⟨fun i => if i = 0 then G else if i = 1 then (n : Int) else if i = 4 then G' else if i = 5 then at' else if i = 6 then e else if i = 7 then (if validM G l n then 0 else 40) else (t.length : Int), ny, fun j => bs (if j = 0 then t else if validM G l n then accT G l n else []), fun i => if i = 0 then l else L'⟩
theorem fell_nvalX {V V' : Val} {w : World} {v : Value} {i j a b : Nat} (h0 : V.I a = V'.I b) (hi : V.L i = V'.L j) (h : @Go.Ri.NVal V w (.agg [sI a, .slN 0 i 4]) v) : @Go.Ri.NVal V' w (.agg [sI b, .slN 0 j 4]) v := by
  obtain ⟨us, e, h3⟩ := h
  refine ⟨us, e, ?_⟩
  generalize us.toList = ul at h3
  cases h3 with
  | cons g1 g2 => cases g2 with
    | cons g2 g3 =>
      cases g3
      have g1 : _ = Value.int .i64 (V.I a) := g1
      obtain ⟨c, m, cap, k1, k2, k3, k4, k5, k6⟩ := g2
      rw [hi] at k2 k4 k6
      refine .cons ?_ (.cons ⟨c, m, cap, k1, k2, k3, k4, k5, k6⟩ .nil)
      rw [g1, h0]
      rfl
theorem same_nil (V : Val) {r : RV} {G : Int} (h : @cvF V r = .agg #[.int .i64 G, .slice none 0 0]) : Ans fSame [@cvF V r, @cvF V r] (.bool true) := by
  intro w hr
  let V1 : Val := (sanm G [] 0 0).val fun _ => undef
  refine same_ans V1 (G := G) (l := []) (n := 0) rfl rfl (fun v hv => by cases hv) rfl (Nat.zero_le _) w hr _ ?_
  rw [h]
  have one : @Go.Ri.NVal V1 w woR (.agg #[.int .i64 G, .slice none 0 0]) := ⟨#[.int .i64 G, .slice none 0 0], rfl, .cons rfl (.cons ⟨none, 0, 0, rfl, fun h => absurd rfl h, by decide, rfl, Nat.le_refl _, fun a ha => by cases ha⟩ .nil)⟩
  exact .cons one (.cons one .nil)
theorem same_list (V : Val) {G : Int} {L : List Value} {n a i : Nat} (hG : V.I a = G) (hL : V.L i = L) (hl : ints L) (hn : L.length = n * 4) (hb : n ≤ 60000) : @QNTrue V ⟨fSame, [.agg [sI a, .slN 0 i 4], .agg [sI a, .slN 0 i 4]], bR true, []⟩ := by
  refine qn_flat rfl (v := .bool true) rfl fun w hr vs hv => ?_
  let V1 : Val := (sanm G L n 0).val fun _ => undef
  refine same_ans V1 (G := G) (l := L) (n := n) rfl rfl hl hn hb w hr vs ?_
  cases hv with
  | cons h1 h2 => cases h2 with
    | cons h2 h3 =>
      cases h3
      exact .cons (fell_nvalX (V := V) (V' := V1) (b := 0) (j := 41) hG hL h1) (.cons (fell_nvalX (V := V) (V' := V1) (b := 0) (j := 41) hG hL h2) .nil)
/-- A parsed list under other names. -/
theorem parse_q (V : Val) {f : FuncId} {t : List UInt8} {G : Int} {v : Value} {L : List Value} (h4 : V.I 4 = G) (h9 : V.L 9 = v :: L) (h0 : V.S 0 = bs t)
    (h : ∀ V2 : Val, V2.I 0 = G → V2.L 9 = v :: L → ∀ w, RoIn ro w → Calls Tryz.prog f [strB t].toArray w (zrD V2 (.ok (G, v :: L)) w)) : @QNTrue V (ftQ f) := by
  intro w hr vs hv
  obtain rfl : vs = [strB t] := by
    cases hv with
    | cons h1 h2 =>
      cases h2
      rw [@flat_of_nval V w (sS 0) _ rfl h1, show @cvF V (sS 0) = strB t from congrArg Value.string h0]
  let V2 : Val := (⟨fun _ => G, ny, fun _ => bs t, fun _ => v :: L⟩ : Nm).val fun _ => undef
  refine (h V2 rfl rfl w hr).mono fun x w' hq => ?_
  obtain ⟨u, E', he, hu, H⟩ : ∃ u E', x = .returned u ∧ @VRel V2 E' zrOk u ∧ @HInv V2 ro w.heap.size w E' [some (.lst 9 tGate true)] w' := hq
  have q := mtQ_ok (V := V2) (V' := V) (S := [.int 4 (sI 0), .lst 9 9]) (R := [0]) (r := zrOk) (r0 := .tup [ftL, lI 0, lI 0]) (h' := [some (.lst 9 tGate true)]) (h0 := [some (.lst 9 tGate true)]) (by kernel_rfl) rfl (holds_all (fa ⟨.i64, G, rfl, h4⟩ (fa (okLs (v :: L) h9 rfl) fz))) hu H
  exact ⟨u, _, he, q.1, q.2⟩
theorem parse_flat {f : FuncId} {t : List UInt8} {R : Except Nat (Int × List Value)} {u : Value} (h : ∀ V2 : Val, ∀ w, RoIn ro w → Calls Tryz.prog f [strB t].toArray w (zrD V2 R w)) (hR : ∀ V2 w, zrD V2 R w = DF u w) : Ans f [strB t] u := fun w hr => by
  have := h ((⟨fun _ => 0, ny, fun _ => bs t, fun _ => []⟩ : Nm).val fun _ => undef) w hr
  rw [hR] at this
  exact this
theorem texts_all (G : Int) (l : List Value) (n : Nat) (s : ByteArray) (hl : ints l) (hn : l.length = n * 4) (w : World) (hr : RoIn ro w) (vs : List Value) (hv : ∀ G' L' a e, All2 (@Go.Ri.NVal ((ftNm G l n s.data.toList G' L' a e).val fun _ => undef) w) ftD vs) : Calls Tryz.prog fFellTexts vs.toArray w (fun e w' => e = .returned (.bool true) ∧ Below w.heap.size w w') := by
  obtain ⟨t, ht⟩ : ∃ t, t = s.data.toList := ⟨_, rfl⟩
  rw [← ht] at hv
  have hLL : ∀ G' L' a e, ∀ x, x ∈ hLL → @LLTrue ((ftNm G l n t G' L' a e).val fun _ => undef) x := fun G' L' a e => fa ⟨rfl, n, Nat.succ_pos 3, hn, rfl⟩ fz
  have hT : ∀ G' L' a e big long, decide ((n : Int) > 200) = big → (big = false → decide ((t.length : Int) > 70000) = long) → ∀ x, x ∈ ftT big long → @TETrue ((ftNm G l n t G' L' a e).val fun _ => undef) x := fun G' L' a e big long hb hlg => by
    letI : Val := (ftNm G l n t G' L' a e).val fun _ => undef
    refine fa (f_gtr (k := .i64) (m := (n : Int)) (n := 200) rfl rfl hb) ?_
    cases big with
    | true => exact fz
    | false => exact fa (f_len (s := bs t) rfl (by rw [bs_list]; rfl) rfl) (fa (f_gtr (k := .i64) (m := (t.length : Int)) (n := 70000) rfl rfl (hlg rfl)) fz)
  by_cases hbig : (n : Int) > 200
  · have ht : @TbOK ((ftNm G l n t 0 [] 0 0).val fun _ => undef) (ftX true) := by
      letI : Val := (ftNm G l n t 0 [] 0 0).val fun _ => undef
      exact { X := saneX_true, T := hT _ _ _ _ true true (decide_eq_true hbig) (fun h => by cases h), LL := hLL _ _ _ _ }
    exact done_flat _ ht (all2_all ft_skip true) rfl rfl rfl w hr vs (hv _ _ _ _)
  · by_cases hlong : (t.length : Int) > 70000
    · have ht : @TbOK ((ftNm G l n t 0 [] 0 0).val fun _ => undef) (ftX false) := by
        letI : Val := (ftNm G l n t 0 [] 0 0).val fun _ => undef
        exact { X := saneX_true, T := hT _ _ _ _ false true (decide_eq_false hbig) (fun _ => decide_eq_true hlong), LL := hLL _ _ _ _ }
      exact done_flat _ ht (all2_all ft_skip false) rfl rfl rfl w hr vs (hv _ _ _ _)
    · have hT' := fun G' L' a e => hT G' L' a e false false (decide_eq_false hbig) (fun _ => decide_eq_false hlong)
      have hC : ∀ G' L' a e, ∀ x, x ∈ ftC → @AnsN ((ftNm G l n t G' L' a e).val fun _ => undef) x.f x.a (@cvF ((ftNm G l n t G' L' a e).val fun _ => undef) x.r) := fun G' L' a e => by
        have e1 : @cvF ((ftNm G l n t G' L' a e).val fun _ => undef) (.tup [sS 1, sI 7]) = prtV G l n := by
          show Value.tuple #[strB (if validM G l n then accT G l n else []), .int .i64 (if validM G l n then 0 else 40)] = _
          unfold prtV
          cases validM G l n <;> rfl
        refine fa ?_ (fa ?_ fz)
        · show @AnsN ((ftNm G l n t G' L' a e).val fun _ => undef) fPrint [fellR] (@cvF ((ftNm G l n t G' L' a e).val fun _ => undef) (.tup [sS 1, sI 7]))
          rw [e1]
          exact print_ans ((ftNm G l n t G' L' a e).val fun _ => undef) rfl rfl hl hn
        · show @AnsN ((ftNm G l n t G' L' a e).val fun _ => undef) fRPrint [fellR] (@cvF ((ftNm G l n t G' L' a e).val fun _ => undef) (.tup [sS 1, sI 7]))
          rw [e1]
          exact rprint_ans ((ftNm G l n t G' L' a e).val fun _ => undef) rfl rfl hl hn
      have flat : ∀ G' a e, Ans fParse [strB t] (.tuple #[.agg #[.int .i64 G', .slice none 0 0], .int .i64 a, .int .i64 e]) → Ans fRParse [strB t] (.tuple #[.agg #[.int .i64 G', .slice none 0 0], .int .i64 a, .int .i64 e]) → Calls Tryz.prog fFellTexts vs.toArray w (fun e w' => e = .returned (.bool true) ∧ Below w.heap.size w w') := fun G' a e h1 h2 => by
        have ht : @TbOK ((ftNm G l n t G' [] a e).val fun _ => undef) ftF := by
          have h3 := same_nil ((ftNm G l n t G' [] a e).val fun _ => undef) (r := ftA) (G := G') rfl
          letI : Val := (ftNm G l n t G' [] a e).val fun _ => undef
          exact { X := saneX_true, T := hT' _ _ _ _, LL := hLL _ _ _ _, C := hC _ _ _ _, Y := fa h1 (fa h2 (fa h3 fz)) }
        exact done_flat _ ht ft_flat rfl rfl rfl w hr vs (hv _ _ _ _)
      by_cases h65 : 65536 < t.length
      · exact flat 0 0 2 (parse_long h65 (by omega)) (rparse_long h65 (by omega))
      · obtain ⟨R, hR⟩ : ∃ R, prs 1 0 [] (spl 10 t) = R := ⟨_, rfl⟩
        have hRS : prsS 0 0 [] (spl 10 t) = R := by
          rw [prs_same (spl 10 t) 0 0 [] (spl_ne 10 t) (fun h => absurd rfl h) (.inl ⟨rfl, rfl, rfl⟩)]
          exact hR
        cases R with
        | error k =>
          exact flat 0 (k : Nat) 3 (parse_flat (fun V2 w hr => parse_D V2 (by omega) hR (fun _ _ _ h => by cases h) w hr) fun _ _ => rfl) (parse_flat (fun V2 w hr => rparse_D V2 (by omega) hRS (fun _ _ _ h => by cases h) w hr) fun _ _ => rfl)
        | ok x =>
          obtain ⟨G', L'⟩ := x
          cases L' with
          | nil =>
            exact flat G' 0 0 (parse_flat (fun V2 w hr => parse_D V2 (by omega) hR (fun _ _ _ h => by cases h) w hr) fun _ _ => rfl) (parse_flat (fun V2 w hr => rparse_D V2 (by omega) hRS (fun _ _ _ h => by cases h) w hr) fun _ _ => rfl)
          | cons v L' =>
            have hback := (parse_back hR).2
            have h32 := (validM_iff _ _ _).1 hback.2.2
            have ht : @TbOK ((ftNm G l n t G' (v :: L') 0 0).val fun _ => undef) ftG := by
              have q1 := parse_q ((ftNm G l n t G' (v :: L') 0 0).val fun _ => undef) (f := fParse) (t := t) (G := G') (v := v) (L := L') rfl rfl rfl fun V2 g1 g2 w hr => parse_D V2 (by omega) hR (fun G1 v1 L1 h => by cases h; exact ⟨g1, g2⟩) w hr
              have q2 := parse_q ((ftNm G l n t G' (v :: L') 0 0).val fun _ => undef) (f := fRParse) (t := t) (G := G') (v := v) (L := L') rfl rfl rfl fun V2 g1 g2 w hr => rparse_D V2 (by omega) hRS (fun G1 v1 L1 h => by cases h; exact ⟨g1, g2⟩) w hr
              have q3 := same_list ((ftNm G l n t G' (v :: L') 0 0).val fun _ => undef) (G := G') (L := v :: L') (n := (v :: L').length / 4) (a := 4) (i := 9) rfl rfl hback.1 hback.2.1 (by omega)
              letI : Val := (ftNm G l n t G' (v :: L') 0 0).val fun _ => undef
              exact { X := saneX_true, T := hT' _ _ _ _, LL := hLL _ _ _ _, C := hC _ _ _ _, U := qnU_ok _ (fa q1 (fa q2 (fa q3 fz))) }
            exact done_flat _ ht ft_list rfl rfl rfl w hr vs (hv _ _ _ _)
end Go.Proofs.Z
