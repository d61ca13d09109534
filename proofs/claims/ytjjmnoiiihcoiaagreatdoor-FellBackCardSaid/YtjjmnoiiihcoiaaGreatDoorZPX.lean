/- A part of the proofs that the laws of layer four answer true for every input. -/
import Derived.Test.YtjjmnoiiihcoiaaGreatDoorZPU
namespace Go.Proofs.Z
open Go Go.RowKit Go.Proofs Go.Ri Go.Proofs.Z.Fa
/-! The law's same, of two fells. 0, 1 and list 0 the second's; 10, 11 and list 9 the first's; 2 the place, 3 to 6 and 13 to 16 the gates there. -/
def smD : List RV := [.agg [sI 10, .slN 0 9 4], fellR]
noncomputable def smLL : List LNE := [⟨0, 4, sI 1⟩, ⟨9, 4, sI 11⟩]
noncomputable def smE (c : Nat) : Tb := { T := ⟨.ieq, sI 10, sI 0, bR (!(Nat.beq c 0))⟩ :: if Nat.beq c 0 then [] else [⟨.ieq, sI 11, sI 1, bR (!(Nat.beq c 1))⟩], LL := smLL }
noncomputable def smP : St := ⟨patW [(2, .ptr 2 0), (3, .ptr 3 0), (5, sI 2)] 38 0, [some (.lstA 9), some (.lstA 0), some (.cells [sI 10, .slA 0 9 4] tFell false false), some (.cells [sI 0, .slA 1 0 4] tFell false false)]⟩
def smS (r : RV) : List SE := [.int 2 r, .int 0 (sI 0), .int 10 (sI 10), .int 1 (sI 1), .int 11 (sI 11), .lst 0 0, .lst 9 9]
set_option maxRecDepth 100000 in
theorem sm_enter : atH (entN (smE 2) [] fSame smD) fSame 0 (smS (lI 0)) [0, 1, 2, 3] smP = true := by kernel_rfl
set_option maxRecDepth 100000 in
theorem sm_diff : (allU 2 fun c => doneQ (smE c) [] fSame smD [] [] (bR false) []) = true := by kernel_rfl
def smQ (a b c d : Bool) : List TE := [⟨.bin .lss, sI 2, sI 11, bR true⟩, ⟨.inb, sI 2, sI 11, bR true⟩, ⟨.inb, sI 2, sI 1, bR true⟩, ⟨.ieq, sI 13, sI 3, bR a⟩, ⟨.ieq, sI 14, sI 4, bR b⟩, ⟨.ieq, sI 15, sI 5, bR c⟩, ⟨.ieq, sI 16, sI 6, bR d⟩, ⟨.bin .add, sI 2, lI 1, sI 7⟩]
noncomputable def smX (a b c d : Bool) : Tb := { T := smQ a b c d, LL := smLL, LX := [⟨0, 2, [sI 3, sI 4, sI 5, sI 6]⟩, ⟨9, 2, [sI 13, sI 14, sI 15, sI 16]⟩] }
set_option maxRecDepth 100000 in
theorem sm_round : (all2 fun a => all2 fun b => all2 fun c => all2 fun d => match a && b && c && d with | true => true | false => endF (smX a b c d) fSame (fromH (smX a b c d) [] fSame 0 smP) (bR false)) = true := by kernel_rfl
set_option maxRecDepth 100000 in
theorem sm_again : atH (fromH (smX true true true true) [] fSame 0 smP) fSame 0 (smS (sI 7)) [0, 1, 2, 3] smP = true := by kernel_rfl
noncomputable def smO : Tb := { T := [⟨.bin .lss, sI 2, sI 11, bR false⟩], LL := smLL }
set_option maxRecDepth 100000 in
theorem sm_out : endF smO fSame (fromH smO [] fSame 0 smP) (bR true) = true := by kernel_rfl
def smI (G' : Int) (L' : List Value) (m : Nat) (G : Int) (l : List Value) (n k : Nat) (j : Nat) : Int :=
  if j = 0 then G else if j = 10 then G' else if j = 1 then (n : Nat) else if j = 11 then (m : Nat) else if j = 2 then (k : Nat) else if j = 3 then gtA l k else if j = 4 then gtB l k else if j = 5 then gtF l k else if j = 6 then gtT l k else if j = 13 then gtA L' k else if j = 14 then gtB L' k else if j = 15 then gtF L' k else if j = 16 then gtT L' k else (k : Int) + 1
def smNm (G' : Int) (L' : List Value) (m : Nat) (G : Int) (l : List Value) (n k : Nat) : Nm := ⟨smI G' L' m G l n k, ny, fun _ => ⟨#[]⟩, fun j => if j = 9 then L' else l⟩
theorem smT_ok (W : Nat → Value) {G' G : Int} {L' l : List Value} {n k : Nat} (hn : l.length = n * 4) (hm : L'.length = n * 4) : ∀ e, e ∈ smLL → @LLTrue ((smNm G' L' n G l n k).val W) e := fa ⟨rfl, n, Nat.succ_pos 3, hn, rfl⟩ (fa ⟨rfl, n, Nat.succ_pos 3, hm, rfl⟩ fz)
theorem gts_row {l : List Value} {k : Nat} (hl : ints l) (h : k * 4 + 4 ≤ l.length) : (l.drop (k * 4)).take 4 = [iZ (gtA l k), iZ (gtB l k), iZ (gtF l k), iZ (gtT l k)] := row4 hl k h
theorem take_row {l : List Value} {k : Nat} (hl : ints l) (h : k * 4 + 4 ≤ l.length) : l.take ((k + 1) * 4) = l.take (k * 4) ++ [iZ (gtA l k), iZ (gtB l k), iZ (gtF l k), iZ (gtT l k)] := by
  rw [← gts_row hl h, show (k + 1) * 4 = k * 4 + 4 by omega, List.take_add]
open Classical in
theorem same_gen (V : Val) {G' G : Int} {L' l : List Value} {n m : Nat} (hG' : V.I 10 = G') (hG : V.I 0 = G) (hL' : V.L 9 = L') (hL : V.L 0 = l) (hi' : ints L') (hi : ints l) (hm : L'.length = m * 4) (hn : l.length = n * 4) (hb : n ≤ 60000) : @AnsN V fSame smD (.bool (decide (G' = G ∧ L' = l))) := by
  intro w hr vs hv
  have conv : ∀ m, All2 (@Go.Ri.NVal ((smNm G' L' m G l n 0).val fun _ => undef) w) smD vs := fun m => by
    cases hv with
    | cons h1 h2 => cases h2 with
      | cons h2 h3 =>
        cases h3
        exact .cons (fell_nvalX (V := V) (V' := (smNm G' L' m G l n 0).val fun _ => undef) (b := 10) (j := 9) hG' hL' h1) (.cons (fell_nval1 (V := V) (V' := (smNm G' L' m G l n 0).val fun _ => undef) hG hL h2) .nil)
  have hLLm : ∀ e, e ∈ smLL → @LLTrue ((smNm G' L' m G l n 0).val fun _ => undef) e := fa ⟨rfl, n, Nat.succ_pos 3, hn, rfl⟩ (fa ⟨rfl, m, Nat.succ_pos 3, hm, rfl⟩ fz)
  by_cases hGG : G' = G
  · by_cases hmn : m = n
    · subst hmn
      subst hGG
      have ht0 : @TbOK ((smNm G' L' m G' l m 0).val fun _ => undef) (smE 2) := by
        letI : Val := (smNm G' L' m G' l m 0).val fun _ => undef
        exact { T := fa (f_ieq (k := .i64) (m := G') (n := G') rfl rfl (by rw [eqdec]; exact decide_eq_true rfl)) (fa (f_ieq (k := .i64) (m := (m : Int)) (n := (m : Int)) rfl rfl (by rw [eqdec]; exact decide_eq_true rfl)) fz), LL := hLLm }
      have ids : ∀ k k' W W' x, @cv ((smNm G' L' m G' l m k).val W) x = .int .i64 (k' : Nat) → ∀ q, q ∈ smS x → okSE ((smNm G' L' m G' l m k).val W) ((smNm G' L' m G' l m k').val W') q := fun k k' W W' x hx =>
        fa ⟨.i64, (k' : Nat), hx, rfl⟩ (fa ⟨.i64, G', rfl, rfl⟩ (fa ⟨.i64, G', rfl, rfl⟩ (fa ⟨.i64, (m : Nat), rfl, rfl⟩ (fa ⟨.i64, (m : Nat), rfl, rfl⟩ (fa (okLs l rfl rfl) (fa (okLs L' rfl rfl) fz))))))
      refine fn_headsN (κ := Unit) (smNm G' L' m G' l m 0) (fun _ => undef) (smE 2) [] fSame smD (fun _ => 0) (fun _ => smP) (fun q _ d => ∃ k, k ≤ m ∧ q = m - k ∧ L'.take (k * 4) = l.take (k * 4) ∧ d = smNm G' L' m G' l m k) ht0 (smS (lI 0)) [0, 1, 2, 3] () m sm_enter (smNm G' L' m G' l m 0) (fun W' => holds_all (ids 0 0 _ W' (lI 0) rfl)) ⟨0, Nat.zero_le _, rfl, by simp, rfl⟩ (DF (.bool (decide (G' = G' ∧ L' = l)))) ?_ w hr vs (conv m)
      rintro w q _ d ⟨k, hk, rfl, htk, rfl⟩ W
      have hLL := smT_ok (G' := G') (G := G') (k := k) W hn hm
      rcases Nat.lt_or_ge k m with hlt | hge
      · have r1 := gts_row (k := k) hi' (by omega)
        have r2 := gts_row (k := k) hi (by omega)
        have ht : ∀ a b c d, decide (gtA L' k = gtA l k) = a → decide (gtB L' k = gtB l k) = b → decide (gtF L' k = gtF l k) = c → decide (gtT L' k = gtT l k) = d → @TbOK ((smNm G' L' m G' l m k).val W) (smX a b c d) := fun a b c d ha hb hc hd => by
          letI : Val := (smNm G' L' m G' l m k).val W
          refine { T := fa (f_lss (k := .i64) (m := (k : Int)) (n := (m : Int)) rfl rfl (decide_eq_true (by omega))) (fa (f_inb (m := (k : Int)) (n := (m : Int)) rfl rfl (by omega)) (fa (f_inb (m := (k : Int)) (n := (m : Int)) rfl rfl (by omega)) (fa (f_ieq (k := .i64) (m := gtA L' k) (n := gtA l k) rfl rfl (by rw [eqdec]; exact ha)) (fa (f_ieq (k := .i64) (m := gtB L' k) (n := gtB l k) rfl rfl (by rw [eqdec]; exact hb)) (fa (f_ieq (k := .i64) (m := gtF L' k) (n := gtF l k) rfl rfl (by rw [eqdec]; exact hc)) (fa (f_ieq (k := .i64) (m := gtT L' k) (n := gtT l k) rfl rfl (by rw [eqdec]; exact hd)) (fa (f_add1 (m := (k : Int)) rfl rfl rfl (by omega) (by omega)) fz))))))), LL := hLL, LX := fa ⟨rfl, ?_, ?_⟩ (fa ⟨rfl, ?_, ?_⟩ fz) }
          · show ((k : Nat) : Int).toNat * 4 + 4 ≤ l.length
            rw [Int.toNat_natCast]
            omega
          · show (l.drop (((k : Nat) : Int).toNat * 4)).take 4 = _
            rw [Int.toNat_natCast]
            exact r2
          · show ((k : Nat) : Int).toNat * 4 + 4 ≤ L'.length
            rw [Int.toNat_natCast]
            omega
          · show (L'.drop (((k : Nat) : Int).toNat * 4)).take 4 = _
            rw [Int.toNat_natCast]
            exact r1
        by_cases hrow : gtA L' k = gtA l k ∧ gtB L' k = gtB l k ∧ gtF L' k = gtF l k ∧ gtT L' k = gtT l k
        · obtain ⟨e1, e2, e3, e4⟩ := hrow
          exact stepH_to (smX true true true true) [] (ht true true true true (decide_eq_true e1) (decide_eq_true e2) (decide_eq_true e3) (decide_eq_true e4)) (smS (sI 7)) [0, 1, 2, 3] rfl () (smNm G' L' m G' l m (k + 1)) sm_again (fun W' => holds_all (ids k (k + 1) W W' (sI 7) rfl)) ⟨m - (k + 1), by omega, k + 1, hlt, rfl, by rw [take_row hi' (by omega), take_row hi (by omega), htk, e1, e2, e3, e4], rfl⟩
        · have hne : L' ≠ l := fun e => hrow (by rw [e]; exact ⟨rfl, rfl, rfl, rfl⟩)
          have h4 : (decide (gtA L' k = gtA l k) && decide (gtB L' k = gtB l k) && decide (gtF L' k = gtF l k) && decide (gtT L' k = gtT l k)) = false := by
            rw [Bool.eq_false_iff]
            intro h
            simp only [Bool.and_eq_true, decide_eq_true_eq] at h
            exact hrow ⟨h.1.1.1, h.1.1.2, h.1.2, h.2⟩
          have hrun := all2_all (all2_all (all2_all (all2_all sm_round (decide (gtA L' k = gtA l k))) (decide (gtB L' k = gtB l k))) (decide (gtF L' k = gtF l k))) (decide (gtT L' k = gtT l k))
          rw [h4] at hrun
          exact stepH_outF _ [] (ht _ _ _ _ rfl rfl rfl rfl) (bR false) hrun (by rw [decide_eq_false fun h => hne h.2]; rfl)
      · obtain rfl : k = m := by omega
        have ht : @TbOK ((smNm G' L' k G' l k k).val W) smO := by
          letI : Val := (smNm G' L' k G' l k k).val W
          exact { T := fa (f_lss (k := .i64) (m := (k : Int)) (n := (k : Int)) rfl rfl (decide_eq_false (by omega))) fz, LL := hLL }
        rw [List.take_of_length_le (by omega), List.take_of_length_le (by omega)] at htk
        exact stepH_outF smO [] ht (bR true) sm_out (by rw [decide_eq_true ⟨rfl, htk⟩]; rfl)
    · have ht : @TbOK ((smNm G' L' m G l n 0).val fun _ => undef) (smE 1) := by
        letI : Val := (smNm G' L' m G l n 0).val fun _ => undef
        exact { T := fa (f_ieq (k := .i64) (m := G') (n := G) rfl rfl (by rw [eqdec]; exact decide_eq_true hGG)) (fa (f_ieq (k := .i64) (m := (m : Int)) (n := (n : Int)) rfl rfl (by rw [eqdec]; exact decide_eq_false (by omega))) fz), LL := hLLm }
      rw [decide_eq_false fun h => by have := h.2; rw [this] at hm; omega]
      exact done_flat _ ht (allU_lt sm_diff 1 (by decide)) rfl rfl rfl w hr vs (conv m)
  · have ht : @TbOK ((smNm G' L' m G l n 0).val fun _ => undef) (smE 0) := by
      letI : Val := (smNm G' L' m G l n 0).val fun _ => undef
      exact { T := fa (f_ieq (k := .i64) (m := G') (n := G) rfl rfl (by rw [eqdec]; exact decide_eq_false hGG)) fz, LL := hLLm }
    rw [decide_eq_false fun h => hGG h.1]
    exact done_flat _ ht (allU_lt sm_diff 0 (by decide)) rfl rfl rfl w hr vs (conv m)
end Go.Proofs.Z

namespace Go.Proofs.Z
open Go Go.RowKit Go.Proofs Go.Ri Go.Proofs.Z.Fa
/-! The law FellBack: runs. As in FellTexts; list 19 the gates of the printed text, 9 those of the string. -/
abbrev fFellBack : Nat := 17
noncomputable def bkX (big : Bool) : Tb := { X := saneX, T := ftT big true, LL := hLL }
set_option maxRecDepth 100000 in
theorem bk_skip : (all2 fun big => doneQ (bkX big) [] fFellBack ftD [] [] (bR true) []) = true := by kernel_rfl
noncomputable def bkB : Tb := { X := saneX, T := ftT false false, LL := hLL, C := [⟨fPrint, [fellR], .tup [lB [], lI 40]⟩, ⟨fCheck, [fellR], lI 40⟩] }
set_option maxRecDepth 100000 in
theorem bk_bad : doneQ bkB [] fFellBack ftD [] [] (bR true) [] = true := by kernel_rfl
/-- What was parsed: no gates, or a list. -/
def bkV (a i : Nat) (ne : Bool) : RV := .agg [sI a, if ne then .slN 0 i 4 else nilR]
noncomputable def bkPY (s a i : Nat) (ne : Bool) : List YE := if ne then [] else [⟨fParse, [sS s], .tup [bkV a i false, lI 0, lI 0]⟩]
noncomputable def bkPU (s a i : Nat) (ne : Bool) : List QE := if ne then [⟨fParse, [sS s], .tup [bkV a i true, lI 0, lI 0], [some (.lst i tGate true)]⟩] else []
def bkC (x : Bool) : List YE := ⟨fPrint, [fellR], .tup [sS 1, lI 0]⟩ :: [⟨fSame, [bkV 0 19 x, fellR], bR true⟩]
noncomputable def bkE (x c : Bool) : Tb := { X := saneX, T := ftT false false ++ [⟨.bin .gtr, sI 5, lI 0, bR true⟩], LL := hLL, C := bkC x, Y := bkPY 1 0 19 x ++ [⟨fParse, [sS 0], .tup [.agg [lI 0, nilR], if c then sI 5 else lI 0, if c then lI 3 else lI 2]⟩], U := qnU (bkPU 1 0 19 x) }
set_option maxRecDepth 100000 in
theorem bk_err : (all2 fun x => all2 fun c => doneQ (bkE x c) [] fFellBack ftD [] [] (bR true) []) = true := by kernel_rfl
noncomputable def bkG (x y q : Bool) : Tb := { X := saneX, T := ftT false false ++ [⟨.seq, sS 0, sS 1, bR q⟩], LL := hLL, C := bkC x ++ [⟨fSame, [bkV 4 9 y, fellR], bR q⟩], Y := bkPY 1 0 19 x ++ bkPY 0 4 9 y, U := qnU (bkPU 1 0 19 x ++ bkPU 0 4 9 y) }
set_option maxRecDepth 100000 in
theorem bk_ok : (all2 fun x => all2 fun y => all2 fun q => doneQ (bkG x y q) [] fFellBack ftD [] [] (bR true) []) = true := by kernel_rfl
end Go.Proofs.Z

namespace Go.Proofs.Z
open Go Go.RowKit Go.Proofs Go.Ri Go.Proofs.Z.Fa
/-! The law FellBack. -/
theorem prs_pos : ∀ (ls : List (List UInt8)) (n : Nat) (G : Int) (L : List Value) (k : Nat), prs n G L ls = .error k → n ≤ k
  | [], n, _, _, k, h => by
    have h : Except.error n = Except.error k := h
    cases h
    exact Nat.le_refl _
  | [_], n, _, _, k, h => by
    have h : Except.error n = Except.error k := h
    cases h
    exact Nat.le_refl _
  | a :: b :: r, n, G, L, k, h => by
    have h : (match rdP G L a with | none => Except.error n | some (G', L') => if b = [] ∧ r = [] then Except.ok (G', L') else prs (n + 1) G' L' (b :: r)) = Except.error k := h
    split at h
    · cases h
      exact Nat.le_refl _
    · split at h
      · cases h
      · have := prs_pos (b :: r) (n + 1) _ _ k h
        omega
theorem parse_qg (V : Val) {s a i : Nat} {t : List UInt8} {G : Int} {v : Value} {L : List Value} (ht : t.length ≤ 65536) (hR : prs 1 0 [] (spl 10 t) = .ok (G, v :: L)) (h0 : V.S s = bs t) (h4 : V.I a = G) (h9 : V.L i = v :: L)
    (hm : mtS [.int a (sI 0), .lst i 9] [0] ⟨[zrOk], [some (.lst 9 tGate true)]⟩ ⟨[.tup [bkV a i true, lI 0, lI 0]], [some (.lst i tGate true)]⟩ = true) : @QNTrue V ⟨fParse, [sS s], .tup [bkV a i true, lI 0, lI 0], [some (.lst i tGate true)]⟩ := by
  intro w hr vs hv
  obtain rfl : vs = [strB t] := by
    cases hv with
    | cons h1 h2 =>
      cases h2
      rw [@flat_of_nval V w (sS s) _ rfl h1, show @cvF V (sS s) = strB t from congrArg Value.string h0]
  let V2 : Val := (⟨fun _ => G, ny, fun _ => bs t, fun _ => v :: L⟩ : Nm).val fun _ => undef
  refine (parse_D V2 ht hR (fun G1 v1 L1 h => by cases h; exact ⟨rfl, rfl⟩) w hr).mono fun x w' hq => ?_
  obtain ⟨u, E', he, hu, H⟩ : ∃ u E', x = .returned u ∧ @VRel V2 E' zrOk u ∧ @HInv V2 ro w.heap.size w E' [some (.lst 9 tGate true)] w' := hq
  have q := mtQ_ok (V := V2) (V' := V) hm rfl (holds_all (fa ⟨.i64, G, rfl, h4⟩ (fa (okLs (v :: L) h9 rfl) fz))) hu H
  exact ⟨u, _, he, q.1, q.2⟩
theorem parse_n {t : List UInt8} {G : Int} (ht : t.length ≤ 65536) (hR : prs 1 0 [] (spl 10 t) = .ok (G, [])) : Ans fParse [strB t] (zrOV G) :=
  parse_flat (fun V2 w hr => parse_D V2 ht hR (fun _ _ _ h => by cases h) w hr) fun _ _ => rfl
theorem parse_e {t : List UInt8} {k : Nat} (ht : t.length ≤ 65536) (hR : prs 1 0 [] (spl 10 t) = .error k) : Ans fParse [strB t] (zrEV k) :=
  parse_flat (fun V2 w hr => parse_D V2 ht hR (fun _ _ _ h => by cases h) w hr) fun _ _ => rfl
theorem not_empty {L : List Value} {ne : Bool} (h : (!L.isEmpty) = ne) : (ne = false → L = []) ∧ (ne = true → ∃ v M, L = v :: M) := by
  cases L with
  | nil => exact ⟨fun _ => rfl, fun h' => (by rw [h'] at h; cases h)⟩
  | cons v M => exact ⟨fun h' => (by rw [h'] at h; cases h), fun _ => ⟨v, M, rfl⟩⟩
open Classical in
theorem bk_same (V : Val) {a i : Nat} {ne : Bool} {G' G : Int} {L' l : List Value} {n m : Nat} (hne : (!L'.isEmpty) = ne) (hG' : V.I a = G') (hL' : V.L i = L') (hG : V.I 0 = G) (hL : V.L 0 = l) (hi' : ints L') (hi : ints l) (hm : L'.length = m * 4) (hn : l.length = n * 4) (hb : n ≤ 60000) {q : Bool} (hq : (G' = G ∧ L' = l) ↔ q = true) : @AnsN V fSame [bkV a i ne, fellR] (.bool q) := by
  have e0 : decide (G' = G ∧ L' = l) = q := by
    cases q with
    | true => exact decide_eq_true (hq.2 rfl)
    | false => exact decide_eq_false fun h => by have := hq.1 h; cases this
  rw [← e0]
  intro w hr vs hv
  let V1 : Val := (smNm G' L' m G l n 0).val fun _ => undef
  refine same_gen V1 (G' := G') (G := G) (L' := L') (l := l) (n := n) (m := m) rfl rfl rfl rfl hi' hi hm hn hb w hr vs ?_
  cases hv with
  | cons h1 h2 => cases h2 with
    | cons h2 h3 =>
      cases h3
      refine .cons ?_ (.cons (fell_nval1 (V := V) (V' := V1) hG hL h2) .nil)
      cases ne with
      | true => exact fell_nvalX (V := V) (V' := V1) (a := a) (i := i) (b := 10) (j := 9) hG' hL' h1
      | false =>
        have hnil := (not_empty hne).1 rfl
        have e := @flat_of_nval V w (bkV a i false) _ rfl h1
        rw [e, show @cvF V (bkV a i false) = .agg #[.int .i64 G', .slice none 0 0] by
          show Value.agg #[.int .i64 (V.I a), .slice none 0 0] = _
          rw [hG']]
        have hL9 : V1.L 9 = [] := hnil
        refine ⟨#[.int .i64 G', .slice none 0 0], rfl, .cons rfl (.cons ⟨none, 0, 0, rfl, fun h => absurd hL9 h, by decide, ?_, Nat.le_refl _, fun a ha => by cases ha⟩ .nil)⟩
        rw [hL9]
        rfl
def bkNm (G : Int) (l : List Value) (n : Nat) (t : List UInt8) (G' : Int) (L' : List Value) (k : Int) : Nm := ⟨fun i => if i = 0 then G else if i = 1 then (n : Int) else if i = 4 then G' else if i = 5 then k else (t.length : Int), ny, fun j => bs (if j = 0 then t else textF G l), fun i => if i = 9 then L' else l⟩
theorem back_all (G : Int) (l : List Value) (n : Nat) (s : ByteArray) (hl : ints l) (hn : l.length = n * 4) (w : World) (hr : RoIn ro w) (vs : List Value) (hv : ∀ G' L' k, All2 (@Go.Ri.NVal ((bkNm G l n s.data.toList G' L' k).val fun _ => undef) w) ftD vs) : Calls Tryz.prog fFellBack vs.toArray w (fun e w' => e = .returned (.bool true) ∧ Below w.heap.size w w') := by
  obtain ⟨t, ht⟩ : ∃ t, t = s.data.toList := ⟨_, rfl⟩
  rw [← ht] at hv
  have hLL : ∀ G' L' k, ∀ x, x ∈ hLL → @LLTrue ((bkNm G l n t G' L' k).val fun _ => undef) x := fun G' L' k => fa ⟨rfl, n, Nat.succ_pos 3, hn, rfl⟩ fz
  have hT : ∀ G' L' k big long, decide ((n : Int) > 200) = big → (big = false → decide ((t.length : Int) > 70000) = long) → ∀ x, x ∈ ftT big long → @TETrue ((bkNm G l n t G' L' k).val fun _ => undef) x := fun G' L' k big long hb hlg => by
    letI : Val := (bkNm G l n t G' L' k).val fun _ => undef
    refine fa (f_gtr (k := .i64) (m := (n : Int)) (n := 200) rfl rfl hb) ?_
    cases big with
    | true => exact fz
    | false => exact fa (f_len (s := bs t) rfl (by rw [bs_list]; rfl) rfl) (fa (f_gtr (k := .i64) (m := (t.length : Int)) (n := 70000) rfl rfl (hlg rfl)) fz)
  by_cases hbig : (n : Int) > 200
  · have ht : @TbOK ((bkNm G l n t 0 [] 0).val fun _ => undef) (bkX true) := by
      letI : Val := (bkNm G l n t 0 [] 0).val fun _ => undef
      exact { X := saneX_true, T := hT _ _ _ true true (decide_eq_true hbig) (fun h => by cases h), LL := hLL _ _ _ }
    exact done_flat _ ht (all2_all bk_skip true) rfl rfl rfl w hr vs (hv _ _ _)
  by_cases hlong : (t.length : Int) > 70000
  · have ht : @TbOK ((bkNm G l n t 0 [] 0).val fun _ => undef) (bkX false) := by
      letI : Val := (bkNm G l n t 0 [] 0).val fun _ => undef
      exact { X := saneX_true, T := hT _ _ _ false true (decide_eq_false hbig) (fun _ => decide_eq_true hlong), LL := hLL _ _ _ }
    exact done_flat _ ht (all2_all bk_skip false) rfl rfl rfl w hr vs (hv _ _ _)
  have hT' := fun G' L' k => hT G' L' k false false (decide_eq_false hbig) (fun _ => decide_eq_false hlong)
  cases hva : validM G l n with
  | false =>
    have ht : @TbOK ((bkNm G l n t 0 [] 0).val fun _ => undef) bkB := by
      have q1 := print_ans ((bkNm G l n t 0 [] 0).val fun _ => undef) (G := G) (l := l) (n := n) rfl rfl hl hn
      have q2 := check_ans ((bkNm G l n t 0 [] 0).val fun _ => undef) (G := G) (l := l) (n := n) rfl rfl hl hn
      unfold prtV at q1
      unfold errM at q2
      rw [hva] at q1 q2
      letI : Val := (bkNm G l n t 0 [] 0).val fun _ => undef
      exact { X := saneX_true, T := hT' _ _ _, LL := hLL _ _ _, C := fa q1 (fa q2 fz) }
    exact done_flat _ ht bk_bad rfl rfl rfl w hr vs (hv _ _ _)
  | true =>
    have hn4 : l.length / 4 = n := by omega
    have hRg : Rgt G l := ⟨hl, by omega, by rw [hn4]; exact hva⟩
    have h32 := (validM_iff _ _ _).1 hva
    have htx : accT G l n = textF G l := accT_text hn
    have htl : (textF G l).length ≤ 65536 := by
      rw [← htx]
      have := accT_len hva n (Nat.le_refl _)
      omega
    have hprs := parse_text hRg
    obtain ⟨x, hx⟩ : ∃ x, (!l.isEmpty) = x := ⟨_, rfl⟩
    have hC : ∀ G' L' k, ∀ e, e ∈ bkC x → @AnsN ((bkNm G l n t G' L' k).val fun _ => undef) e.f e.a (@cvF ((bkNm G l n t G' L' k).val fun _ => undef) e.r) := fun G' L' k => by
      have q1 := print_ans ((bkNm G l n t G' L' k).val fun _ => undef) (G := G) (l := l) (n := n) rfl rfl hl hn
      unfold prtV at q1
      rw [hva, htx] at q1
      have q2 := bk_same ((bkNm G l n t G' L' k).val fun _ => undef) (a := 0) (i := 19) (ne := x) (G' := G) (G := G) (L' := l) (l := l) (n := n) (m := n) hx rfl rfl rfl rfl hl hl hn hn (by omega) (q := true) ⟨fun _ => rfl, fun _ => ⟨rfl, rfl⟩⟩
      exact fa q1 (fa q2 fz)
    have hY : ∀ G' L' k, ∀ e, e ∈ bkPY 1 0 19 x → Ans e.f (e.a.map (@cvF ((bkNm G l n t G' L' k).val fun _ => undef))) (@cvF ((bkNm G l n t G' L' k).val fun _ => undef) e.r) := fun G' L' k => by
      cases x with
      | true => exact fz
      | false =>
        have hnil := (not_empty hx).1 rfl
        have q : Ans fParse [strB (textF G l)] (zrOV G) := parse_n htl (by rw [hprs, hnil])
        exact fa q fz
    have hU : ∀ G' L' k, ∀ e, e ∈ bkPU 1 0 19 x → @QNTrue ((bkNm G l n t G' L' k).val fun _ => undef) e := fun G' L' k => by
      cases x with
      | false => exact fz
      | true =>
        obtain ⟨v, M, hM⟩ := (not_empty hx).2 rfl
        exact fa (parse_qg ((bkNm G l n t G' L' k).val fun _ => undef) (s := 1) (a := 0) (i := 19) (t := textF G l) (G := G) (v := v) (L := M) htl (by rw [hprs, hM]) rfl rfl hM (by kernel_rfl)) fz
    have err : ∀ (c : Bool) (k : Nat), 0 < k → Ans fParse [strB t] (if c then zrEV k else .tuple #[.agg #[.int .i64 0, .slice none 0 0], .int .i64 0, .int .i64 2]) → Calls Tryz.prog fFellBack vs.toArray w (fun e w' => e = .returned (.bool true) ∧ Below w.heap.size w w') := fun c k hk hp => by
      have ht : @TbOK ((bkNm G l n t 0 [] (k : Nat)).val fun _ => undef) (bkE x c) := by
        letI : Val := (bkNm G l n t 0 [] (k : Nat)).val fun _ => undef
        refine { X := saneX_true, T := fapp (hT' _ _ _) (fa (f_gtr (k := .i64) (m := (k : Int)) (n := 0) rfl rfl (decide_eq_true (by omega))) fz), LL := hLL _ _ _, C := hC _ _ _, Y := fapp (hY _ _ _) (fa ?_ fz), U := qnU_ok _ (hU _ _ _) }
        cases c
        · exact hp
        · exact hp
      exact done_flat _ ht (all2_all (all2_all bk_err x) c) rfl rfl rfl w hr vs (hv _ _ _)
    by_cases h65 : 65536 < t.length
    · exact err false 1 (by decide) (parse_long h65 (by omega))
    · obtain ⟨R, hR⟩ : ∃ R, prs 1 0 [] (spl 10 t) = R := ⟨_, rfl⟩
      cases R with
      | error k => exact err true k (prs_pos _ _ _ _ _ hR) (parse_e (by omega) hR)
      | ok z =>
        obtain ⟨G', L'⟩ := z
        obtain ⟨hts, hR'⟩ := parse_back hR
        obtain ⟨y, hy⟩ : ∃ y, (!L'.isEmpty) = y := ⟨_, rfl⟩
        obtain ⟨q, hq⟩ : ∃ q, decide (t = textF G l) = q := ⟨_, rfl⟩
        have hiff : (G' = G ∧ L' = l) ↔ t = textF G l := by
          constructor
          · rintro ⟨rfl, rfl⟩
            exact hts
          · intro h
            rw [h, hprs] at hR
            injection hR with hR
            injection hR with e1 e2
            exact ⟨e1.symm, e2.symm⟩
        have ht : @TbOK ((bkNm G l n t G' L' 0).val fun _ => undef) (bkG x y q) := by
          have q2 := bk_same ((bkNm G l n t G' L' 0).val fun _ => undef) (a := 4) (i := 9) (ne := y) (G' := G') (G := G) (L' := L') (l := l) (n := n) (m := L'.length / 4) hy rfl rfl rfl rfl hR'.1 hl hR'.2.1 hn (by omega) (q := q) (hiff.trans (by rw [← hq]; exact decide_eq_true_iff.symm))
          letI : Val := (bkNm G l n t G' L' 0).val fun _ => undef
          refine { X := saneX_true, T := fapp (hT' _ _ _) (fa (f_seq (x := t) (y := textF G l) rfl rfl hq) fz), LL := hLL _ _ _, C := fapp (hC _ _ _) (fa q2 fz), Y := fapp (hY _ _ _) ?_, U := qnU_ok _ (fapp (hU _ _ _) ?_) }
          · cases y with
            | true => exact fz
            | false =>
              have hp : Ans fParse [strB t] (zrOV G') := parse_n (by omega) (by rw [hR, (not_empty hy).1 rfl])
              exact fa hp fz
          · cases y with
            | false => exact fz
            | true =>
              obtain ⟨v, M, hM⟩ := (not_empty hy).2 rfl
              exact fa (parse_qg ((bkNm G l n t G' L' 0).val fun _ => undef) (s := 0) (a := 4) (i := 9) (t := t) (G := G') (v := v) (L := M) (by omega) (by rw [hR, hM]) rfl rfl hM (by kernel_rfl)) fz
        exact done_flat _ ht (all2_all (all2_all (all2_all bk_ok x) y) q) rfl rfl rfl w hr vs (hv _ _ _)
end Go.Proofs.Z
