/- A part of the proofs that the laws of layer four answer true for every input. -/
import Derived.Test.YtjjmnoiiihcoiaaGreatDoorZPL
namespace Go.Proofs.Z
open Go Go.RowKit Go.Proofs Go.Ri Go.Proofs.Z.Fa
/-! The specification's Parse: its steps. -/
section
variable {s : List UInt8} {ls : List (List UInt8)} {R : Except Nat (Int × List Value)} {i : Nat} {G : Int} {L : List Value} {ws : List (List UInt8)}
theorem zr_num (W : Nat → Value) (hw : spl 32 (ls.getD i []) = ws) (hl : (ls.getD i []).length ≤ 100000) : Ans fNumber [@cvF ((zrNm s ls ws G L i).val W) (sS 41)] (@cvF ((zrNm s ls ws G L i).val W) (sI 20)) ∧ Ans fNumber [@cvF ((zrNm s ls ws G L i).val W) (sS 42)] (@cvF ((zrNm s ls ws G L i).val W) (sI 21)) ∧ Ans fNumber [@cvF ((zrNm s ls ws G L i).val W) (sS 43)] (@cvF ((zrNm s ls ws G L i).val W) (sI 22)) ∧ Ans fNumber [@cvF ((zrNm s ls ws G L i).val W) (sS 44)] (@cvF ((zrNm s ls ws G L i).val W) (sI 23)) :=
  ⟨number_ans (ws.getD 1 []) (getD_len hw hl 1), number_ans (ws.getD 2 []) (getD_len hw hl 2), number_ans (ws.getD 3 []) (getD_len hw hl 3), number_ans (ws.getD 4 []) (getD_len hw hl 4)⟩
theorem zrF_ok (W : Nat → Value) (hn : ls.length ≤ 1000000) (hi : i + 1 < ls.length) (h0 : i = 0) (hw : spl 32 (ls.getD i []) = ws) (hl : (ls.getD i []).length ≤ 100000) :
    (ws.length ≠ 2 → @TbOK ((zrNm s ls ws G L i).val W) (zrF 0)) ∧ (ws.length = 2 → ws.getD 0 [] ≠ wFell → @TbOK ((zrNm s ls ws G L i).val W) (zrF 1)) ∧ (ws.length = 2 → ws.getD 0 [] = wFell → validM (numS (ws.getD 1 [])) [] 0 = false → @TbOK ((zrNm s ls ws G L i).val W) (zrF 2)) ∧ (ws.length = 2 → ws.getD 0 [] = wFell → validM (numS (ws.getD 1 [])) [] 0 = true → @TbOK ((zrNm s ls ws G L i).val W) (zrF 3)) := by
  letI : Val := (zrNm s ls ws G L i).val W
  have hT := zrT_ok (s := s) (G := G) (L := L) (ws := ws) W hn hi (decide_eq_true h0)
  have hLL : ∀ e, e ∈ ([⟨30, 1, sI 3⟩, ⟨31, 1, sI 41⟩] : List LNE) → LLTrue e := fa (zr30 W) (fa (zr31 W) fz)
  have hLX : ∀ e, e ∈ ([⟨30, 2, [sS 30]⟩] : List LEE) → LXTrue e := fa (zrx30 W (by omega)) fz
  have hY := (zr_num (s := s) (G := G) (L := L) W hw hl).1
  have hU := zr_wl (s := s) (G := G) (L := L) W hw hl
  have hs : ∀ q, decide (ws.getD 0 [] = wFell) = q → TETrue ⟨.seq, sS 40, lB wFell, bR q⟩ := fun q h => f_seq (x := ws.getD 0 []) (y := wFell) rfl rfl h
  have hV : ∀ b, validM (numS (ws.getD 1 [])) [] 0 = b → Ans fValid [cvF (.agg [sI 20, nilR])] (cvF (bR b)) := fun b h => by
    have := valid_nil ((zrNm s ls ws G L i).val W) (r := .agg [sI 20, nilR]) (G := numS (ws.getD 1 [])) rfl
    rw [h] at this
    exact this
  refine ⟨fun h => ?_, fun h h1 => ?_, fun h h1 h2 => ?_, fun h h1 h2 => ?_⟩
  · exact { T := fapp hT (fa (f_ieq (k := .i64) (m := (ws.length : Int)) (n := 2) rfl rfl (by rw [eqdec]; exact decide_eq_false (by omega))) fz), LL := hLL, LX := hLX, Y := fa hY fz, U := qnU_ok _ (fa (hU 0 (.inl rfl)) fz) }
  · exact { T := fapp hT (fa (hs false (decide_eq_false h1)) fz), LL := hLL, LX := hLX, Y := fa hY fz, U := qnU_ok _ (fa (hU 2 (.inr ⟨.inl rfl, h⟩)) fz) }
  · exact { T := fapp hT (fa (hs true (decide_eq_true h1)) fz), LL := hLL, LX := hLX, Y := fa hY (fa (hV false h2) fz), U := qnU_ok _ (fa (hU 2 (.inr ⟨.inl rfl, h⟩)) fz) }
  · exact { T := fapp hT (fa (hs true (decide_eq_true h1)) fz), LL := hLL, LX := hLX, Y := fa hY (fa (hV true h2) fz), U := qnU_ok _ (fa (hU 2 (.inr ⟨.inl rfl, h⟩)) fz) }
theorem zrG_ok (W : Nat → Value) (hn : ls.length ≤ 1000000) (hi : i + 1 < ls.length) (h0 : i ≠ 0) (hw : spl 32 (ls.getD i []) = ws) (hl : (ls.getD i []).length ≤ 100000) (hR : Rgt G L) :
    (ws.length ≠ 5 → @TbOK ((zrNm s ls ws G L i).val W) (zrG 0 (!L.isEmpty))) ∧ (ws.length = 5 → ws.getD 0 [] ≠ wGate → @TbOK ((zrNm s ls ws G L i).val W) (zrG 1 (!L.isEmpty))) ∧ (ws.length = 5 → ws.getD 0 [] = wGate → validM G (L ++ zrNums ws) ((L ++ zrNums ws).length / 4) = false → @TbOK ((zrNm s ls ws G L i).val W) (zrG 2 (!L.isEmpty))) ∧ (ws.length = 5 → ws.getD 0 [] = wGate → validM G (L ++ zrNums ws) ((L ++ zrNums ws).length / 4) = true → @TbOK ((zrNm s ls ws G L i).val W) (zrG 3 (!L.isEmpty))) := by
  letI : Val := (zrNm s ls ws G L i).val W
  obtain ⟨hL, hL4, hLv⟩ := hR
  have hL32 : L.length / 4 ≤ 32 := ((validM_iff _ _ _).1 hLv).2.2.1
  have hT := zrT_ok (s := s) (G := G) (L := L) (ws := ws) W hn hi (decide_eq_false h0)
  have hLL : ∀ e, e ∈ ([⟨30, 1, sI 3⟩, ⟨31, 1, sI 41⟩, ⟨9, 4, sI 42⟩] : List LNE) → LLTrue e := fa (zr30 W) (fa (zr31 W) (fa (zr9 W hL4) fz))
  have hLX : ∀ e, e ∈ ([⟨30, 2, [sS 30]⟩] : List LEE) → LXTrue e := fa (zrx30 W (by omega)) fz
  obtain ⟨n1, n2, n3, n4⟩ := zr_num (s := s) (G := G) (L := L) W hw hl
  have hU := zr_wl (s := s) (G := G) (L := L) W hw hl
  have hs : ∀ q, decide (ws.getD 0 [] = wGate) = q → TETrue ⟨.seq, sS 40, lB wGate, bR q⟩ := fun q h => f_seq (x := ws.getD 0 []) (y := wGate) rfl rfl h
  have hlen : (L ++ zrNums ws).length = L.length + 4 := by rw [List.length_append]; rfl
  have hints : ints (L ++ zrNums ws) := fun v hv => by
    rcases List.mem_append.1 hv with h | h
    · exact hL v h
    · unfold zrNums at h
      simp only [List.mem_cons, List.not_mem_nil, or_false] at h
      rcases h with rfl | rfl | rfl | rfl <;> exact ⟨_, rfl⟩
  have hLA : LATrue ⟨9, [sI 20, sI 21, sI 22, sI 23], 10⟩ := ⟨rfl, by
    show (L ++ zrNums ws).length ≤ 1000000
    omega, fun v hv => by
      obtain ⟨m, rfl⟩ := hL v hv
      rfl⟩
  have hV : ∀ b, validM G (L ++ zrNums ws) ((L ++ zrNums ws).length / 4) = b → QNTrue ⟨fValid, [.agg [sI 0, .slN 0 10 4]], bR b, []⟩ := fun b h => zr_valid ((zrNm s ls ws G L i).val W) (M := L ++ zrNums ws) (n := (L ++ zrNums ws).length / 4) rfl rfl hints (by omega) h
  have hD : ∀ ne, (!L.isEmpty) = ne → ∀ d, d ∈ (if ne then [] else [(10, [sI 20, sI 21, sI 22, sI 23])] : List (Nat × List RV)) → Val.L d.1 = d.2.map cv := fun ne h => by
    cases ne with
    | true => exact fz
    | false =>
      have : L = [] := by
        cases L with
        | nil => rfl
        | cons _ _ => cases h
      exact fa (by show L ++ zrNums ws = _; rw [this]; rfl) fz
  have hA : ∀ ne, ∀ e, e ∈ (if (Nat.ble 2 3 && ne) = true then [⟨9, [sI 20, sI 21, sI 22, sI 23], 10⟩] else [] : List LAE) → LATrue e := fun ne => by
    cases ne with
    | true => exact fa hLA fz
    | false => exact fz
  refine ⟨fun h => ?_, fun h h1 => ?_, fun h h1 h2 => ?_, fun h h1 h2 => ?_⟩
  · exact { T := fapp hT (fa (f_ieq (k := .i64) (m := (ws.length : Int)) (n := 5) rfl rfl (by rw [eqdec]; exact decide_eq_false (by omega))) fz), LL := hLL, LX := hLX, Y := fa n1 (fa n2 (fa n3 (fa n4 fz))), U := qdU_ok _ _ (hD _ rfl) (fa (hU 0 (.inl rfl)) fz) }
  · exact { T := fapp hT (fa (hs false (decide_eq_false h1)) fz), LL := hLL, LX := hLX, Y := fa n1 (fa n2 (fa n3 (fa n4 fz))), U := qdU_ok _ _ (hD _ rfl) (fa (hU 5 (.inr ⟨.inr rfl, h⟩)) fz) }
  · exact { T := fapp hT (fa (hs true (decide_eq_true h1)) fz), LL := hLL, LX := hLX, LA := hA _, Y := fa n1 (fa n2 (fa n3 (fa n4 fz))), U := qdU_ok _ _ (hD _ rfl) (fa (hU 5 (.inr ⟨.inr rfl, h⟩)) (fa (hV false h2) fz)) }
  · exact { T := fapp hT (fa (hs true (decide_eq_true h1)) fz), LL := hLL, LX := hLX, LA := hA _, Y := fa n1 (fa n2 (fa n3 (fa n4 fz))), U := qdU_ok _ _ (hD _ rfl) (fa (hU 5 (.inr ⟨.inr rfl, h⟩)) (fa (hV true h2) fz)) }
theorem zrO_ok (W : Nat → Value) (hn : ls.length ≤ 1000000) (hi : i + 1 = ls.length) :
    (i = 0 → @TbOK ((zrNm s ls ws G L i).val W) (zrO 0)) ∧ (i ≠ 0 → ls.getD i [] ≠ [] → @TbOK ((zrNm s ls ws G L i).val W) (zrO 1)) ∧ (i ≠ 0 → ls.getD i [] = [] → @TbOK ((zrNm s ls ws G L i).val W) (zrO 2)) := by
  letI : Val := (zrNm s ls ws G L i).val W
  have e : ls.length - 1 = i := by omega
  have hT : ∀ q, decide (i = 0) = q → ∀ e, e ∈ [⟨.bin .sub, sI 3, lI 1, sI 4⟩, ⟨.bin .lss, sI 2, sI 4, bR false⟩, ⟨.ieq, sI 3, lI 1, bR q⟩, ⟨.inb, sI 4, sI 3, bR true⟩] → TETrue e := fun q hq =>
    fa (f_sub (m := (ls.length : Int)) (n := 1) (r := (ls.length : Int) - 1) rfl rfl rfl rfl rfl (by omega) (by omega)) (fa (f_lss (k := .i64) (m := (i : Int)) (n := (ls.length : Int) - 1) rfl rfl (decide_eq_false (by omega))) (fa (f_ieq (k := .i64) (m := (ls.length : Int)) (n := 1) rfl rfl (by rw [← hq, eqdec]; exact decide_eq_decide.2 (by omega))) (fa (f_inb (m := (ls.length : Int) - 1) (n := (ls.length : Int)) rfl rfl (by omega)) fz)))
  have hLL : ∀ e, e ∈ ([⟨30, 1, sI 3⟩] : List LNE) → LLTrue e := fa (zr30 W) fz
  have hLX : ∀ e, e ∈ ([⟨30, 4, [sS 31]⟩] : List LEE) → LXTrue e := fa ⟨rfl, by
    show ((ls.length : Int) - 1).toNat * 1 + 1 ≤ (ls.map strB).length
    rw [List.length_map]
    omega, by
    show ((ls.map strB).drop (((ls.length : Int) - 1).toNat * 1)).take 1 = [strB (ls.getD (ls.length - 1) [])]
    rw [show ((ls.length : Int) - 1).toNat = ls.length - 1 by omega]
    exact map_at (by omega)⟩ fz
  have hs : ∀ q, decide (ls.getD i [] = []) = q → TETrue ⟨.seq, sS 31, lB [], bR q⟩ := fun q h => f_seq (x := ls.getD (ls.length - 1) []) (y := []) rfl rfl (by rw [e]; exact h)
  refine ⟨fun h => ?_, fun h h1 => ?_, fun h h1 => ?_⟩
  · exact { T := fapp (hT true (decide_eq_true h)) fz, LL := hLL }
  · exact { T := fapp (hT false (decide_eq_false h)) (fa (hs false (decide_eq_false h1)) fz), LL := hLL, LX := hLX }
  · exact { T := fapp (hT false (decide_eq_false h)) (fa (hs true (decide_eq_true h1)) fz), LL := hLL, LX := hLX }
end
end Go.Proofs.Z

namespace Go.Proofs.Z
open Go Go.RowKit Go.Proofs Go.Ri Go.Proofs.Z.Fa
/-! The specification's Parse: its answer. -/
theorem zr_step (V : Val) {s : List UInt8} {ls : List (List UInt8)} {R : Except Nat (Int × List Value)} (hls : spl 10 s = ls) (hs : s.length ≤ 65536) (hV : ∀ G v L, R = .ok (G, v :: L) → V.I 0 = G ∧ V.L 9 = v :: L) (w : World) (m : Nat) (ne : Bool) (d : Nm) (hΦ : ZrI s ls R m ne d) (W : Nat → Value) :
    StepH fRParse (fun _ => 0) zrP w.heap.size w [] (zrD V R w) (fun k' c' => ∃ n', n' < m ∧ ZrI s ls R n' k' c') ne d W := by
  obtain ⟨i, G, L, hi, hpr, hst, rfl, rfl, rfl⟩ := hΦ
  obtain ⟨ws, hw⟩ : ∃ ws, spl 32 (ls.getD i []) = ws := ⟨_, rfl⟩
  rw [hw]
  obtain ⟨hwl, hn'⟩ := spl_wlen 10 _ s (Nat.le_refl _)
  rw [hls] at hwl hn'
  have hn : ls.length ≤ 1000000 := by omega
  have hl : (ls.getD i []).length ≤ 100000 := by
    rw [List.getD_eq_getElem?_getD, List.getElem?_eq_getElem hi]
    have := hwl ls[i] (List.getElem_mem hi)
    show (ls[i]).length ≤ _
    omega
  by_cases hlast : i + 1 = ls.length
  · rw [prsS_last G L hlast] at hpr
    obtain ⟨o0, o1, o2⟩ := zrO_ok (s := s) (G := G) (L := L) (ws := ws) W hn hlast
    have hval : @cvF ((zrNm s ls ws G L i).val W) (zrErr (sI 3)) = zrEV (i + 1) := by
      show Value.tuple #[.agg #[.int .i64 0, .slice none 0 0], .int .i64 (ls.length : Nat), .int .i64 3] = _
      rw [← hlast]
      rfl
    by_cases h0 : i = 0
    · rw [if_pos (.inl h0)] at hpr
      subst hpr
      exact stepH_outF (zrO 0) [] (o0 h0) (zrErr (sI 3)) (allU_lt (all2_all zr_obad _) 0 (by decide)) hval
    · by_cases h1 : ls.getD i [] = []
      · rw [if_neg (by rintro (h | h); exact h0 h; exact h h1)] at hpr
        subst hpr
        cases L with
        | nil => exact stepH_outF (zrO 2) [] (o2 h0 h1) (.tup [.agg [sI 0, nilR], lI 0, lI 0]) zr_okn rfl
        | cons v L =>
          obtain ⟨v1, v2⟩ := hV G v L rfl
          exact stepH_outQ (zrO 2) [] (o2 h0 h1) V _ _ _ _ zr_okg rfl (holds_all (fa ⟨.i64, G, rfl, v1⟩ (fa (okLs (v :: L) v2 rfl) fz)))
      · rw [if_pos (.inr h1)] at hpr
        subst hpr
        exact stepH_outF (zrO 1) [] (o1 h0 h1) (zrErr (sI 3)) (allU_lt (all2_all zr_obad _) 1 (by decide)) hval
  · have hi1 : i + 1 < ls.length := by omega
    rw [prsS_step G L hi1] at hpr
    by_cases h0 : i = 0
    · obtain ⟨rfl, rfl⟩ : G = 0 ∧ L = [] := by
        rcases hst with ⟨_, h1, h2⟩ | ⟨h, _⟩
        · exact ⟨h1, h2⟩
        · exact absurd h0 h
      obtain ⟨t0, t1, t2, t3⟩ := zrF_ok (s := s) (G := 0) (L := []) W hn hi1 h0 hw hl
      have bad : ∀ c, c < 3 → @TbOK ((zrNm s ls ws 0 [] i).val W) (zrF c) → rdS i 0 [] (ls.getD i []) = none → StepH fRParse (fun _ => 0) zrP w.heap.size w [] (zrD V R w) (fun k' c' => ∃ n', n' < ls.length - i ∧ ZrI s ls R n' k' c') (!([] : List Value).isEmpty) (zrNm s ls ws 0 [] i) W := fun c hc ht hr => by
        rw [hr] at hpr
        subst hpr
        exact stepH_outF (zrF c) [] ht zrA.1 (allU_lt zr_fbad c hc) rfl
      subst h0
      by_cases h2 : ws.length = 2
      · obtain ⟨a, b, e⟩ := len2 h2
        have hrd := rdS0_two (G := 0) (L := []) (hw.trans e)
        by_cases ha : ws.getD 0 [] = wFell
        · have ha' : a = wFell := by rw [e] at ha; exact ha
          have hb : ws.getD 1 [] = b := by rw [e]; rfl
          rw [if_pos ha', ← hb] at hrd
          cases hc : validM (numS (ws.getD 1 [])) [] 0 with
          | false => exact bad 2 (by decide) (t2 h2 ha hc) (by rw [hrd]; exact chk_none hc)
          | true =>
            have hck : chk (numS (ws.getD 1 [])) [] = some (numS (ws.getD 1 []), []) := by
              unfold chk
              exact if_pos hc
            rw [hrd, hck] at hpr
            exact stepH_to (zrF 3) [] (t3 h2 ha hc) (zrS (sI 20) (sI 7)) [0, 1, 2] rfl false _ zr_fell (fun W' => holds_all (zr_ids s ls ws (spl 32 (ls.getD (0 + 1) [])) 0 (numS (ws.getD 1 [])) [] [] 0 (0 + 1) W W' (sI 20) (sI 7) rfl rfl)) ⟨ls.length - (0 + 1), by omega, 0 + 1, _, [], hi1, hpr, .inr ⟨by omega, fun v hv => (by cases hv), rfl, hc⟩, rfl, rfl, rfl⟩
        · exact bad 1 (by decide) (t1 h2 ha) (by rw [hrd, if_neg (fun h => ha (by rw [e]; exact h))])
      · exact bad 0 (by decide) (t0 h2) (rdS0_none (by rw [hw]; exact h2))
    · have hR : Rgt G L := by
        rcases hst with ⟨h, _⟩ | ⟨_, h⟩
        · exact absurd h h0
        · exact h
      obtain ⟨t0, t1, t2, t3⟩ := zrG_ok (s := s) W hn hi1 h0 hw hl hR
      have bad : ∀ c, c < 3 → @TbOK ((zrNm s ls ws G L i).val W) (zrG c (!L.isEmpty)) → rdS i G L (ls.getD i []) = none → StepH fRParse (fun _ => 0) zrP w.heap.size w [] (zrD V R w) (fun k' c' => ∃ n', n' < ls.length - i ∧ ZrI s ls R n' k' c') (!L.isEmpty) (zrNm s ls ws G L i) W := fun c hc ht hr => by
        rw [hr] at hpr
        subst hpr
        exact stepH_outF (zrG c (!L.isEmpty)) [] ht zrA.1 (allU_lt (all2_all zr_gbad (!L.isEmpty)) c hc) rfl
      by_cases h5 : ws.length = 5
      · obtain ⟨a, b, c, x, y, e⟩ := len5 h5
        have hrd := rdS_five (G := G) (L := L) h0 (hw.trans e)
        have hnum : zrNums ws = [iZ (numS b), iZ (numS c), iZ (numS x), iZ (numS y)] := by rw [e]; rfl
        by_cases ha : ws.getD 0 [] = wGate
        · rw [if_pos (by rw [e] at ha; exact ha), ← hnum] at hrd
          cases hc : validM G (L ++ zrNums ws) ((L ++ zrNums ws).length / 4) with
          | false => exact bad 2 (by decide) (t2 h5 ha hc) (by rw [hrd]; exact chk_none hc)
          | true =>
            have hck : chk G (L ++ zrNums ws) = some (G, L ++ zrNums ws) := by
              unfold chk
              exact if_pos hc
            have hR' : Rgt G (L ++ zrNums ws) := by
              refine ⟨fun v hv => ?_, ?_, hc⟩
              · rcases List.mem_append.1 hv with h | h
                · exact hR.1 v h
                · rw [hnum] at h
                  simp only [List.mem_cons, List.not_mem_nil, or_false] at h
                  rcases h with rfl | rfl | rfl | rfl <;> exact ⟨_, rfl⟩
              · have := hR.2.1
                rw [List.length_append, hnum]
                simp only [List.length_cons, List.length_nil]
                omega
            rw [hrd, hck] at hpr
            have hne : (!(L ++ zrNums ws).isEmpty) = true := by
              cases L <;> rfl
            refine stepH_to (zrG 3 (!L.isEmpty)) [] (t3 h5 ha hc) (zrQ (!L.isEmpty)) [0, 1, 2, if !L.isEmpty then 8 else 7] rfl true (zrNm s ls (spl 32 (ls.getD (i + 1) [])) G (L ++ zrNums ws) (i + 1)) (all2_all zr_gate (!L.isEmpty)) (fun W' => holds_all (fapp (zr_ids s ls ws (spl 32 (ls.getD (i + 1) [])) G G L (L ++ zrNums ws) i (i + 1) W W' (sI 0) (sI 7) rfl rfl) ?_)) ⟨ls.length - (i + 1), by omega, i + 1, G, _, hi1, hpr, .inr ⟨by omega, hR'⟩, rfl, hne.symm, rfl⟩
            cases L with
            | nil => exact fa rfl fz
            | cons v L => exact fa rfl fz
        · exact bad 1 (by decide) (t1 h5 ha) (by rw [hrd, if_neg (fun h => ha (by rw [e]; exact h))])
      · exact bad 0 (by decide) (t0 h5) (rdS_none h0 (by rw [hw]; exact h5))
/-- What the specification's Parse answers. -/
theorem rparse_D (V : Val) {s : List UInt8} {R : Except Nat (Int × List Value)} (hs : s.length ≤ 65536) (hR : prsS 0 0 [] (spl 10 s) = R) (hV : ∀ G v L, R = .ok (G, v :: L) → V.I 0 = G ∧ V.L 9 = v :: L) (w : World) (hr : RoIn ro w) : Calls Tryz.prog fRParse [strB s].toArray w (zrD V R w) := by
  obtain ⟨ls, hls⟩ : ∃ ls, spl 10 s = ls := ⟨_, rfl⟩
  obtain ⟨_, hn'⟩ := spl_wlen 10 _ s (Nat.le_refl _)
  have hne : 0 < ls.length := by
    have := spl_ne 10 s
    rw [hls] at this
    exact List.length_pos_iff.2 this
  rw [hls] at hR hn'
  let V1 : Val := (zrNm s ls [] 0 [] 0).val fun _ => undef
  have hv : All2 (@Go.Ri.NVal V1 w) [sS 0] [strB s] := .cons rfl .nil
  have ht0 : @TbOK V1 zrE := by
    letI := V1
    have q := rsplit_q ((⟨fun _ => 0, ny, fun _ => bs s, fun _ => ls.map strB⟩ : Nm).val fun _ => undef) s 10 (by omega) (x := sS 0) (y := lU8 10) rfl rfl rfl rfl (by rw [hls]; exact rfl)
    have hq : QNTrue zrL := fun w hr vs hv => by
      have hv : All2 (@Go.Ri.NVal ((⟨fun _ => 0, ny, fun _ => bs s, fun _ => ls.map strB⟩ : Nm).val fun _ => undef) w) [sS 0, lU8 10] vs := by
        cases hv with
        | cons h1 h2 => cases h2 with
          | cons h2 h3 =>
            cases h3
            exact .cons (nval_re (V := V1) (x := sS 0) (y := sS 0) (v := strB s) rfl rfl rfl rfl h1) (.cons (nval_re (V := V1) (x := lU8 10) (y := lU8 10) (v := .int .u8 10) rfl rfl rfl rfl h2) .nil)
      refine (q w hr vs hv).mono fun x w' ⟨u, E', he, hu, H⟩ => ?_
      have qq := mtQ_ok (V' := V1) (S := [.lst 30 9]) (R := [0]) (r := .slN 0 9 1) (r0 := .slN 0 30 1) (h' := [some (.lst 9 tStr true)]) (h0 := [some (.lst 30 tStr true)]) (by kernel_rfl) rfl (holds_all (fa (okLs (ls.map strB) rfl rfl) fz)) hu H
      exact ⟨u, _, he, qq.1, qq.2⟩
    exact { T := fa (f_len (s := bs s) rfl (by rw [bs_list]; rfl) rfl) (fa (f_gtr (k := .i64) (m := (s.length : Int)) (n := 65536) rfl rfl (decide_eq_false (by omega))) fz), LL := fa (zr30 (s := s) (ls := ls) (ws := []) (G := 0) (L := []) (i := 0) fun _ => undef) fz, U := qnU_ok _ (fa hq fz) }
  exact fn_headsN (κ := Bool) (zrNm s ls [] 0 [] 0) (fun _ => undef) zrE [] fRParse [sS 0] (fun _ => 0) zrP (fun m ne d => ZrI s ls R m ne d) ht0 (zrS (lI 0) (lI 0)) [0, 1, 2] false (ls.length - 0) zr_enter (zrNm s ls (spl 32 (ls.getD 0 [])) 0 [] 0) (fun W' => holds_all (zr_ids s ls [] _ 0 0 [] [] 0 0 _ W' (lI 0) (lI 0) rfl rfl)) ⟨0, 0, [], hne, by rw [List.drop_zero]; exact hR, .inl ⟨rfl, rfl, rfl⟩, rfl, rfl, rfl⟩ (zrD V R) (fun w m ne d hΦ W => zr_step V hls hs hV w m ne d hΦ W) w hr [strB s] hv
theorem rparse_long {s : List UInt8} (hs : 65536 < s.length) (hs' : s.length ≤ 1000000000) : Ans fRParse [strB s] (.tuple #[.agg #[.int .i64 0, .slice none 0 0], .int .i64 0, .int .i64 2]) := by
  intro w hr
  let V1 : Val := (zrNm s [] [] 0 [] 0).val fun _ => undef
  have ht : @TbOK V1 { T := [⟨.len, sS 0, sS 0, sI 1⟩, ⟨.bin .gtr, sI 1, lI 65536, bR true⟩] } := by
    letI := V1
    exact { T := fa (f_len (s := bs s) rfl (by rw [bs_list]; rfl) rfl) (fa (f_gtr (k := .i64) (m := (s.length : Int)) (n := 65536) rfl rfl (decide_eq_true (by omega))) fz) }
  exact done_flat V1 ht zr_long rfl rfl rfl w hr [strB s] (.cons rfl .nil)
end Go.Proofs.Z
