/- A part of the proofs that the laws of layer four answer true for every input. -/
import Derived.Test.YtjjmnoiiihcoiaaGreatDoorZQC
import Derived.Test.YtjjmnoiiihcoiaaGreatDoorZJK
namespace Go.Proofs.Z
open Go Go.RowKit Go.Proofs Go.Ri Go.Proofs.Z.Fa
/-! The law's passes, of one list twice; the law FellEarliests: runs. -/
abbrev fPasses : Nat := 40
def feLL : List LNE := [⟨9, 2, sI 42⟩]
def feD : List RV := [.slN 0 9 2, .slN 0 9 2]
noncomputable def feE : Tb := { T := [⟨.ieq, sI 42, sI 42, bR true⟩], LL := feLL }
noncomputable def feP : St := ⟨patW [(0, .slA 0 9 2), (1, .slA 1 9 2), (5, sI 2)] 26 0, [some (.lstA 9), some (.lstA 9)]⟩
def feS (r : RV) : List SE := [.int 2 r, .int 42 (sI 42), .lst 9 9]
set_option maxRecDepth 100000 in
theorem fe_enter : atH (entN feE [] fPasses feD) fPasses 0 (feS (lI 0)) [0, 1] feP = true := by kernel_rfl
noncomputable def feX : Tb := { T := [⟨.bin .lss, sI 2, sI 42, bR true⟩, ⟨.inb, sI 2, sI 42, bR true⟩, ⟨.ieq, sI 43, sI 43, bR true⟩, ⟨.ieq, sI 44, sI 44, bR true⟩, ⟨.bin .add, sI 2, lI 1, sI 7⟩], LL := feLL, LX := [⟨9, 2, [sI 43, sI 44]⟩] }
set_option maxRecDepth 100000 in
theorem fe_again : atH (fromH feX [] fPasses 0 feP) fPasses 0 (feS (sI 7)) [0, 1] feP = true := by kernel_rfl
noncomputable def feO : Tb := { T := [⟨.bin .lss, sI 2, sI 42, bR false⟩], LL := feLL }
set_option maxRecDepth 100000 in
theorem fe_out : endF feO fPasses (fromH feO [] fPasses 0 feP) (bR true) = true := by kernel_rfl
abbrev fFellEarliests : Nat := 6
noncomputable def feBig : Tb := { X := saneX, T := [⟨.bin .gtr, sI 1, lI 200, bR true⟩], LL := hLL }
set_option maxRecDepth 100000 in
theorem fe_big : doneQ feBig [] fFellEarliests eaD [] [] (bR true) [] = true := by kernel_rfl
noncomputable def feNo : Tb := { X := saneX, T := [⟨.bin .gtr, sI 1, lI 200, bR false⟩], LL := hLL, C := [⟨fEarliest, eaD, .tup [lI 0, bR false, sI 40]⟩, ⟨fREarliest, eaD, .tup [lI 0, bR false, sI 40]⟩], U := qnU [⟨fPath, eaD, .tup [nilR, bR false, sI 40], []⟩, ⟨fRPath, eaD, .tup [nilR, bR false, sI 40], []⟩] }
set_option maxRecDepth 100000 in
theorem fe_no : doneQ feNo [] fFellEarliests eaD [] [] (bR true) [] = true := by kernel_rfl
noncomputable def feYes (ne : Bool) : Tb := { X := saneX, T := [⟨.bin .gtr, sI 1, lI 200, bR false⟩], LL := hLL, C := [⟨fEarliest, eaD, .tup [sI 40, bR true, lI 0]⟩, ⟨fREarliest, eaD, .tup [sI 40, bR true, lI 0]⟩] ++ (if ne then [⟨fPasses, feD, bR true⟩] else []), U := qnU [⟨fPath, eaD, (rtR ne).1, (rtR ne).2⟩, ⟨fRPath, eaD, (rtR ne).1, (rtR ne).2⟩] }
set_option maxRecDepth 100000 in
theorem fe_yes : (all2 fun ne => doneQ (feYes ne) [] fFellEarliests eaD [] [] (bR true) []) = true := by kernel_rfl
end Go.Proofs.Z

namespace Go.Proofs.Z
open Go Go.RowKit Go.Proofs Go.Ri Go.Proofs.Z.Fa
/-! The law FellEarliests, by what fewest answers. -/
def feNm (L : List Value) (m k : Nat) : Nm := ⟨fun i => if i = 42 then (m : Nat) else if i = 2 then (k : Nat) else if i = 43 then intOf (L.getD (k * 2) undef) else if i = 44 then intOf (L.getD (k * 2 + 1) undef) else (k : Int) + 1, ny, fun _ => ⟨#[]⟩, fun _ => L⟩
theorem fe_passes (V : Val) {L : List Value} {m : Nat} (h9 : V.L 9 = L) (hl : ints L) (hm : L.length = m * 2) (hb : m ≤ 1000000) : @AnsN V fPasses feD (.bool true) := by
  intro w hr vs hv
  have hv : All2 (@Go.Ri.NVal ((feNm L m 0).val fun _ => undef) w) feD vs := by
    cases hv with
    | cons h1 h2 => cases h2 with
      | cons h2 h3 =>
        cases h3
        exact .cons (lst_nval (V := V) (V' := (feNm L m 0).val fun _ => undef) (i := 9) (j := 9) h9 h1) (.cons (lst_nval (V := V) (V' := (feNm L m 0).val fun _ => undef) (i := 9) (j := 9) h9 h2) .nil)
  have hLL : ∀ k W, ∀ e, e ∈ feLL → @LLTrue ((feNm L m k).val W) e := fun k W => fa ⟨rfl, m, Nat.succ_pos 1, hm, rfl⟩ fz
  have ids : ∀ k k' W W' x, @cv ((feNm L m k).val W) x = .int .i64 (k' : Nat) → ∀ q, q ∈ feS x → okSE ((feNm L m k).val W) ((feNm L m k').val W') q := fun k k' W W' x hx => fa ⟨.i64, (k' : Nat), hx, rfl⟩ (fa ⟨.i64, (m : Nat), rfl, rfl⟩ (fa (okLs L rfl rfl) fz))
  have ht0 : @TbOK ((feNm L m 0).val fun _ => undef) feE := by
    letI : Val := (feNm L m 0).val fun _ => undef
    exact { T := fa (f_ieq (k := .i64) (m := (m : Int)) (n := (m : Int)) rfl rfl (by rw [eqdec]; exact decide_eq_true rfl)) fz, LL := hLL _ _ }
  refine fn_headsN (κ := Unit) (feNm L m 0) (fun _ => undef) feE [] fPasses feD (fun _ => 0) (fun _ => feP) (fun q _ c => ∃ k, k ≤ m ∧ q = m - k ∧ c = feNm L m k) ht0 (feS (lI 0)) [0, 1] () m fe_enter (feNm L m 0) (fun W' => holds_all (ids 0 0 _ W' (lI 0) rfl)) ⟨0, Nat.zero_le _, rfl, rfl⟩ (DF (.bool true)) ?_ w hr vs hv
  rintro w q _ c ⟨k, hk, rfl, rfl⟩ W
  rcases Nat.lt_or_ge k m with hlt | hge
  · have ht : @TbOK ((feNm L m k).val W) feX := by
      letI : Val := (feNm L m k).val W
      refine { T := fa (f_lss (k := .i64) (m := (k : Int)) (n := (m : Int)) rfl rfl (decide_eq_true (by omega))) (fa (f_inb (m := (k : Int)) (n := (m : Int)) rfl rfl (by omega)) (fa (f_ieq (k := .i64) (m := intOf (L.getD (k * 2) undef)) (n := intOf (L.getD (k * 2) undef)) rfl rfl (by rw [eqdec]; exact decide_eq_true rfl)) (fa (f_ieq (k := .i64) (m := intOf (L.getD (k * 2 + 1) undef)) (n := intOf (L.getD (k * 2 + 1) undef)) rfl rfl (by rw [eqdec]; exact decide_eq_true rfl)) (fa (f_add1 (m := (k : Int)) rfl rfl rfl (by omega) (by omega)) fz)))), LL := hLL _ _, LX := fa ⟨rfl, ?_, ?_⟩ fz }
      · show ((k : Nat) : Int).toNat * 2 + 2 ≤ L.length
        rw [Int.toNat_natCast]
        omega
      · show (L.drop (((k : Nat) : Int).toNat * 2)).take 2 = _
        rw [Int.toNat_natCast, row2 hl k (by omega)]
        rfl
    exact stepH_to feX [] ht (feS (sI 7)) [0, 1] rfl () (feNm L m (k + 1)) fe_again (fun W' => holds_all (ids k (k + 1) W W' (sI 7) rfl)) ⟨m - (k + 1), by omega, k + 1, hlt, rfl, rfl⟩
  · obtain rfl : k = m := by omega
    have ht : @TbOK ((feNm L k k).val W) feO := by
      letI : Val := (feNm L k k).val W
      exact { T := fa (f_lss (k := .i64) (m := (k : Int)) (n := (k : Int)) rfl rfl (decide_eq_false (by omega))) fz, LL := hLL _ _ }
    exact stepH_outF feO [] ht (bR true) fe_out rfl
/-- The least number of passes. -/
def fwV (l : List Value) (n b : Nat) (to : Int) (d : Int) (x : Nat) : Int := if stK l n x b d to = 16 then 1048576 else (stK l n x b d to : Nat)
section
variable {G : Int} {l : List Value} {n b : Nat} {to : Int}
theorem fwV_ok (hva : validM G l n = true) {d : Int} (h0 : 0 ≤ d) (h1 : d ≤ to) : FwD G l n b to d (fwV l n b to d) := by
  have h32 := (validM_iff _ _ _).1 hva
  intro x hx
  have hx16 : x < 16 := by omega
  have hle := firstBad_le (fun j => decide (stN l n b to j x < d)) 16 0
  have hle : stK l n x b d to ≤ 16 := by
    have : stK l n x b d to ≤ 0 + 16 := hle
    omega
  refine ⟨fun L hL => ?_, fun hv => ?_, ?_, ?_⟩
  · obtain ⟨k15, kok, klt⟩ := stK_ok hva hx16 h0 h1 ⟨L, hL⟩
    have hst := (stN_iff hva (by omega) L.length x d h0 h1).1 ⟨L, rfl, hL⟩
    unfold fwV
    rw [if_neg (by omega)]
    rcases Nat.lt_or_ge L.length (stK l n x b d to) with h | h
    · have := klt L.length h
      omega
    · omega
  · unfold fwV at hv ⊢
    by_cases h : stK l n x b d to = 16
    · rw [if_pos h] at hv
      omega
    · rw [if_neg h] at hv ⊢
      have := of_decide_eq_false (firstBad_fail (fun j => decide (stN l n b to j x < d)) 16 0 (by show stK l n x b d to < 0 + 16; omega))
      obtain ⟨L, hL, hl⟩ := (stN_iff hva (by omega) (stK l n x b d to) x d h0 h1).2 (Int.not_lt.1 this)
      exact ⟨L, by omega, hl⟩
  · unfold fwV
    split <;> omega
  · unfold fwV
    split <;> omega
theorem fw_uniq {d : Int} {v v' : Nat → Int} (h : FwD G l n b to d v) (h' : FwD G l n b to d v') {x : Nat} (hx : (x : Int) < G) : v x = v' x := by
  have one : ∀ {v v' : Nat → Int}, FwD G l n b to d v → FwD G l n b to d v' → v' x ≤ v x := fun {v v'} h h' => by
    obtain ⟨a1, a2, a3, a4⟩ := h x hx
    obtain ⟨b1, b2, b3, b4⟩ := h' x hx
    rcases Int.lt_or_eq_of_le a4 with hlt | he
    · obtain ⟨L, hL, hl⟩ := a2 hlt
      have := b1 L hl
      omega
    · omega
  have := one h h'
  have := one h' h
  omega
end
def flNm (G : Int) (l : List Value) (n : Nat) (a b fr e : Int) (L : List Value) : Nm := ⟨fun i => if i = 0 then G else if i = 1 then (n : Nat) else if i = 20 then a else if i = 21 then b else if i = 22 then fr else e, ny, fun _ => ⟨#[]⟩, fun i => if i = 0 then l else L⟩
/-- What fewest answers. -/
def FewOK (G : Int) (l : List Value) (n : Nat) : Prop := ∀ (V : Val) (b : Nat) (fr to : Int) (N : Nat), V.I 0 = G → V.L 0 = l → V.I 21 = b → V.I 22 = fr → V.I 40 = to → (b : Int) < G → 0 ≤ fr → fr ≤ to → to ≤ 1048576 → (N : Int) = to - fr + 1 → V.L 30 = tabD (fwV l n b to) fr N G.toNat → @QNTrue V rtQ
theorem earliests_of (G : Int) (l : List Value) (n : Nat) (a b fr : Int) (hl : ints l) (hn : l.length = n * 4) (hfew : validM G l n = true → FewOK G l n) (w : World) (hr : RoIn ro w) (vs : List Value) (hv : ∀ e L, All2 (@Go.Ri.NVal ((flNm G l n a b fr e L).val fun _ => undef) w) eaD vs) : Calls Tryz.prog fFellEarliests vs.toArray w (fun e w' => e = .returned (.bool true) ∧ Below w.heap.size w w') := by
  have hLL : ∀ e L, ∀ x, x ∈ hLL → @LLTrue ((flNm G l n a b fr e L).val fun _ => undef) x := fun e L => fa ⟨rfl, n, Nat.succ_pos 3, hn, rfl⟩ fz
  have hT : ∀ e L q, decide ((n : Int) > 200) = q → ∀ x, x ∈ ([⟨.bin .gtr, sI 1, lI 200, bR q⟩] : List TE) → @TETrue ((flNm G l n a b fr e L).val fun _ => undef) x := fun e L q h => by
    letI : Val := (flNm G l n a b fr e L).val fun _ => undef
    exact fa (f_gtr (k := .i64) (m := (n : Int)) (n := 200) rfl rfl h) fz
  by_cases hbig : (n : Int) > 200
  · have ht : @TbOK ((flNm G l n a b fr 0 []).val fun _ => undef) feBig := by
      letI : Val := (flNm G l n a b fr 0 []).val fun _ => undef
      exact { X := saneX_true, T := hT _ _ _ (decide_eq_true hbig), LL := hLL _ _ }
    exact done_flat _ ht fe_big rfl rfl rfl w hr vs (hv _ _)
  rcases eq_cases G l n a b fr with ⟨e, he, _⟩ | ⟨an, bn, day, hva, rfl, rfl, ha16, hb16, haG, hbG, h0, h1, h2, he, hp, _⟩
  · have ht : @TbOK ((flNm G l n a b fr e []).val fun _ => undef) feNo := by
      have q1 := earliest_all ((flNm G l n a b fr e []).val fun _ => undef) (G := G) (l := l) (n := n) (a := a) (b := b) (fr := fr) rfl rfl hl hn rfl rfl rfl
      have q2 := rearliest_all ((flNm G l n a b fr e []).val fun _ => undef) (G := G) (l := l) (n := n) (a := a) (b := b) (fr := fr) rfl rfl hl hn rfl rfl rfl
      rw [he] at q1 q2
      have q3 : @QNTrue ((flNm G l n a b fr e []).val fun _ => undef) ⟨fPath, eaD, .tup [nilR, bR false, sI 40], []⟩ := fun w hr vs hv => path_no ((flNm G l n a b fr e []).val fun _ => undef) rfl rfl hl hn rfl rfl rfl he rfl w hr vs hv
      have q4 : @QNTrue ((flNm G l n a b fr e []).val fun _ => undef) ⟨fRPath, eaD, .tup [nilR, bR false, sI 40], []⟩ := fun w hr vs hv => rpath_no ((flNm G l n a b fr e []).val fun _ => undef) rfl rfl hl hn rfl rfl rfl he rfl w hr vs hv
      letI : Val := (flNm G l n a b fr e []).val fun _ => undef
      exact { X := saneX_true, T := hT _ _ _ (decide_eq_false hbig), LL := hLL _ _, C := fa q1 (fa q2 fz), U := qnU_ok _ (fa q3 (fa q4 fz)) }
    exact done_flat _ ht fe_no rfl rfl rfl w hr vs (hv _ _)
  · have hf := hfew hva
    have h32 := (validM_iff _ _ _).1 hva
    obtain ⟨N, hN⟩ : ∃ N : Nat, (N : Int) = day - fr + 1 := ⟨(day - fr + 1).toNat, by omega⟩
    obtain ⟨P, hP⟩ : ∃ P, P = pathL l n bn day (stK l n an bn fr day) an fr := ⟨_, rfl⟩
    obtain ⟨k15, _, _⟩ := stK_ok hva ha16 h0 h1 hp
    have hPl : P.length ≤ 15 := by rw [hP, pathL_len]; exact k15
    have hne : (!(cellsP P).isEmpty) = !P.isEmpty := by
      cases P with
      | nil => rfl
      | cons p P => obtain ⟨_, _⟩ := p; rfl
    let V1 : Val := (flNm G l n an bn fr day (cellsP P)).val fun _ => undef
    have ht : @TbOK V1 (feYes (!P.isEmpty)) := by
      have q1 := earliest_all V1 (G := G) (l := l) (n := n) (a := (an : Int)) (b := (bn : Int)) (fr := fr) rfl rfl hl hn rfl rfl rfl
      have q2 := rearliest_all V1 (G := G) (l := l) (n := n) (a := (an : Int)) (b := (bn : Int)) (fr := fr) rfl rfl hl hn rfl rfl rfl
      rw [he] at q1 q2
      have q3 : @QNTrue V1 ⟨fPath, eaD, (rtR (!P.isEmpty)).1, (rtR (!P.isEmpty)).2⟩ := fun w hr vs hv => by
        have := path_yes V1 (G := G) (l := l) (n := n) (a := an) (b := bn) (fr := fr) (to := day) rfl rfl hl hn hva ha16 hb16 h0 h1 h2 hp he rfl rfl rfl (by rw [← hP]; rfl) w hr vs hv
        rw [← hP, hne] at this
        exact this
      have q4 : @QNTrue V1 ⟨fRPath, eaD, (rtR (!P.isEmpty)).1, (rtR (!P.isEmpty)).2⟩ := fun w hr vs hv => by
        have := rpath_yes V1 (G := G) (l := l) (n := n) (a := an) (b := bn) (fr := fr) (to := day) (vD := fwV l n bn day) (N := N) (g := G.toNat) rfl rfl hl hn hva ha16 haG h0 h1 h2 hp he rfl rfl rfl hN (by omega) (fun D h3 h4 => fwV_ok hva (by omega) h4) (fun V2 g1 g2 g3 g4 g5 g6 => hf V2 bn fr day N g1 g2 g3 g4 g5 hbG h0 h1 h2 hN g6) (by rw [← hP]; rfl) w hr vs hv
        rw [← hP] at this
        exact this
      letI : Val := V1
      refine { X := saneX_true, T := hT _ _ _ (decide_eq_false hbig), LL := hLL _ _, C := fa q1 (fa q2 ?_), U := qnU_ok _ (fa q3 (fa q4 fz)) }
      cases hPe : P with
      | nil => exact fz
      | cons p P' => exact fa (fe_passes V1 (L := cellsP P) (m := P.length) rfl (cells_ints _) (rt_clen P) (by omega)) fz
    exact done_flat V1 ht (all2_all fe_yes _) rfl rfl rfl w hr vs (hv _ _)
end Go.Proofs.Z
