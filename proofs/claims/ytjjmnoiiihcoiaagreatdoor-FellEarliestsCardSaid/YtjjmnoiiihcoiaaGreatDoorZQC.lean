/- A part of the proofs that the laws of layer four answer true for every input. -/
import Derived.Test.YtjjmnoiiihcoiaaGreatDoorZQA
import Derived.Test.YtjjmnoiiihcoiaaGreatDoorZJJ
namespace Go.Proofs.Z
open Go Go.RowKit Go.Proofs Go.Ri Go.Proofs.Z.Fa
/-! The specification's Path: runs. 20, 21, 22 the arguments, 40 the day of Earliest; 24 where sheep are, 23 the day, 33 how many passes are left, 25 one less; 34, 35 the pass, 36 behind it; lists: 30 the rows, 31 the first one, 9 the passes, 10 with one more. -/
abbrev fRPath : Nat := 39
abbrev fFewest : Nat := 89
noncomputable def rtQ : QE := ⟨fFewest, [fellR, sI 21, sI 22, sI 40], .slN 0 30 1, [some (.lstL 30 32 1)]⟩
noncomputable def rtP (ne : Bool) : St := ⟨patW [(3, sI 22), (4, .ptr 1 0), (14, .slN 2 30 1), (15, if ne then .slN 3 9 2 else nilR), (16, sI 24), (17, sI 23), (18, sI 33)] 73 0, [some (.lstA 0), some (.cells [sI 0, .slA 0 0 4] tFell false false), some (.lstL 30 32 1)] ++ if ne then [some (.lst 9 tPass true)] else []⟩
def rtS (x d k : RV) : List SE := [.int 0 (sI 0), .int 1 (sI 1), .int 22 (sI 22), .int 24 x, .int 23 d, .int 33 k, .lst 0 0, .lst 30 30]
noncomputable def rtE : Tb := { LL := [⟨0, 4, sI 1⟩, ⟨30, 1, sI 28⟩, ⟨31, 1, sI 29⟩], T := [⟨.inb, sI 50, sI 28, bR true⟩, ⟨.inb, lI 0, sI 28, bR true⟩, ⟨.inb, sI 20, sI 29, bR true⟩], C := [⟨fREarliest, eaD, .tup [sI 40, bR true, lI 0]⟩], U := qnU [rtQ], LX := [⟨31, 20, [sI 41]⟩], IZ := [(50, 0)], LNE := [⟨30, 50, 31⟩] }
set_option maxRecDepth 100000 in
theorem rt_enter : atH (entN rtE [] fRPath eaD) fRPath 0 (rtS (sI 20) (sI 22) (sI 41)) [0, 1, 2] (rtP false) = true := by kernel_rfl
noncomputable def rtX (ne : Bool) : Tb := { T := [⟨.bin .gtr, sI 33, lI 0, bR true⟩, ⟨.bin .sub, sI 33, lI 1, sI 25⟩], LL := [⟨0, 4, sI 1⟩, ⟨30, 1, sI 28⟩, ⟨9, 2, sI 42⟩], C := [⟨fRPass, ppD, .tup [.agg [sI 34, sI 35], sI 36]⟩], LA := if ne then [⟨9, [sI 34, sI 35], 10⟩] else [] }
def rtO (ne : Bool) : List SE := rtS (sI 36) (sI 34) (sI 25) ++ [if ne then .lst 9 10 else .new 9 [sI 34, sI 35]]
set_option maxRecDepth 100000 in
theorem rt_again : (all2 fun ne => atH (fromH (rtX ne) [] fRPath 0 (rtP ne)) fRPath 0 (rtO ne) [0, 1, 2, if ne then 6 else 5] (rtP true)) = true := by kernel_rfl
noncomputable def rtZ : Tb := { T := [⟨.bin .gtr, sI 33, lI 0, bR false⟩] }
def rtR (ne : Bool) : RV × RH := if ne then (.tup [.slN 0 9 2, bR true, lI 0], [some (.lst 9 tPass true)]) else (.tup [nilR, bR true, lI 0], [])
set_option maxRecDepth 100000 in
theorem rt_out : (all2 fun ne => endQ rtZ fRPath (fromH rtZ [] fRPath 0 (rtP ne)) (if ne then [.lst 9 9] else []) (if ne then [3] else []) (rtR ne).1 (rtR ne).2) = true := by kernel_rfl
set_option maxRecDepth 100000 in
theorem rt_no : (all2 fun c => doneQ { T := [⟨.ieq, sI 40, lI 0, bR c⟩], C := [⟨fREarliest, eaD, .tup [lI 0, bR false, sI 40]⟩] } [] fRPath eaD [.int 40 (sI 40)] [] (.tup [nilR, bR false, sI 40]) []) = true := by kernel_rfl
end Go.Proofs.Z

namespace Go.Proofs.Z
open Go Go.RowKit Go.Proofs Go.Ri Go.Proofs.Z.Fa
/-! The specification's Path: its contract, by what is known of fewest. -/
def rtNp (l : List Value) (n b : Nat) (to : Int) (x : Nat) (d : Int) (k : Nat) : Int × Nat := npX l (stN l n b to (k - 1)) x d n
def rtI (G : Int) (l : List Value) (n a b : Nat) (fr to : Int) (N g : Nat) (v : Int) (x : Nat) (d : Int) (k : Nat) (P : List (Int × Nat)) (m : Nat) : Int :=
  if m = 0 then G else if m = 1 then (n : Nat) else if m = 20 then (a : Nat) else if m = 21 then (b : Nat) else if m = 22 then fr else if m = 40 then to else if m = 28 then (N : Nat) else if m = 29 then (g : Nat) else if m = 50 then 0 else if m = 41 then v else if m = 24 then (x : Nat) else if m = 23 then d else if m = 33 then (k : Nat) else if m = 25 then (k : Int) - 1 else if m = 34 then (rtNp l n b to x d k).1 else if m = 35 then ((rtNp l n b to x d k).2 : Nat) else if m = 36 then nextG l (rtNp l n b to x d k).2 x else (P.length : Nat)
def rtNm (G : Int) (l : List Value) (n a b : Nat) (fr to : Int) (vD : Int → Nat → Int) (N g : Nat) (x : Nat) (d : Int) (k : Nat) (P : List (Int × Nat)) : Nm := ⟨rtI G l n a b fr to N g (vD fr a) x d k P, ny, fun _ => ⟨#[]⟩, fun m => if m = 0 then l else if m = 30 then tabD vD fr N g else if m = 31 then rowD (vD fr) g else if m = 9 then cellsP P else cellsP (P ++ [rtNp l n b to x d k])⟩
theorem rt_clen : ∀ P : List (Int × Nat), (cellsP P).length = P.length * 2
  | [] => rfl
  | (_, _) :: P => by
    show (cellsP P).length + 2 = _
    rw [rt_clen P, List.length_cons]
    omega
theorem rt_cone : ∀ (P : List (Int × Nat)) (v : Value), v ∈ cellsP P → v.oneCell' = true
  | [], v, h => by cases h
  | (_, _) :: P, v, h => by
    have h : v ∈ _ :: _ :: cellsP P := h
    simp only [List.mem_cons] at h
    rcases h with rfl | rfl | h
    · rfl
    · rfl
    · exact rt_cone P v h
section
variable {G : Int} {l : List Value} {n a b : Nat} {fr to : Int} {vD : Int → Nat → Int} {N g : Nat}
theorem rt_ids (x x' : Nat) (d d' : Int) (k k' : Nat) (P P' : List (Int × Nat)) (W W' : Nat → Value) (rx rd rk : RV) (hx : @cv ((rtNm G l n a b fr to vD N g x d k P).val W) rx = .int .i64 (x' : Nat)) (hd : @cv ((rtNm G l n a b fr to vD N g x d k P).val W) rd = .int .i64 d') (hk : @cv ((rtNm G l n a b fr to vD N g x d k P).val W) rk = .int .i64 (k' : Nat)) : ∀ q, q ∈ rtS rx rd rk → okSE ((rtNm G l n a b fr to vD N g x d k P).val W) ((rtNm G l n a b fr to vD N g x' d' k' P').val W') q :=
  fa ⟨.i64, G, rfl, rfl⟩ (fa ⟨.i64, (n : Nat), rfl, rfl⟩ (fa ⟨.i64, fr, rfl, rfl⟩ (fa ⟨.i64, (x' : Nat), hx, rfl⟩ (fa ⟨.i64, d', hd, rfl⟩ (fa ⟨.i64, (k' : Nat), hk, rfl⟩ (fa (okLs l rfl rfl) (fa (okLs (tabD vD fr N g) rfl rfl) fz)))))))
theorem rpath_yes (V : Val) (hG : V.I 0 = G) (hL : V.L 0 = l) (hl : ints l) (hn : l.length = n * 4) (hva : validM G l n = true) (ha : a < 16) (haG : (a : Int) < G) (h0 : 0 ≤ fr) (h1 : fr ≤ to) (h2 : to ≤ 1048576) (hp : ∃ L, Leads l n to L a fr b) (he : eqM G l n a b fr = eqV to true 0) (hx : V.I 20 = a) (hy : V.I 21 = b) (hz : V.I 22 = fr)
    (hN : (N : Int) = to - fr + 1) (hgG : (g : Int) = G) (hF : ∀ D, fr ≤ D → D ≤ to → FwD G l n b to D (vD D))
    (hQ : ∀ V2 : Val, V2.I 0 = G → V2.L 0 = l → V2.I 21 = b → V2.I 22 = fr → V2.I 40 = to → V2.L 30 = tabD vD fr N g → @QNTrue V2 rtQ)
    (h9 : V.L 9 = cellsP (pathL l n b to (stK l n a b fr to) a fr)) (w : World) (hr : RoIn ro w) (vs : List Value) (hv : All2 (@Go.Ri.NVal V w) eaD vs) :
    Calls Tryz.prog fRPath vs.toArray w (DQ V (rtR (!(pathL l n b to (stK l n a b fr to) a fr).isEmpty)).1 (rtR (!(pathL l n b to (stK l n a b fr to) a fr).isEmpty)).2 w) := by
  obtain ⟨k15, kok, klt⟩ := stK_ok hva ha h0 h1 hp
  generalize hK : stK l n a b fr to = K at *
  have hv0 : vD fr a = (K : Int) := (fw_st hva (hF fr (Int.le_refl _) h1) h0 h1 haG (by omega)).2 ⟨kok, fun i hi => by have := klt i hi; omega⟩
  let V1 : Val := (rtNm G l n a b fr to vD N g a fr K []).val fun _ => undef
  have hv1 : All2 (@Go.Ri.NVal V1 w) eaD vs := nval4 hG hL hx hy hz rfl rfl rfl rfl rfl hv
  have hl1 : ∀ x d k P W, @LLTrue ((rtNm G l n a b fr to vD N g x d k P).val W) ⟨0, 4, sI 1⟩ := fun x d k P W => ⟨rfl, n, Nat.succ_pos 3, hn, rfl⟩
  have hl2 : ∀ x d k P W, @LLTrue ((rtNm G l n a b fr to vD N g x d k P).val W) ⟨30, 1, sI 28⟩ := fun x d k P W => ⟨rfl, N, Nat.succ_pos 0, by
    rw [Nat.mul_one]
    show (tabD vD fr N g).length = N
    unfold tabD
    rw [List.length_map, List.length_range], rfl⟩
  have ht0 : @TbOK V1 rtE := by
    have hE := rearliest_all V1 (G := G) (l := l) (n := n) (a := (a : Int)) (b := (b : Int)) (fr := fr) rfl rfl hl hn rfl rfl rfl
    rw [he] at hE
    have hq := hQ V1 rfl rfl rfl rfl rfl rfl
    letI := V1
    refine { LL := fa (hl1 _ _ _ _ _) (fa (hl2 _ _ _ _ _) (fa ⟨rfl, g, Nat.succ_pos 0, ?_, rfl⟩ fz)), T := fa (f_inb (m := 0) (n := (N : Int)) rfl rfl (by omega)) (fa (f_inb (m := 0) (n := (N : Int)) rfl rfl (by omega)) (fa (f_inb (m := (a : Int)) (n := (g : Int)) rfl rfl (by omega)) fz)), C := fa hE fz, U := qnU_ok _ (fa hq fz), LX := fa ⟨rfl, ?_, ?_⟩ fz, IZ := fa rfl fz, LNE := fa ?_ fz }
    · rw [Nat.mul_one]
      show (rowD (vD fr) g).length = g
      unfold rowD
      rw [List.length_map, List.length_range]
    · show ((a : Nat) : Int).toNat * 1 + 1 ≤ (rowD (vD fr) g).length
      unfold rowD
      rw [Int.toNat_natCast, List.length_map, List.length_range]
      omega
    · show ((rowD (vD fr) g).drop (((a : Nat) : Int).toNat * 1)).take 1 = _
      rw [Int.toNat_natCast]
      exact rowD_at (by omega)
    · show (tabD vD fr N g)[(0 : Int).toNat]? = some (.agg (rowD (vD fr) g).toArray)
      rw [tabD_at (show (0 : Int).toNat < N by show 0 < N; omega)]
      show some (Value.agg (rowD (vD (fr + 0)) g).toArray) = _
      rw [Int.add_zero]
  refine fn_headsN (κ := Bool) (rtNm G l n a b fr to vD N g a fr K []) (fun _ => undef) rtE [] fRPath eaD (fun _ => 0) rtP (fun m ne c => ∃ (x : Nat) (d : Int) (P : List (Int × Nat)), (x : Int) < G ∧ fr ≤ d ∧ d ≤ to ∧ vD d x = (m : Int) ∧ m ≤ 16 ∧ P.length ≤ 16 - m ∧ pathL l n b to K a fr = P ++ pathL l n b to m x d ∧ ne = !P.isEmpty ∧ c = rtNm G l n a b fr to vD N g x d m P) ht0 (rtS (sI 20) (sI 22) (sI 41)) [0, 1, 2] false K rt_enter (rtNm G l n a b fr to vD N g a fr K []) (fun W' => holds_all (rt_ids a a fr fr K K [] [] _ W' (sI 20) (sI 22) (sI 41) rfl rfl (congrArg (Value.int .i64) hv0))) ⟨a, fr, [], haG, Int.le_refl _, h1, hv0, by omega, Nat.zero_le _, rfl, rfl, rfl⟩ (DQ V (rtR (!(pathL l n b to K a fr).isEmpty)).1 (rtR (!(pathL l n b to K a fr).isEmpty)).2) ?_ w hr vs hv1
  rintro w m ne c ⟨x, d, P, hxG, hd1, hd2, hvm, hm16, hPl, hpath, rfl, rfl⟩ W
  cases m with
  | zero =>
    have ht : @TbOK ((rtNm G l n a b fr to vD N g x d 0 P).val W) rtZ := by
      letI : Val := (rtNm G l n a b fr to vD N g x d 0 P).val W
      exact { T := fa (f_gtr (k := .i64) (m := 0) (n := 0) rfl rfl rfl) fz }
    have hP : pathL l n b to K a fr = P := by rw [hpath]; exact List.append_nil P
    rw [hP] at h9 ⊢
    refine stepH_outQ rtZ [] ht V _ _ _ _ (all2_all rt_out (!P.isEmpty)) (by cases P <;> rfl) (holds_all ?_)
    cases P with
    | nil => exact fz
    | cons p P => exact fa (okLs (cellsP (p :: P)) h9 rfl) fz
  | succ m =>
    obtain ⟨Q, D, e, hQ1, hdD, hDt, ho, ht', hvD, hmin⟩ := pass_is hva h2 (by omega) hd2 (fun D h3 h4 => hF D (by omega) h4) hxG (by omega) hvm
    have hnp : rtNp l n b to x d (m + 1) = (D, Q) := e
    have hnx := next_nat hva hQ1 (x : Int)
    have hgt := (gOk_iff _ _ _ _ _).1 (okL_at ((validM_iff _ _ _).1 hva).2.2.2 hQ1)
    have hnG : (((nextG l Q x).toNat : Nat) : Int) < G := by
      rw [hnx.2.2]
      unfold nextG
      split <;> omega
    have ht : @TbOK ((rtNm G l n a b fr to vD N g x d (m + 1) P).val W) (rtX (!P.isEmpty)) := by
      have hC := rpass_ans ((rtNm G l n a b fr to vD N g x d (m + 1) P).val W) (G := G) (l := l) (n := n) (fr := fr) (day := d) (x := (x : Int)) (j := (m : Int)) (vD := vD) (N := N) (g := g) (to := to) (D := D) (K := Q) rfl rfl hl hn hva rfl rfl rfl (show ((m + 1 : Nat) : Int) - 1 = m by omega) rfl h0 hd1 h2 hN hgG hQ1 hdD hDt ho ht' hvD hmin
      have hcv : @cvF ((rtNm G l n a b fr to vD N g x d (m + 1) P).val W) (.tup [.agg [sI 34, sI 35], sI 36]) = .tuple #[.agg #[.int .i64 D, .int .i64 (Q : Nat)], .int .i64 (nextG l Q x)] := by
        show Value.tuple #[.agg #[.int .i64 (rtNp l n b to x d (m + 1)).1, .int .i64 ((rtNp l n b to x d (m + 1)).2 : Nat)], .int .i64 (nextG l (rtNp l n b to x d (m + 1)).2 x)] = _
        rw [hnp]
      rw [← hcv] at hC
      letI : Val := (rtNm G l n a b fr to vD N g x d (m + 1) P).val W
      refine { T := fa (f_gtr (k := .i64) (m := ((m + 1 : Nat) : Int)) (n := 0) rfl rfl (decide_eq_true (by omega))) (fa (f_sub (m := ((m + 1 : Nat) : Int)) (n := 1) (r := ((m + 1 : Nat) : Int) - 1) rfl rfl rfl rfl rfl (by omega) (by omega)) fz), LL := fa (hl1 _ _ _ _ _) (fa (hl2 _ _ _ _ _) (fa ⟨rfl, P.length, Nat.succ_pos 1, rt_clen P, rfl⟩ fz)), C := fa hC fz, LA := ?_ }
      cases P with
      | nil => exact fz
      | cons p P =>
        refine fa ⟨?_, ?_, rt_cone (p :: P)⟩ fz
        · show cellsP (p :: P ++ [rtNp l n b to x d (m + 1)]) = cellsP (p :: P) ++ _
          rw [cellsP_app]
          rfl
        · show (cellsP (p :: P ++ [rtNp l n b to x d (m + 1)])).length ≤ 1000000
          rw [rt_clen, List.length_append]
          simp only [List.length_cons, List.length_nil] at hPl ⊢
          omega
    refine stepH_to (rtX (!P.isEmpty)) [] ht (rtO (!P.isEmpty)) [0, 1, 2, if !P.isEmpty then 6 else 5] rfl true (rtNm G l n a b fr to vD N g (nextG l Q x).toNat D m (P ++ [(D, Q)])) (all2_all rt_again (!P.isEmpty)) (fun W' => holds_all (fapp (rt_ids x (nextG l Q x).toNat d D (m + 1) m P (P ++ [(D, Q)]) W W' (sI 36) (sI 34) (sI 25) ?_ ?_ ?_) ?_)) ⟨m, Nat.lt_succ_self m, (nextG l Q x).toNat, D, P ++ [(D, Q)], hnG, by omega, hDt, hvD, by omega, ?_, ?_, ?_, rfl⟩
    · show Value.int .i64 (nextG l (rtNp l n b to x d (m + 1)).2 x) = _
      rw [hnp, hnx.2.2]
    · show Value.int .i64 (rtNp l n b to x d (m + 1)).1 = _
      rw [hnp]
    · show Value.int .i64 (((m + 1 : Nat) : Int) - 1) = _
      congr 1
      omega
    · cases P with
      | nil =>
        refine fa ?_ fz
        show cellsP [(D, Q)] = [.int .i64 (rtNp l n b to x d (m + 1)).1, .int .i64 ((rtNp l n b to x d (m + 1)).2 : Nat)]
        rw [hnp]
        rfl
      | cons p P =>
        refine fa (okLs (cellsP (p :: P ++ [(D, Q)])) rfl ?_) fz
        show cellsP (p :: P ++ [rtNp l n b to x d (m + 1)]) = _
        rw [hnp]
    · rw [List.length_append]
      simp only [List.length_cons, List.length_nil]
      omega
    · rw [hpath, List.append_assoc]
      have e2 : npX l (stN l n b to m) (x : Int) d n = (D, Q) := e
      show P ++ (npX l (stN l n b to m) (x : Int) d n :: pathL l n b to m (nextG l (npX l (stN l n b to m) (x : Int) d n).2 x) (npX l (stN l n b to m) (x : Int) d n).1) = _
      rw [e2, hnx.2.2]
      rfl
    · cases P <;> rfl
theorem rpath_no (V : Val) {e a b : Int} (hG : V.I 0 = G) (hL : V.L 0 = l) (hl : ints l) (hn : l.length = n * 4) (hx : V.I 20 = a) (hy : V.I 21 = b) (hz : V.I 22 = fr) (he : eqM G l n a b fr = eqV 0 false e) (h40 : V.I 40 = e) (w : World) (hr : RoIn ro w) (vs : List Value) (hv : All2 (@Go.Ri.NVal V w) eaD vs) :
    Calls Tryz.prog fRPath vs.toArray w (DQ V (.tup [nilR, bR false, sI 40]) [] w) := by
  have hE := rearliest_all V (G := G) (l := l) (n := n) (a := a) (b := b) (fr := fr) hG hL hl hn hx hy hz
  rw [he] at hE
  have ht : @TbOK V { T := [⟨.ieq, sI 40, lI 0, bR (decide (e = 0))⟩], C := [⟨fREarliest, eaD, .tup [lI 0, bR false, sI 40]⟩] } := by
    letI := V
    have hE : AnsN fREarliest eaD (cvF (.tup [lI 0, bR false, sI 40])) := by
      have e2 : cvF (.tup [lI 0, bR false, sI 40]) = eqV 0 false e := by rw [← h40]; rfl
      rw [e2]
      exact hE
    exact { T := fa (f_ieq (k := .i64) (m := e) (n := 0) (congrArg (Value.int .i64) h40) rfl (by rw [eqdec])) fz, C := fa hE fz }
  exact done_calls V V ht (all2_all rt_no _) rfl (holds_all (ids_ok [40] (fa rfl fz))) w hr vs hv
end
end Go.Proofs.Z
