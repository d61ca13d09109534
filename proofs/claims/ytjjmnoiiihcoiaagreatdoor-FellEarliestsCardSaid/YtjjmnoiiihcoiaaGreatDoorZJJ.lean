/- A part of the proofs that the laws of layer four answer true for every input. -/
import Derived.Test.YtjjmnoiiihcoiaaGreatDoorZJG
namespace Go.Proofs.Z
open Go Go.RowKit Go.Proofs Go.Ri Go.Proofs.Z.Fa
/-! The least number of passes; latestStarts: its contract. -/
section
variable {l : List Value} {n : Nat} {to : Int}
theorem leads_from {y : Int} : ∀ {L : List (Int × Nat)} {x d d' : Int}, d' ≤ d → Leads l n to L x d y → Leads l n to L x d' y
  | [], _, _, _, _, e => e
  | (_, _) :: _, _, _, _, h, ⟨h1, h2, h3, h4, h5, h6⟩ => ⟨by omega, h2, h3, h4, h5, h6⟩
/-- The grazings behind the passes. -/
def vis (l : List Value) : List (Int × Nat) → Int → List Nat
  | [], _ => []
  | (_, g) :: L, x => (nextG l g x).toNat :: vis l L (nextG l g x)
theorem cut_path {G : Int} (hva : validM G l n = true) {z : Nat} {y : Int} : ∀ {L : List (Int × Nat)} {x d : Int}, Leads l n to L x d y → z ∈ vis l L x → ∃ L2 d2, L2.length < L.length ∧ d ≤ d2 ∧ Leads l n to L2 z d2 y
  | (D, g) :: L, x, d, ⟨h1, h2, h3, h4, h5, h6⟩, hz => by
    have hn := next_nat hva h3 x
    rcases List.mem_cons.1 (show z ∈ (nextG l g x).toNat :: vis l L (nextG l g x) from hz) with e | hz
    · refine ⟨L, D, by simp, h1, ?_⟩
      rw [e, hn.2.2]
      exact h6
    · obtain ⟨L2, d2, a1, a2, a3⟩ := cut_path hva h6 hz
      exact ⟨L2, d2, by simp; omega, by omega, a3⟩
theorem vis_lt {G : Int} (hva : validM G l n = true) {y : Int} : ∀ {L : List (Int × Nat)} {x d : Int}, Leads l n to L x d y → ∀ z, z ∈ vis l L x → z < 16
  | (D, g) :: L, x, d, ⟨h1, h2, h3, h4, h5, h6⟩, z, hz => by
    have hn := next_nat hva h3 x
    rcases List.mem_cons.1 (show z ∈ (nextG l g x).toNat :: vis l L (nextG l g x) from hz) with e | hz
    · omega
    · exact vis_lt hva h6 z hz
theorem vis_nodup {G : Int} (hva : validM G l n = true) {y : Int} : ∀ (L : List (Int × Nat)) (x : Nat) (d : Int), Leads l n to L x d y → (∀ L', Leads l n to L' x d y → L.length ≤ L'.length) → (x :: vis l L x).Nodup
  | [], x, d, _, _ => by simp [vis]
  | (D, g) :: L, x, d, h, hmin => by
    obtain ⟨h1, h2, h3, h4, h5, h6⟩ := h
    have hn := next_nat hva h3 x
    have h6' := h6
    rw [← hn.2.2] at h6'
    have ih := vis_nodup hva L (nextG l g x).toNat D h6' (fun L' hL' => by
      rw [hn.2.2] at hL'
      have := hmin ((D, g) :: L') ⟨h1, h2, h3, h4, h5, hL'⟩
      simpa using this)
    rw [hn.2.2] at ih
    refine List.nodup_cons.2 ⟨fun hx => ?_, ih⟩
    obtain ⟨L2, d2, a1, a2, a3⟩ := cut_path hva (L := (D, g) :: L) (x := (x : Int)) (d := d) ⟨h1, h2, h3, h4, h5, h6⟩ hx
    have := hmin L2 (leads_from a2 a3)
    omega
theorem nodup_len : ∀ L : List Nat, L.Nodup → (∀ x, x ∈ L → x < 16) → L.length ≤ cnt (fun x => decide (x ∈ L)) 16
  | [], _, _ => Nat.zero_le _
  | a :: L, h, hb => by
    have h1 := List.nodup_cons.1 h
    have ih := nodup_len L h1.2 fun x hx => hb x (List.mem_cons_of_mem _ hx)
    have := cnt_lt (S := fun x => decide (x ∈ L)) (T := fun x => decide (x ∈ a :: L)) (fun x hx => decide_eq_true (List.mem_cons_of_mem _ (of_decide_eq_true hx))) (i := a) (decide_eq_false h1.1) (decide_eq_true List.mem_cons_self) 16 (hb a List.mem_cons_self)
    simp only [List.length_cons]
    omega
theorem min_len {G : Int} (hva : validM G l n = true) {y : Int} {L : List (Int × Nat)} {x : Nat} {d : Int} (hx : x < 16) (h : Leads l n to L x d y) (hmin : ∀ L', Leads l n to L' x d y → L.length ≤ L'.length) : L.length ≤ 15 := by
  have h1 := nodup_len _ (vis_nodup hva L x d h hmin) (fun z hz => by
    rcases List.mem_cons.1 hz with rfl | hz
    · exact hx
    · exact vis_lt hva h z hz)
  have h2 := cnt_le (fun z => decide (z ∈ x :: vis l L x)) 16
  have h3 : ∀ (L : List (Int × Nat)) (x : Int), (vis l L x).length = L.length := by
    intro L
    induction L with
    | nil => intro x; rfl
    | cons p L ih =>
      intro x
      show (vis l L _).length + 1 = L.length + 1
      rw [ih]
  simp only [List.length_cons, h3] at h1
  omega
end
/-- How many passes the first path has. -/
def stK (l : List Value) (n a b : Nat) (fr to : Int) : Nat := firstBad (fun j => decide (stN l n b to j a < fr)) 16 0
section
variable {G : Int} {l : List Value} {n a b : Nat} {fr to : Int}
theorem stK_ok (hva : validM G l n = true) (ha : a < 16) (h0 : 0 ≤ fr) (h1 : fr ≤ to) (h : ∃ L, Leads l n to L a fr b) : stK l n a b fr to ≤ 15 ∧ fr ≤ stN l n b to (stK l n a b fr to) a ∧ ∀ j, j < stK l n a b fr to → stN l n b to j a < fr := by
  have key : ∃ L, Leads l n to L a fr b ∧ L.length ≤ 15 := by
    obtain ⟨L, hL⟩ := h
    classical
    have : ∀ k, ∀ L, L.length = k → Leads l n to L a fr b → ∃ L2, Leads l n to L2 a fr b ∧ L2.length ≤ 15 := by
      intro k
      induction k using Nat.strongRecOn with
      | ind k ih =>
        intro L hk hL
        by_cases hmin : ∀ L', Leads l n to L' a fr b → L.length ≤ L'.length
        · exact ⟨L, hL, min_len hva ha hL hmin⟩
        · have ⟨L', hL'⟩ := Classical.not_forall.1 hmin
          have ⟨h2, h3⟩ := Classical.not_imp.1 hL'
          exact ih L'.length (by omega) L' rfl h2
    exact this _ L rfl hL
  obtain ⟨L, hL, hlen⟩ := key
  have hst := (stN_iff hva (by omega) L.length a fr h0 h1).1 ⟨L, rfl, hL⟩
  have hle : stK l n a b fr to ≤ L.length := by
    rcases Nat.lt_or_ge L.length (stK l n a b fr to) with h | h
    · have := of_decide_eq_true (firstBad_pass (fun j => decide (stN l n b to j a < fr)) 16 0 L.length (Nat.zero_le _) h)
      omega
    · exact h
  refine ⟨by omega, ?_, fun j hj => of_decide_eq_true (firstBad_pass (fun j => decide (stN l n b to j a < fr)) 16 0 j (Nat.zero_le _) hj)⟩
  have := of_decide_eq_false (firstBad_fail (fun j => decide (stN l n b to j a < fr)) 16 0 (by show stK l n a b fr to < 0 + 16; omega))
  exact Int.not_lt.1 this
end
/-- The rows, one behind the other. -/
def rowsL (l : List Value) (n b : Nat) (to : Int) : Nat → List Value
  | 0 => []
  | k + 1 => rowsL l n b to k ++ ivl (stN l n b to k) 16
theorem rowsL_len (l : List Value) (n b : Nat) (to : Int) : ∀ k, (rowsL l n b to k).length = k * 16
  | 0 => rfl
  | k + 1 => by
    show (rowsL l n b to k ++ ivl _ 16).length = _
    rw [List.length_append, rowsL_len l n b to k, ivl_len]
    omega
theorem ivl_one (f : Nat → Int) : ∀ n, ∀ v, v ∈ ivl f n → v.oneCell' = true
  | 0 => fz
  | n + 1 => fapp (ivl_one f n) (fa rfl fz)
theorem rowsL_one (l : List Value) (n b : Nat) (to : Int) : ∀ k, ∀ v, v ∈ rowsL l n b to k → v.oneCell' = true
  | 0 => fz
  | k + 1 => fapp (rowsL_one l n b to k) (ivl_one _ 16)
theorem rowsL_row (l : List Value) (n b : Nat) (to : Int) : ∀ K k, k < K → ((rowsL l n b to K).drop (k * 16)).take 16 = ivl (stN l n b to k) 16
  | K + 1, k, hk => by
    show ((rowsL l n b to K ++ ivl (stN l n b to K) 16).drop (k * 16)).take 16 = _
    have hlen := rowsL_len l n b to K
    rcases Nat.lt_or_eq_of_le (Nat.le_of_lt_succ hk) with h | rfl
    · rw [List.drop_append_of_le_length (by omega), List.take_append_of_le_length (by rw [List.length_drop]; omega)]
      exact rowsL_row l n b to K k h
    · rw [← hlen, List.drop_left]
      exact List.take_of_length_le (by rw [ivl_len]; exact Nat.le_refl _)
/-- The names behind k rounds. -/
def lsn (G : Int) (l : List Value) (n a b : Nat) (fr to : Int) (k : Nat) : Nm := rnm G l n 0 (fun i => if i = 20 then (a : Int) else if i = 22 then fr else if i = 23 then to else stN l n b to k a) (stN l n b to k) (stN l n b to (k + 1)) (fun i => if i = 9 then rowsL l n b to (k + 1) else rowsL l n b to (k + 2))
section
variable (V : Val) {G : Int} {l : List Value} {n a b : Nat} {fr to : Int}
theorem lsN_cv (V : Val) (b : Nat) (f : Nat → Int) : ∀ m, (∀ j, j < m → @cv V (lsR0 b j) = .int .i64 (f j)) → (lsN b m).map (@cv V) = ivl f m
  | 0, _ => rfl
  | m + 1, h => by
    show (lsN b m ++ [lsR0 b m]).map _ = ivl f m ++ [_]
    rw [List.map_append, lsN_cv V b f m fun j hj => h j (by omega)]
    show ivl f m ++ [_] = _
    rw [h m (by omega)]
theorem ls_row0 (W : Nat → Value) (j : Nat) : @cv ((lsn G l n a b fr to 0).val W) (lsR0 b j) = .int .i64 (stN l n b to 0 j) := by
  unfold lsR0
  show _ = Value.int .i64 (if j = b then to else -1)
  by_cases h : j = b
  · rw [if_pos h, if_pos h]
    rfl
  · rw [if_neg h, if_neg h]
    rfl
set_option maxHeartbeats 1000000 in
theorem latest_q (hG : V.I 0 = G) (hL : V.L 0 = l) (hl : ints l) (hn : l.length = n * 4) (hva : validM G l n = true) (ha : a < 16) (hb : b < 16) (h0 : 0 ≤ fr) (h1 : fr ≤ to) (h2 : to ≤ 1048576) (hp : ∃ L, Leads l n to L a fr b) {ra rb rf rt : RV} (fa0 : flat ra = true) (ea : @cvF V ra = .int .i64 a) (fb0 : flat rb = true) (eb : @cvF V rb = .int .i64 b) (ff0 : flat rf = true) (ef : @cvF V rf = .int .i64 fr) (ft0 : flat rt = true) (et : @cvF V rt = .int .i64 to)
    (h11 : V.L 11 = rowsL l n b to (stK l n a b fr to + 1)) :
    @QNTrue V ⟨fLatest, [fellR, ra, rb, rf, rt], .slN 0 11 16, [some (.lst 11 tStarts true)]⟩ := by
  intro w hr vs hv
  obtain ⟨k15, kok, klt⟩ := stK_ok hva ha h0 h1 hp
  have hv : All2 (@Go.Ri.NVal ((lsn G l n a b fr to 0).val fun _ => undef) w) (lsD b) vs := by
    cases hv with
    | cons h1 h2 => cases h2 with
      | cons h2 h3 => cases h3 with
        | cons h3 h4 => cases h4 with
          | cons h4 h5 => cases h5 with
            | cons h5 h6 =>
              cases h6
              exact .cons (fell_nval1 hG hL h1) (.cons (nval_re fa0 rfl ea rfl h2) (.cons (nval_re fb0 rfl eb rfl h3) (.cons (nval_re ff0 rfl ef rfl h4) (.cons (nval_re ft0 rfl et rfl h5) .nil))))
  have htE : @TbOK ((lsn G l n a b fr to 0).val fun _ => undef) lsE := by
    letI : Val := (lsn G l n a b fr to 0).val fun _ => undef
    exact { LL := hLL_ok _ _ _ hn 0 _ }
  have hids : ∀ k k' W W', ∀ e, e ∈ lsI → okSE ((lsn G l n a b fr to k).val W) ((lsn G l n a b fr to k').val W') e := fun k k' W W' => fa (show l = l from rfl) (ids_ok _ (fa rfl (fa rfl (fa rfl (fa rfl (fa rfl fz))))))
  show Calls Tryz.prog fLatest vs.toArray w (DQ V (.slN 0 11 16) [some (.lst 11 tStarts true)] w)
  refine fn_loop (κ := Unit) (lsn G l n a b fr to 0) (fun _ => undef) lsE [true] fLatest (lsD b) lsP (fun m _ c => ∃ k, k ≤ stK l n a b fr to ∧ c = lsn G l n a b fr to k ∧ m = 15 - k) htE (.new 9 (lsN b 16) :: (m0S (lsR0 b) 16 ++ lsI)) [0, 1, 2, 3] () 15 (allU_lt ls_enter b hb) (lsn G l n a b fr to 0) (fun W' => holds_all (fa ?_ (fapp (m0S_ok 16 fun j hj => ⟨.i64, _, ls_row0 _ j, rnm_M hj⟩) (hids 0 0 _ W')))) ⟨0, Nat.zero_le _, rfl, rfl⟩ (DQ V (.slN 0 11 16) [some (.lst 11 tStarts true)]) ?_ w hr vs hv
  · show rowsL l n b to (0 + 1) = (lsN b 16).map _
    rw [lsN_cv _ b (stN l n b to 0) 16 fun j _ => ls_row0 _ j]
    rfl
  rintro w m _ c ⟨k, hk, rfl, rfl⟩ W
  letI : Val := (lsn G l n a b fr to k).val W
  have hN : ∀ e, e ∈ ([⟨m16, 20, [sI 36]⟩] : List NE) → NTrue e := fa ⟨rfl, rfl, by
    show ((a : Int)).toNat * 1 + 1 ≤ 16
    rw [Int.toNat_natCast]
    omega, by
    show ((m16.map cv).drop (((a : Int)).toNat * 1)).take 1 = _
    rw [Int.toNat_natCast]
    have e16 : m16.map (@cv ((lsn G l n a b fr to k).val W)) = ivl (stN l n b to k) 16 := m16_cv W
    exact (congrArg (fun q : List Value => (q.drop (a * 1)).take 1) e16).trans ((ivl_row ha).trans rfl)⟩ fz
  have hinb : @TETrue ((lsn G l n a b fr to k).val W) ⟨.inb, sI 20, lI 16, bR true⟩ := inb_ok (m := (a : Int)) rfl (by omega) (by omega)
  rcases Nat.lt_or_eq_of_le hk with hlt | rfl
  · have hop := onePass_ans ((lsn G l n a b fr to k).val W) (s := stN l n b to k) rfl rfl hl hn hva (fun x => ⟨stN_lo (by omega) k x, by have := stN_hi (b := b) (to := to) hva (by omega) k x; omega⟩) (r := .agg m16) rfl (m16_agg W)
    have hag : @cvF ((lsn G l n a b fr to k).val W) (.agg s16) = .agg (ivl (stN l n b to (k + 1)) 16).toArray := s16_agg W
    have hop : AnsN fOnePass [fellR, .agg m16] (cvF (.agg s16)) := by
      rw [hag]
      exact hop
    have tb : TbOK lsTb := {
      T := fa hinb (fa (f_lss (k := .i64) (m := stN l n b to k a) (n := fr) rfl rfl (decide_eq_true (klt k hlt))) fz)
      LL := hLL_ok _ _ _ hn 0 W
      N := hN
      C := fa hop fz
      LA := fa ⟨by
        show rowsL l n b to (k + 2) = rowsL l n b to (k + 1) ++ s16.map cv
        have e16 : s16.map (@cv ((lsn G l n a b fr to k).val W)) = ivl (stN l n b to (k + 1)) 16 := s16_cv W
        exact (congrArg (rowsL l n b to (k + 1) ++ ·) e16).symm, by
        show (rowsL l n b to (k + 2)).length ≤ _
        rw [rowsL_len]
        omega, rowsL_one l n b to (k + 1)⟩ fz }
    exact step_to lsTb [] tb (.lst 9 10 :: (m0S (fun j => sI (60 + j)) 16 ++ lsI)) _ () (lsn G l n a b fr to (k + 1)) (allU_lt ls_again b hb) (fun W' => holds_all (fa rfl (fapp (m0S_ok 16 fun j hj => ⟨.i64, stN l n b to (k + 1) j, congrArg (Value.int .i64) rnm_s, rnm_M hj⟩) (hids k (k + 1) W W')))) ⟨15 - (k + 1), by omega, k + 1, hlt, rfl, rfl⟩
  · have tb : TbOK lsEnd := {
      T := fa hinb (fa (f_lss (k := .i64) (m := stN l n b to (stK l n a b fr to) a) (n := fr) rfl rfl (decide_eq_false (by omega))) fz)
      LL := hLL_ok _ _ _ hn 0 W
      N := hN }
    exact step_outQ lsEnd [] tb V [.lst 11 9] [3] _ _ (allU_lt ls_out b hb) rfl (holds_all (fa h11 fz))
end
end Go.Proofs.Z

namespace Go.Proofs.Z
open Go Go.RowKit Go.Proofs Go.Ri Go.Proofs.Z.Fa
/-! Path: runs. -/
def ptLL : List LNE := [⟨0, 4, sI 1⟩, ⟨11, 16, sI 29⟩]
noncomputable def ptLs : QE := ⟨fLatest, [fellR, sI 20, sI 21, sI 22, sI 23], .slN 0 11 16, [some (.lst 11 tStarts true)]⟩
noncomputable def ptE : Tb := { T := [⟨.bin .sub, sI 29, lI 2, sI 24⟩], LL := ptLL, C := [⟨fEarliest, eaD, .tup [sI 23, bR true, lI 0]⟩], U := qnU [ptLs] }
set_option maxRecDepth 100000 in
theorem pt_no : doneQ { C := [⟨fEarliest, eaD, .tup [lI 0, bR false, sI 40]⟩] } [] fPath eaD (idI [40]) [] (.tup [nilR, bR false, sI 40]) [] = true := by kernel_rfl
def ptS : List SE := .int 30 (sI 34) :: .int 31 (sI 32) :: .int 24 (sI 26) :: .lst 0 0 :: .lst 11 11 :: idI [0, 1, 29]
def ptS0 : List SE := .int 30 (sI 20) :: .int 31 (sI 22) :: .int 24 (sI 24) :: .lst 0 0 :: .lst 11 11 :: idI [0, 1, 29]
noncomputable def ptR : Tb := { T := [⟨.bin .geq, sI 24, lI 0, bR true⟩, ⟨.inb, sI 24, sI 29, bR true⟩, ⟨.bin .sub, sI 24, lI 1, sI 26⟩, ⟨.inb, sI 33, sI 1, bR true⟩], LL := ptLL, LX := [⟨11, 24, s16⟩, ⟨0, 33, [sI 3, sI 4, sI 5, sI 6]⟩], C := [⟨fNextPass, [fellR, sI 30, sI 31, .agg s16], .agg [sI 32, sI 33]⟩], Y := [⟨fAcross, [gateQ, sI 30], .tup [sI 34, sI 35]⟩], LA := [⟨9, [sI 32, sI 33], 10⟩] }
noncomputable def ptQ : GP := { f := fPath, ds := eaD, tb := ptE, plan := [], n := 73, l := 15, ov := [(4, .ptr 1 0), (14, .slN 2 11 16), (16, sI 30), (17, sI 31), (18, sI 24)], pre := fellB ++ [some (.lst 11 tStarts true)], e := tPass, s := 2, S0 := ptS0, rt := fun _ => ptR, S := ptS, cr := [sI 32, sI 33], bt := 6, bf := 5, et := { T := [⟨.bin .geq, sI 24, lI 0, bR false⟩], LL := ptLL }, er := fun ne => if ne then (.tup [.slN 0 9 2, bR true, lI 0], [some (.lst 9 tPass true)]) else (.tup [nilR, bR true, lI 0], []), al := true }
set_option maxRecDepth 100000 in
theorem pt_enter : genter ptQ = true := by kernel_rfl
set_option maxRecDepth 100000 in
theorem pt_first : ground ptQ false true = true := by kernel_rfl
set_option maxRecDepth 100000 in
theorem pt_more : ground ptQ true true = true := by kernel_rfl
set_option maxRecDepth 100000 in
theorem pt_outs : (all2 (gout ptQ)) = true := by kernel_rfl
end Go.Proofs.Z

namespace Go.Proofs.Z
open Go Go.RowKit Go.Proofs Go.Ri Go.Proofs.Z.Fa
/-! Path: its contract. -/
section
variable (l : List Value) (n b : Nat) (to : Int) (N a : Nat) (fr : Int)
/-- Where the path is behind k passes, and on what day. -/
def pq : Nat → Int × Int
  | 0 => ((a : Int), fr)
  | k + 1 => (nextG l (npX l (stN l n b to (N - 1 - k)) (pq k).1 (pq k).2 n).2 (pq k).1, (npX l (stN l n b to (N - 1 - k)) (pq k).1 (pq k).2 n).1)
def pp (k : Nat) : Int × Nat := npX l (stN l n b to (N - 1 - k)) (pq l n b to N a fr k).1 (pq l n b to N a fr k).2 n
def ppC (k : Nat) : List Value := [.int .i64 (pp l n b to N a fr k).1, .int .i64 (pp l n b to N a fr k).2]
end
def cellsP : List (Int × Nat) → List Value
  | [] => []
  | (D, g) :: L => .int .i64 D :: .int .i64 g :: cellsP L
theorem cellsP_app : ∀ L M : List (Int × Nat), cellsP (L ++ M) = cellsP L ++ cellsP M
  | [], _ => rfl
  | (D, g) :: L, M => by
    show Value.int .i64 D :: .int .i64 g :: cellsP (L ++ M) = _
    rw [cellsP_app L M]
    rfl
section
variable {G : Int} {l : List Value} {n b : Nat} {to : Int} {N a : Nat} {fr : Int}
theorem pq_inv (hva : validM G l n = true) (hto : 0 ≤ to) (htm : to ≤ 1048576) (ha : a < 16) (h0 : 0 ≤ fr) (h1 : fr ≤ stN l n b to N a) : ∀ k, k ≤ N → 0 ≤ (pq l n b to N a fr k).2 ∧ (pq l n b to N a fr k).2 ≤ stN l n b to (N - k) (pq l n b to N a fr k).1.toNat ∧ (((pq l n b to N a fr k).1.toNat : Nat) : Int) = (pq l n b to N a fr k).1 ∧ (pq l n b to N a fr k).1.toNat < 16
  | 0, _ => ⟨h0, h1, rfl, ha⟩
  | k + 1, hk => by
    obtain ⟨i0, i1, i2, i3⟩ := pq_inv hva hto htm ha h0 h1 k (by omega)
    rw [show N - k = (N - 1 - k) + 1 by omega] at i1
    obtain ⟨g, D, e, hg, hd, hD, ho, ht⟩ := np_ok hva hto htm i0 i1
    rw [i2] at e hD ht
    have hn := next_nat hva hg (pq l n b to N a fr k).1
    have e2 : pq l n b to N a fr (k + 1) = (nextG l g (pq l n b to N a fr k).1, D) := by
      show (nextG l (npX l (stN l n b to (N - 1 - k)) _ _ n).2 _, (npX l (stN l n b to (N - 1 - k)) _ _ n).1) = _
      rw [e]
    rw [e2]
    refine ⟨by show 0 ≤ D; omega, ?_, hn.2.2, by show (nextG l g _).toNat < 16; omega⟩
    rw [show N - (k + 1) = N - 1 - k by omega]
    exact hD
theorem pp_ok (hva : validM G l n = true) (hto : 0 ≤ to) (htm : to ≤ 1048576) (ha : a < 16) (h0 : 0 ≤ fr) (h1 : fr ≤ stN l n b to N a) {k : Nat} (hk : k < N) : (pp l n b to N a fr k).2 < n ∧ ((pq l n b to N a fr k).1 = gtA l (pp l n b to N a fr k).2 ∨ (pq l n b to N a fr k).1 = gtB l (pp l n b to N a fr k).2) := by
  obtain ⟨i0, i1, i2, i3⟩ := pq_inv hva hto htm ha h0 h1 k (by omega)
  rw [show N - k = (N - 1 - k) + 1 by omega] at i1
  obtain ⟨g, D, e, hg, hd, hD, ho, ht⟩ := np_ok hva hto htm i0 i1
  rw [i2] at e ht
  have e2 : pp l n b to N a fr k = (D, g) := e
  rw [e2]
  exact ⟨hg, ht⟩
theorem pp_path : ∀ k, k ≤ N → gl (fun _ => true) (ppC l n b to N a fr) k ++ cellsP (pathL l n b to (N - k) (pq l n b to N a fr k).1 (pq l n b to N a fr k).2) = cellsP (pathL l n b to N a fr)
  | 0, _ => rfl
  | k + 1, hk => by
    have ih := pp_path k (by omega)
    rw [← ih, show N - k = (N - (k + 1)) + 1 by omega]
    show (gl (fun _ => true) (ppC l n b to N a fr) k ++ ppC l n b to N a fr k) ++ _ = gl (fun _ => true) (ppC l n b to N a fr) k ++ _
    rw [List.append_assoc]
    refine congrArg (gl (fun _ => true) (ppC l n b to N a fr) k ++ ·) ?_
    rw [show N - (k + 1) = N - 1 - k by omega]
    rfl
theorem pp_all : gl (fun _ => true) (ppC l n b to N a fr) N = cellsP (pathL l n b to N a fr) := by
  have := pp_path (l := l) (n := n) (b := b) (to := to) (N := N) (a := a) (fr := fr) N (Nat.le_refl _)
  rw [Nat.sub_self] at this
  rw [← this]
  exact (List.append_nil _).symm
end
def ptn (G : Int) (l : List Value) (n a b : Nat) (fr to : Int) (N k : Nat) : Nm :=
  rnm G l n (pp l n b to N a fr k).2 (fun i => if i = 20 then (a : Int) else if i = 21 then (b : Int) else if i = 22 then fr else if i = 23 then to else if i = 24 then (N : Int) - 1 - k else if i = 26 then (N : Int) - 1 - k - 1 else if i = 29 then (N : Int) + 1 else if i = 30 then (pq l n b to N a fr k).1 else if i = 31 then (pq l n b to N a fr k).2 else if i = 32 then (pp l n b to N a fr k).1 else if i = 33 then ((pp l n b to N a fr k).2 : Int) else if i = 34 then (pq l n b to N a fr (k + 1)).1 else if (pq l n b to N a fr k).1 = gtA l (pp l n b to N a fr k).2 then 1 else -1)
    (fun _ => 0) (stN l n b to (N - 1 - k)) (fun i => if i = 9 then gl (fun _ => true) (ppC l n b to N a fr) k else if i = 10 then gl (fun _ => true) (ppC l n b to N a fr) (k + 1) else rowsL l n b to (N + 1))
section
variable (V : Val) {G : Int} {l : List Value} {n a b : Nat} {fr to : Int}
theorem ptS_ok {N k : Nat} (W W' : Nat → Value) : ∀ e, e ∈ ptS → okSE ((ptn G l n a b fr to N k).val W) ((ptn G l n a b fr to N (k + 1)).val W') e :=
  fa ⟨.i64, (pq l n b to N a fr (k + 1)).1, rfl, rfl⟩ (fa ⟨.i64, (pp l n b to N a fr k).1, rfl, rfl⟩ (fa ⟨.i64, (N : Int) - 1 - k - 1, rfl, show (N : Int) - 1 - ((k + 1 : Nat) : Int) = (N : Int) - 1 - k - 1 by omega⟩ (fa (show l = l from rfl) (fa rfl (ids_ok _ (fa rfl (fa rfl (fa rfl fz))))))))
set_option maxRecDepth 10000 in
set_option maxHeartbeats 1000000 in
theorem path_yes (hG : V.I 0 = G) (hL : V.L 0 = l) (hl : ints l) (hn : l.length = n * 4) (hva : validM G l n = true) (ha : a < 16) (hb : b < 16) (h0 : 0 ≤ fr) (h1 : fr ≤ to) (h2 : to ≤ 1048576) (hp : ∃ L, Leads l n to L a fr b) (he : eqM G l n a b fr = eqV to true 0) (hx : V.I 20 = a) (hy : V.I 21 = b) (hz : V.I 22 = fr)
    (h9 : V.L 9 = cellsP (pathL l n b to (stK l n a b fr to) a fr)) (w : World) (hr : RoIn ro w) (vs : List Value) (hv : All2 (@Go.Ri.NVal V w) eaD vs) :
    Calls Tryz.prog fPath vs.toArray w (DQ V (ptQ.er (!(cellsP (pathL l n b to (stK l n a b fr to) a fr)).isEmpty)).1 (ptQ.er (!(cellsP (pathL l n b to (stK l n a b fr to) a fr)).isEmpty)).2 w) := by
  obtain ⟨k15, kok, klt⟩ := stK_ok hva ha h0 h1 hp
  generalize hN : stK l n a b fr to = N at *
  have hb32 : n ≤ 32 := ((validM_iff _ _ _).1 hva).2.2.1
  have hv : All2 (@Go.Ri.NVal ((ptn G l n a b fr to N 0).val fun _ => undef) w) eaD vs := nval4 hG hL hx hy hz rfl rfl rfl rfl rfl hv
  have hLL : ∀ k W, ∀ e, e ∈ ptLL → @LLTrue ((ptn G l n a b fr to N k).val W) e := fun k W => fa ⟨rfl, n, Nat.succ_pos 3, hn, rfl⟩ (fa ⟨rfl, N + 1, Nat.succ_pos 15, rowsL_len l n b to (N + 1), rfl⟩ fz)
  have ht : @TbOK ((ptn G l n a b fr to N 0).val fun _ => undef) ptQ.tb := by
    letI : Val := (ptn G l n a b fr to N 0).val fun _ => undef
    have hE := earliest_all ((ptn G l n a b fr to N 0).val fun _ => undef) (G := G) (l := l) (n := n) (a := (a : Int)) (b := (b : Int)) (fr := fr) rfl rfl hl hn rfl rfl rfl
    rw [he] at hE
    have hLs := latest_q ((ptn G l n a b fr to N 0).val fun _ => undef) (G := G) (l := l) (n := n) (a := a) (b := b) (fr := fr) (to := to) rfl rfl hl hn hva ha hb h0 h1 h2 hp (ra := sI 20) (rb := sI 21) (rf := sI 22) (rt := sI 23) rfl rfl rfl rfl rfl rfl rfl rfl (by rw [hN]; rfl)
    exact { T := fa (f_sub (m := (N : Int) + 1) (n := 2) (r := (N : Int) - 1 - ((0 : Nat) : Int)) rfl rfl rfl rfl (by omega) (by omega) (by omega)) fz, LL := hLL 0 _, C := fa hE fz, U := qnU_ok _ (fa hLs fz) }
  rw [← pp_all]
  refine gather ptQ ⟨pt_enter, ?_, .inl rfl, pt_outs⟩ (fun ne => by cases ne <;> rfl) (ptn G l n a b fr to N 0) (fun _ => undef) (fun k => ptn G l n a b fr to N k) N (fun _ => true) (ppC l n b to N a fr) (fun k => rfl) (fun k => rfl) ht (fun W' => ?_) ?_ (fun k _ W W' => ptS_ok W W') (fun k _ _ W => rfl) (fun k => by simp [ppC]) (fun _ _ _ => rfl) (fun W => ?_) V (by rw [h9, pp_all]) w hr vs hv
  · show (match ground ptQ true true with | true => ground ptQ false true | false => false) = true
    rw [pt_more]
    exact pt_first
  · exact fa ⟨.i64, (a : Int), rfl, rfl⟩ (fa ⟨.i64, fr, rfl, rfl⟩ (fa ⟨.i64, (N : Int) - 1 - ((0 : Nat) : Int), rfl, rfl⟩ (fa (show l = l from rfl) (fa rfl (ids_ok _ (fa rfl (fa rfl (fa rfl fz))))))))
  · intro k hk W
    letI : Val := (ptn G l n a b fr to N k).val W
    obtain ⟨q0, q1, q2, q3⟩ := pq_inv hva (by omega) h2 ha h0 kok k (by omega)
    obtain ⟨p1, p2⟩ := pp_ok hva (by omega) h2 ha h0 kok hk
    have hq2 : (pq l n b to N a fr k).2 ≤ 1048576 := by
      have := stN_hi (b := b) (to := to) hva (by omega) (N - k) (pq l n b to N a fr k).1.toNat
      omega
    have hnp := nextPass_ans ((ptn G l n a b fr to N k).val W) (G := G) (l := l) (n := n) (s := stN l n b to (N - 1 - k)) (x := (pq l n b to N a fr k).1) (d := (pq l n b to N a fr k).2) rfl rfl hl hn hva q0 (by omega) (rx := sI 30) (rd := sI 31) (r := .agg s16) rfl rfl rfl rfl rfl (s16_agg W)
    have hac := across_ans (gtA l (pp l n b to N a fr k).2) (gtB l (pp l n b to N a fr k).2) (gtF l (pp l n b to N a fr k).2) (gtT l (pp l n b to N a fr k).2) (pq l n b to N a fr k).1
    have hac2 : acV (gtA l (pp l n b to N a fr k).2) (gtB l (pp l n b to N a fr k).2) (pq l n b to N a fr k).1 = cvF (.tup [sI 34, sI 35]) := by
      show _ = Value.tuple #[.int .i64 (nextG l (pp l n b to N a fr k).2 (pq l n b to N a fr k).1), .int .i64 (if (pq l n b to N a fr k).1 = gtA l (pp l n b to N a fr k).2 then 1 else -1)]
      unfold acV nextG
      by_cases h : (pq l n b to N a fr k).1 = gtA l (pp l n b to N a fr k).2
      · rw [if_pos h, if_pos h.symm, if_pos h]
      · have h' := p2.resolve_left h
        rw [if_neg h, if_pos h', if_neg (fun e => h e.symm), if_neg h]
    rw [hac2] at hac
    have lx1 : LXTrue ⟨11, 24, s16⟩ := by
      have e24 : (Val.I 24).toNat = N - 1 - k := by
        show ((N : Int) - 1 - k).toNat = _
        omega
      refine ⟨rfl, ?_, ?_⟩
      · show (Val.I 24).toNat * 16 + 16 ≤ (rowsL l n b to (N + 1)).length
        rw [e24, rowsL_len]
        omega
      · show ((rowsL l n b to (N + 1)).drop ((Val.I 24).toNat * 16)).take 16 = s16.map cv
        rw [e24, rowsL_row l n b to (N + 1) (N - 1 - k) (by omega)]
        exact (s16_cv (M := fun _ => 0) (s := stN l n b to (N - 1 - k)) W).symm
    have lx2 : LXTrue ⟨0, 33, [sI 3, sI 4, sI 5, sI 6]⟩ := by
      have h4 : (pp l n b to N a fr k).2 * 4 + 4 ≤ l.length := by omega
      refine ⟨rfl, ?_, ?_⟩
      · show (((pp l n b to N a fr k).2 : Int)).toNat * 4 + 4 ≤ l.length
        rw [Int.toNat_natCast]
        exact h4
      · show (l.drop ((((pp l n b to N a fr k).2 : Int)).toNat * 4)).take 4 = _
        rw [Int.toNat_natCast, row4 hl _ h4]
        rfl
    have tb : TbOK ptR := {
      T := fa (f_geq (k := .i64) (m := (N : Int) - 1 - k) (n := 0) rfl rfl (decide_eq_true (by omega))) (fa ⟨rfl, .i64, .i64, (N : Int) - 1 - k, (N : Int) + 1, rfl, rfl, congrArg Value.bool (decide_eq_true (by omega)).symm⟩ (fa (f_sub (m := (N : Int) - 1 - k) (n := 1) (r := (N : Int) - 1 - k - 1) rfl rfl rfl rfl rfl (by omega) (by omega)) (fa ⟨rfl, .i64, .i64, ((pp l n b to N a fr k).2 : Int), (n : Int), rfl, rfl, congrArg Value.bool (decide_eq_true (by omega)).symm⟩ fz)))
      LL := hLL k W
      LX := fa lx1 (fa lx2 fz)
      C := fa hnp fz
      Y := fa hac fz
      LA := fa (gl_la (p := fun _ => true) (cells := ppC l n b to N a fr) (s := 2) (fun _ => rfl) (fun _ => fa rfl (fa rfl fz)) rfl rfl rfl rfl (by omega)) fz }
    exact tb
  · letI : Val := (ptn G l n a b fr to N N).val W
    exact { T := fa (f_geq (k := .i64) (m := (N : Int) - 1 - N) (n := 0) rfl rfl (decide_eq_false (by omega))) fz, LL := hLL N W }
theorem path_no {e : Int} {a b : Int} (hG : V.I 0 = G) (hL : V.L 0 = l) (hl : ints l) (hn : l.length = n * 4) (hx : V.I 20 = a) (hy : V.I 21 = b) (hz : V.I 22 = fr) (he : eqM G l n a b fr = eqV 0 false e) (h40 : V.I 40 = e) (w : World) (hr : RoIn ro w) (vs : List Value) (hv : All2 (@Go.Ri.NVal V w) eaD vs) :
    Calls Tryz.prog fPath vs.toArray w (DQ V (.tup [nilR, bR false, sI 40]) [] w) := by
  have hE := earliest_all V (G := G) (l := l) (n := n) (a := a) (b := b) (fr := fr) hG hL hl hn hx hy hz
  rw [he] at hE
  have ht : @TbOK V { C := [⟨fEarliest, eaD, .tup [lI 0, bR false, sI 40]⟩] } := by
    letI := V
    have hE : AnsN fEarliest eaD (cvF (.tup [lI 0, bR false, sI 40])) := by
      have e2 : cvF (.tup [lI 0, bR false, sI 40]) = eqV 0 false e := by rw [← h40]; rfl
      rw [e2]
      exact hE
    exact { C := fa hE fz }
  exact done_calls V V ht pt_no rfl (holds_all (ids_ok [40] (fa rfl fz))) w hr vs hv
end
end Go.Proofs.Z
