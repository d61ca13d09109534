/- A part of the proofs that the laws of layer one answer true for every input. -/
import Derived.Test.YtedbdpaioikhgaaGreatDoorZRFeat
import Derived.Lib.Bytealg
import Derived.Test.YtedbdpaioikhgaaGreatDoorZSane
namespace Go.Proofs.Z
open Go Go.RowKit Go.Proofs Go.Ri
/-! ParseShort of both packages: runs. -/
def pzL : List Value := [.int .i64 0, .int .i64 0, .int .i64 0, .int .i64 0, .int .i64 0, .int .i64 0, .int .i64 0, .int .i64 0, .int .i64 0, .bool false, .bool false, .bool false]
def perr (n : Int) : RV := .pl (.tuple #[.agg pzL.toArray, .int .i64 n])
def pL : List RV := [sI 20, sI 21, sI 22, sI 23, sI 24, sI 25, sI 26, sI 27, sI 28, sI 29, sI 30, sI 31]
def peL : List RV := [sI 20, sI 21, sI 22, sI 23, sI 24, sI 25, sI 26, sI 27, sI 28, sB 0, sB 1, sB 2]
def p9 : List Nat := [20, 21, 22, 23, 24, 25, 26, 27, 28]
noncomputable def ppat (k : Nat) : St := ⟨patW [(0, sS 0), (2, .ptr 0 0), (3, lI 0), (4, .ptr 1 0), (13, lI k)] 38 0,
  [some (.cells (pzL.map .pl) 25 false false), some (.cells pL 92 false false)]⟩
noncomputable def rppat (k : Nat) : St := ⟨patW [(0, sS 0), (2, .ptr 0 0), (3, lI 0), (4, .ptr 1 0), (5, lI k)] 48 0,
  [some (.cells (pzL.map .pl) 25 false false), some (.cells peL 25 false false)]⟩
def pArg : List RV := [sS 0]
def psT : List TE := [⟨.len, sS 0, sS 0, lI 12⟩]
noncomputable def psStart : Tb := { T := psT }
noncomputable def psOdd : Tb := { T := [⟨.len, sS 0, sS 0, sI 50⟩, ⟨.ieq, sI 50, lI 12, bR false⟩] }
def cdAt (k v : Nat) : RV := lU ((lett k).getD v 0).toNat
noncomputable def psGood (k v : Nat) : Tb := { T := [⟨.idx, sS 0, lI k, cdAt k v⟩], EX := [⟨fIBS, [lS (lett k), cdAt k v], lI v⟩] }
noncomputable def psBad (k : Nat) : Tb := { T := [⟨.idx, sS 0, lI k, sU 60⟩], EX := [⟨fIBS, [lS (lett k), sU 60], lI (-1)⟩] }
def bitP (b0 b1 b2 : Bool) : List TE := [⟨.ieq, sI 29, lI 0, bR (!b0)⟩, ⟨.ieq, sI 30, lI 0, bR (!b1)⟩, ⟨.ieq, sI 31, lI 0, bR (!b2)⟩]
def pEarR (b0 b1 b2 : Bool) : RV := .agg [sI 20, sI 21, sI 22, sI 23, sI 24, sI 25, sI 26, sI 27, sI 28, bR b0, bR b1, bR b2]
noncomputable def psEnd (ok b0 b1 b2 : Bool) : Tb := { T := bitP b0 b1 b2, Y := [⟨fCheck, [pEarR b0 b1 b2], lI (if ok then 0 else 10)⟩] }
def psI0 : List SE := .str 0 (sS 0) :: (p9 ++ [29, 30, 31]).map fun j => .int j (lI 0)
def rpsI0 : List SE := .str 0 (sS 0) :: (p9.map (fun j => .int j (lI 0)) ++ [0, 1, 2].map fun j => .bool j (bR false))
def psIds (k v : Nat) : List SE := .str 0 (sS 0) :: .int (20 + k) (lI v) :: idI ((p9 ++ [29, 30, 31]).filter fun j => !(Nat.beq j (20 + k)))
def rpsIds (k v : Nat) : List SE := .str 0 (sS 0) :: (if k < 9 then .int (20 + k) (lI v) :: (idI (p9.filter fun j => !(Nat.beq j (20 + k))) ++ idB [0, 1, 2]) else .bool (k - 9) (bR (!(Nat.beq v 0))) :: (idI p9 ++ idB ([0, 1, 2].filter fun j => !(Nat.beq j (k - 9)))))
set_option maxRecDepth 100000 in
theorem ps_enter : enterT psStart [] fPShort pArg psI0 [0, 1] (ppat 0) = true := by kernel_rfl
set_option maxRecDepth 100000 in
theorem rps_enter : enterT psStart [] fRPShort pArg rpsI0 [0, 1] (rppat 0) = true := by kernel_rfl
set_option maxRecDepth 100000 in
theorem ps_odd : doneQ psOdd [] fPShort pArg [] [] (perr 3) [] = true := by kernel_rfl
set_option maxRecDepth 100000 in
theorem rps_odd : doneQ psOdd [] fRPShort pArg [] [] (perr 3) [] = true := by kernel_rfl
noncomputable def psAgain (k v : Nat) : Bool := match Nat.blt v (ln k) with
  | true => againT (psGood k v) [] (hB psStart [] fPShort pArg) (hK psStart [] fPShort pArg) (ppat k) (psIds k v) [0, 1] (ppat (k + 1))
  | false => true
set_option maxRecDepth 100000 in
theorem ps_again : (allU 12 fun k => allU 5 fun v => psAgain k v) = true := by kernel_rfl
set_option maxRecDepth 100000 in
theorem ps_bad : (allU 12 fun k => outF (psBad k) [] fPShort (hB psStart [] fPShort pArg) (hK psStart [] fPShort pArg) (ppat k) (perr 3)) = true := by kernel_rfl
set_option maxRecDepth 100000 in
theorem ps_out : (all2 fun ok => all2 fun b0 => all2 fun b1 => all2 fun b2 => outF (psEnd ok b0 b1 b2) [] fPShort (hB psStart [] fPShort pArg) (hK psStart [] fPShort pArg) (ppat 12) (if ok then .tup [pEarR b0 b1 b2, lI 0] else perr 10)) = true := by kernel_rfl
noncomputable def rpsAgain (k v : Nat) : Bool := match Nat.blt v (ln k) with
  | true => againT { T := [⟨.idx, sS 0, lI k, cdAt k v⟩] } [true] (hB psStart [] fRPShort pArg) (hK psStart [] fRPShort pArg) (rppat k) (rpsIds k v) [0, 1] (rppat (k + 1))
  | false => true
set_option maxRecDepth 100000 in
theorem rps_again : (allU 12 fun k => allU 5 fun v => rpsAgain k v) = true := by kernel_rfl
noncomputable def rpsBad (k : Nat) : Tb := { T := ⟨.idx, sS 0, lI k, sU 60⟩ :: (lett k).map fun b => ⟨.ieq, lU b.toNat, sU 60, bR false⟩ }
set_option maxRecDepth 100000 in
theorem rps_bad : (allU 12 fun k => outF (rpsBad k) [true] fRPShort (hB psStart [] fRPShort pArg) (hK psStart [] fRPShort pArg) (rppat k) (perr 3)) = true := by kernel_rfl
set_option maxRecDepth 100000 in
theorem rps_out : (all2 fun ok => outF { Y := [⟨fValid, [.agg peL], bR ok⟩] } [] fRPShort (hB psStart [] fRPShort pArg) (hK psStart [] fRPShort pArg) (rppat 12) (if ok then .tup [.agg peL, lI 0] else perr 10)) = true := by kernel_rfl
end Go.Proofs.Z

namespace Go.Proofs.Z
open Go Go.RowKit Go.Proofs Go.Ri
/-! ParseShort of both packages: what they answer. -/
def uP (s : Nat → Int) (p : Nat) (v : Int) : Nat → Int := fun i => if i = p then v else s i
def yP (s : Nat → Int) : Nat → Bool := fun i => !(s (9 + i) == 0)
def pI (l : List UInt8) (k : Nat) : Int := Go.Lib.indexByte (lett k) (l.getD k 0)
def prs (l : List UInt8) : Nat → Option (Nat → Int)
  | 0 => some fun _ => 0
  | k + 1 => match prs l k with
    | some s => if pI l k < 0 then none else some (uP s k (pI l k))
    | none => none
theorem prs_none (l : List UInt8) (i : Nat) (h : prs l i = none) : ∀ n, i ≤ n → prs l n = none
  | 0, hn => by
    obtain rfl : i = 0 := by omega
    exact h
  | n + 1, hn => by
    rcases Nat.eq_or_lt_of_le hn with rfl | hlt
    · exact h
    · show (match prs l n with | some s => if pI l n < 0 then none else some (uP s n (pI l n)) | none => none) = none
      rw [prs_none l i h n (by omega)]
/-- What ParseShort answers. -/
def psO (o : Option (Nat → Int)) : Value := match o with
  | none => .tuple #[.agg pzL.toArray, intV 3]
  | some s => if valB s then .tuple #[earF s (yP s), intV 0] else .tuple #[.agg pzL.toArray, intV 10]
def psV (b : ByteArray) : Value := if b.data.toList.length = 12 then psO (prs b.data.toList 12) else .tuple #[.agg pzL.toArray, intV 3]
theorem ib_or (c : UInt8) : ∀ l : List UInt8, (Go.Lib.indexByte l c = -1 ∧ ∀ d ∈ l, d ≠ c) ∨ ∃ v, v < l.length ∧ l.getD v 0 = c ∧ Go.Lib.indexByte l c = (v : Int)
  | [] => .inl ⟨rfl, fun d hd => by cases hd⟩
  | b :: l => by
    by_cases hb : (b == c) = true
    · refine .inr ⟨0, by simp, ?_, ?_⟩
      · simpa using hb
      · unfold Go.Lib.indexByte
        rw [if_pos hb]
        rfl
    · have hb' : b ≠ c := by simpa using hb
      rcases ib_or c l with ⟨h1, h2⟩ | ⟨v, h1, h2, h3⟩
      · refine .inl ⟨?_, ?_⟩
        · unfold Go.Lib.indexByte
          rw [if_neg hb, h1]
          rfl
        · intro d hd
          rcases List.mem_cons.1 hd with rfl | hd
          · exact hb'
          · exact h2 d hd
      · refine .inr ⟨v + 1, by simp; omega, ?_, ?_⟩
        · rw [List.getD_cons_succ]
          exact h2
        · unfold Go.Lib.indexByte
          rw [if_neg hb, h3]
          have : (((v : Int)) == -1) = false := by
            rw [beq_eq_false_iff_ne]
            omega
          rw [this]
          simp
theorem ibs (s : ByteArray) (c : Int) (w : World) : (callFunc 142 #[.string s, .int .u8 c]).run Tryz.prog w = .ok (.value (.int .i64 (Go.Lib.indexByte s.data.toList c.toNat.toUInt8))) w := by
  rw [run_callFunc_extern (P := Tryz.prog) (f := 142) (fn := Tryz.f142) (e := Extern.BytealgIndexByte.indexByte) (by kernel_rfl) (by kernel_rfl) (by kernel_rfl) (by kernel_rfl) (by kernel_rfl), Lib.run_indexByteString]
  rfl
theorem u8_back (b : UInt8) : ((b.toNat : Int)).toNat.toUInt8 = b := by
  rw [Int.toNat_natCast]
  simp
/-- The names: the row so far, the byte at hand, the length. -/
def pnm (b : ByteArray) (k : Nat) (s : Nat → Int) : Nm := ⟨fun j => if j = 60 then ((b.data.toList.getD k 0).toNat : Int) else if j = 50 then (b.data.toList.length : Int) else s (j - 20), yP s, fun _ => b, fun _ => []⟩
section
variable (b : ByteArray)
theorem pnm20 (k : Nat) (s : Nat → Int) (p : Nat) (hp : p < 12) : (pnm b k s).I (20 + p) = s p := by
  show (if 20 + p = 60 then _ else if 20 + p = 50 then _ else s (20 + p - 20)) = _
  rw [if_neg (by omega), if_neg (by omega), Nat.add_sub_cancel_left]
theorem te_len (k : Nat) (s : Nat → Int) (W : Nat → Value) (h : b.data.toList.length = 12) : @TETrue ((pnm b k s).val W) ⟨.len, sS 0, sS 0, lI 12⟩ :=
  ⟨rfl, b, rfl, by rw [h]; rfl⟩
theorem te_at (k : Nat) (s : Nat → Int) (W : Nat → Value) (h : b.data.toList.length = 12) (hk : k < 12) (r : RV) (hf : flat0 r = true) (hr : @cv ((pnm b k s).val W) r = .int .u8 (b.data.toList.getD k 0).toNat) : @TETrue ((pnm b k s).val W) ⟨.idx, sS 0, lI k, r⟩ := by
  refine ⟨hf, b, .i64, (k : Int), b.data.toList.getD k 0, rfl, rfl, by omega, ?_, hr⟩
  rw [Int.toNat_natCast, List.getD_eq_getElem?_getD]
  have : k < b.data.toList.length := by omega
  rw [List.getElem?_eq_getElem this]
  rfl
theorem ps_odd_ok (h : b.data.toList.length ≠ 12) : @TbOK ((pnm b 0 fun _ => 0).val fun _ => undef) psOdd := by
  letI : Val := (pnm b 0 fun _ => 0).val fun _ => undef
  refine { T := ?_ }
  intro e he
  simp only [psOdd, List.mem_cons, List.not_mem_nil, or_false] at he
  rcases he with rfl | rfl
  · exact ⟨rfl, b, rfl, rfl⟩
  · refine ⟨rfl, ?_⟩
    show TCTrue .ieq (.int .i64 (b.data.toList.length : Int)) (.int .i64 12) (.bool false)
    have : (((b.data.toList.length : Int)) == 12) = false := by
      rw [beq_eq_false_iff_ne]
      omega
    rw [← this]
    exact t_ieq .i64 _ _
theorem psGood_ok (k : Nat) (s : Nat → Int) (W : Nat → Value) (h : b.data.toList.length = 12) (hk : k < 12) (v : Nat) (hv : (lett k).getD v 0 = b.data.toList.getD k 0) (hi : pI b.data.toList k = v) : @TbOK ((pnm b k s).val W) (psGood k v) := by
  letI : Val := (pnm b k s).val W
  refine { T := ?_, EX := ?_ }
  · intro e he
    simp only [psGood, List.mem_cons, List.not_mem_nil, or_false] at he
    subst he
    exact te_at b k s W h hk (cdAt k v) rfl (by rw [← hv]; rfl)
  · intro e he
    simp only [psGood, List.mem_cons, List.not_mem_nil, or_false] at he
    subst he
    intro w
    have := ibs ⟨(lett k).toArray⟩ (((lett k).getD v 0).toNat : Int) w
    rw [u8_back, hv] at this
    show (callFunc 142 #[.string ⟨(lett k).toArray⟩, .int .u8 ((lett k).getD v 0).toNat]).run Tryz.prog w = .ok (.value (.int .i64 (v : Int))) w
    rw [hv, this, ← hi]
    rfl
theorem psBad_ok (k : Nat) (s : Nat → Int) (W : Nat → Value) (h : b.data.toList.length = 12) (hk : k < 12) (hi : pI b.data.toList k = -1) : @TbOK ((pnm b k s).val W) (psBad k) := by
  letI : Val := (pnm b k s).val W
  refine { T := ?_, EX := ?_ }
  · intro e he
    simp only [psBad, List.mem_cons, List.not_mem_nil, or_false] at he
    subst he
    exact te_at b k s W h hk (sU 60) rfl rfl
  · intro e he
    simp only [psBad, List.mem_cons, List.not_mem_nil, or_false] at he
    subst he
    intro w
    have := ibs ⟨(lett k).toArray⟩ ((b.data.toList.getD k 0).toNat : Int) w
    rw [u8_back] at this
    show (callFunc 142 #[.string ⟨(lett k).toArray⟩, .int .u8 (b.data.toList.getD k 0).toNat]).run Tryz.prog w = .ok (.value (.int .i64 (-1))) w
    rw [this, ← hi]
    rfl
theorem rpsBad_ok (k : Nat) (s : Nat → Int) (W : Nat → Value) (h : b.data.toList.length = 12) (hk : k < 12) (hi : ∀ d ∈ lett k, d ≠ b.data.toList.getD k 0) : @TbOK ((pnm b k s).val W) (rpsBad k) := by
  letI : Val := (pnm b k s).val W
  refine { T := ?_ }
  intro e he
  simp only [rpsBad, List.mem_cons] at he
  rcases he with rfl | he
  · exact te_at b k s W h hk (sU 60) rfl rfl
  · obtain ⟨d, hd, rfl⟩ := List.mem_map.1 he
    refine ⟨rfl, ?_⟩
    show TCTrue .ieq (.int .u8 (d.toNat : Int)) (.int .u8 ((b.data.toList.getD k 0).toNat : Int)) (.bool false)
    have : (((d.toNat : Int)) == ((b.data.toList.getD k 0).toNat : Int)) = false := by
      rw [beq_eq_false_iff_ne]
      intro e
      exact hi d hd (UInt8.toNat_inj.1 (by omega))
    rw [← this]
    exact t_ieq .u8 _ _
theorem uP_self (s : Nat → Int) (p : Nat) (v : Int) : uP s p v p = v := by unfold uP; rw [if_pos rfl]
theorem uP_ne (s : Nat → Int) (p : Nat) (v : Int) (i : Nat) (h : i ≠ p) : uP s p v i = s i := by unfold uP; rw [if_neg h]
theorem pids_ok (k : Nat) (s : Nat → Int) (W : Nat → Value) (k' : Nat) (v : Nat) (hk : k < 12) (W' : Nat → Value) : Holds (psIds k v) ((pnm b k s).val W) ((pnm b k' (uP s k v)).val W') := by
  refine holds_all fun e he => ?_
  simp only [psIds, idI, List.mem_cons, List.mem_map, List.mem_filter] at he
  rcases he with rfl | rfl | ⟨j, ⟨hj, hjp⟩, rfl⟩
  · exact ⟨b, rfl, rfl⟩
  · exact ⟨.i64, v, rfl, (pnm20 b k' _ k hk).trans (uP_self s k v)⟩
  · obtain ⟨q, hq, rfl⟩ : ∃ q, q < 12 ∧ j = 20 + q := by
      simp only [p9, List.cons_append, List.nil_append, List.mem_cons, List.not_mem_nil, or_false] at hj
      exact ⟨j - 20, by omega, by omega⟩
    have hqp : q ≠ k := by
      rintro rfl
      simp at hjp
    exact ⟨.i64, _, rfl, (pnm20 b k' _ q hq).trans ((uP_ne s k v q hqp).trans (pnm20 b k s q hq).symm)⟩
theorem rpids_ok (k : Nat) (s : Nat → Int) (W : Nat → Value) (k' : Nat) (v : Nat) (hk : k < 12) (W' : Nat → Value) : Holds (rpsIds k v) ((pnm b k s).val W) ((pnm b k' (uP s k v)).val W') := by
  refine holds_all fun e he => ?_
  have hB : ∀ j, 9 + j ≠ k → (pnm b k' (uP s k v)).B j = (pnm b k s).B j := fun j hj => by
    show (!(uP s k v (9 + j) == 0)) = !(s (9 + j) == 0)
    rw [uP_ne s k v _ hj]
  have hI : ∀ j, j ∈ p9 → j ≠ 20 + k → (pnm b k' (uP s k v)).I j = (pnm b k s).I j := fun j hj hne => by
    obtain ⟨q, hq, rfl⟩ : ∃ q, q < 12 ∧ j = 20 + q := by
      simp only [p9, List.mem_cons, List.not_mem_nil, or_false] at hj
      exact ⟨j - 20, by omega, by omega⟩
    exact (pnm20 b k' _ q hq).trans ((uP_ne s k v q (by omega)).trans (pnm20 b k s q hq).symm)
  unfold rpsIds at he
  rcases List.mem_cons.1 he with rfl | he
  · exact ⟨b, rfl, rfl⟩
  · split at he
    · simp only [idB, idI, List.mem_cons, List.mem_append, List.mem_map, List.mem_filter] at he
      rcases he with rfl | ⟨j, ⟨hj, hjp⟩, rfl⟩ | ⟨j, hj, rfl⟩
      · exact ⟨.i64, v, rfl, (pnm20 b k' _ k hk).trans (uP_self s k v)⟩
      · exact ⟨.i64, _, rfl, hI j hj (by rintro rfl; simp at hjp)⟩
      · exact ⟨_, rfl, hB j (by omega)⟩
    · rename_i hk9
      simp only [idB, idI, List.mem_cons, List.mem_append, List.mem_map, List.mem_filter] at he
      rcases he with rfl | ⟨j, hj, rfl⟩ | ⟨j, ⟨hj, hjp⟩, rfl⟩
      · refine ⟨_, rfl, ?_⟩
        show (!(uP s k v (9 + (k - 9)) == 0)) = !(Nat.beq v 0)
        rw [show 9 + (k - 9) = k by omega, uP_self]
        cases v <;> rfl
      · refine ⟨.i64, _, rfl, hI j hj ?_⟩
        simp only [p9, List.mem_cons, List.not_mem_nil, or_false] at hj
        omega
      · refine ⟨_, rfl, hB j ?_⟩
        rintro rfl
        simp at hjp
theorem pend_ok (s : Nat → Int) (W : Nat → Value) : @TbOK ((pnm b 12 s).val W) (psEnd (valB s) (yP s 0) (yP s 1) (yP s 2)) := by
  letI : Val := (pnm b 12 s).val W
  refine { T := ?_, Y := ?_ }
  · intro e he
    simp only [psEnd, bitP, List.mem_cons, List.not_mem_nil, or_false] at he
    rcases he with rfl | rfl | rfl
    · exact ⟨rfl, by show TCTrue .ieq (.int .i64 (s 9)) (.int .i64 0) (.bool !!(s 9 == 0)); rw [Bool.not_not]; exact t_ieq .i64 (s 9) 0⟩
    · exact ⟨rfl, by show TCTrue .ieq (.int .i64 (s 10)) (.int .i64 0) (.bool !!(s 10 == 0)); rw [Bool.not_not]; exact t_ieq .i64 (s 10) 0⟩
    · exact ⟨rfl, by show TCTrue .ieq (.int .i64 (s 11)) (.int .i64 0) (.bool !!(s 11 == 0)); rw [Bool.not_not]; exact t_ieq .i64 (s 11) 0⟩
  · intro e he
    simp only [psEnd, List.mem_cons, List.not_mem_nil, or_false] at he
    subst he
    have := chk_ans s (yP s)
    cases hvb : valB s <;> rw [hvb] at this <;> exact this
theorem rpend_ok (s : Nat → Int) (W : Nat → Value) : @TbOK ((pnm b 12 s).val W) { Y := [⟨fValid, [.agg peL], bR (valB s)⟩] } := by
  letI : Val := (pnm b 12 s).val W
  refine { Y := ?_ }
  intro e he
  simp only [List.mem_cons, List.not_mem_nil, or_false] at he
  subst he
  exact val_ans s (yP s)
theorem prs_next (k : Nat) (s : Nat → Int) (hs : prs b.data.toList k = some s) : prs b.data.toList (k + 1) = if pI b.data.toList k < 0 then none else some (uP s k (pI b.data.toList k)) := by
  show (match prs b.data.toList k with | some s => if pI b.data.toList k < 0 then none else some (uP s k (pI b.data.toList k)) | none => none) = _
  rw [hs]
theorem lett5 (k : Nat) : (lett k).length ≤ 5 := by
  unfold lett
  split
  · decide
  · split <;> decide
theorem blt_ln {k v : Nat} (h : v < (lett k).length) : Nat.blt v (ln k) = true := Nat.ble_eq_true_of_le h
theorem pshort_ans : Ans fPShort [.string b] (psV b) := by
  by_cases h : b.data.toList.length = 12
  case neg =>
    unfold psV
    rw [if_neg h]
    exact ans_dq (V := (pnm b 0 fun _ => 0).val fun _ => undef) fun w hr => done_calls _ _ (ps_odd_ok b h) ps_odd rfl (noHolds _ _) w hr [.string b] (@nval_flat ((pnm b 0 fun _ => 0).val fun _ => undef) w [sS 0] rfl)
  intro w hr
  unfold psV
  rw [if_pos h]
  refine fn_loop (κ := Nat) (pnm b 0 fun _ => 0) (fun _ => undef) psStart [] fPShort pArg ppat (fun m k c => ∃ s, k ≤ 12 ∧ m = 12 - k ∧ prs b.data.toList k = some s ∧ c = pnm b k s) ?_ psI0 [0, 1] 0 12 ps_enter (pnm b 0 fun _ => 0) ?_ ⟨fun _ => 0, Nat.zero_le _, rfl, rfl, rfl⟩ (DF (psO (prs b.data.toList 12))) ?_ w hr [.string b] (@nval_flat ((pnm b 0 fun _ => 0).val fun _ => undef) w [sS 0] rfl)
  · letI : Val := (pnm b 0 fun _ => 0).val fun _ => undef
    refine { T := ?_ }
    intro e he
    simp only [psStart, psT, List.mem_cons, List.not_mem_nil, or_false] at he
    subst he
    exact te_len b 0 _ _ h
  · intro W'
    refine holds_all fun e he => ?_
    simp only [psI0, p9, List.cons_append, List.nil_append, List.map_cons, List.map_nil, List.mem_cons, List.not_mem_nil, or_false] at he
    rcases he with rfl | rfl | rfl | rfl | rfl | rfl | rfl | rfl | rfl | rfl | rfl | rfl | rfl
    · exact ⟨b, rfl, rfl⟩
    all_goals exact ⟨.i64, 0, rfl, rfl⟩
  · rintro w m k c ⟨s, hk, rfl, hs, rfl⟩ W
    by_cases hlt : k < 12
    · have hnext := prs_next b k s hs
      rcases ib_or (b.data.toList.getD k 0) (lett k) with ⟨hi, _⟩ | ⟨v, hv, hc, hi⟩
      · refine step_outF (psBad k) [] (psBad_ok b k s W h hlt hi) (perr 3) (allU_lt ps_bad k hlt) ?_
        rw [prs_none _ (k + 1) (hnext.trans (if_pos (by rw [show pI b.data.toList k = -1 from hi]; decide))) 12 hlt]
        rfl
      · have hi' : pI b.data.toList k = v := hi
        rw [hi', if_neg (by omega)] at hnext
        have hrun := allU_lt (allU_lt ps_again k hlt) v (Nat.lt_of_lt_of_le hv (lett5 k))
        unfold psAgain at hrun
        rw [blt_ln hv] at hrun
        exact step_to (psGood k v) [] (psGood_ok b k s W h hlt v hc hi') (psIds k v) [0, 1] (k + 1) (pnm b (k + 1) (uP s k v)) hrun (pids_ok b k s W (k + 1) v hlt) ⟨12 - (k + 1), by omega, uP s k v, hlt, rfl, hnext, rfl⟩
    · obtain rfl : k = 12 := by omega
      rw [hs]
      refine step_outF _ [] (pend_ok b s W) _ (all2_all (all2_all (all2_all (all2_all ps_out (valB s)) (yP s 0)) (yP s 1)) (yP s 2)) ?_
      cases hvb : valB s
      · show _ = (if valB s then _ else _)
        rw [hvb]
        rfl
      · show _ = (if valB s then _ else _)
        rw [hvb]
        rfl
theorem rpshort_ans : Ans fRPShort [.string b] (psV b) := by
  by_cases h : b.data.toList.length = 12
  case neg =>
    unfold psV
    rw [if_neg h]
    exact ans_dq (V := (pnm b 0 fun _ => 0).val fun _ => undef) fun w hr => done_calls _ _ (ps_odd_ok b h) rps_odd rfl (noHolds _ _) w hr [.string b] (@nval_flat ((pnm b 0 fun _ => 0).val fun _ => undef) w [sS 0] rfl)
  intro w hr
  unfold psV
  rw [if_pos h]
  refine fn_loop (κ := Nat) (pnm b 0 fun _ => 0) (fun _ => undef) psStart [] fRPShort pArg rppat (fun m k c => ∃ s, k ≤ 12 ∧ m = 12 - k ∧ prs b.data.toList k = some s ∧ c = pnm b k s) ?_ rpsI0 [0, 1] 0 12 rps_enter (pnm b 0 fun _ => 0) ?_ ⟨fun _ => 0, Nat.zero_le _, rfl, rfl, rfl⟩ (DF (psO (prs b.data.toList 12))) ?_ w hr [.string b] (@nval_flat ((pnm b 0 fun _ => 0).val fun _ => undef) w [sS 0] rfl)
  · letI : Val := (pnm b 0 fun _ => 0).val fun _ => undef
    refine { T := ?_ }
    intro e he
    simp only [psStart, psT, List.mem_cons, List.not_mem_nil, or_false] at he
    subst he
    exact te_len b 0 _ _ h
  · intro W'
    refine holds_all fun e he => ?_
    simp only [rpsI0, p9, List.cons_append, List.nil_append, List.map_cons, List.map_nil, List.mem_cons, List.not_mem_nil, or_false] at he
    rcases he with rfl | rfl | rfl | rfl | rfl | rfl | rfl | rfl | rfl | rfl | rfl | rfl | rfl
    · exact ⟨b, rfl, rfl⟩
    all_goals first | exact ⟨.i64, 0, rfl, rfl⟩ | exact ⟨false, rfl, rfl⟩
  · rintro w m k c ⟨s, hk, rfl, hs, rfl⟩ W
    by_cases hlt : k < 12
    · have hnext := prs_next b k s hs
      rcases ib_or (b.data.toList.getD k 0) (lett k) with ⟨hi, hno⟩ | ⟨v, hv, hc, hi⟩
      · refine step_outF (rpsBad k) [true] (rpsBad_ok b k s W h hlt hno) (perr 3) (allU_lt rps_bad k hlt) ?_
        rw [prs_none _ (k + 1) (hnext.trans (if_pos (by rw [show pI b.data.toList k = -1 from hi]; decide))) 12 hlt]
        rfl
      · have hi' : pI b.data.toList k = v := hi
        rw [hi', if_neg (by omega)] at hnext
        have hrun := allU_lt (allU_lt rps_again k hlt) v (Nat.lt_of_lt_of_le hv (lett5 k))
        unfold rpsAgain at hrun
        rw [blt_ln hv] at hrun
        refine step_to { T := [⟨.idx, sS 0, lI k, cdAt k v⟩] } [true] ?_ (rpsIds k v) [0, 1] (k + 1) (pnm b (k + 1) (uP s k v)) hrun (rpids_ok b k s W (k + 1) v hlt) ⟨12 - (k + 1), by omega, uP s k v, hlt, rfl, hnext, rfl⟩
        letI : Val := (pnm b k s).val W
        exact { T := (psGood_ok b k s W h hlt v hc hi').T }
    · obtain rfl : k = 12 := by omega
      rw [hs]
      refine step_outF _ [] (rpend_ok b s W) _ (all2_all rps_out (valB s)) ?_
      cases hvb : valB s
      · show _ = (if valB s then _ else _)
        rw [hvb]
        rfl
      · show _ = (if valB s then _ else _)
        rw [hvb]
        rfl
end
end Go.Proofs.Z

namespace Go.Proofs.Z
open Go Go.RowKit Go.Proofs Go.Ri
/-! The law EarShorts. -/
theorem sanexS : XTrue saneX := by
  intro f vs v h
  unfold saneX at h
  split at h
  · split at h
    · rename_i hf
      obtain rfl := Nat.eq_of_beq_eq_true hf
      cases h
      exact sane_ans
    · cases h
  · cases h
noncomputable def lsY (ok : Bool) : List YE := let r := if ok then .tup [sS 5, lI 0] else shBad
  [⟨fShort, [earR 0], r⟩, ⟨fRShort, [earR 0], r⟩, ⟨fPShort, [sS 6], .tup [earR 40, sI 49]⟩, ⟨fRPShort, [sS 6], .tup [earR 40, sI 49]⟩]
noncomputable def lsTb (ok : Bool) : Tb := { X := saneX, T := [⟨.seq, sS 5, sS 5, bR true⟩], Y := lsY ok }
set_option maxRecDepth 100000 in
theorem ls_run : (all2 fun ok => doneQ (lsTb ok) [] fEarShorts [earR 0, sS 6] [] [] (bR true) []) = true := by kernel_rfl
theorem psV_ear (b : ByteArray) : ∃ X Y e, psV b = .tuple #[earF X Y, intV e] := by
  unfold psV psO
  split
  · split
    · exact ⟨fun _ => 0, fun _ => false, _, rfl⟩
    · split
      · exact ⟨_, _, _, rfl⟩
      · exact ⟨fun _ => 0, fun _ => false, _, rfl⟩
  · exact ⟨fun _ => 0, fun _ => false, _, rfl⟩
/-- THE LAW. -/
theorem short_law (x : Nat → Int) (y : Nat → Bool) (b : ByteArray) : Ans fEarShorts [earF x y, .string b] (.bool true) := by
  obtain ⟨X, Y, e, hp⟩ := psV_ear b
  let c : Nm := ⟨fun i => if i < 40 then x i else if i < 49 then X (i - 40) else e, fun i => if i < 40 then y i else Y (i - 40), fun i => if i = 5 then shortV (shp x y) else b, fun _ => []⟩
  let V : Val := c.val fun _ => undef
  have e1 : @cvF V (.tup [earR 40, sI 49]) = psV b := hp.symm
  refine @ans_dq V _ _ _ [] fun w hr => done_calls V V (t := lsTb (valB x)) (plan := []) (ds := [earR 0, sS 6]) ?_ (all2_all ls_run _) rfl (noHolds V V) w hr [earF x y, .string b] (@nval_flat V w [earR 0, sS 6] rfl)
  letI : Val := V
  refine { X := sanexS, T := ?_, Y := ?_ }
  · intro q hq
    simp only [lsTb, List.mem_cons, List.not_mem_nil, or_false] at hq
    subst hq
    refine ⟨rfl, shortV (shp x y), shortV (shp x y), rfl, rfl, ?_⟩
    rw [beq_self_eq_true]
    rfl
  · intro q hq
    simp only [lsTb, lsY, List.mem_cons, List.not_mem_nil, or_false] at hq
    have h3 : Ans fPShort ([sS 6].map cvF) (cvF (.tup [earR 40, sI 49])) := by
      rw [e1]
      exact pshort_ans b
    have h4 : Ans fRPShort ([sS 6].map cvF) (cvF (.tup [earR 40, sI 49])) := by
      rw [e1]
      exact rpshort_ans b
    cases hv : valB x with
    | true =>
      rw [hv] at hq
      rcases hq with rfl | rfl | rfl | rfl
      · exact short_ans x y hv
      · exact rshort_ans x y hv
      · exact h3
      · exact h4
    | false =>
      rw [hv] at hq
      rcases hq with rfl | rfl | rfl | rfl
      · exact short_bad x y hv
      · exact rshort_bad x y hv
      · exact h3
      · exact h4
end Go.Proofs.Z
