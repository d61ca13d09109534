/- A part of the proofs that the laws of layer one answer true for every input. -/
import Derived.Test.YtedbdpaioikhgaaGreatDoorZEarOf
import Derived.Test.YtedbdpaioikhgaaGreatDoorZCmp3
import Derived.Test.YtedbdpaioikhgaaGreatDoorZLoop5
namespace Go.Proofs.Z
open Go Go.RowKit Go.Proofs Go.Ri
/-! The letters of the short notation. -/
def lett (p : Nat) : List UInt8 := if p = 0 then [119, 115, 102, 104, 99] else if p < 9 then [46, 110, 98, 107] else [46, 111]
def lS (l : List UInt8) : RV := .pl (.string ⟨l.toArray⟩)
def sS (i : Nat) : RV := .sym .str i
def sU (i : Nat) : RV := .sym (.int .u8) i
def lU (n : Int) : RV := .pl (.int .u8 n)
def ln (p : Nat) : Nat := (lett p).length
theorem ok_rng (s i p : Nat) (z : Int) (h : (Nat.beq (cls z) 0 || !badC s i p (cls z)) = true) : 0 ≤ z ∧ z ≤ 3 := by
  have h0 := cls0 z
  have h2 := cls2 z
  have h3 := cls3 z
  cases hb : Nat.beq (cls z) 0 with
  | true =>
    rw [hb] at h0
    have : z = 0 := by simpa using h0.symm
    omega
  | false =>
    rw [hb] at h
    unfold badC at h
    rw [h2, h3] at h
    by_cases a : z < 0
    · simp [a] at h
    · by_cases b : z > 3
      · simp [b] at h
      · omega
theorem edge_rng (s : Nat) (x : Nat → Int) (h : edgeB s x = true) : ∀ i, i < 4 → 0 ≤ x i ∧ x i ≤ 3 := by
  unfold edgeB okC at h
  simp only [Bool.and_eq_true] at h
  obtain ⟨⟨⟨a, b⟩, c⟩, d⟩ := h
  intro i hi
  match i, hi with
  | 0, _ => exact ok_rng _ _ _ _ a
  | 1, _ => exact ok_rng _ _ _ _ b
  | 2, _ => exact ok_rng _ _ _ _ c
  | 3, _ => exact ok_rng _ _ _ _ d
theorem tip_rng (t : Int) (h : tipOK (tcl t) = true) : 0 ≤ t ∧ t ≤ 4 := by
  obtain ⟨_, h1, h2, _, _⟩ := tcl_spec t
  unfold tipOK at h
  rw [h1, h2] at h
  by_cases a : t < 0
  · simp [a] at h
  · by_cases b : t > 4
    · simp [b] at h
    · omega
theorem val_rng (x : Nat → Int) (y : Nat → Bool) (hv : valB x = true) (p : Nat) (hp : p < 12) : 0 ≤ shp x y p ∧ shp x y p < (ln p : Int) := by
  unfold valB at hv
  simp only [Bool.and_eq_true] at hv
  obtain ⟨ht, hu, hl⟩ := hv
  have t := tip_rng _ ht
  have u := edge_rng _ _ hu
  have l := edge_rng _ _ hl
  unfold shp
  by_cases h9 : p < 9
  · rw [if_pos h9]
    by_cases h0 : p = 0
    · subst h0
      have : ((ln 0 : Nat) : Int) = 5 := rfl
      omega
    · have e : ((ln p : Nat) : Int) = 4 := by unfold ln lett; rw [if_neg h0, if_pos h9]; rfl
      rw [e]
      by_cases h5 : p < 5
      · have := u (p - 1) (by omega)
        unfold sh at this
        rw [show 1 + (p - 1) = p by omega] at this
        omega
      · have := l (p - 5) (by omega)
        unfold sh at this
        rw [show 5 + (p - 5) = p by omega] at this
        omega
  · rw [if_neg h9]
    have e : ((ln p : Nat) : Int) = 2 := by unfold ln lett; rw [if_neg (by omega), if_neg h9]; rfl
    rw [e]
    split <;> omega
/-- The letter of a value. -/
def code (p : Nat) (v : Int) : UInt8 := (lett p).getD v.toNat 0
def codes (s : Nat → Int) : Nat → List UInt8
  | 0 => []
  | k + 1 => codes s k ++ [code k (s k)]
/-- The short notation. -/
def shortV (s : Nat → Int) : ByteArray := ⟨(codes s 12).toArray⟩
theorem get_code (p : Nat) (v : Int) (h0 : 0 ≤ v) (h1 : v < (ln p : Int)) : (lett p)[v.toNat]? = some (code p v) := by
  have : v.toNat < (lett p).length := by
    have : (ln p : Int) = ((lett p).length : Int) := rfl
    omega
  unfold code
  rw [List.getD_eq_getElem?_getD, List.getElem?_eq_getElem this]
  rfl
/-- The names: the ear, its row, the letters, the numbers behind; the letters as strings, the beginnings. -/
noncomputable def shnm (x : Nat → Int) (y : Nat → Bool) : Nm := ⟨fun i => if i < 20 then x i else if i < 40 then shp x y (i - 20) else if i < 80 then (code (i - 60) (shp x y (i - 60))).toNat else shp x y (i - 80) + 1, y,
  fun i => if i = 5 then shortV (shp x y) else if i < 30 then ⟨#[code (i - 10) (shp x y (i - 10))]⟩ else ⟨(codes (shp x y) (i - 29)).toArray⟩, fun _ => []⟩
def rg : List Nat := [0, 1, 2, 3, 4, 5, 6, 7, 8, 9, 10, 11]
noncomputable def shTb : Tb := { Y := [⟨fCheck, [earR 0], lI 0⟩, ⟨fShapeOf, [earR 0], shapeR 20⟩], T := rg.map fun p => ⟨.idx, lS (lett p), sI (20 + p), sU (60 + p)⟩, MS := [⟨rg.map fun p => sU (60 + p), 5⟩] }
def rshY : List YE := ⟨fValid, [earR 0], bR true⟩ :: rg.map (fun (p : Nat) => ⟨fGet, [earR 0, lI p], sI (20 + p)⟩)
def rshS : List SSE := rg.map (fun p => ⟨lS (lett p), sI (20 + p), sI (80 + p), sS (10 + p)⟩)
def rshT : List TE := rg.map (fun p => ⟨.bin .add, sI (20 + p), lI 1, sI (80 + p)⟩) ++ rg.map (fun p => ⟨.bin .add, if p = 0 then lS [] else sS (29 + p), sS (10 + p), sS (30 + p)⟩)
noncomputable def rshTb : Tb := { Y := rshY, SS := rshS, T := rshT }
set_option maxRecDepth 100000 in
theorem sh_run : doneQ shTb [true] fShort [earR 0] [.str 5 (sS 5)] [] (.tup [sS 5, lI 0]) [] = true := by kernel_rfl
set_option maxRecDepth 100000 in
theorem rsh_run : doneQ rshTb [true] fRShort [earR 0] [.str 5 (sS 41)] [] (.tup [sS 5, lI 0]) [] = true := by kernel_rfl
def shBad : RV := .pl (.tuple #[.string ⟨#[]⟩, .int .i64 10])
set_option maxRecDepth 100000 in
theorem sh_bad : doneQ { Y := [⟨fCheck, [earR 0], lI 10⟩] } [] fShort [earR 0] [] [] shBad [] = true := by kernel_rfl
set_option maxRecDepth 100000 in
theorem rsh_bad : doneQ { Y := [⟨fValid, [earR 0], bR false⟩] } [] fRShort [earR 0] [] [] shBad [] = true := by kernel_rfl
end Go.Proofs.Z

namespace Go.Proofs.Z.Fa
open Go Go.RowKit Go.Proofs Go.Ri Go.Proofs.Z
/-! Facts of operations. -/
section
variable [Val] {a b c : RV} {k : IntKind} {m n : Int} {q : Bool}
theorem f_ieq (ha : cv a = .int k m) (hb : cv b = .int k n) (h : (m == n) = q) : TETrue ⟨.ieq, a, b, bR q⟩ := by
  refine ⟨rfl, ?_⟩
  show TCTrue _ (cv a) (cv b) (.bool q)
  rw [ha, hb, ← h]
  exact t_ieq k m n
theorem f_lss (ha : cv a = .int k m) (hb : cv b = .int k n) (h : decide (m < n) = q) : TETrue ⟨.bin .lss, a, b, bR q⟩ := by
  refine ⟨rfl, ?_⟩
  show TCTrue _ (cv a) (cv b) (.bool q)
  rw [ha, hb, ← h]
  exact t_lss k m n
theorem f_gtr (ha : cv a = .int k m) (hb : cv b = .int k n) (h : decide (m > n) = q) : TETrue ⟨.bin .gtr, a, b, bR q⟩ := by
  refine ⟨rfl, ?_⟩
  show TCTrue _ (cv a) (cv b) (.bool q)
  rw [ha, hb, ← h]
  exact t_gtr k m n
theorem f_geq (ha : cv a = .int k m) (hb : cv b = .int k n) (h : decide (m ≥ n) = q) : TETrue ⟨.bin .geq, a, b, bR q⟩ := by
  refine ⟨rfl, ?_⟩
  show TCTrue _ (cv a) (cv b) (.bool q)
  rw [ha, hb, ← h]
  exact t_geq k m n
theorem f_leq (ha : cv a = .int k m) (hb : cv b = .int k n) (h : decide (m ≤ n) = q) : TETrue ⟨.bin .leq, a, b, bR q⟩ := by
  refine ⟨rfl, ?_⟩
  show TCTrue _ (cv a) (cv b) (.bool q)
  rw [ha, hb, ← h]
  exact t_leq k m n
theorem f_add1 (ha : cv a = .int .i64 m) (hc : cv c = .int .i64 (m + 1)) (hf : flat0 c = true) (h0 : 0 ≤ m) (h1 : m ≤ 1000000000) : TETrue ⟨.bin .add, a, lI 1, c⟩ := by
  refine ⟨hf, ?_⟩
  show TCTrue _ (cv a) (.int .i64 1) (cv c)
  rw [ha, hc]
  have := t_add .i64 m 1
  rw [IntWalk.i64_in _ (by omega)] at this
  exact this
theorem f_len {s : ByteArray} (ha : cv a = .string s) (hb : cv b = .int .i64 (s.data.toList.length : Nat)) (hf : flat0 b = true) : TETrue ⟨.len, a, a, b⟩ := ⟨hf, s, ha, hb⟩
theorem f_idx {s : ByteArray} {j : Nat} (ha : cv a = .string s) (hb : cv b = .int .i64 (j : Nat)) (hc : cv c = .int .u8 ((s.data.toList.getD j 0).toNat : Nat)) (hf : flat0 c = true) (hj : j < s.data.toList.length) : TETrue ⟨.idx, a, b, c⟩ := by
  refine ⟨hf, s, .i64, (j : Int), s.data.toList.getD j 0, ha, hb, by omega, ?_, hc⟩
  rw [Int.toNat_natCast, List.getD_eq_getElem?_getD, List.getElem?_eq_getElem hj]
  rfl
theorem f_sadd {x y : ByteArray} (ha : cv a = .string x) (hb : cv b = .string y) (hc : cv c = .string (x ++ y)) (hf : flat0 c = true) (h : x.size + y.size ≤ 1000000000) : TETrue ⟨.bin .add, a, b, c⟩ := by
  refine ⟨hf, ?_⟩
  show TCTrue _ (cv a) (cv b) (cv c)
  rw [ha, hb, hc]
  intro P ty p q w
  have hg : (eqGuard .add ty p q (.string x) (.string y)).run P w = .ok () w := guard_other (by simp) (by simp) w
  have hb : binOp .add ty (.string x) (.string y) = Op.stringOp .add x y := rfl
  have hmax : IntKind.i64.max = 9223372036854775807 := rfl
  have hno : ¬ (9223372036854775807 < (x.size : Int) + (y.size : Int)) := by omega
  simp [hg, hb, Op.stringOp, hmax, hno]
end
def byt (s : ByteArray) (k : Nat) : UInt8 := s.data.toList.getD k 0
theorem byt_get {s : ByteArray} {k : Nat} (h : k < s.data.toList.length) : s.data.toList[k]? = some (byt s k) := by
  unfold byt
  rw [List.getD_eq_getElem?_getD, List.getElem?_eq_getElem h]
  rfl
end Go.Proofs.Z.Fa

namespace Go.Proofs.Z
open Go Go.RowKit Go.Proofs Go.Ri
/-! Features of the specification. -/
theorem k12_shp (x : Nat → Int) (y : Nat → Bool) (j : Nat) : k12 x y j = shp x y j := by
  unfold k12 shp
  split
  · rfl
  · cases y (j - 9) <;> rfl
def earCells : List RV := [sI 0, sI 1, sI 2, sI 3, sI 4, sI 5, sI 6, sI 7, sI 8, sB 0, sB 1, sB 2]
noncomputable def rq : FP := ⟨fRFeatures, { Y := [⟨fValid, [earR 0], bR true⟩] }, 26, 4, 1, 5, .ptr 0 0, [some (.cells earCells 25 false false)], fun k => [⟨fGet, [earR 0, lI k], sI (20 + k)⟩]⟩
set_option maxRecDepth 100000 in
theorem rf_enter : enterT rq.tb [] rq.f [earR 0] (idI fids ++ eids) (List.range rq.pre.length) (fpat rq (0, false)) = true := by kernel_rfl
set_option maxRecDepth 100000 in
theorem rf_rounds : (allU 12 fun k => all2 fun ne => all2 fun b => fround rq k ne b) = true := by kernel_rfl
set_option maxRecDepth 100000 in
theorem rf_outs : (all2 (foutQ rq)) = true := by kernel_rfl
theorem ear_cv (x : Nat → Int) (y : Nat → Bool) (V : Val) (hx : ∀ i, i < 9 → V.I i = x i) (hy : ∀ i, i < 3 → V.B i = y i) : @cvF V (earR 0) = earF x y := by
  show Value.agg #[.int .i64 (V.I 0), .int .i64 (V.I 1), .int .i64 (V.I 2), .int .i64 (V.I 3), .int .i64 (V.I 4), .int .i64 (V.I 5), .int .i64 (V.I 6), .int .i64 (V.I 7), .int .i64 (V.I 8), .bool (V.B 0), .bool (V.B 1), .bool (V.B 2)] = _
  rw [hx 0 (by omega), hx 1 (by omega), hx 2 (by omega), hx 3 (by omega), hx 4 (by omega), hx 5 (by omega), hx 6 (by omega), hx 7 (by omega), hx 8 (by omega), hy 0 (by omega), hy 1 (by omega), hy 2 (by omega)]
  rfl
theorem rfeatures_ans (x : Nat → Int) (y : Nat → Bool) (hv : valB x = true) (V : Val) (hj : V.L 0 = featL (shp x y) 12) : @AnsQ V fRFeatures [earF x y] (featAns (featL (shp x y) 12).isEmpty).1 (featAns (featL (shp x y) 12).isEmpty).2 := by
  refine feat_fn rq ⟨rf_enter, rf_rounds, rf_outs⟩ x y ?_ ?_ V hj
  · letI : Val := (fnm x y).val fun _ => undef
    refine { Y := ?_ }
    intro e he
    simp only [rq, List.mem_cons, List.not_mem_nil, or_false] at he
    rcases he with rfl
    have := val_ans x y
    rw [hv] at this
    exact this
  · intro k hk c hx hy hI W e he
    simp only [rq, List.mem_cons, List.not_mem_nil, or_false] at he
    rcases he with rfl
    have h := get_ans x y k hk
    rw [k12_shp, ← hI k hk, ← ear_cv x y (c.val W) hx hy] at h
    exact h
noncomputable def rfbadRun : Bool := doneQ { Y := [⟨fValid, [earR 0], bR false⟩] } [] fRFeatures [earR 0] [] [] badA []
set_option maxRecDepth 100000 in
theorem rfbad_run : rfbadRun = true := by kernel_rfl
theorem rfeatures_bad (x : Nat → Int) (y : Nat → Bool) (hv : valB x = false) : Ans fRFeatures [earF x y] (.tuple #[.slice none 0 0, .int .i64 10]) := by
  refine @ans_dq V0 _ _ _ [] fun w hr => ?_
  refine done_calls (VE x y) V0 (t := { Y := [⟨fValid, [earR 0], bR false⟩] }) (plan := []) (ds := [earR 0]) ?_ rfbad_run rfl (noHolds _ _) w hr [earF x y] (@nval_flat (VE x y) w [earR 0] rfl)
  letI : Val := VE x y
  refine { Y := ?_ }
  intro e he
  simp only [List.mem_cons, List.not_mem_nil, or_false] at he
  rcases he with rfl
  have := val_ans x y
  rw [hv] at this
  exact this
end Go.Proofs.Z

namespace Go.Proofs.Z
open Go Go.RowKit Go.Proofs Go.Ri
theorem rg_lt {p : Nat} (h : p ∈ rg) : p < 12 := by
  simp only [rg, List.mem_cons, List.not_mem_nil, or_false] at h
  omega
theorem codes_rg (s : Nat → Int) : codes s 12 = rg.map fun p => code p (s p) := rfl
section
variable (x : Nat → Int) (y : Nat → Bool)
theorem sh20 (p : Nat) (hp : p < 12) : (shnm x y).I (20 + p) = shp x y p := by
  show (if 20 + p < 20 then _ else if 20 + p < 40 then shp x y (20 + p - 20) else _) = _
  rw [if_neg (by omega), if_pos (by omega), Nat.add_sub_cancel_left]
theorem sh60 (p : Nat) (hp : p < 12) : (shnm x y).I (60 + p) = (code p (shp x y p)).toNat := by
  show (if 60 + p < 20 then _ else if 60 + p < 40 then _ else if 60 + p < 80 then (((code (60 + p - 60) (shp x y (60 + p - 60))).toNat : Nat) : Int) else _) = _
  rw [if_neg (by omega), if_neg (by omega), if_pos (by omega), Nat.add_sub_cancel_left]
theorem sh80 (p : Nat) : (shnm x y).I (80 + p) = shp x y p + 1 := by
  show (if 80 + p < 20 then _ else if 80 + p < 40 then _ else if 80 + p < 80 then _ else shp x y (80 + p - 80) + 1) = _
  rw [if_neg (by omega), if_neg (by omega), if_neg (by omega), Nat.add_sub_cancel_left]
theorem sh10 (p : Nat) (hp : p < 12) : (shnm x y).S (10 + p) = ⟨#[code p (shp x y p)]⟩ := by
  show (if 10 + p = 5 then _ else if 10 + p < 30 then (⟨#[code (10 + p - 10) (shp x y (10 + p - 10))]⟩ : ByteArray) else _) = _
  rw [if_neg (by omega), if_pos (by omega), Nat.add_sub_cancel_left]
theorem sh29 (p : Nat) : (shnm x y).S (30 + p) = ⟨(codes (shp x y) (p + 1)).toArray⟩ := by
  show (if 30 + p = 5 then _ else if 30 + p < 30 then _ else (⟨(codes (shp x y) (30 + p - 29)).toArray⟩ : ByteArray)) = _
  rw [if_neg (by omega), if_neg (by omega), show 30 + p - 29 = p + 1 by omega]
theorem codes_len (s : Nat → Int) : ∀ k, (codes s k).length = k
  | 0 => rfl
  | k + 1 => by
    show (codes s k ++ [code k (s k)]).length = k + 1
    rw [List.length_append, codes_len s k]
    rfl
theorem t_sadd [Val] (a b : ByteArray) (h : a.size + b.size ≤ 1000000000) : TCTrue (.bin .add) (.string a) (.string b) (.string (a ++ b)) := fun P ty p q w => by
  have hg : (eqGuard .add ty p q (.string a) (.string b)).run P w = .ok () w := guard_other (by simp) (by simp) w
  have hb : binOp .add ty (.string a) (.string b) = Op.stringOp .add a b := rfl
  have hmax : IntKind.i64.max = 9223372036854775807 := rfl
  have hno : ¬ (9223372036854775807 < (a.size : Int) + (b.size : Int)) := by omega
  simp [hg, hb, Op.stringOp, hmax, hno]
theorem ans_dqF {V : Val} {f : FuncId} {args : List Value} {r : RV} {h0 : RH} (h : @AnsQ V f args r h0) (hf : flat r = true) : Ans f args (@cvF V r) := fun w hr =>
  (h w hr).mono fun e w' ⟨u, E', he, hu, H⟩ => ⟨by rw [he, @VRel.fn V E' r u _ hu (@rel_cvF V E' r hf)], @HInv.below V _ _ _ _ _ _ H⟩
theorem str_holds {V V' : Val} {i j : Nat} (h : V'.S i = V.S j) : Holds [.str i (sS j)] V V' := holds_all fun e he => by
  simp only [List.mem_cons, List.not_mem_nil, or_false] at he
  subst he
  exact ⟨_, rfl, h⟩
theorem short_ans (hv : valB x = true) : Ans fShort [earF x y] (.tuple #[.string (shortV (shp x y)), intV 0]) := by
  let V : Val := (shnm x y).val fun _ => undef
  have ht : @TbOK V shTb := by
    letI : Val := V
    refine { Y := ?_, T := ?_, MS := ?_ }
    · intro e he
      simp only [shTb, List.mem_map] at he
      obtain ⟨p, hp, rfl⟩ := he
      have hp := rg_lt hp
      obtain ⟨r0, r1⟩ := val_rng x y hv p hp
      refine ⟨rfl, ⟨(lett p).toArray⟩, .i64, shp x y p, code p (shp x y p), rfl, ?_, r0, ?_, ?_⟩
      · show Value.int .i64 ((shnm x y).I (20 + p)) = _
        rw [sh20 x y p hp]
      · exact get_code p _ r0 r1
      · show Value.int .u8 ((shnm x y).I (60 + p)) = _
        rw [sh60 x y p hp]
    · intro e he
      simp only [shTb, List.mem_cons, List.not_mem_nil, or_false] at he
      rcases he with rfl | rfl
      · have := chk_ans x y
        rw [if_pos hv] at this
        exact this
      · exact shape_ans x y
    · intro e he
      simp only [shTb, List.mem_cons, List.not_mem_nil, or_false] at he
      subst he
      refine ⟨codes (shp x y) 12, ?_, rfl, rfl⟩
      rw [codes_rg, List.map_map, List.map_map]
      refine List.map_congr_left fun p hp => ?_
      show Value.int .u8 ((shnm x y).I (60 + p)) = _
      rw [sh60 x y p (rg_lt hp)]
      rfl
  have h : @AnsQ V fShort [earF x y] (.tup [sS 5, lI 0]) [] := fun w hr => done_calls V V ht sh_run rfl (str_holds rfl) w hr _ (@nval_flat V w [earR 0] rfl)
  exact ans_dqF h rfl
theorem rshort_ans (hv : valB x = true) : Ans fRShort [earF x y] (.tuple #[.string (shortV (shp x y)), intV 0]) := by
  let V : Val := (shnm x y).val fun _ => undef
  have ht : @TbOK V rshTb := by
    letI : Val := V
    refine { Y := ?_, T := ?_, SS := ?_ }
    · intro e he
      rcases List.mem_append.1 (show e ∈ rg.map (fun p => (⟨.bin .add, sI (20 + p), lI 1, sI (80 + p)⟩ : TE)) ++ rg.map (fun p => ⟨.bin .add, if p = 0 then lS [] else sS (29 + p), sS (10 + p), sS (30 + p)⟩) from he) with he | he
      · obtain ⟨p, hp, rfl⟩ := List.mem_map.1 he
        have hp := rg_lt hp
        obtain ⟨r0, r1⟩ := val_rng x y hv p hp
        have hl : ln p ≤ 5 := by
          unfold ln lett
          split
          · decide
          · split <;> decide
        exact te_add1 (20 + p) (80 + p) (shp x y p) (sh20 x y p hp) (sh80 x y p) r0 (by omega)
      · obtain ⟨p, hp, rfl⟩ := List.mem_map.1 he
        have hp := rg_lt hp
        have ea : cv (if p = 0 then lS [] else sS (29 + p)) = .string ⟨(codes (shp x y) p).toArray⟩ := by
          by_cases h0 : p = 0
          · subst h0; rfl
          · rw [if_neg h0]
            show Value.string ((shnm x y).S (29 + p)) = _
            have := sh29 x y (p - 1)
            rw [show 30 + (p - 1) = 29 + p by omega, show p - 1 + 1 = p by omega] at this
            rw [this]
        have hs := t_sadd ⟨(codes (shp x y) p).toArray⟩ ⟨#[code p (shp x y p)]⟩ (by
          have : (codes (shp x y) p).length = p := codes_len _ p
          show (codes (shp x y) p).toArray.size + 1 ≤ _
          rw [List.size_toArray, this]
          omega)
        have eb : cv (sS (10 + p)) = .string ⟨#[code p (shp x y p)]⟩ := congrArg Value.string (sh10 x y p hp)
        have ec : cv (sS (30 + p)) = .string (⟨(codes (shp x y) p).toArray⟩ ++ ⟨#[code p (shp x y p)]⟩) := by
          show Value.string ((shnm x y).S (30 + p)) = _
          rw [sh29 x y p]
          congr 1
        rw [← ea, ← eb, ← ec] at hs
        exact ⟨rfl, hs⟩
    · intro e he
      have he : e ∈ (⟨fValid, [earR 0], bR true⟩ : YE) :: rg.map (fun (p : Nat) => ⟨fGet, [earR 0, lI p], sI (20 + p)⟩) := he
      rcases List.mem_cons.1 he with rfl | he
      · have := val_ans x y
        rw [hv] at this
        exact this
      · obtain ⟨p, hp, rfl⟩ := List.mem_map.1 he
        have hp := rg_lt hp
        have h := get_ans x y p hp
        have e2 : intV (k12 x y p) = cvF (sI (20 + p)) := by
          show Value.int .i64 _ = .int .i64 ((shnm x y).I (20 + p))
          rw [sh20 x y p hp]
          congr 1
        rw [e2] at h
        exact h
    · intro e he
      obtain ⟨p, hp, rfl⟩ := List.mem_map.1 (show e ∈ rg.map (fun p => (⟨lS (lett p), sI (20 + p), sI (80 + p), sS (10 + p)⟩ : SSE)) from he)
      have hp := rg_lt hp
      obtain ⟨r0, r1⟩ := val_rng x y hv p hp
      have hg := get_code p _ r0 r1
      have hlt : (shp x y p).toNat < (lett p).length := (List.getElem?_eq_some_iff.1 hg).1
      refine ⟨rfl, ⟨(lett p).toArray⟩, .i64, .i64, (shp x y p).toNat, (shp x y p).toNat + 1, rfl, ?_, ?_, by omega, by show _ ≤ (lett p).toArray.size; rw [List.size_toArray]; omega, ?_⟩
      · show Value.int .i64 ((shnm x y).I (20 + p)) = _
        rw [sh20 x y p hp]
        congr 1
        omega
      · show Value.int .i64 ((shnm x y).I (80 + p)) = _
        rw [sh80 x y p]
        congr 1
        omega
      · show Value.string ((shnm x y).S (10 + p)) = _
        rw [sh10 x y p hp]
        congr 1
        apply ByteArray.ext
        rw [ByteArray.data_extract]
        apply Array.ext'
        rw [Array.toList_extract]
        simp only [List.extract_eq_take_drop]
        rw [show (shp x y p).toNat + 1 - (shp x y p).toNat = 1 by omega]
        have := List.drop_eq_getElem_cons hlt
        rw [this]
        have e3 : (lett p)[(shp x y p).toNat] = code p (shp x y p) := by
          rw [List.getElem?_eq_getElem hlt] at hg
          exact Option.some.inj hg
        rw [e3]
        rfl
  have h : @AnsQ V fRShort [earF x y] (.tup [sS 5, lI 0]) [] := fun w hr => done_calls V V ht rsh_run rfl (str_holds rfl) w hr _ (@nval_flat V w [earR 0] rfl)
  exact ans_dqF h rfl
theorem short_bad (hv : valB x = false) : Ans fShort [earF x y] (.tuple #[.string ⟨#[]⟩, intV 10]) := by
  refine @ans_dq V0 _ _ _ [] fun w hr => done_calls (VE x y) V0 (t := { Y := [⟨fCheck, [earR 0], lI 10⟩] }) (plan := []) (ds := [earR 0]) ?_ sh_bad rfl (noHolds _ _) w hr [earF x y] (@nval_flat (VE x y) w [earR 0] rfl)
  letI : Val := VE x y
  refine { Y := ?_ }
  intro e he
  simp only [List.mem_cons, List.not_mem_nil, or_false] at he
  subst he
  have := chk_ans x y
  rw [if_neg (by simp [hv])] at this
  exact this
theorem rshort_bad (hv : valB x = false) : Ans fRShort [earF x y] (.tuple #[.string ⟨#[]⟩, intV 10]) := by
  refine @ans_dq V0 _ _ _ [] fun w hr => done_calls (VE x y) V0 (t := { Y := [⟨fValid, [earR 0], bR false⟩] }) (plan := []) (ds := [earR 0]) ?_ rsh_bad rfl (noHolds _ _) w hr [earF x y] (@nval_flat (VE x y) w [earR 0] rfl)
  letI : Val := VE x y
  refine { Y := ?_ }
  intro e he
  simp only [List.mem_cons, List.not_mem_nil, or_false] at he
  subst he
  have := val_ans x y
  rw [hv] at this
  exact this
end
end Go.Proofs.Z
