/- A part of the proofs that the laws of layer four answer true for every input. -/
import Derived.Test.YtjjmnoiiihcoiaaGreatDoorZGB
namespace Go.Proofs.Z
open Go Go.RowKit Go.Proofs Go.Ri Go.Proofs.Z.Fa
/-! Check and Valid: runs. -/
abbrev fCheck : Nat := 26
abbrev fValid : Nat := 69
abbrev tFell : Nat := 24
abbrev tInt : Nat := 3
abbrev tBool : Nat := 4
/-- A fell, its gates by a list's name. -/
def fellR : RV := .agg [sI 0, .slN 0 0 4]
def fellB : List (Option RO) := [some (.lstA 0), some (.cells [sI 0, .slA 0 0 4] tFell false false)]
/-- What is known of the number i of a gate's tests. -/
def gf (i : Nat) (p : Bool) : List TE :=
  if i = 0 then [⟨.bin .lss, sI 3, lI 0, bR (!p)⟩]
  else if i = 1 then [⟨.bin .geq, sI 3, sI 4, bR (!p)⟩]
  else if i = 2 then [⟨.bin .geq, sI 4, sI 0, bR (!p)⟩]
  else if i = 3 then [⟨.bin .geq, sI 5, lI 0, bR p⟩, ⟨.bin .lss, sI 5, lI 0, bR (!p)⟩]
  else if i = 4 then [⟨.bin .lss, sI 5, lI 360, bR p⟩, ⟨.bin .geq, sI 5, lI 360, bR (!p)⟩]
  else if i = 5 then [⟨.bin .geq, sI 6, lI 0, bR p⟩, ⟨.bin .lss, sI 6, lI 0, bR (!p)⟩]
  else [⟨.bin .lss, sI 6, lI 360, bR p⟩, ⟨.bin .geq, sI 6, lI 360, bR (!p)⟩]
def gfN (c : Nat) : Nat → List TE
  | 0 => []
  | j + 1 => gfN c j ++ if j < c then gf j true else if j = c then gf j false else []
/-- What is known at the head: of the number of the gate. -/
def hT (b : Bool) : List TE := [⟨.bin .lss, sI 2, sI 1, bR b⟩, ⟨.inb, sI 2, sI 1, bR b⟩, ⟨.bin .add, sI 2, lI 1, sI 7⟩]
def hLL : List LNE := [⟨0, 4, sI 1⟩]
def hLX (b : Bool) : List LEE := if b then [⟨0, 2, [sI 3, sI 4, sI 5, sI 6]⟩] else []
noncomputable def ckTb (c : Nat) : Tb := { T := hT true ++ gfN c 7, LL := hLL, LX := hLX true }
noncomputable def hEnd : Tb := { T := hT false, LL := hLL }
def ckE (i : Nat) (p : Bool) : List TE := if i = 0 then [⟨.bin .lss, sI 0, lI 1, bR (!p)⟩] else if i = 1 then [⟨.bin .gtr, sI 0, lI 16, bR (!p)⟩] else [⟨.bin .gtr, sI 1, lI 32, bR (!p)⟩]
def ckN (c : Nat) : Nat → List TE
  | 0 => []
  | j + 1 => ckN c j ++ if j < c then ckE j true else if j = c then ckE j false else []
noncomputable def ckEn (c : Nat) : Tb := { T := ckN c 3, LL := hLL }
noncomputable def ckP (_ : Unit) : St := ⟨patW [(1, .ptr 1 0), (20, .slA 0 0 4), (21, sI 1), (22, sI 2)] 56 0, fellB⟩
noncomputable def ckB : Code := hB (ckEn 3) [] fCheck [fellR]
noncomputable def ckK : List Fr := hK (ckEn 3) [] fCheck [fellR]
def ckS (r : RV) : List SE := [.int 2 r, .int 0 (sI 0), .int 1 (sI 1), .lst 0 0]
set_option maxRecDepth 100000 in
theorem ck_enter : enterT (ckEn 3) [] fCheck [fellR] (ckS (lI 0)) [0, 1] (ckP ()) = true := by kernel_rfl
set_option maxRecDepth 100000 in
theorem ck_bad0 : (allU 3 fun c => doneQ (ckEn c) [] fCheck [fellR] [] [] (lI 40) []) = true := by kernel_rfl
set_option maxRecDepth 100000 in
theorem ck_again : againT (ckTb 7) [] ckB ckK (ckP ()) (ckS (sI 7)) [0, 1] (ckP ()) = true := by kernel_rfl
set_option maxRecDepth 100000 in
theorem ck_bad : (allU 7 fun c => outF (ckTb c) [] fCheck ckB ckK (ckP ()) (lI 40)) = true := by kernel_rfl
set_option maxRecDepth 100000 in
theorem ck_out : outF hEnd [] fCheck ckB ckK (ckP ()) (lI 0) = true := by kernel_rfl
/-! Valid. -/
noncomputable def vaP (_ : Unit) : St := ⟨patW [(1, .ptr 1 0), (3, sI 2)] 68 0, fellB⟩
noncomputable def vaB : Code := hB (ckEn 3) [] fValid [fellR]
noncomputable def vaK : List Fr := hK (ckEn 3) [] fValid [fellR]
set_option maxRecDepth 100000 in
theorem va_enter : enterT (ckEn 3) [] fValid [fellR] (ckS (lI 0)) [0, 1] (vaP ()) = true := by kernel_rfl
set_option maxRecDepth 100000 in
theorem va_bad0 : (allU 3 fun c => doneQ (ckEn c) [] fValid [fellR] [] [] (bR false) []) = true := by kernel_rfl
set_option maxRecDepth 100000 in
theorem va_again : againT (ckTb 7) [] vaB vaK (vaP ()) (ckS (sI 7)) [0, 1] (vaP ()) = true := by kernel_rfl
set_option maxRecDepth 100000 in
theorem va_bad : (allU 7 fun c => outF (ckTb c) [] fValid vaB vaK (vaP ()) (bR false)) = true := by kernel_rfl
set_option maxRecDepth 100000 in
theorem va_out : outF hEnd [] fValid vaB vaK (vaP ()) (bR true) = true := by kernel_rfl
end Go.Proofs.Z

namespace Go.Proofs.Z
open Go Go.RowKit Go.Proofs Go.Ri Go.Proofs.Z.Fa
/-! Check and Valid: contracts. -/
/-- The names at gate k. -/
def gnm (G : Int) (l : List Value) (n k : Nat) (x : Nat → Int) (y : Nat → Bool) (z : Nat → List Value) : Nm :=
  ⟨fun i => if i = 0 then G else if i = 1 then (n : Int) else if i = 2 then (k : Int) else if i = 3 then gtA l k else if i = 4 then gtB l k else if i = 5 then gtF l k else if i = 6 then gtT l k else if i = 7 then (k : Int) + 1 else x i, y, fun _ => ⟨#[]⟩, fun i => if i = 0 then l else z i⟩
def nx : Nat → Int := fun _ => 0
def ny : Nat → Bool := fun _ => false
def nz : Nat → List Value := fun _ => []
section
variable {G : Int} {l : List Value} {n : Nat} (x : Nat → Int) (y : Nat → Bool) (z : Nat → List Value)
theorem hLL_ok (hn : l.length = n * 4) (k : Nat) (W : Nat → Value) : ∀ e, e ∈ hLL → @LLTrue ((gnm G l n k x y z).val W) e :=
  fa ⟨rfl, n, Nat.succ_pos 3, hn, rfl⟩ fz
theorem hT_ok {k : Nat} (hk : k ≤ 1000000000) (W : Nat → Value) {b : Bool} (hb : decide (k < n) = b) : ∀ e, e ∈ hT b → @TETrue ((gnm G l n k x y z).val W) e :=
  letI : Val := (gnm G l n k x y z).val W
  fa (f_lss (k := .i64) (m := (k : Int)) (n := (n : Int)) rfl rfl (by rw [← hb]; exact decide_eq_decide.2 (by omega))) (fa ⟨rfl, .i64, .i64, (k : Int), (n : Int), rfl, rfl, by
    show Value.bool b = _
    rw [← hb]
    congr 1
    exact decide_eq_decide.2 (by omega)⟩ (fa (f_add1 (m := (k : Int)) rfl rfl rfl (by omega) (by omega)) fz))
theorem hLX_ok (hl : ints l) (hn : l.length = n * 4) {k : Nat} (hk : k < n) (W : Nat → Value) : ∀ e, e ∈ hLX true → @LXTrue ((gnm G l n k x y z).val W) e := by
  have h4 : k * 4 + 4 ≤ l.length := by omega
  refine fa ⟨rfl, ?_, ?_⟩ fz
  · show ((k : Int)).toNat * 4 + 4 ≤ l.length
    rw [Int.toNat_natCast]
    exact h4
  · show (l.drop (((k : Int)).toNat * 4)).take 4 = _
    rw [Int.toNat_natCast, row4 hl k h4]
    rfl
theorem gf_ok (k : Nat) (W : Nat → Value) (i : Nat) (p : Bool) (hp : gTest G (gtA l k) (gtB l k) (gtF l k) (gtT l k) i = p) : ∀ e, e ∈ gf i p → @TETrue ((gnm G l n k x y z).val W) e := by
  letI : Val := (gnm G l n k x y z).val W
  have nd : ∀ a b : Int, decide (a < b) = !decide (b ≤ a) := fun a b => by by_cases h : a < b <;> simp [h] <;> omega
  have ng : ∀ a b : Int, decide (a ≥ b) = !decide (a < b) := fun a b => by by_cases h : a ≥ b <;> simp [h] <;> omega
  subst hp
  by_cases h0 : i = 0
  · subst h0
    exact fa (f_lss (k := .i64) (m := gtA l k) (n := 0) rfl rfl (nd _ _)) fz
  by_cases h1 : i = 1
  · subst h1
    exact fa (f_geq (k := .i64) (m := gtA l k) (n := gtB l k) rfl rfl (ng _ _)) fz
  by_cases h2 : i = 2
  · subst h2
    exact fa (f_geq (k := .i64) (m := gtB l k) (n := G) rfl rfl (ng _ _)) fz
  by_cases h3 : i = 3
  · subst h3
    exact fa (f_geq (k := .i64) (m := gtF l k) (n := 0) rfl rfl rfl) (fa (f_lss (k := .i64) (m := gtF l k) (n := 0) rfl rfl (nd _ _)) fz)
  by_cases h4 : i = 4
  · subst h4
    exact fa (f_lss (k := .i64) (m := gtF l k) (n := 360) rfl rfl rfl) (fa (f_geq (k := .i64) (m := gtF l k) (n := 360) rfl rfl (ng _ _)) fz)
  by_cases h5 : i = 5
  · subst h5
    exact fa (f_geq (k := .i64) (m := gtT l k) (n := 0) rfl rfl rfl) (fa (f_lss (k := .i64) (m := gtT l k) (n := 0) rfl rfl (nd _ _)) fz)
  unfold gf gTest
  rw [if_neg h0, if_neg h1, if_neg h2, if_neg h3, if_neg h4, if_neg h5, if_neg h0, if_neg h1, if_neg h2, if_neg h3, if_neg h4, if_neg h5]
  exact fa (f_lss (k := .i64) (m := gtT l k) (n := 360) rfl rfl rfl) (fa (f_geq (k := .i64) (m := gtT l k) (n := 360) rfl rfl (ng _ _)) fz)
theorem gfN_ok (k : Nat) (W : Nat → Value) (c : Nat) : ∀ j, (∀ i, i < c → i < j → gTest G (gtA l k) (gtB l k) (gtF l k) (gtT l k) i = true) → (c < j → gTest G (gtA l k) (gtB l k) (gtF l k) (gtT l k) c = false) → ∀ e, e ∈ gfN c j → @TETrue ((gnm G l n k x y z).val W) e
  | 0, _, _ => fz
  | j + 1, h1, h2 => by
    unfold gfN
    refine fapp (gfN_ok k W c j (fun i hi hj => h1 i hi (by omega)) (fun h => h2 (by omega))) ?_
    split
    · rename_i hj
      exact gf_ok x y z k W j true (h1 j hj (by omega))
    · split
      · rename_i hj
        subst hj
        exact gf_ok x y z k W j false (h2 (by omega))
      · exact fz
theorem gfN_cls (k : Nat) (W : Nat → Value) : ∀ e, e ∈ gfN (gCls G (gtA l k) (gtB l k) (gtF l k) (gtT l k)) 7 → @TETrue ((gnm G l n k x y z).val W) e :=
  gfN_ok x y z k W _ 7 (fun i hi _ => firstBad_pass _ 7 0 i (Nat.zero_le _) hi) (fun h => firstBad_fail _ 7 0 h)
def eTest (G : Int) (n : Nat) (i : Nat) : Bool := if i = 0 then decide (1 ≤ G) else if i = 1 then decide (G ≤ 16) else decide (n ≤ 32)
theorem ckE_ok (k : Nat) (W : Nat → Value) (i : Nat) (p : Bool) (hp : eTest G n i = p) : ∀ e, e ∈ ckE i p → @TETrue ((gnm G l n k x y z).val W) e := by
  letI : Val := (gnm G l n k x y z).val W
  subst hp
  by_cases h0 : i = 0
  · subst h0
    refine fa (f_lss (k := .i64) (m := G) (n := 1) rfl rfl ?_) fz
    show decide (G < 1) = !decide (1 ≤ G)
    by_cases h : G < 1 <;> simp [h] <;> omega
  by_cases h1 : i = 1
  · subst h1
    refine fa (f_gtr (k := .i64) (m := G) (n := 16) rfl rfl ?_) fz
    show decide (G > 16) = !decide (G ≤ 16)
    by_cases h : G > 16 <;> simp [h] <;> omega
  unfold ckE eTest
  rw [if_neg h0, if_neg h1, if_neg h0, if_neg h1]
  refine fa (f_gtr (k := .i64) (m := (n : Int)) (n := 32) rfl rfl ?_) fz
  by_cases h : (n : Int) > 32 <;> simp [h] <;> omega
theorem ckN_ok (k : Nat) (W : Nat → Value) (c : Nat) : ∀ j, (∀ i, i < c → i < j → eTest G n i = true) → (c < j → eTest G n c = false) → ∀ e, e ∈ ckN c j → @TETrue ((gnm G l n k x y z).val W) e
  | 0, _, _ => fz
  | j + 1, h1, h2 => by
    unfold ckN
    refine fapp (ckN_ok k W c j (fun i hi hj => h1 i hi (by omega)) (fun h => h2 (by omega))) ?_
    split
    · rename_i hj
      exact ckE_ok x y z k W j true (h1 j hj (by omega))
    · split
      · rename_i hj
        subst hj
        exact ckE_ok x y z k W j false (h2 (by omega))
      · exact fz
def eCls (G : Int) (n : Nat) : Nat := firstBad (eTest G n) 3 0
theorem ckEn_ok (hn : l.length = n * 4) (k : Nat) (W : Nat → Value) : @TbOK ((gnm G l n k x y z).val W) (ckEn (eCls G n)) :=
  letI : Val := (gnm G l n k x y z).val W
  { T := ckN_ok x y z k W _ 3 (fun i hi _ => firstBad_pass _ 3 0 i (Nat.zero_le _) hi) (fun h => firstBad_fail _ 3 0 h), LL := hLL_ok x y z hn k W }
theorem eCls_iff : eCls G n = 3 ↔ 1 ≤ G ∧ G ≤ 16 ∧ n ≤ 32 := by
  constructor
  · intro h
    have p := fun j hj => firstBad_pass (eTest G n) 3 0 j (Nat.zero_le _) (show j < eCls G n by rw [h]; exact hj)
    have p0 := p 0 (by omega); have p1 := p 1 (by omega); have p2 := p 2 (by omega)
    simp [eTest] at p0 p1 p2
    exact ⟨p0, p1, p2⟩
  · rintro ⟨h0, h1, h2⟩
    simp [eCls, firstBad, eTest, h0, h1, h2]
theorem ckS_ok (k : Nat) (W W' : Nat → Value) : ∀ e, e ∈ ckS (sI 7) → okSE ((gnm G l n k x y z).val W) ((gnm G l n (k + 1) x y z).val W') e :=
  fa ⟨.i64, (k : Int) + 1, rfl, rfl⟩ (fa ⟨.i64, G, rfl, rfl⟩ (fa ⟨.i64, (n : Int), rfl, rfl⟩ (fa rfl fz)))
theorem ckS0_ok (k : Nat) (W W' : Nat → Value) : ∀ e, e ∈ ckS (lI 0) → okSE ((gnm G l n k x y z).val W) ((gnm G l n 0 x y z).val W') e :=
  fa ⟨.i64, 0, rfl, rfl⟩ (fa ⟨.i64, G, rfl, rfl⟩ (fa ⟨.i64, (n : Int), rfl, rfl⟩ (fa rfl fz)))
end
/-- A fell's value in a world. -/
theorem fell_nval {V V' : Val} {w : World} {vs : List Value} (h0 : V.I 0 = V'.I 0) (hi : V.L 0 = V'.L 0) (h : All2 (@Go.Ri.NVal V w) [fellR] vs) : All2 (@Go.Ri.NVal V' w) [fellR] vs := by
  cases h with
  | cons h1 h2 =>
    cases h2
    obtain ⟨us, e, h3⟩ := h1
    refine .cons ⟨us, e, ?_⟩ .nil
    generalize us.toList = ul at h3
    cases h3 with
    | cons g1 g2 => cases g2 with
      | cons g2 g3 =>
        cases g3
        have g1 : _ = Value.int .i64 (V.I 0) := g1
        obtain ⟨a, m, cap, k1, k2, k3, k4, k5, k6⟩ := g2
        rw [hi] at k2 k4 k6
        refine .cons ?_ (.cons ⟨a, m, cap, k1, k2, k3, k4, k5, k6⟩ .nil)
        rw [g1, h0]
        rfl
section
variable (V : Val) {G : Int} {l : List Value} {n : Nat}
theorem check_ans (hG : V.I 0 = G) (hL : V.L 0 = l) (hl : ints l) (hn : l.length = n * 4) : @AnsN V fCheck [fellR] (.int .i64 (errM G l n)) := by
  intro w hr vs hv
  have hv := fell_nval (V' := (gnm G l n 0 nx ny nz).val fun _ => undef) hG hL hv
  have hcl := firstBad_le (eTest G n) 3 0
  by_cases hc : eCls G n = 3
  · have ht := ckEn_ok (G := G) (l := l) nx ny nz hn 0 fun _ => undef
    rw [hc] at ht
    refine scan fCheck [fellR] (ckEn 3) [] (ckP ()) (ckS (lI 0)) (ckS (sI 7)) [0, 1] [0, 1] (gnm G l n 0 nx ny nz) (fun _ => undef) (fun k => gnm G l n k nx ny nz) n _ (fun k => okL G l k = true) ck_enter ht (fun W' => ckS0_ok nx ny nz 0 _ W') rfl ?_ w hr vs hv
    intro k hk hi W
    have hb := (eCls_iff.1 hc).2.2
    letI : Val := (gnm G l n k nx ny nz).val W
    rcases Nat.lt_or_ge k n with hlt | hge
    · have tb : TbOK (ckTb (gCls G (gtA l k) (gtB l k) (gtF l k) (gtT l k))) := { T := fapp (hT_ok nx ny nz (by omega) W (by simp [hlt])) (gfN_cls nx ny nz k W), LL := hLL_ok nx ny nz hn k W, LX := hLX_ok nx ny nz hl hn hlt W }
      by_cases h7 : gCls G (gtA l k) (gtB l k) (gtF l k) (gtT l k) = 7
      · rw [h7] at tb
        refine .inr ⟨hlt, ?_, ckTb 7, tb, ck_again, fun W' => ckS_ok nx ny nz k W W'⟩
        show (okL G l k && gokL G l k) = true
        rw [hi]
        simp [gokL, gOk, h7]
      · have hle := firstBad_le (gTest G (gtA l k) (gtB l k) (gtF l k) (gtT l k)) 7 0
        refine .inl ⟨_, lI 40, tb, allU_lt ck_bad _ (show gCls G (gtA l k) (gtB l k) (gtF l k) (gtT l k) < 7 by unfold gCls at h7 ⊢; omega), ?_⟩
        show Value.int .i64 40 = _
        unfold errM
        rw [if_neg]
        intro hv
        have := okL_at ((validM_iff _ _ _).1 hv).2.2.2 hlt
        simp [gokL, gOk, h7] at this
    · obtain rfl : k = n := by omega
      refine .inl ⟨hEnd, lI 0, { T := hT_ok nx ny nz (by omega) W (by simp), LL := hLL_ok nx ny nz hn k W }, ck_out, ?_⟩
      show Value.int .i64 0 = _
      unfold errM
      rw [if_pos]
      exact (validM_iff _ _ _).2 ⟨(eCls_iff.1 hc).1, (eCls_iff.1 hc).2.1, hb, hi⟩
  · refine done_flat _ (ckEn_ok (G := G) (l := l) nx ny nz hn 0 fun _ => undef) (allU_lt ck_bad0 _ (show eCls G n < 3 by unfold eCls at hc ⊢; omega)) rfl rfl ?_ w hr vs hv
    show Value.int .i64 40 = _
    unfold errM
    rw [if_neg]
    intro hv
    have h := (validM_iff _ _ _).1 hv
    exact hc (eCls_iff.2 ⟨h.1, h.2.1, h.2.2.1⟩)
theorem valid_ans (hG : V.I 0 = G) (hL : V.L 0 = l) (hl : ints l) (hn : l.length = n * 4) : @AnsN V fValid [fellR] (.bool (validM G l n)) := by
  intro w hr vs hv
  have hv := fell_nval (V' := (gnm G l n 0 nx ny nz).val fun _ => undef) hG hL hv
  have hcl := firstBad_le (eTest G n) 3 0
  by_cases hc : eCls G n = 3
  · have ht := ckEn_ok (G := G) (l := l) nx ny nz hn 0 fun _ => undef
    rw [hc] at ht
    refine scan fValid [fellR] (ckEn 3) [] (vaP ()) (ckS (lI 0)) (ckS (sI 7)) [0, 1] [0, 1] (gnm G l n 0 nx ny nz) (fun _ => undef) (fun k => gnm G l n k nx ny nz) n _ (fun k => okL G l k = true) va_enter ht (fun W' => ckS0_ok nx ny nz 0 _ W') rfl ?_ w hr vs hv
    intro k hk hi W
    have hb := (eCls_iff.1 hc).2.2
    letI : Val := (gnm G l n k nx ny nz).val W
    rcases Nat.lt_or_ge k n with hlt | hge
    · have tb : TbOK (ckTb (gCls G (gtA l k) (gtB l k) (gtF l k) (gtT l k))) := { T := fapp (hT_ok nx ny nz (by omega) W (by simp [hlt])) (gfN_cls nx ny nz k W), LL := hLL_ok nx ny nz hn k W, LX := hLX_ok nx ny nz hl hn hlt W }
      by_cases h7 : gCls G (gtA l k) (gtB l k) (gtF l k) (gtT l k) = 7
      · rw [h7] at tb
        refine .inr ⟨hlt, ?_, ckTb 7, tb, va_again, fun W' => ckS_ok nx ny nz k W W'⟩
        show (okL G l k && gokL G l k) = true
        rw [hi]
        simp [gokL, gOk, h7]
      · have hle := firstBad_le (gTest G (gtA l k) (gtB l k) (gtF l k) (gtT l k)) 7 0
        refine .inl ⟨_, bR false, tb, allU_lt va_bad _ (show gCls G (gtA l k) (gtB l k) (gtF l k) (gtT l k) < 7 by unfold gCls at h7 ⊢; omega), ?_⟩
        show Value.bool false = _
        congr 1
        symm
        rw [Bool.eq_false_iff]
        intro hv
        have := okL_at ((validM_iff _ _ _).1 hv).2.2.2 hlt
        simp [gokL, gOk, h7] at this
    · obtain rfl : k = n := by omega
      refine .inl ⟨hEnd, bR true, { T := hT_ok nx ny nz (by omega) W (by simp), LL := hLL_ok nx ny nz hn k W }, va_out, ?_⟩
      show Value.bool true = _
      congr 1
      symm
      exact (validM_iff _ _ _).2 ⟨(eCls_iff.1 hc).1, (eCls_iff.1 hc).2.1, hb, hi⟩
  · refine done_flat _ (ckEn_ok (G := G) (l := l) nx ny nz hn 0 fun _ => undef) (allU_lt va_bad0 _ (show eCls G n < 3 by unfold eCls at hc ⊢; omega)) rfl rfl ?_ w hr vs hv
    show Value.bool false = _
    congr 1
    symm
    rw [Bool.eq_false_iff]
    intro hv
    have h := (validM_iff _ _ _).1 hv
    exact hc (eCls_iff.2 ⟨h.1, h.2.1, h.2.2.1⟩)
end
end Go.Proofs.Z
