/- A part of the proofs that the laws of layer one answer true for every input. -/
import Derived.Test.YtedbdpaioikhgaaGreatDoorZWdC
import Derived.Test.YtedbdpaioikhgaaGreatDoorZRFeat
import Derived.Test.YtedbdpaioikhgaaGreatDoorZTkL
import Derived.Lib.Join
import Derived.Test.YtedbdpaioikhgaaGreatDoorZJnLay
namespace Go.Proofs.Z.Wd
open Go Go.RowKit Go.Proofs Go.Ri Go.Proofs.Z
open Go.Proofs.Z.Sp (fPhrase fRPhrase fWords fRWords fJoin)
open Go.Proofs.Z.Ps (wordsA wordsC wordsS wordsH vc nt)
open Go.Proofs.Z.Fa
/-! Words: the model, and the facts of its runs. -/
def fps (s : Nat → Int) : Nat → List (Nat × Nat)
  | 0 => []
  | k + 1 => fps s k ++ if s k = 0 then [] else [(k, (s k).toNat)]
def ftV (q : Nat × Nat) : List Value := featC q.1 (q.2 : Int)
theorem featL_fps (s : Nat → Int) : ∀ k, (∀ p, p < k → 0 ≤ s p) → featL s k = (fps s k).flatMap ftV
  | 0, _ => rfl
  | k + 1, h => by
    have h0 := h k (by omega)
    show featL s k ++ (if s k = 0 then [] else featC k (s k)) = (fps s k ++ if s k = 0 then [] else [(k, (s k).toNat)]).flatMap ftV
    rw [featL_fps s k fun p hp => h p (by omega), List.flatMap_append]
    by_cases hz : s k = 0
    · rw [if_pos hz, if_pos hz]
      rfl
    · rw [if_neg hz, if_neg hz]
      simp only [List.flatMap_cons, List.flatMap_nil, List.append_nil]
      show _ ++ featC k (s k) = _ ++ featC k (((s k).toNat : Nat) : Int)
      rw [Int.toNat_of_nonneg h0]
theorem fps_len (s : Nat → Int) : ∀ k, (fps s k).length ≤ k
  | 0 => Nat.le_refl _
  | k + 1 => by
    have := fps_len s k
    show (fps s k ++ _).length ≤ _
    rw [List.length_append]
    split
    · simp; omega
    · simp; omega
def okF (q : Nat × Nat) : Prop := q.1 < 12 ∧ 1 ≤ q.2 ∧ q.2 < vc q.1
theorem fps_ok (s : Nat → Int) (h : ∀ p, p < 12 → 0 ≤ s p ∧ s p < (vc p : Int)) : ∀ k, k ≤ 12 → ∀ q, q ∈ fps s k → okF q
  | 0, _, q, hq => by cases hq
  | k + 1, hk, q, hq => by
    rcases List.mem_append.1 hq with hq | hq
    · exact fps_ok s h k (by omega) q hq
    · split at hq
      · cases hq
      · simp only [List.mem_cons, List.not_mem_nil, or_false] at hq
        subst hq
        have := h k (by omega)
        exact ⟨by show k < 12; omega, by show 1 ≤ (s k).toNat; omega, by show (s k).toNat < vc k; omega⟩
theorem vc_ln (p : Nat) : ln p = vc p := by
  unfold ln lett vc
  split
  · rfl
  · split <;> rfl
theorem ph_short (q : Nat × Nat) (h : okF q) : (phB q.1 q.2).length ≤ 20 := by
  obtain ⟨p, v⟩ := q
  obtain ⟨h1, h2, h3⟩ := h
  have hv := Ps.vc5' h3
  have : ∀ p, p < 12 → ∀ v, v < 5 → (phB p v).length ≤ 20 := by decide
  exact this p h1 v hv
/-- The phrases, one behind the other. -/
def jn : List (List UInt8) → List UInt8
  | [] => []
  | x :: r => x ++ r.flatMap fun y => commaB ++ y
theorem jn_snoc (l : List (List UInt8)) (y : List UInt8) (h : l ≠ []) : jn (l ++ [y]) = jn l ++ commaB ++ y := by
  cases l with
  | nil => exact absurd rfl h
  | cons x r =>
    show x ++ (r ++ [y]).flatMap _ = (x ++ r.flatMap _) ++ commaB ++ y
    rw [List.flatMap_append]
    simp
theorem jn_join (l : List (List UInt8)) : Lib.join l commaB = jn l := by
  cases l with
  | nil => rfl
  | cons x r =>
    rw [Lib.join_cons]
    show x ++ (r.map (commaB ++ ·)).flatten = x ++ r.flatMap _
    rw [List.flatMap_def]
theorem jn_len (l : List (List UInt8)) (h : ∀ x, x ∈ l → x.length ≤ 20) : (jn l).length ≤ 22 * l.length := by
  have key : ∀ r : List (List UInt8), (∀ x, x ∈ r → x.length ≤ 20) → (r.flatMap fun y => commaB ++ y).length ≤ 22 * r.length := by
    intro r
    induction r with
    | nil => intro _; exact Nat.le_refl _
    | cons y r ih =>
      intro h
      have h1 := h y List.mem_cons_self
      have h2 := ih fun x hx => h x (List.mem_cons_of_mem _ hx)
      rw [List.flatMap_cons, List.length_append, List.length_append, List.length_cons]
      have : commaB.length = 2 := rfl
      omega
  cases l with
  | nil => exact Nat.le_refl _
  | cons x r =>
    have h1 := h x List.mem_cons_self
    have h2 := key r fun y hy => h y (List.mem_cons_of_mem _ hy)
    show (x ++ r.flatMap _).length ≤ _
    rw [List.length_append, List.length_cons]
    omega
/-- What Words answers. -/
def wordsB (L : List (Nat × Nat)) : List UInt8 := if L = [] then wholeB else jn (L.map fun q => phB q.1 q.2)
def phA (L : List (Nat × Nat)) : List (List UInt8) := L.map fun q => phB q.1 q.2
def acB (L : List (Nat × Nat)) (j : Nat) : List UInt8 := jn ((phA L).take (j + 1))
def intOf' : Value → Int
  | .int _ a => a
  | _ => 0
def wnm (x : Nat → Int) (y : Nat → Bool) (L : List (Nat × Nat)) : Nm where
  I := fun j => if j < 100 then x j else intOf' ((ftV (L.getD ((j - 100) / 4) (0, 0))).getD ((j - 100) % 4) undef)
  B := y
  S := fun j => if j = 1 then ⟨(jn (phA L)).toArray⟩ else if j < 30 then ⟨((phA L).getD (j - 10) []).toArray⟩ else if j < 50 then ⟨(acB L (j - 30)).toArray⟩ else ⟨(acB L (j - 51) ++ commaB).toArray⟩
  L := fun _ => L.flatMap ftV
theorem ftV_int (q : Nat × Nat) : ftV q = [.int .i64 (intOf' ((ftV q).getD 0 undef)), .int .i64 (intOf' ((ftV q).getD 1 undef)), .int .i64 (intOf' ((ftV q).getD 2 undef)), .int .i64 (intOf' ((ftV q).getD 3 undef))] := by
  unfold ftV featC
  split
  · rfl
  · split
    · rfl
    · split <;> rfl
section
variable (x : Nat → Int) (y : Nat → Bool) (L : List (Nat × Nat)) (W : Nat → Value)
theorem el4_cv (j : Nat) : (el4 j).map (@cv ((wnm x y L).val W)) = ftV (L.getD j (0, 0)) := by
  have h : ∀ c, c < 4 → (wnm x y L).I (100 + 4 * j + c) = intOf' ((ftV (L.getD j (0, 0))).getD c undef) := fun c hc => by
    show (if 100 + 4 * j + c < 100 then _ else intOf' ((ftV (L.getD ((100 + 4 * j + c - 100) / 4) (0, 0))).getD ((100 + 4 * j + c - 100) % 4) undef)) = _
    rw [if_neg (by omega), show (100 + 4 * j + c - 100) / 4 = j by omega, show (100 + 4 * j + c - 100) % 4 = c by omega]
  rw [ftV_int]
  show [Value.int .i64 ((wnm x y L).I (100 + 4 * j)), .int .i64 ((wnm x y L).I (101 + 4 * j)), .int .i64 ((wnm x y L).I (102 + 4 * j)), .int .i64 ((wnm x y L).I (103 + 4 * j))] = _
  rw [← h 0 (by omega), ← h 1 (by omega), ← h 2 (by omega), ← h 3 (by omega), show 101 + 4 * j = 100 + 4 * j + 1 by omega, show 102 + 4 * j = 100 + 4 * j + 2 by omega, show 103 + 4 * j = 100 + 4 * j + 3 by omega]
  rfl
theorem ftN_cv : ∀ n, n ≤ L.length → (ftN n).map (@cv ((wnm x y L).val W)) = (L.take n).flatMap ftV
  | 0, _ => rfl
  | n + 1, h => by
    show (ftN n ++ el4 n).map _ = _
    rw [List.map_append, ftN_cv n (by omega), el4_cv, List.take_succ_eq_append_getElem (by omega), List.flatMap_append]
    simp [List.getD_eq_getElem?_getD, List.getElem?_eq_getElem (show n < L.length by omega)]
theorem w_ph (j : Nat) (h : j < 20) : (wnm x y L).S (10 + j) = ⟨((phA L).getD j []).toArray⟩ := by
  show (if 10 + j = 1 then _ else if 10 + j < 30 then (⟨((phA L).getD (10 + j - 10) []).toArray⟩ : ByteArray) else _) = _
  rw [if_neg (by omega), if_pos (by omega), Nat.add_sub_cancel_left]
theorem w_ac (j : Nat) (hj : j < L.length) (h : j < 19) : @cv ((wnm x y L).val W) (acN j) = .string ⟨(acB L j).toArray⟩ := by
  cases j with
  | zero =>
    refine congrArg Value.string ((w_ph x y L 0 (by omega)).trans ?_)
    cases L with
    | nil => cases hj
    | cons q r =>
      show (⟨(phB q.1 q.2).toArray⟩ : ByteArray) = ⟨(jn [phB q.1 q.2]).toArray⟩
      unfold jn
      simp
  | succ j =>
    refine congrArg Value.string ?_
    show (if 31 + j = 1 then _ else if 31 + j < 30 then _ else if 31 + j < 50 then (⟨(acB L (31 + j - 30)).toArray⟩ : ByteArray) else _) = _
    rw [if_neg (by omega), if_neg (by omega), if_pos (by omega), show 31 + j - 30 = j + 1 by omega]
theorem w_ac2 (n : Nat) : (wnm x y L).S (51 + n) = ⟨(acB L n ++ commaB).toArray⟩ := by
  show (if 51 + n = 1 then _ else if 51 + n < 30 then _ else if 51 + n < 50 then _ else (⟨(acB L (51 + n - 51) ++ commaB).toArray⟩ : ByteArray)) = _
  rw [if_neg (by omega), if_neg (by omega), if_neg (by omega), Nat.add_sub_cancel_left]
theorem ba_app (a b : List UInt8) : (⟨a.toArray⟩ : ByteArray) ++ ⟨b.toArray⟩ = ⟨(a ++ b).toArray⟩ := by
  apply ByteArray.ext
  simp
theorem phA_len : (phA L).length = L.length := by unfold phA; rw [List.length_map]
theorem phA_short (hL : ∀ q, q ∈ L → okF q) : ∀ z, z ∈ phA L → z.length ≤ 20 := fun z hz => by
  obtain ⟨q, hq, rfl⟩ := List.mem_map.1 hz
  exact ph_short q (hL q hq)
theorem acB_len (hL : ∀ q, q ∈ L → okF q) (j : Nat) : (acB L j).length ≤ 22 * L.length := by
  have h := jn_len ((phA L).take (j + 1)) fun z hz => phA_short L hL z (List.mem_of_mem_take hz)
  have h2 : ((phA L).take (j + 1)).length ≤ L.length := by rw [List.length_take, phA_len]; omega
  unfold acB
  omega
theorem acB_next (n : Nat) (h : n + 1 < L.length) : acB L (n + 1) = acB L n ++ commaB ++ (phA L).getD (n + 1) [] := by
  unfold acB
  rw [List.take_succ_eq_append_getElem (by rw [phA_len]; omega)]
  rw [jn_snoc _ _ (by
    intro e
    have := congrArg List.length e
    rw [List.length_take, phA_len, List.length_nil] at this
    omega)]
  congr 1
  rw [List.getD_eq_getElem?_getD, List.getElem?_eq_getElem (by rw [phA_len]; omega)]
  rfl
theorem acT_ok (hL : ∀ q, q ∈ L → okF q) (h12 : L.length ≤ 12) : ∀ n, n ≤ L.length → ∀ q, q ∈ acT n → @TETrue ((wnm x y L).val W) q
  | 0, _, q, hq => by cases hq
  | 1, _, q, hq => by cases hq
  | n + 2, h, q, hq => by
    letI : Val := (wnm x y L).val W
    rcases List.mem_append.1 hq with hq | hq
    · exact acT_ok hL h12 (n + 1) (by omega) q hq
    · have l1 := acB_len L hL n
      have hcl : (⟨commaB.toArray⟩ : ByteArray).size = 2 := rfl
      simp only [List.mem_cons, List.not_mem_nil, or_false] at hq
      rcases hq with rfl | rfl
      · refine f_sadd (x := ⟨(acB L n).toArray⟩) (y := ⟨commaB.toArray⟩) (w_ac x y L W n (by omega) (by omega)) rfl ?_ rfl ?_
        · rw [ba_app]
          exact congrArg Value.string (w_ac2 x y L n)
        · rw [hcl]
          show (acB L n).toArray.size + 2 ≤ _
          rw [List.size_toArray]
          omega
      · have l2 : ((phA L).getD (n + 1) []).length ≤ 20 := by
          rw [List.getD_eq_getElem?_getD, List.getElem?_eq_getElem (by rw [phA_len]; omega)]
          exact phA_short L hL _ (List.getElem_mem _)
        refine f_sadd (x := ⟨(acB L n ++ commaB).toArray⟩) (y := ⟨((phA L).getD (n + 1) []).toArray⟩) (congrArg Value.string (w_ac2 x y L n)) (by
          have := w_ph x y L (n + 1) (by omega)
          rw [show 10 + (n + 1) = 11 + n by omega] at this
          exact congrArg Value.string this) ?_ (by cases n <;> rfl) ?_
        · rw [ba_app, ← acB_next L n (by omega)]
          exact w_ac x y L W (n + 1) (by omega) (by omega)
        · show (acB L n ++ commaB).toArray.size + ((phA L).getD (n + 1) []).toArray.size ≤ _
          rw [List.size_toArray, List.size_toArray, List.length_append]
          have : commaB.length = 2 := rfl
          omega
theorem ftL_cv (V : Val) (p v : Nat) : (ftL p v).map (@cv V) = featC p (v : Int) := by
  unfold ftL featC
  split
  · rfl
  · split
    · rfl
    · split <;> rfl
/-- A phrase's contract. -/
theorem ph_one (f : FuncId) (hrun : (allU 12 fun p => allU 5 fun v => phRun f p v) = true) (q : Nat × Nat) (h : okF q) : Ans f [.agg (ftV q).toArray] (.string ⟨(phB q.1 q.2).toArray⟩) := by
  obtain ⟨p, v⟩ := q
  obtain ⟨h1, h2, h3⟩ := h
  have hr := allU_lt (allU_lt hrun p h1) v (Ps.vc5' h3)
  have hr := Ps.wT p v _ h2 h3 _ hr
  have h := @ans (VE (fun _ => 0) fun _ => false) noX [] [] noX_true (by intro e he; cases he) (by intro e he; cases he) _ _ _ _ _ hr
  have e : (@cvF (VE (fun _ => 0) fun _ => false) (.agg (ftL p v))) = .agg (ftV (p, v)).toArray := by
    show Value.agg ((ftL p v).map (@cv (VE (fun _ => 0) fun _ => false))).toArray = _
    rw [ftL_cv]
    rfl
  rw [← e]
  exact h
theorem phY_ok (f : FuncId) (hrun : (allU 12 fun p => allU 5 fun v => phRun f p v) = true) (hL : ∀ q, q ∈ L → okF q) (h12 : L.length ≤ 12) : ∀ n, n ≤ L.length → ∀ e, e ∈ phY f n → Ans e.f (e.a.map (@cvF ((wnm x y L).val W))) (@cvF ((wnm x y L).val W) e.r)
  | 0, _, e, he => by cases he
  | n + 1, h, e, he => by
    rcases List.mem_append.1 he with he | he
    · exact phY_ok f hrun hL h12 n (by omega) e he
    · simp only [List.mem_cons, List.not_mem_nil, or_false] at he
      subst he
      have hg : L.getD n (0, 0) = L[n]'(by omega) := by rw [List.getD_eq_getElem?_getD, List.getElem?_eq_getElem (by omega)]; rfl
      have h1 := ph_one f hrun (L[n]'(by omega)) (hL _ (List.getElem_mem _))
      have e1 : (@cvF ((wnm x y L).val W) (.agg (el4 n))) = .agg (ftV (L[n]'(by omega))).toArray := by
        show Value.agg ((el4 n).map _).toArray = _
        rw [el4_cv, hg]
      have e2 : (@cvF ((wnm x y L).val W) (sT (10 + n))) = .string ⟨(phB (L[n]'(by omega)).1 (L[n]'(by omega)).2).toArray⟩ := by
        refine congrArg Value.string ((w_ph x y L n (by omega)).trans ?_)
        rw [List.getD_eq_getElem?_getD, List.getElem?_eq_getElem (by rw [phA_len]; omega)]
        unfold phA
        simp
      show Ans f [@cvF ((wnm x y L).val W) (.agg (el4 n))] (@cvF ((wnm x y L).val W) (sT (10 + n)))
      rw [e1, e2]
      exact h1
/-- Features' answer, told cell by cell. -/
theorem ftQ_ok (f : FuncId) (args : List Value) (n : Nat) (hn : n = L.length) (h : @AnsQ ((wnm x y L).val W) f args (.tup [.slN 0 0 4, lI 0]) [some (.lst 0 74 true)]) : @AnsQ ((wnm x y L).val W) f args (.tup [.sl 0 0 n 4 none, lI 0]) [some (.cells (ftN n) 74 true false)] := by
  letI : Val := (wnm x y L).val W
  intro w hr
  refine (h w hr).mono fun e w' ⟨v, E', he, hv, H⟩ => ⟨v, E', he, ?_, ?_⟩
  · obtain ⟨l', rfl, hl⟩ := hv
    refine ⟨l', rfl, (@VRels_iff ((wnm x y L).val W) ..).2 ?_⟩
    revert hl
    generalize l'.toList = M
    intro hl
    replace hl := (@VRels_iff ((wnm x y L).val W) ..).1 hl
    cases hl with
    | cons g1 hl =>
    cases hl with
    | cons g2 hl =>
    cases hl
    refine .cons ?_ (.cons g2 .nil)
    obtain ⟨p, m, k1, k2, k3, k4, k5⟩ := g1
    have hlen : m = n := by
      have k3 : (L.flatMap ftV).length = m * 4 := k3
      have : ∀ L : List (Nat × Nat), (L.flatMap ftV).length = L.length * 4 := by
        intro L
        induction L with
        | nil => rfl
        | cons q r ih =>
          rw [List.flatMap_cons, List.length_append, ih, List.length_cons]
          have : (ftV q).length = 4 := featC_len _ _
          omega
      rw [this] at k3
      omega
    subst hlen
    exact ⟨p, p.2 / 4, k1, rfl, k4, k5⟩
  · refine ⟨H.below, H.lb, H.len, H.ro, fun b o hb => ?_, fun b b' o o' p p' hb hb' v1 v2 e1 e2 e3 => ?_⟩
    · cases b with
      | zero =>
        cases hb
        obtain ⟨p, hp, g1, cur, fr, g2, g3, g4, g5⟩ := H.blk 0 _ rfl
        have hcv := ftN_cv x y L W n (by omega)
        rw [hn, List.take_length] at hcv
        rw [← hn] at hcv
        have hlen : (ftN n).length = (L.flatMap ftV).length := by rw [← hcv, List.length_map]
        refine ⟨p, hp, g1, cur, fr, g2, g3, ?_, fun h => (by cases h), fun _ => g5 rfl⟩
        have g4 : cur.toList.take (L.flatMap ftV).length = L.flatMap ftV := g4
        rw [hlen, g4, ← hcv]
        exact @rel_cvs ((wnm x y L).val W) E' (ftN n) (by
          have : ∀ n, (ftN n).all flat0 = true := by
            intro n
            induction n with
            | zero => rfl
            | succ n ih =>
              show (ftN n ++ el4 n).all flat0 = true
              rw [List.all_append, ih]
              rfl
          exact this n)
      | succ b =>
        unfold at? at hb
        simp at hb
    · cases b with
      | zero =>
        cases b' with
        | zero => rfl
        | succ b' =>
          unfold at? at hb'
          simp at hb'
      | succ b =>
        unfold at? at hb
        simp at hb
end
end Go.Proofs.Z.Wd

namespace Go.Proofs.Z.Wd
open Go Go.RowKit Go.Proofs Go.Ri Go.Proofs.Z
open Go.Proofs.Z.Sp (fPhrase fRPhrase fWords fRWords fJoin)
open Go.Proofs.Z.Ps (wordsA wordsC wordsS wordsH vc nt)
open Go.Proofs.Z.Fa
/-! Words of both packages: their contracts. -/
section
variable [Val]
def JETrue (e : JE) : Prop := ∃ xs : List (List UInt8), e.l.map cv = xs.map (fun x => Value.string ⟨x.toArray⟩) ∧ e.l.all flat0 = true ∧ (jn xs).length ≤ 1000000 ∧ xs.length ≤ 1000000 ∧ cv e.r = .string ⟨(jn xs).toArray⟩
omit [Val] in
theorem jlook_mem : ∀ (T : List JE) (cs : List RV) (e : JE), jlook T cs = some e → e ∈ T ∧ e.l = cs
  | [], _, _, h => by cases h
  | q :: T, cs, e, h => by
    have h : (match eqSs q.l cs with | true => some q | false => jlook T cs) = some e := h
    split at h
    · rename_i h1
      cases h
      exact ⟨List.mem_cons_self, eqSs_eq _ _ h1⟩
    · obtain ⟨h1, h2⟩ := jlook_mem T cs e h
      exact ⟨List.mem_cons_of_mem _ h1, h2⟩
theorem joinU_ok (T : List JE) (hT : ∀ e, e ∈ T → JETrue e) : UOK (joinU T) := by
  intro f args h r h' hu base w0 E w vs H ha
  unfold joinU at hu
  split at hu
  case h_2 => cases hu
  rename_i b n c sep hf
  split at hu
  case h_2 => cases hu
  rename_i l e1 e2 e3 hsep hl
  split at hu
  case h_2 => cases hu
  rename_i q hq
  split at hu
  case h_2 => cases hu
  rename_i hfl
  cases hu
  simp only [Bool.and_eq_true] at hfl
  obtain ⟨f1, f2⟩ := hfl
  obtain rfl := Nat.eq_of_beq_eq_true hf
  obtain ⟨hmem, hql⟩ := jlook_mem T _ q hq
  have hn := Nat.eq_of_beq_eq_true f2
  obtain ⟨xs, g1, g2, g3, g4, g5⟩ := hT q hmem
  rw [lkp_eq] at hl
  obtain ⟨p, hp, _, cur, fr, h1, h2, h3, _⟩ := H.blk b _ hl
  have hsepv : sep = ⟨commaB.toArray⟩ := by
    obtain ⟨⟨sl⟩⟩ := sep
    have : sl = commaB := by simpa using hsep
    subst this
    rfl
  subst hsepv
  have hxl : xs.length = n := by
    have := congrArg List.length g1
    rw [List.length_map, List.length_map] at this
    omega
  have hll : n ≤ l.length := by
    rw [hql, List.length_take] at hn
    omega
  cases ha with
  | cons a1 a2 =>
  cases a2 with
  | cons a2 a3 =>
  cases a3
  obtain ⟨p', k, hp', hk, hnk, rfl⟩ := a1
  rw [hp] at hp'
  cases hp'
  cases a2
  have hcur : ∀ (j : Nat) x, (xs.map fun x => (⟨x.toArray⟩ : ByteArray))[j]? = some x → w.cell? ⟨p.1, 0 + j, none⟩ = some (.string x) := by
    intro j x hj
    rw [List.getElem?_map] at hj
    cases hxj : xs[j]? with
    | none => rw [hxj] at hj; cases hj
    | some z =>
      rw [hxj] at hj
      cases hj
      have hjn : j < n := by
        have := (List.getElem?_eq_some_iff.1 hxj).1
        omega
      have e1 : (q.l.map cv)[j]? = some (Value.string ⟨z.toArray⟩) := by rw [g1, List.getElem?_map, hxj]; rfl
      have e2 : All2 (VRel E) (l.take n) ((cur.toList.take l.length).take n) := by
        have key : ∀ (m : Nat) (a : List RV) (b : List Value), All2 (VRel E) a b → All2 (VRel E) (a.take m) (b.take m) := by
          intro m
          induction m with
          | zero => intro a b _; exact .nil
          | succ m ih =>
            intro a b hab
            cases hab with
            | nil => exact .nil
            | cons u1 u2 => exact .cons u1 (ih _ _ u2)
        exact key n _ _ h3
      rw [← hql] at e2
      have e3 := VRels.fn _ _ _ (VRels_iff.2 e2) (VRels_iff.2 (rel_cvs (E := E) q.l g2))
      have e4 : cur[j]? = some (Value.string ⟨z.toArray⟩) := by
        have : ((cur.toList.take l.length).take n)[j]? = some (Value.string ⟨z.toArray⟩) := by rw [e3]; exact e1
        rw [List.take_take, List.getElem?_take] at this
        split at this
        · rw [← Array.getElem?_toList]
          exact this
        · cases this
      rw [Nat.zero_add]
      unfold World.cell?
      simp only [h1, e4]
      rfl
  have hjoin : Lib.join ((xs.map fun x => (⟨x.toArray⟩ : ByteArray)).map (·.data.toList)) commaB = jn xs := by
    rw [List.map_map, show ((fun b : ByteArray => b.data.toList) ∘ fun x : List UInt8 => (⟨x.toArray⟩ : ByteArray)) = id from rfl, List.map_id]
    exact jn_join xs
  have hlt : p.1 < w.heap.size := (Array.getElem?_eq_some_iff.1 h1).1
  have hcall := Any.strings_Join W.jn_lay W.jn_x p.1 0 k (xs.map fun x => (⟨x.toArray⟩ : ByteArray)) ⟨commaB.toArray⟩ w hcur hlt (by rw [List.length_map]; omega) (by rw [List.length_map]; omega) (by rw [show (⟨commaB.toArray⟩ : ByteArray).data.toList = commaB from rfl, hjoin]; omega)
  rw [show (⟨commaB.toArray⟩ : ByteArray).data.toList = commaB from rfl, hjoin, List.length_map, hxl] at hcall
  refine Calls.mono hcall ?_
  rintro e w' ⟨rfl, hw⟩
  exact ⟨_, E, rfl, List.prefix_refl E, by rw [← g5]; exact rel_cv f1, H.world hw⟩
end
section
variable (x : Nat → Int) (y : Nat → Bool)
def ftP : List (Nat × Nat) := fps (shp x y) 12
theorem ftP_ok (hv : valB x = true) : ∀ q, q ∈ ftP x y → okF q := fps_ok (shp x y) (fun p hp => by rw [← vc_ln]; exact val_rng x y hv p hp) 12 (Nat.le_refl _)
theorem ftP_len : (ftP x y).length ≤ 12 := fps_len (shp x y) 12
theorem ftP_L (hv : valB x = true) : featL (shp x y) 12 = (ftP x y).flatMap ftV := featL_fps (shp x y) 12 fun p hp => (val_rng x y hv p hp).1
theorem flat_ne (L : List (Nat × Nat)) : (L.flatMap ftV).isEmpty = L.isEmpty := by
  cases L with
  | nil => rfl
  | cons q r =>
    have : (ftV q).length = 4 := featC_len _ _
    rw [List.flatMap_cons]
    cases h : ftV q with
    | nil => rw [h] at this; cases this
    | cons a b => rfl
theorem str1_holds {V V' : Val} {i : Nat} {r : RV} {b : ByteArray} (h1 : @cv V r = .string b) (h2 : V'.S i = b) : Holds [.str i r] V V' := holds_all fun e he => by
  simp only [List.mem_cons, List.not_mem_nil, or_false] at he
  subst he
  exact ⟨b, h1, h2⟩
theorem noH (V V' : Val) : Holds [] V V' := ⟨(fun j r h => by cases h), (fun j r h => by cases h), (fun j r h => by cases h), (fun j r h => by cases h), (fun j r h => by cases h)⟩
theorem ear_cv (L : List (Nat × Nat)) (W : Nat → Value) : @cvF ((wnm x y L).val W) (earR 0) = earF x y := rfl
theorem ans_dqF' {V : Val} {f : FuncId} {args : List Value} {r : RV} {h0 : RH} (h : @AnsQ V f args r h0) (hf : flat r = true) : Ans f args (@cvF V r) := fun w hr =>
  (h w hr).mono fun e w' ⟨u, E', he, hu, H⟩ => ⟨by rw [he, @VRel.fn V E' r u _ hu (@rel_cvF V E' r hf)], @HInv.below V _ _ _ _ _ _ H⟩
/-- Words, over what Features of its package answers. -/
theorem words_gen (f g : FuncId) (hv : valB x = true) (hg : ∀ V : Val, V.L 0 = featL (shp x y) 12 → @AnsQ V g [earF x y] (featAns (featL (shp x y) 12).isEmpty).1 (featAns (featL (shp x y) 12).isEmpty).2)
    (h0 : w0Run f g = true) (tb : Nat → Tb) (hrun : ∀ n, n < 12 → ∃ r, doneQ (tb (n + 1)) [true] f [earR 0] [.str 1 r] [] (.tup [sT 1, lI 0]) [] = true ∧ ∀ V, V = (wnm x y (ftP x y)).val (fun _ => undef) → (ftP x y).length = n + 1 → @cv V r = .string ⟨(jn (phA (ftP x y))).toArray⟩)
    (hokT : ∀ n, (ftP x y).length = n + 1 → @AnsQ ((wnm x y (ftP x y)).val fun _ => undef) g [earF x y] (.tup [.sl 0 0 (n + 1) 4 none, lI 0]) [some (.cells (ftN (n + 1)) 74 true false)] → @TbOK ((wnm x y (ftP x y)).val fun _ => undef) (tb (n + 1))) :
    Ans f [earF x y] (.tuple #[.string ⟨(wordsB (ftP x y)).toArray⟩, intV 0]) := by
  have hq := hg ((wnm x y (ftP x y)).val fun _ => undef) (ftP_L x y hv).symm
  rw [ftP_L x y hv, flat_ne] at hq
  cases hL : ftP x y with
  | nil =>
    rw [hL] at hq
    have hq : Ans g [earF x y] (.tuple #[.slice none 0 0, .int .i64 0]) := ans_dqF' hq rfl
    have hd : @AnsQ (VE x y) f [earF x y] (.pl (.tuple #[.string ⟨wholeB.toArray⟩, .int .i64 0])) [] := fun w hr => done_calls (VE x y) (VE x y) (t := { Y := [⟨g, [earR 0], .pl (.tuple #[.slice none 0 0, .int .i64 0])⟩] }) (plan := []) (ds := [earR 0]) (by
      letI : Val := VE x y
      refine { Y := fun e he => ?_ }
      simp only [List.mem_cons, List.not_mem_nil, or_false] at he
      subst he
      exact hq) h0 rfl (noH _ _) w hr _ (@nval_flat (VE x y) w [earR 0] rfl)
    exact ans_dq hd
  | cons q r =>
    have hlen := ftP_len x y
    have hlen2 : (ftP x y).length = r.length + 1 := by rw [hL]; rfl
    have he : (ftP x y).isEmpty = false := by rw [hL]; rfl
    rw [he] at hq
    have hq2 := ftQ_ok x y (ftP x y) (fun _ => undef) g [earF x y] (r.length + 1) hlen2.symm hq
    obtain ⟨rv, hr1, hr2⟩ := hrun r.length (by omega)
    have hd : @AnsQ ((wnm x y (ftP x y)).val fun _ => undef) f [earF x y] (.tup [sT 1, lI 0]) [] := fun w hr => done_calls _ _ (hokT r.length hlen2 hq2) hr1 rfl (str1_holds (hr2 _ rfl hlen2) rfl) w hr _ (@nval_flat ((wnm x y (ftP x y)).val fun _ => undef) w [earR 0] rfl)
    have h := ans_dqF' hd rfl
    have e1 : wordsB (q :: r) = jn (phA (ftP x y)) := by
      unfold wordsB
      rw [if_neg (List.cons_ne_nil _ _), hL]
      rfl
    rw [e1]
    exact h
theorem words_bad (f g : FuncId) (hg : Ans g [earF x y] (.tuple #[.slice none 0 0, .int .i64 10])) (h0 : wBad f g = true) : Ans f [earF x y] (.tuple #[.string ⟨#[]⟩, intV 10]) := by
  have hd : @AnsQ (VE x y) f [earF x y] (.pl (.tuple #[.string ⟨#[]⟩, .int .i64 10])) [] := fun w hr => done_calls (VE x y) (VE x y) (t := { Y := [⟨g, [earR 0], .pl (.tuple #[.slice none 0 0, .int .i64 10])⟩] }) (plan := []) (ds := [earR 0]) (by
    letI : Val := VE x y
    refine { Y := fun e he => ?_ }
    simp only [List.mem_cons, List.not_mem_nil, or_false] at he
    subst he
    exact hg) h0 rfl (noH _ _) w hr _ (@nval_flat (VE x y) w [earR 0] rfl)
  exact ans_dq hd
theorem phN_cv (L : List (Nat × Nat)) (h12 : L.length ≤ 12) (W : Nat → Value) : ∀ n, n ≤ L.length → (phN n).map (@cv ((wnm x y L).val W)) = ((phA L).take n).map fun z => Value.string ⟨z.toArray⟩
  | 0, _ => rfl
  | n + 1, h => by
    show (phN n ++ [sT (10 + n)]).map _ = _
    rw [List.map_append, phN_cv L h12 W n (by omega), List.take_succ_eq_append_getElem (by rw [phA_len]; omega), List.map_append]
    congr 1
    show [Value.string ((wnm x y L).S (10 + n))] = [_]
    rw [w_ph x y L n (by omega), List.getD_eq_getElem?_getD, List.getElem?_eq_getElem (by rw [phA_len]; omega)]
    rfl
theorem words_ans (hv : valB x = true) : Ans fWords [earF x y] (.tuple #[.string ⟨(wordsB (ftP x y)).toArray⟩, intV 0]) := by
  refine words_gen x y fWords fFeatures hv (features_ans x y hv) w0_run wT (fun n hn => ⟨sT 1, allU_lt w_run n hn, fun V hV _ => by subst hV; rfl⟩) fun n hlen hq => ?_
  letI : Val := (wnm x y (ftP x y)).val fun _ => undef
  have h12 := ftP_len x y
  refine { Q := fun e he => ?_, Y := phY_ok x y (ftP x y) _ fPhrase ph_run (ftP_ok x y hv) h12 (n + 1) (by omega), U := joinU_ok _ fun e he => ?_ }
  · have he : e ∈ [ftQ fFeatures (n + 1)] := he
    simp only [List.mem_cons, List.not_mem_nil, or_false] at he
    subst he
    exact hq
  · simp only [List.mem_cons, List.not_mem_nil, or_false] at he
    subst he
    have hshort := phA_short (ftP x y) (ftP_ok x y hv)
    have hjl := jn_len (phA (ftP x y)) hshort
    rw [phA_len] at hjl
    refine ⟨phA (ftP x y), ?_, ?_, by omega, by rw [phA_len]; omega, rfl⟩
    · have := phN_cv x y (ftP x y) h12 (fun _ => undef) (n + 1) (by omega)
      rw [List.take_of_length_le (by rw [phA_len]; omega)] at this
      exact this
    · have : ∀ n, (phN n).all flat0 = true := by
        intro n
        induction n with
        | zero => rfl
        | succ n ih =>
          show (phN n ++ [sT (10 + n)]).all flat0 = true
          rw [List.all_append, ih]
          rfl
      exact this (n + 1)
theorem rwords_ans (hv : valB x = true) : Ans fRWords [earF x y] (.tuple #[.string ⟨(wordsB (ftP x y)).toArray⟩, intV 0]) := by
  have h12 := ftP_len x y
  refine words_gen x y fRWords fRFeatures hv (rfeatures_ans x y hv) rw0_run rwT (fun n hn => ⟨acN n, allU_lt rw_run n hn, fun V hV hlen => by
    subst hV
    rw [w_ac x y (ftP x y) _ n (by omega) (by omega)]
    unfold acB
    rw [List.take_of_length_le (by rw [phA_len]; omega)]⟩) fun n hlen hq => ?_
  letI : Val := (wnm x y (ftP x y)).val fun _ => undef
  refine { Q := fun e he => ?_, Y := phY_ok x y (ftP x y) _ fRPhrase rph_run (ftP_ok x y hv) h12 (n + 1) (by omega), T := acT_ok x y (ftP x y) _ (ftP_ok x y hv) h12 (n + 1) (by omega) }
  have he : e ∈ [ftQ fRFeatures (n + 1)] := he
  simp only [List.mem_cons, List.not_mem_nil, or_false] at he
  subst he
  exact hq
end
end Go.Proofs.Z.Wd
