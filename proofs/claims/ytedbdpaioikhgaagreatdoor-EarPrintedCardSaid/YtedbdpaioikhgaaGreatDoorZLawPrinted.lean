/- A part of the proofs that the laws of layer one answer true for every input. -/
import Derived.Test.YtedbdpaioikhgaaGreatDoorZPrK
import Derived.Test.YtedbdpaioikhgaaGreatDoorZPrtA
import Derived.Test.YtedbdpaioikhgaaGreatDoorZLawShort
namespace Go.Proofs.Z.Pr
open Go Go.RowKit Go.Proofs Go.Ri Go.Proofs.Z
open Go.Proofs.Z.Sp (fBlanks fWide fSplit fTurned fLAt fWords fPW fPM fPrint fEarPrinted)
open Go.Proofs.Z.Wd (mk24 mA)
/-! The law EarPrinted: runs. -/
def nearC : List UInt8 := [110, 101, 97, 114, 58]
def farC : List UInt8 := [102, 97, 114, 32, 58]
def nlR (b : Bool) (i : Nat) : RV := if b then nilR else .slN 0 i 1
def lpA (tn on : Bool) : List RV := [mA, nlR tn 6, nlR on 7, sT 6]
def lpT (on : Bool) : List TE := [⟨.bin .add, lT nearC, sT 73, sT 74⟩, ⟨.bin .add, sT 74, lT [59], sT 75⟩, ⟨.bin .add, sT 75, if on then lT [] else sT 76, sT 77⟩, ⟨.bin .add, sT 77, lT farC, sT 78⟩, ⟨.bin .add, sT 78, sT 79, sT 80⟩]
/-- What the short string is: 0: none; 1: the near ear's; 2 + d: another ear's, which differs first at place d. -/
def lpD (m : Nat) : List TE := match m with
  | 0 => [⟨.ieq, sI 61, lI 0, bR false⟩]
  | 1 => [⟨.ieq, sI 61, lI 0, bR true⟩, ⟨.seq, sT 6, sT 81, bR true⟩]
  | d + 2 => [⟨.ieq, sI 61, lI 0, bR true⟩, ⟨.seq, sT 6, sT 81, bR false⟩] ++ (List.range (d + 1)).map fun p => if p < 9 then ⟨.ieq, sI (40 + p), sI p, bR (Nat.blt p d)⟩ else ⟨.beq, sB (40 + (p - 9)), sB (p - 9), bR (Nat.blt p d)⟩
def okA (r : RV) : RV := .tup [r, lI 0, lI 0]
noncomputable def lpY (tn on : Bool) (m : Nat) : List YE := [⟨fCheckMark, [mA], lI 0⟩, ⟨fPrint, [mA], .tup [sT 70, lI 0]⟩, ⟨fPM, [sT 70], okA mA⟩, ⟨fWords, [earR 0], .tup [sT 71, lI 0]⟩, ⟨fWords, [earR 20], .tup [sT 72, lI 0]⟩, ⟨fPW, [sT 73], okA (earR 0)⟩, ⟨fPM, [sT 80], okA mA⟩, ⟨fShort, [earR 0], .tup [sT 81, lI 0]⟩, ⟨fPShort, [sT 81], .tup [earR 0, lI 0]⟩, ⟨fPShort, [sT 6], .tup [if m = 1 then earR 0 else earR 40, sI 61]⟩]
  ++ (if on then [] else [⟨fBlanks, [sU 82], sT 76⟩]) ++ (if tn then [⟨fTurned, [sT 71, nilR], sT 73⟩] else []) ++ if on then [⟨fTurned, [sT 72, nilR], sT 79⟩] else []
noncomputable def lpC (tn on : Bool) : List YE := (if tn then [] else [⟨fTurned, [sT 71, .slN 0 6 1], sT 73⟩]) ++ if on then [] else [⟨fTurned, [sT 72, .slN 0 7 1], sT 79⟩, ⟨fLAt, [.slN 0 7 1, lI 29], sU 82⟩]
noncomputable def lpTb (tn on : Bool) (m : Nat) : Tb := { X := saneX, T := lpT on ++ lpD m, Y := lpY tn on m, C := lpC tn on }
noncomputable def lpRun (tn on : Bool) (m : Nat) : Bool := doneQ (lpTb tn on m) [] fEarPrinted (lpA tn on) [] [] (bR true) []
set_option maxRecDepth 100000 in
theorem lp_run : (all2 fun tn => all2 fun on => allU 14 fun m => lpRun tn on m) = true := by kernel_rfl
noncomputable def lpBad (tn on : Bool) : Bool := doneQ { X := saneX, Y := [⟨fCheckMark, [mA], lI 10⟩] } [] fEarPrinted (lpA tn on) [] [] (bR true) []
set_option maxRecDepth 100000 in
theorem lp_bad : (all2 fun tn => all2 fun on => lpBad tn on) = true := by kernel_rfl
end Go.Proofs.Z.Pr

namespace Go.Proofs.Z.Pr
open Go Go.RowKit Go.Proofs Go.Ri Go.Proofs.Z
open Go.Proofs.Z.Sp (fBlanks fWide fSplit fTurned fLAt fWords fPW fPM fPrint fEarPrinted)
open Go.Proofs.Z.Wd (phB fps okF fps_ok jn wordsB ftP ftP_ok ftP_len vc_ln printB printV nearB farB wS wS_len)
open Go.Proofs.Z.Ps (vc nt wWhole wNear wFar earP plc pwR pmR ER)
/-! The law EarPrinted: what its strings tell. -/
section
variable (x : Nat → Int) (y : Nat → Bool)
theorem shp_rng (hv : valB x = true) : ∀ p, p < 12 → 0 ≤ shp x y p ∧ shp x y p < (vc p : Int) := fun p hp => by
  rw [← vc_ln]
  exact val_rng x y hv p hp
def PT : List Pt := pts (ftP x y)
theorem pt_ne : PT x y ≠ [] := by
  unfold PT pts
  split
  · exact List.cons_ne_nil _ _
  · rename_i h
    simpa using h
theorem pt_len : (PT x y).length ≤ 12 := by
  unfold PT pts
  split
  · exact (by decide : 1 ≤ 12)
  · rw [List.length_map]
    exact ftP_len x y
theorem pt_ok (hv : valB x = true) : ∀ z, z ∈ PT x y → okP z := fun z hz => by
  unfold PT pts at hz
  split at hz
  · obtain rfl := List.mem_singleton.1 hz
    trivial
  · obtain ⟨q, hq, rfl⟩ := List.mem_map.1 hz
    exact ftP_ok x y hv q hq
def plain (z : Pt) : Tn := ⟨z, 0, 0, 1⟩
theorem wtx0 (z : Pt) : wtx z 0 = ptx z := by
  cases z with
  | none => rfl
  | some q =>
    show wPh q.1 q.2 (1 + 0) = phB q.1 q.2
    unfold wPh phB
    split
    · rfl
    · split <;> rfl
theorem jn_body (l : List Pt) : jn (l.map ptx) = bodyT (l.map plain) := by
  cases l with
  | nil => rfl
  | cons z r =>
    have key : ∀ r : List Pt, ((r.map ptx).flatMap fun y => Wd.commaB ++ y) = tailT (r.map plain) := fun r => by
      induction r with
      | nil => rfl
      | cons w r ih =>
        show (Wd.commaB ++ ptx w) ++ ((r.map ptx).flatMap fun y => Wd.commaB ++ y) = bl 0 ++ (44 :: (bl 1 ++ (wtx w 0 ++ tailT (r.map plain))))
        rw [ih, wtx0]
        simp [Wd.commaB, bl]
    show ptx z ++ ((r.map ptx).flatMap fun y => Wd.commaB ++ y) = wtx z 0 ++ tailT (r.map plain)
    rw [key, wtx0]
theorem tells_words (hv : valB x = true) (b : Nat) : Tells (shp x y) (bl b ++ Wd.wS x y) := by
  have h := tells_of (shp_rng x y hv) b ((PT x y).map plain) (by
    rw [List.map_map, show Tn.z ∘ plain = id from rfl, List.map_id]
    exact .refl _)
  rw [← jn_body] at h
  have e : Wd.wS x y = jn ((PT x y).map ptx) := words_pts _
  rw [e]
  exact h
variable (tu : List Value)
theorem tells_turned (hv : valB x = true) (b : Nat) : Tells (shp x y) (bl b ++ bodyT (turnL tu (PT x y).length [] (PT x y))) := by
  have h := turnL_perm tu (PT x y).length [] (PT x y) rfl
  rw [List.map_nil, List.nil_append] at h
  generalize turnL tu (PT x y).length [] (PT x y) = l at h
  exact tells_of (shp_rng x y hv) b l h
theorem turnL_ok : ∀ n l rest, rest.length = n → (∀ q, q ∈ l → okT q) → (∀ z, z ∈ rest → okP z) → ∀ q, q ∈ turnL tu n l rest → okT q
  | 0, l, rest, _, hl, _ => hl
  | n + 1, l, rest, h, hl, hr => by
    have hne : rest ≠ [] := fun e => by rw [e] at h; cases h
    have h2 := rest2_len tu l.length rest hne
    refine turnL_ok n _ _ (by omega) (fun q hq => ?_) (fun z hz => hr z ((rest2_perm tu l.length rest hne).subset (List.mem_cons_of_mem _ hz)))
    rcases List.mem_append.1 hq with hq | hq
    · exact hl q hq
    · obtain rfl := List.mem_singleton.1 hq
      have hlt4 : ∀ n : Nat, n % 4 < 4 := fun n => Nat.mod_lt _ (by decide)
      exact ⟨hr _ ((rest2_perm tu l.length rest hne).subset List.mem_cons_self), hlt4 _, hlt4 _, hlt4 _⟩
theorem tnB_len (hv : valB x = true) : (tnB tu (PT x y)).length ≤ 800 := by
  have h1 := bodyT_short _ (turnL_ok tu (PT x y).length [] (PT x y) rfl (fun q hq => by cases hq) (pt_ok x y hv))
  have h2 := (turnL_perm tu (PT x y).length [] (PT x y) rfl).length_eq
  rw [List.length_map, List.length_append, List.map_nil, List.length_nil] at h2
  have h3 := pt_len x y
  have hlt4 : ∀ n : Nat, n % 4 < 4 := fun n => Nat.mod_lt _ (by decide)
  have h4 := hlt4 (tvO tu 30).toNat
  have h5 := hlt4 (tvO tu 31).toNat
  unfold tnB
  rw [List.length_append, List.length_append, bl_len, bl_len]
  omega
theorem ba_list (l : List UInt8) : (ba l).data.toList = l := by
  show l.toArray.toList = l
  simp
theorem pw_turned (hv : valB x = true) : Ans fPW [.string (ba (tnB tu (PT x y)))] (.tuple #[earF x y, intV 0, intV 0]) := by
  have hl := tnB_len x y tu hv
  have h := Ps.pw_ans (ba (tnB tu (PT x y))) (by rw [ba_size]; omega)
  rw [pwR_tells (s := ba (tnB tu (PT x y))) hv (tells_turned x y tu hv ((tvO tu 30).toNat % 4)) (c := (tvO tu 31).toNat % 4) (by rw [ba_list]; rfl) (by rw [ba_list]; omega)] at h
  exact h
end
section
variable (x : Nat → Int) (y : Nat → Bool) (x' : Nat → Int) (y' : Nat → Bool)
theorem pm_printed (hv : valB x = true) (hv' : valB x' = true) : Ans fPM [.string ⟨(printB x y x' y').toArray⟩] (.tuple #[markF x y x' y', intV 0, intV 0]) := by
  have l1 := wS_len x y hv
  have l2 := wS_len x' y' hv'
  have n1 : nearB.length = 6 := rfl
  have n2 : farB.length = 7 := rfl
  have hl : (printB x y x' y').length ≤ 1000 := by
    unfold printB
    simp only [List.length_append]
    omega
  have h := Ps.pm_ans (ba (printB x y x' y')) (by rw [ba_size]; omega) rfl rfl
  rw [pmR_tells (s := ba (printB x y x' y')) hv hv' (tells_words x y hv 1) (tells_words x' y' hv' 1) (b0 := 0) (b1 := 0) (b2 := 0) (b3 := 1) (b4 := 0) (c := 0) (by
    rw [ba_list]
    unfold printB
    simp [nearB, farB, bl, wNear, wFar]) (by rw [ba_list]; omega) rfl rfl] at h
  exact h
/-- The second text. -/
def text2 (tu to : List Value) : List UInt8 := nearC ++ tnB tu (PT x y) ++ [59] ++ bl ((tvO to 29).toNat % 4) ++ farC ++ tnB to (PT x' y')
theorem text2_len (tu to : List Value) (hv : valB x = true) (hv' : valB x' = true) : (text2 x y x' y' tu to).length ≤ 2000 := by
  have l1 := tnB_len x y tu hv
  have l2 := tnB_len x' y' to hv'
  have n1 : nearC.length = 5 := rfl
  have n2 : farC.length = 5 := rfl
  have hlt4 : ∀ n : Nat, n % 4 < 4 := fun n => Nat.mod_lt _ (by decide)
  have h5 := hlt4 (tvO to 29).toNat
  unfold text2
  simp only [List.length_append, List.length_cons, List.length_nil, bl_len]
  omega
theorem pm_text2 (tu to : List Value) (hv : valB x = true) (hv' : valB x' = true) : Ans fPM [.string (ba (text2 x y x' y' tu to))] (.tuple #[markF x y x' y', intV 0, intV 0]) := by
  have hl := text2_len x y x' y' tu to hv hv'
  have h := Ps.pm_ans (ba (text2 x y x' y' tu to)) (by rw [ba_size]; omega) rfl rfl
  rw [pmR_tells (s := ba (text2 x y x' y' tu to)) hv hv' (tells_turned x y tu hv ((tvO tu 30).toNat % 4)) (tells_turned x' y' to hv' ((tvO to 30).toNat % 4)) (b0 := 0) (b1 := 0) (b2 := (tvO tu 31).toNat % 4) (b3 := (tvO to 29).toNat % 4) (b4 := 1) (c := (tvO to 31).toNat % 4) (by
    rw [ba_list]
    unfold text2 tnB
    simp [nearC, farC, wNear, wFar]
    simp [bl]) (by rw [ba_list]; omega) rfl rfl] at h
  exact h
end
/-! Short texts. -/
theorem ix_get (p : Nat) (hp : p < 12) (v : Nat) (hv : v < (lett p).length) : Go.Lib.indexByte (lett p) ((lett p).getD v 0) = (v : Int) := by
  have h5 := lett5 p
  have : ∀ p, p < 12 → ∀ v, v < 5 → v < (lett p).length → Go.Lib.indexByte (lett p) ((lett p).getD v 0) = (v : Int) := by decide
  exact this p hp v (by omega) hv
theorem codes_get (s : Nat → Int) : ∀ k p, p < k → (codes s k).getD p 0 = code p (s p)
  | 0, p, h => by omega
  | k + 1, p, h => by
    have hl := codes_len s k
    show (codes s k ++ [code k (s k)]).getD p 0 = _
    rcases Nat.lt_or_eq_of_le (Nat.le_of_lt_succ h) with h1 | rfl
    · rw [List.getD_eq_getElem?_getD, List.getElem?_append_left (by omega), ← List.getD_eq_getElem?_getD]
      exact codes_get s k p h1
    · rw [List.getD_eq_getElem?_getD, List.getElem?_append_right (by omega), hl, Nat.sub_self]
      rfl
theorem prs_eq (l : List UInt8) : ∀ k s, prs l k = some s → (∀ p, p < k → s p = pI l p ∧ 0 ≤ s p) ∧ ∀ p, k ≤ p → s p = 0
  | 0, s, h => by
    cases h
    exact ⟨fun p hp => by omega, fun p _ => rfl⟩
  | k + 1, s, h => by
    replace h : (match prs l k with | some s => if pI l k < 0 then none else some (uP s k (pI l k)) | none => none) = some s := h
    cases hk : prs l k with
    | none => rw [hk] at h; cases h
    | some t =>
      rw [hk] at h
      replace h : (if pI l k < 0 then none else some (uP t k (pI l k))) = some s := h
      split at h
      · cases h
      · rename_i hn
        have h := Option.some.inj h
        obtain ⟨h1, h2⟩ := prs_eq l k t hk
        refine ⟨fun p hp => ?_, fun p hp => ?_⟩
        · rw [← h]
          by_cases e : p = k
          · subst e
            rw [uP_self]
            exact ⟨rfl, by omega⟩
          · rw [uP_ne _ _ _ _ e]
            exact h1 p (by omega)
        · rw [← h, uP_ne _ _ _ _ (by omega)]
          exact h2 p (by omega)
theorem prs_some (l : List UInt8) : ∀ k, (∀ p, p < k → 0 ≤ pI l p) → ∃ s, prs l k = some s
  | 0, _ => ⟨_, rfl⟩
  | k + 1, h => by
    obtain ⟨s, hs⟩ := prs_some l k fun p hp => h p (by omega)
    refine ⟨uP s k (pI l k), ?_⟩
    show (match prs l k with | some s => if pI l k < 0 then none else some (uP s k (pI l k)) | none => none) = _
    rw [hs]
    show (if pI l k < 0 then none else some (uP s k (pI l k))) = _
    rw [if_neg (by have := h k (by omega); omega)]
theorem psV_short (x : Nat → Int) (y : Nat → Bool) (hv : valB x = true) : psV (shortV (shp x y)) = .tuple #[earF x y, intV 0] := by
  have hl : (shortV (shp x y)).data.toList = codes (shp x y) 12 := by
    show (codes (shp x y) 12).toArray.toList = _
    simp
  have hp : ∀ p, p < 12 → pI (codes (shp x y) 12) p = shp x y p := fun p hp => by
    obtain ⟨h0, h1⟩ := val_rng x y hv p hp
    unfold pI
    rw [codes_get _ _ _ hp]
    have := ix_get p hp (shp x y p).toNat (by have e : ln p = (lett p).length := rfl; omega)
    unfold code
    rw [this, Int.toNat_of_nonneg h0]
  unfold psV
  rw [hl, if_pos (codes_len _ 12)]
  obtain ⟨s, hs⟩ := prs_some (codes (shp x y) 12) 12 fun p hp' => by
    rw [hp p hp']
    exact (val_rng x y hv p hp').1
  rw [hs]
  obtain ⟨h1, _⟩ := prs_eq _ _ _ hs
  obtain ⟨g1, g2, _, _⟩ := earF_same (x := x) (y := y) (t := s) fun p hp' => by rw [(h1 p hp').1, hp p hp']
  show (if valB s then _ else _) = _
  rw [if_pos (by rw [g1]; exact hv)]
  show Value.tuple #[earF s (bitY s), intV 0] = _
  rw [g2]
/-- What ParseShort accepts, is printed so. -/
theorem psV_ok {b : ByteArray} {X : Nat → Int} {Y : Nat → Bool} (h : psV b = .tuple #[earF X Y, intV 0]) : b = shortV (shp X Y) := by
  unfold psV at h
  split at h
  · rename_i hl
    cases hp : prs b.data.toList 12 with
    | none =>
      rw [hp] at h
      have h := Value.tuple.inj h
      have h := congrArg (fun a : Array Value => a[1]?) h
      cases h
    | some s =>
      rw [hp] at h
      replace h : (if valB s then Value.tuple #[earF s (yP s), intV 0] else .tuple #[.agg pzL.toArray, intV 10]) = _ := h
      split at h
      · obtain ⟨h1, _⟩ := prs_eq _ _ _ hp
        have h := Value.tuple.inj h
        have h := congrArg (fun a : Array Value => a[0]?) h
        have h : earF s (yP s) = earF X Y := Option.some.inj h
        have h := congrArg (fun a : Array Value => a.toList) (Value.agg.inj h)
        have hX : ∀ p, p < 9 → s p = X p := fun p hp => by
          have h := congrArg (fun l : List Value => l[p]?) h
          match p, hp with
          | 0, _ => exact (Value.int.inj (Option.some.inj h)).2
          | 1, _ => exact (Value.int.inj (Option.some.inj h)).2
          | 2, _ => exact (Value.int.inj (Option.some.inj h)).2
          | 3, _ => exact (Value.int.inj (Option.some.inj h)).2
          | 4, _ => exact (Value.int.inj (Option.some.inj h)).2
          | 5, _ => exact (Value.int.inj (Option.some.inj h)).2
          | 6, _ => exact (Value.int.inj (Option.some.inj h)).2
          | 7, _ => exact (Value.int.inj (Option.some.inj h)).2
          | 8, _ => exact (Value.int.inj (Option.some.inj h)).2
        have hY : ∀ j, j < 3 → yP s j = Y j := fun j hj => by
          have h := congrArg (fun l : List Value => l[9 + j]?) h
          match j, hj with
          | 0, _ => exact Value.bool.inj (Option.some.inj h)
          | 1, _ => exact Value.bool.inj (Option.some.inj h)
          | 2, _ => exact Value.bool.inj (Option.some.inj h)
        have hlt : ∀ p, p < 12 → ∃ v, v < (lett p).length ∧ (lett p).getD v 0 = b.data.toList.getD p 0 ∧ s p = (v : Int) := fun p hp => by
          obtain ⟨e1, e2⟩ := h1 p hp
          rcases ib_or (b.data.toList.getD p 0) (lett p) with ⟨g, _⟩ | ⟨v, g1, g2, g3⟩
          · unfold pI at e1
            rw [g] at e1
            omega
          · exact ⟨v, g1, g2, by rw [e1]; exact g3⟩
        have hshp : ∀ p, p < 12 → shp X Y p = s p := fun p hp => by
          unfold shp
          split
          · rename_i h9
            exact (hX p h9).symm
          · rename_i h9
            rw [← hY (p - 9) (by omega)]
            obtain ⟨v, g1, _, g3⟩ := hlt p hp
            have hl2 : (lett p).length = 2 := by unfold lett; rw [if_neg (by omega), if_neg h9]; rfl
            unfold yP
            rw [show 9 + (p - 9) = p by omega, g3]
            have : v = 0 ∨ v = 1 := by omega
            rcases this with rfl | rfl <;> rfl
        apply ByteArray.ext
        apply Array.toList_inj.1
        have e2 : (shortV (shp X Y)).data.toList = codes (shp X Y) 12 := by
          show (codes (shp X Y) 12).toArray.toList = _
          simp
        rw [e2]
        refine List.ext_getElem (by rw [hl, codes_len]) fun p hp1 hp2 => ?_
        have hp12 : p < 12 := by omega
        have e3 := codes_get (shp X Y) 12 p hp12
        rw [List.getD_eq_getElem?_getD, List.getElem?_eq_getElem hp2, Option.getD_some] at e3
        rw [e3]
        obtain ⟨v, _, g2, g3⟩ := hlt p hp12
        rw [List.getD_eq_getElem?_getD (l := b.data.toList), List.getElem?_eq_getElem hp1, Option.getD_some] at g2
        unfold code
        rw [hshp p hp12, g3, Int.toNat_natCast]
        exact g2.symm
      · have h := Value.tuple.inj h
        have h := congrArg (fun a : Array Value => a[1]?) h
        cases h
  · have h := Value.tuple.inj h
    have h := congrArg (fun a : Array Value => a[1]?) h
    cases h
end Go.Proofs.Z.Pr

namespace Go.Proofs.Z.Pr
open Go Go.RowKit Go.Proofs Go.Ri Go.Proofs.Z
open Go.Proofs.Z.Sp (fBlanks fWide fSplit fTurned fLAt fWords fPW fPM fPrint fEarPrinted)
open Go.Proofs.Z.Wd (mk24 mA jn wordsB ftP printB printV wS_len words_ans print_ans ftP_ok ftP_len)
open Go.Proofs.Z.Fa
/-! The law EarPrinted. -/
/-- Where two ears differ first. -/
def eqAt (X : Nat → Int) (Y : Nat → Bool) (x : Nat → Int) (y : Nat → Bool) (p : Nat) : Prop := if p < 9 then X p = x p else Y (p - 9) = y (p - 9)
theorem first_diff (P : Nat → Prop) : ∀ n, (∀ p, p < n → P p) ∨ ∃ d, d < n ∧ (∀ p, p < d → P p) ∧ ¬ P d
  | 0 => .inl fun p h => by omega
  | n + 1 => by
    rcases first_diff P n with h | ⟨d, h1, h2, h3⟩
    · by_cases hn : P n
      · refine .inl fun p hp => ?_
        rcases Nat.lt_or_eq_of_le (Nat.le_of_lt_succ hp) with h1 | rfl
        · exact h p h1
        · exact hn
      · exact .inr ⟨n, by omega, h, hn⟩
    · exact .inr ⟨d, by omega, h2, h3⟩
theorem eqAt_ear {X x : Nat → Int} {Y y : Nat → Bool} (h : ∀ p, p < 12 → eqAt X Y x y p) : earF X Y = earF x y := by
  have hx : ∀ p, p < 9 → X p = x p := fun p hp => by
    have := h p (by omega)
    unfold eqAt at this
    rwa [if_pos hp] at this
  have hy : ∀ p, p < 3 → Y p = y p := fun p hp => by
    have := h (9 + p) (by omega)
    unfold eqAt at this
    rwa [if_neg (by omega), Nat.add_sub_cancel_left] at this
  unfold earF
  rw [hx 0 (by omega), hx 1 (by omega), hx 2 (by omega), hx 3 (by omega), hx 4 (by omega), hx 5 (by omega), hx 6 (by omega), hx 7 (by omega), hx 8 (by omega), hy 0 (by omega), hy 1 (by omega), hy 2 (by omega)]
theorem ear_eqAt {X x : Nat → Int} {Y y : Nat → Bool} (h : earF X Y = earF x y) : ∀ p, p < 12 → eqAt X Y x y p := fun p hp => by
  have h := congrArg (fun a : Array Value => a.toList) (Value.agg.inj h)
  have h := congrArg (fun l : List Value => l[p]?) h
  unfold eqAt
  match p, hp with
  | 0, _ => exact (Value.int.inj (Option.some.inj h)).2
  | 1, _ => exact (Value.int.inj (Option.some.inj h)).2
  | 2, _ => exact (Value.int.inj (Option.some.inj h)).2
  | 3, _ => exact (Value.int.inj (Option.some.inj h)).2
  | 4, _ => exact (Value.int.inj (Option.some.inj h)).2
  | 5, _ => exact (Value.int.inj (Option.some.inj h)).2
  | 6, _ => exact (Value.int.inj (Option.some.inj h)).2
  | 7, _ => exact (Value.int.inj (Option.some.inj h)).2
  | 8, _ => exact (Value.int.inj (Option.some.inj h)).2
  | 9, _ => exact Value.bool.inj (Option.some.inj h)
  | 10, _ => exact Value.bool.inj (Option.some.inj h)
  | 11, _ => exact Value.bool.inj (Option.some.inj h)
/-- What the short string is. -/
def ModeOK (x : Nat → Int) (y : Nat → Bool) (s : ByteArray) (X : Nat → Int) (Y : Nat → Bool) (e : Int) : Nat → Prop
  | 0 => e ≠ 0
  | 1 => e = 0 ∧ earF X Y = earF x y ∧ s = shortV (shp x y)
  | d + 2 => e = 0 ∧ s ≠ shortV (shp x y) ∧ d < 12 ∧ (∀ p, p < d → eqAt X Y x y p) ∧ ¬ eqAt X Y x y d
theorem mode_ex (x : Nat → Int) (y : Nat → Bool) (hv : valB x = true) (s : ByteArray) : ∃ X Y e m, psV s = .tuple #[earF X Y, intV e] ∧ m < 14 ∧ ModeOK x y s X Y e m := by
  obtain ⟨X, Y, e, hp⟩ := psV_ear s
  refine ⟨X, Y, e, ?_⟩
  by_cases he : e = 0
  · subst he
    have hs := psV_ok hp
    rcases first_diff (eqAt X Y x y) 12 with h | ⟨d, h1, h2, h3⟩
    · refine ⟨1, hp, by decide, rfl, eqAt_ear h, ?_⟩
      rw [eqAt_ear h] at hp
      exact psV_ok hp
    · refine ⟨d + 2, hp, by omega, rfl, fun e => h3 ?_, h1, h2, h3⟩
      rw [e, psV_short x y hv] at hp
      have h := Value.tuple.inj hp
      have h := congrArg (fun a : Array Value => a[0]?) h
      have h : earF x y = earF X Y := Option.some.inj h
      exact ear_eqAt h.symm d h1
  · exact ⟨0, hp, by decide, he⟩
section
variable (x : Nat → Int) (y : Nat → Bool) (x' : Nat → Int) (y' : Nat → Bool) (tu to : List Value) (s : ByteArray) (X : Nat → Int) (Y : Nat → Bool) (e : Int)
noncomputable def lpN : Nm where
  I := fun i => if i < 20 then x i else if i < 40 then x' (i - 20) else if i < 60 then X (i - 40) else if i = 61 then e else tvO to 29
  B := fun i => if i < 20 then y i else if i < 40 then y' (i - 20) else Y (i - 40)
  S := fun i => if i = 6 then s else if i = 70 then ⟨(printB x y x' y').toArray⟩ else if i = 71 then ⟨(wordsB (ftP x y)).toArray⟩ else if i = 72 then ⟨(wordsB (ftP x' y')).toArray⟩ else if i = 81 then shortV (shp x y) else
    ba (if i = 73 then tnB tu (PT x y) else if i = 74 then nearC ++ tnB tu (PT x y) else if i = 75 then nearC ++ tnB tu (PT x y) ++ [59] else if i = 76 then bl ((tvO to 29).toNat % 4) else if i = 77 then nearC ++ tnB tu (PT x y) ++ [59] ++ bl ((tvO to 29).toNat % 4) else if i = 78 then nearC ++ tnB tu (PT x y) ++ [59] ++ bl ((tvO to 29).toNat % 4) ++ farC else if i = 79 then tnB to (PT x' y') else text2 x y x' y' tu to)
  L := fun i => if i = 6 then tu else to
theorem words_list (hv : valB x = true) : (⟨(wordsB (ftP x y)).toArray⟩ : ByteArray).data.toList = jn ((PT x y).map ptx) ∧ (⟨(wordsB (ftP x y)).toArray⟩ : ByteArray).data.toList.length ≤ 100000 := by
  have e1 : (⟨(wordsB (ftP x y)).toArray⟩ : ByteArray).data.toList = wordsB (ftP x y) := ba_list _
  rw [e1]
  have := wS_len x y hv
  have : (wordsB (ftP x y)).length ≤ 300 := this
  exact ⟨words_pts _, by omega⟩
/-- turned, of a description of an ear, where the list comes in as a named one. -/
theorem turned_N (htu : u8s tu) (hv : valB x = true) (V : Val) (i j : Nat) (hS : V.S i = ⟨(wordsB (ftP x y)).toArray⟩) (hL : V.L j = tu) : @AnsN V fTurned [sT i, .slN 0 j 1] (.string (ba (tnB tu (PT x y)))) := by
  intro w hr vs hv'
  obtain ⟨h1, h2⟩ := words_list x y hv
  refine turned_calls tu htu false (fun h => by cases h) (PT x y) (pt_ne x y) (by have := pt_len x y; omega) (pt_ok x y hv) _ h1 h2 w hr vs ?_
  cases hv' with
  | cons g1 g2 =>
    cases g2 with
    | cons g3 g4 =>
      cases g4
      obtain ⟨a, m, cap, k1, k2, k3, k4, k5, k6⟩ := g3
      rw [hL] at k2 k4 k6
      refine .cons ?_ (.cons ⟨a, m, cap, k1, k2, k3, k4, k5, k6⟩ .nil)
      have g1 : _ = Value.string (V.S i) := g1
      rw [hS] at g1
      exact g1
theorem turned_0 (hv : valB x = true) (h0 : tu = []) : Ans fTurned [.string ⟨(wordsB (ftP x y)).toArray⟩, .slice none 0 0] (.string (ba (tnB tu (PT x y)))) := by
  subst h0
  intro w hr
  obtain ⟨h1, h2⟩ := words_list x y hv
  exact turned_calls [] (fun v h => by cases h) true (fun _ => rfl) (PT x y) (pt_ne x y) (by have := pt_len x y; omega) (pt_ok x y hv) _ h1 h2 w hr _ (.cons rfl (.cons rfl .nil))
set_option maxRecDepth 20000 in
theorem lpTb_ok (htu : u8s tu) (hto : u8s to) (tn on : Bool) (htn : tn = true → tu = []) (hon : on = true → to = []) (hv : valB x = true) (hv' : valB x' = true) (hp : psV s = .tuple #[earF X Y, intV e]) (m : Nat) (hm : ModeOK x y s X Y e m) : @TbOK ((lpN x y x' y' tu to s X Y e).val fun _ => undef) (lpTb tn on m) := by
  letI V : Val := (lpN x y x' y' tu to s X Y e).val fun _ => undef
  have l1 := tnB_len x y tu hv
  have l2 := tnB_len x' y' to hv'
  have n1 : nearC.length = 5 := rfl
  have n2 : farC.length = 5 := rfl
  have hlt4 : ∀ n : Nat, n % 4 < 4 := fun n => Nat.mod_lt _ (by decide)
  have l3 : (bl ((tvO to 29).toNat % 4)).length < 4 := by rw [bl_len]; exact hlt4 _
  obtain ⟨c0, c1⟩ := tvO_rng hto 29
  have seq : ∀ b, (s.toList == (shortV (shp x y)).toList) = b → TETrue ⟨.seq, sT 6, sT 81, bR b⟩ := fun b hb => ⟨rfl, s, shortV (shp x y), rfl, rfl, by rw [hb]; rfl⟩
  refine { X := sanexS, T := ?_, Y := ?_, C := ?_ }
  · intro q hq
    rcases List.mem_append.1 hq with hq | hq
    · simp only [lpT, List.mem_cons, List.not_mem_nil, or_false] at hq
      rcases hq with rfl | rfl | rfl | rfl | rfl
      · exact f_app (x := nearC) (y := tnB tu (PT x y)) (z := nearC ++ tnB tu (PT x y)) rfl rfl rfl rfl rfl (by omega)
      · refine f_app (x := nearC ++ tnB tu (PT x y)) (y := [59]) (z := nearC ++ tnB tu (PT x y) ++ [59]) rfl rfl rfl rfl rfl ?_
        simp only [List.length_append, List.length_cons, List.length_nil]
        omega
      · cases on with
        | true =>
          have h0 : tvO to 29 = 0 := by
            unfold tvO
            rw [hon rfl, if_neg (by simp)]
          refine f_app (x := nearC ++ tnB tu (PT x y) ++ [59]) (y := []) (z := nearC ++ tnB tu (PT x y) ++ [59] ++ bl ((tvO to 29).toNat % 4)) rfl rfl rfl rfl (by rw [h0]; rfl) ?_
          simp only [List.length_append, List.length_cons, List.length_nil]
          omega
        | false =>
          refine f_app (x := nearC ++ tnB tu (PT x y) ++ [59]) (y := bl ((tvO to 29).toNat % 4)) (z := nearC ++ tnB tu (PT x y) ++ [59] ++ bl ((tvO to 29).toNat % 4)) rfl rfl rfl rfl rfl ?_
          simp only [List.length_append, List.length_cons, List.length_nil]
          omega
      · refine f_app (x := nearC ++ tnB tu (PT x y) ++ [59] ++ bl ((tvO to 29).toNat % 4)) (y := farC) (z := nearC ++ tnB tu (PT x y) ++ [59] ++ bl ((tvO to 29).toNat % 4) ++ farC) rfl rfl rfl rfl rfl ?_
        simp only [List.length_append, List.length_cons, List.length_nil]
        omega
      · refine f_app (x := nearC ++ tnB tu (PT x y) ++ [59] ++ bl ((tvO to 29).toNat % 4) ++ farC) (y := tnB to (PT x' y')) (z := text2 x y x' y' tu to) rfl rfl rfl rfl rfl ?_
        simp only [List.length_append, List.length_cons, List.length_nil]
        omega
    · match m, hm with
      | 0, hm =>
        obtain rfl := List.mem_singleton.1 hq
        exact f_ieq (k := .i64) (m := e) (n := 0) rfl rfl (beq_eq_false_iff_ne.2 hm)
      | 1, hm =>
        obtain ⟨h1, h2, h3⟩ := hm
        replace hq : q ∈ [(⟨.ieq, sI 61, lI 0, bR true⟩ : TE), ⟨.seq, sT 6, sT 81, bR true⟩] := hq
        simp only [List.mem_cons, List.not_mem_nil, or_false] at hq
        rcases hq with rfl | rfl
        · exact f_ieq (k := .i64) (m := e) (n := 0) rfl rfl (by rw [h1]; rfl)
        · exact seq true (by rw [h3]; exact beq_self_eq_true _)
      | d + 2, hm =>
        obtain ⟨h1, h2, h3, h4, h5⟩ := hm
        rcases List.mem_append.1 hq with hq | hq
        · simp only [List.mem_cons, List.not_mem_nil, or_false] at hq
          rcases hq with rfl | rfl
          · exact f_ieq (k := .i64) (m := e) (n := 0) rfl rfl (by rw [h1]; rfl)
          · refine seq false (beq_eq_false_iff_ne.2 fun e => h2 ?_)
            rw [ByteArray.toList_eq, ByteArray.toList_eq] at e
            exact ByteArray.ext (Array.toList_inj.1 e)
        · obtain ⟨p, hp1, rfl⟩ := List.mem_map.1 hq
          have hpd : p ≤ d := Nat.le_of_lt_succ (List.mem_range.1 hp1)
          have hb : ∀ b, Nat.blt p d = b → (b = true → eqAt X Y x y p) ∧ (b = false → ¬ eqAt X Y x y p) := fun b hb => by
            cases b with
            | true => exact ⟨fun _ => h4 p (Nat.le_of_ble_eq_true hb), fun h => by cases h⟩
            | false =>
              refine ⟨fun h => (by cases h), fun _ => ?_⟩
              have hn : ¬ p < d := fun h => by
                have : Nat.blt p d = true := Nat.ble_eq_true_of_le h
                rw [hb] at this
                cases this
              obtain rfl : p = d := by omega
              exact h5
          generalize Nat.blt p d = b at hb
          have hb := hb b rfl
          unfold eqAt at hb
          by_cases h9 : p < 9
          · rw [if_pos h9]
            rw [if_pos h9] at hb
            have e1 : Val.I (40 + p) = X p := by
              show (if 40 + p < 20 then x (40 + p) else if 40 + p < 40 then x' (40 + p - 20) else if 40 + p < 60 then X (40 + p - 40) else _) = _
              rw [if_neg (by omega), if_neg (by omega), if_pos (by omega), Nat.add_sub_cancel_left]
            have e2 : Val.I p = x p := by
              show (if p < 20 then x p else _) = _
              rw [if_pos (by omega)]
            refine f_ieq (k := .i64) (m := X p) (n := x p) (congrArg (Value.int .i64) e1) (congrArg (Value.int .i64) e2) ?_
            cases b with
            | true => rw [hb.1 rfl]; exact beq_self_eq_true _
            | false => exact beq_eq_false_iff_ne.2 (hb.2 rfl)
          · rw [if_neg h9]
            rw [if_neg h9] at hb
            have e1 : Val.B (40 + (p - 9)) = Y (p - 9) := by
              show (if 40 + (p - 9) < 20 then y (40 + (p - 9)) else if 40 + (p - 9) < 40 then y' (40 + (p - 9) - 20) else Y (40 + (p - 9) - 40)) = _
              rw [if_neg (by omega), if_neg (by omega), Nat.add_sub_cancel_left]
            have e2 : Val.B (p - 9) = y (p - 9) := by
              show (if p - 9 < 20 then y (p - 9) else _) = _
              rw [if_pos (by omega)]
            have hh : (Y (p - 9) == y (p - 9)) = b := by
              cases b with
              | true => rw [hb.1 rfl]; exact beq_self_eq_true _
              | false => exact beq_eq_false_iff_ne.2 (hb.2 rfl)
            refine ⟨rfl, ?_⟩
            show TCTrue .beq (.bool (Val.B (40 + (p - 9)))) (.bool (Val.B (p - 9))) (.bool b)
            rw [e1, e2, ← hh]
            exact t_beq _ _
  · intro q hq
    rcases List.mem_append.1 hq with hq | hq
    · rcases List.mem_append.1 hq with hq | hq
      · rcases List.mem_append.1 hq with hq | hq
        · simp only [List.mem_cons, List.not_mem_nil, or_false] at hq
          rcases hq with rfl | rfl | rfl | rfl | rfl | rfl | rfl | rfl | rfl | rfl
          · have h := cm_ans x x' y y'
            rw [hv, hv'] at h
            exact h
          · have h := print_ans x y x' y'
            unfold printV at h
            rw [hv, hv'] at h
            exact h
          · exact pm_printed x y x' y' hv hv'
          · exact words_ans x y hv
          · exact words_ans x' y' hv'
          · exact pw_turned x y tu hv
          · exact pm_text2 x y x' y' tu to hv hv'
          · exact short_ans x y hv
          · have h := pshort_ans (shortV (shp x y))
            rw [psV_short x y hv] at h
            exact h
          · have h3 : @cvF V (.tup [if m = 1 then earR 0 else earR 40, sI 61]) = psV s := by
              rw [hp]
              by_cases h1 : m = 1
              · subst h1
                rw [if_pos rfl, hm.2.1]
                rfl
              · rw [if_neg h1]
                rfl
            show Ans fPShort [.string s] (@cvF V _)
            rw [h3]
            exact pshort_ans s
        · split at hq
          · cases hq
          · obtain rfl := List.mem_singleton.1 hq
            exact bl_ans _ c0 c1
      · split at hq
        · rename_i ht
          obtain rfl := List.mem_singleton.1 hq
          exact turned_0 x y tu hv (htn ht)
        · cases hq
    · split at hq
      · rename_i ht
        obtain rfl := List.mem_singleton.1 hq
        exact turned_0 x' y' to hv' (hon ht)
      · cases hq
  · intro q hq
    rcases List.mem_append.1 hq with hq | hq
    · split at hq
      · cases hq
      · obtain rfl := List.mem_singleton.1 hq
        exact turned_N x y tu htu hv _ _ _ rfl rfl
    · split at hq
      · cases hq
      · simp only [List.mem_cons, List.not_mem_nil, or_false] at hq
        rcases hq with rfl | rfl
        · exact turned_N x' y' to hto hv' _ _ _ rfl rfl
        · intro w hr vs hvs
          refine at_ans hto (V := ⟨fun _ => 0, fun _ => false, fun _ => s, fun _ => ⟨.int .i64 0, rfl⟩, fun _ => to, fun _ => undef⟩) 29 (lI 29) rfl rfl rfl w hr vs ?_
          cases hvs with
          | cons g1 g2 =>
            cases g2 with
            | cons g3 g4 =>
              cases g4
              exact .cons g1 (.cons g3 .nil)
end
/-- THE LAW. -/
theorem printed_law (x : Nat → Int) (y : Nat → Bool) (x' : Nat → Int) (y' : Nat → Bool) (tu to : List Value) (s : ByteArray) (htu : u8s tu) (hto : u8s to) (tn on : Bool) (htn : tn = true → tu = []) (hon : on = true → to = []) (w : World) (hr : RoIn ro w) (vs : List Value)
    (hvs : ∀ X Y e, All2 (@Go.Ri.NVal ((lpN x y x' y' tu to s X Y e).val fun _ => undef) w) (lpA tn on) vs) : Calls Tryz.prog fEarPrinted vs.toArray w (fun e w' => e = .returned (.bool true) ∧ Below w.heap.size w w') := by
  cases hv : (valB x && valB x') with
  | false =>
    let V : Val := (lpN x y x' y' tu to s (fun _ => 0) (fun _ => false) 0).val fun _ => undef
    refine (done_calls V V (t := { X := saneX, Y := [⟨fCheckMark, [mA], lI 10⟩] }) ?_ (all2_all (all2_all lp_bad tn) on) rfl (Wd.noH V V) w hr vs (hvs _ _ _)).mono fun e w' ⟨u, E', he, hu, H⟩ => ⟨by rw [he]; exact congrArg _ hu, @HInv.below V _ _ _ _ _ _ H⟩
    letI : Val := V
    refine { X := sanexS, Y := ?_ }
    intro q hq
    obtain rfl := List.mem_singleton.1 hq
    have h := cm_ans x x' y y'
    rw [hv] at h
    exact h
  | true =>
    simp only [Bool.and_eq_true] at hv
    obtain ⟨X, Y, e, m, hp, hm, hmode⟩ := mode_ex x y hv.1 s
    let V : Val := (lpN x y x' y' tu to s X Y e).val fun _ => undef
    exact (done_calls V V (lpTb_ok x y x' y' tu to s X Y e htu hto tn on htn hon hv.1 hv.2 hp m hmode) (allU_lt (all2_all (all2_all lp_run tn) on) m hm) rfl (Wd.noH V V) w hr vs (hvs _ _ _)).mono fun e w' ⟨u, E', he, hu, H⟩ => ⟨by rw [he]; exact congrArg _ hu, @HInv.below V _ _ _ _ _ _ H⟩
end Go.Proofs.Z.Pr
