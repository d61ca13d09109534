/- A part of the proofs that the laws of layer one answer true for every input. -/
import Derived.Test.YtedbdpaioikhgaaDoorZIn
import Derived.Test.YtedbdpaioikhgaaDoorZSane
namespace Go.Proofs.Z
open Go Go.RowKit Go.Proofs Go.Ri W
/-! The law EarMirrors. -/
abbrev fEarMirrors : Nat := 8
def mk (j : Nat) : Nat := if j = 0 then 0 else if j < 5 then j + 4 else if j < 9 then j - 4 else j
def mir (t : Nat → Int) : Nat → Int := fun j => t (mk j)
theorem mk_mk (j : Nat) : mk (mk j) = j := by
  unfold mk
  by_cases h0 : j = 0
  · rw [if_pos h0, if_pos rfl, h0]
  · rw [if_neg h0]
    by_cases h5 : j < 5
    · rw [if_pos h5, if_neg (by omega), if_neg (by omega), if_pos (by omega)]
      omega
    · rw [if_neg h5]
      by_cases h9 : j < 9
      · rw [if_pos h9, if_neg (by omega), if_pos (by omega)]
        omega
      · rw [if_neg h9, if_neg h0, if_neg h5, if_neg h9]
theorem mk_lt {j n : Nat} (hn : 9 ≤ n) (h : j < n) : mk j < n := by
  unfold mk
  split
  · omega
  · split
    · omega
    · split <;> omega
theorem mk_hi {j : Nat} (h : 9 ≤ j) : mk j = j := by
  unfold mk
  rw [if_neg (by omega), if_neg (by omega), if_neg (by omega)]
theorem mk_inj {j k : Nat} : mk j = k ↔ j = mk k := ⟨fun h => by rw [← h, mk_mk], fun h => by rw [h, mk_mk]⟩
theorem vc_mk (k : Nat) : vc (mk k) = vc k := by
  unfold vc
  by_cases h0 : k = 0
  · subst h0; rfl
  · have h1 : ¬ mk k = 0 := fun e => h0 (by have := mk_inj.1 e; exact this)
    rw [if_neg h0, if_neg h1]
    by_cases h9 : k < 9
    · rw [if_pos h9, if_pos (mk_lt (Nat.le_refl _) h9)]
    · rw [if_neg h9, mk_hi (by omega), if_neg h9]
theorem val_mir (t : Nat → Int) : valB (mir t) = valB t := by
  have e : mir t 0 = t 0 := rfl
  have u : ∀ s, edgeB s (sh 1 (mir t)) = edgeB s (sh 5 t) := fun _ => rfl
  have l : ∀ s, edgeB s (sh 5 (mir t)) = edgeB s (sh 1 t) := fun _ => rfl
  unfold valB
  rw [e, u, l, Bool.and_comm (edgeB _ (sh 5 t))]
theorem shp_mir (x : Nat → Int) (y : Nat → Bool) : shp (mir x) y = mir (shp x y) := by
  funext j
  show (if j < 9 then x (mk j) else if y (j - 9) then 1 else 0) = (if mk j < 9 then x (mk j) else if y (mk j - 9) then 1 else 0)
  by_cases h9 : j < 9
  · rw [if_pos h9, if_pos (mk_lt (Nat.le_refl _) h9)]
  · rw [if_neg h9, mk_hi (by omega), if_neg h9]
theorem stw_mir (s : Nat → Int) (k v : Nat) : stw (mir s) (mk k, v) = mir (stw s (k, v)) := by
  funext j
  show (if j = mk k then (v : Int) else s (mk j)) = if mk j = k then (v : Int) else s (mk j)
  by_cases h : mk j = k
  · rw [if_pos h, if_pos (mk_inj.1 h)]
  · rw [if_neg h, if_neg (fun e => h (mk_inj.2 e))]
theorem msk_mir (s : Nat → Int) (k v : Nat) : mskB (mir s) (mk k) v = mskB s k v := by
  unfold mskB
  rw [stw_mir, val_mir]
  show (decide ((v : Int) ≠ s (mk (mk k))) && _) = _
  rw [mk_mk]
theorem nbL_mir {s : Nat → Int} (H : Row s) (H' : Row (mir s)) (k v : Nat) (h : (k, v) ∈ nbL s 12) : (mk k, v) ∈ nbL (mir s) 12 := by
  obtain ⟨h1, h2, h3⟩ := (nbL_mem H (Nat.le_refl _) _).1 h
  refine (nbL_mem H' (Nat.le_refl _) _).2 ⟨mk_lt (by decide) h1, ?_, ?_⟩
  · show v < vc (mk k)
    rw [vc_mk]
    exact h2
  · show mskB (mir s) (mk k) v = true
    rw [msk_mir]
    exact h3
theorem msk_ext {s s' : Nat → Int} {k k' : Nat} (h : ∀ v, mskB s k v = mskB s' k' v) : ∀ n, msk s k n = msk s' k' n
  | 0 => rfl
  | n + 1 => by
    show msk s k n + _ = msk s' k' n + _
    rw [msk_ext h n, h n]
theorem nbA_mir (s : Nat → Int) (k : Nat) : (nbA (mir s) (mk k)).length = (nbA s k).length := by
  unfold nbA nbV
  rw [vc_mk, msk_ext (s' := s) (k' := k) (fun v => msk_mir s k v)]
  have : pv (mir s) (mk k) = pv s k := by
    show (s (mk (mk k))).toNat = _
    rw [mk_mk]
    rfl
  rw [this]
theorem nbL_mir_len (s : Nat → Int) : (nbL (mir s) 12).length = (nbL s 12).length := by
  have e : ∀ s, (nbL s 12).length = (nbA s 0).length + (nbA s 1).length + (nbA s 2).length + (nbA s 3).length + (nbA s 4).length + (nbA s 5).length + (nbA s 6).length + (nbA s 7).length + (nbA s 8).length + (nbA s 9).length + (nbA s 10).length + (nbA s 11).length := fun s => by
    simp only [nbL, List.length_append, List.length_map, List.length_nil, Nat.zero_add]
  have h : ∀ k k', k = mk k' → (nbA (mir s) k).length = (nbA s k').length := fun k k' h => by rw [h, nbA_mir]
  rw [e, e, h 0 0 rfl, h 1 5 rfl, h 2 6 rfl, h 3 7 rfl, h 4 8 rfl, h 5 1 rfl, h 6 2 rfl, h 7 3 rfl, h 8 4 rfl, h 9 9 rfl, h 10 10 rfl, h 11 11 rfl]
  omega
theorem dcn_mir (s t : Nat → Int) : dcn (mir s) (mir t) 12 = dcn s t 12 := by
  have e : ∀ s t : Nat → Int, dcn s t 12 = (if s 0 = t 0 then 0 else 1) + (if s 1 = t 1 then 0 else 1) + (if s 2 = t 2 then 0 else 1) + (if s 3 = t 3 then 0 else 1) + (if s 4 = t 4 then 0 else 1) + (if s 5 = t 5 then 0 else 1) + (if s 6 = t 6 then 0 else 1) + (if s 7 = t 7 then 0 else 1) + (if s 8 = t 8 then 0 else 1) + (if s 9 = t 9 then 0 else 1) + (if s 10 = t 10 then 0 else 1) + (if s 11 = t 11 then 0 else 1) := fun s t => by
    simp only [dcn, Nat.zero_add]
  rw [e, e]
  show (if s 0 = t 0 then 0 else 1) + (if s 5 = t 5 then 0 else 1) + (if s 6 = t 6 then 0 else 1) + (if s 7 = t 7 then 0 else 1) + (if s 8 = t 8 then 0 else 1) + (if s 1 = t 1 then 0 else 1) + (if s 2 = t 2 then 0 else 1) + (if s 3 = t 3 then 0 else 1) + (if s 4 = t 4 then 0 else 1) + (if s 9 = t 9 then 0 else 1) + (if s 10 = t 10 then 0 else 1) + (if s 11 = t 11 then 0 else 1) = _
  omega
/-! The runs. -/
def mirL (k : Nat) : List RV := [sI k, sI (k + 5), sI (k + 6), sI (k + 7), sI (k + 8), sI (k + 1), sI (k + 2), sI (k + 3), sI (k + 4), sB k, sB (k + 1), sB (k + 2)]
def mirR (k : Nat) : RV := .agg (mirL k)
def chkR (b : Bool) : RV := lI (if b then 0 else 10)
def badN : RV := .pl (.tuple #[.slice none 0 0, .int .i64 10])
noncomputable def mirY (a b c d : Bool) : List YE := [⟨fCheck, [earR 0], chkR a⟩, ⟨fCheck, [mirR 0], chkR a⟩, ⟨fCheckMark, [markR 0 20], chkR (a && b)⟩, ⟨fCheckMark, [markR 20 0], chkR (b && a)⟩,
  ⟨fDist, [earR 0, earR 40], dOk (a && c) 80⟩, ⟨fDist, [mirR 0, mirR 40], dOk (a && c) 80⟩, ⟨fMDist, [markR 0 20, markR 40 60], dOk ((a && c) && (b && d)) 84⟩, ⟨fMDist, [markR 20 0, markR 60 40], dOk ((a && c) && (b && d)) 84⟩]
  ++ if a then [] else [⟨fNeigh, [earR 0], badN⟩, ⟨fNeigh, [mirR 0], badN⟩]
noncomputable def mirTb (a b c d : Bool) : Tb := { X := saneX, Y := mirY a b c d, T := [⟨.ieq, sI 101, sI 102, bR true⟩], LL := [⟨1, 12, sI 101⟩, ⟨2, 12, sI 102⟩], Q := if a then [⟨fNeigh, [earR 0], .tup [.slN 0 1 12, lI 0], [some (.lst 1 25 true)]⟩, ⟨fNeigh, [mirR 0], .tup [.slN 0 2 12, lI 0], [some (.lst 2 25 true)]⟩] else [] }
noncomputable def mirDs : List RV := [markR 0 20, markR 40 60]
noncomputable def mirPat (_ : Unit) : St := ⟨patW [(15, .slN 0 1 12), (17, .slN 1 2 12), (19, sI 100)] 133 0, [some (.lst 1 25 true), some (.lst 2 25 true)]⟩
set_option maxRecDepth 100000 in
theorem mir_bad : (all2 fun b => all2 fun c => all2 fun d => doneQ (mirTb false b c d) [true] fEarMirrors mirDs [] [] (bR true) []) = true := by kernel_rfl
def mirS0 : List SE := [.int 100 (lI 0), .lst 1 1, .lst 2 2]
set_option maxRecDepth 100000 in
theorem mir_enter : (all2 fun b => all2 fun c => all2 fun d => enterT (mirTb true b c d) [] fEarMirrors mirDs mirS0 [4, 5] (mirPat ())) = true := by kernel_rfl
noncomputable def mirB (b c d : Bool) : Code := hB (mirTb true b c d) [] fEarMirrors mirDs
noncomputable def mirK (b c d : Bool) : List Fr := hK (mirTb true b c d) [] fEarMirrors mirDs
def e120 : List RV := [sI 120, sI 121, sI 122, sI 123, sI 124, sI 125, sI 126, sI 127, sI 128, sB 120, sB 121, sB 122]
noncomputable def mirRd (b : Bool) : Tb := { LL := [⟨1, 12, sI 101⟩], T := [⟨.bin .lss, sI 100, sI 101, bR b⟩, ⟨.inb, sI 100, sI 101, bR b⟩, ⟨.bin .add, sI 100, lI 1, sI 106⟩], LX := if b then [⟨1, 100, e120⟩] else [], C := if b then [⟨fIn, [.slN 0 2 12, mirR 120], bR true⟩] else [] }
def mirS1 : List SE := [.int 100 (sI 106), .lst 1 1, .lst 2 2]
set_option maxRecDepth 100000 in
theorem mir_again : (all2 fun b => all2 fun c => all2 fun d => againT (mirRd true) [] (mirB b c d) (mirK b c d) (mirPat ()) mirS1 [0, 1] (mirPat ())) = true := by kernel_rfl
set_option maxRecDepth 100000 in
theorem mir_out : (all2 fun b => all2 fun c => all2 fun d => outF (mirRd false) [] fEarMirrors (mirB b c d) (mirK b c d) (mirPat ()) (bR true)) = true := by kernel_rfl
theorem sanexM : XTrue saneX := by
  intro f vs v h
  unfold saneX at h
  split at h
  · split at h
    · rename_i hf
      cases h
      have hf := Nat.eq_of_beq_eq_true hf
      rw [hf]
      exact sane_ans
    · cases h
  · cases h
/-- What the names stand for that is no part of the marks. -/
structure MirD where
  n80 : Nat
  n84 : Nat
  len : Nat
  ts : List (Nat → Int)
  l1 : List Value
  l2 : List Value
section
variable (a b c d : Nat → Int) (e f g h : Nat → Bool) (z : MirD)
/-- The names: two marks, distances, the place in the list, its element. -/
def mirN (i : Nat) : Nm := ⟨fun j => if j < 20 then a j else if j < 40 then b (j - 20) else if j < 60 then c (j - 40) else if j < 80 then d (j - 60) else if j = 80 then (z.n80 : Int) else if j = 84 then (z.n84 : Int) else if j = 100 then (i : Int) else if j = 106 then (i : Int) + 1 else if j < 120 then (z.len : Int) else (z.ts.getD i fun _ => 0) (j - 120),
  fun j => if j < 20 then e j else if j < 40 then f (j - 20) else if j < 60 then g (j - 40) else if j < 80 then h (j - 60) else bitY (z.ts.getD i fun _ => 0) (j - 120), fun _ => ⟨#[]⟩, fun j => if j = 1 then z.l1 else z.l2⟩
/-- What they stand for. -/
structure MirOK : Prop where
  n80 : dcn (shp a e) (shp c g) 12 = z.n80
  n84 : dcn (shp a e) (shp c g) 12 + dcn (shp b f) (shp d h) 12 = z.n84
  ts : neighL a e = z.ts
  len : z.ts.length = z.len
  l1 : z.l1 = cellsN (shp a e) (nbS a e)
  l2 : z.l2 = cellsN (shp (mir a) e) (nbS (mir a) e)
theorem mir_ex : ∃ z, MirOK a b c d e f g h z := by
  generalize h1 : dcn (shp a e) (shp c g) 12 = n1
  generalize h2 : n1 + dcn (shp b f) (shp d h) 12 = n2
  generalize h3 : neighL a e = ts
  generalize h4 : cellsN (shp a e) (nbS a e) = l1
  generalize h5 : cellsN (shp (mir a) e) (nbS (mir a) e) = l2
  exact ⟨⟨n1, n2, ts.length, ts, l1, l2⟩, ⟨h1, by rw [h1]; exact h2, h3, rfl, h4.symm, h5.symm⟩⟩
theorem chk_R (t : Nat → Int) (u : Nat → Bool) (V : Val) : Ans fCheck [earF t u] (@cvF V (chkR (valB t))) := chk_ans t u
theorem dOk_R (V : Val) (p : Bool) (i n : Nat) (hi : V.I i = n) : @cvF V (dOk p i) = if p then .tuple #[intV n, intV 0] else .tuple #[intV 0, intV 10] := by
  cases p with
  | false => rfl
  | true =>
    show Value.tuple #[.int .i64 (V.I i), .int .i64 0] = _
    rw [hi]
    rfl
theorem mir_len : (nbS (mir a) e).length = (nbS a e).length := by
  rw [nbS_len, nbS_len, shp_mir, nbL_mir_len]
section
variable {a b c d e f g h z} (Z : MirOK a b c d e f g h z)
include Z
theorem z_len1 : z.l1.length = z.len * 12 := by
  rw [Z.l1, cellsN_len, ← Z.len, ← Z.ts, List.length_map]
theorem z_len2 : z.l2.length = z.len * 12 := by
  rw [Z.l2, cellsN_len, ← Z.len, ← Z.ts, List.length_map, mir_len]
theorem z_le : z.len ≤ 60 := by
  rw [← Z.len, ← Z.ts, List.length_map]
  exact nbS_le a e
theorem z_rows : z.l1 = rowsC z.ts := by rw [Z.l1, ← Z.ts, cellsN_rows]
theorem mirTb_ok (W : Nat → Value) : @TbOK ((mirN a b c d e f g h z 0).val W) (mirTb (valB a) (valB b) (valB c) (valB d)) := by
  let V : Val := (mirN a b c d e f g h z 0).val W
  letI : Val := V
  have hcm : ∀ x x' y y' (p : Bool), (valB x && valB x') = p → Ans fCheckMark [markF x y x' y'] (@cvF V (chkR p)) := fun x x' y y' p hp => by
    have := cm_ans x x' y y'
    rw [hp] at this
    exact this
  have hd : ∀ x x' y y' (p : Bool) (n : Nat), (valB x && valB x') = p → dcn (shp x y) (shp x' y') 12 = n → V.I 80 = n → Ans fDist [earF x y, earF x' y'] (@cvF V (dOk p 80)) := fun x x' y y' p n hp hn hV => by
    have := dist_all x x' y y'
    unfold dV at this
    rw [hp, hn] at this
    rw [dOk_R V p 80 n hV]
    exact this
  have hm : ∀ a b c d e f g h (p : Bool) (n : Nat), ((valB a && valB c) && (valB b && valB d)) = p → dcn (shp a e) (shp c g) 12 + dcn (shp b f) (shp d h) 12 = n → V.I 84 = n → Ans fMDist [markF a e b f, markF c g d h] (@cvF V (dOk p 84)) := fun a b c d e f g h p n hp hn hV => by
    have := mdist_ans a b c d e f g h
    rw [hp, hn] at this
    rw [dOk_R V p 84 n hV]
    exact this
  have hmd : dcn (shp (mir a) e) (shp (mir c) g) 12 = dcn (shp a e) (shp c g) 12 := by rw [shp_mir, shp_mir, dcn_mir]
  have l1 := z_len1 Z
  have l2 := z_len2 Z
  refine { X := sanexM, T := ?_, Y := ?_, LL := ?_, Q := ?_ }
  · intro q hq
    simp only [mirTb, List.mem_cons, List.not_mem_nil, or_false] at hq
    subst hq
    refine ⟨rfl, ?_⟩
    have := t_ieq .i64 (z.len : Int) (z.len : Int)
    simp only [beq_self_eq_true] at this
    exact this
  · intro q hq
    rcases List.mem_append.1 hq with hq | hq
    · simp only [List.mem_cons, List.not_mem_nil, or_false] at hq
      rcases hq with rfl | rfl | rfl | rfl | rfl | rfl | rfl | rfl
      · exact chk_R a e V
      · have := chk_R (mir a) e V
        rw [val_mir] at this
        exact this
      · exact hcm a b e f _ rfl
      · exact hcm b a f e _ rfl
      · exact hd a c e g _ z.n80 rfl Z.n80 rfl
      · exact hd (mir a) (mir c) e g _ z.n80 (by rw [val_mir, val_mir]) (hmd.trans Z.n80) rfl
      · exact hm a b c d e f g h _ z.n84 rfl Z.n84 rfl
      · exact hm b a d c f e h g _ z.n84 (Bool.and_comm _ _) ((Nat.add_comm _ _).trans Z.n84) rfl
    · cases hv : valB a with
      | true => rw [hv] at hq; cases hq
      | false =>
        rw [hv] at hq
        simp only [Bool.false_eq_true, if_false, List.mem_cons, List.not_mem_nil, or_false] at hq
        rcases hq with rfl | rfl
        · exact neigh_bad a e hv
        · exact neigh_bad (mir a) e ((val_mir a).trans hv)
  · intro q hq
    simp only [mirTb, List.mem_cons, List.not_mem_nil, or_false] at hq
    rcases hq with rfl | rfl
    · exact ⟨rfl, z.len, by decide, l1, rfl⟩
    · exact ⟨rfl, z.len, by decide, l2, rfl⟩
  · intro q hq
    cases hv : valB a with
    | false => rw [hv] at hq; cases hq
    | true =>
      rw [hv] at hq
      simp only [mirTb, if_true, List.mem_cons, List.not_mem_nil, or_false] at hq
      rcases hq with rfl | rfl
      · exact neigh_list a e hv V 1 (show z.l1 = _ from Z.l1)
      · exact neigh_list (mir a) e ((val_mir a).trans hv) V 2 (show z.l2 = _ from Z.l2)
omit Z in
theorem mirS0_ok (W' : Nat → Value) : Holds mirS0 ((mirN a b c d e f g h z 0).val fun _ => undef) ((mirN a b c d e f g h z 0).val W') := holds_all fun q hq => by
  simp only [mirS0, List.mem_cons, List.not_mem_nil, or_false] at hq
  rcases hq with rfl | rfl | rfl
  · exact ⟨.i64, 0, rfl, rfl⟩
  · rfl
  · rfl
omit Z in
theorem mirS1_ok (i : Nat) (W W' : Nat → Value) : Holds mirS1 ((mirN a b c d e f g h z i).val W) ((mirN a b c d e f g h z (i + 1)).val W') := holds_all fun q hq => by
  simp only [mirS1, List.mem_cons, List.not_mem_nil, or_false] at hq
  rcases hq with rfl | rfl | rfl
  · exact ⟨.i64, (i : Int) + 1, rfl, rfl⟩
  · rfl
  · rfl
omit Z in
theorem mir_mem (hv : valB a = true) (t : Nat → Int) (ht : t ∈ neighL a e) : ((neighL (mir a) e).any fun u => eqE u (mir t) (bitY t)) = true := by
  have H := shp_row a e hv
  have H' := shp_row (mir a) e ((val_mir a).trans hv)
  obtain ⟨⟨k, v⟩, hm, rfl⟩ := List.mem_map.1 ht
  have hm := (nbS_mem a e _).1 hm
  refine List.any_eq_true.2 ⟨mir (stw (shp a e) (k, v)), ?_, ?_⟩
  · refine List.mem_map.2 ⟨(mk k, v), (nbS_mem (mir a) e _).2 ?_, ?_⟩
    · rw [shp_mir] at H' ⊢
      exact nbL_mir H H' k v hm
    · rw [shp_mir]
      exact stw_mir _ k v
  · refine (eqE_iff _ _ _).2 ⟨fun _ _ => rfl, fun j hj => ?_⟩
    show (!(stw (shp a e) (k, v) (mk (9 + j)) == 0)) = _
    rw [mk_hi (by omega)]
    rfl
theorem mirRd_ok (hv : valB a = true) (i : Nat) (hi : i ≤ z.len) (W : Nat → Value) (q : Bool) (hq : q = decide (i < z.len)) : @TbOK ((mirN a b c d e f g h z i).val W) (mirRd q) := by
  let V : Val := (mirN a b c d e f g h z i).val W
  letI : Val := V
  have hl := z_le Z
  have hlen := Z.len
  have l1 := z_len1 Z
  have hrows := z_rows Z
  refine { T := ?_, LL := ?_, LX := ?_, C := ?_ }
  · intro u hu
    simp only [mirRd, List.mem_cons, List.not_mem_nil, or_false] at hu
    rcases hu with rfl | rfl | rfl
    · refine te_lss 100 101 q ?_
      show decide ((i : Int) < (z.len : Int)) = q
      rw [hq]
      simp
    · refine te_inb 100 101 q ?_
      show decide (0 ≤ (i : Int) ∧ (i : Int) < (z.len : Int)) = q
      rw [hq]
      simp
    · exact te_add1 100 106 i rfl rfl (by omega) (by omega)
  · intro u hu
    simp only [mirRd, List.mem_cons, List.not_mem_nil, or_false] at hu
    subst hu
    exact ⟨rfl, z.len, by decide, l1, rfl⟩
  · intro u hu
    cases q with
    | false => cases hu
    | true =>
      have hlt : i < z.len := by simpa using hq.symm
      have hi' : i < z.ts.length := by omega
      obtain rfl := List.mem_singleton.1 (show u ∈ [(⟨1, 100, e120⟩ : LEE)] from hu)
      refine ⟨rfl, ?_, ?_⟩
      · show ((i : Int)).toNat * 12 + 12 ≤ z.l1.length
        rw [l1, Int.toNat_natCast]
        omega
      · show (z.l1.drop (((i : Int)).toNat * 12)).take 12 = _
        rw [Int.toNat_natCast, hrows, rowsC_row z.ts i hi']
        have ee : z.ts[i] = z.ts.getD i fun _ => 0 := by rw [List.getD_eq_getElem?_getD, List.getElem?_eq_getElem hi']; rfl
        rw [ee]
        rfl
  · intro u hu
    cases q with
    | false => cases hu
    | true =>
      have hlt : i < z.len := by simpa using hq.symm
      have hi' : i < z.ts.length := by omega
      obtain rfl := List.mem_singleton.1 (show u ∈ [(⟨fIn, [.slN 0 2 12, mirR 120], bR true⟩ : YE)] from hu)
      have hb : (neighL (mir a) e).length ≤ 1000000 := by
        have := nbS_le (mir a) e
        rw [List.length_map]
        omega
      have hmem : z.ts.getD i (fun _ => 0) ∈ neighL a e := by
        rw [List.getD_eq_getElem?_getD, List.getElem?_eq_getElem hi', Z.ts]
        exact List.getElem_mem hi'
      have := in_any (neighL (mir a) e) (mir (z.ts.getD i fun _ => 0)) (bitY (z.ts.getD i fun _ => 0)) hb V 2 (mirL 120) (show z.l2 = _ from Z.l2.trans (cellsN_rows _ _)) rfl
      rw [mir_mem hv _ hmem] at this
      exact this
end
/-- THE LAW EarMirrors. -/
theorem mir_law (w : World) (hr : RoIn ro w) : Calls Tryd.prog fEarMirrors #[markF a e b f, markF c g d h] w (fun x w' => x = .returned (.bool true) ∧ Below w.heap.size w w') := by
  obtain ⟨z, Z⟩ := mir_ex a b c d e f g h
  have hvs : All2 (@Go.Ri.NVal ((mirN a b c d e f g h z 0).val fun _ => undef) w) mirDs [markF a e b f, markF c g d h] := @nval_flat ((mirN a b c d e f g h z 0).val fun _ => undef) w mirDs rfl
  have htb := mirTb_ok Z fun _ => undef
  cases hv : valB a with
  | false =>
    rw [hv] at htb
    let V : Val := (mirN a b c d e f g h z 0).val fun _ => undef
    exact (done_calls V V htb (all2_all (all2_all (all2_all mir_bad (valB b)) (valB c)) (valB d)) rfl ⟨(fun j r h => by cases h), (fun j r h => by cases h), (fun j r h => by cases h), (fun j r h => by cases h), (fun j r h => by cases h)⟩ w hr _ hvs).mono fun x w' ⟨u, E', he, hu, H⟩ => ⟨by rw [he]; exact congrArg _ hu, @HInv.below V _ _ _ _ _ _ H⟩
  | true =>
    rw [hv] at htb
    refine fn_loop (κ := Unit) (mirN a b c d e f g h z 0) (fun _ => undef) (mirTb true (valB b) (valB c) (valB d)) [] fEarMirrors mirDs mirPat (fun m _ u => ∃ i, i ≤ z.len ∧ m = z.len - i ∧ u = mirN a b c d e f g h z i) htb mirS0 [4, 5] () z.len (all2_all (all2_all (all2_all mir_enter (valB b)) (valB c)) (valB d)) (mirN a b c d e f g h z 0) (fun W' => mirS0_ok W') ⟨0, Nat.zero_le _, rfl, rfl⟩ (DF (.bool true)) ?_ w hr _ hvs
    rintro w m k u ⟨i, hi, rfl, rfl⟩ W1
    by_cases hlt : i < z.len
    · exact step_to (mirRd true) [] (mirRd_ok Z hv i hi W1 true (by simp [hlt])) mirS1 [0, 1] () (mirN a b c d e f g h z (i + 1)) (all2_all (all2_all (all2_all mir_again (valB b)) (valB c)) (valB d)) (fun W' => mirS1_ok i W1 W') ⟨z.len - (i + 1), by omega, i + 1, hlt, rfl, rfl⟩
    · exact step_outF (mirRd false) [] (mirRd_ok Z hv i hi W1 false (by simp [hlt])) (bR true) (all2_all (all2_all (all2_all mir_out (valB b)) (valB c)) (valB d)) rfl
end
end Go.Proofs.Z
