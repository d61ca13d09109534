/- A part of the proofs that the laws of layer eight answer true for every input. -/
import Derived.Test.YtjeikabpnplogaaZDJ
import Derived.Test.YtjeikabpnplogaaZBU
namespace Go.Proofs.Z
open Go Go.RowKit Go.Proofs Go.Ri Go.Proofs.Z.Fa
/-! CheckLog of both packages: runs. List 30 the sticks, 730 how many; list 9 the entries, 604 how many; 605 the place, 606 the next one; 731 the parish; entR the entry at the place, 732 the hash before it, 733 its own; stkR the stick at the place. -/
abbrev fCkLog : Nat := 32
abbrev fRCkLog : Nat := 33
abbrev fHashOf : Nat := 77
abbrev fIsVB : Nat := 64
set_option maxRecDepth 100000 in
theorem ivb_run : (allU 6 fun m => doneQ { T := ecT m } [] fIsVB [entR] [] [] (bR (Nat.beq m 5)) []) = true := by kernel_rfl
noncomputable def hoB : Tb := { Y := [⟨fEncOf, [entR], sT 4⟩, ⟨fHash, [sT 4], sU 54⟩] }
set_option maxRecDepth 100000 in
theorem hob_run : doneQ hoB [] fHashOf [entR] [.int 54 (sU 54)] [] (sU 54) [] = true := by kernel_rfl
def ckD : List RV := [.slN 0 30 32, sI 731, .slN 0 9 20]
def ckLL : List LNE := [⟨30, 32, sI 730⟩, ⟨9, 20, sI 604⟩]
/-- The number i of the first tests: how many sticks there are, and the parish. -/
def kft (i : Nat) (q : Bool) : List TE :=
  if i = 0 then [⟨.bin .geq, sI 730, lI 1, bR q⟩, ⟨.bin .lss, sI 730, lI 1, bR (!q)⟩] else if i = 1 then [⟨.bin .leq, sI 730, lI 64, bR q⟩, ⟨.bin .gtr, sI 730, lI 64, bR (!q)⟩]
  else if i = 2 then [⟨.bin .geq, sI 731, lI 0, bR q⟩, ⟨.bin .lss, sI 731, lI 0, bR (!q)⟩] else [⟨.bin .leq, sI 731, lI 7, bR q⟩, ⟨.bin .geq, sI 731, lI 8, bR (!q)⟩]
def kfT (m : Nat) : List TE := (List.range (Nat.min (m + 1) 4)).flatMap fun i => kft i (Nat.blt i m)
noncomputable def kfA (m : Nat) : Tb := { T := kfT m, LL := ckLL }
def kfE (m : Nat) : Int := if Nat.blt m 2 then 80 else 1
set_option maxRecDepth 100000 in
theorem kf_no : (allU 4 fun m => doneQ (kfA m) [] fCkLog ckD [] [] (.tup [lI 0, lI (kfE m)]) [] && doneQ (kfA m) [] fRCkLog ckD [] [] (.tup [lI 0, lI (kfE m)]) []) = true := by kernel_rfl
def kgB : RH := [some (.lstA 30), some (.lstA 9)]
noncomputable def kgP : St := ⟨patW [(0, .slA 0 30 32), (1, sI 731), (8, sU 732), (21, .slA 1 9 20), (22, sI 604), (23, sI 605)] 69 0, kgB⟩
noncomputable def krP : St := ⟨patW [(0, .slA 0 30 32), (1, sI 731), (2, .slA 1 9 20), (8, sU 732), (9, sI 605)] 86 0, kgB⟩
noncomputable def klP (q : Bool) : St := if q then kgP else krP
def klF (q : Bool) : Nat := if q then fCkLog else fRCkLog
def klS (k h : RV) : List SE := [.int 604 (sI 604), .int 605 k, .int 730 (sI 730), .int 731 (sI 731), .int 732 h, .lst 30 30, .lst 9 9]
set_option maxRecDepth 100000 in
theorem kl_enter : (all2 fun q => atH (entN (kfA 4) [] (klF q) ckD) (klF q) 0 (klS (lI 0) (lU 0)) [0, 1] (klP q)) = true := by kernel_rfl
/-- The number i of the tests of an entry of a log. -/
def klt (i : Nat) (q : Bool) : List TE := if i = 1 then [⟨.ieq, sI 50, sI 731, bR q⟩] else if i = 2 then [⟨.ieq, sI 51, sI 605, bR q⟩] else if i = 3 then [⟨.bin .geq, sI 605, sI 730, bR (!q)⟩, ⟨.inb, sI 605, sI 730, bR q⟩] else if i = 4 then [⟨.ieq, sU 0, sU 732, bR q⟩] else []
def kly (i : Nat) (q : Bool) : List YE := if i = 0 then [⟨fIsVB, [entR], bR q⟩, ⟨fRValid, [entR], bR q⟩] else []
def klT (m : Nat) : List TE := (List.range (Nat.min (m + 1) 5)).flatMap fun i => klt i (Nat.blt i m)
def klY (m : Nat) : List YE := (List.range (Nat.min (m + 1) 5)).flatMap fun i => kly i (Nat.blt i m)
def entKB : List RV := [sI 50, sI 51, sU 0, sT 1] ++ (List.range 16).map fun i => sU (300 + i)
noncomputable def klN (m : Nat) : Tb := { T := stpT true ++ klT m, LL := ckLL, LX := [⟨9, 605, entKB⟩], Y := klY m }
noncomputable def klA (b : Bool) : Tb := { T := stpT true ++ klT 5, LL := ckLL, LX := [⟨9, 605, entKB⟩, ⟨30, 605, stkC⟩], Y := klY 5 ++ ([⟨fVerB, [stkR, entR], lI (if b then 0 else 82)⟩, ⟨fFits, [stkR, entR], bR b⟩] ++ (if b then [⟨fHashOf, [entR], sU 733⟩, ⟨fRHashOf, [entR], sU 733⟩] else [])) }
noncomputable def klE : Tb := { T := stpT false, LL := ckLL }
end Go.Proofs.Z

namespace Go.Proofs.Z
open Go Go.RowKit Go.Proofs Go.Ri Go.Proofs.Z.Fa
/-! CheckLog of both packages: runs. -/
set_option maxRecDepth 100000 in
theorem kl_bad : (all2 fun q => allU 5 fun m => endF (klN m) (klF q) (fromH (klN m) [] (klF q) 0 (klP q)) (.tup [sI 605, lI 81])) = true := by kernel_rfl
set_option maxRecDepth 100000 in
theorem kl_seal : (all2 fun q => endF (klA false) (klF q) (fromH (klA false) [] (klF q) 0 (klP q)) (.tup [sI 605, lI 82])) = true := by kernel_rfl
set_option maxRecDepth 100000 in
theorem kl_again : (all2 fun q => atH (fromH (klA true) [] (klF q) 0 (klP q)) (klF q) 0 (klS (sI 606) (sU 733)) [0, 1] (klP q)) = true := by kernel_rfl
set_option maxRecDepth 100000 in
theorem kl_end : (all2 fun q => endF klE (klF q) (fromH klE [] (klF q) 0 (klP q)) (.tup [lI 0, lI 0])) = true := by kernel_rfl
end Go.Proofs.Z

namespace Go.Proofs.Z
open Go Go.RowKit Go.Proofs Go.Ri Go.Proofs.Z.Fa
/-! CheckLog of both packages: contract. -/
def Ent.vl (e : Ent) : Value := entVal e.p e.n e.x e.s e.se
def Ent.cl (e : Ent) : Nat := eCls e.p e.n e.s.size
def fitEB (st : Nat → Int) (A : Ent) : Bool := fitB (fun k => imageM (A.se k)) st (digM A.p A.n A.x A.s)
def hashEn (A : Ent) : Int := hashE A.p A.n A.x A.s A.se
theorem isvb_ans {A : Ent} : Ans fIsVB [A.vl] (.bool (Nat.beq A.cl 5)) := by
  have hT := @ecX_true (ecV A.p A.n A.x A.s A.se) A.p A.n A.s (eCls A.p A.n A.s.size) rfl rfl rfl rfl rfl
  have ht : @TbOK (ecV A.p A.n A.x A.s A.se) { T := ecT (eCls A.p A.n A.s.size) } := by
    letI : Val := ecV A.p A.n A.x A.s A.se
    exact { T := hT }
  have hle := eCls_le A.p A.n A.s.size
  exact done_val _ ht (allU_lt ivb_run _ (by omega)) rfl (holds_all fz) rfl rfl ec_args
theorem hob_core {p n x : Int} {s : ByteArray} {se : Nat → Int} {h : Int} {e : ByteArray} (hE : Ans fEncOf [entVal p n x s se] (.string e)) (hH : Ans fHash [.string e] (.int .u64 h)) : Ans fHashOf [entVal p n x s se] (.int .u64 h) := by
  have hc : @cvF ((hoNm p n x s se h e).val fun _ => undef) entR = entVal p n x s se := by
    refine @entG_of ((hoNm p n x s se h e).val fun _ => undef) _ _ _ _ 300 p n x s se rfl rfl rfl rfl fun i hi => ?_
    show (if 300 + i = 54 then h else ecI p n x s.size se (300 + i)) = se i
    rw [if_neg (by omega), ecI_se i hi]
  have ht : @TbOK ((hoNm p n x s se h e).val fun _ => undef) hoB := by
    have y : Ans fEncOf [@cvF ((hoNm p n x s se h e).val fun _ => undef) entR] (.string e) := by
      rw [hc]
      exact hE
    letI : Val := (hoNm p n x s se h e).val fun _ => undef
    exact { Y := fa y (fa hH fz) }
  refine done_val _ ht hob_run rfl (holds_all (fa ⟨.u64, h, rfl, rfl⟩ fz)) rfl rfl fun w => ?_
  have h := @nval_flat ((hoNm p n x s se h e).val fun _ => undef) w [entR] rfl
  rw [show [entR].map (@cvF ((hoNm p n x s se _ e).val fun _ => undef)) = [entVal p n x s se] from congrArg (fun z => [z]) hc] at h
  exact h
def hoF (q : Bool) : Nat := if q then fHashOf else fRHashOf
theorem hashOf2_ans (q : Bool) {A : Ent} (hc : A.cl = 5) (hA : EntOK A) : Ans (hoF q) [A.vl] (.int .u64 (hashEn A)) := by
  unfold hashEn
  cases q
  · exact hashOf_ans hc hA.x hA.se
  · rw [hashE_is]
    refine hob_core (enc0_ans true hc hA.x hA.se) (hash_ans true _ ?_)
    have := (eCls_in hc).2.2.2.2
    rw [ba_size, encL_len]
    omega
theorem fitsB_core {A : Ent} {st im : Nat → Int} {d : Int} (hd : 0 ≤ d ∧ d < 65536) (hi : ∀ q k, k < 16 → Ans (imF q) [.int .u64 (A.se k)] (.int .u64 (im k))) (hD : Ans fDigest [A.vl] (tup2 (.int .i64 d) (.int .i64 0))) (hR : Ans fRDigest0 [A.vl] (.int .i64 d)) : Ans fFits [stkV st, A.vl] (.bool (fitB im st d)) := by
  have := vloop (va := .bool true) (vb := .bool false) f_enter (allU2 f_again) (allU2 f_bad) f_end (fun _ => rfl) (fun _ => rfl) (st := st) (im := im) hd hi hD hR
  cases h : fitB im st d <;> rw [h] at this <;> exact this
theorem fitsB_ans {A : Ent} {st : Nat → Int} (hA : EntOK A) (h : A.cl = 5) : Ans fFits [stkV st, A.vl] (.bool (fitEB st A)) := by
  have hD := @digest_ans true A.p A.n A.x A.s A.se hA.x
  have h5 : ¬ eCls A.p A.n A.s.size < 5 := by unfold Ent.cl at h; omega
  rw [show digV A.p A.n A.x A.s = digM A.p A.n A.x A.s from if_neg h5, show digE A.p A.n A.s.size = 0 from if_neg h5] at hD
  have hR := @dig0_ans false A.p A.n A.x A.s A.se h hA.x
  have hi : ∀ q k, k < 16 → Ans (imF q) [.int .u64 (A.se k)] (.int .u64 (imageM (A.se k))) := fun q k hk => image_ans q _ (hA.se k hk).1 (hA.se k hk).2
  have hd := digM_in A.p A.n A.x A.s
  unfold fitEB
  generalize digM A.p A.n A.x A.s = d at *
  exact fitsB_core (im := fun k => imageM (A.se k)) hd hi hD hR
theorem verB_ans {A : Ent} {st : Nat → Int} (hA : EntOK A) (h : A.cl = 5) : Ans fVerB [stkV st, A.vl] (.int .i64 (if fitEB st A then 0 else 82)) := by
  have := verify_ans true (st := st) (p := A.p) (n := A.n) (s := A.s) hA.x hA.se
  unfold verV at this
  rw [if_neg (by unfold Ent.cl at h; omega)] at this
  exact this
/-- Sticks, one behind the other. -/
def stksL (sts : List (Nat → Int)) : List Value := sts.flatMap stCs
theorem stksL_len : ∀ sts : List (Nat → Int), (stksL sts).length = sts.length * 32
  | [] => rfl
  | s :: sts => by
    show (stCs s ++ stksL sts).length = _
    rw [List.length_append, stksL_len sts, stCs_len, List.length_cons]
    omega
theorem stksL_at : ∀ (sts : List (Nat → Int)) (k : Nat), k < sts.length → ((stksL sts).drop (k * 32)).take 32 = stCs (sts.getD k fun _ => 0)
  | s :: sts, 0, _ => by
    show ((stCs s ++ stksL sts).drop 0).take 32 = stCs s
    rw [List.drop_zero, List.take_append_of_le_length (by rw [stCs_len]; omega), List.take_of_length_le (by rw [stCs_len]; omega)]
  | s :: sts, k + 1, h => by
    show ((stCs s ++ stksL sts).drop ((k + 1) * 32)).take 32 = stCs (sts.getD k fun _ => 0)
    rw [show (k + 1) * 32 = (stCs s).length + k * 32 by rw [stCs_len]; omega, ← List.drop_drop, List.drop_left]
    exact stksL_at sts k (by simpa using h)
def klTest (c k : Nat) (par h : Int) (e : Ent) (i : Nat) : Bool := if i = 0 then Nat.beq e.cl 5 else if i = 1 then e.p == par else if i = 2 then e.n == (k : Int) else if i = 3 then decide (k < c) else e.x == h
def klCls (c k : Nat) (par h : Int) (e : Ent) : Nat := firstBad (klTest c k par h e) 5 0
theorem klCls_le (c k : Nat) (par h : Int) (e : Ent) : klCls c k par h e ≤ 5 := by
  have : klCls c k par h e ≤ 0 + 5 := firstBad_le (klTest c k par h e) 5 0
  omega
/-- What a log's check comes to, from a place on. -/
def logM (sts : List (Nat → Int)) (par : Int) : List Ent → Nat → Int → Int × Int
  | [], _, _ => (0, 0)
  | e :: es, k, h => if klCls sts.length k par h e < 5 then ((k : Int), 81) else if fitEB (sts.getD k fun _ => 0) e then logM sts par es (k + 1) (hashEn e) else ((k : Int), 82)
def kfTest (c : Nat) (par : Int) (i : Nat) : Bool := if i = 0 then decide (1 ≤ c) else if i = 1 then decide (c ≤ 64) else if i = 2 then decide (0 ≤ par) else decide (par ≤ 7)
def kfCls (c : Nat) (par : Int) : Nat := firstBad (kfTest c par) 4 0
def ckM (sts : List (Nat → Int)) (par : Int) (es : List Ent) : Int × Int := if kfCls sts.length par < 4 then (0, kfE (kfCls sts.length par)) else logM sts par es 0 0
def klX (A : Ent) (st : Nat → Int) (c : Nat) (par h h' : Int) (k : Nat) : Int := if k = 0 then A.x else if k = 50 then A.p else if k = 51 then A.n else if k = 730 then (c : Int) else if k = 731 then par else if k = 732 then h else if k = 733 then h' else if k < 300 then st (k - 200) else A.se (k - 300)
def klZ (l9 l30 : List Value) (k : Nat) : List Value := if k = 9 then l9 else l30
section
variable {n k : Nat} {A : Ent} {st : Nat → Int} {c : Nat} {par h h' : Int} {l9 l30 : List Value} {W : Nat → Value}
theorem kl9 : ((wdNm 0 0 0 0 n k [] (klX A st c par h h') (fun _ => A.s) (klZ l9 l30)).val W).L 9 = l9 := rfl
theorem kl30 : ((wdNm 0 0 0 0 n k [] (klX A st c par h h') (fun _ => A.s) (klZ l9 l30)).val W).L 30 = l30 := rfl
theorem kl50 : @cv ((wdNm 0 0 0 0 n k [] (klX A st c par h h') (fun _ => A.s) (klZ l9 l30)).val W) (sI 50) = .int .i64 A.p := congrArg (Value.int .i64) ((show wdI 0 0 0 0 n k (klX A st c par h h') 50 = (klX A st c par h h') 50 from wdI_x (by omega)).trans (by simp [klX]))
theorem kl51 : @cv ((wdNm 0 0 0 0 n k [] (klX A st c par h h') (fun _ => A.s) (klZ l9 l30)).val W) (sI 51) = .int .i64 A.n := congrArg (Value.int .i64) ((show wdI 0 0 0 0 n k (klX A st c par h h') 51 = (klX A st c par h h') 51 from wdI_x (by omega)).trans (by simp [klX]))
theorem kl0 : @cv ((wdNm 0 0 0 0 n k [] (klX A st c par h h') (fun _ => A.s) (klZ l9 l30)).val W) (sU 0) = .int .u64 A.x := congrArg (Value.int .u64) ((show wdI 0 0 0 0 n k (klX A st c par h h') 0 = (klX A st c par h h') 0 from wdI_x (by omega)).trans (by simp [klX]))
theorem kl730 : @cv ((wdNm 0 0 0 0 n k [] (klX A st c par h h') (fun _ => A.s) (klZ l9 l30)).val W) (sI 730) = .int .i64 (c : Nat) := congrArg (Value.int .i64) ((show wdI 0 0 0 0 n k (klX A st c par h h') 730 = (klX A st c par h h') 730 from wdI_x (by omega)).trans (by simp [klX]))
theorem kl731 : @cv ((wdNm 0 0 0 0 n k [] (klX A st c par h h') (fun _ => A.s) (klZ l9 l30)).val W) (sI 731) = .int .i64 par := congrArg (Value.int .i64) ((show wdI 0 0 0 0 n k (klX A st c par h h') 731 = (klX A st c par h h') 731 from wdI_x (by omega)).trans (by simp [klX]))
theorem kl732 : @cv ((wdNm 0 0 0 0 n k [] (klX A st c par h h') (fun _ => A.s) (klZ l9 l30)).val W) (sU 732) = .int .u64 h := congrArg (Value.int .u64) ((show wdI 0 0 0 0 n k (klX A st c par h h') 732 = (klX A st c par h h') 732 from wdI_x (by omega)).trans (by simp [klX]))
theorem kl733 : @cv ((wdNm 0 0 0 0 n k [] (klX A st c par h h') (fun _ => A.s) (klZ l9 l30)).val W) (sU 733) = .int .u64 h' := congrArg (Value.int .u64) ((show wdI 0 0 0 0 n k (klX A st c par h h') 733 = (klX A st c par h h') 733 from wdI_x (by omega)).trans (by simp [klX]))
theorem kl_se (i : Nat) (hi : i < 16) : wdI 0 0 0 0 n k (klX A st c par h h') (300 + i) = A.se i := by
  rw [wdI_x (by omega)]
  unfold klX
  rw [if_neg (by omega), if_neg (by omega), if_neg (by omega), if_neg (by omega), if_neg (by omega), if_neg (by omega), if_neg (by omega), if_neg (by omega), Nat.add_sub_cancel_left]
theorem kl_cs : entKB.map (@cv ((wdNm 0 0 0 0 n k [] (klX A st c par h h') (fun _ => A.s) (klZ l9 l30)).val W)) = A.cs := @ent_cells ((wdNm 0 0 0 0 n k [] (klX A st c par h h') (fun _ => A.s) (klZ l9 l30)).val W) [sI 50, sI 51, sU 0, sT 1] ((List.range 16).map fun i => sU (300 + i)) A.p A.n A.x A.s A.se (@cv4 ((wdNm 0 0 0 0 n k [] (klX A st c par h h') (fun _ => A.s) (klZ l9 l30)).val W) _ _ _ _ _ _ _ _ kl50 kl51 kl0 rfl) (@ss_cv ((wdNm 0 0 0 0 n k [] (klX A st c par h h') (fun _ => A.s) (klZ l9 l30)).val W) 300 A.se kl_se)
theorem kl_ent : @cvF ((wdNm 0 0 0 0 n k [] (klX A st c par h h') (fun _ => A.s) (klZ l9 l30)).val W) entR = A.vl := congrArg (fun z : List Value => Value.agg z.toArray) kl_cs
theorem kl_sk : stkC.map (@cv ((wdNm 0 0 0 0 n k [] (klX A st c par h h') (fun _ => A.s) (klZ l9 l30)).val W)) = stCs st := by
  unfold stkC stCs
  rw [List.map_map]
  refine List.map_congr_left fun j hj => ?_
  have hj := List.mem_range.1 hj
  show Value.int .u64 (wdI 0 0 0 0 n k (klX A st c par h h') (200 + j)) = _
  rw [wdI_x (by omega)]
  unfold klX
  rw [if_neg (by omega), if_neg (by omega), if_neg (by omega), if_neg (by omega), if_neg (by omega), if_neg (by omega), if_neg (by omega), if_pos (by omega), Nat.add_sub_cancel_left]
theorem kl_stk : @cvF ((wdNm 0 0 0 0 n k [] (klX A st c par h h') (fun _ => A.s) (klZ l9 l30)).val W) stkR = stkV st := congrArg (fun z : List Value => Value.agg z.toArray) kl_sk
theorem kl_LL {es : List Ent} {sts : List (Nat → Int)} (h9 : l9 = entsL es) (h30 : l30 = stksL sts) (hn : n = es.length) (hc : c = sts.length) : ∀ t, t ∈ ckLL → @LLTrue ((wdNm 0 0 0 0 n k [] (klX A st c par h h') (fun _ => A.s) (klZ l9 l30)).val W) t := by
  refine fa ⟨rfl, c, Nat.succ_pos 31, ?_, kl730⟩ (fa ⟨rfl, n, Nat.succ_pos 19, ?_, w604⟩ fz)
  · show l30.length = _
    rw [h30, stksL_len, hc]
  · show l9.length = _
    rw [h9, entsL_len, hn]
theorem klT_true : ∀ t, t ∈ klT (klCls c k par h A) → @TETrue ((wdNm 0 0 0 0 n k [] (klX A st c par h h') (fun _ => A.s) (klZ l9 l30)).val W) t := by
  have e605 : @cv ((wdNm 0 0 0 0 n k [] (klX A st c par h h') (fun _ => A.s) (klZ l9 l30)).val W) (sI 605) = .int .i64 (k : Nat) := w605
  intro t ht
  obtain ⟨j, hj, ht⟩ := List.mem_flatMap.1 ht
  have hj : j < Nat.min (klCls c k par h A + 1) 5 := List.mem_range.1 hj
  have g1 : j < klCls c k par h A + 1 := Nat.lt_of_lt_of_le hj (Nat.min_le_left _ _)
  have g2 : j < 5 := Nat.lt_of_lt_of_le hj (Nat.min_le_right _ _)
  have hq : Nat.blt j (klCls c k par h A) = klTest c k par h A j := by
    rcases Nat.lt_or_ge j (klCls c k par h A) with hl | hl
    · rw [firstBad_pass (klTest c k par h A) 5 0 j (Nat.zero_le _) hl]
      exact Nat.ble_eq_true_of_le hl
    · obtain rfl : j = klCls c k par h A := by omega
      rw [show klTest c k par h A (klCls c k par h A) = false from firstBad_fail (klTest c k par h A) 5 0 (by show klCls c k par h A < 0 + 5; omega)]
      have := Nat.lt_irrefl (klCls c k par h A)
      exact Bool.eq_false_iff.2 fun hc => this (Nat.le_of_ble_eq_true hc)
  rw [hq] at ht
  have key : ∀ t, t ∈ klt j (klTest c k par h A j) → @TETrue ((wdNm 0 0 0 0 n k [] (klX A st c par h h') (fun _ => A.s) (klZ l9 l30)).val W) t := by
    match j, g2 with
    | 0, _ => exact fz
    | 1, _ => exact fa (@f_ieq ((wdNm 0 0 0 0 n k [] (klX A st c par h h') (fun _ => A.s) (klZ l9 l30)).val W) _ _ _ _ _ _ kl50 kl731 rfl) fz
    | 2, _ => exact fa (@f_ieq ((wdNm 0 0 0 0 n k [] (klX A st c par h h') (fun _ => A.s) (klZ l9 l30)).val W) _ _ _ _ _ _ kl51 e605 rfl) fz
    | 3, _ =>
      refine fa (@f_geq ((wdNm 0 0 0 0 n k [] (klX A st c par h h') (fun _ => A.s) (klZ l9 l30)).val W) _ _ _ _ _ _ e605 kl730 (by show decide ((k : Int) ≥ (c : Int)) = !decide (k < c); rw [← decide_not]; exact decide_eq_decide.2 (by omega))) (fa ⟨rfl, .i64, .i64, (k : Int), (c : Int), e605, kl730, ?_⟩ fz)
      show Value.bool (decide (k < c)) = _
      congr 1
      exact decide_eq_decide.2 (by omega)
    | 4, _ => exact fa (@f_ieq ((wdNm 0 0 0 0 n k [] (klX A st c par h h') (fun _ => A.s) (klZ l9 l30)).val W) _ _ _ _ _ _ kl0 kl732 rfl) fz
  exact key t ht
theorem klY_true : ∀ t, t ∈ klY (klCls c k par h A) → Ans t.f (t.a.map (@cvF ((wdNm 0 0 0 0 n k [] (klX A st c par h h') (fun _ => A.s) (klZ l9 l30)).val W))) (@cvF ((wdNm 0 0 0 0 n k [] (klX A st c par h h') (fun _ => A.s) (klZ l9 l30)).val W) t.r) := by
  intro t ht
  obtain ⟨j, hj, ht⟩ := List.mem_flatMap.1 ht
  have hj : j < Nat.min (klCls c k par h A + 1) 5 := List.mem_range.1 hj
  have g1 : j < klCls c k par h A + 1 := Nat.lt_of_lt_of_le hj (Nat.min_le_left _ _)
  have g2 : j < 5 := Nat.lt_of_lt_of_le hj (Nat.min_le_right _ _)
  have hq : Nat.blt j (klCls c k par h A) = klTest c k par h A j := by
    rcases Nat.lt_or_ge j (klCls c k par h A) with hl | hl
    · rw [firstBad_pass (klTest c k par h A) 5 0 j (Nat.zero_le _) hl]
      exact Nat.ble_eq_true_of_le hl
    · obtain rfl : j = klCls c k par h A := by omega
      rw [show klTest c k par h A (klCls c k par h A) = false from firstBad_fail (klTest c k par h A) 5 0 (by show klCls c k par h A < 0 + 5; omega)]
      have := Nat.lt_irrefl (klCls c k par h A)
      exact Bool.eq_false_iff.2 fun hc => this (Nat.le_of_ble_eq_true hc)
  rw [hq] at ht
  have key : ∀ t, t ∈ kly j (klTest c k par h A j) → Ans t.f (t.a.map (@cvF ((wdNm 0 0 0 0 n k [] (klX A st c par h h') (fun _ => A.s) (klZ l9 l30)).val W))) (@cvF ((wdNm 0 0 0 0 n k [] (klX A st c par h h') (fun _ => A.s) (klZ l9 l30)).val W) t.r) := by
    match j, g2 with
    | 0, _ =>
      have a1 : Ans fIsVB [@cvF ((wdNm 0 0 0 0 n k [] (klX A st c par h h') (fun _ => A.s) (klZ l9 l30)).val W) entR] (.bool (Nat.beq A.cl 5)) := by rw [kl_ent]; exact isvb_ans
      have a2 : Ans fRValid [@cvF ((wdNm 0 0 0 0 n k [] (klX A st c par h h') (fun _ => A.s) (klZ l9 l30)).val W) entR] (.bool (Nat.beq A.cl 5)) := by rw [kl_ent]; exact valid_ans
      exact fa a1 (fa a2 fz)
    | 1, _ => exact fz
    | 2, _ => exact fz
    | 3, _ => exact fz
    | 4, _ => exact fz
  exact key t ht
end
end Go.Proofs.Z

namespace Go.Proofs.Z
open Go Go.RowKit Go.Proofs Go.Ri Go.Proofs.Z.Fa
/-! CheckLog of both packages: contract. -/
theorem kfT_true {n k : Nat} {A : Ent} {st : Nat → Int} {c : Nat} {par h h' : Int} {l9 l30 : List Value} {W : Nat → Value} {m : Nat} (hm : kfCls c par = m) : ∀ t, t ∈ kfT m → @TETrue ((wdNm 0 0 0 0 n k [] (klX A st c par h h') (fun _ => A.s) (klZ l9 l30)).val W) t := by
  intro t ht
  obtain ⟨j, hj, ht⟩ := List.mem_flatMap.1 ht
  subst hm
  have hj : j < Nat.min (kfCls c par + 1) 4 := List.mem_range.1 hj
  have g1 : j < kfCls c par + 1 := Nat.lt_of_lt_of_le hj (Nat.min_le_left _ _)
  have g2 : j < 4 := Nat.lt_of_lt_of_le hj (Nat.min_le_right _ _)
  have hq : Nat.blt j (kfCls c par) = kfTest c par j := by
    rcases Nat.lt_or_ge j (kfCls c par) with hl | hl
    · rw [firstBad_pass (kfTest c par) 4 0 j (Nat.zero_le _) hl]
      exact Nat.ble_eq_true_of_le hl
    · obtain rfl : j = kfCls c par := by omega
      rw [show kfTest c par (kfCls c par) = false from firstBad_fail (kfTest c par) 4 0 (by show kfCls c par < 0 + 4; omega)]
      have := Nat.lt_irrefl (kfCls c par)
      exact Bool.eq_false_iff.2 fun hc => this (Nat.le_of_ble_eq_true hc)
  rw [hq] at ht
  have key : ∀ t, t ∈ kft j (kfTest c par j) → @TETrue ((wdNm 0 0 0 0 n k [] (klX A st c par h h') (fun _ => A.s) (klZ l9 l30)).val W) t := by
    match j, g2 with
    | 0, _ => exact fa (@f_geq ((wdNm 0 0 0 0 n k [] (klX A st c par h h') (fun _ => A.s) (klZ l9 l30)).val W) _ _ _ _ _ _ kl730 rfl (by show decide ((c : Int) ≥ 1) = decide (1 ≤ c); exact decide_eq_decide.2 (by omega))) (fa (@f_lss ((wdNm 0 0 0 0 n k [] (klX A st c par h h') (fun _ => A.s) (klZ l9 l30)).val W) _ _ _ _ _ _ kl730 rfl (by show decide ((c : Int) < 1) = !decide (1 ≤ c); rw [← decide_not]; exact decide_eq_decide.2 (by omega))) fz)
    | 1, _ => exact fa (@f_leq ((wdNm 0 0 0 0 n k [] (klX A st c par h h') (fun _ => A.s) (klZ l9 l30)).val W) _ _ _ _ _ _ kl730 rfl (by show decide ((c : Int) ≤ 64) = decide (c ≤ 64); exact decide_eq_decide.2 (by omega))) (fa (@f_gtr ((wdNm 0 0 0 0 n k [] (klX A st c par h h') (fun _ => A.s) (klZ l9 l30)).val W) _ _ _ _ _ _ kl730 rfl (by show decide ((c : Int) > 64) = !decide (c ≤ 64); rw [← decide_not]; exact decide_eq_decide.2 (by omega))) fz)
    | 2, _ => exact fa (@f_geq ((wdNm 0 0 0 0 n k [] (klX A st c par h h') (fun _ => A.s) (klZ l9 l30)).val W) _ _ _ _ _ _ kl731 rfl rfl) (fa (@f_lss ((wdNm 0 0 0 0 n k [] (klX A st c par h h') (fun _ => A.s) (klZ l9 l30)).val W) _ _ _ _ _ _ kl731 rfl (by show decide (par < 0) = !decide (0 ≤ par); rw [← decide_not]; exact decide_eq_decide.2 (by omega))) fz)
    | 3, _ => exact fa (@f_leq ((wdNm 0 0 0 0 n k [] (klX A st c par h h') (fun _ => A.s) (klZ l9 l30)).val W) _ _ _ _ _ _ kl731 rfl rfl) (fa (@f_geq ((wdNm 0 0 0 0 n k [] (klX A st c par h h') (fun _ => A.s) (klZ l9 l30)).val W) _ _ _ _ _ _ kl731 rfl (by show decide (par ≥ 8) = !decide (par ≤ 7); rw [← decide_not]; exact decide_eq_decide.2 (by omega))) fz)
  exact key t ht
/-- Names at the k-th entry. -/
structure KlG (sts : List (Nat → Int)) (par : Int) (es : List Ent) (k : Nat) (h : Int) (A : Ent) (st : Nat → Int) (h' : Int) (l9 l30 : List Value) (c : Nm) : Prop where
  gc : c = wdNm 0 0 0 0 es.length k [] (klX A st sts.length par h h') (fun _ => A.s) (klZ l9 l30)
  gA : A = es.getD k entZ
  gst : st = sts.getD k fun _ => 0
  gh : h' = hashEn A
  g9 : l9 = entsL es
  g30 : l30 = stksL sts
def KlN (sts : List (Nat → Int)) (par : Int) (es : List Ent) (k : Nat) (h : Int) (c : Nm) : Prop := ∃ A st h' l9 l30, KlG sts par es k h A st h' l9 l30 c
theorem klN_ex (sts : List (Nat → Int)) (par : Int) (es : List Ent) (k : Nat) (h : Int) : ∃ c, KlN sts par es k h c := ⟨_, _, _, _, _, _, ⟨rfl, rfl, rfl, rfl, rfl, rfl⟩⟩
theorem klS_ok {n k k' : Nat} {A A' : Ent} {st st' : Nat → Int} {c : Nat} {par h h' m m' : Int} {l9 l30 m9 m30 : List Value} {W W' : Nat → Value} {a b : RV} (ha : @cv ((wdNm 0 0 0 0 n k [] (klX A st c par h h') (fun _ => A.s) (klZ l9 l30)).val W) a = .int .i64 (k' : Nat)) (hb : @cv ((wdNm 0 0 0 0 n k [] (klX A st c par h h') (fun _ => A.s) (klZ l9 l30)).val W) b = .int .u64 m) (h30 : m30 = l30) (h9 : m9 = l9) :
    ∀ e, e ∈ klS a b → @okSE ((wdNm 0 0 0 0 n k [] (klX A st c par h h') (fun _ => A.s) (klZ l9 l30)).val W) ((wdNm 0 0 0 0 n k' [] (klX A' st' c par m m') (fun _ => A'.s) (klZ m9 m30)).val W') e := by
  have q : ∀ j (v : Int), 606 < j → klX A' st' c par m m' j = v → wdI 0 0 0 0 n k' (klX A' st' c par m m') j = v := fun j v hj hv => (wdI_x (by omega)).trans hv
  exact fa ⟨.i64, (n : Nat), w604, show wdI 0 0 0 0 n k' (klX A' st' c par m m') 604 = (n : Nat) by simp [wdI]⟩ (fa ⟨.i64, (k' : Nat), ha, show wdI 0 0 0 0 n k' (klX A' st' c par m m') 605 = (k' : Nat) by simp [wdI]⟩ (fa ⟨.i64, (c : Nat), kl730, q 730 _ (by omega) (by simp [klX])⟩ (fa ⟨.i64, par, kl731, q 731 _ (by omega) (by simp [klX])⟩ (fa ⟨.u64, m, hb, q 732 _ (by omega) (by simp [klX])⟩ (fa (kl30.trans (h30.trans kl30.symm)) (fa (kl9.trans (h9.trans kl9.symm)) fz))))))
theorem logM_cons (sts : List (Nat → Int)) (par : Int) (es : List Ent) (k : Nat) (h : Int) (hk : k < es.length) : logM sts par (es.drop k) k h = if klCls sts.length k par h (es.getD k entZ) < 5 then ((k : Int), 81) else if fitEB (sts.getD k fun _ => 0) (es.getD k entZ) then logM sts par (es.drop (k + 1)) (k + 1) (hashEn (es.getD k entZ)) else ((k : Int), 82) := by
  rw [List.drop_eq_getElem_cons hk]
  have e : es.getD k entZ = es[k] := by
    rw [List.getD_eq_getElem?_getD, List.getElem?_eq_getElem hk]
    rfl
  rw [e]
  rfl
def ckV (r : Int × Int) : Value := tup2 (.int .i64 r.1) (.int .i64 r.2)
theorem ckLog_core (q : Bool) {sts : List (Nat → Int)} {par : Int} {es : List Ent} (hes : ∀ e, e ∈ es → EntOK e) (hn : es.length ≤ 100000) {A : Ent} {st : Nat → Int} {h h' : Int} {l9 l30 : List Value} (h9 : l9 = entsL es) (h30 : l30 = stksL sts) :
    ∀ w, RoIn ro w → ∀ vs, All2 (@Go.Ri.NVal ((wdNm 0 0 0 0 es.length 0 [] (klX A st sts.length par h h') (fun _ => A.s) (klZ l9 l30)).val fun _ => undef) w) ckD vs → Calls Try.prog (klF q) vs.toArray w (DF (ckV (ckM sts par es)) w) := by
  intro w hr vs hv
  unfold ckM
  by_cases hc : kfCls sts.length par < 4
  · rw [if_pos hc]
    have hT := kfT_true (n := es.length) (k := 0) (A := A) (st := st) (h := h) (h' := h') (l9 := l9) (l30 := l30) (W := fun _ => undef) (c := sts.length) (par := par) rfl
    have hL := kl_LL (k := 0) (A := A) (st := st) (par := par) (h := h) (h' := h') (W := fun _ => undef) h9 h30 rfl rfl
    have ht : @TbOK ((wdNm 0 0 0 0 es.length 0 [] (klX A st sts.length par h h') (fun _ => A.s) (klZ l9 l30)).val fun _ => undef) (kfA (kfCls sts.length par)) := by
      letI : Val := (wdNm 0 0 0 0 es.length 0 [] (klX A st sts.length par h h') (fun _ => A.s) (klZ l9 l30)).val fun _ => undef
      exact { T := hT, LL := hL }
    have hk := allU_lt kf_no _ hc
    simp only [Bool.and_eq_true] at hk
    cases q
    · exact done_flat _ ht hk.2 rfl rfl rfl w hr vs hv
    · exact done_flat _ ht hk.1 rfl rfl rfl w hr vs hv
  · rw [if_neg hc]
    have hc4 : kfCls sts.length par = 4 := by
      have : kfCls sts.length par ≤ 0 + 4 := firstBad_le (kfTest sts.length par) 4 0
      omega
    have hT := kfT_true (n := es.length) (k := 0) (A := A) (st := st) (h := h) (h' := h') (l9 := l9) (l30 := l30) (W := fun _ => undef) hc4
    have hL := kl_LL (k := 0) (A := A) (st := st) (par := par) (h := h) (h' := h') (W := fun _ => undef) h9 h30 rfl rfl
    have ht : @TbOK ((wdNm 0 0 0 0 es.length 0 [] (klX A st sts.length par h h') (fun _ => A.s) (klZ l9 l30)).val fun _ => undef) (kfA 4) := by
      letI : Val := (wdNm 0 0 0 0 es.length 0 [] (klX A st sts.length par h h') (fun _ => A.s) (klZ l9 l30)).val fun _ => undef
      exact { T := hT, LL := hL }
    obtain ⟨r, hr0⟩ : ∃ r, logM sts par es 0 0 = r := ⟨_, rfl⟩
    rw [hr0]
    obtain ⟨c1, hc1⟩ := klN_ex sts par es 0 0
    have hc1' := hc1
    obtain ⟨A', st', m', m9, m30, hG⟩ := hc1'
    obtain ⟨rfl, _, _, _, e9, e30⟩ := hG
    refine fn_headsN (κ := Unit) (wdNm 0 0 0 0 es.length 0 [] (klX A st sts.length par h h') (fun _ => A.s) (klZ l9 l30)) (fun _ => undef) (kfA 4) [] (klF q) ckD (fun _ => 0) (fun _ => klP q) (fun m _ c => ∃ k h, k ≤ es.length ∧ m = es.length - k ∧ KlN sts par es k h c ∧ logM sts par (es.drop k) k h = r) ht (klS (lI 0) (lU 0)) [0, 1] () es.length (all2_all kl_enter q) _ (fun W' => holds_all (klS_ok (k' := 0) (m := 0) rfl rfl (e30.trans h30.symm) (e9.trans h9.symm))) ⟨0, 0, Nat.zero_le _, rfl, hc1, hr0⟩ (DF (ckV r)) ?_ w hr vs hv
    clear hc1 e9 e30 hr0 ht hT hL hv hr h9 h30
    rintro w m _ c ⟨k, h, hk, rfl, ⟨A, st, h', l9, l30, hG⟩, hres⟩ W
    obtain ⟨rfl, gA, gst, gh, g9, g30⟩ := hG
    have hL := kl_LL (k := k) (A := A) (st := st) (par := par) (h := h) (h' := h') (W := W) g9 g30 rfl rfl
    rcases Nat.lt_or_ge k es.length with hlt | hge
    · have hstp := stp_true (sd := 0) (P := 0) (N := 0) (S := 0) (n := es.length) (k := k) (l := []) (x := klX A st sts.length par h h') (y := fun _ => A.s) (z := klZ l9 l30) (W := W) (by omega) (decide_eq_true hlt)
      have hKT := klT_true (n := es.length) (k := k) (A := A) (st := st) (c := sts.length) (par := par) (h := h) (h' := h') (l9 := l9) (l30 := l30) (W := W)
      have hKY := klY_true (n := es.length) (k := k) (A := A) (st := st) (c := sts.length) (par := par) (h := h) (h' := h') (l9 := l9) (l30 := l30) (W := W)
      have hX : @LXTrue ((wdNm 0 0 0 0 es.length k [] (klX A st sts.length par h h') (fun _ => A.s) (klZ l9 l30)).val W) ⟨9, 605, entKB⟩ := by
        have e5 : wdI 0 0 0 0 es.length k (klX A st sts.length par h h') 605 = (k : Nat) := by simp [wdI]
        refine ⟨rfl, ?_, ?_⟩
        · show (wdI 0 0 0 0 es.length k (klX A st sts.length par h h') 605).toNat * 20 + 20 ≤ l9.length
          rw [e5, g9, entsL_len, Int.toNat_natCast]
          omega
        · show (l9.drop ((wdI 0 0 0 0 es.length k (klX A st sts.length par h h') 605).toNat * 20)).take 20 = entKB.map (@cv ((wdNm 0 0 0 0 es.length k [] (klX A st sts.length par h h') (fun _ => A.s) (klZ l9 l30)).val W))
          rw [e5, g9, Int.toNat_natCast, entsL_at _ _ hlt, ← gA]
          exact kl_cs.symm
      have e605 : @cv ((wdNm 0 0 0 0 es.length k [] (klX A st sts.length par h h') (fun _ => A.s) (klZ l9 l30)).val W) (sI 605) = .int .i64 (k : Nat) := w605
      have hv5 : ∀ z : Int, @cvF ((wdNm 0 0 0 0 es.length k [] (klX A st sts.length par h h') (fun _ => A.s) (klZ l9 l30)).val W) (.tup [sI 605, lI z]) = ckV ((k : Int), z) := fun z => congrArg (fun u => Value.tuple #[u, .int .i64 z]) e605
      have hu := logM_cons sts par es k h hlt
      rw [hres, ← gA, ← gst] at hu
      have hAok : EntOK A := by rw [gA]; exact getD_ok hes k
      by_cases h5 : klCls sts.length k par h A < 5
      · rw [if_pos h5] at hu
        have ht : @TbOK ((wdNm 0 0 0 0 es.length k [] (klX A st sts.length par h h') (fun _ => A.s) (klZ l9 l30)).val W) (klN (klCls sts.length k par h A)) := by
          letI : Val := (wdNm 0 0 0 0 es.length k [] (klX A st sts.length par h h') (fun _ => A.s) (klZ l9 l30)).val W
          exact { T := fapp hstp hKT, LL := hL, LX := fa hX fz, Y := hKY }
        rw [hu]
        exact stepH_outF (klN (klCls sts.length k par h A)) [] ht (.tup [sI 605, lI 81]) (allU_lt (all2_all kl_bad q) _ h5) (hv5 81)
      · rw [if_neg h5] at hu
        have hc5 : klCls sts.length k par h A = 5 := by have := klCls_le sts.length k par h A; omega
        have gtest := fun j hj => firstBad_pass (klTest sts.length k par h A) 5 0 j (Nat.zero_le _) (show j < klCls sts.length k par h A by rw [hc5]; exact hj)
        have hcl : A.cl = 5 := Nat.eq_of_beq_eq_true (gtest 0 (by omega))
        have hkc : k < sts.length := of_decide_eq_true (gtest 3 (by omega))
        rw [hc5] at hKT hKY
        have hX2 : @LXTrue ((wdNm 0 0 0 0 es.length k [] (klX A st sts.length par h h') (fun _ => A.s) (klZ l9 l30)).val W) ⟨30, 605, stkC⟩ := by
          have e5 : wdI 0 0 0 0 es.length k (klX A st sts.length par h h') 605 = (k : Nat) := by simp [wdI]
          refine ⟨rfl, ?_, ?_⟩
          · show (wdI 0 0 0 0 es.length k (klX A st sts.length par h h') 605).toNat * 32 + 32 ≤ l30.length
            rw [e5, g30, stksL_len, Int.toNat_natCast]
            omega
          · show (l30.drop ((wdI 0 0 0 0 es.length k (klX A st sts.length par h h') 605).toNat * 32)).take 32 = stkC.map (@cv ((wdNm 0 0 0 0 es.length k [] (klX A st sts.length par h h') (fun _ => A.s) (klZ l9 l30)).val W))
            rw [e5, g30, Int.toNat_natCast, stksL_at _ _ hkc, ← gst]
            exact kl_sk.symm
        have y1 : Ans fVerB [stkV st, A.vl] (.int .i64 (if fitEB st A then 0 else 82)) := verB_ans hAok hcl
        have y2 : Ans fFits [stkV st, A.vl] (.bool (fitEB st A)) := fitsB_ans hAok hcl
        have y3 := fun q => hashOf2_ans q hcl hAok
        rw [← gh] at y3 hu
        generalize fitEB st A = b at *
        have eS : @cvF ((wdNm 0 0 0 0 es.length k [] (klX A st sts.length par h h') (fun _ => A.s) (klZ l9 l30)).val W) stkR = stkV st := kl_stk
        have eE : @cvF ((wdNm 0 0 0 0 es.length k [] (klX A st sts.length par h h') (fun _ => A.s) (klZ l9 l30)).val W) entR = A.vl := kl_ent
        have eH : @cvF ((wdNm 0 0 0 0 es.length k [] (klX A st sts.length par h h') (fun _ => A.s) (klZ l9 l30)).val W) (sU 733) = .int .u64 h' := kl733
        rw [← eS, ← eE] at y1 y2
        have y3' : ∀ q, Ans (hoF q) [@cvF ((wdNm 0 0 0 0 es.length k [] (klX A st sts.length par h h') (fun _ => A.s) (klZ l9 l30)).val W) entR] (@cvF ((wdNm 0 0 0 0 es.length k [] (klX A st sts.length par h h') (fun _ => A.s) (klZ l9 l30)).val W) (sU 733)) := fun q => by
          rw [eE, eH]
          exact y3 q
        clear y3 eS eE eH
        cases b
        · have ht : @TbOK ((wdNm 0 0 0 0 es.length k [] (klX A st sts.length par h h') (fun _ => A.s) (klZ l9 l30)).val W) (klA false) := by
            letI : Val := (wdNm 0 0 0 0 es.length k [] (klX A st sts.length par h h') (fun _ => A.s) (klZ l9 l30)).val W
            exact { T := fapp hstp hKT, LL := hL, LX := fa hX (fa hX2 fz), Y := fapp hKY (fapp (fa y1 (fa y2 fz)) fz) }
          rw [hu]
          exact stepH_outF (klA false) [] ht (.tup [sI 605, lI 82]) (all2_all kl_seal q) (hv5 82)
        · have ht : @TbOK ((wdNm 0 0 0 0 es.length k [] (klX A st sts.length par h h') (fun _ => A.s) (klZ l9 l30)).val W) (klA true) := by
            letI : Val := (wdNm 0 0 0 0 es.length k [] (klX A st sts.length par h h') (fun _ => A.s) (klZ l9 l30)).val W
            exact { T := fapp hstp hKT, LL := hL, LX := fa hX (fa hX2 fz), Y := fapp hKY (fapp (fa y1 (fa y2 fz)) (fa (y3' true) (fa (y3' false) fz))) }
          obtain ⟨c2, hc2⟩ := klN_ex sts par es (k + 1) h'
          have hc2' := hc2
          obtain ⟨A', st', m', m9, m30, hG'⟩ := hc2'
          obtain ⟨rfl, _, _, _, e9, e30⟩ := hG'
          exact stepH_to (klA true) [] ht (klS (sI 606) (sU 733)) [0, 1] rfl () _ (all2_all kl_again q) (fun W' => holds_all (klS_ok (k' := k + 1) (m := h') w606 kl733 (e30.trans g30.symm) (e9.trans g9.symm))) ⟨es.length - (k + 1), by omega, k + 1, h', hlt, rfl, hc2, hu.symm⟩
    · obtain rfl : k = es.length := by omega
      have hstp := stp_true (sd := 0) (P := 0) (N := 0) (S := 0) (n := es.length) (k := es.length) (l := []) (x := klX A st sts.length par h h') (y := fun _ => A.s) (z := klZ l9 l30) (W := W) (by omega) (decide_eq_false (Nat.lt_irrefl _))
      have ht : @TbOK ((wdNm 0 0 0 0 es.length es.length [] (klX A st sts.length par h h') (fun _ => A.s) (klZ l9 l30)).val W) klE := by
        letI : Val := (wdNm 0 0 0 0 es.length es.length [] (klX A st sts.length par h h') (fun _ => A.s) (klZ l9 l30)).val W
        exact { T := hstp, LL := hL }
      rw [List.drop_length] at hres
      have hres : ((0 : Int), (0 : Int)) = r := hres
      rw [← hres]
      exact stepH_outF klE [] ht (.tup [lI 0, lI 0]) (all2_all kl_end q) rfl
/-- A named list by another name. -/
theorem nval_list {V V0 : Val} {w : World} {e i j s : Nat} {v : Value} (h : V.L i = V0.L j) (hv : @Go.Ri.NVal V w (.slN e i s) v) : @Go.Ri.NVal V0 w (.slN e j s) v := by
  obtain ⟨oa, n, cap, h1, h2, h3, h4, h5, h6⟩ := hv
  rw [h] at h2 h4 h6
  exact ⟨oa, n, cap, h1, h2, h3, h4, h5, h6⟩
/-- CheckLog of both packages, by any names. -/
theorem ckLog_ans (q : Bool) {sts : List (Nat → Int)} {par : Int} {es : List Ent} (hes : ∀ e, e ∈ es → EntOK e) (hn : es.length ≤ 100000) {V : Val} {e1 e2 i j : Nat} {a : RV} (hi : V.L i = stksL sts) (hj : V.L j = entsL es) (ha : ∀ w v, @Go.Ri.NVal V w a v → v = .int .i64 par) : @AnsN V (klF q) [.slN e1 i 32, a, .slN e2 j 20] (ckV (ckM sts par es)) := by
  intro w hr vs hv
  cases hv with
  | cons h1 h2 => cases h2 with
    | cons h3 h4 => cases h4 with
      | cons h5 h6 =>
        cases h6
        refine ckLog_core q hes hn (A := entZ) (st := fun _ => 0) (h := 0) (h' := 0) rfl rfl w hr _ (.cons (nval_list (V0 := (wdNm 0 0 0 0 es.length 0 [] (klX entZ (fun _ => 0) sts.length par 0 0) (fun _ => entZ.s) (klZ (entsL es) (stksL sts))).val fun _ => undef) (j := 30) (hi.trans kl30.symm) h1) (.cons ?_ (.cons (nval_list (V0 := (wdNm 0 0 0 0 es.length 0 [] (klX entZ (fun _ => 0) sts.length par 0 0) (fun _ => entZ.s) (klZ (entsL es) (stksL sts))).val fun _ => undef) (j := 9) (hj.trans kl9.symm) h5) .nil)))
        rw [ha _ _ h3]
        exact kl731.symm
end Go.Proofs.Z
