/- A part of the proofs that the laws of layer one answer true for every input. -/
import Derived.Test.YtedbdpaioikhgaaGreatDoorZSpH
import Derived.Test.YtedbdpaioikhgaaGreatDoorZTkN
import Derived.Test.YtedbdpaioikhgaaGreatDoorZCmp3
namespace Go.Proofs.Z.Sp
open Go Go.RowKit Go.Proofs Go.Ri Go.Proofs.Z
open Go.Proofs.Z.W (tfr tto tlen skp byteIn)
open Go.Proofs.Z.Ps (doneF doneF_ok orU orU_ok plc tokS' tokS_eq wd phrase cl updP earP earM ER isV seqV wWhole wComma phr nt vc pwR zE)
open Go.Proofs.Z.Fa
/-! peek and here as entries; the specification's ParseWords. -/
noncomputable def pkT (b : Bool) : Tb := { T := inK 0 b, LL := [⟨0, 2, sI 91⟩], LX := if b then [lxK 0] else [] }
noncomputable def pkRun (d : Nat) (b : Bool) : Bool := doneH (pkT b) [] fPeek pAr lH [.lst 0 0, .str (300 + d) (if b then sT 1 else lT [])] (List.range 1) (sT (300 + d)) lH
noncomputable def hrRun (d : Nat) (b : Bool) : Bool := doneH (pkT b) [] fHere pAr lH [.lst 0 0, .int (300 + d) (if b then sI 15 else sI 90)] (List.range 1) (sI (300 + d)) lH
set_option maxRecDepth 100000 in
theorem pk_run : (allU 10 fun d => all2 fun b => pkRun d b) = true := by kernel_rfl
set_option maxRecDepth 100000 in
theorem hr_run : (allU 10 fun d => all2 fun b => hrRun d b) = true := by kernel_rfl
def pkE (S : List SE) (q d : Nat) : WE := ⟨fPeek, S, qAr q, 0, 150, sT (300 + d)⟩
def hrE (S : List SE) (q d : Nat) : WE := ⟨fHere, S, qAr q, 0, 150, sI (300 + d)⟩
theorem pkT_ok {s : ByteArray} {n : Nat} {a e : Int} (hn : n ≤ 100000) (W : Nat → Value) : @TbOK ((qnm s n (fun _ => 0) a e).val W) (pkT (decide (n < cnt s.data.toList))) := by
  letI : Val := (qnm s n (fun _ => 0) a e).val W
  refine { T := inK_ok W 0 (by omega) _ rfl hn, LL := ll_ok W, LX := ?_ }
  intro q hq
  by_cases h : n < cnt s.data.toList
  · simp only [pkT, decide_eq_true h, if_true, List.mem_cons, List.not_mem_nil, or_false] at hq
    subst hq
    exact lxR_ok W 1 (by omega) (fun k hk => by omega) _ (by exact List.mem_cons_self)
  · simp only [pkT, decide_eq_false h] at hq
    cases hq
theorem ba_nil {x : ByteArray} (h : x.data.toList = []) : x = ⟨[].toArray⟩ := by
  obtain ⟨⟨l⟩⟩ := x
  have h : l = [] := h
  subst h
  rfl
section
variable {V : Val} {s : ByteArray} {n q d : Nat} {S : List SE} (hS : Holds S V V) (hn : n ≤ 100000) (hL : V.L 0 = tkAll s) (h90 : V.I 90 = (s.data.toList.length : Int)) (hq : V.I q = (n : Int)) (hd : d < 10)
include hS hn hL h90 hq hd
theorem pk_we (hr : V.S (300 + d) = tokS' s (plc s.data.toList 0 n)) : @WETrue V (pkE S q d) := by
  refine we_done (V' := (qnm s n (fun _ => 0) (V.I (q + 1)) (V.I (q + 2))).val fun _ => undef) (args := pAr) (i := 0) hS rfl (pkT_ok hn _) (show tkAll s = V.L 0 from hL.symm) (all2_all (allU_lt pk_run d hd) _) rfl ?_ fun ep vs hv => arg_to (show tkAll s = V.L 0 from hL.symm) (show ((n + (10 - 10) : Nat) : Int) = V.I q by rw [hq]; rfl) (show (s.data.toList.length : Int) = _ from h90.symm) rfl rfl hv
  refine holds_all fun y hy => ?_
  simp only [List.mem_cons, List.not_mem_nil, or_false] at hy
  rcases hy with rfl | rfl
  · exact hL
  · by_cases h : n < cnt s.data.toList
    · rw [decide_eq_true h, if_pos rfl]
      exact ⟨_, rfl, hr⟩
    · rw [decide_eq_false h, if_neg (by decide)]
      exact ⟨_, rfl, hr.trans (ba_nil (by rw [tokS_eq]; exact (tok_out _ _ h).2))⟩
theorem hr_we (hr : V.I (300 + d) = (tfr s.data.toList (plc s.data.toList 0 n) : Nat)) : @WETrue V (hrE S q d) := by
  refine we_done (V' := (qnm s n (fun _ => 0) (V.I (q + 1)) (V.I (q + 2))).val fun _ => undef) (args := pAr) (i := 0) hS rfl (pkT_ok hn _) (show tkAll s = V.L 0 from hL.symm) (all2_all (allU_lt hr_run d hd) _) rfl ?_ fun ep vs hv => arg_to (show tkAll s = V.L 0 from hL.symm) (show ((n + (10 - 10) : Nat) : Int) = V.I q by rw [hq]; rfl) (show (s.data.toList.length : Int) = _ from h90.symm) rfl rfl hv
  refine holds_all fun y hy => ?_
  simp only [List.mem_cons, List.not_mem_nil, or_false] at hy
  rcases hy with rfl | rfl
  · exact hL
  · by_cases h : n < cnt s.data.toList
    · rw [decide_eq_true h, if_pos rfl]
      exact ⟨.i64, _, rfl, hr⟩
    · rw [decide_eq_false h, if_neg (by decide)]
      exact ⟨.i64, _, rfl, hr.trans (by rw [(tok_out _ _ h).1]; rfl)⟩
end
/-! ParseWords. -/
def zER : RV := .pl (.agg zE12.toArray)
def qS : List SE := [.lst 0 0, .int 40 (lI 0), .int 90 (sI 90), .int 41 (lI 0), .int 42 (lI 0)]
noncomputable def qTok (ne : Bool) : QE := ⟨fTokens, [sT 0], (tkR ne).1, (tkR ne).2⟩
def rpT (big : Bool) : List TE := [⟨.len, sT 0, sT 0, sI 90⟩, ⟨.bin .gtr, sI 90, lI 65536, bR big⟩]
/-- The cases: too long; no tokens; an error of the ear; more tokens; no valid ear; an ear. -/
noncomputable def rpTb (c : Nat) : Tb := match c with
  | 0 => { T := rpT true }
  | 1 => { T := rpT false, Q := [qTok false] }
  | 2 => { T := rpT false ++ [⟨.ieq, sI 114, lI 0, bR false⟩], Q := [qTok true], U := wU [earE qS 40 100], Y := [⟨fValid, [.agg (eN 100)], bR true⟩] }
  | 6 => { T := rpT false ++ [⟨.ieq, sI 114, lI 0, bR false⟩], Q := [qTok true], U := wU [earE qS 40 100], Y := [⟨fValid, [.agg (eN 100)], bR false⟩] }
  | 3 => { T := rpT false ++ [⟨.ieq, sI 114, lI 0, bR true⟩, ⟨.bin .lss, sI 112, sI 91, bR true⟩], Q := [qTok true], U := orU (wU [earE qS 40 100]) (wU [hrE [.lst 0 0, .int 90 (sI 90), .int 112 (sI 112), .int 113 (sI 113), .int 114 (sI 114)] 112 0]), LL := [⟨0, 2, sI 91⟩] }
  | 4 => { T := rpT false ++ [⟨.ieq, sI 114, lI 0, bR true⟩, ⟨.bin .lss, sI 112, sI 91, bR false⟩], Q := [qTok true], U := wU [earE qS 40 100], LL := [⟨0, 2, sI 91⟩], Y := [⟨fValid, [.agg (eN 100)], bR false⟩] }
  | _ => { T := rpT false ++ [⟨.ieq, sI 114, lI 0, bR true⟩, ⟨.bin .lss, sI 112, sI 91, bR false⟩], Q := [qTok true], U := wU [earE qS 40 100], LL := [⟨0, 2, sI 91⟩], Y := [⟨fValid, [.agg (eN 100)], bR true⟩] }
def rpR (c : Nat) : RV := match c with
  | 0 => .tup [zER, lI 0, lI 2]
  | 1 => .tup [zER, sI 90, lI 3]
  | 2 => .tup [zER, sI 113, sI 114]
  | 6 => .tup [zER, sI 113, sI 114]
  | 3 => .tup [zER, sI 300, lI 3]
  | 4 => .tup [zER, sI 90, lI 10]
  | _ => .tup [.agg (eN 100), lI 0, lI 0]
set_option maxRecDepth 100000 in
theorem rp_runs : (allU 7 fun c => doneF (rpTb c) fRPW [sT 0] (rpR c)) = true := by kernel_rfl
def rnm (s : ByteArray) (r : SR) : Nm where
  I := fun j => if j = 90 then (s.data.toList.length : Int) else if j = 91 then (cnt s.data.toList : Int) else if j < 100 then 0 else if j < 109 then r.e (j - 100) else if j = 112 then (r.n : Int) else if j = 113 then r.pos else if j = 114 then r.err else (tfr s.data.toList (plc s.data.toList 0 r.n) : Nat)
  B := fun j => bitY r.e (j - 109)
  S := fun j => if j = 0 then s else tokS' s (plc s.data.toList 0 r.n)
  L := fun _ => tkAll s
section
variable {s : ByteArray} (hs : s.data.toList.length ≤ 70000) {r : SR} (W : Nat → Value)
theorem rn_ans : AnsS ((rnm s r).val W) 100 r where
  e := fun j hj => by
    show (if 100 + j = 90 then _ else if 100 + j = 91 then _ else if 100 + j < 100 then _ else if 100 + j < 109 then r.e (100 + j - 100) else _) = _
    rw [if_neg (by omega), if_neg (by omega), if_neg (by omega), if_pos (by omega), Nat.add_sub_cancel_left]
  b := fun j hj => by
    show bitY r.e (100 + 9 + j - 109) = _
    rw [Nat.add_sub_cancel_left]
  n := rfl
  pos := rfl
  err := rfl
theorem rn_T (b : Bool) (h : decide ((s.data.toList.length : Int) > 65536) = b) : ∀ q, q ∈ rpT b → @TETrue ((rnm s r).val W) q := by
  letI : Val := (rnm s r).val W
  intro q hq
  simp only [rpT, List.mem_cons, List.not_mem_nil, or_false] at hq
  rcases hq with rfl | rfl
  · exact f_len (s := s) rfl rfl rfl
  · exact f_gtr (m := (s.data.toList.length : Int)) (n := 65536) rfl rfl h
theorem rn_err (b : Bool) (h : (r.err == 0) = b) : @TETrue ((rnm s r).val W) ⟨.ieq, sI 114, lI 0, bR b⟩ := @f_ieq ((rnm s r).val W) _ _ .i64 r.err 0 b rfl rfl h
theorem rn_more (b : Bool) (h : decide (r.n < cnt s.data.toList) = b) : @TETrue ((rnm s r).val W) ⟨.bin .lss, sI 112, sI 91, bR b⟩ := @f_lss ((rnm s r).val W) _ _ .i64 (r.n : Int) (cnt s.data.toList : Int) b rfl rfl (by rw [← h]; exact decide_eq_decide.2 (by constructor <;> intro hh <;> omega))
theorem rn_ll : ∀ q : LNE, q ∈ [(⟨0, 2, sI 91⟩ : LNE)] → @LLTrue ((rnm s r).val W) q := by
  intro q hq
  simp only [List.mem_cons, List.not_mem_nil, or_false] at hq
  subst hq
  exact ⟨rfl, cnt s.data.toList, by decide, tkC_len s _, rfl⟩
theorem rn_val (b : Bool) (h : valB r.e = b) : ∀ q : YE, q ∈ [(⟨fValid, [.agg (eN 100)], bR b⟩ : YE)] → Ans q.f (q.a.map (@cvF ((rnm s r).val W))) (@cvF ((rnm s r).val W) q.r) := by
  intro q hq
  simp only [List.mem_cons, List.not_mem_nil, or_false] at hq
  subst hq
  have := val_ans r.e (bitY r.e)
  rw [h] at this
  exact this
include hs in
theorem rn_tok (ne : Bool) (h : (!(Nat.beq (cnt s.data.toList) 0)) = ne) : ∀ q, q ∈ [qTok ne] → @AnsQ ((rnm s r).val W) q.f (q.a.map (@cvF ((rnm s r).val W))) q.r q.h := by
  intro q hq
  simp only [List.mem_cons, List.not_mem_nil, or_false] at hq
  subst hq
  have := tokens_ans s hs ((rnm s r).val W) rfl
  rw [h] at this
  exact this
theorem qS_holds : Holds qS ((rnm s r).val W) ((rnm s r).val W) := holds_all fun q hq => by
  simp only [qS, List.mem_cons, List.not_mem_nil, or_false] at hq
  rcases hq with rfl | rfl | rfl | rfl | rfl
  · rfl
  all_goals exact ⟨.i64, _, rfl, rfl⟩
include hs in
theorem rn_ear (hr : smP s.data.toList 0 = r) : @UOK ((rnm s r).val W) (wU [earE qS 40 100]) := by
  letI : Val := (rnm s r).val W
  refine wU_ok _ fun q hq => ?_
  simp only [List.mem_cons, List.not_mem_nil, or_false] at hq
  subst hq
  exact ear_we (qS_holds W) hs (by omega) hr (rn_ans W) rfl rfl rfl rfl rfl runs1
end
theorem smM_n (l : List UInt8) (M : Nat) : ∀ (f n : Nat) (t : Nat → Int), n ≤ M → cnt l ≤ M → (smM l f n t).n ≤ M + 3
  | 0, n, t, h, _ => by show n ≤ _; omega
  | f + 1, n, t, h, hc => by
    obtain ⟨o, k, hph⟩ : ∃ o k, phrase l (plc l 0 n) = (o, k) := ⟨_, _, rfl⟩
    have hk : k ≤ 3 := by
      unfold phrase at hph
      repeat' split at hph
      all_goals (cases hph; omega)
    cases o with
    | none =>
      rw [smM_none hph]
      show n + k ≤ _
      omega
    | some pv =>
      obtain ⟨p, v⟩ := pv
      rw [smM_some hph]
      split
      · split
        · rename_i hc'
          have hlt : n + k < cnt l := tok_in (by rw [hc']; exact List.cons_ne_nil _ _)
          exact smM_n l M f _ _ (by omega) hc
        · show n + k ≤ _
          omega
      · show n + k ≤ _
        omega
theorem smP_n {l : List UInt8} {n M : Nat} (h : n ≤ M) (hl : cnt l ≤ M) : (smP l n).n ≤ M + 3 := by
  unfold smP
  split
  · show n + 1 ≤ _
    omega
  · exact smM_n l M _ n _ h hl
theorem zER_zE (V : Val) : @cvF V zER = zE := rfl
/-- WHAT THE SPECIFICATION'S PARSEWORDS ANSWERS. -/
theorem rpw_ans (s : ByteArray) (hs : s.data.toList.length ≤ 70000) : Ans fRPW [.string s] (pwR s (earP s.data.toList 0)) := by
  obtain ⟨r, hr⟩ : ∃ r, smP s.data.toList 0 = r := ⟨_, rfl⟩
  have hal := smP_alike s.data.toList 0
  rw [hr] at hal
  have hal : Alike s.data.toList r (earP s.data.toList 0) := hal
  have hnn : r.n ≤ 80003 := by
    have h1 := cnt_len s.data.toList
    have h2 := smP_n (l := s.data.toList) (n := 0) (M := 80000) (by omega) (by omega)
    rw [hr] at h2
    exact h2
  letI V : Val := (rnm s r).val fun _ => undef
  have key : ∀ c, c < 7 → @TbOK V (rpTb c) → Ans fRPW [.string s] (@cvF V (rpR c)) := fun c hc ht => by
    have h1 : doneF (rpTb c) fRPW [sT 0] (rpR c) = true := allU_lt rp_runs c hc
    have h2 : @AnsN V fRPW [sT 0] (@cvF V (rpR c)) := doneF_ok V ht h1
    exact @ansN_flat V fRPW [sT 0] (@cvF V (rpR c)) h2 rfl
  unfold pwR
  by_cases c0 : 65536 < s.data.toList.length
  · rw [if_pos c0]
    exact key 0 (by omega) { T := rn_T _ true (decide_eq_true (by omega)) }
  rw [if_neg c0]
  have hT := rn_T (s := s) (r := r) (fun _ => undef) false (decide_eq_false (by omega))
  by_cases c1 : cnt s.data.toList = 0
  · have hph0 := tok_out s.data.toList 0 (by omega)
    have h0 : tfr s.data.toList 0 = s.data.toList.length := hph0.1
    have h1 : Ps.tok s.data.toList 0 = [] := hph0.2
    have hph : phrase s.data.toList 0 = (none, 0) := by
      unfold phrase
      rw [h1]
      rfl
    have hw : Ps.tok s.data.toList 0 ≠ wWhole := by rw [h1]; exact (List.cons_ne_nil _ _).symm
    have he : earP s.data.toList 0 = ⟨fun _ => 0, (s.data.toList.length : Int), 3, 0⟩ := by
      unfold earP
      rw [if_neg hw, Ps.earM_none hph]
      show (⟨fun _ => 0, (tfr s.data.toList 0 : Nat), 3, 0⟩ : ER) = _
      rw [h0]
    rw [he, if_neg (show ¬ ((3 : Int) = 0) by decide)]
    exact key 1 (by omega) { T := hT, Q := rn_tok hs _ false (by rw [c1]; rfl) }
  · have hq := rn_tok (r := r) hs (fun _ => undef) true (by
      cases h : Nat.beq (cnt s.data.toList) 0 with
      | false => rfl
      | true => exact absurd (Nat.eq_of_beq_eq_true h) c1)
    have hu := rn_ear hs (fun _ => undef) hr
    rw [hal.err]
    by_cases c2 : r.err = 0
    · rw [if_pos c2, hal.i]
      have f1 := rn_err (s := s) (fun _ => undef) true (by rw [c2]; rfl)
      by_cases c3 : r.n < cnt s.data.toList
      · have hne : Ps.tok s.data.toList (plc s.data.toList 0 r.n) ≠ [] := Ps.tok_some ((cnt_ok _).1 _ c3)
        rw [if_neg hne]
        refine key 3 (by omega) { T := fun q hq => ?_, Q := hq, U := ?_, LL := rn_ll _ }
        · rcases List.mem_append.1 hq with hq | hq
          · exact hT q hq
          · simp only [List.mem_cons, List.not_mem_nil, or_false] at hq
            rcases hq with rfl | rfl
            · exact f1
            · exact rn_more _ true (decide_eq_true c3)
        · refine orU_ok hu (wU_ok _ fun q hq => ?_)
          simp only [List.mem_cons, List.not_mem_nil, or_false] at hq
          subst hq
          refine hr_we (V := V) (s := s) (n := r.n) (q := 112) (d := 0) (holds_all fun y hy => ?_) (by omega) rfl rfl rfl (by omega) rfl
          simp only [List.mem_cons, List.not_mem_nil, or_false] at hy
          rcases hy with rfl | rfl | rfl | rfl | rfl
          · rfl
          all_goals exact ⟨.i64, _, rfl, rfl⟩
      · have hto := tok_out s.data.toList r.n c3
        rw [if_pos hto.2, hal.e c2, hto.1]
        have hT2 : ∀ q, q ∈ rpT false ++ [⟨.ieq, sI 114, lI 0, bR true⟩, ⟨.bin .lss, sI 112, sI 91, bR false⟩] → TETrue q := fun q hq => by
          rcases List.mem_append.1 hq with hq | hq
          · exact hT q hq
          · simp only [List.mem_cons, List.not_mem_nil, or_false] at hq
            rcases hq with rfl | rfl
            · exact f1
            · exact rn_more _ false (decide_eq_false c3)
        by_cases c4 : valB r.e = true
        · rw [if_pos c4]
          have h := key 5 (by omega) { T := hT2, Q := hq, U := hu, LL := rn_ll _, Y := rn_val _ true c4 }
          exact h
        · rw [if_neg c4]
          have c4 : valB r.e = false := by simpa using c4
          exact key 4 (by omega) { T := hT2, Q := hq, U := hu, LL := rn_ll _, Y := rn_val _ false c4 }
    · rw [if_neg c2, hal.pos]
      have f1 := rn_err (s := s) (fun _ => undef) false (beq_eq_false_iff_ne.2 c2)
      have hT2 : ∀ q, q ∈ rpT false ++ [⟨.ieq, sI 114, lI 0, bR false⟩] → TETrue q := fun q hq => by
        rcases List.mem_append.1 hq with hq | hq
        · exact hT q hq
        · simp only [List.mem_cons, List.not_mem_nil, or_false] at hq
          subst hq
          exact f1
      cases hv : valB r.e with
      | true => exact key 2 (by omega) { T := hT2, Q := hq, U := hu, Y := rn_val _ true hv }
      | false => exact key 6 (by omega) { T := hT2, Q := hq, U := hu, Y := rn_val _ false hv }
end Go.Proofs.Z.Sp
