/- A part of the proofs that the laws of layer one answer true for every input. -/
import Derived.Test.YtedbdpaioikhgaaGreatDoorZSpH
import Derived.Test.YtedbdpaioikhgaaGreatDoorZTkN
import Derived.Test.YtedbdpaioikhgaaGreatDoorZCmp3
import Derived.Test.YtedbdpaioikhgaaGreatDoorZTkS
namespace Go.Proofs.Z.Sp
open Go Go.RowKit Go.Proofs Go.Ri Go.Proofs.Z
open Go.Proofs.Z.W (tfr tto tlen skp byteIn)
open Go.Proofs.Z.Ps (doneF doneF_ok orU orU_ok plc tokS' tokS_eq wd phrase cl updP earP earM ER isV seqV wWhole wComma phr nt vc pwR zE)
open Go.Proofs.Z.Fa
/-! peek and here as entries; the specification's ParseWords. -/
noncomputable def pkT (b : Bool) : Tb := { T := inK 0 b, LL := [⟨0, 2, sI 91⟩], LX := if b then [lxK 0] else [] }
noncomputable def pkRun (d : Nat) (b : Bool) : Bool := doneH (pkT b) [] fPeek pAr lH [.lst 0 0, .str (300 + d) (if b then sT 1 else lT [])] (List.range 1) (sT (300 + d)) lH
noncomputable def hrRun (d : Nat) (b : Bool) : Bool := doneH (pkT b) [] fHere pAr lH [.lst 0 0, .int (300 + d) (if b then sI 15 else sI 90)] (List.range 1) (sI (300 + d)) lH
set_option maxRecDepth 100000 in
theorem pk_run : (allU 10 fun d => all2 fun b => pkRun d b) = true := by kernel_rfl
set_option maxRecDepth 100000 in
theorem hr_run : (allU 10 fun d => all2 fun b => hrRun d b) = true := by kernel_rfl
def pkE (S : List SE) (q d : Nat) : WE := ⟨fPeek, S, qAr q, 0, 150, sT (300 + d)⟩
def hrE (S : List SE) (q d : Nat) : WE := ⟨fHere, S, qAr q, 0, 150, sI (300 + d)⟩
theorem pkT_ok {s : ByteArray} {n : Nat} {a e : Int} (hn : n ≤ 100000) (W : Nat → Value) : @TbOK ((qnm s n (fun _ => 0) a e).val W) (pkT (decide (n < cnt s.data.toList))) := by
  letI : Val := (qnm s n (fun _ => 0) a e).val W
  refine { T := inK_ok W 0 (by omega) _ rfl hn, LL := ll_ok W, LX := ?_ }
  intro q hq
  by_cases h : n < cnt s.data.toList
  · simp only [pkT, decide_eq_true h, if_true, List.mem_cons, List.not_mem_nil, or_false] at hq
    subst hq
    exact lxR_ok W 1 (by omega) (fun k hk => by omega) _ (by exact List.mem_cons_self)
  · simp only [pkT, decide_eq_false h] at hq
    cases hq
theorem ba_nil {x : ByteArray} (h : x.data.toList = []) : x = ⟨[].toArray⟩ := by
  obtain ⟨⟨l⟩⟩ := x
  have h : l = [] := h
  subst h
  rfl
section
variable {V : Val} {s : ByteArray} {n q d : Nat} {S : List SE} (hS : Holds S V V) (hn : n ≤ 100000) (hL : V.L 0 = tkAll s) (h90 : V.I 90 = (s.data.toList.length : Int)) (hq : V.I q = (n : Int)) (hd : d < 10)
include hS hn hL h90 hq hd
theorem pk_we (hr : V.S (300 + d) = tokS' s (plc s.data.toList 0 n)) : @WETrue V (pkE S q d) := by
  refine we_done (V' := (qnm s n (fun _ => 0) (V.I (q + 1)) (V.I (q + 2))).val fun _ => undef) (args := pAr) (i := 0) hS rfl (pkT_ok hn _) (show tkAll s = V.L 0 from hL.symm) (all2_all (allU_lt pk_run d hd) _) rfl ?_ fun ep vs hv => arg_to (show tkAll s = V.L 0 from hL.symm) (show ((n + (10 - 10) : Nat) : Int) = V.I q by rw [hq]; rfl) (show (s.data.toList.length : Int) = _ from h90.symm) rfl rfl hv
  refine holds_all fun y hy => ?_
  simp only [List.mem_cons, List.not_mem_nil, or_false] at hy
  rcases hy with rfl | rfl
  · exact hL
  · by_cases h : n < cnt s.data.toList
    · rw [decide_eq_true h, if_pos rfl]
      exact ⟨_, rfl, hr⟩
    · rw [decide_eq_false h, if_neg (by decide)]
      exact ⟨_, rfl, hr.trans (ba_nil (by rw [tokS_eq]; exact (tok_out _ _ h).2))⟩
theorem hr_we (hr : V.I (300 + d) = (tfr s.data.toList (plc s.data.toList 0 n) : Nat)) : @WETrue V (hrE S q d) := by
  refine we_done (V' := (qnm s n (fun _ => 0) (V.I (q + 1)) (V.I (q + 2))).val fun _ => undef) (args := pAr) (i := 0) hS rfl (pkT_ok hn _) (show tkAll s = V.L 0 from hL.symm) (all2_all (allU_lt hr_run d hd) _) rfl ?_ fun ep vs hv => arg_to (show tkAll s = V.L 0 from hL.symm) (show ((n + (10 - 10) : Nat) : Int) = V.I q by rw [hq]; rfl) (show (s.data.toList.length : Int) = _ from h90.symm) rfl rfl hv
  refine holds_all fun y hy => ?_
  simp only [List.mem_cons, List.not_mem_nil, or_false] at hy
  rcases hy with rfl | rfl
  · exact hL
  · by_cases h : n < cnt s.data.toList
    · rw [decide_eq_true h, if_pos rfl]
      exact ⟨.i64, _, rfl, hr⟩
    · rw [decide_eq_false h, if_neg (by decide)]
      exact ⟨.i64, _, rfl, hr.trans (by rw [(tok_out _ _ h).1]; rfl)⟩
end
/-! ParseWords. -/
def zER : RV := .pl (.agg zE12.toArray)
def qS : List SE := [.lst 0 0, .int 40 (lI 0), .int 90 (sI 90), .int 41 (lI 0), .int 42 (lI 0)]
noncomputable def qTok (ne : Bool) : QE := ⟨fTokens, [sT 0], (tkR ne).1, (tkR ne).2⟩
def rpT (big : Bool) : List TE := [⟨.len, sT 0, sT 0, sI 90⟩, ⟨.bin .gtr, sI 90, lI 65536, bR big⟩]
/-- The cases: too long; no tokens; an error of the ear; more tokens; no valid ear; an ear. -/
noncomputable def rpTb (c : Nat) : Tb := match c with
  | 0 => { T := rpT true }
  | 1 => { T := rpT false, Q := [qTok false] }
  | 2 => { T := rpT false ++ [⟨.ieq, sI 114, lI 0, bR false⟩], Q := [qTok true], U := wU [earE qS 40 100], Y := [⟨fValid, [.agg (eN 100)], bR true⟩] }
  | 6 => { T := rpT false ++ [⟨.ieq, sI 114, lI 0, bR false⟩], Q := [qTok true], U := wU [earE qS 40 100], Y := [⟨fValid, [.agg (eN 100)], bR false⟩] }
  | 3 => { T := rpT false ++ [⟨.ieq, sI 114, lI 0, bR true⟩, ⟨.bin .lss, sI 112, sI 91, bR true⟩], Q := [qTok true], U := orU (wU [earE qS 40 100]) (wU [hrE [.lst 0 0, .int 90 (sI 90), .int 112 (sI 112), .int 113 (sI 113), .int 114 (sI 114)] 112 0]), LL := [⟨0, 2, sI 91⟩] }
  | 4 => { T := rpT false ++ [⟨.ieq, sI 114, lI 0, bR true⟩, ⟨.bin .lss, sI 112, sI 91, bR false⟩], Q := [qTok true], U := wU [earE qS 40 100], LL := [⟨0, 2, sI 91⟩], Y := [⟨fValid, [.agg (eN 100)], bR false⟩] }
  | _ => { T := rpT false ++ [⟨.ieq, sI 114, lI 0, bR true⟩, ⟨.bin .lss, sI 112, sI 91, bR false⟩], Q := [qTok true], U := wU [earE qS 40 100], LL := [⟨0, 2, sI 91⟩], Y := [⟨fValid, [.agg (eN 100)], bR true⟩] }
def rpR (c : Nat) : RV := match c with
  | 0 => .tup [zER, lI 0, lI 2]
  | 1 => .tup [zER, sI 90, lI 3]
  | 2 => .tup [zER, sI 113, sI 114]
  | 6 => .tup [zER, sI 113, sI 114]
  | 3 => .tup [zER, sI 300, lI 3]
  | 4 => .tup [zER, sI 90, lI 10]
  | _ => .tup [.agg (eN 100), lI 0, lI 0]
set_option maxRecDepth 100000 in
theorem rp_runs : (allU 7 fun c => doneF (rpTb c) fRPW [sT 0] (rpR c)) = true := by kernel_rfl
def rnm (s : ByteArray) (r : SR) : Nm where
  I := fun j => if j = 90 then (s.data.toList.length : Int) else if j = 91 then (cnt s.data.toList : Int) else if j < 100 then 0 else if j < 109 then r.e (j - 100) else if j = 112 then (r.n : Int) else if j = 113 then r.pos else if j = 114 then r.err else (tfr s.data.toList (plc s.data.toList 0 r.n) : Nat)
  B := fun j => bitY r.e (j - 109)
  S := fun j => if j = 0 then s else tokS' s (plc s.data.toList 0 r.n)
  L := fun _ => tkAll s
section
variable {s : ByteArray} (hs : s.data.toList.length ≤ 70000) {r : SR} (W : Nat → Value)
theorem rn_ans : AnsS ((rnm s r).val W) 100 r where
  e := fun j hj => by
    show (if 100 + j = 90 then _ else if 100 + j = 91 then _ else if 100 + j < 100 then _ else if 100 + j < 109 then r.e (100 + j - 100) else _) = _
    rw [if_neg (by omega), if_neg (by omega), if_neg (by omega), if_pos (by omega), Nat.add_sub_cancel_left]
  b := fun j hj => by
    show bitY r.e (100 + 9 + j - 109) = _
    rw [Nat.add_sub_cancel_left]
  n := rfl
  pos := rfl
  err := rfl
theorem rn_T (b : Bool) (h : decide ((s.data.toList.length : Int) > 65536) = b) : ∀ q, q ∈ rpT b → @TETrue ((rnm s r).val W) q := by
  letI : Val := (rnm s r).val W
  intro q hq
  simp only [rpT, List.mem_cons, List.not_mem_nil, or_false] at hq
  rcases hq with rfl | rfl
  · exact f_len (s := s) rfl rfl rfl
  · exact f_gtr (m := (s.data.toList.length : Int)) (n := 65536) rfl rfl h
theorem rn_err (b : Bool) (h : (r.err == 0) = b) : @TETrue ((rnm s r).val W) ⟨.ieq, sI 114, lI 0, bR b⟩ := @f_ieq ((rnm s r).val W) _ _ .i64 r.err 0 b rfl rfl h
theorem rn_more (b : Bool) (h : decide (r.n < cnt s.data.toList) = b) : @TETrue ((rnm s r).val W) ⟨.bin .lss, sI 112, sI 91, bR b⟩ := @f_lss ((rnm s r).val W) _ _ .i64 (r.n : Int) (cnt s.data.toList : Int) b rfl rfl (by rw [← h]; exact decide_eq_decide.2 (by constructor <;> intro hh <;> omega))
theorem rn_ll : ∀ q : LNE, q ∈ [(⟨0, 2, sI 91⟩ : LNE)] → @LLTrue ((rnm s r).val W) q := by
  intro q hq
  simp only [List.mem_cons, List.not_mem_nil, or_false] at hq
  subst hq
  exact ⟨rfl, cnt s.data.toList, by decide, tkC_len s _, rfl⟩
theorem rn_val (b : Bool) (h : valB r.e = b) : ∀ q : YE, q ∈ [(⟨fValid, [.agg (eN 100)], bR b⟩ : YE)] → Ans q.f (q.a.map (@cvF ((rnm s r).val W))) (@cvF ((rnm s r).val W) q.r) := by
  intro q hq
  simp only [List.mem_cons, List.not_mem_nil, or_false] at hq
  subst hq
  have := val_ans r.e (bitY r.e)
  rw [h] at this
  exact this
include hs in
theorem rn_tok (ne : Bool) (h : (!(Nat.beq (cnt s.data.toList) 0)) = ne) : ∀ q, q ∈ [qTok ne] → @AnsQ ((rnm s r).val W) q.f (q.a.map (@cvF ((rnm s r).val W))) q.r q.h := by
  intro q hq
  simp only [List.mem_cons, List.not_mem_nil, or_false] at hq
  subst hq
  have := tokens_ans s hs ((rnm s r).val W) rfl
  rw [h] at this
  exact this
theorem qS_holds : Holds qS ((rnm s r).val W) ((rnm s r).val W) := holds_all fun q hq => by
  simp only [qS, List.mem_cons, List.not_mem_nil, or_false] at hq
  rcases hq with rfl | rfl | rfl | rfl | rfl
  · rfl
  all_goals exact ⟨.i64, _, rfl, rfl⟩
include hs in
theorem rn_ear (hr : smP s.data.toList 0 = r) : @UOK ((rnm s r).val W) (wU [earE qS 40 100]) := by
  letI : Val := (rnm s r).val W
  refine wU_ok _ fun q hq => ?_
  simp only [List.mem_cons, List.not_mem_nil, or_false] at hq
  subst hq
  exact ear_we (qS_holds W) hs (by omega) hr (rn_ans W) rfl rfl rfl rfl rfl runs1
end
theorem smM_n (l : List UInt8) (M : Nat) : ∀ (f n : Nat) (t : Nat → Int), n ≤ M → cnt l ≤ M → (smM l f n t).n ≤ M + 3
  | 0, n, t, h, _ => by show n ≤ _; omega
  | f + 1, n, t, h, hc => by
    obtain ⟨o, k, hph⟩ : ∃ o k, phrase l (plc l 0 n) = (o, k) := ⟨_, _, rfl⟩
    have hk : k ≤ 3 := by
      unfold phrase at hph
      repeat' split at hph
      all_goals (cases hph; omega)
    cases o with
    | none =>
      rw [smM_none hph]
      show n + k ≤ _
      omega
    | some pv =>
      obtain ⟨p, v⟩ := pv
      rw [smM_some hph]
      split
      · split
        · rename_i hc'
          have hlt : n + k < cnt l := tok_in (by rw [hc']; exact List.cons_ne_nil _ _)
          exact smM_n l M f _ _ (by omega) hc
        · show n + k ≤ _
          omega
      · show n + k ≤ _
        omega
theorem smP_n {l : List UInt8} {n M : Nat} (h : n ≤ M) (hl : cnt l ≤ M) : (smP l n).n ≤ M + 3 := by
  unfold smP
  split
  · show n + 1 ≤ _
    omega
  · exact smM_n l M _ n _ h hl
theorem zER_zE (V : Val) : @cvF V zER = zE := rfl
/-- WHAT THE SPECIFICATION'S PARSEWORDS ANSWERS. -/
theorem rpw_ans (s : ByteArray) (hs : s.data.toList.length ≤ 70000) : Ans fRPW [.string s] (pwR s (earP s.data.toList 0)) := by
  obtain ⟨r, hr⟩ : ∃ r, smP s.data.toList 0 = r := ⟨_, rfl⟩
  have hal := smP_alike s.data.toList 0
  rw [hr] at hal
  have hal : Alike s.data.toList r (earP s.data.toList 0) := hal
  have hnn : r.n ≤ 80003 := by
    have h1 := cnt_len s.data.toList
    have h2 := smP_n (l := s.data.toList) (n := 0) (M := 80000) (by omega) (by omega)
    rw [hr] at h2
    exact h2
  letI V : Val := (rnm s r).val fun _ => undef
  have key : ∀ c, c < 7 → @TbOK V (rpTb c) → Ans fRPW [.string s] (@cvF V (rpR c)) := fun c hc ht => by
    have h1 : doneF (rpTb c) fRPW [sT 0] (rpR c) = true := allU_lt rp_runs c hc
    have h2 : @AnsN V fRPW [sT 0] (@cvF V (rpR c)) := doneF_ok V ht h1
    exact @ansN_flat V fRPW [sT 0] (@cvF V (rpR c)) h2 rfl
  unfold pwR
  by_cases c0 : 65536 < s.data.toList.length
  · rw [if_pos c0]
    exact key 0 (by omega) { T := rn_T _ true (decide_eq_true (by omega)) }
  rw [if_neg c0]
  have hT := rn_T (s := s) (r := r) (fun _ => undef) false (decide_eq_false (by omega))
  by_cases c1 : cnt s.data.toList = 0
  · have hph0 := tok_out s.data.toList 0 (by omega)
    have h0 : tfr s.data.toList 0 = s.data.toList.length := hph0.1
    have h1 : Ps.tok s.data.toList 0 = [] := hph0.2
    have hph : phrase s.data.toList 0 = (none, 0) := by
      unfold phrase
      rw [h1]
      rfl
    have hw : Ps.tok s.data.toList 0 ≠ wWhole := by rw [h1]; exact (List.cons_ne_nil _ _).symm
    have he : earP s.data.toList 0 = ⟨fun _ => 0, (s.data.toList.length : Int), 3, 0⟩ := by
      unfold earP
      rw [if_neg hw, Ps.earM_none hph]
      show (⟨fun _ => 0, (tfr s.data.toList 0 : Nat), 3, 0⟩ : ER) = _
      rw [h0]
    rw [he, if_neg (show ¬ ((3 : Int) = 0) by decide)]
    exact key 1 (by omega) { T := hT, Q := rn_tok hs _ false (by rw [c1]; rfl) }
  · have hq := rn_tok (r := r) hs (fun _ => undef) true (by
      cases h : Nat.beq (cnt s.data.toList) 0 with
      | false => rfl
      | true => exact absurd (Nat.eq_of_beq_eq_true h) c1)
    have hu := rn_ear hs (fun _ => undef) hr
    rw [hal.err]
    by_cases c2 : r.err = 0
    · rw [if_pos c2, hal.i]
      have f1 := rn_err (s := s) (fun _ => undef) true (by rw [c2]; rfl)
      by_cases c3 : r.n < cnt s.data.toList
      · have hne : Ps.tok s.data.toList (plc s.data.toList 0 r.n) ≠ [] := Ps.tok_some ((cnt_ok _).1 _ c3)
        rw [if_neg hne]
        refine key 3 (by omega) { T := fun q hq => ?_, Q := hq, U := ?_, LL := rn_ll _ }
        · rcases List.mem_append.1 hq with hq | hq
          · exact hT q hq
          · simp only [List.mem_cons, List.not_mem_nil, or_false] at hq
            rcases hq with rfl | rfl
            · exact f1
            · exact rn_more _ true (decide_eq_true c3)
        · refine orU_ok hu (wU_ok _ fun q hq => ?_)
          simp only [List.mem_cons, List.not_mem_nil, or_false] at hq
          subst hq
          refine hr_we (V := V) (s := s) (n := r.n) (q := 112) (d := 0) (holds_all fun y hy => ?_) (by omega) rfl rfl rfl (by omega) rfl
          simp only [List.mem_cons, List.not_mem_nil, or_false] at hy
          rcases hy with rfl | rfl | rfl | rfl | rfl
          · rfl
          all_goals exact ⟨.i64, _, rfl, rfl⟩
      · have hto := tok_out s.data.toList r.n c3
        rw [if_pos hto.2, hal.e c2, hto.1]
        have hT2 : ∀ q, q ∈ rpT false ++ [⟨.ieq, sI 114, lI 0, bR true⟩, ⟨.bin .lss, sI 112, sI 91, bR false⟩] → TETrue q := fun q hq => by
          rcases List.mem_append.1 hq with hq | hq
          · exact hT q hq
          · simp only [List.mem_cons, List.not_mem_nil, or_false] at hq
            rcases hq with rfl | rfl
            · exact f1
            · exact rn_more _ false (decide_eq_false c3)
        by_cases c4 : valB r.e = true
        · rw [if_pos c4]
          have h := key 5 (by omega) { T := hT2, Q := hq, U := hu, LL := rn_ll _, Y := rn_val _ true c4 }
          exact h
        · rw [if_neg c4]
          have c4 : valB r.e = false := by simpa using c4
          exact key 4 (by omega) { T := hT2, Q := hq, U := hu, LL := rn_ll _, Y := rn_val _ false c4 }
    · rw [if_neg c2, hal.pos]
      have f1 := rn_err (s := s) (fun _ => undef) false (beq_eq_false_iff_ne.2 c2)
      have hT2 : ∀ q, q ∈ rpT false ++ [⟨.ieq, sI 114, lI 0, bR false⟩] → TETrue q := fun q hq => by
        rcases List.mem_append.1 hq with hq | hq
        · exact hT q hq
        · simp only [List.mem_cons, List.not_mem_nil, or_false] at hq
          subst hq
          exact f1
      cases hv : valB r.e with
      | true => exact key 2 (by omega) { T := hT2, Q := hq, U := hu, Y := rn_val _ true hv }
      | false => exact key 6 (by omega) { T := hT2, Q := hq, U := hu, Y := rn_val _ false hv }
end Go.Proofs.Z.Sp

namespace Go.Proofs.Z.Sp
open Go Go.RowKit Go.Proofs Go.Ri Go.Proofs.Z
open Go.Proofs.Z.Ps (doneF doneF_ok orU orU_ok isV seqV wNear wColon wSemi wFar)
/-! The specification's ParseMark: its runs. -/
def stS (q : Nat) (n a e : RV) : List SE := [.lst 0 0, .int q n, .int 90 (sI 90), .int (q + 1) a, .int (q + 2) e]
def SA : List SE := stS 40 (lI 0) (lI 0) (lI 0)
def SB : List SE := stS 43 (lI 1) (lI 0) (lI 0)
def S1 : List SE := stS 46 (lI 2) (lI 0) (lI 0)
def SC : List SE := stS 112 (sI 112) (sI 113) (sI 114)
def SD : List SE := stS 50 (sI 120) (sI 113) (sI 114)
def SF : List SE := stS 53 (sI 121) (sI 113) (sI 114)
def S2 : List SE := stS 56 (sI 122) (sI 113) (sI 114)
def SG : List SE := stS 212 (sI 212) (sI 213) (sI 214)
/-- Where it went wrong: the state. -/
structure XS where
  n : RV
  a : RV
  e : RV
def xs : Nat → XS
  | 1 => ⟨lI 1, sI 301, lI 3⟩
  | 2 => ⟨sI 112, sI 302, lI 3⟩
  | 3 => ⟨sI 120, sI 302, lI 10⟩
  | 4 => ⟨sI 120, sI 303, lI 3⟩
  | 5 => ⟨sI 121, sI 304, lI 3⟩
  | _ => ⟨lI 0, sI 300, lI 3⟩
def SX (x : Nat) : List SE := stS 60 (xs x).n (xs x).a (xs x).e
def u0 (x : Nat) : List WE := [pkE SA 40 0, hrE SA 40 0, pkE SB 43 1, hrE SB 43 1, earE S1 46 100, pkE SC 112 2, hrE SC 112 2, pkE SD 50 3, hrE SD 50 3, pkE SF 53 4, hrE SF 53 4, hrE (SX x) 60 6]
def u1 : List WE := [earE S2 56 200, hrE SG 212 5]
def zMR : RV := .pl (.agg (zE12 ++ zE12).toArray)
def addT : List TE := [⟨.bin .add, sI 112, lI 1, sI 120⟩, ⟨.bin .add, sI 120, lI 1, sI 121⟩, ⟨.bin .add, sI 121, lI 1, sI 122⟩]
def e1T (b : Bool) : TE := ⟨.ieq, sI 114, lI 0, bR b⟩
def e2T (b : Bool) : TE := ⟨.ieq, sI 214, lI 0, bR b⟩
def moT (b : Bool) : TE := ⟨.bin .lss, sI 212, sI 91, bR b⟩
noncomputable def mkT (x : Nat) (two : Bool) (T : List TE) (Y : List YE) : Tb := { T := rpT false ++ (addT ++ T), Q := [qTok true], U := wU (u0 x ++ if two then u1 else []), LL := [⟨0, 2, sI 91⟩], Y := Y }
def vN (b : Bool) : YE := ⟨fValid, [.agg (eN 100)], bR b⟩
def vF (b : Bool) : YE := ⟨fValid, [.agg (eN 200)], bR b⟩
noncomputable def tB : List TE := isV 300 wNear true
noncomputable def tC : List TE := tB ++ isV 301 wColon true
noncomputable def tD : List TE := tC ++ [e1T true]
noncomputable def tE : List TE := tD ++ isV 302 wSemi true
noncomputable def tG : List TE := tE ++ isV 303 wFar true
noncomputable def tH : List TE := tG ++ isV 304 wColon true
noncomputable def tI : List TE := tH ++ [e2T true]
/-- The cases. -/
noncomputable def mTb (c : Nat) : Tb := match c with
  | 0 => { T := rpT true }
  | 1 => { T := rpT false, Q := [qTok false] }
  | 2 => mkT 0 false (isV 300 wNear false) []
  | 3 => mkT 1 false (tB ++ isV 301 wColon false) []
  | 4 => mkT 0 false (tC ++ [e1T false]) []
  | 5 => mkT 2 false (tD ++ isV 302 wSemi false) []
  | 6 => mkT 3 false tE [vN false]
  | 7 => mkT 4 false (tE ++ isV 303 wFar false) [vN true]
  | 8 => mkT 5 false (tG ++ isV 304 wColon false) [vN true]
  | 9 => mkT 0 true (tH ++ [e2T false]) [vN true, vF true]
  | 10 => mkT 0 true (tH ++ [e2T false]) [vN true, vF false]
  | 11 => mkT 0 true (tI ++ [moT true]) [vN true]
  | 12 => mkT 0 true (tI ++ [moT false]) [vN true, vF false]
  | _ => mkT 0 true (tI ++ [moT false]) [vN true, vF true]
def mR (c : Nat) : RV := match c with
  | 0 => .tup [zMR, lI 0, lI 2]
  | 1 => .tup [zMR, sI 90, lI 3]
  | 2 => .tup [zMR, sI 300, lI 3]
  | 3 => .tup [zMR, sI 301, lI 3]
  | 4 => .tup [zMR, sI 113, sI 114]
  | 5 => .tup [zMR, sI 302, lI 3]
  | 6 => .tup [zMR, sI 302, lI 10]
  | 7 => .tup [zMR, sI 303, lI 3]
  | 8 => .tup [zMR, sI 304, lI 3]
  | 9 => .tup [zMR, sI 213, sI 214]
  | 10 => .tup [zMR, sI 213, sI 214]
  | 11 => .tup [zMR, sI 305, lI 3]
  | 12 => .tup [zMR, sI 90, lI 10]
  | _ => .tup [.agg (eN 100 ++ eN 200), lI 0, lI 0]
noncomputable def mRun (c : Nat) : Bool := doneF (mTb c) fRPM [sT 0] (mR c)
end Go.Proofs.Z.Sp

namespace Go.Proofs.Z.Sp
open Go Go.RowKit Go.Proofs Go.Ri Go.Proofs.Z
open Go.Proofs.Z.W (tfr tto tlen)
open Go.Proofs.Z.Ps (doneF doneF_ok plc tokS' tokS_eq phrase earP ER isV isT wNear wColon wSemi wFar pmR mBad markV earL' zM wWhole)
open Go.Proofs.Z.Fa
/-! The specification's ParseMark: what it answers. -/
set_option maxRecDepth 100000 in
theorem m_runs : (allU 14 mRun) = true := by kernel_rfl
def ix (r1 r2 : SR) (xn : Nat) (d : Nat) : Nat := if d = 0 then 0 else if d = 1 then 1 else if d = 2 then r1.n else if d = 3 then r1.n + 1 else if d = 4 then r1.n + 2 else if d = 5 then r2.n else xn
def mrm (s : ByteArray) (r1 r2 : SR) (X : Nat × Int × Int) : Nm where
  I := fun j => if j < 100 then (if j = 43 then 1 else if j = 46 then 2 else if j = 50 then ((r1.n + 1 : Nat) : Int) else if j = 51 then r1.pos else if j = 52 then r1.err else if j = 53 then ((r1.n + 2 : Nat) : Int) else if j = 54 then r1.pos else if j = 55 then r1.err else if j = 56 then ((r1.n + 3 : Nat) : Int) else if j = 57 then r1.pos else if j = 58 then r1.err else if j = 60 then (X.1 : Int) else if j = 61 then X.2.1 else if j = 62 then X.2.2 else if j = 90 then (s.data.toList.length : Int) else if j = 91 then (cnt s.data.toList : Int) else 0)
    else if j < 109 then r1.e (j - 100) else if j = 112 then (r1.n : Int) else if j = 113 then r1.pos else if j = 114 then r1.err else if j = 120 then ((r1.n + 1 : Nat) : Int) else if j = 121 then ((r1.n + 2 : Nat) : Int) else if j = 122 then ((r1.n + 3 : Nat) : Int) else if j < 209 then r2.e (j - 200) else if j = 212 then (r2.n : Int) else if j = 213 then r2.pos else if j = 214 then r2.err else (tfr s.data.toList (plc s.data.toList 0 (ix r1 r2 X.1 (j - 300))) : Nat)
  B := fun j => if j < 200 then bitY r1.e (j - 109) else bitY r2.e (j - 209)
  S := fun j => if j = 0 then s else tokS' s (plc s.data.toList 0 (ix r1 r2 X.1 (j - 300)))
  L := fun _ => tkAll s
def xv (l : List UInt8) (r1 : SR) (x : Nat) : Nat × Int × Int :=
  if x = 1 then (1, (tfr l (plc l 0 1) : Nat), 3) else if x = 2 then (r1.n, (tfr l (plc l 0 r1.n) : Nat), 3) else if x = 3 then (r1.n + 1, (tfr l (plc l 0 r1.n) : Nat), 10) else if x = 4 then (r1.n + 1, (tfr l (plc l 0 (r1.n + 1)) : Nat), 3) else if x = 5 then (r1.n + 2, (tfr l (plc l 0 (r1.n + 2)) : Nat), 3) else (0, (tfr l (plc l 0 0) : Nat), 3)
theorem st_holds {V : Val} {q : Nat} {n a e : RV} (h1 : @cv V n = .int .i64 (V.I q)) (h2 : @cv V a = .int .i64 (V.I (q + 1))) (h3 : @cv V e = .int .i64 (V.I (q + 2))) : Holds (stS q n a e) V V := holds_all fun y hy => by
  simp only [stS, List.mem_cons, List.not_mem_nil, or_false] at hy
  rcases hy with rfl | rfl | rfl | rfl | rfl
  · rfl
  · exact ⟨.i64, _, h1, rfl⟩
  · exact ⟨.i64, _, rfl, rfl⟩
  · exact ⟨.i64, _, h2, rfl⟩
  · exact ⟨.i64, _, h3, rfl⟩
section
variable {s : ByteArray} (hs : s.data.toList.length ≤ 70000) {r1 r2 : SR} {x : Nat} (hx : x < 6) (hn1 : r1.n ≤ 80003) (hn2 : r2.n ≤ 90000)
theorem mr_ans1 : AnsS ((mrm s r1 r2 (xv s.data.toList r1 x)).val fun _ => undef) 100 r1 where
  e := fun j hj => by
    show (if 100 + j < 100 then _ else if 100 + j < 109 then r1.e (100 + j - 100) else _) = _
    rw [if_neg (by omega), if_pos (by omega), Nat.add_sub_cancel_left]
  b := fun j hj => by
    show (if 100 + 9 + j < 200 then bitY r1.e (100 + 9 + j - 109) else _) = _
    rw [if_pos (by omega), Nat.add_sub_cancel_left]
  n := rfl
  pos := rfl
  err := rfl
theorem mr_ans2 : AnsS ((mrm s r1 r2 (xv s.data.toList r1 x)).val fun _ => undef) 200 r2 where
  e := fun j hj => by
    show (if 200 + j < 100 then _ else if 200 + j < 109 then _ else if 200 + j = 112 then _ else if 200 + j = 113 then _ else if 200 + j = 114 then _ else if 200 + j = 120 then _ else if 200 + j = 121 then _ else if 200 + j = 122 then _ else if 200 + j < 209 then r2.e (200 + j - 200) else _) = _
    rw [if_neg (by omega), if_neg (by omega), if_neg (by omega), if_neg (by omega), if_neg (by omega), if_neg (by omega), if_neg (by omega), if_neg (by omega), if_pos (by omega), Nat.add_sub_cancel_left]
  b := fun j hj => by
    show (if 200 + 9 + j < 200 then _ else bitY r2.e (200 + 9 + j - 209)) = _
    rw [if_neg (by omega), Nat.add_sub_cancel_left]
  n := rfl
  pos := rfl
  err := rfl
include hx in
theorem sx_holds : Holds (SX x) ((mrm s r1 r2 (xv s.data.toList r1 x)).val fun _ => undef) ((mrm s r1 r2 (xv s.data.toList r1 x)).val fun _ => undef) := by
  obtain rfl | rfl | rfl | rfl | rfl | rfl : x = 0 ∨ x = 1 ∨ x = 2 ∨ x = 3 ∨ x = 4 ∨ x = 5 := by omega
  all_goals exact st_holds rfl rfl rfl
include hs hx hn1 in
theorem u0_ok (hr1 : smP s.data.toList 2 = r1) : ∀ q, q ∈ u0 x → @WETrue ((mrm s r1 r2 (xv s.data.toList r1 x)).val fun _ => undef) q := by
  have hA : Holds SA ((mrm s r1 r2 (xv s.data.toList r1 x)).val fun _ => undef) ((mrm s r1 r2 (xv s.data.toList r1 x)).val fun _ => undef) := st_holds rfl rfl rfl
  have hB : Holds SB ((mrm s r1 r2 (xv s.data.toList r1 x)).val fun _ => undef) ((mrm s r1 r2 (xv s.data.toList r1 x)).val fun _ => undef) := st_holds rfl rfl rfl
  have h1 : Holds S1 ((mrm s r1 r2 (xv s.data.toList r1 x)).val fun _ => undef) ((mrm s r1 r2 (xv s.data.toList r1 x)).val fun _ => undef) := st_holds rfl rfl rfl
  have hC : Holds SC ((mrm s r1 r2 (xv s.data.toList r1 x)).val fun _ => undef) ((mrm s r1 r2 (xv s.data.toList r1 x)).val fun _ => undef) := st_holds rfl rfl rfl
  have hD : Holds SD ((mrm s r1 r2 (xv s.data.toList r1 x)).val fun _ => undef) ((mrm s r1 r2 (xv s.data.toList r1 x)).val fun _ => undef) := st_holds rfl rfl rfl
  have hF : Holds SF ((mrm s r1 r2 (xv s.data.toList r1 x)).val fun _ => undef) ((mrm s r1 r2 (xv s.data.toList r1 x)).val fun _ => undef) := st_holds rfl rfl rfl
  have hX := sx_holds (s := s) (r1 := r1) (r2 := r2) hx
  have hxn : (xv s.data.toList r1 x).1 ≤ 100000 := by
    obtain rfl | rfl | rfl | rfl | rfl | rfl : x = 0 ∨ x = 1 ∨ x = 2 ∨ x = 3 ∨ x = 4 ∨ x = 5 := by omega
    all_goals (simp [xv]; try omega)
  intro q hq
  simp only [u0, List.mem_cons, List.not_mem_nil, or_false] at hq
  rcases hq with rfl | rfl | rfl | rfl | rfl | rfl | rfl | rfl | rfl | rfl | rfl | rfl
  · exact pk_we (n := 0) hA (by omega) rfl rfl rfl (by omega) rfl
  · exact hr_we (n := 0) hA (by omega) rfl rfl rfl (by omega) rfl
  · exact pk_we (n := 1) hB (by omega) rfl rfl rfl (by omega) rfl
  · exact hr_we (n := 1) hB (by omega) rfl rfl rfl (by omega) rfl
  · exact ear_we (n := 2) h1 hs (by omega) hr1 mr_ans1 rfl rfl rfl rfl rfl runs1
  · exact pk_we (n := r1.n) hC (by omega) rfl rfl rfl (by omega) rfl
  · exact hr_we (n := r1.n) hC (by omega) rfl rfl rfl (by omega) rfl
  · exact pk_we (n := r1.n + 1) hD (by omega) rfl rfl rfl (by omega) rfl
  · exact hr_we (n := r1.n + 1) hD (by omega) rfl rfl rfl (by omega) rfl
  · exact pk_we (n := r1.n + 2) hF (by omega) rfl rfl rfl (by omega) rfl
  · exact hr_we (n := r1.n + 2) hF (by omega) rfl rfl rfl (by omega) rfl
  · exact hr_we (n := (xv s.data.toList r1 x).1) hX hxn rfl rfl rfl (by omega) rfl
include hs hn2 in
theorem u1_ok (hn3 : r1.n + 3 ≤ 80000) (hr2 : smP s.data.toList (r1.n + 3) = r2) (he : r1.err = 0) (hp : r1.pos = 0) : ∀ q, q ∈ u1 → @WETrue ((mrm s r1 r2 (xv s.data.toList r1 x)).val fun _ => undef) q := by
  have h2 : Holds S2 ((mrm s r1 r2 (xv s.data.toList r1 x)).val fun _ => undef) ((mrm s r1 r2 (xv s.data.toList r1 x)).val fun _ => undef) := st_holds rfl rfl rfl
  have hG : Holds SG ((mrm s r1 r2 (xv s.data.toList r1 x)).val fun _ => undef) ((mrm s r1 r2 (xv s.data.toList r1 x)).val fun _ => undef) := st_holds rfl rfl rfl
  intro q hq
  simp only [u1, List.mem_cons, List.not_mem_nil, or_false] at hq
  rcases hq with rfl | rfl
  · exact ear_we (n := r1.n + 3) h2 hs hn3 hr2 mr_ans2 rfl rfl rfl hp he runs2
  · exact hr_we (n := r2.n) hG (by omega) rfl rfl rfl (by omega) rfl
theorem mr_T (b : Bool) (h : decide ((s.data.toList.length : Int) > 65536) = b) : ∀ q, q ∈ rpT b → @TETrue ((mrm s r1 r2 (xv s.data.toList r1 x)).val fun _ => undef) q := by
  letI : Val := ((mrm s r1 r2 (xv s.data.toList r1 x)).val fun _ => undef)
  intro q hq
  simp only [rpT, List.mem_cons, List.not_mem_nil, or_false] at hq
  rcases hq with rfl | rfl
  · exact f_len (s := s) rfl rfl rfl
  · exact f_gtr (m := (s.data.toList.length : Int)) (n := 65536) rfl rfl h
include hn1 in
theorem mr_add : ∀ q, q ∈ addT → @TETrue ((mrm s r1 r2 (xv s.data.toList r1 x)).val fun _ => undef) q := by
  letI : Val := ((mrm s r1 r2 (xv s.data.toList r1 x)).val fun _ => undef)
  intro q hq
  simp only [addT, List.mem_cons, List.not_mem_nil, or_false] at hq
  rcases hq with rfl | rfl | rfl
  · exact f_add1 (m := (r1.n : Int)) rfl rfl rfl (by omega) (by omega)
  · exact f_add1 (m := ((r1.n + 1 : Nat) : Int)) rfl rfl rfl (by omega) (by omega)
  · exact f_add1 (m := ((r1.n + 2 : Nat) : Int)) rfl rfl rfl (by omega) (by omega)
theorem mr_ll : ∀ q : LNE, q ∈ [(⟨0, 2, sI 91⟩ : LNE)] → @LLTrue ((mrm s r1 r2 (xv s.data.toList r1 x)).val fun _ => undef) q := by
  intro q hq
  simp only [List.mem_cons, List.not_mem_nil, or_false] at hq
  subst hq
  exact ⟨rfl, cnt s.data.toList, by decide, tkC_len s _, rfl⟩
include hs in
theorem mr_tok (ne : Bool) (h : (!(Nat.beq (cnt s.data.toList) 0)) = ne) : ∀ q, q ∈ [qTok ne] → @AnsQ ((mrm s r1 r2 (xv s.data.toList r1 x)).val fun _ => undef) q.f (q.a.map (@cvF ((mrm s r1 r2 (xv s.data.toList r1 x)).val fun _ => undef))) q.r q.h := by
  intro q hq
  simp only [List.mem_cons, List.not_mem_nil, or_false] at hq
  subst hq
  have := tokens_ans s hs ((mrm s r1 r2 (xv s.data.toList r1 x)).val fun _ => undef) rfl
  rw [h] at this
  exact this
theorem mr_is (d : Nat) {w : List UInt8} {b : Bool} (h : (Ps.tok s.data.toList (plc s.data.toList 0 (ix r1 r2 (xv s.data.toList r1 x).1 d)) == w) = b) : ∀ q, q ∈ isV (300 + d) w b → @TETrue ((mrm s r1 r2 (xv s.data.toList r1 x)).val fun _ => undef) q := by
  letI : Val := ((mrm s r1 r2 (xv s.data.toList r1 x)).val fun _ => undef)
  refine isT (j := 300 + d) (s := tokS' s (plc s.data.toList 0 (ix r1 r2 (xv s.data.toList r1 x).1 d))) ?_ (by rw [tokS_eq]; exact h)
  show (if 300 + d = 0 then s else tokS' s (plc s.data.toList 0 (ix r1 r2 (xv s.data.toList r1 x).1 (300 + d - 300)))) = _
  rw [if_neg (by omega), Nat.add_sub_cancel_left]
theorem mr_e1 (b : Bool) (h : (r1.err == 0) = b) : @TETrue ((mrm s r1 r2 (xv s.data.toList r1 x)).val fun _ => undef) (e1T b) := @f_ieq ((mrm s r1 r2 (xv s.data.toList r1 x)).val fun _ => undef) _ _ .i64 r1.err 0 b rfl rfl h
theorem mr_e2 (b : Bool) (h : (r2.err == 0) = b) : @TETrue ((mrm s r1 r2 (xv s.data.toList r1 x)).val fun _ => undef) (e2T b) := @f_ieq ((mrm s r1 r2 (xv s.data.toList r1 x)).val fun _ => undef) _ _ .i64 r2.err 0 b rfl rfl h
theorem mr_mo (b : Bool) (h : decide (r2.n < cnt s.data.toList) = b) : @TETrue ((mrm s r1 r2 (xv s.data.toList r1 x)).val fun _ => undef) (moT b) := @f_lss ((mrm s r1 r2 (xv s.data.toList r1 x)).val fun _ => undef) _ _ .i64 (r2.n : Int) (cnt s.data.toList : Int) b rfl rfl (by rw [← h]; exact decide_eq_decide.2 (by constructor <;> intro hh <;> omega))
theorem eN_cv1 : (eN 100).map (@cv ((mrm s r1 r2 (xv s.data.toList r1 x)).val fun _ => undef)) = [.int .i64 (r1.e 0), .int .i64 (r1.e 1), .int .i64 (r1.e 2), .int .i64 (r1.e 3), .int .i64 (r1.e 4), .int .i64 (r1.e 5), .int .i64 (r1.e 6), .int .i64 (r1.e 7), .int .i64 (r1.e 8), .bool (bitY r1.e 0), .bool (bitY r1.e 1), .bool (bitY r1.e 2)] := rfl
theorem eN_cv2 : (eN 200).map (@cv ((mrm s r1 r2 (xv s.data.toList r1 x)).val fun _ => undef)) = [.int .i64 (r2.e 0), .int .i64 (r2.e 1), .int .i64 (r2.e 2), .int .i64 (r2.e 3), .int .i64 (r2.e 4), .int .i64 (r2.e 5), .int .i64 (r2.e 6), .int .i64 (r2.e 7), .int .i64 (r2.e 8), .bool (bitY r2.e 0), .bool (bitY r2.e 1), .bool (bitY r2.e 2)] := rfl
theorem mr_vN (b : Bool) (h : valB r1.e = b) : Ans (vN b).f ((vN b).a.map (@cvF ((mrm s r1 r2 (xv s.data.toList r1 x)).val fun _ => undef))) (@cvF ((mrm s r1 r2 (xv s.data.toList r1 x)).val fun _ => undef) (vN b).r) := by
  have := val_ans r1.e (bitY r1.e)
  rw [h] at this
  exact this
theorem mr_vF (b : Bool) (h : valB r2.e = b) : Ans (vF b).f ((vF b).a.map (@cvF ((mrm s r1 r2 (xv s.data.toList r1 x)).val fun _ => undef))) (@cvF ((mrm s r1 r2 (xv s.data.toList r1 x)).val fun _ => undef) (vF b).r) := by
  have := val_ans r2.e (bitY r2.e)
  rw [h] at this
  exact this
include hs hx hn1 hn2 in
theorem mk_ok (hr1 : smP s.data.toList 2 = r1) (hb : ¬ 65536 < s.data.toList.length) (hc : cnt s.data.toList ≠ 0) (two : Bool) (h2 : two = true → r1.n + 3 ≤ 80000 ∧ smP s.data.toList (r1.n + 3) = r2 ∧ r1.err = 0 ∧ r1.pos = 0) {T : List TE} {Y : List YE} (hT : ∀ q, q ∈ T → @TETrue ((mrm s r1 r2 (xv s.data.toList r1 x)).val fun _ => undef) q) (hY : ∀ q, q ∈ Y → Ans q.f (q.a.map (@cvF ((mrm s r1 r2 (xv s.data.toList r1 x)).val fun _ => undef))) (@cvF ((mrm s r1 r2 (xv s.data.toList r1 x)).val fun _ => undef) q.r)) : @TbOK ((mrm s r1 r2 (xv s.data.toList r1 x)).val fun _ => undef) (mkT x two T Y) := by
  letI : Val := ((mrm s r1 r2 (xv s.data.toList r1 x)).val fun _ => undef)
  refine { T := ?_, Q := mr_tok hs true (by
      cases h : Nat.beq (cnt s.data.toList) 0 with
      | false => rfl
      | true => exact absurd (Nat.eq_of_beq_eq_true h) hc), U := (show UOK (wU (u0 x ++ if two then u1 else [])) from wU_ok _ fun q hq => ?_), LL := mr_ll, Y := hY }
  · intro q hq
    rcases List.mem_append.1 hq with hq | hq
    · exact mr_T false (decide_eq_false (by omega)) q hq
    · rcases List.mem_append.1 hq with hq | hq
      · exact mr_add hn1 q hq
      · exact hT q hq
  · rcases List.mem_append.1 hq with hq | hq
    · exact u0_ok hs hx hn1 hr1 q hq
    · cases two with
      | false => cases hq
      | true =>
        obtain ⟨g1, g2, g3, g4⟩ := h2 rfl
        exact u1_ok hs hn2 g1 g2 g3 g4 q hq
end
end Go.Proofs.Z.Sp

namespace Go.Proofs.Z.Sp
open Go Go.RowKit Go.Proofs Go.Ri Go.Proofs.Z
open Go.Proofs.Z.W (tfr tto tlen)
open Go.Proofs.Z.Ps (doneF doneF_ok plc tokS' tokS_eq phrase earP ER isV isT wNear wColon wSemi wFar pmR mBad markV earL' zM wWhole app_ok)
open Go.Proofs.Z.Fa
/-! The specification's ParseMark: its contract. -/
theorem smM_pos (l : List UInt8) : ∀ (f n : Nat) (t : Nat → Int), (smM l f n t).err = 0 → (smM l f n t).pos = 0
  | 0, _, _, _ => rfl
  | f + 1, n, t, h => by
    obtain ⟨o, k, hph⟩ : ∃ o k, phrase l (plc l 0 n) = (o, k) := ⟨_, _, rfl⟩
    cases o with
    | none =>
      rw [smM_none hph] at h
      cases h
    | some pv =>
      obtain ⟨p, v⟩ := pv
      rw [smM_some hph] at h ⊢
      by_cases hz : t p = 0
      · rw [if_pos hz] at h ⊢
        by_cases hc : Ps.tok l (plc l 0 (n + k)) = Ps.wComma
        · rw [if_pos hc] at h ⊢
          exact smM_pos l f _ _ h
        · rw [if_neg hc]
      · rw [if_neg hz] at h
        cases h
theorem smP_pos {l : List UInt8} {n : Nat} (h : (smP l n).err = 0) : (smP l n).pos = 0 := by
  unfold smP at h ⊢
  split
  · rfl
  · rename_i hw
    rw [if_neg hw] at h
    exact smM_pos l _ _ _ h
theorem one_T {V : Val} {q0 : TE} (h : @TETrue V q0) : ∀ q, q ∈ [q0] → @TETrue V q := fun q hq => by
  simp only [List.mem_cons, List.not_mem_nil, or_false] at hq
  subst hq
  exact h
theorem one_Y {V : Val} {q0 : YE} (h : Ans q0.f (q0.a.map (@cvF V)) (@cvF V q0.r)) : ∀ q : YE, q ∈ [q0] → Ans q.f (q.a.map (@cvF V)) (@cvF V q.r) := fun q hq => by
  simp only [List.mem_cons, List.not_mem_nil, or_false] at hq
  subst hq
  exact h
theorem two_Y {V : Val} {q0 q1 : YE} (h0 : Ans q0.f (q0.a.map (@cvF V)) (@cvF V q0.r)) (h1 : Ans q1.f (q1.a.map (@cvF V)) (@cvF V q1.r)) : ∀ q : YE, q ∈ [q0, q1] → Ans q.f (q.a.map (@cvF V)) (@cvF V q.r) := fun q hq => by
  simp only [List.mem_cons, List.not_mem_nil, or_false] at hq
  rcases hq with rfl | rfl
  · exact h0
  · exact h1
theorem no_Y {V : Val} : ∀ q : YE, q ∈ ([] : List YE) → Ans q.f (q.a.map (@cvF V)) (@cvF V q.r) := fun q hq => by cases hq
theorem beq_t' {α : Type} [BEq α] [LawfulBEq α] {x y : α} (h : x = y) : (x == y) = true := by rw [h]; exact beq_self_eq_true y
theorem beq_f' {α : Type} [BEq α] [LawfulBEq α] {x y : α} (h : ¬ x = y) : (x == y) = false := beq_eq_false_iff_ne.2 h
theorem m_key {s : ByteArray} {V : Val} (h0 : V.S 0 = s) (c : Nat) (hc : c < 14) (ht : @TbOK V (mTb c)) (v : Value) (hv : @cvF V (mR c) = v) : Ans fRPM [.string s] v := by
  have h1 : doneF (mTb c) fRPM [sT 0] (mR c) = true := allU_lt m_runs c hc
  have h2 : @AnsN V fRPM [sT 0] (@cvF V (mR c)) := doneF_ok V ht h1
  have h3 := @ansN_flat V fRPM [sT 0] (@cvF V (mR c)) h2 rfl
  rw [hv] at h3
  have e : [sT 0].map (@cvF V) = [.string s] := by rw [← h0]; rfl
  rw [e] at h3
  exact h3
theorem rpm_ans (s : ByteArray) (hs : s.data.toList.length ≤ 70000) {a b : ER} (ha : earP s.data.toList (plc s.data.toList 0 2) = a) (hb : earP s.data.toList (plc s.data.toList a.i 3) = b) : Ans fRPM [.string s] (pmR s a b) := by
  obtain ⟨r1, hr1⟩ : ∃ r, smP s.data.toList 2 = r := ⟨_, rfl⟩
  obtain ⟨r2, hr2⟩ : ∃ r, smP s.data.toList (r1.n + 3) = r := ⟨_, rfl⟩
  have al1 := smP_alike s.data.toList 2
  rw [hr1, ha] at al1
  have al2 := smP_alike s.data.toList (r1.n + 3)
  rw [← plc_add, ← al1.i, hr2, hb] at al2
  have hcl := cnt_len s.data.toList
  have hn1 : r1.n ≤ 70003 := by rw [← hr1]; exact smP_n (by omega) (by omega)
  have hn2 : r2.n ≤ 70009 := by rw [← hr2]; exact smP_n (M := 70006) (by omega) (by omega)
  have ix1 : plc s.data.toList a.i 1 = plc s.data.toList 0 (r1.n + 1) := by rw [al1.i, plc_add]
  have ix2 : plc s.data.toList a.i 2 = plc s.data.toList 0 (r1.n + 2) := by rw [al1.i, plc_add]
  unfold pmR
  by_cases c0 : 65536 < s.data.toList.length
  · rw [if_pos c0]
    exact m_key (V := (mrm s r1 r2 (xv s.data.toList r1 0)).val fun _ => undef) rfl 0 (by omega) (by letI : Val := (mrm s r1 r2 (xv s.data.toList r1 0)).val fun _ => undef; exact { T := mr_T true (decide_eq_true (by omega)) }) _ rfl
  rw [if_neg c0]
  by_cases cz : cnt s.data.toList = 0
  · have h0 := tok_out s.data.toList 0 (by omega)
    have h1 : Ps.tok s.data.toList 0 = [] := h0.2
    have h2 : tfr s.data.toList 0 = s.data.toList.length := h0.1
    rw [if_neg (by rw [h1]; exact (List.cons_ne_nil _ _).symm), h2]
    exact m_key (V := (mrm s r1 r2 (xv s.data.toList r1 0)).val fun _ => undef) rfl 1 (by omega) (by letI : Val := (mrm s r1 r2 (xv s.data.toList r1 0)).val fun _ => undef; exact { T := mr_T false (decide_eq_false (by omega)), Q := mr_tok hs false (by rw [cz]; rfl) }) _ rfl
  have one := fun (x : Nat) (hx : x < 6) (c : Nat) (hc : c < 14) (T : List TE) (Y : List YE) (hm : mTb c = mkT x false T Y) (hT : ∀ q, q ∈ T → @TETrue ((mrm s r1 r2 (xv s.data.toList r1 x)).val fun _ => undef) q) (hY : ∀ q, q ∈ Y → Ans q.f (q.a.map (@cvF ((mrm s r1 r2 (xv s.data.toList r1 x)).val fun _ => undef))) (@cvF ((mrm s r1 r2 (xv s.data.toList r1 x)).val fun _ => undef) q.r)) (v : Value) (hv : @cvF ((mrm s r1 r2 (xv s.data.toList r1 x)).val fun _ => undef) (mR c) = v) =>
    m_key (V := (mrm s r1 r2 (xv s.data.toList r1 x)).val fun _ => undef) (s := s) rfl c hc (by rw [hm]; exact mk_ok hs hx (by omega) (by omega) hr1 c0 cz false (fun h => by cases h) hT hY) v hv
  by_cases c1 : Ps.tok s.data.toList 0 = wNear
  rotate_left
  · rw [if_neg c1]
    exact one 0 (by omega) 2 (by omega) _ _ rfl (mr_is 0 (beq_f' c1)) no_Y _ rfl
  rw [if_pos c1]
  have fB := fun (x : Nat) => mr_is (s := s) (r1 := r1) (r2 := r2) (x := x) 0 (beq_t' (y := wNear) (show Ps.tok s.data.toList (plc s.data.toList 0 (ix r1 r2 (xv s.data.toList r1 x).1 0)) = wNear from c1))
  by_cases c2 : Ps.tok s.data.toList (plc s.data.toList 0 1) = wColon
  rotate_left
  · rw [if_neg c2]
    exact one 1 (by omega) 3 (by omega) _ _ rfl (app_ok (fB 1) (mr_is 1 (beq_f' c2))) no_Y _ rfl
  rw [if_pos c2]
  have fC := fun (x : Nat) => app_ok (fB x) (mr_is (s := s) (r1 := r1) (r2 := r2) (x := x) 1 (beq_t' (y := wColon) (show Ps.tok s.data.toList (plc s.data.toList 0 (ix r1 r2 (xv s.data.toList r1 x).1 1)) = wColon from c2)))
  rw [al1.err]
  by_cases c3 : r1.err = 0
  rotate_left
  · rw [if_neg c3, al1.pos]
    exact one 0 (by omega) 4 (by omega) _ _ rfl (app_ok (fC 0) (one_T (mr_e1 false (beq_f' c3)))) no_Y _ rfl
  rw [if_pos c3]
  have fD := fun (x : Nat) => app_ok (fC x) (one_T (mr_e1 (s := s) (r1 := r1) (r2 := r2) (x := x) true (beq_t' c3)))
  have hpos : r1.pos = 0 := by rw [← hr1]; exact smP_pos (by rw [hr1]; exact c3)
  rw [al1.e c3]
  by_cases c4 : Ps.tok s.data.toList a.i = wSemi
  rotate_left
  · rw [if_neg c4, al1.i]
    rw [al1.i] at c4
    exact one 2 (by omega) 5 (by omega) _ _ rfl (app_ok (fD 2) (mr_is 2 (beq_f' c4))) no_Y _ rfl
  rw [if_pos c4]
  rw [al1.i] at c4
  have fE := fun (x : Nat) => app_ok (fD x) (mr_is (s := s) (r1 := r1) (r2 := r2) (x := x) 2 (beq_t' (y := wSemi) (show Ps.tok s.data.toList (plc s.data.toList 0 (ix r1 r2 (xv s.data.toList r1 x).1 2)) = wSemi from c4)))
  by_cases c5 : valB r1.e = true
  rotate_left
  · rw [if_neg c5, al1.i]
    have c5 : valB r1.e = false := by simpa using c5
    exact one 3 (by omega) 6 (by omega) _ _ rfl (fE 3) (one_Y (mr_vN false c5)) _ rfl
  rw [if_pos c5]
  rw [ix1]
  by_cases c6 : Ps.tok s.data.toList (plc s.data.toList 0 (r1.n + 1)) = wFar
  rotate_left
  · rw [if_neg c6]
    exact one 4 (by omega) 7 (by omega) _ _ rfl (app_ok (fE 4) (mr_is 3 (beq_f' c6))) (one_Y (mr_vN true c5)) _ rfl
  rw [if_pos c6]
  have fG := fun (x : Nat) => app_ok (fE x) (mr_is (s := s) (r1 := r1) (r2 := r2) (x := x) 3 (beq_t' (y := wFar) (show Ps.tok s.data.toList (plc s.data.toList 0 (ix r1 r2 (xv s.data.toList r1 x).1 3)) = wFar from c6)))
  rw [ix2]
  by_cases c7 : Ps.tok s.data.toList (plc s.data.toList 0 (r1.n + 2)) = wColon
  rotate_left
  · rw [if_neg c7]
    exact one 5 (by omega) 8 (by omega) _ _ rfl (app_ok (fG 5) (mr_is 4 (beq_f' c7))) (one_Y (mr_vN true c5)) _ rfl
  rw [if_pos c7]
  have fH := app_ok (fG 0) (mr_is (s := s) (r1 := r1) (r2 := r2) (x := 0) 4 (beq_t' (y := wColon) (show Ps.tok s.data.toList (plc s.data.toList 0 (ix r1 r2 (xv s.data.toList r1 0).1 4)) = wColon from c7)))
  have two := fun (c : Nat) (hc : c < 14) (T : List TE) (Y : List YE) (hm : mTb c = mkT 0 true T Y) (hT : ∀ q, q ∈ T → @TETrue ((mrm s r1 r2 (xv s.data.toList r1 0)).val fun _ => undef) q) (hY : ∀ q, q ∈ Y → Ans q.f (q.a.map (@cvF ((mrm s r1 r2 (xv s.data.toList r1 0)).val fun _ => undef))) (@cvF ((mrm s r1 r2 (xv s.data.toList r1 0)).val fun _ => undef) q.r)) (v : Value) (hv : @cvF ((mrm s r1 r2 (xv s.data.toList r1 0)).val fun _ => undef) (mR c) = v) =>
    m_key (V := (mrm s r1 r2 (xv s.data.toList r1 0)).val fun _ => undef) (s := s) rfl c hc (by rw [hm]; exact mk_ok hs (by omega) (by omega) (by omega) hr1 c0 cz true (fun _ => ⟨by omega, hr2, c3, hpos⟩) hT hY) v hv
  rw [al2.err]
  by_cases c8 : r2.err = 0
  rotate_left
  · rw [if_neg c8, al2.pos]
    have fT := app_ok fH (one_T (mr_e2 (s := s) (r1 := r1) (x := 0) false (beq_f' c8)))
    cases hv2 : valB r2.e with
    | true => exact two 9 (by omega) _ _ rfl fT (two_Y (mr_vN true c5) (mr_vF true hv2)) _ rfl
    | false => exact two 10 (by omega) _ _ rfl fT (two_Y (mr_vN true c5) (mr_vF false hv2)) _ rfl
  rw [if_pos c8]
  have fI := app_ok fH (one_T (mr_e2 (s := s) (r1 := r1) (x := 0) true (beq_t' c8)))
  rw [al2.i, al2.e c8]
  by_cases c9 : r2.n < cnt s.data.toList
  · have hne : Ps.tok s.data.toList (plc s.data.toList 0 r2.n) ≠ [] := Ps.tok_some ((cnt_ok _).1 _ c9)
    rw [if_neg hne]
    exact two 11 (by omega) _ _ rfl (app_ok fI (one_T (mr_mo true (decide_eq_true c9)))) (one_Y (mr_vN true c5)) _ rfl
  · have hto := tok_out s.data.toList r2.n c9
    rw [if_pos hto.2, hto.1]
    have fM := app_ok fI (one_T (mr_mo (s := s) (r1 := r1) (x := 0) false (decide_eq_false c9)))
    by_cases c10 : valB r2.e = true
    · rw [if_pos c10]
      refine two 13 (by omega) _ _ rfl fM (two_Y (mr_vN true c5) (mr_vF true c10)) _ ?_
      have e1 : earL' a = [.int .i64 (r1.e 0), .int .i64 (r1.e 1), .int .i64 (r1.e 2), .int .i64 (r1.e 3), .int .i64 (r1.e 4), .int .i64 (r1.e 5), .int .i64 (r1.e 6), .int .i64 (r1.e 7), .int .i64 (r1.e 8), .bool (bitY r1.e 0), .bool (bitY r1.e 1), .bool (bitY r1.e 2)] := by unfold earL'; rw [al1.e c3]
      have e2 : earL' b = [.int .i64 (r2.e 0), .int .i64 (r2.e 1), .int .i64 (r2.e 2), .int .i64 (r2.e 3), .int .i64 (r2.e 4), .int .i64 (r2.e 5), .int .i64 (r2.e 6), .int .i64 (r2.e 7), .int .i64 (r2.e 8), .bool (bitY r2.e 0), .bool (bitY r2.e 1), .bool (bitY r2.e 2)] := by unfold earL'; rw [al2.e c8]
      unfold markV
      rw [e1, e2]
      rfl
    · rw [if_neg c10]
      have c10 : valB r2.e = false := by simpa using c10
      exact two 12 (by omega) _ _ rfl fM (two_Y (mr_vN true c5) (mr_vF false c10)) _ rfl
end Go.Proofs.Z.Sp
