/- A part of the proofs that the laws of layer one answer true for every input. -/
import Derived.Test.YtedbdpaioikhgaaGreatDoorZTkY2
import Derived.Test.YtedbdpaioikhgaaGreatDoorZTkY1a
import Derived.Test.YtedbdpaioikhgaaGreatDoorZTkY1b
import Derived.Test.YtedbdpaioikhgaaGreatDoorZTkY1c
import Derived.Test.YtedbdpaioikhgaaGreatDoorZTkY2a
import Derived.Test.YtedbdpaioikhgaaGreatDoorZTkY2b
import Derived.Test.YtedbdpaioikhgaaGreatDoorZTkY2c
namespace Go.Proofs.Z.Ps
open Go Go.RowKit Go.Proofs Go.Ri Go.Proofs.Z
/-! ParseMark of package ear: its runs, one for each way out. -/
def earR2 : RV := .agg [sI 200, sI 201, sI 202, sI 203, sI 204, sI 205, sI 206, sI 207, sI 208, sB' 200, sB' 201, sB' 202]
def markR2 : RV := .agg [sI 100, sI 101, sI 102, sI 103, sI 104, sI 105, sI 106, sI 107, sI 108, sB' 100, sB' 101, sB' 102, sI 200, sI 201, sI 202, sI 203, sI 204, sI 205, sI 206, sI 207, sI 208, sB' 200, sB' 201, sB' 202]
def zMR : RV := .pl (.agg zML.toArray)
def mLen (big : Bool) : List TE := [⟨.len, sT 0, sT 0, sI 90⟩, ⟨.bin .gtr, sI 90, lI 65536, bR big⟩]
def mErr (j : Nat) (ok : Bool) : List TE := [⟨.ieq, sI j, lI 0, bR ok⟩]
noncomputable def mIn : List TE := mLen false ++ (isV 50 wNear true ++ isV 51 wColon true)
noncomputable def mNear : List TE := mIn ++ (mErr 111 true ++ isV 101 wSemi true)
noncomputable def mFar : List TE := mNear ++ (isV 60 wFar true ++ isV 61 wColon true)
noncomputable def pmT (T : List TE) (Y : List YE) : Tb := { T := T, U := orU (nextU (sT 0) nxM) (ueU [earU cM2, earU cM1]), Y := Y }
def yN (ok : Bool) : YE := ⟨fCheck, [earR1], lI (if ok then 0 else 10)⟩
def yF (ok : Bool) : YE := ⟨fCheck, [earR2], lI (if ok then 0 else 10)⟩
noncomputable def pmRun (T : List TE) (Y : List YE) (r0 : RV) : Bool := doneF (pmT T Y) fPM [sT 0] r0
set_option maxRecDepth 100000 in
theorem pm_big : pmRun (mLen true) [] (.tup [zMR, lI 0, lI 2]) = true := by kernel_rfl
set_option maxRecDepth 100000 in
theorem pm_a : pmRun (mLen false ++ isV 50 wNear false) [] (.tup [zMR, sI 50, lI 3]) = true := by kernel_rfl
set_option maxRecDepth 100000 in
theorem pm_b : pmRun (mLen false ++ (isV 50 wNear true ++ isV 51 wColon false)) [] (.tup [zMR, sI 52, lI 3]) = true := by kernel_rfl
set_option maxRecDepth 100000 in
theorem pm_c : pmRun (mIn ++ mErr 111 false) [] (.tup [zMR, sI 110, sI 111]) = true := by kernel_rfl
set_option maxRecDepth 100000 in
theorem pm_d : pmRun (mIn ++ (mErr 111 true ++ isV 101 wSemi false)) [] (.tup [zMR, sI 112, lI 3]) = true := by kernel_rfl
set_option maxRecDepth 100000 in
theorem pm_e : pmRun mNear [yN false] (.tup [zMR, sI 112, lI 10]) = true := by kernel_rfl
set_option maxRecDepth 100000 in
theorem pm_f : pmRun (mNear ++ isV 60 wFar false) [yN true] (.tup [zMR, sI 60, lI 3]) = true := by kernel_rfl
set_option maxRecDepth 100000 in
theorem pm_g : pmRun (mNear ++ (isV 60 wFar true ++ isV 61 wColon false)) [yN true] (.tup [zMR, sI 62, lI 3]) = true := by kernel_rfl
set_option maxRecDepth 100000 in
theorem pm_h : pmRun (mFar ++ mErr 211 false) [yN true] (.tup [zMR, sI 210, sI 211]) = true := by kernel_rfl
set_option maxRecDepth 100000 in
theorem pm_i : pmRun (mFar ++ (mErr 211 true ++ isV 201 [] false)) [yN true] (.tup [zMR, sI 212, lI 3]) = true := by kernel_rfl
set_option maxRecDepth 100000 in
theorem pm_j : pmRun (mFar ++ (mErr 211 true ++ isV 201 [] true)) [yN true, yF false] (.tup [zMR, sI 212, lI 10]) = true := by kernel_rfl
set_option maxRecDepth 100000 in
theorem pm_k : pmRun (mFar ++ (mErr 211 true ++ isV 201 [] true)) [yN true, yF true] (.tup [markR2, lI 0, lI 0]) = true := by kernel_rfl
end Go.Proofs.Z.Ps

namespace Go.Proofs.Z.Ps
open Go Go.RowKit Go.Proofs Go.Ri Go.Proofs.Z
open Go.Proofs.Z.W (tfr tto)
/-! ParseMark of package ear: its contract. -/
theorem y1_runs : Runs cM1 := { y1_runs0 with again := y1_again, last := y1_end, twice := y1_twice }
theorem y2_runs : Runs cM2 := { y2_runs0 with again := y2_again, last := y2_end, twice := y2_twice }
theorem earM_le (l : List UInt8) : ∀ (n i : Nat) (t : Nat → Int), i ≤ l.length → (earM l n i t).i ≤ l.length
  | 0, _, _, h => h
  | n + 1, i, t, h => by
    show (match phrase l i with
      | (none, k) => (⟨fun _ => 0, (tfr l (plc l i k) : Nat), 3, plc l i k⟩ : ER)
      | (some (p, v), k) =>
        if t p = 0 then
          (if tok l (plc l i k) = wComma then earM l n (plc l i (k + 1)) (updP t p v) else ⟨updP t p v, 0, 0, plc l i k⟩)
        else ⟨fun _ => 0, (tfr l i : Nat), 11, plc l i k⟩).i ≤ l.length
    obtain ⟨o, m, hph⟩ : ∃ o m, phrase l i = (o, m) := ⟨_, _, rfl⟩
    rw [hph]
    cases o with
    | none => exact plc_le h m
    | some pv =>
      obtain ⟨p, v⟩ := pv
      show (if t p = 0 then
          (if tok l (plc l i m) = wComma then earM l n (plc l i (m + 1)) (updP t p v) else (⟨updP t p v, 0, 0, plc l i m⟩ : ER))
        else ⟨fun _ => 0, (tfr l i : Nat), 11, plc l i m⟩).i ≤ l.length
      split
      · split
        · exact earM_le l n _ _ (plc_le h (m + 1))
        · exact plc_le h m
      · exact plc_le h m
theorem earP_le {l : List UInt8} {i : Nat} (h : i ≤ l.length) : (earP l i).i ≤ l.length := by
  unfold earP
  split
  · exact plc_le h 1
  · exact earM_le l _ _ _ h
noncomputable def mnm (s : ByteArray) (a b : ER) : Nm where
  I := fun j =>
    if 200 ≤ j then (if j < 209 then b.e (j - 200) else if j = 210 then b.pos else if j = 211 then b.err else if j = 212 then (tfr s.data.toList b.i : Nat) else (tto s.data.toList b.i : Nat))
    else if 100 ≤ j then (if j < 109 then a.e (j - 100) else if j = 110 then a.pos else if j = 111 then a.err else if j = 112 then (tfr s.data.toList a.i : Nat) else (tto s.data.toList a.i : Nat))
    else if j = 90 then s.data.toList.length else if j = 50 then (tfr s.data.toList 0 : Nat) else if j = 51 then (tto s.data.toList 0 : Nat) else if j = 52 then (tfr s.data.toList (plc s.data.toList 0 1) : Nat) else if j = 53 then (tto s.data.toList (plc s.data.toList 0 1) : Nat) else if j = 1 then (tfr s.data.toList (plc s.data.toList 0 2) : Nat) else if j = 0 then (tto s.data.toList (plc s.data.toList 0 2) : Nat) else if j = 60 then (tfr s.data.toList (plc s.data.toList a.i 1) : Nat) else if j = 61 then (tto s.data.toList (plc s.data.toList a.i 1) : Nat) else if j = 62 then (tfr s.data.toList (plc s.data.toList a.i 2) : Nat) else if j = 63 then (tto s.data.toList (plc s.data.toList a.i 2) : Nat) else if j = 70 then (tfr s.data.toList (plc s.data.toList a.i 3) : Nat) else (tto s.data.toList (plc s.data.toList a.i 3) : Nat)
  B := fun j => if 200 ≤ j then bitY b.e (j - 200) else bitY a.e (j - 100)
  S := fun j => if j = 0 then s else if j = 50 then tokS' s 0 else if j = 51 then tokS' s (plc s.data.toList 0 1) else if j = 1 then tokS' s (plc s.data.toList 0 2) else if j = 101 then tokS' s a.i else if j = 60 then tokS' s (plc s.data.toList a.i 1) else if j = 61 then tokS' s (plc s.data.toList a.i 2) else if j = 70 then tokS' s (plc s.data.toList a.i 3) else tokS' s b.i
  L := fun _ => []
theorem mnm_a (s : ByteArray) (a b : ER) (W : Nat → Value) : AnsV ((mnm s a b).val W) 100 s a where
  s0 := rfl
  e := fun j hj => by
    show (if 200 ≤ 100 + j then _ else if 100 ≤ 100 + j then (if 100 + j < 109 then a.e (100 + j - 100) else _) else _) = _
    rw [if_neg (by omega), if_pos (by omega), if_pos (by omega), Nat.add_sub_cancel_left]
  b := fun j hj => by
    show (if 200 ≤ 100 + j then _ else bitY a.e (100 + j - 100)) = _
    rw [if_neg (by omega), Nat.add_sub_cancel_left]
  pos := rfl
  err := rfl
  tk := rfl
  fr := rfl
  to := rfl
theorem mnm_b (s : ByteArray) (a b : ER) (W : Nat → Value) : AnsV ((mnm s a b).val W) 200 s b where
  s0 := rfl
  e := fun j hj => by
    show (if 200 ≤ 200 + j then (if 200 + j < 209 then b.e (200 + j - 200) else _) else _) = _
    rw [if_pos (by omega), if_pos (by omega), Nat.add_sub_cancel_left]
  b := fun j hj => by
    show (if 200 ≤ 200 + j then bitY b.e (200 + j - 200) else _) = _
    rw [if_pos (by omega), Nat.add_sub_cancel_left]
  pos := rfl
  err := rfl
  tk := rfl
  fr := rfl
  to := rfl
end Go.Proofs.Z.Ps

namespace Go.Proofs.Z.Ps
open Go Go.RowKit Go.Proofs Go.Ri Go.Proofs.Z
open Go.Proofs.Z.W (tfr tto)
/-! ParseMark of package ear: its contract. -/
def zM : Value := .agg zML.toArray
def earL' (r : ER) : List Value := [.int .i64 (r.e 0), .int .i64 (r.e 1), .int .i64 (r.e 2), .int .i64 (r.e 3), .int .i64 (r.e 4), .int .i64 (r.e 5), .int .i64 (r.e 6), .int .i64 (r.e 7), .int .i64 (r.e 8), .bool (bitY r.e 0), .bool (bitY r.e 1), .bool (bitY r.e 2)]
def markV (a b : ER) : Value := .agg (earL' a ++ earL' b).toArray
def mBad (n : Int) (e : Int) : Value := .tuple #[zM, intV n, intV e]
/-- What ParseMark answers, from what its ears answer. -/
def pmR (s : ByteArray) (a b : ER) : Value :=
  if 65536 < s.data.toList.length then mBad 0 2
  else if tok s.data.toList 0 = wNear then
    (if tok s.data.toList (plc s.data.toList 0 1) = wColon then
      (if a.err = 0 then
        (if tok s.data.toList a.i = wSemi then
          (if valB a.e = true then
            (if tok s.data.toList (plc s.data.toList a.i 1) = wFar then
              (if tok s.data.toList (plc s.data.toList a.i 2) = wColon then
                (if b.err = 0 then
                  (if tok s.data.toList b.i = [] then
                    (if valB b.e = true then .tuple #[markV a b, intV 0, intV 0] else mBad (tfr s.data.toList b.i : Nat) 10)
                  else mBad (tfr s.data.toList b.i : Nat) 3)
                else mBad b.pos b.err)
              else mBad (tfr s.data.toList (plc s.data.toList a.i 2) : Nat) 3)
            else mBad (tfr s.data.toList (plc s.data.toList a.i 1) : Nat) 3)
          else mBad (tfr s.data.toList a.i : Nat) 10)
        else mBad (tfr s.data.toList a.i : Nat) 3)
      else mBad a.pos a.err)
    else mBad (tfr s.data.toList (plc s.data.toList 0 1) : Nat) 3)
  else mBad (tfr s.data.toList 0 : Nat) 3
theorem earR_list {V : Val} {o : Nat} {s : ByteArray} {r : ER} (hA : AnsV V o s r) : ([sI (o + 0), sI (o + 1), sI (o + 2), sI (o + 3), sI (o + 4), sI (o + 5), sI (o + 6), sI (o + 7), sI (o + 8), sB' (o + 0), sB' (o + 1), sB' (o + 2)] : List RV).map (@cv V) = earL' r := by
  show [Value.int .i64 (V.I (o + 0)), .int .i64 (V.I (o + 1)), .int .i64 (V.I (o + 2)), .int .i64 (V.I (o + 3)), .int .i64 (V.I (o + 4)), .int .i64 (V.I (o + 5)), .int .i64 (V.I (o + 6)), .int .i64 (V.I (o + 7)), .int .i64 (V.I (o + 8)), .bool (V.B (o + 0)), .bool (V.B (o + 1)), .bool (V.B (o + 2))] = _
  rw [hA.e 0 (by omega), hA.e 1 (by omega), hA.e 2 (by omega), hA.e 3 (by omega), hA.e 4 (by omega), hA.e 5 (by omega), hA.e 6 (by omega), hA.e 7 (by omega), hA.e 8 (by omega), hA.b 0 (by omega), hA.b 1 (by omega), hA.b 2 (by omega)]
  rfl
section
variable {s : ByteArray} (hsz : s.size ≤ 1000000000) {a b : ER} (ha : earP s.data.toList (plc s.data.toList 0 2) = a) (hb : earP s.data.toList (plc s.data.toList a.i 3) = b) (W : Nat → Value)
include hsz ha hb
theorem ue2_ok : @UETrue ((mnm s a b).val W) (earU cM2) := by
  have h1 : a.i ≤ s.data.toList.length := by rw [← ha]; exact earP_le (plc_le (Nat.zero_le _) 2)
  exact ear_ue y2_runs hsz (plc_le h1 3) hb (mnm_b s a b W) rfl rfl rfl
omit hb in
theorem ue1_ok : @UETrue ((mnm s a b).val W) (earU cM1) :=
  ear_ue y1_runs hsz (plc_le (Nat.zero_le _) 2) ha (mnm_a s a b W) rfl rfl rfl
theorem pmT_ok {T : List TE} {Y : List YE} (hT : ∀ e, e ∈ T → @TETrue ((mnm s a b).val W) e) (hY : ∀ e, e ∈ Y → Ans e.f (e.a.map (@cvF ((mnm s a b).val W))) (@cvF ((mnm s a b).val W) e.r)) : @TbOK ((mnm s a b).val W) (pmT T Y) := by
  letI : Val := (mnm s a b).val W
  have hlen : s.data.toList.length = s.size := by simp
  have h0 : (0 : Nat) ≤ s.data.toList.length := Nat.zero_le _
  have h1 : a.i ≤ s.data.toList.length := by rw [← ha]; exact earP_le (plc_le h0 2)
  have g0 := fun k => plc_le h0 k
  have g1 := fun k => plc_le h1 k
  rw [hlen] at g0 g1
  refine { T := hT, Y := hY, U := ?_ }
  refine orU_ok (next_ok (sT 0) nxM fun q hq => ?_) (ueU_ok _ fun e he => ?_)
  · simp only [nxM, List.mem_cons, List.not_mem_nil, or_false] at hq
    rcases hq with rfl | rfl | rfl | rfl | rfl | rfl
    · exact ⟨s, 0, rfl, hsz, Nat.zero_le _, rfl, rfl, rfl, rfl⟩
    · exact ⟨s, plc s.data.toList 0 1, rfl, hsz, g0 1, rfl, rfl, rfl, rfl⟩
    · exact ⟨s, plc s.data.toList 0 2, rfl, hsz, g0 2, rfl, rfl, rfl, rfl⟩
    · exact ⟨s, plc s.data.toList a.i 1, rfl, hsz, g1 1, rfl, rfl, rfl, rfl⟩
    · exact ⟨s, plc s.data.toList a.i 2, rfl, hsz, g1 2, rfl, rfl, rfl, rfl⟩
    · exact ⟨s, plc s.data.toList a.i 3, rfl, hsz, g1 3, rfl, rfl, rfl, rfl⟩
  · simp only [List.mem_cons, List.not_mem_nil, or_false] at he
    rcases he with rfl | rfl
    · exact ue2_ok hsz ha hb W
    · exact ue1_ok hsz ha W
theorem pm_key {T : List TE} {Y : List YE} {r0 : RV} (hrun : pmRun T Y r0 = true) (hT : ∀ e, e ∈ T → @TETrue ((mnm s a b).val W) e) (hY : ∀ e, e ∈ Y → Ans e.f (e.a.map (@cvF ((mnm s a b).val W))) (@cvF ((mnm s a b).val W) e.r)) : Ans fPM [.string s] (@cvF ((mnm s a b).val W) r0) :=
  letI : Val := (mnm s a b).val W
  have h0 := doneF_ok ((mnm s a b).val W) (t := pmT T Y) (f := fPM) (ds := [sT 0]) (r0 := r0) (pmT_ok hsz ha hb W hT hY) hrun
  ansN_flat (f := fPM) (ds := [sT 0]) h0 rfl
end
section
variable {s : ByteArray} {a b : ER} (W : Nat → Value)
theorem mLen_ok {big : Bool} (h : decide ((s.data.toList.length : Int) > 65536) = big) : ∀ e, e ∈ mLen big → @TETrue ((mnm s a b).val W) e := by
  letI : Val := (mnm s a b).val W
  intro e he
  simp only [mLen, List.mem_cons, List.not_mem_nil, or_false] at he
  rcases he with rfl | rfl
  · exact ⟨rfl, s, rfl, rfl⟩
  · refine ⟨rfl, ?_⟩
    have := t_gtr .i64 (s.data.toList.length : Int) 65536
    rw [h] at this
    exact this
theorem mIs_ok {j i : Nat} (hj : (mnm s a b).S j = tokS' s i) {x : List UInt8} {q : Bool} (h : (tok s.data.toList i == x) = q) : ∀ e, e ∈ isV j x q → @TETrue ((mnm s a b).val W) e :=
  letI : Val := (mnm s a b).val W
  isT hj (by rw [tokS_eq]; exact h)
theorem mErr_ok {j : Nat} {n : Int} (hj : (mnm s a b).I j = n) {q : Bool} (h : (n == 0) = q) : ∀ e, e ∈ mErr j q → @TETrue ((mnm s a b).val W) e := by
  intro e he
  simp only [mErr, List.mem_cons, List.not_mem_nil, or_false] at he
  subst he
  exact ⟨rfl, .i64, n, 0, congrArg (Value.int .i64) hj, rfl, by rw [h]; rfl⟩
theorem yN_ok {q : Bool} (h : valB a.e = q) : Ans (yN q).f ((yN q).a.map (@cvF ((mnm s a b).val W))) (@cvF ((mnm s a b).val W) (yN q).r) := by
  have h1 := chk_ans a.e (bitY a.e)
  rw [h] at h1
  have e1 : @cvF ((mnm s a b).val W) earR1 = earF a.e (bitY a.e) := congrArg (fun l : List Value => Value.agg l.toArray) (earR_list (mnm_a s a b W))
  show Ans fCheck [@cvF ((mnm s a b).val W) earR1] (intV (if q then 0 else 10))
  rw [e1]
  exact h1
theorem yF_ok {q : Bool} (h : valB b.e = q) : Ans (yF q).f ((yF q).a.map (@cvF ((mnm s a b).val W))) (@cvF ((mnm s a b).val W) (yF q).r) := by
  have h1 := chk_ans b.e (bitY b.e)
  rw [h] at h1
  have e1 : @cvF ((mnm s a b).val W) earR2 = earF b.e (bitY b.e) := congrArg (fun l : List Value => Value.agg l.toArray) (earR_list (mnm_b s a b W))
  show Ans fCheck [@cvF ((mnm s a b).val W) earR2] (intV (if q then 0 else 10))
  rw [e1]
  exact h1
theorem mark_cv : @cvF ((mnm s a b).val W) markR2 = markV a b := by
  have e1 := earR_list (mnm_a s a b W)
  have e2 := earR_list (mnm_b s a b W)
  unfold markV
  rw [← e1, ← e2]
  rfl
end
theorem app_ok {Q : TE → Prop} {A B : List TE} (h1 : ∀ e, e ∈ A → Q e) (h2 : ∀ e, e ∈ B → Q e) : ∀ e, e ∈ A ++ B → Q e := fun e he => (List.mem_append.1 he).elim (h1 e) (h2 e)
theorem beq_t {α : Type} [BEq α] [LawfulBEq α] {x y : α} (h : x = y) : (x == y) = true := by rw [h]; exact beq_self_eq_true y
theorem beq_f {α : Type} [BEq α] [LawfulBEq α] {x y : α} (h : ¬ x = y) : (x == y) = false := beq_eq_false_iff_ne.2 h
theorem pm_ans (s : ByteArray) (hsz : s.size ≤ 1000000000) {a b : ER} (ha : earP s.data.toList (plc s.data.toList 0 2) = a) (hb : earP s.data.toList (plc s.data.toList a.i 3) = b) : Ans fPM [.string s] (pmR s a b) := by
  have key := fun T Y r0 => pm_key (T := T) (Y := Y) (r0 := r0) hsz ha hb fun _ => undef
  have none : ∀ e : YE, e ∈ ([] : List YE) → Ans e.f (e.a.map (@cvF ((mnm s a b).val fun _ => undef))) (@cvF ((mnm s a b).val fun _ => undef) e.r) := fun e he => by cases he
  unfold pmR
  by_cases c0 : 65536 < s.data.toList.length
  · rw [if_pos c0]
    exact key _ _ _ pm_big (mLen_ok _ (decide_eq_true (by omega))) none
  rw [if_neg c0]
  have f0 := mLen_ok (s := s) (a := a) (b := b) (fun _ => undef) (big := false) (decide_eq_false (by omega))
  by_cases c1 : tok s.data.toList 0 = wNear
  rotate_left
  · rw [if_neg c1]
    exact key _ _ _ pm_a (app_ok f0 (mIs_ok _ (j := 50) (i := 0) rfl (beq_f c1))) none
  rw [if_pos c1]
  have f1 := mIs_ok (a := a) (b := b) (fun _ => undef) (j := 50) (i := 0) rfl (beq_t c1)
  by_cases c2 : tok s.data.toList (plc s.data.toList 0 1) = wColon
  rotate_left
  · rw [if_neg c2]
    exact key _ _ _ pm_b (app_ok f0 (app_ok f1 (mIs_ok _ (j := 51) rfl (beq_f c2)))) none
  rw [if_pos c2]
  have f2 := app_ok f0 (app_ok f1 (mIs_ok (a := a) (b := b) (fun _ => undef) (j := 51) rfl (beq_t c2)))
  by_cases c3 : a.err = 0
  rotate_left
  · rw [if_neg c3]
    exact key _ _ _ pm_c (app_ok f2 (mErr_ok _ (j := 111) rfl (beq_f c3))) none
  rw [if_pos c3]
  have f3 := mErr_ok (s := s) (a := a) (b := b) (fun _ => undef) (j := 111) rfl (beq_t c3)
  by_cases c4 : tok s.data.toList a.i = wSemi
  rotate_left
  · rw [if_neg c4]
    exact key _ _ _ pm_d (app_ok f2 (app_ok f3 (mIs_ok _ (j := 101) rfl (beq_f c4)))) none
  rw [if_pos c4]
  have f4 := app_ok f2 (app_ok f3 (mIs_ok (a := a) (b := b) (fun _ => undef) (j := 101) rfl (beq_t c4)))
  have one : ∀ q, valB a.e = q → ∀ e : YE, e ∈ [yN q] → Ans e.f (e.a.map (@cvF ((mnm s a b).val fun _ => undef))) (@cvF ((mnm s a b).val fun _ => undef) e.r) := fun q h e he => by
    rw [List.mem_singleton.1 he]
    exact yN_ok _ h
  by_cases c5 : valB a.e = true
  rotate_left
  · rw [if_neg c5]
    exact key _ _ _ pm_e f4 (one false (by simpa using c5))
  rw [if_pos c5]
  have y5 := one true c5
  by_cases c6 : tok s.data.toList (plc s.data.toList a.i 1) = wFar
  rotate_left
  · rw [if_neg c6]
    exact key _ _ _ pm_f (app_ok f4 (mIs_ok _ (j := 60) rfl (beq_f c6))) y5
  rw [if_pos c6]
  have f6 := mIs_ok (a := a) (b := b) (fun _ => undef) (j := 60) rfl (beq_t c6)
  by_cases c7 : tok s.data.toList (plc s.data.toList a.i 2) = wColon
  rotate_left
  · rw [if_neg c7]
    exact key _ _ _ pm_g (app_ok f4 (app_ok f6 (mIs_ok _ (j := 61) rfl (beq_f c7)))) y5
  rw [if_pos c7]
  have f7 := app_ok f4 (app_ok f6 (mIs_ok (a := a) (b := b) (fun _ => undef) (j := 61) rfl (beq_t c7)))
  by_cases c8 : b.err = 0
  rotate_left
  · rw [if_neg c8]
    exact key _ _ _ pm_h (app_ok f7 (mErr_ok _ (j := 211) rfl (beq_f c8))) y5
  rw [if_pos c8]
  have f8 := mErr_ok (s := s) (a := a) (b := b) (fun _ => undef) (j := 211) rfl (beq_t c8)
  by_cases c9 : tok s.data.toList b.i = []
  rotate_left
  · rw [if_neg c9]
    exact key _ _ _ pm_i (app_ok f7 (app_ok f8 (mIs_ok _ (j := 201) rfl (beq_f c9)))) y5
  rw [if_pos c9]
  have f9 := app_ok f7 (app_ok f8 (mIs_ok (a := a) (b := b) (fun _ => undef) (j := 201) rfl (beq_t c9)))
  have two : ∀ q, valB b.e = q → ∀ e : YE, e ∈ [yN true, yF q] → Ans e.f (e.a.map (@cvF ((mnm s a b).val fun _ => undef))) (@cvF ((mnm s a b).val fun _ => undef) e.r) := fun q h e he => by
    simp only [List.mem_cons, List.not_mem_nil, or_false] at he
    rcases he with rfl | rfl
    · exact yN_ok _ c5
    · exact yF_ok _ h
  by_cases c10 : valB b.e = true
  rotate_left
  · rw [if_neg c10]
    exact key _ _ _ pm_j f9 (two false (by simpa using c10))
  rw [if_pos c10]
  have h := key _ _ _ pm_k f9 (two true c10)
  have e : @cvF ((mnm s a b).val fun _ => undef) (.tup [markR2, lI 0, lI 0]) = .tuple #[@cvF ((mnm s a b).val fun _ => undef) markR2, intV 0, intV 0] := rfl
  rw [e, mark_cv] at h
  exact h
end Go.Proofs.Z.Ps
