/- A part of the proofs that the laws of layer one answer true for every input. -/
import Derived.Test.YtedbdpaioikhgaaGreatDoorZEarOf
import Derived.Test.YtedbdpaioikhgaaGreatDoorZCmp3
namespace Go.Proofs.Z
open Go Go.RowKit Go.Proofs Go.Ri
/-! Distance and MarkDistance of the specification. -/
def rdCells : List RV := [sI 0, sI 1, sI 2, sI 3, sI 4, sI 5, sI 6, sI 7, sI 8, sB 0, sB 1, sB 2]
def rdCells2 : List RV := [sI 60, sI 61, sI 62, sI 63, sI 64, sI 65, sI 66, sI 67, sI 68, sB 60, sB 61, sB 62]
noncomputable def rdpat (k : Nat) : St := ⟨patW [(2, .ptr 0 0), (3, .ptr 1 0), (6, sI 100), (7, lI k)] 30 0, [some (.cells rdCells 25 false false), some (.cells rdCells2 25 false false)]⟩
def rdE : List SE := idI [0, 1, 2, 3, 4, 5, 6, 7, 8, 60, 61, 62, 63, 64, 65, 66, 67, 68] ++ idB [0, 1, 2, 60, 61, 62]
noncomputable def rdStart : Tb := { Y := [⟨fValid, [earR 0], bR true⟩, ⟨fValid, [earR 60], bR true⟩] }
set_option maxRecDepth 100000 in
theorem rd_enter : enterT rdStart [] fRDist [earR 0, earR 60] (.int 100 (lI 0) :: rdE) [0, 1] (rdpat 0) = true := by kernel_rfl
noncomputable def rdTb (k : Nat) (b : Bool) : Tb := { T := [⟨.ieq, sI (20 + k), sI (40 + k), bR b⟩, ⟨.bin .add, sI 100, lI 1, sI 101⟩], Y := [⟨fGet, [earR 0, lI k], sI (20 + k)⟩, ⟨fGet, [earR 60, lI k], sI (40 + k)⟩] }
noncomputable def rdAgain (k : Nat) (b : Bool) : Bool := againT (rdTb k b) [] (hB rdStart [] fRDist [earR 0, earR 60]) (hK rdStart [] fRDist [earR 0, earR 60]) (rdpat k) (.int 100 (if b then sI 100 else sI 101) :: rdE) [0, 1] (rdpat (k + 1))
set_option maxRecDepth 100000 in
theorem rd_again : (allU 12 fun k => all2 fun b => rdAgain k b) = true := by kernel_rfl
set_option maxRecDepth 100000 in
theorem rd_out : outF {} [] fRDist (hB rdStart [] fRDist [earR 0, earR 60]) (hK rdStart [] fRDist [earR 0, earR 60]) (rdpat 12) (.tup [sI 100, lI 0]) = true := by kernel_rfl
noncomputable def rdBad (p : Bool) : Tb := { Y := ⟨fValid, [earR 0], bR p⟩ :: if p then [⟨fValid, [earR 60], bR false⟩] else [] }
set_option maxRecDepth 100000 in
theorem rd_bad : (all2 fun p => doneQ (rdBad p) [] fRDist [earR 0, earR 60] [] [] (.pl (.tuple #[.int .i64 0, .int .i64 10])) []) = true := by kernel_rfl
section
variable (x x' : Nat → Int) (y y' : Nat → Bool)
theorem rdE_ok (n n' : Nat) (W W' : Nat → Value) : ∀ e, e ∈ rdE → okSE ((dnm x x' y y' n).val W) ((dnm x x' y y' n').val W') e := by
  intro e he
  rcases List.mem_append.1 he with he | he
  · obtain ⟨j, hj, rfl⟩ := List.mem_map.1 he
    refine ⟨.i64, _, rfl, ?_⟩
    have hj : j ≠ 100 ∧ j ≠ 101 := by
      simp only [List.mem_cons, List.not_mem_nil, or_false] at hj
      omega
    show (if j < 20 then x j else if j < 40 then _ else if j < 60 then _ else if j = 100 then _ else if j = 101 then _ else _) = (if j < 20 then x j else if j < 40 then _ else if j < 60 then _ else if j = 100 then _ else if j = 101 then _ else _)
    rw [if_neg hj.1, if_neg hj.2, if_neg hj.1, if_neg hj.2]
  · obtain ⟨j, hj, rfl⟩ := List.mem_map.1 he
    exact ⟨_, rfl, rfl⟩
theorem k12_shp (k : Nat) : k12 x y k = shp x y k := by
  unfold k12 shp
  split
  · rfl
  · cases y (k - 9) <;> rfl
theorem rdist_ans (hv : (valB x && valB x') = true) : Ans fRDist [earF x y, earF x' y'] (.tuple #[intV (dcn (shp x y) (shp x' y') 12), intV 0]) := by
  have hvv : valB x = true ∧ valB x' = true := by simpa using hv
  intro w hr
  refine fn_loop (κ := Nat) (dnm x x' y y' 0) (fun _ => undef) rdStart [] fRDist [earR 0, earR 60] rdpat (fun m k c => k ≤ 12 ∧ m = 12 - k ∧ c = dnm x x' y y' (dcn (shp x y) (shp x' y') k)) ?_ (.int 100 (lI 0) :: rdE) [0, 1] 0 12 rd_enter (dnm x x' y y' 0) ?_ ⟨Nat.zero_le _, rfl, rfl⟩ (DF (.tuple #[intV (dcn (shp x y) (shp x' y') 12), intV 0])) ?_ w hr [earF x y, earF x' y'] (@nval_flat ((dnm x x' y y' 0).val fun _ => undef) w [earR 0, earR 60] rfl)
  · letI : Val := (dnm x x' y y' 0).val fun _ => undef
    refine { Y := ?_ }
    intro e he
    simp only [rdStart, List.mem_cons, List.not_mem_nil, or_false] at he
    rcases he with rfl | rfl
    · have := val_ans x y
      rw [hvv.1] at this
      exact this
    · have := val_ans x' y'
      rw [hvv.2] at this
      exact this
  · intro W'
    refine holds_all fun e he => ?_
    rcases List.mem_cons.1 he with rfl | he
    · exact ⟨.i64, 0, rfl, rfl⟩
    · exact rdE_ok x x' y y' 0 0 _ W' e he
  · rintro w m k c ⟨hk, rfl, rfl⟩ W
    have hd := dcn_le (shp x y) (shp x' y') k
    by_cases hlt : k < 12
    · have hnext : dcn (shp x y) (shp x' y') (k + 1) = dcn (shp x y) (shp x' y') k + if shp x y k = shp x' y' k then 0 else 1 := rfl
      have hrun := all2_all (allU_lt rd_again k hlt) (shp x y k == shp x' y' k)
      have e20 : (dnm x x' y y' (dcn (shp x y) (shp x' y') k)).I (20 + k) = shp x y k := by
        show (if 20 + k < 20 then _ else if 20 + k < 40 then shp x y (20 + k - 20) else _) = _
        rw [if_neg (by omega), if_pos (by omega), Nat.add_sub_cancel_left]
      have e40 : (dnm x x' y y' (dcn (shp x y) (shp x' y') k)).I (40 + k) = shp x' y' k := by
        show (if 40 + k < 20 then _ else if 40 + k < 40 then _ else if 40 + k < 60 then shp x' y' (40 + k - 40) else _) = _
        rw [if_neg (by omega), if_neg (by omega), if_pos (by omega), Nat.add_sub_cancel_left]
      refine step_to (rdTb k (shp x y k == shp x' y' k)) [] ?_ (.int 100 (if (shp x y k == shp x' y' k) then sI 100 else sI 101) :: rdE) [0, 1] (k + 1) (dnm x x' y y' (dcn (shp x y) (shp x' y') (k + 1))) hrun ?_ ⟨12 - (k + 1), by omega, hlt, rfl, rfl⟩
      · letI : Val := (dnm x x' y y' (dcn (shp x y) (shp x' y') k)).val W
        refine { T := ?_, Y := ?_ }
        · intro e he
          simp only [rdTb, List.mem_cons, List.not_mem_nil, or_false] at he
          rcases he with rfl | rfl
          · refine ⟨rfl, ?_⟩
            show TCTrue .ieq (.int .i64 ((dnm x x' y y' (dcn (shp x y) (shp x' y') k)).I (20 + k))) (.int .i64 ((dnm x x' y y' (dcn (shp x y) (shp x' y') k)).I (40 + k))) _
            rw [e20, e40]
            exact t_ieq .i64 _ _
          · exact te_add1 100 101 (dcn (shp x y) (shp x' y') k) rfl rfl (by omega) (by omega)
        · intro e he
          simp only [rdTb, List.mem_cons, List.not_mem_nil, or_false] at he
          rcases he with rfl | rfl
          · have h := get_ans x y k hlt
            rw [k12_shp, ← e20] at h
            exact h
          · have h := get_ans x' y' k hlt
            rw [k12_shp, ← e40] at h
            exact h
      · intro W'
        refine holds_all fun e he => ?_
        rcases List.mem_cons.1 he with rfl | he
        · by_cases hq : shp x y k = shp x' y' k
          · rw [hnext, if_pos hq, show (shp x y k == shp x' y' k) = true by simpa using hq]
            exact ⟨.i64, _, rfl, rfl⟩
          · rw [hnext, if_neg hq, show (shp x y k == shp x' y' k) = false by simpa using hq]
            exact ⟨.i64, _, rfl, rfl⟩
        · exact rdE_ok x x' y y' _ _ W W' e he
    · obtain rfl : k = 12 := by omega
      exact step_outF {} [] (tb0 _) _ rd_out rfl
theorem rdist_bad (hv : (valB x && valB x') = false) : Ans fRDist [earF x y, earF x' y'] (.tuple #[intV 0, intV 10]) := by
  let V : Val := (dnm x x' y y' 0).val fun _ => undef
  refine @ans_dq V _ _ _ [] fun w hr => done_calls V V (t := rdBad (valB x)) (plan := []) (ds := [earR 0, earR 60]) ?_ (all2_all rd_bad (valB x)) rfl ⟨(fun j r h => by cases h), (fun j r h => by cases h), (fun j r h => by cases h), (fun j r h => by cases h), (fun j r h => by cases h)⟩ w hr [earF x y, earF x' y'] (@nval_flat V w [earR 0, earR 60] rfl)
  letI : Val := V
  refine { Y := ?_ }
  intro e he
  rcases List.mem_cons.1 (show e ∈ (⟨fValid, [earR 0], bR (valB x)⟩ : YE) :: _ from he) with rfl | he
  · exact val_ans x y
  · split at he
    · rename_i h
      obtain rfl := List.mem_singleton.1 he
      have := val_ans x' y'
      rw [show valB x' = false by simpa [h] using hv] at this
      exact this
    · cases he
end
end Go.Proofs.Z

namespace Go.Proofs.Z
open Go Go.RowKit Go.Proofs Go.Ri
/-! MarkDistance of the specification. -/
def rmY (p q : Bool) : List YE := ⟨fRCheckMark, [markR 0 20], lI (if p then 0 else 10)⟩ :: ⟨fRCheckMark, [markR 40 60], lI (if q then 0 else 10)⟩ :: (if p && q then [⟨fRDist, [earR 0, earR 40], dOk true 80⟩, ⟨fRDist, [earR 20, earR 60], dOk true 82⟩] else [])
noncomputable def rmdTb (p q : Bool) : Tb := { T := [⟨.bin .add, sI 80, sI 82, sI 84⟩], Y := rmY p q }
set_option maxRecDepth 100000 in
theorem rmd_run : (all2 fun p => all2 fun q => doneQ (rmdTb p q) [] fRMDist [markR 0 20, markR 40 60] [.int 84 (sI 84)] [] (dOk (p && q) 84) []) = true := by kernel_rfl
section
variable (a b c d : Nat → Int) (e f g h : Nat → Bool)
theorem rmdist_ans : Ans fRMDist [markF a e b f, markF c g d h] (if (valB a && valB b) && (valB c && valB d) then .tuple #[intV (dcn (shp a e) (shp c g) 12 + dcn (shp b f) (shp d h) 12 : Nat), intV 0] else .tuple #[intV 0, intV 10]) := by
  let V : Val := (mdnm a b c d e f g h).val fun _ => undef
  have l1 := dcn_le (shp a e) (shp c g) 12
  have l2 := dcn_le (shp b f) (shp d h) 12
  have ht : @TbOK V (rmdTb (valB a && valB b) (valB c && valB d)) := by
    letI : Val := V
    refine { T := ?_, Y := ?_ }
    · intro q hq
      simp only [rmdTb, List.mem_cons, List.not_mem_nil, or_false] at hq
      subst hq
      refine ⟨rfl, ?_⟩
      have := t_add .i64 (dcn (shp a e) (shp c g) 12 : Nat) (dcn (shp b f) (shp d h) 12 : Nat)
      rw [IntWalk.i64_in _ (by omega), ← Int.natCast_add] at this
      exact this
    · intro q hq
      replace hq : q ∈ rmY (valB a && valB b) (valB c && valB d) := hq
      unfold rmY at hq
      rcases List.mem_cons.1 hq with rfl | hq
      · have := rcm_ans a b e f
        cases hv : (valB a && valB b) <;> rw [hv] at this <;> exact this
      · rcases List.mem_cons.1 hq with rfl | hq
        · have := rcm_ans c d g h
          cases hv : (valB c && valB d) <;> rw [hv] at this <;> exact this
        · split at hq
          · rename_i hv
            have hv : (valB a = true ∧ valB b = true) ∧ (valB c = true ∧ valB d = true) := by simpa using hv
            simp only [List.mem_cons, List.not_mem_nil, or_false] at hq
            rcases hq with rfl | rfl
            · exact rdist_ans a c e g (by rw [hv.1.1, hv.2.1]; rfl)
            · exact rdist_ans b d f h (by rw [hv.1.2, hv.2.2]; rfl)
          · cases hq
  have hh : Holds [.int 84 (sI 84)] V V := holds_all fun q hq => by
    obtain rfl := List.mem_singleton.1 hq
    exact ⟨.i64, _, rfl, rfl⟩
  have hrun := all2_all (all2_all rmd_run (valB a && valB b)) (valB c && valB d)
  intro w hr
  have := done_calls V V ht hrun (by cases ((valB a && valB b) && (valB c && valB d)) <;> rfl) hh w hr [markF a e b f, markF c g d h] (@nval_flat V w [markR 0 20, markR 40 60] rfl)
  refine this.mono fun x w' ⟨u, E', he, hu, H⟩ => ⟨?_, @HInv.below V _ _ _ _ _ _ H⟩
  rw [he]
  cases hb : ((valB a && valB b) && (valB c && valB d)) with
  | true =>
    rw [hb] at hu
    rw [@VRel.fn V E' _ u _ hu (@rel_cvF V E' (dOk true 84) rfl)]
    rfl
  | false =>
    rw [hb] at hu
    rw [@VRel.fn V E' _ u _ hu (@rel_cvF V E' (dOk false 84) rfl)]
    rfl
end
end Go.Proofs.Z
