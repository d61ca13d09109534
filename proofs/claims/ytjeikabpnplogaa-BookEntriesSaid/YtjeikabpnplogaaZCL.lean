/- A part of the proofs that the laws of layer eight answer true for every input. -/
import Derived.Test.YtjeikabpnplogaaZCK
import Derived.Test.YtjeikabpnplogaaZBT
import Derived.Test.YtjeikabpnplogaaZBH
namespace Go.Proofs.Z
open Go Go.RowKit Go.Proofs Go.Ri Go.Proofs.Z.Fa
/-! BookEntries answers true: the law. -/
abbrev fBookEntries : Nat := 4
def dnR : RV := .agg ([sI 70, sI 71, sU 72, sT 5] ++ (List.range 16).map fun i => sU (400 + i))
def bnD : List RV := [entR, sT 9]
def bnY : List YE := [⟨fDigest, [entR], .tup [sI 60, sI 61]⟩, ⟨fRDigest, [entR], .tup [sI 60, sI 61]⟩, ⟨fEnc, [entR], .tup [sT 4, sI 62]⟩, ⟨fREnc, [entR], .tup [sT 4, sI 62]⟩, ⟨fDec, [sT 9], .tup [dnR, sI 63, sI 64]⟩, ⟨fRDec, [sT 9], .tup [dnR, sI 63, sI 64]⟩]
noncomputable def bnA : Tb := { X := saneX, Y := bnY }
set_option maxRecDepth 100000 in
theorem bn_run : doneQ bnA [] fBookEntries bnD [] [] (bR true) [] = true := by kernel_rfl
theorem entG_of [Val] {a0 a1 a2 a3 : RV} {b : Nat} {p n x : Int} {s : ByteArray} {f : Nat → Int} (h0 : cv a0 = .int .i64 p) (h1 : cv a1 = .int .i64 n) (h2 : cv a2 = .int .u64 x) (h3 : cv a3 = .string s) (hb : ∀ i, i < 16 → Val.I (b + i) = f i) : cv1 (.agg ([a0, a1, a2, a3] ++ (List.range 16).map fun i => sU (b + i))) = entVal p n x s f := by
  show Value.agg ((([a0, a1, a2, a3] : List RV) ++ (List.range 16).map fun i => sU (b + i)).map cv).toArray = _
  rw [List.map_append, List.map_map]
  unfold entVal
  have hm : (List.range 16).map (cv ∘ fun i => sU (b + i)) = (List.range 16).map fun i => Value.int .u64 (f i) := List.map_congr_left fun i hi => by
    show Value.int .u64 (Val.I (b + i)) = _
    rw [hb i (List.mem_range.1 hi)]
  have h4 : ([a0, a1, a2, a3] : List RV).map cv = [.int .i64 p, .int .i64 n, .int .u64 x, .string s] := by
    show [cv a0, cv a1, cv a2, cv a3] = _
    rw [h0, h1, h2, h3]
  rw [hm, h4]
def bnI (p n x : Int) (se : Nat → Int) (dg de en ee er p' n' x' : Int) (se' : Nat → Int) (m : Int) (k : Nat) : Int := if k = 0 then x else if k = 50 then p else if k = 51 then n else if k = 60 then dg else if k = 61 then de else if k = 62 then en else if k = 63 then ee else if k = 64 then er else if k = 70 then p' else if k = 71 then n' else if k = 72 then x' else if k < 300 then m else if k < 400 then se (k - 300) else se' (k - 400)
def bnS (s e s' t : ByteArray) (k : Nat) : ByteArray := if k = 1 then s else if k = 4 then e else if k = 5 then s' else t
abbrev bnV (p n x : Int) (s : ByteArray) (se : Nat → Int) (dg de : Int) (e : ByteArray) (en ee er p' n' x' : Int) (s' : ByteArray) (se' : Nat → Int) (t : ByteArray) (m : Int) : Val := (⟨bnI p n x se dg de en ee er p' n' x' se' m, fun _ => false, bnS s e s' t, fun _ => []⟩ : Nm).val fun _ => undef
section
variable {p n x : Int} {s : ByteArray} {se : Nat → Int} {dg de : Int} {e : ByteArray} {en ee er p' n' x' : Int} {s' : ByteArray} {se' : Nat → Int} {t : ByteArray} {m : Int}
theorem bn_e : @cv1 (bnV p n x s se dg de e en ee er p' n' x' s' se' t m) entR = entVal p n x s se := by
  refine @entG_of (bnV p n x s se dg de e en ee er p' n' x' s' se' t m) _ _ _ _ 300 p n x s se ?_ ?_ rfl rfl fun i hi => ?_
  · exact congrArg (Value.int .i64) (show bnI p n x se dg de en ee er p' n' x' se' m 50 = p by simp [bnI])
  · exact congrArg (Value.int .i64) (show bnI p n x se dg de en ee er p' n' x' se' m 51 = n by simp [bnI])
  · show bnI p n x se dg de en ee er p' n' x' se' m (300 + i) = se i
    unfold bnI
    rw [if_neg (by omega), if_neg (by omega), if_neg (by omega), if_neg (by omega), if_neg (by omega), if_neg (by omega), if_neg (by omega), if_neg (by omega), if_neg (by omega), if_neg (by omega), if_neg (by omega), if_neg (by omega), if_pos (by omega), Nat.add_sub_cancel_left]
theorem bn_d : @cv1 (bnV p n x s se dg de e en ee er p' n' x' s' se' t m) dnR = entVal p' n' x' s' se' := by
  refine @entG_of (bnV p n x s se dg de e en ee er p' n' x' s' se' t m) _ _ _ _ 400 p' n' x' s' se' ?_ ?_ ?_ rfl fun i hi => ?_
  · exact congrArg (Value.int .i64) (show bnI p n x se dg de en ee er p' n' x' se' m 70 = p' by simp [bnI])
  · exact congrArg (Value.int .i64) (show bnI p n x se dg de en ee er p' n' x' se' m 71 = n' by simp [bnI])
  · exact congrArg (Value.int .u64) (show bnI p n x se dg de en ee er p' n' x' se' m 72 = x' by simp [bnI])
  · show bnI p n x se dg de en ee er p' n' x' se' m (400 + i) = se' i
    unfold bnI
    rw [if_neg (by omega), if_neg (by omega), if_neg (by omega), if_neg (by omega), if_neg (by omega), if_neg (by omega), if_neg (by omega), if_neg (by omega), if_neg (by omega), if_neg (by omega), if_neg (by omega), if_neg (by omega), if_neg (by omega), Nat.add_sub_cancel_left]
theorem bn60 : @cv (bnV p n x s se dg de e en ee er p' n' x' s' se' t m) (sI 60) = .int .i64 dg := congrArg (Value.int .i64) (show bnI p n x se dg de en ee er p' n' x' se' m 60 = dg by simp [bnI])
theorem bn61 : @cv (bnV p n x s se dg de e en ee er p' n' x' s' se' t m) (sI 61) = .int .i64 de := congrArg (Value.int .i64) (show bnI p n x se dg de en ee er p' n' x' se' m 61 = de by simp [bnI])
theorem bn62 : @cv (bnV p n x s se dg de e en ee er p' n' x' s' se' t m) (sI 62) = .int .i64 en := congrArg (Value.int .i64) (show bnI p n x se dg de en ee er p' n' x' se' m 62 = en by simp [bnI])
theorem bn63 : @cv (bnV p n x s se dg de e en ee er p' n' x' s' se' t m) (sI 63) = .int .i64 ee := congrArg (Value.int .i64) (show bnI p n x se dg de en ee er p' n' x' se' m 63 = ee by simp [bnI])
theorem bn64 : @cv (bnV p n x s se dg de e en ee er p' n' x' s' se' t m) (sI 64) = .int .i64 er := congrArg (Value.int .i64) (show bnI p n x se dg de en ee er p' n' x' se' m 64 = er by simp [bnI])
theorem bn_args (w : World) : All2 (@Go.Ri.NVal (bnV p n x s se dg de e en ee er p' n' x' s' se' t m) w) bnD [entVal p n x s se, .string t] := by
  have h := @nval_flat (bnV p n x s se dg de e en ee er p' n' x' s' se' t m) w bnD rfl
  rw [show bnD.map (@cvF (bnV p n x s se dg de e en ee er p' n' x' s' se' t m)) = [entVal p n x s se, .string t] from congrArg (fun z => [z, Value.string t]) bn_e] at h
  exact h
theorem bn_core (hD : ∀ q, Ans (diF q) [entVal p n x s se] (tup2 (.int .i64 dg) (.int .i64 de))) (hE : ∀ q, Ans (enF q) [entVal p n x s se] (tup2 (.string e) (.int .i64 en))) (hC : ∀ q, Ans (dcF q) [.string t] (tup3 (entVal p' n' x' s' se') (.int .i64 ee) (.int .i64 er))) : Ans fBookEntries [entVal p n x s se, .string t] (.bool true) := by
  have ht : @TbOK (bnV p n x s se dg de e en ee er p' n' x' s' se' t 0) bnA := by
    have y1 : ∀ q, Ans (diF q) [@cv1 (bnV p n x s se dg de e en ee er p' n' x' s' se' t 0) entR] (tup2 (@cv (bnV p n x s se dg de e en ee er p' n' x' s' se' t 0) (sI 60)) (@cv (bnV p n x s se dg de e en ee er p' n' x' s' se' t 0) (sI 61))) := fun q => by
      rw [bn_e, bn60, bn61]
      exact hD q
    have y2 : ∀ q, Ans (enF q) [@cv1 (bnV p n x s se dg de e en ee er p' n' x' s' se' t 0) entR] (tup2 (.string e) (@cv (bnV p n x s se dg de e en ee er p' n' x' s' se' t 0) (sI 62))) := fun q => by
      rw [bn_e, bn62]
      exact hE q
    have y3 : ∀ q, Ans (dcF q) [.string t] (tup3 (@cv1 (bnV p n x s se dg de e en ee er p' n' x' s' se' t 0) dnR) (@cv (bnV p n x s se dg de e en ee er p' n' x' s' se' t 0) (sI 63)) (@cv (bnV p n x s se dg de e en ee er p' n' x' s' se' t 0) (sI 64))) := fun q => by
      rw [bn_d, bn63, bn64]
      exact hC q
    letI : Val := bnV p n x s se dg de e en ee er p' n' x' s' se' t 0
    exact { X := saneX_true, Y := fa (y1 true) (fa (y1 false) (fa (y2 true) (fa (y2 false) (fa (y3 true) (fa (y3 false) fz))))) }
  exact done_val _ ht bn_run rfl (holds_all fz) rfl rfl bn_args
end
/-- BookEntries answers true. -/
theorem bookEntries_ans {p n x : Int} {s : ByteArray} {se : Nat → Int} {t : ByteArray} (hx : 0 ≤ x ∧ x < 18446744073709551616) (hse : ∀ i, i < 16 → 0 ≤ se i ∧ se i < 18446744073709551616) : Ans fBookEntries [entVal p n x s se, .string t] (.bool true) := by
  have hC := fun q => dec_ans q t.data.toList
  rw [ba_self] at hC
  by_cases hd : dOk t.data.toList = true
  · unfold decV at hC
    rw [if_pos hd] at hC
    exact bn_core (fun q => digest_ans q hx) (fun q => enc_ans q hx hse) hC
  · unfold decV at hC
    rw [if_neg hd] at hC
    exact bn_core (fun q => digest_ans q hx) (fun q => enc_ans q hx hse) hC
end Go.Proofs.Z
