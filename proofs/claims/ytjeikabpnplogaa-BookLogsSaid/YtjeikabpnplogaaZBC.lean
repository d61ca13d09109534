/- A part of the proofs that the laws of layer eight answer true for every input. -/
import Derived.Test.YtjeikabpnplogaaZGB
namespace Go.Proofs.Z
open Go Go.RowKit Go.Proofs Go.Ri Go.Proofs.Z.Fa
/-! Numbers of 64 bits; Hash of both packages. -/
def sU (i : Nat) : RV := .sym (.int .u64) i
def s8 (i : Nat) : RV := .sym (.int .u8) i
def lU (n : Int) : RV := .pl (.int .u64 n)
def w64 (n : Int) : Int := IntKind.u64.wrap n
def hxor (a b : Int) : Int := IntKind.u64.wrap ((BitVec.ofInt 64 a ^^^ BitVec.ofInt 64 b).toNat : Int)
section
variable [Val] {a b c : RV} {m n r : Int}
theorem f_xor (ha : cv a = .int .u64 m) (hb : cv b = .int .u64 n) (hc : cv c = .int .u64 (hxor m n)) (hf : flat0 c = true) : TETrue ⟨.bin .xor, a, b, c⟩ := by
  refine ⟨hf, ?_⟩
  show TCTrue _ (cv a) (cv b) (cv c)
  rw [ha, hb, hc]
  exact fun P ty a b w => by
    simp [int_guard, binOp, Op.intBits]
    rfl
theorem f_mul64 (ha : cv a = .int .u64 m) (hb : cv b = .int .u64 n) (hc : cv c = .int .u64 (w64 (m * n))) (hf : flat0 c = true) : TETrue ⟨.bin .mul, a, b, c⟩ := by
  refine ⟨hf, ?_⟩
  show TCTrue _ (cv a) (cv b) (cv c)
  rw [ha, hb, hc]
  exact t_mul .u64 m n
theorem f_shr (ha : cv a = .int .u64 m) {k : Nat} (hk : k ≤ 64) (hc : cv c = .int .u64 (m.fdiv (2 ^ k))) (hf : flat0 c = true) : TETrue ⟨.bin .shr, a, lU k, c⟩ := by
  refine ⟨hf, ?_⟩
  show TCTrue _ (cv a) (.int .u64 k) (cv c)
  rw [ha, hc]
  exact fun P ty a b w => by
    have h0 : ¬ ((k : Int) < 0) := by omega
    have h1 : min ((k : Int).toNat) IntKind.u64.bits = k := by
      rw [Int.toNat_natCast]
      exact Nat.min_eq_left hk
    simp only [int_guard, Sem.run_bind, Result.andThen_ok, binOp, Op.shift, if_neg h0, h1, Sem.run_pure]
theorem f_conv {k k' : IntKind} (ha : cv a = .int k m) (hc : cv c = .int k' (k'.wrap m)) (hf : flat0 c = true) : TETrue ⟨.conv k', a, a, c⟩ := by
  refine ⟨hf, ?_⟩
  show TCTrue _ (cv a) (cv a) (cv c)
  rw [ha, hc]
  exact t_conv k m k' _
theorem f_len {s : ByteArray} (ha : cv a = .string s) (hc : cv c = .int .i64 (s.size : Nat)) (hf : flat0 c = true) : TETrue ⟨.len, a, a, c⟩ := ⟨hf, s, ha, hc⟩
theorem f_idx {s : ByteArray} {i : Nat} {x : UInt8} (ha : cv a = .string s) (hb : cv b = .int .i64 (i : Nat)) (h : s.data.toList[i]? = some x) (hc : cv c = .int .u8 (x.toNat : Nat)) (hf : flat0 c = true) : TETrue ⟨.idx, a, b, c⟩ :=
  ⟨hf, s, .i64, i, x, ha, hb, Int.natCast_nonneg i, by rw [Int.toNat_natCast]; exact h, hc⟩
end
def hstep (h : Int) (x : UInt8) : Int := w64 (hxor h (x.toNat : Nat) * 1099511628211)
def hfold (h : Int) (l : List UInt8) : Int := l.foldl hstep h
def hend (h : Int) : Int := hxor (w64 (hxor h (h.fdiv (2 ^ 32)) * 11400714819323198485)) ((w64 (hxor h (h.fdiv (2 ^ 32)) * 11400714819323198485)).fdiv (2 ^ 29))
def hashM (s : ByteArray) : Int := hend (hfold 14695981039346656037 s.data.toList)
theorem w64_byte (x : UInt8) : IntKind.u64.wrap ((x.toNat : Nat) : Int) = (x.toNat : Nat) := by
  have := x.toNat_lt
  show ((x.toNat : Nat) : Int) % 18446744073709551616 = _
  omega
abbrev fHash : Nat := 14
abbrev fRHash : Nat := 15
def hsF (q : Bool) : Nat := if q then fHash else fRHash
noncomputable def hsP (q : Bool) : St := if q then ⟨patW [(0, sT 0), (3, sU 10), (5, sT 0), (6, sI 1), (7, sI 2)] 27 0, []⟩ else ⟨patW [(0, sT 0), (3, sU 10), (4, sI 2)] 28 0, []⟩
def hsL : List TE := [⟨.len, sT 0, sT 0, sI 1⟩]
noncomputable def hsE : Tb := { T := hsL }
def hsS (h i : RV) : List SE := [.str 0 (sT 0), .int 10 h, .int 1 (sI 1), .int 2 i]
set_option maxRecDepth 100000 in
theorem hs_enter : (all2 fun q => atH (entN hsE [] (hsF q) [sT 0]) (hsF q) 0 (hsS (lU 14695981039346656037) (lI 0)) [] (hsP q)) = true := by kernel_rfl
noncomputable def hsX : Tb := { T := hsL ++ [⟨.bin .lss, sI 2, sI 1, bR true⟩, ⟨.idx, sT 0, sI 2, s8 3⟩, ⟨.conv .u64, s8 3, s8 3, sU 4⟩, ⟨.bin .xor, sU 10, sU 4, sU 5⟩, ⟨.bin .mul, sU 5, lU 1099511628211, sU 6⟩, ⟨.bin .add, sI 2, lI 1, sI 7⟩] }
set_option maxRecDepth 100000 in
theorem hs_again : (all2 fun q => atH (fromH hsX [] (hsF q) 0 (hsP q)) (hsF q) 0 (hsS (sU 6) (sI 7)) [] (hsP q)) = true := by kernel_rfl
noncomputable def hsO : Tb := { T := hsL ++ [⟨.bin .lss, sI 2, sI 1, bR false⟩, ⟨.bin .shr, sU 10, lU 32, sU 11⟩, ⟨.bin .xor, sU 10, sU 11, sU 12⟩, ⟨.bin .mul, sU 12, lU 11400714819323198485, sU 13⟩, ⟨.bin .shr, sU 13, lU 29, sU 14⟩, ⟨.bin .xor, sU 13, sU 14, sU 15⟩] }
set_option maxRecDepth 100000 in
theorem hs_out : (all2 fun q => endF hsO (hsF q) (fromH hsO [] (hsF q) 0 (hsP q)) (sU 15)) = true := by kernel_rfl
end Go.Proofs.Z

namespace Go.Proofs.Z
open Go Go.RowKit Go.Proofs Go.Ri Go.Proofs.Z.Fa
/-! Hash of both packages: its contract. -/
def hsI (s : ByteArray) (i : Nat) (h : Int) (K : Nat → Int) (m : Nat) : Int := if m = 1 then (s.size : Nat) else if m = 2 then (i : Nat) else if m = 10 then h else if m = 7 then (i : Int) + 1 else K m
def hsNm (s : ByteArray) (i : Nat) (h : Int) (K : Nat → Int) : Nm := ⟨hsI s i h K, fun _ => false, fun _ => s, fun _ => []⟩
theorem hs_ids (s : ByteArray) (i i' : Nat) (h h' : Int) (K K' : Nat → Int) (W W' : Nat → Value) (a b : RV) (ha : @cv ((hsNm s i h K).val W) a = .int .u64 h') (hb : @cv ((hsNm s i h K).val W) b = .int .i64 (i' : Nat)) : ∀ q, q ∈ hsS a b → okSE ((hsNm s i h K).val W) ((hsNm s i' h' K').val W') q :=
  fa ⟨s, rfl, rfl⟩ (fa ⟨.u64, h', ha, rfl⟩ (fa ⟨.i64, (s.size : Nat), rfl, rfl⟩ (fa ⟨.i64, (i' : Nat), hb, rfl⟩ fz)))
/-- What is known of the numbers at a place. -/
structure HsK (s : ByteArray) (i : Nat) (h : Int) (K : Nat → Int) : Prop where
  k3 : K 3 = ((s.data.toList.getD i 0).toNat : Nat)
  k4 : K 4 = ((s.data.toList.getD i 0).toNat : Nat)
  k5 : K 5 = hxor h ((s.data.toList.getD i 0).toNat : Nat)
  k6 : K 6 = hstep h (s.data.toList.getD i 0)
  k11 : K 11 = h.fdiv (2 ^ 32)
  k12 : K 12 = hxor h (h.fdiv (2 ^ 32))
  k13 : K 13 = w64 (hxor h (h.fdiv (2 ^ 32)) * 11400714819323198485)
  k14 : K 14 = (w64 (hxor h (h.fdiv (2 ^ 32)) * 11400714819323198485)).fdiv (2 ^ 29)
  k15 : K 15 = hend h
theorem hsK_is (s : ByteArray) (i : Nat) (h : Int) : ∃ K, HsK s i h K := by
  refine ⟨fun m => if m = 3 then ((s.data.toList.getD i 0).toNat : Nat) else if m = 4 then ((s.data.toList.getD i 0).toNat : Nat) else if m = 5 then hxor h ((s.data.toList.getD i 0).toNat : Nat) else if m = 6 then hstep h (s.data.toList.getD i 0)
    else if m = 11 then h.fdiv (2 ^ 32) else if m = 12 then hxor h (h.fdiv (2 ^ 32)) else if m = 13 then w64 (hxor h (h.fdiv (2 ^ 32)) * 11400714819323198485) else if m = 14 then (w64 (hxor h (h.fdiv (2 ^ 32)) * 11400714819323198485)).fdiv (2 ^ 29) else hend h, ?_, ?_, ?_, ?_, ?_, ?_, ?_, ?_, ?_⟩ <;> simp
theorem f_addL [Val] {a c : RV} {m : Int} (ha : cv a = .int .i64 m) (hc : cv c = .int .i64 (m + 1)) (hf : flat0 c = true) (h0 : 0 ≤ m) (h1 : m < 9223372036854775807) : TETrue ⟨.bin .add, a, lI 1, c⟩ := by
  refine ⟨hf, ?_⟩
  show TCTrue _ (cv a) (.int .i64 1) (cv c)
  rw [ha, hc]
  have h : IntKind.i64.wrap (m + 1) = m + 1 := IntWalk.i64_in (m + 1) (by omega)
  have := t_add .i64 m 1
  rw [h] at this
  exact this
theorem hash_ans (q : Bool) (s : ByteArray) (hs : s.size ≤ 9223372036854775807) : Ans (hsF q) [.string s] (.int .u64 (hashM s)) := by
  intro w hr
  have hlen : s.data.toList.length = s.size := rfl
  have hL : ∀ i h K W, ∀ e, e ∈ hsL → @TETrue ((hsNm s i h K).val W) e := fun i h K W => by
    letI : Val := (hsNm s i h K).val W
    exact fa (f_len (s := s) rfl rfl rfl) fz
  obtain ⟨K0, hK0⟩ := hsK_is s 0 14695981039346656037
  have ht0 : @TbOK ((hsNm s 0 14695981039346656037 K0).val fun _ => undef) hsE := by
    letI : Val := (hsNm s 0 14695981039346656037 K0).val fun _ => undef
    exact { T := hL _ _ _ _ }
  refine fn_headsN (κ := Unit) (hsNm s 0 14695981039346656037 K0) (fun _ => undef) hsE [] (hsF q) [sT 0] (fun _ => 0) (fun _ => hsP q) (fun m _ c => ∃ i K, i ≤ s.size ∧ m = s.size - i ∧ HsK s i (hfold 14695981039346656037 (s.data.toList.take i)) K ∧ c = hsNm s i (hfold 14695981039346656037 (s.data.toList.take i)) K) ht0 (hsS (lU 14695981039346656037) (lI 0)) [] () s.size (all2_all hs_enter q) (hsNm s 0 14695981039346656037 K0) (fun W' => holds_all (hs_ids s 0 0 _ _ _ _ _ W' (lU 14695981039346656037) (lI 0) rfl rfl)) ⟨0, K0, Nat.zero_le _, rfl, hK0, rfl⟩ (DF (.int .u64 (hashM s))) ?_ w hr [.string s] (.cons rfl .nil)
  rintro w m _ c ⟨i, K, hi, rfl, hK, rfl⟩ W
  rcases Nat.lt_or_ge i s.size with hlt | hge
  · obtain ⟨x, hx⟩ : ∃ x, s.data.toList[i]? = some x := ⟨s.data.toList[i], List.getElem?_eq_getElem (by rw [hlen]; exact hlt)⟩
    have hg : s.data.toList.getD i 0 = x := by
      rw [List.getD_eq_getElem?_getD, hx]
      rfl
    have hnext : hfold 14695981039346656037 (s.data.toList.take (i + 1)) = hstep (hfold 14695981039346656037 (s.data.toList.take i)) (s.data.toList.getD i 0) := by
      rw [List.take_add_one, hx, hg]
      unfold hfold
      rw [List.foldl_append]
      rfl
    generalize hfold 14695981039346656037 (s.data.toList.take i) = h at *
    have ht : @TbOK ((hsNm s i h K).val W) hsX := by
      letI : Val := (hsNm s i h K).val W
      exact { T := fapp (hL _ _ _ _) (fa (f_lss (k := .i64) (m := (i : Int)) (n := (s.size : Nat)) rfl rfl (decide_eq_true (by omega))) (fa (f_idx (s := s) (i := i) (x := x) rfl rfl hx (by rw [← hg, ← hK.k3]; rfl) rfl) (fa (f_conv (k := .u8) (m := ((s.data.toList.getD i 0).toNat : Nat)) (congrArg (Value.int .u8) hK.k3) (by rw [w64_byte, ← hK.k4]; rfl) rfl) (fa (f_xor (m := h) (n := ((s.data.toList.getD i 0).toNat : Nat)) rfl (congrArg (Value.int .u64) hK.k4) (congrArg (Value.int .u64) hK.k5) rfl) (fa (f_mul64 (m := hxor h ((s.data.toList.getD i 0).toNat : Nat)) (n := 1099511628211) (congrArg (Value.int .u64) hK.k5) rfl (congrArg (Value.int .u64) hK.k6) rfl) (fa (f_addL (m := (i : Int)) rfl rfl rfl (by omega) (by omega)) fz)))))) }
    obtain ⟨K1, hK1⟩ := hsK_is s (i + 1) (hstep h (s.data.toList.getD i 0))
    exact stepH_to hsX [] ht (hsS (sU 6) (sI 7)) [] rfl () (hsNm s (i + 1) (hstep h (s.data.toList.getD i 0)) K1) (all2_all hs_again q) (fun W' => holds_all (hs_ids s i (i + 1) h _ K K1 W W' (sU 6) (sI 7) (congrArg (Value.int .u64) hK.k6) rfl)) ⟨s.size - (i + 1), by omega, i + 1, K1, hlt, rfl, by rw [hnext]; exact hK1, by rw [hnext]⟩
  · obtain rfl : i = s.size := by omega
    have hall : hfold 14695981039346656037 (s.data.toList.take s.size) = hfold 14695981039346656037 s.data.toList := by rw [← hlen, List.take_length]
    have hM : hashM s = hend (hfold 14695981039346656037 (s.data.toList.take s.size)) := by rw [hall]; rfl
    rw [hM]
    generalize hfold 14695981039346656037 (s.data.toList.take s.size) = h at *
    have ht : @TbOK ((hsNm s s.size h K).val W) hsO := by
      letI : Val := (hsNm s s.size h K).val W
      exact { T := fapp (hL _ _ _ _) (fa (f_lss (k := .i64) (m := (s.size : Nat)) (n := (s.size : Nat)) rfl rfl (decide_eq_false (by omega))) (fa (f_shr (a := sU 10) (c := sU 11) (m := h) rfl (k := 32) (by omega) (congrArg (Value.int .u64) hK.k11) rfl) (fa (f_xor (m := h) (n := h.fdiv (2 ^ 32)) rfl (congrArg (Value.int .u64) hK.k11) (congrArg (Value.int .u64) hK.k12) rfl) (fa (f_mul64 (m := hxor h (h.fdiv (2 ^ 32))) (n := 11400714819323198485) (congrArg (Value.int .u64) hK.k12) rfl (congrArg (Value.int .u64) hK.k13) rfl) (fa (f_shr (a := sU 13) (c := sU 14) (m := w64 (hxor h (h.fdiv (2 ^ 32)) * 11400714819323198485)) (congrArg (Value.int .u64) hK.k13) (k := 29) (by omega) (congrArg (Value.int .u64) hK.k14) rfl) (fa (f_xor (m := w64 (hxor h (h.fdiv (2 ^ 32)) * 11400714819323198485)) (n := (w64 (hxor h (h.fdiv (2 ^ 32)) * 11400714819323198485)).fdiv (2 ^ 29)) (congrArg (Value.int .u64) hK.k13) (congrArg (Value.int .u64) hK.k14) (congrArg (Value.int .u64) hK.k15) rfl) fz)))))) }
    exact stepH_outF hsO [] ht (sU 15) (all2_all hs_out q) (congrArg (Value.int .u64) hK.k15)
end Go.Proofs.Z

namespace Go.Proofs.Z
open Go Go.RowKit Go.Proofs Go.Ri Go.Proofs.Z.Fa
/-! Image and Secret of both packages: runs. 0 to 8 a number, by one byte less each; 20 to 27 its bytes; 50 to 53 the entry's number, the bit and its value; 30 to 33 their bytes; strings: 1 what is hashed, 2 the bytes, 5 to 8 what is hashed so far, 10 to 13 the single bytes. -/
abbrev fRImage : Nat := 17
abbrev fImg : Nat := 16
abbrev fSec : Nat := 10
abbrev fRSecret : Nat := 11
def lB (n : Int) : RV := .pl (.int .u8 n)
def numT : List TE := (List.range 8).flatMap fun i => [⟨.conv .u8, sU i, sU i, s8 (20 + i)⟩, ⟨.bin .shr, sU i, lU 8, sU (i + 1)⟩, ⟨.bin .quo, sU i, lU 256, sU (i + 1)⟩]
def numB : List RV := (List.range 8).map fun i => s8 (20 + i)
def imgL : List UInt8 := [105, 109, 97, 103, 101]
def secL : List UInt8 := [115, 101, 99, 114, 101, 116]
def litB (l : List UInt8) : List RV := l.map fun b => lB b.toNat
noncomputable def imgA : Tb := { T := numT, MS := [⟨litB imgL ++ numB, 1⟩], Y := [⟨fHash, [sT 1], sU 40⟩] }
noncomputable def imgB : Tb := { T := numT ++ [⟨.bin .add, lT imgL, sT 2, sT 1⟩], MS := [⟨numB, 2⟩], Y := [⟨fRHash, [sT 1], sU 40⟩] }
set_option maxRecDepth 100000 in
theorem img_a : doneQ imgA [] fImg [sU 0] [.int 40 (sU 40)] [] (sU 40) [] = true := by kernel_rfl
set_option maxRecDepth 100000 in
theorem img_b : doneQ imgB [] fRImage [sU 0] [.int 40 (sU 40)] [] (sU 40) [] = true := by kernel_rfl
def secD : List RV := [sU 0, sI 50, sI 51, sI 52, sI 53]
/-- The number i of the tests of an entry's number, a bit and its value. -/
def sct (i : Nat) (q : Bool) : List TE :=
  if i = 0 then [⟨.bin .geq, sI 50, lI 0, bR q⟩] else if i = 1 then [⟨.bin .leq, sI 50, lI 7, bR q⟩, ⟨.bin .lss, sI 50, lI 8, bR q⟩] else if i = 2 then [⟨.bin .geq, sI 51, lI 0, bR q⟩] else if i = 3 then [⟨.bin .leq, sI 51, lI 63, bR q⟩, ⟨.bin .lss, sI 51, lI 64, bR q⟩]
  else if i = 4 then [⟨.bin .geq, sI 52, lI 0, bR q⟩, ⟨.bin .lss, sI 52, lI 0, bR (!q)⟩] else if i = 5 then [⟨.bin .leq, sI 52, lI 15, bR q⟩, ⟨.bin .geq, sI 52, lI 16, bR (!q)⟩] else if i = 6 then [⟨.bin .geq, sI 53, lI 0, bR q⟩, ⟨.bin .lss, sI 53, lI 0, bR (!q)⟩] else [⟨.bin .leq, sI 53, lI 1, bR q⟩, ⟨.bin .gtr, sI 53, lI 1, bR (!q)⟩]
def scT (m : Nat) : List TE := (List.range (Nat.min (m + 1) 8)).flatMap fun i => sct i (Nat.blt i m)
set_option maxRecDepth 100000 in
theorem sec_no : (allU 8 fun m => doneQ { T := scT m } [] fSec secD [] [] (.tup [lU 0, lI 1]) [] && doneQ { T := scT m } [] fRSecret secD [] [] (.tup [lU 0, lI 1]) []) = true := by kernel_rfl
noncomputable def secA : Tb := { T := scT 8 ++ (numT ++ ((List.range 4).map fun i => ⟨.conv .u8, sI (50 + i), sI (50 + i), s8 (30 + i)⟩)), MS := [⟨litB secL ++ (numB ++ [s8 30, s8 31, s8 32, s8 33]), 1⟩], Y := [⟨fHash, [sT 1], sU 40⟩] }
noncomputable def secB : Tb := { T := scT 8 ++ (numT ++ (((List.range 4).flatMap fun i => [⟨.conv .u64, sI (50 + i), sI (50 + i), sU (60 + i)⟩, ⟨.conv .u8, sU (60 + i), sU (60 + i), s8 (30 + i)⟩, ⟨.bin .quo, sU (60 + i), lU 256, sU (70 + i)⟩]) ++ [⟨.bin .add, lT secL, sT 2, sT 5⟩, ⟨.bin .add, sT 5, sT 10, sT 6⟩, ⟨.bin .add, sT 6, sT 11, sT 7⟩, ⟨.bin .add, sT 7, sT 12, sT 8⟩, ⟨.bin .add, sT 8, sT 13, sT 1⟩])), MS := [⟨numB, 2⟩, ⟨[s8 30], 10⟩, ⟨[s8 31], 11⟩, ⟨[s8 32], 12⟩, ⟨[s8 33], 13⟩], Y := [⟨fRHash, [sT 1], sU 40⟩] }
set_option maxRecDepth 100000 in
theorem sec_a : doneQ secA [] fSec secD [.int 40 (sU 40)] [] (.tup [sU 40, lI 0]) [] = true := by kernel_rfl
set_option maxRecDepth 100000 in
theorem sec_b : doneQ secB [] fRSecret secD [.int 40 (sU 40)] [] (.tup [sU 40, lI 0]) [] = true := by kernel_rfl
end Go.Proofs.Z
