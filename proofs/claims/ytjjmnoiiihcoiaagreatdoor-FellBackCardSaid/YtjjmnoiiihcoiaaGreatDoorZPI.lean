/- A part of the proofs that the laws of layer four answer true for every input. -/
import Derived.Test.YtjjmnoiiihcoiaaGreatDoorZPG
import Derived.Test.YtjjmnoiiihcoiaaGreatDoorZNC
namespace Go.Proofs.Z
open Go Go.RowKit Go.Proofs Go.Ri Go.Proofs.Z.Fa
/-! Print of both packages: runs. 0 the text so far, 1 to 9 with what is written behind it, 10 the next text; 20 to 24 the numbers as they are written. -/
abbrev fPrint : Nat := 58
def bGate : List UInt8 := wGate ++ [32]
noncomputable def zqE : Tb := { T := [⟨.bin .add, lB [32], sS 24, sS 25⟩, ⟨.bin .add, lB wFell, sS 25, sS 26⟩, ⟨.bin .add, sS 26, lB [10], sS 0⟩], LL := hLL, C := [⟨fCheck, [fellR], lI 0⟩], Y := [⟨fItoa, [sI 0], sS 24⟩] }
noncomputable def zqP : St := ⟨patW [(5, sS 0), (18, .slA 0 0 4), (19, sI 1), (20, sI 2)] 38 0, [some (.lstA 0)]⟩
def zpS (t i : RV) : List SE := [.int 0 (sI 0), .int 1 (sI 1), .int 2 i, .str 0 t, .lst 0 0]
set_option maxRecDepth 100000 in
theorem zq_enter : atH (entN zqE [] fPrint [fellR]) fPrint 0 (zpS (sS 0) (lI 0)) [0] zqP = true := by kernel_rfl
def zpG : List TE := [⟨.bin .add, sS 0, lB bGate, sS 1⟩, ⟨.bin .add, sS 1, sS 20, sS 2⟩, ⟨.bin .add, sS 2, lB [32], sS 3⟩, ⟨.bin .add, sS 3, sS 21, sS 4⟩, ⟨.bin .add, sS 4, lB [32], sS 5⟩, ⟨.bin .add, sS 5, sS 22, sS 6⟩, ⟨.bin .add, sS 6, lB [32], sS 7⟩, ⟨.bin .add, sS 7, sS 23, sS 8⟩, ⟨.bin .add, sS 8, lB [10], sS 10⟩]
def zqG : List TE := [⟨.bin .add, lB [32], sS 20, sS 30⟩, ⟨.bin .add, lB wGate, sS 30, sS 31⟩, ⟨.bin .add, lB [32], sS 21, sS 32⟩, ⟨.bin .add, sS 31, sS 32, sS 33⟩, ⟨.bin .add, lB [32], sS 22, sS 34⟩, ⟨.bin .add, sS 33, sS 34, sS 35⟩, ⟨.bin .add, lB [32], sS 23, sS 36⟩, ⟨.bin .add, sS 35, sS 36, sS 37⟩, ⟨.bin .add, sS 37, lB [10], sS 38⟩, ⟨.bin .add, sS 0, sS 38, sS 10⟩]
def zpY (f : Nat) : List YE := [⟨f, [sI 3], sS 20⟩, ⟨f, [sI 4], sS 21⟩, ⟨f, [sI 5], sS 22⟩, ⟨f, [sI 6], sS 23⟩]
noncomputable def zpT : Tb := { T := hT true ++ zpG, LL := hLL, LX := hLX true, Y := zpY fDigits }
noncomputable def zqT : Tb := { T := hT true ++ zqG, LL := hLL, LX := hLX true, Y := zpY fItoa }
set_option maxRecDepth 100000 in
theorem zq_again : atH (fromH zqT [] fPrint 0 zqP) fPrint 0 (zpS (sS 10) (sI 7)) [0] zqP = true := by kernel_rfl
set_option maxRecDepth 100000 in
theorem zq_end : endF hEnd fPrint (fromH hEnd [] fPrint 0 zqP) (.tup [sS 0, lI 0]) = true := by kernel_rfl
set_option maxRecDepth 100000 in
theorem zq_bad : doneQ { LL := hLL, C := [⟨fCheck, [fellR], lI 40⟩] } [] fPrint [fellR] [] [] (.tup [lB [], lI 40]) [] = true := by kernel_rfl
end Go.Proofs.Z

namespace Go.Proofs.Z
open Go Go.RowKit Go.Proofs Go.Ri Go.Proofs.Z.Fa
/-! Print of both packages: contracts. -/
def gline (l : List Value) (k : Nat) : List UInt8 := gateT (gtA l k) (gtB l k) (gtF l k) (gtT l k)
def accT (G : Int) (l : List Value) : Nat → List UInt8
  | 0 => fellT G ++ [10]
  | k + 1 => accT G l k ++ (gline l k ++ [10])
/-- Lines, each with its end. -/
def endL : List (List UInt8) → List UInt8
  | [] => []
  | w :: ws => w ++ 10 :: endL ws
theorem endL_snoc (w : List UInt8) : ∀ ws, endL (ws ++ [w]) = endL ws ++ (w ++ [10])
  | [] => rfl
  | v :: ws => by
    show v ++ 10 :: endL (ws ++ [w]) = v ++ 10 :: endL ws ++ (w ++ [10])
    rw [endL_snoc w ws]
    simp
theorem join_endL : ∀ ws : List (List UInt8), joinW 10 (ws ++ [[]]) = endL ws
  | [] => rfl
  | w :: ws => by
    show joinW 10 (w :: (ws ++ [[]])) = w ++ 10 :: endL ws
    rw [joinW_cons 10 w (by simp), join_endL ws]
theorem cons4 {α : Type} {l : List α} (h : 4 ≤ l.length) : ∃ a b c d r, l = a :: b :: c :: d :: r := by
  match l, h with
  | a :: b :: c :: d :: r, _ => exact ⟨a, b, c, d, r, rfl⟩
  | [], h => exact absurd h (by simp)
  | [_], h => exact absurd h (by simp)
  | [_, _], h => exact absurd h (by simp)
  | [_, _, _], h => exact absurd h (by simp)
theorem glines_eq : ∀ (n : Nat) (l : List Value), l.length = n * 4 → glines l = (List.range n).map (gline l)
  | 0, l, h => by
    obtain rfl : l = [] := List.eq_nil_of_length_eq_zero (by omega)
    rfl
  | n + 1, l, h => by
    obtain ⟨a, b, c, d, r, rfl⟩ := cons4 (l := l) (by omega)
    · have ih := glines_eq n r (by simp at h; omega)
      show gateT (intOf a) (intOf b) (intOf c) (intOf d) :: glines r = _
      rw [List.range_succ_eq_map, List.map_cons, List.map_map, ih]
      have e : ∀ j m, (a :: b :: c :: d :: r).getD ((j + 1) * 4 + m) undef = r.getD (j * 4 + m) undef := fun j m => by
        rw [show (j + 1) * 4 + m = j * 4 + m + 4 by omega]
        rfl
      congr 1
      refine List.map_congr_left fun j _ => ?_
      show gline r j = gline (a :: b :: c :: d :: r) (j + 1)
      unfold gline gtA gtB gtF gtT
      rw [show (j + 1) * 4 = (j + 1) * 4 + 0 from rfl, e, e j 1, e j 2, e j 3]
      rfl
theorem accT_end (G : Int) (l : List Value) : ∀ k, accT G l k = endL (fellT G :: (List.range k).map (gline l))
  | 0 => by simp [accT, endL]
  | k + 1 => by
    show accT G l k ++ _ = _
    rw [accT_end G l k, List.range_succ, List.map_append, ← List.cons_append]
    show _ = endL (_ ++ [gline l k])
    rw [endL_snoc]
theorem accT_text {G : Int} {l : List Value} {n : Nat} (hn : l.length = n * 4) : accT G l n = textF G l := by
  unfold textF tlines
  rw [accT_end, ← glines_eq n l hn, ← List.cons_append, join_endL]
theorem itoa_len {n : Int} (h0 : 0 ≤ n) (h1 : n < 1000) : (Lib.itoa n).length ≤ 3 := by
  obtain ⟨k, rfl⟩ : ∃ k : Nat, n = k := ⟨n.toNat, by omega⟩
  rw [Lib.itoa_nonneg, Lib.decDigits_length]
  by_cases h : k < 10
  · rw [Lib.nDigits_small h]
    decide
  · by_cases h2 : k < 100
    · rw [Lib.nDigits_big h, Lib.nDigits_small (by omega)]
      decide
    · rw [Lib.nDigits_big h, Lib.nDigits_big (by omega), Lib.nDigits_small (by omega)]
      decide
theorem gate_fields {G : Int} {l : List Value} {n k : Nat} (hva : validM G l n = true) (hk : k < n) : (0 ≤ gtA l k ∧ gtA l k < 1000) ∧ (0 ≤ gtB l k ∧ gtB l k < 1000) ∧ (0 ≤ gtF l k ∧ gtF l k < 1000) ∧ (0 ≤ gtT l k ∧ gtT l k < 1000) := by
  have h := (validM_iff _ _ _).1 hva
  have := (gOk_iff _ _ _ _ _).1 (okL_at h.2.2.2 hk)
  omega
theorem gline_len {G : Int} {l : List Value} {n k : Nat} (hva : validM G l n = true) (hk : k < n) : (gline l k).length ≤ 20 := by
  obtain ⟨⟨a0, a1⟩, ⟨b0, b1⟩, ⟨c0, c1⟩, ⟨d0, d1⟩⟩ := gate_fields hva hk
  have ha := itoa_len a0 a1
  have hb := itoa_len b0 b1
  have hc := itoa_len c0 c1
  have hd := itoa_len d0 d1
  show (wGate ++ 32 :: (Lib.itoa _ ++ 32 :: (Lib.itoa _ ++ 32 :: (Lib.itoa _ ++ 32 :: Lib.itoa _)))).length ≤ 20
  simp only [List.length_append, List.length_cons]
  show 4 + _ ≤ 20
  omega
theorem accT_len {G : Int} {l : List Value} {n : Nat} (hva : validM G l n = true) : ∀ k, k ≤ n → (accT G l k).length ≤ 20 + 21 * k
  | 0, _ => by
    have h := (validM_iff _ _ _).1 hva
    have := itoa_len (n := G) (by omega) (by omega)
    show (wFell ++ 32 :: Lib.itoa G ++ [10]).length ≤ 20
    simp only [List.length_append, List.length_cons, List.length_nil]
    show 4 + _ + _ ≤ 20
    omega
  | k + 1, hk => by
    have h1 := accT_len hva k (by omega)
    have h2 := gline_len hva (show k < n by omega)
    show (accT G l k ++ (gline l k ++ [10])).length ≤ _
    simp only [List.length_append, List.length_cons, List.length_nil]
    omega
/-- The strings by their numbers. -/
def zpB (x a b c d g y : List UInt8) (j : Nat) : List UInt8 :=
  if j = 0 then x else if j = 1 then x ++ bGate else if j = 2 then x ++ bGate ++ a else if j = 3 then x ++ bGate ++ a ++ [32] else if j = 4 then x ++ bGate ++ a ++ [32] ++ b else if j = 5 then x ++ bGate ++ a ++ [32] ++ b ++ [32] else if j = 6 then x ++ bGate ++ a ++ [32] ++ b ++ [32] ++ c else if j = 7 then x ++ bGate ++ a ++ [32] ++ b ++ [32] ++ c ++ [32] else if j = 8 then x ++ bGate ++ a ++ [32] ++ b ++ [32] ++ c ++ [32] ++ d else if j = 10 then y
  else if j = 20 then a else if j = 21 then b else if j = 22 then c else if j = 23 then d else if j = 24 then g else if j = 30 then [32] ++ a else if j = 31 then wGate ++ ([32] ++ a) else if j = 32 then [32] ++ b else if j = 33 then wGate ++ ([32] ++ a) ++ ([32] ++ b) else if j = 34 then [32] ++ c else if j = 35 then wGate ++ ([32] ++ a) ++ ([32] ++ b) ++ ([32] ++ c) else if j = 36 then [32] ++ d else if j = 37 then wGate ++ ([32] ++ a) ++ ([32] ++ b) ++ ([32] ++ c) ++ ([32] ++ d) else wGate ++ ([32] ++ a) ++ ([32] ++ b) ++ ([32] ++ c) ++ ([32] ++ d) ++ [10]
set_option linter.unusedSimpArgs false in
theorem zpB_len {x a b c d g y : List UInt8} (ha : a.length ≤ 3) (hb : b.length ≤ 3) (hc : c.length ≤ 3) (hd : d.length ≤ 3) (hg : g.length ≤ 3) (j : Nat) : (zpB x a b c d g y j).length ≤ x.length + y.length + 60 := by
  have gl : bGate.length = 5 := rfl
  have wl : wGate.length = 4 := rfl
  unfold zpB
  by_cases h0 : j = 0
  · rw [if_pos h0]
    first | omega | (simp only [List.length_append, List.length_cons, List.length_nil, gl, wl]; omega)
  rw [if_neg h0]
  by_cases h1 : j = 1
  · rw [if_pos h1]
    first | omega | (simp only [List.length_append, List.length_cons, List.length_nil, gl, wl]; omega)
  rw [if_neg h1]
  by_cases h2 : j = 2
  · rw [if_pos h2]
    first | omega | (simp only [List.length_append, List.length_cons, List.length_nil, gl, wl]; omega)
  rw [if_neg h2]
  by_cases h3 : j = 3
  · rw [if_pos h3]
    first | omega | (simp only [List.length_append, List.length_cons, List.length_nil, gl, wl]; omega)
  rw [if_neg h3]
  by_cases h4 : j = 4
  · rw [if_pos h4]
    first | omega | (simp only [List.length_append, List.length_cons, List.length_nil, gl, wl]; omega)
  rw [if_neg h4]
  by_cases h5 : j = 5
  · rw [if_pos h5]
    first | omega | (simp only [List.length_append, List.length_cons, List.length_nil, gl, wl]; omega)
  rw [if_neg h5]
  by_cases h6 : j = 6
  · rw [if_pos h6]
    first | omega | (simp only [List.length_append, List.length_cons, List.length_nil, gl, wl]; omega)
  rw [if_neg h6]
  by_cases h7 : j = 7
  · rw [if_pos h7]
    first | omega | (simp only [List.length_append, List.length_cons, List.length_nil, gl, wl]; omega)
  rw [if_neg h7]
  by_cases h8 : j = 8
  · rw [if_pos h8]
    first | omega | (simp only [List.length_append, List.length_cons, List.length_nil, gl, wl]; omega)
  rw [if_neg h8]
  by_cases h10 : j = 10
  · rw [if_pos h10]
    first | omega | (simp only [List.length_append, List.length_cons, List.length_nil, gl, wl]; omega)
  rw [if_neg h10]
  by_cases h20 : j = 20
  · rw [if_pos h20]
    first | omega | (simp only [List.length_append, List.length_cons, List.length_nil, gl, wl]; omega)
  rw [if_neg h20]
  by_cases h21 : j = 21
  · rw [if_pos h21]
    first | omega | (simp only [List.length_append, List.length_cons, List.length_nil, gl, wl]; omega)
  rw [if_neg h21]
  by_cases h22 : j = 22
  · rw [if_pos h22]
    first | omega | (simp only [List.length_append, List.length_cons, List.length_nil, gl, wl]; omega)
  rw [if_neg h22]
  by_cases h23 : j = 23
  · rw [if_pos h23]
    first | omega | (simp only [List.length_append, List.length_cons, List.length_nil, gl, wl]; omega)
  rw [if_neg h23]
  by_cases h24 : j = 24
  · rw [if_pos h24]
    first | omega | (simp only [List.length_append, List.length_cons, List.length_nil, gl, wl]; omega)
  rw [if_neg h24]
  by_cases h30 : j = 30
  · rw [if_pos h30]
    first | omega | (simp only [List.length_append, List.length_cons, List.length_nil, gl, wl]; omega)
  rw [if_neg h30]
  by_cases h31 : j = 31
  · rw [if_pos h31]
    first | omega | (simp only [List.length_append, List.length_cons, List.length_nil, gl, wl]; omega)
  rw [if_neg h31]
  by_cases h32 : j = 32
  · rw [if_pos h32]
    first | omega | (simp only [List.length_append, List.length_cons, List.length_nil, gl, wl]; omega)
  rw [if_neg h32]
  by_cases h33 : j = 33
  · rw [if_pos h33]
    first | omega | (simp only [List.length_append, List.length_cons, List.length_nil, gl, wl]; omega)
  rw [if_neg h33]
  by_cases h34 : j = 34
  · rw [if_pos h34]
    first | omega | (simp only [List.length_append, List.length_cons, List.length_nil, gl, wl]; omega)
  rw [if_neg h34]
  by_cases h35 : j = 35
  · rw [if_pos h35]
    first | omega | (simp only [List.length_append, List.length_cons, List.length_nil, gl, wl]; omega)
  rw [if_neg h35]
  by_cases h36 : j = 36
  · rw [if_pos h36]
    first | omega | (simp only [List.length_append, List.length_cons, List.length_nil, gl, wl]; omega)
  rw [if_neg h36]
  by_cases h37 : j = 37
  · rw [if_pos h37]
    first | omega | (simp only [List.length_append, List.length_cons, List.length_nil, gl, wl]; omega)
  rw [if_neg h37]
  simp only [List.length_append, List.length_cons, List.length_nil, wl]
  omega
def zpNm (G : Int) (l : List Value) (n k : Nat) : Nm := ⟨(gnm G l n k nx ny nz).I, ny, fun j => bs (zpB (accT G l k) (Lib.itoa (gtA l k)) (Lib.itoa (gtB l k)) (Lib.itoa (gtF l k)) (Lib.itoa (gtT l k)) (Lib.itoa G) (accT G l (k + 1)) j), fun _ => l⟩
section
variable {G : Int} {l : List Value} {n : Nat}
theorem zp_ids (k k' : Nat) (W W' : Nat → Value) (t i : RV) (ht : @cv ((zpNm G l n k).val W) t = strB (accT G l k')) (hi : @cv ((zpNm G l n k).val W) i = .int .i64 (k' : Nat)) : ∀ q, q ∈ zpS t i → okSE ((zpNm G l n k).val W) ((zpNm G l n k').val W') q :=
  fa ⟨.i64, G, rfl, rfl⟩ (fa ⟨.i64, (n : Nat), rfl, rfl⟩ (fa ⟨.i64, (k' : Nat), hi, rfl⟩ (fa ⟨_, ht, rfl⟩ (fa (okLs l rfl rfl) fz))))
theorem sadd' [Val] {a b c : RV} (x y : List UInt8) (ha : cv a = strB x) (hb : cv b = strB y) (hc : cv c = strB (x ++ y)) (hf : flat0 c = true) (h : x.length + y.length ≤ 1000000) : TETrue ⟨.bin .add, a, b, c⟩ :=
  f_sadd (x := bs x) (y := bs y) ha hb (by rw [bs_app]; exact hc) hf (by rw [bs_size, bs_size]; omega)
theorem digits_te [Val] {r x : RV} {m : Int} (h0 : 0 ≤ m) (h1 : m < 1000) (hr : cv r = .int .i64 m) (hx : cv x = strB (Lib.itoa m)) (fr : cvF r = cv r) (fx : cvF x = cv x) : YETrue Tryz.prog ro ⟨fDigits, [r], x⟩ := by
  obtain ⟨k, rfl⟩ : ∃ k : Nat, m = k := ⟨m.toNat, by omega⟩
  have := digits_ans k (by omega)
  show Ans fDigits [cvF r] (cvF x)
  rw [fr, fx, hr, hx]
  exact this
theorem itoa_te [Val] {r x : RV} {m : Int} (h0 : 0 ≤ m) (h1 : m < 1000) (hr : cv r = .int .i64 m) (hx : cv x = strB (Lib.itoa m)) (fr : cvF r = cv r) (fx : cvF x = cv x) : YETrue Tryz.prog ro ⟨fItoa, [r], x⟩ := by
  have := itoa_ans m (by omega) (by omega)
  show Ans fItoa [cvF r] (cvF x)
  rw [fr, fx, hr, hx]
  exact this
theorem zp_tb (hl : ints l) (hn : l.length = n * 4) (hva : validM G l n = true) {k : Nat} (hk : k < n) (W : Nat → Value) : @TbOK ((zpNm G l n k).val W) zpT ∧ @TbOK ((zpNm G l n k).val W) zqT := by
  letI V2 : Val := (zpNm G l n k).val W
  have hb := (validM_iff _ _ _).1 hva
  obtain ⟨⟨a0, a1⟩, ⟨b0, b1⟩, ⟨c0, c1⟩, ⟨d0, d1⟩⟩ := gate_fields hva hk
  have ha := itoa_len a0 a1
  have hbb := itoa_len b0 b1
  have hc := itoa_len c0 c1
  have hd := itoa_len d0 d1
  have hx := accT_len hva k (by omega)
  have hT : ∀ q, q ∈ hT true → TETrue q := fa (f_lss (k := .i64) (m := (k : Int)) (n := (n : Int)) rfl rfl (decide_eq_true (by omega))) (fa (f_inb (m := (k : Int)) (n := (n : Int)) rfl rfl (by omega)) (fa (f_add1 (m := (k : Int)) rfl rfl rfl (by omega) (by omega)) fz))
  have hLL : ∀ q, q ∈ hLL → LLTrue q := fa ⟨rfl, n, Nat.succ_pos 3, hn, rfl⟩ fz
  have hLX : ∀ q, q ∈ hLX true → LXTrue q := fa ⟨rfl, by
    show ((k : Int)).toNat * 4 + 4 ≤ l.length
    rw [Int.toNat_natCast]
    omega, by
    show (l.drop (((k : Int)).toNat * 4)).take 4 = _
    rw [Int.toNat_natCast]
    exact row4 hl k (by omega)⟩ fz
  have hg := itoa_len (n := G) (by omega) (by omega)
  have hy : (accT G l (k + 1)).length ≤ 1000 := by
    have := accT_len hva (k + 1) hk
    omega
  have hz : ∀ j, (zpB (accT G l k) (Lib.itoa (gtA l k)) (Lib.itoa (gtB l k)) (Lib.itoa (gtF l k)) (Lib.itoa (gtT l k)) (Lib.itoa G) (accT G l (k + 1)) j).length ≤ 3000 := fun j => by
    have := zpB_len (x := accT G l k) (y := accT G l (k + 1)) ha hbb hc hd hg j
    omega
  have cat : ∀ (i j m : Nat), zpB (accT G l k) (Lib.itoa (gtA l k)) (Lib.itoa (gtB l k)) (Lib.itoa (gtF l k)) (Lib.itoa (gtT l k)) (Lib.itoa G) (accT G l (k + 1)) m = zpB (accT G l k) (Lib.itoa (gtA l k)) (Lib.itoa (gtB l k)) (Lib.itoa (gtF l k)) (Lib.itoa (gtT l k)) (Lib.itoa G) (accT G l (k + 1)) i ++ zpB (accT G l k) (Lib.itoa (gtA l k)) (Lib.itoa (gtB l k)) (Lib.itoa (gtF l k)) (Lib.itoa (gtT l k)) (Lib.itoa G) (accT G l (k + 1)) j → TETrue ⟨.bin .add, sS i, sS j, sS m⟩ := fun i j m h => sadd' _ _ rfl rfl (congrArg strB h) rfl (by have h1 := hz i; have h2 := hz j; omega)
  have catR : ∀ (i : Nat) (y : List UInt8) (m : Nat), y.length ≤ 10 → zpB (accT G l k) (Lib.itoa (gtA l k)) (Lib.itoa (gtB l k)) (Lib.itoa (gtF l k)) (Lib.itoa (gtT l k)) (Lib.itoa G) (accT G l (k + 1)) m = zpB (accT G l k) (Lib.itoa (gtA l k)) (Lib.itoa (gtB l k)) (Lib.itoa (gtF l k)) (Lib.itoa (gtT l k)) (Lib.itoa G) (accT G l (k + 1)) i ++ y → TETrue ⟨.bin .add, sS i, lB y, sS m⟩ := fun i y m hy h => sadd' _ _ rfl rfl (congrArg strB h) rfl (by have h1 := hz i; omega)
  have catL : ∀ (y : List UInt8) (j m : Nat), y.length ≤ 10 → zpB (accT G l k) (Lib.itoa (gtA l k)) (Lib.itoa (gtB l k)) (Lib.itoa (gtF l k)) (Lib.itoa (gtT l k)) (Lib.itoa G) (accT G l (k + 1)) m = y ++ zpB (accT G l k) (Lib.itoa (gtA l k)) (Lib.itoa (gtB l k)) (Lib.itoa (gtF l k)) (Lib.itoa (gtT l k)) (Lib.itoa G) (accT G l (k + 1)) j → TETrue ⟨.bin .add, lB y, sS j, sS m⟩ := fun y j m hy h => sadd' _ _ rfl rfl (congrArg strB h) rfl (by have h1 := hz j; omega)
  have fin1 : accT G l (k + 1) = accT G l k ++ bGate ++ Lib.itoa (gtA l k) ++ [32] ++ Lib.itoa (gtB l k) ++ [32] ++ Lib.itoa (gtF l k) ++ [32] ++ Lib.itoa (gtT l k) ++ [10] := by
    show accT G l k ++ (gateT _ _ _ _ ++ [10]) = _
    simp [gateT, joinW, bGate]
  have fin2 : accT G l (k + 1) = accT G l k ++ (wGate ++ ([32] ++ Lib.itoa (gtA l k)) ++ ([32] ++ Lib.itoa (gtB l k)) ++ ([32] ++ Lib.itoa (gtF l k)) ++ ([32] ++ Lib.itoa (gtT l k)) ++ [10]) := by
    show accT G l k ++ (gateT _ _ _ _ ++ [10]) = _
    simp [gateT, joinW]
  constructor
  · exact { T := fapp hT (fa (catR 0 bGate 1 (by decide) rfl) (fa (cat 1 20 2 rfl) (fa (catR 2 [32] 3 (by decide) rfl) (fa (cat 3 21 4 rfl) (fa (catR 4 [32] 5 (by decide) rfl) (fa (cat 5 22 6 rfl) (fa (catR 6 [32] 7 (by decide) rfl) (fa (cat 7 23 8 rfl) (fa (catR 8 [10] 10 (by decide) fin1) fz))))))))), LL := hLL, LX := hLX, Y := fa (digits_te a0 a1 rfl rfl rfl rfl) (fa (digits_te b0 b1 rfl rfl rfl rfl) (fa (digits_te c0 c1 rfl rfl rfl rfl) (fa (digits_te d0 d1 rfl rfl rfl rfl) fz))) }
  · exact { T := fapp hT (fa (catL [32] 20 30 (by decide) rfl) (fa (catL wGate 30 31 (by decide) rfl) (fa (catL [32] 21 32 (by decide) rfl) (fa (cat 31 32 33 rfl) (fa (catL [32] 22 34 (by decide) rfl) (fa (cat 33 34 35 rfl) (fa (catL [32] 23 36 (by decide) rfl) (fa (cat 35 36 37 rfl) (fa (catR 37 [10] 38 (by decide) rfl) (fa (cat 0 38 10 fin2) fz)))))))))), LL := hLL, LX := hLX, Y := fa (itoa_te a0 a1 rfl rfl rfl rfl) (fa (itoa_te b0 b1 rfl rfl rfl rfl) (fa (itoa_te c0 c1 rfl rfl rfl rfl) (fa (itoa_te d0 d1 rfl rfl rfl rfl) fz))) }
theorem zp_hT (k : Nat) (hk : k ≤ 1000) (W : Nat → Value) {q : Bool} (hq : decide (k < n) = q) : ∀ e, e ∈ hT q → @TETrue ((zpNm G l n k).val W) e := by
  letI : Val := (zpNm G l n k).val W
  refine fa (f_lss (k := .i64) (m := (k : Int)) (n := (n : Int)) rfl rfl (by rw [← hq]; exact decide_eq_decide.2 (by omega))) (fa ⟨rfl, .i64, .i64, (k : Int), (n : Int), rfl, rfl, ?_⟩ (fa (f_add1 (m := (k : Int)) rfl rfl rfl (by omega) (by omega)) fz))
  show Value.bool q = .bool (decide (0 ≤ (k : Int) ∧ (k : Int) < n))
  rw [← hq]
  exact congrArg Value.bool (decide_eq_decide.2 (by omega))
/-- What Print answers. -/
def prtV (G : Int) (l : List Value) (n : Nat) : Value := if validM G l n then .tuple #[strB (accT G l n), .int .i64 0] else .tuple #[strB [], .int .i64 40]
theorem prints (f : FuncId) (pat : St) (E T : Tb) (R : List Nat) (hR : R.take ([] : Env).length = []) (hen : atH (entN E [] f [fellR]) f 0 (zpS (sS 0) (lI 0)) R pat = true) (hag : atH (fromH T [] f 0 pat) f 0 (zpS (sS 10) (sI 7)) R pat = true) (hend : endF hEnd f (fromH hEnd [] f 0 pat) (.tup [sS 0, lI 0]) = true)
    (V : Val) (hG : V.I 0 = G) (hL : V.L 0 = l) (hn : l.length = n * 4) (hva : validM G l n = true) (c0 : Nm) (g0 : c0.I 0 = G) (g1 : c0.I 1 = n) (g2 : c0.L 0 = l) (g3 : c0.S 0 = bs (accT G l 0)) (hE : @TbOK (c0.val fun _ => undef) E) (hT : ∀ k, k < n → ∀ W, @TbOK ((zpNm G l n k).val W) T) : @AnsN V f [fellR] (.tuple #[strB (accT G l n), .int .i64 0]) := by
  intro w hr vs hv
  have hb := (validM_iff _ _ _).1 hva
  have hv : All2 (@Go.Ri.NVal (c0.val fun _ => undef) w) [fellR] vs := by
    cases hv with
    | cons h1 h2 => cases h2; exact .cons (fell_nval1 (hG.trans g0.symm) (hL.trans g2.symm) h1) .nil
  refine fn_headsN (κ := Unit) c0 (fun _ => undef) E [] f [fellR] (fun _ => 0) (fun _ => pat) (fun m _ c => ∃ k, k ≤ n ∧ m = n - k ∧ c = zpNm G l n k) hE (zpS (sS 0) (lI 0)) R () n hen (zpNm G l n 0) (fun W' => holds_all (fa ⟨.i64, G, congrArg _ g0, rfl⟩ (fa ⟨.i64, (n : Nat), congrArg _ g1, rfl⟩ (fa ⟨.i64, 0, rfl, rfl⟩ (fa ⟨_, congrArg _ g3, rfl⟩ (fa (okLs l rfl g2) fz)))))) ⟨0, Nat.zero_le _, rfl, rfl⟩ (DF (.tuple #[strB (accT G l n), .int .i64 0])) ?_ w hr vs hv
  rintro w m _ c ⟨k, hk, rfl, rfl⟩ W
  rcases Nat.lt_or_ge k n with h | h
  · exact stepH_to T [] (hT k h W) _ _ hR () (zpNm G l n (k + 1)) hag (fun W' => holds_all (zp_ids k (k + 1) W W' (sS 10) (sI 7) rfl rfl)) ⟨n - (k + 1), by omega, k + 1, h, rfl, rfl⟩
  · obtain rfl : k = n := by omega
    have ht : @TbOK ((zpNm G l k k).val W) hEnd := by
      letI : Val := (zpNm G l k k).val W
      exact { T := zp_hT k (by omega) W (decide_eq_false (Nat.lt_irrefl _)), LL := fa ⟨rfl, k, Nat.succ_pos 3, hn, rfl⟩ fz }
    exact stepH_outF hEnd [] ht _ hend rfl
def zeNm (G : Int) (l : List Value) (n : Nat) (y : List UInt8) : Nm := ⟨fun i => if i = 0 then G else (n : Int), ny, fun j => if j = 0 then bs (accT G l 0) else if j = 24 then bs (Lib.itoa G) else if j = 25 then bs y else bs (wFell ++ ([32] ++ Lib.itoa G)), fun _ => l⟩
theorem print_ans (V : Val) (hG : V.I 0 = G) (hL : V.L 0 = l) (hl : ints l) (hn : l.length = n * 4) : @AnsN V fPrint [fellR] (prtV G l n) := by
  let V1 : Val := (zeNm G l n ([32] ++ Lib.itoa G)).val fun _ => undef
  have hvl := check_ans V1 (G := G) (l := l) (n := n) rfl rfl hl hn
  unfold prtV
  unfold errM at hvl
  cases hva : validM G l n with
  | true =>
    rw [hva] at hvl
    have hb := (validM_iff _ _ _).1 hva
    have hg := itoa_len (n := G) (by omega) (by omega)
    have hE : @TbOK V1 zqE := by
      letI := V1
      refine { T := fa (sadd' [32] (Lib.itoa G) rfl rfl rfl rfl ?_) (fa (sadd' wFell ([32] ++ Lib.itoa G) rfl rfl rfl rfl ?_) (fa (sadd' (wFell ++ ([32] ++ Lib.itoa G)) [10] rfl rfl ?_ rfl ?_) fz)), LL := fa ⟨rfl, n, Nat.succ_pos 3, hn, rfl⟩ fz, C := fa hvl fz, Y := fa (itoa_te (m := G) (by omega) (by omega) rfl rfl rfl rfl) fz }
      · show 1 + _ ≤ _
        omega
      · rw [List.length_append]
        show 4 + (1 + _) ≤ _
        omega
      · show strB (fellT G ++ [10]) = _
        simp [fellT, joinW]
      · rw [List.length_append, List.length_append]
        show 4 + (1 + _) + 1 ≤ _
        omega
    exact prints fPrint zqP zqE zqT [0] rfl zq_enter zq_again zq_end V hG hL hn hva (zeNm G l n ([32] ++ Lib.itoa G)) rfl rfl rfl rfl hE (fun k hk W => (zp_tb hl hn hva hk W).2)
  | false =>
    intro w hr vs hv
    have hv : All2 (@Go.Ri.NVal V1 w) [fellR] vs := by
      cases hv with
      | cons h1 h2 => cases h2; exact .cons (fell_nval1 hG hL h1) .nil
    rw [hva] at hvl
    have ht : @TbOK V1 { LL := hLL, C := [⟨fCheck, [fellR], lI 40⟩] } := by
      letI := V1
      exact { LL := fa ⟨rfl, n, Nat.succ_pos 3, hn, rfl⟩ fz, C := fa hvl fz }
    exact done_flat V1 ht zq_bad rfl rfl rfl w hr vs hv
end
end Go.Proofs.Z
