/- A part of the proofs that the laws of layer four answer true for every input. -/
import Derived.Test.YtjjmnoiiihcoiaaGreatDoorZQE
namespace Go.Proofs.Z
open Go Go.RowKit Go.Proofs Go.Ri Go.Proofs.Z.Fa
/-! The specification's fewest: runs. 21 the grazing, 22 and 40 the first and the last day, 28 how many days; 2 a grazing or a gate, 7 the next one, 26 the day, 27 its row, 33 the day before, 61 the row of the day behind; 41, 42 the numbers at the gate, 43, 44 one more, 45, 46 two more; lists: 30 the rows, 31 the rows then, 8 the numbers, 10 then, 9 numbers that are made. -/
noncomputable def fwP (k : Nat) (L m : Bool) : St :=
  if k = 0 then ⟨patW [(1, sI 21), (2, sI 22), (3, sI 40), (4, .ptr 1 0), (9, .slN 2 30 1), (10, .slN 3 9 1), (11, sI 2)] 124 0, [some (.lstA 0), some (.cells [sI 0, .slA 0 0 4] tFell false false), some (.lst 30 32 true), some (.lst 8 tInt true)]⟩
  else if k = 1 then ⟨patW [(2, sI 22), (3, sI 40), (4, .ptr 1 0), (9, .slN 2 30 1), (10, if L then .slX 2 30 61 8 1 else .slN 3 9 1), (12, sI 26)] 124 0, [some (.lstA 0), some (.cells [sI 0, .slA 0 0 4] tFell false false)] ++ if L then [some (.lstL 30 32 1)] else [some (.lst 30 32 true), some (.lst 8 tInt true)]⟩
  else if k = 2 then ⟨patW [(2, sI 22), (3, sI 40), (4, .ptr 1 0), (9, .slN 2 30 1), (12, sI 26), (13, .slN 3 9 1), (14, bR m)] 124 0, [some (.lstA 0), some (.cells [sI 0, .slA 0 0 4] tFell false false), if L then some (.lstL 30 32 1) else some (.lst 30 32 true), some (.lst 8 tInt true)]⟩
  else ⟨patW [(2, sI 22), (3, sI 40), (4, .ptr 1 0), (9, .slN 2 30 1), (12, sI 26), (13, .slN 3 9 1), (14, bR m), (15, sI 2)] 124 0, [some (.lstA 0), some (.cells [sI 0, .slA 0 0 4] tFell false false), if L then some (.lstL 30 32 1) else some (.lst 30 32 true), some (.lst 8 tInt true)]⟩
def fwD : List RV := [fellR, sI 21, sI 22, sI 40]
def fwS (d i r : RV) (X v z : Nat) : List SE := [.int 0 (sI 0), .int 1 (sI 1), .int 21 (sI 21), .int 22 (sI 22), .int 40 (sI 40), .int 28 (sI 28), .int 26 d, .int 2 i, .int 61 r, .lst 0 0, .lst 30 X, .lst 8 v, .lst 9 z]
def fwLL : List LNE := [⟨0, 4, sI 1⟩, ⟨8, 1, sI 0⟩, ⟨9, 1, sI 0⟩, ⟨10, 1, sI 0⟩, ⟨30, 1, sI 28⟩]
noncomputable def fwE : Tb := { T := [⟨.bin .sub, sI 40, sI 22, sI 60⟩, ⟨.bin .add, sI 60, lI 1, sI 28⟩], LM := [⟨28, nilR, 30⟩, ⟨0, lI 0, 9⟩], LL := fwLL }
set_option maxRecDepth 100000 in
theorem fw_enter : atH (entN fwE [] fFewest fwD) fFewest 0 (fwS (sI 26) (lI 0) (sI 61) 30 9 9) [0, 1, 2, 3] (fwP 0 false false) = true := by kernel_rfl
noncomputable def fwA : Tb := { T := [⟨.bin .lss, sI 2, sI 0, bR true⟩, ⟨.inb, sI 2, sI 0, bR true⟩, ⟨.bin .add, sI 2, lI 1, sI 7⟩], LL := fwLL, LW := [⟨8, 2, lI 1048576, 10⟩] }
set_option maxRecDepth 100000 in
theorem fw_00 : atH (fromH fwA [] fFewest 0 (fwP 0 false false)) fFewest 0 (fwS (sI 26) (sI 7) (sI 61) 30 10 9) [0, 1, 2, 3] (fwP 0 false false) = true := by kernel_rfl
noncomputable def fwB : Tb := { T := [⟨.bin .lss, sI 2, sI 0, bR false⟩, ⟨.inb, sI 21, sI 0, bR true⟩], LL := fwLL, LW := [⟨8, 21, lI 0, 10⟩] }
set_option maxRecDepth 100000 in
theorem fw_01 : atH (fromH fwB [] fFewest 0 (fwP 0 false false)) fFewest 1 (fwS (sI 40) (sI 2) (sI 61) 30 10 9) [0, 1, 2, 3] (fwP 1 false false) = true := by kernel_rfl
noncomputable def fwC : Tb := { T := [⟨.bin .geq, sI 26, sI 22, bR true⟩], LL := fwLL, LM := [⟨0, lI 0, 9⟩], OC := [8] }
set_option maxRecDepth 100000 in
theorem fw_12 : (all2 fun L => atH (fromH fwC [] fFewest 1 (fwP 1 L false)) fFewest 2 (fwS (sI 26) (sI 2) (sI 61) 30 8 9) [0, 1, 2, if L then 3 else 4] (fwP 2 L true)) = true := by kernel_rfl
noncomputable def fwF : Tb := { T := [⟨.bin .geq, sI 26, sI 22, bR false⟩], LL := fwLL }
set_option maxRecDepth 100000 in
theorem fw_out : endQ fwF fFewest (fromH fwF [] fFewest 1 (fwP 1 true false)) [.lst 30 30] [2] (.slN 0 30 1) [some (.lstL 30 32 1)] = true := by kernel_rfl
set_option maxRecDepth 100000 in
theorem fw_23 : (all2 fun L => atH (fromH { LL := fwLL } [] fFewest 2 (fwP 2 L true)) fFewest 3 (fwS (sI 26) (lI 0) (sI 61) 30 8 9) [0, 1, 2, 3] (fwP 3 L false)) = true := by kernel_rfl
noncomputable def fwG (L : Bool) : Tb := { T := [⟨.bin .sub, sI 26, sI 22, sI 27⟩, ⟨.inb, sI 27, sI 28, bR true⟩, ⟨.bin .sub, sI 26, lI 1, sI 33⟩], LL := fwLL, LNV := if L then [] else [⟨30, 27, 8, 31⟩], LNW := if L then [⟨30, 27, 8, 31⟩] else [] }
set_option maxRecDepth 100000 in
theorem fw_21 : (all2 fun L => atH (fromH (fwG L) [] fFewest 2 (fwP 2 L false)) fFewest 1 (fwS (sI 33) (sI 2) (sI 27) 31 8 9) [0, 1, 4] (fwP 1 true false)) = true := by kernel_rfl
noncomputable def fwH : Tb := { T := [⟨.bin .lss, sI 2, sI 1, bR false⟩], LL := fwLL }
set_option maxRecDepth 100000 in
theorem fw_32 : (all2 fun L => all2 fun m => atH (fromH fwH [] fFewest 3 (fwP 3 L m)) fFewest 2 (fwS (sI 26) (sI 2) (sI 61) 30 8 9) [0, 1, 2, 3] (fwP 2 L m)) = true := by kernel_rfl
def fwG0 : List TE := [⟨.bin .lss, sI 2, sI 1, bR true⟩, ⟨.inb, sI 2, sI 1, bR true⟩, ⟨.bin .add, sI 2, lI 1, sI 7⟩]
def fwG1 : List TE := [⟨.inb, sI 3, sI 0, bR true⟩, ⟨.inb, sI 4, sI 0, bR true⟩, ⟨.bin .add, sI 42, lI 1, sI 43⟩, ⟨.bin .add, sI 41, lI 1, sI 44⟩]
/-- c: 0 shut, 1 open and nothing goes down, 2 the first grazing's number goes down, 3 the second one's. -/
noncomputable def fwI (c : Nat) : Tb := { T := fwG0 ++ (if c = 0 then [] else fwG1 ++ [⟨.bin .gtr, sI 41, sI 43, bR (Nat.beq c 2)⟩]) ++ (if c = 1 then [⟨.bin .gtr, sI 42, sI 44, bR false⟩] else if c = 2 then [⟨.bin .add, sI 43, lI 1, sI 45⟩, ⟨.bin .gtr, sI 42, sI 45, bR false⟩] else if c = 3 then [⟨.bin .gtr, sI 42, sI 44, bR true⟩] else []), LL := fwLL, LX := [⟨0, 2, [sI 3, sI 4, sI 5, sI 6]⟩] ++ (if c = 0 then [] else [⟨8, 3, [sI 41]⟩, ⟨8, 4, [sI 42]⟩]) ++ (if c = 2 then [⟨10, 3, [sI 43]⟩, ⟨10, 4, [sI 42]⟩] else []), LW := if c = 2 then [⟨8, 3, sI 43, 10⟩] else if c = 3 then [⟨8, 4, sI 44, 10⟩] else [], Y := [⟨fOpenOn, [gateQ, sI 26], bR (!(Nat.beq c 0))⟩] }
set_option maxRecDepth 100000 in
theorem fw_33 : (all2 fun L => all2 fun m => allU 4 fun c => atH (fromH (fwI c) [] fFewest 3 (fwP 3 L m)) fFewest 3 (fwS (sI 26) (sI 7) (sI 61) 30 (if Nat.ble 2 c then 10 else 8) 9) [0, 1, 2, 3] (fwP 3 L (if Nat.ble 2 c then true else m))) = true := by kernel_rfl
end Go.Proofs.Z

namespace Go.Proofs.Z
open Go Go.RowKit Go.Proofs Go.Ri Go.Proofs.Z.Fa
/-! The specification's fewest: what its lists hold, and how far it has come. -/
/-- The rows from the row j on. -/
def tabP (vD : Int → Nat → Int) (fr : Int) (N g j : Nat) : List Value := (List.range N).map fun k => if j ≤ k then .agg (rowD (vD (fr + (k : Nat))) g).toArray else .agg #[]
theorem tabP_zero (vD : Int → Nat → Int) (fr : Int) (N g : Nat) : tabP vD fr N g 0 = tabD vD fr N g := by
  unfold tabP tabD
  exact List.map_congr_left fun k _ => if_pos (Nat.zero_le k)
theorem tabP_len (vD : Int → Nat → Int) (fr : Int) (N g j : Nat) : (tabP vD fr N g j).length = N := by
  unfold tabP
  rw [List.length_map, List.length_range]
theorem tabP_set (vD : Int → Nat → Int) (fr : Int) (N g j : Nat) (hj : j < N) : tabP vD fr N g j = (tabP vD fr N g (j + 1)).set j (.agg (rowD (vD (fr + (j : Nat))) g).toArray) := by
  apply List.ext_getElem?
  intro k
  rw [List.getElem?_set, tabP_len]
  unfold tabP
  rw [List.getElem?_map, List.getElem?_map]
  by_cases hk : k < N
  · rw [List.getElem?_range hk]
    by_cases h : j = k
    · subst h
      simp only [Option.map_some, if_true, if_pos hk, if_pos (Nat.le_refl _)]
    · simp only [Option.map_some, if_neg h]
      by_cases h2 : j ≤ k
      · rw [if_pos h2, if_pos (by omega)]
      · rw [if_neg h2, if_neg (by omega)]
  · rw [List.getElem?_eq_none (by rw [List.length_range]; omega)]
    by_cases h : j = k
    · omega
    · simp only [Option.map_none, if_neg h]
theorem tabP_full (vD : Int → Nat → Int) (fr : Int) (N g : Nat) : tabP vD fr N g N = List.replicate N (.agg #[]) := by
  apply List.ext_getElem?
  intro k
  unfold tabP
  rw [List.getElem?_map, List.getElem?_replicate]
  by_cases hk : k < N
  · rw [List.getElem?_range hk, if_pos hk]
    simp only [Option.map_some]
    rw [if_neg (by omega)]
  · rw [List.getElem?_eq_none (by rw [List.length_range]; omega), if_neg hk]
    rfl
theorem rowD_len (v : Nat → Int) (g : Nat) : (rowD v g).length = g := by
  unfold rowD
  rw [List.length_map, List.length_range]
theorem rowD_congr {v v' : Nat → Int} {g : Nat} (h : ∀ x, x < g → v x = v' x) : rowD v g = rowD v' g := by
  unfold rowD
  exact List.map_congr_left fun x hx => by rw [h x (List.mem_range.1 hx)]
theorem rowD_set (v : Nat → Int) {g x : Nat} (a : Int) (hx : x < g) : rowD (fun z => if z = x then a else v z) g = (rowD v g).set x (.int .i64 a) := by
  apply List.ext_getElem?
  intro k
  rw [List.getElem?_set, rowD_len]
  unfold rowD
  rw [List.getElem?_map, List.getElem?_map]
  by_cases hk : k < g
  · rw [List.getElem?_range hk]
    by_cases h : x = k
    · subst h
      simp only [Option.map_some, if_true, if_pos hk]
    · simp only [Option.map_some, if_neg h, if_neg (fun e => h (Eq.symm e))]
  · rw [List.getElem?_eq_none (by rw [List.length_range]; omega)]
    by_cases h : x = k
    · omega
    · simp only [Option.map_none, if_neg h]
theorem rowD_zero (g : Nat) : rowD (fun _ => 0) g = List.replicate g (.int .i64 0) := by
  apply List.ext_getElem?
  intro k
  unfold rowD
  rw [List.getElem?_map, List.getElem?_replicate]
  by_cases hk : k < g
  · rw [List.getElem?_range hk, if_pos hk]
    rfl
  · rw [List.getElem?_eq_none (by rw [List.length_range]; omega), if_neg hk]
    rfl
theorem rowD_one (v : Nat → Int) (g : Nat) : ∀ x, x ∈ rowD v g → x.oneCell' = true := by
  intro x hx
  unfold rowD at hx
  obtain ⟨k, _, rfl⟩ := List.mem_map.1 hx
  rfl
/-- The sum of the numbers. -/
def sumN (v : Nat → Int) : Nat → Nat
  | 0 => 0
  | g + 1 => sumN v g + (v g).toNat
theorem sumN_le {v : Nat → Int} {m : Nat} : ∀ {g : Nat}, (∀ x, x < g → v x ≤ (m : Int)) → sumN v g ≤ g * m
  | 0, _ => Nat.zero_le _
  | g + 1, h => by
    have := sumN_le (v := v) (m := m) (g := g) fun x hx => h x (by omega)
    have := h g (Nat.lt_succ_self g)
    rw [Nat.succ_mul]
    show sumN v g + (v g).toNat ≤ _
    omega
theorem sumN_same {v v' : Nat → Int} : ∀ {g : Nat}, (∀ x, x < g → v x = v' x) → sumN v g = sumN v' g
  | 0, _ => rfl
  | g + 1, h => by
    show sumN v g + _ = sumN v' g + _
    rw [sumN_same (g := g) fun x hx => h x (by omega), h g (Nat.lt_succ_self g)]
theorem sumN_lt {v : Nat → Int} {x : Nat} {a : Int} (h0 : 0 ≤ a) (ha : a < v x) : ∀ {g : Nat}, x < g → sumN (fun z => if z = x then a else v z) g < sumN v g
  | 0, hx => absurd hx (by omega)
  | g + 1, hx => by
    show sumN (fun z => if z = x then a else v z) g + ((fun z => if z = x then a else v z) g).toNat < sumN v g + (v g).toNat
    by_cases h : g = x
    · subst h
      rw [sumN_same (v := fun z => if z = g then a else v z) (v' := v) (g := g) fun z hz => if_neg (by omega)]
      show sumN v g + (if g = g then a else v g).toNat < _
      rw [if_pos rfl]
      omega
    · have := sumN_lt (v := v) h0 ha (g := g) (by omega)
      show _ + (if g = x then a else v g).toNat < _
      rw [if_neg h]
      omega
/-- The numbers while the first list is filled. -/
def fwZ (x z : Nat) : Int := if z < x then 1048576 else 0
def fwZ' (b g x z : Nat) : Int := if x < g then (if z = x then 1048576 else fwZ x z) else (if z = b then 0 else fwZ x z)
/-- The numbers behind the gate i. -/
def gV (l : List Value) (d : Int) (i : Nat) (v : Nat → Int) (z : Nat) : Int :=
  if odP l d i = true then (if v (gtB l i).toNat + 1 < v (gtA l i).toNat then (if z = (gtA l i).toNat then v (gtB l i).toNat + 1 else v z) else if v (gtA l i).toNat + 1 < v (gtB l i).toNat then (if z = (gtB l i).toNat then v (gtA l i).toNat + 1 else v z) else v z) else v z
def fwI' (G : Int) (l : List Value) (n b : Nat) (fr to : Int) (N : Nat) (v : Nat → Int) (d : Int) (i : Nat) (r : Int) (m : Nat) : Int :=
  if m = 0 then G else if m = 1 then (n : Nat) else if m = 21 then (b : Nat) else if m = 22 then fr else if m = 40 then to else if m = 28 then (N : Nat) else if m = 60 then to - fr else if m = 2 then (i : Nat) else if m = 7 then (i : Int) + 1 else if m = 26 then d else if m = 27 then d - fr else if m = 33 then d - 1 else if m = 61 then r else if m = 3 then gtA l i else if m = 4 then gtB l i else if m = 5 then gtF l i else if m = 6 then gtT l i else if m = 41 then v (gtA l i).toNat else if m = 42 then v (gtB l i).toNat else if m = 43 then v (gtB l i).toNat + 1 else if m = 44 then v (gtA l i).toNat + 1 else v (gtB l i).toNat + 1 + 1
def fwNm (G : Int) (l : List Value) (n b : Nat) (fr to : Int) (N g : Nat) (X X' : List Value) (v v' : Nat → Int) (d : Int) (i : Nat) (r : Int) : Nm := ⟨fwI' G l n b fr to N v d i r, ny, fun _ => ⟨#[]⟩, fun m => if m = 0 then l else if m = 30 then X else if m = 31 then X' else if m = 8 then rowD v g else if m = 10 then rowD v' g else List.replicate g (.int .i64 0)⟩
section
variable {G : Int} {l : List Value} {n b : Nat} {fr to : Int} {N g : Nat}
theorem fw_ids {X X' X2 X2' : List Value} {v v' v2 v2' : Nat → Int} {d d2 : Int} {i i2 : Nat} {r r2 : Int} (W W' : Nat → Value) (rd ri rr : RV) (x y z : Nat) (hd : @cv ((fwNm G l n b fr to N g X X' v v' d i r).val W) rd = .int .i64 d2) (hi : @cv ((fwNm G l n b fr to N g X X' v v' d i r).val W) ri = .int .i64 (i2 : Nat)) (hr : @cv ((fwNm G l n b fr to N g X X' v v' d i r).val W) rr = .int .i64 r2)
    (hX : ((fwNm G l n b fr to N g X X' v v' d i r).val W).L x = X2) (hv : ((fwNm G l n b fr to N g X X' v v' d i r).val W).L y = rowD v2 g) (hz : ((fwNm G l n b fr to N g X X' v v' d i r).val W).L z = List.replicate g (.int .i64 0)) : ∀ q, q ∈ fwS rd ri rr x y z → okSE ((fwNm G l n b fr to N g X X' v v' d i r).val W) ((fwNm G l n b fr to N g X2 X2' v2 v2' d2 i2 r2).val W') q :=
  fa ⟨.i64, G, rfl, rfl⟩ (fa ⟨.i64, (n : Nat), rfl, rfl⟩ (fa ⟨.i64, (b : Nat), rfl, rfl⟩ (fa ⟨.i64, fr, rfl, rfl⟩ (fa ⟨.i64, to, rfl, rfl⟩ (fa ⟨.i64, (N : Nat), rfl, rfl⟩ (fa ⟨.i64, d2, hd, rfl⟩ (fa ⟨.i64, (i2 : Nat), hi, rfl⟩ (fa ⟨.i64, r2, hr, rfl⟩ (fa (okLs l rfl rfl) (fa (okLs X2 rfl hX) (fa (okLs (rowD v2 g) rfl hv) (fa (okLs (List.replicate g (.int .i64 0)) rfl hz) fz))))))))))))
theorem fw_LL {X X' : List Value} {v v' : Nat → Int} {d : Int} {i : Nat} {r : Int} (hn : l.length = n * 4) (hg : G = (g : Int)) (hX : X.length = N) (W : Nat → Value) : ∀ e, e ∈ fwLL → @LLTrue ((fwNm G l n b fr to N g X X' v v' d i r).val W) e := by
  subst hg
  exact fa ⟨rfl, n, Nat.succ_pos 3, hn, rfl⟩ (fa ⟨rfl, g, Nat.succ_pos 0, by rw [Nat.mul_one]; exact rowD_len v g, rfl⟩ (fa ⟨rfl, g, Nat.succ_pos 0, by rw [Nat.mul_one]; exact List.length_replicate, rfl⟩ (fa ⟨rfl, g, Nat.succ_pos 0, by rw [Nat.mul_one]; exact rowD_len v' g, rfl⟩ (fa ⟨rfl, N, Nat.succ_pos 0, by rw [Nat.mul_one]; exact hX, rfl⟩ fz))))
/-- The rows: nothing before the first one has come. -/
def fwX (l : List Value) (n b : Nat) (to fr : Int) (N g : Nat) (L : Bool) (j : Nat) : List Value := if L then tabP (fwV l n b to) fr N g j else List.replicate N (.slice none 0 0)
theorem fwX_len (L : Bool) (j : Nat) : (fwX l n b to fr N g L j).length = N := by
  cases L with
  | true => exact tabP_len _ _ _ _ _
  | false => exact List.length_replicate
def fwBig (g n : Nat) : Nat := g * 1048576 * (n + 3) + (n + 3) + 1
/-- What holds at the heads. -/
inductive FwP (G : Int) (l : List Value) (n b : Nat) (fr to : Int) (N g : Nat) : Nat → Nat × Bool × Bool → Nm → Prop where
  | fill (x : Nat) (hx : x ≤ g) : FwP G l n b fr to N g (N * fwBig g n + fwBig g n + (g - x)) (0, false, false) (fwNm G l n b fr to N g (List.replicate N (.slice none 0 0)) [] (fwZ x) (fwZ' b g x) to x (to + 1 - fr))
  | day (d : Int) (v : Nat → Int) (i j : Nat) (h0 : fr ≤ d + 1) (h1 : d ≤ to) (hj : (j : Int) = d + 1 - fr) (hv : FwD G l n b to (d + 1) v) : FwP G l n b fr to N g (j * fwBig g n + (fwBig g n - 1)) (1, decide (d < to), false) (fwNm G l n b fr to N g (fwX l n b to fr N g (decide (d < to)) j) [] v v d i (d + 1 - fr))
  | more (d : Int) (v af : Nat → Int) (i j : Nat) (m : Bool) (h0 : fr ≤ d) (h1 : d ≤ to) (hj : (j : Int) = d - fr) (ha : FwD G l n b to (d + 1) af) (hv : RxD G l n b to d af v) (hm : m = false → ∀ k, k < n → odP l d k = true → v (gtA l k).toNat ≤ v (gtB l k).toNat + 1 ∧ v (gtB l k).toNat ≤ v (gtA l k).toNat + 1) :
      FwP G l n b fr to N g ((j + 1) * fwBig g n + if m then sumN v g * (n + 3) + (n + 2) else 0) (2, decide (d < to), m) (fwNm G l n b fr to N g (fwX l n b to fr N g (decide (d < to)) (j + 1)) (tabP (fwV l n b to) fr N g j) v v d i (d + 1 - fr))
  | gate (d : Int) (v af : Nat → Int) (i j : Nat) (m : Bool) (h0 : fr ≤ d) (h1 : d ≤ to) (hj : (j : Int) = d - fr) (hi : i ≤ n) (ha : FwD G l n b to (d + 1) af) (hv : RxD G l n b to d af v) (hm : m = false → ∀ k, k < i → odP l d k = true → v (gtA l k).toNat ≤ v (gtB l k).toNat + 1 ∧ v (gtB l k).toNat ≤ v (gtA l k).toNat + 1) :
      FwP G l n b fr to N g ((j + 1) * fwBig g n + ((if m then sumN v g + 1 else sumN v g) * (n + 3) + (n - i + 1))) (3, decide (d < to), m) (fwNm G l n b fr to N g (fwX l n b to fr N g (decide (d < to)) (j + 1)) [] v (gV l d i v) d i (d + 1 - fr))
end
end Go.Proofs.Z

namespace Go.Proofs.Z
open Go Go.RowKit Go.Proofs Go.Ri Go.Proofs.Z.Fa
/-! The specification's fewest: its steps. -/
noncomputable def fwPat (κ : Nat × Bool × Bool) : St := fwP κ.1 κ.2.1 κ.2.2
section
variable {l : List Value} {n b : Nat} {fr to : Int} {N g : Nat} {w0 : World} {D : Ending → World → Prop}
def fwNx (l : List Value) (n b : Nat) (fr to : Int) (N g : Nat) (q : Nat) (k' : Nat × Bool × Bool) (c' : Nm) : Prop := ∃ n', n' < q ∧ FwP (g : Int) l n b fr to N g n' k' c'
theorem fw_step0 (hn : l.length = n * 4) (hb : b < g) (hg : g ≤ 16) (h1 : fr ≤ to) (hN : (N : Int) = to - fr + 1) {x : Nat} (hx : x ≤ g) (W : Nat → Value) : StepH fFewest Prod.fst fwPat w0.heap.size w0 [] D (fwNx l n b fr to N g (N * fwBig g n + fwBig g n + (g - x))) (0, false, false) (fwNm (g : Int) l n b fr to N g (List.replicate N (.slice none 0 0)) [] (fwZ x) (fwZ' b g x) to x (to + 1 - fr)) W := by
  have hLL := fw_LL (X := List.replicate N (.slice none 0 0)) (X' := []) (v := fwZ x) (v' := fwZ' b g x) (d := to) (i := x) (r := to + 1 - fr) (b := b) (fr := fr) (to := to) (G := (g : Int)) hn rfl List.length_replicate W
  rcases Nat.lt_or_ge x g with hlt | hge
  · have e1 : ∀ z, fwZ' b g x z = if z = x then 1048576 else fwZ x z := fun z => by
      unfold fwZ'
      rw [if_pos hlt]
    have ht : @TbOK ((fwNm (g : Int) l n b fr to N g (List.replicate N (.slice none 0 0)) [] (fwZ x) (fwZ' b g x) to x (to + 1 - fr)).val W) fwA := by
      letI : Val := (fwNm (g : Int) l n b fr to N g (List.replicate N (.slice none 0 0)) [] (fwZ x) (fwZ' b g x) to x (to + 1 - fr)).val W
      refine { T := fa (f_lss (k := .i64) (m := (x : Int)) (n := (g : Int)) rfl rfl (decide_eq_true (by omega))) (fa (f_inb (m := (x : Int)) (n := (g : Int)) rfl rfl (by omega)) (fa (f_add1 (m := (x : Int)) rfl rfl rfl (by omega) (by omega)) fz)), LL := hLL, LW := fa ⟨?_, ?_, ?_⟩ fz }
      · show (0 : Int) ≤ (x : Int)
        omega
      · show ((x : Nat) : Int).toNat < (rowD (fwZ x) g).length
        rw [rowD_len, Int.toNat_natCast]
        exact hlt
      · show rowD (fwZ' b g x) g = (rowD (fwZ x) g).set ((x : Nat) : Int).toNat (.int .i64 1048576)
        rw [Int.toNat_natCast, ← rowD_set (fwZ x) 1048576 hlt]
        exact rowD_congr fun z _ => e1 z
    refine stepH_to fwA [] ht (fwS (sI 26) (sI 7) (sI 61) 30 10 9) [0, 1, 2, 3] rfl (0, false, false) (fwNm (g : Int) l n b fr to N g (List.replicate N (.slice none 0 0)) [] (fwZ (x + 1)) (fwZ' b g (x + 1)) to (x + 1) (to + 1 - fr)) fw_00 (fun W' => holds_all (fw_ids W W' (sI 26) (sI 7) (sI 61) 30 10 9 rfl rfl rfl rfl ?_ rfl)) ⟨_, ?_, FwP.fill (x + 1) hlt⟩
    · show rowD (fwZ' b g x) g = rowD (fwZ (x + 1)) g
      refine rowD_congr fun z _ => ?_
      rw [e1]
      unfold fwZ
      by_cases h : z = x
      · rw [if_pos h, if_pos (by omega)]
      · rw [if_neg h]
        by_cases h2 : z < x
        · rw [if_pos h2, if_pos (by omega)]
        · rw [if_neg h2, if_neg (by omega)]
    · omega
  · obtain rfl : x = g := by omega
    have e1 : ∀ z, fwZ' b x x z = if z = b then 0 else fwZ x z := fun z => by
      unfold fwZ'
      rw [if_neg (Nat.lt_irrefl x)]
    have ht : @TbOK ((fwNm (x : Int) l n b fr to N x (List.replicate N (.slice none 0 0)) [] (fwZ x) (fwZ' b x x) to x (to + 1 - fr)).val W) fwB := by
      letI : Val := (fwNm (x : Int) l n b fr to N x (List.replicate N (.slice none 0 0)) [] (fwZ x) (fwZ' b x x) to x (to + 1 - fr)).val W
      refine { T := fa (f_lss (k := .i64) (m := (x : Int)) (n := (x : Int)) rfl rfl (decide_eq_false (by omega))) (fa (f_inb (m := (b : Int)) (n := (x : Int)) rfl rfl (by omega)) fz), LL := hLL, LW := fa ⟨?_, ?_, ?_⟩ fz }
      · show (0 : Int) ≤ (b : Int)
        omega
      · show ((b : Nat) : Int).toNat < (rowD (fwZ x) x).length
        rw [rowD_len, Int.toNat_natCast]
        exact hb
      · show rowD (fwZ' b x x) x = (rowD (fwZ x) x).set ((b : Nat) : Int).toNat (.int .i64 0)
        rw [Int.toNat_natCast, ← rowD_set (fwZ x) 0 hb]
        exact rowD_congr fun z _ => e1 z
    have hday := FwP.day (G := (x : Int)) (l := l) (n := n) (b := b) (fr := fr) (to := to) (N := N) (g := x) to (fun z => if z = b then 0 else 1048576) x N (by omega) (Int.le_refl _) (by omega) (fw_base _ (if_pos rfl) (fun y hy => if_neg hy))
    have e2 : decide (to < to) = false := decide_eq_false (Int.lt_irrefl to)
    rw [e2] at hday
    refine stepH_to fwB [] ht (fwS (sI 40) (sI 2) (sI 61) 30 10 9) [0, 1, 2, 3] rfl (1, false, false) _ fw_01 (fun W' => holds_all (fw_ids W W' (sI 40) (sI 2) (sI 61) 30 10 9 rfl rfl rfl rfl ?_ rfl)) ⟨_, ?_, hday⟩
    · show rowD (fwZ' b x x) x = rowD _ x
      refine rowD_congr fun z hz => ?_
      rw [e1]
      unfold fwZ
      rw [if_pos hz]
    · have : 1 ≤ fwBig x n := Nat.succ_le_succ (Nat.zero_le _)
      omega
theorem fw_step1 (hn : l.length = n * 4) (hg : g ≤ 16) {d : Int} {v : Nat → Int} {i j : Nat} (hd : fr ≤ d) (hd1 : d ≤ to) (hj : (j : Int) = d + 1 - fr) (hv : FwD (g : Int) l n b to (d + 1) v) (W : Nat → Value) :
    StepH fFewest Prod.fst fwPat w0.heap.size w0 [] D (fwNx l n b fr to N g (j * fwBig g n + (fwBig g n - 1))) (1, decide (d < to), false) (fwNm (g : Int) l n b fr to N g (fwX l n b to fr N g (decide (d < to)) j) [] v v d i (d + 1 - fr)) W := by
  obtain ⟨j, rfl⟩ : ∃ k, j = k + 1 := ⟨j - 1, by omega⟩
  have ht : @TbOK ((fwNm (g : Int) l n b fr to N g (fwX l n b to fr N g (decide (d < to)) (j + 1)) [] v v d i (d + 1 - fr)).val W) fwC := by
    have hLL := fw_LL (X := fwX l n b to fr N g (decide (d < to)) (j + 1)) (X' := []) (v := v) (v' := v) (d := d) (i := i) (r := d + 1 - fr) (b := b) (fr := fr) (to := to) (G := (g : Int)) hn rfl (fwX_len _ _) W
    letI : Val := (fwNm (g : Int) l n b fr to N g (fwX l n b to fr N g (decide (d < to)) (j + 1)) [] v v d i (d + 1 - fr)).val W
    exact { T := fa (f_geq (k := .i64) (m := d) (n := fr) rfl rfl (decide_eq_true (by omega))) fz, LL := hLL, LM := fa ⟨g, by omega, rfl, rfl⟩ fz, OC := fa (rowD_one v g) fz }
  refine stepH_to fwC [] ht (fwS (sI 26) (sI 2) (sI 61) 30 8 9) [0, 1, 2, if decide (d < to) then 3 else 4] rfl (2, decide (d < to), true) _ (all2_all fw_12 (decide (d < to))) (fun W' => holds_all (fw_ids W W' (sI 26) (sI 2) (sI 61) 30 8 9 rfl rfl rfl rfl rfl rfl)) ⟨_, ?_, FwP.more d v v i j true hd hd1 (by omega) hv (rx_start hv) (fun h => by cases h)⟩
  have hs := sumN_le (v := v) (m := 1048576) (g := g) fun x hx => (hv x (by omega)).2.2.2
  have hs2 := Nat.mul_le_mul_right (n + 3) hs
  simp only [if_true]
  unfold fwBig
  omega
theorem fw_step1o (hn : l.length = n * 4) (h1 : fr ≤ to) {V : Val} (h30 : V.L 30 = tabD (fwV l n b to) fr N g) {d : Int} {v : Nat → Int} {i j : Nat} (hd : d + 1 = fr) (hj : (j : Int) = d + 1 - fr) (nx : Nat × Bool × Bool → Nm → Prop) (W : Nat → Value) :
    StepH fFewest Prod.fst fwPat w0.heap.size w0 [] (DQ V (.slN 0 30 1) [some (.lstL 30 32 1)] w0) nx (1, decide (d < to), false) (fwNm (g : Int) l n b fr to N g (fwX l n b to fr N g (decide (d < to)) j) [] v v d i (d + 1 - fr)) W := by
  obtain rfl : j = 0 := by omega
  have e2 : decide (d < to) = true := decide_eq_true (by omega)
  rw [e2]
  have ht : @TbOK ((fwNm (g : Int) l n b fr to N g (fwX l n b to fr N g true 0) [] v v d i (d + 1 - fr)).val W) fwF := by
    have hLL := fw_LL (X := fwX l n b to fr N g true 0) (X' := []) (v := v) (v' := v) (d := d) (i := i) (r := d + 1 - fr) (b := b) (fr := fr) (to := to) (G := (g : Int)) hn rfl (fwX_len _ _) W
    letI : Val := (fwNm (g : Int) l n b fr to N g (fwX l n b to fr N g true 0) [] v v d i (d + 1 - fr)).val W
    exact { T := fa (f_geq (k := .i64) (m := d) (n := fr) rfl rfl (decide_eq_false (by omega))) fz, LL := hLL }
  exact stepH_outQ fwF [] ht V [.lst 30 30] [2] (.slN 0 30 1) [some (.lstL 30 32 1)] fw_out rfl (holds_all (fa (okLs (tabD (fwV l n b to) fr N g) h30 (tabP_zero _ _ _ _)) fz))
theorem fw_step2 (hn : l.length = n * 4) {d : Int} {v af : Nat → Int} {i j : Nat} (h0 : fr ≤ d) (h1 : d ≤ to) (hj : (j : Int) = d - fr) (ha : FwD (g : Int) l n b to (d + 1) af) (hv : RxD (g : Int) l n b to d af v) (W : Nat → Value) :
    StepH fFewest Prod.fst fwPat w0.heap.size w0 [] D (fwNx l n b fr to N g ((j + 1) * fwBig g n + if true then sumN v g * (n + 3) + (n + 2) else 0)) (2, decide (d < to), true) (fwNm (g : Int) l n b fr to N g (fwX l n b to fr N g (decide (d < to)) (j + 1)) (tabP (fwV l n b to) fr N g j) v v d i (d + 1 - fr)) W := by
  have hLL := fw_LL (X := fwX l n b to fr N g (decide (d < to)) (j + 1)) (X' := tabP (fwV l n b to) fr N g j) (v := v) (v' := v) (d := d) (i := i) (r := d + 1 - fr) (b := b) (fr := fr) (to := to) (G := (g : Int)) hn rfl (fwX_len _ _) W
  have ht : @TbOK ((fwNm (g : Int) l n b fr to N g (fwX l n b to fr N g (decide (d < to)) (j + 1)) (tabP (fwV l n b to) fr N g j) v v d i (d + 1 - fr)).val W) { LL := fwLL } := by
    letI : Val := (fwNm (g : Int) l n b fr to N g (fwX l n b to fr N g (decide (d < to)) (j + 1)) (tabP (fwV l n b to) fr N g j) v v d i (d + 1 - fr)).val W
    exact { LL := hLL }
  refine stepH_to { LL := fwLL } [] ht (fwS (sI 26) (lI 0) (sI 61) 30 8 9) [0, 1, 2, 3] rfl (3, decide (d < to), false) _ (all2_all fw_23 (decide (d < to))) (fun W' => holds_all (fw_ids W W' (sI 26) (lI 0) (sI 61) 30 8 9 rfl rfl rfl rfl rfl rfl)) ⟨_, ?_, FwP.gate d v af 0 j false h0 h1 hj (Nat.zero_le _) ha hv (fun _ k hk => absurd hk (Nat.not_lt_zero k))⟩
  simp only [if_true, Bool.false_eq_true, if_false]
  omega
theorem fw_step21 (hva : validM (g : Int) l n = true) (hn : l.length = n * 4) (h00 : 0 ≤ fr) (htm : to ≤ 1048576) (hN : (N : Int) = to - fr + 1) {d : Int} {v af : Nat → Int} {i j : Nat} (h0 : fr ≤ d) (h1 : d ≤ to) (hj : (j : Int) = d - fr) (ha : FwD (g : Int) l n b to (d + 1) af) (hv : RxD (g : Int) l n b to d af v) (hm : ∀ k, k < n → odP l d k = true → v (gtA l k).toNat ≤ v (gtB l k).toNat + 1 ∧ v (gtB l k).toNat ≤ v (gtA l k).toNat + 1) (W : Nat → Value) :
    StepH fFewest Prod.fst fwPat w0.heap.size w0 [] D (fwNx l n b fr to N g ((j + 1) * fwBig g n + if false then sumN v g * (n + 3) + (n + 2) else 0)) (2, decide (d < to), false) (fwNm (g : Int) l n b fr to N g (fwX l n b to fr N g (decide (d < to)) (j + 1)) (tabP (fwV l n b to) fr N g j) v v d i (d + 1 - fr)) W := by
  have hst : FwD (g : Int) l n b to d v := rx_end hva ha hv fun k x y hk ho hx hy => by
    have := hm k hk ho
    unfold nextG at hy
    by_cases h : gtA l k = (x : Int)
    · rw [if_pos h] at hy
      rw [h, hy] at this
      exact this.1
    · rw [if_neg h] at hy
      rcases hx with hx | hx
      · exact absurd hx.symm h
      · rw [← hx, hy] at this
        exact this.2
  have hrow : rowD (fwV l n b to (fr + (j : Nat))) g = rowD v g := by
    rw [show fr + ((j : Nat) : Int) = d by omega]
    exact rowD_congr fun x hx => fw_uniq (fwV_ok hva (by omega) h1) hst (by omega)
  have hjN : j < N := by omega
  have e27 : (d - fr).toNat = j := by omega
  have hset := tabP_set (fwV l n b to) fr N g j hjN
  rw [hrow] at hset
  have hW : ∀ e, e ∈ (if decide (d < to) then [⟨30, 27, 8, 31⟩] else [] : List LNP) → @LNPTrue ((fwNm (g : Int) l n b fr to N g (fwX l n b to fr N g (decide (d < to)) (j + 1)) (tabP (fwV l n b to) fr N g j) v v d i (d + 1 - fr)).val W) e := fun e he => by
    by_cases hdt : d < to
    · rw [if_pos (decide_eq_true hdt)] at he
      refine fa (p := @LNPTrue ((fwNm (g : Int) l n b fr to N g (fwX l n b to fr N g (decide (d < to)) (j + 1)) (tabP (fwV l n b to) fr N g j) v v d i (d + 1 - fr)).val W)) ⟨?_, ?_⟩ fz e he
      · show (d - fr).toNat < (fwX l n b to fr N g (decide (d < to)) (j + 1)).length
        rw [fwX_len, e27]
        exact hjN
      · show tabP (fwV l n b to) fr N g j = (fwX l n b to fr N g (decide (d < to)) (j + 1)).set (d - fr).toNat (.agg (rowD v g).toArray)
        rw [e27, decide_eq_true hdt]
        exact hset
    · rw [if_neg (by rw [decide_eq_false hdt]; decide)] at he
      cases he
  have hV : ∀ e, e ∈ (if decide (d < to) then [] else [⟨30, 27, 8, 31⟩] : List LNP) → @LNVTrue ((fwNm (g : Int) l n b fr to N g (fwX l n b to fr N g (decide (d < to)) (j + 1)) (tabP (fwV l n b to) fr N g j) v v d i (d + 1 - fr)).val W) e := fun e he => by
    by_cases hdt : d < to
    · rw [if_pos (decide_eq_true hdt)] at he
      cases he
    · rw [if_neg (by rw [decide_eq_false hdt]; decide)] at he
      refine fa (p := @LNVTrue ((fwNm (g : Int) l n b fr to N g (fwX l n b to fr N g (decide (d < to)) (j + 1)) (tabP (fwV l n b to) fr N g j) v v d i (d + 1 - fr)).val W)) ⟨N, ?_, ?_, ?_⟩ fz e he
      · show fwX l n b to fr N g (decide (d < to)) (j + 1) = _
        rw [decide_eq_false hdt]
        rfl
      · show (d - fr).toNat < N
        omega
      · show tabP (fwV l n b to) fr N g j = (List.replicate N (.agg #[])).set (d - fr).toNat (.agg (rowD v g).toArray)
        rw [e27, ← tabP_full (fwV l n b to) fr N g, hset, show j + 1 = N by omega]
  have ht : @TbOK ((fwNm (g : Int) l n b fr to N g (fwX l n b to fr N g (decide (d < to)) (j + 1)) (tabP (fwV l n b to) fr N g j) v v d i (d + 1 - fr)).val W) (fwG (decide (d < to))) := by
    have hLL := fw_LL (X := fwX l n b to fr N g (decide (d < to)) (j + 1)) (X' := tabP (fwV l n b to) fr N g j) (v := v) (v' := v) (d := d) (i := i) (r := d + 1 - fr) (b := b) (fr := fr) (to := to) (G := (g : Int)) hn rfl (fwX_len _ _) W
    letI : Val := ((fwNm (g : Int) l n b fr to N g (fwX l n b to fr N g (decide (d < to)) (j + 1)) (tabP (fwV l n b to) fr N g j) v v d i (d + 1 - fr)).val W)
    exact { T := fa (f_sub (m := d) (n := fr) (r := d - fr) rfl rfl rfl rfl rfl (by omega) (by omega)) (fa (f_inb (m := d - fr) (n := (N : Int)) rfl rfl (by omega)) (fa (f_sub (m := d) (n := 1) (r := d - 1) rfl rfl rfl rfl rfl (by omega) (by omega)) fz)), LL := hLL, LNW := hW, LNV := hV }
  have e1 : d - 1 + 1 = d := by omega
  have hday := FwP.day (G := (g : Int)) (l := l) (n := n) (b := b) (fr := fr) (to := to) (N := N) (g := g) (d - 1) v i j (by omega) (by omega) (by omega) (by rw [e1]; exact hst)
  have e2 : decide (d - 1 < to) = true := decide_eq_true (by omega)
  rw [e2, e1] at hday
  refine stepH_to (fwG (decide (d < to))) [] ht (fwS (sI 33) (sI 2) (sI 27) 31 8 9) [0, 1, 4] rfl (1, true, false) _ (all2_all fw_21 (decide (d < to))) (fun W' => holds_all (fw_ids W W' (sI 33) (sI 2) (sI 27) 31 8 9 rfl rfl rfl rfl rfl rfl)) ⟨_, ?_, hday⟩
  have : 1 ≤ fwBig g n := Nat.succ_le_succ (Nat.zero_le _)
  rw [Nat.succ_mul]
  omega
theorem fw_step32 (hn : l.length = n * 4) {d : Int} {v af : Nat → Int} {j : Nat} (m : Bool) (h0 : fr ≤ d) (h1 : d ≤ to) (hj : (j : Int) = d - fr) (ha : FwD (g : Int) l n b to (d + 1) af) (hv : RxD (g : Int) l n b to d af v) (hm : m = false → ∀ k, k < n → odP l d k = true → v (gtA l k).toNat ≤ v (gtB l k).toNat + 1 ∧ v (gtB l k).toNat ≤ v (gtA l k).toNat + 1) (W : Nat → Value) :
    StepH fFewest Prod.fst fwPat w0.heap.size w0 [] D (fwNx l n b fr to N g ((j + 1) * fwBig g n + ((if m then sumN v g + 1 else sumN v g) * (n + 3) + (n - n + 1)))) (3, decide (d < to), m) (fwNm (g : Int) l n b fr to N g (fwX l n b to fr N g (decide (d < to)) (j + 1)) [] v (gV l d n v) d n (d + 1 - fr)) W := by
  have ht : @TbOK ((fwNm (g : Int) l n b fr to N g (fwX l n b to fr N g (decide (d < to)) (j + 1)) [] v (gV l d n v) d n (d + 1 - fr)).val W) fwH := by
    have hLL := fw_LL (X := fwX l n b to fr N g (decide (d < to)) (j + 1)) (X' := []) (v := v) (v' := gV l d n v) (d := d) (i := n) (r := d + 1 - fr) (b := b) (fr := fr) (to := to) (G := (g : Int)) hn rfl (fwX_len _ _) W
    letI : Val := (fwNm (g : Int) l n b fr to N g (fwX l n b to fr N g (decide (d < to)) (j + 1)) [] v (gV l d n v) d n (d + 1 - fr)).val W
    exact { T := fa (f_lss (k := .i64) (m := (n : Int)) (n := (n : Int)) rfl rfl (decide_eq_false (by omega))) fz, LL := hLL }
  refine stepH_to fwH [] ht (fwS (sI 26) (sI 2) (sI 61) 30 8 9) [0, 1, 2, 3] rfl (2, decide (d < to), m) _ (all2_all (all2_all fw_32 (decide (d < to))) m) (fun W' => holds_all (fw_ids W W' (sI 26) (sI 2) (sI 61) 30 8 9 rfl rfl rfl rfl rfl rfl)) ⟨_, ?_, FwP.more d v af n j m h0 h1 hj ha hv hm⟩
  cases m with
  | true =>
    simp only [if_true]
    rw [Nat.succ_mul (sumN v g)]
    omega
  | false =>
    simp only [Bool.false_eq_true, if_false]
    omega
end
end Go.Proofs.Z

namespace Go.Proofs.Z
open Go Go.RowKit Go.Proofs Go.Ri Go.Proofs.Z.Fa
/-! The specification's fewest: a gate; its contract. -/
section
variable {l : List Value} {n b : Nat} {fr to : Int} {N g : Nat} {w0 : World} {D : Ending → World → Prop}
theorem fw_step33 (hl : ints l) (hva : validM (g : Int) l n = true) (hn : l.length = n * 4) (h00 : 0 ≤ fr) {d : Int} {v af : Nat → Int} {i j : Nat} (m : Bool) (h0 : fr ≤ d) (h1 : d ≤ to) (hj : (j : Int) = d - fr) (hi : i < n) (ha : FwD (g : Int) l n b to (d + 1) af) (hv : RxD (g : Int) l n b to d af v) (hm : m = false → ∀ k, k < i → odP l d k = true → v (gtA l k).toNat ≤ v (gtB l k).toNat + 1 ∧ v (gtB l k).toNat ≤ v (gtA l k).toNat + 1) (W : Nat → Value) :
    StepH fFewest Prod.fst fwPat w0.heap.size w0 [] D (fwNx l n b fr to N g ((j + 1) * fwBig g n + ((if m then sumN v g + 1 else sumN v g) * (n + 3) + (n - i + 1)))) (3, decide (d < to), m) (fwNm (g : Int) l n b fr to N g (fwX l n b to fr N g (decide (d < to)) (j + 1)) [] v (gV l d i v) d i (d + 1 - fr)) W := by
  have h32 := (validM_iff _ _ _).1 hva
  have hgt := (gOk_iff _ _ _ _ _).1 (okL_at h32.2.2.2 hi)
  have hA : (gtA l i).toNat < g := by omega
  have hB : (gtB l i).toNat < g := by omega
  have hAB : (gtA l i).toNat ≠ (gtB l i).toNat := by omega
  have eA : (((gtA l i).toNat : Nat) : Int) = gtA l i := by omega
  have eB : (((gtB l i).toNat : Nat) : Int) = gtB l i := by omega
  obtain ⟨_, va0, va1, _⟩ := hv (gtA l i).toNat (by omega)
  obtain ⟨_, vb0, vb1, _⟩ := hv (gtB l i).toNat (by omega)
  have hLL := fw_LL (X := fwX l n b to fr N g (decide (d < to)) (j + 1)) (X' := []) (v := v) (v' := gV l d i v) (d := d) (i := i) (r := d + 1 - fr) (b := b) (fr := fr) (to := to) (G := (g : Int)) hn rfl (fwX_len _ _) W
  have hlx : @LXTrue ((fwNm (g : Int) l n b fr to N g (fwX l n b to fr N g (decide (d < to)) (j + 1)) [] v (gV l d i v) d i (d + 1 - fr)).val W) ⟨0, 2, [sI 3, sI 4, sI 5, sI 6]⟩ := ⟨rfl, by
    show ((i : Nat) : Int).toNat * 4 + 4 ≤ l.length
    rw [Int.toNat_natCast]
    omega, by
    show (l.drop (((i : Nat) : Int).toNat * 4)).take 4 = _
    rw [Int.toNat_natCast, row4 hl i (by omega)]
    rfl⟩
  have hx8 : ∀ e, e ∈ ([⟨8, 3, [sI 41]⟩, ⟨8, 4, [sI 42]⟩] : List LEE) → @LXTrue ((fwNm (g : Int) l n b fr to N g (fwX l n b to fr N g (decide (d < to)) (j + 1)) [] v (gV l d i v) d i (d + 1 - fr)).val W) e := by
    refine fa ⟨rfl, ?_, rowD_at hA⟩ (fa ⟨rfl, ?_, rowD_at hB⟩ fz)
    · show (gtA l i).toNat * 1 + 1 ≤ (rowD v g).length
      rw [rowD_len]
      omega
    · show (gtB l i).toNat * 1 + 1 ≤ (rowD v g).length
      rw [rowD_len]
      omega
  have hbase : ∀ e, e ∈ fwG0 → @TETrue ((fwNm (g : Int) l n b fr to N g (fwX l n b to fr N g (decide (d < to)) (j + 1)) [] v (gV l d i v) d i (d + 1 - fr)).val W) e := by
    letI : Val := (fwNm (g : Int) l n b fr to N g (fwX l n b to fr N g (decide (d < to)) (j + 1)) [] v (gV l d i v) d i (d + 1 - fr)).val W
    exact fa (f_lss (k := .i64) (m := (i : Int)) (n := (n : Int)) rfl rfl (decide_eq_true (by omega))) (fa (f_inb (m := (i : Int)) (n := (n : Int)) rfl rfl (by omega)) (fa (f_add1 (m := (i : Int)) rfl rfl rfl (by omega) (by omega)) fz))
  have hG1 : ∀ q, decide (v (gtA l i).toNat > v (gtB l i).toNat + 1) = q → ∀ e, e ∈ (fwG1 ++ [⟨.bin .gtr, sI 41, sI 43, bR q⟩] : List TE) → @TETrue ((fwNm (g : Int) l n b fr to N g (fwX l n b to fr N g (decide (d < to)) (j + 1)) [] v (gV l d i v) d i (d + 1 - fr)).val W) e := fun q hq => by
    letI : Val := (fwNm (g : Int) l n b fr to N g (fwX l n b to fr N g (decide (d < to)) (j + 1)) [] v (gV l d i v) d i (d + 1 - fr)).val W
    exact fapp (fa (f_inb (m := gtA l i) (n := (g : Int)) rfl rfl (by omega)) (fa (f_inb (m := gtB l i) (n := (g : Int)) rfl rfl (by omega)) (fa (f_add1 (m := v (gtB l i).toNat) rfl rfl rfl (by omega) (by omega)) (fa (f_add1 (m := v (gtA l i).toNat) rfl rfl rfl (by omega) (by omega)) fz)))) (fa (f_gtr (k := .i64) (m := v (gtA l i).toNat) (n := v (gtB l i).toNat + 1) rfl rfl hq) fz)
  have hG2 : ∀ q, decide (v (gtB l i).toNat > v (gtA l i).toNat + 1) = q → @TETrue ((fwNm (g : Int) l n b fr to N g (fwX l n b to fr N g (decide (d < to)) (j + 1)) [] v (gV l d i v) d i (d + 1 - fr)).val W) ⟨.bin .gtr, sI 42, sI 44, bR q⟩ := fun q hq => by
    letI : Val := (fwNm (g : Int) l n b fr to N g (fwX l n b to fr N g (decide (d < to)) (j + 1)) [] v (gV l d i v) d i (d + 1 - fr)).val W
    exact f_gtr (k := .i64) (m := v (gtB l i).toNat) (n := v (gtA l i).toNat + 1) rfl rfl hq
  have hO : ∀ o, odP l d i = o → Ans fOpenOn [@cvF ((fwNm (g : Int) l n b fr to N g (fwX l n b to fr N g (decide (d < to)) (j + 1)) [] v (gV l d i v) d i (d + 1 - fr)).val W) gateQ, @cvF ((fwNm (g : Int) l n b fr to N g (fwX l n b to fr N g (decide (d < to)) (j + 1)) [] v (gV l d i v) d i (d + 1 - fr)).val W) (sI 26)] (.bool o) := fun o ho => by
    have := openOn_ans (gtA l i) (gtB l i) (gtF l i) (gtT l i) d (by omega)
    rw [show openM (gtF l i) (gtT l i) d = o from ho] at this
    exact this
  have keep : ∀ c, c < 2 → (c = 0 → odP l d i = false) → (c = 1 → v (gtA l i).toNat ≤ v (gtB l i).toNat + 1 ∧ v (gtB l i).toNat ≤ v (gtA l i).toNat + 1) → @TbOK ((fwNm (g : Int) l n b fr to N g (fwX l n b to fr N g (decide (d < to)) (j + 1)) [] v (gV l d i v) d i (d + 1 - fr)).val W) (fwI c) → StepH fFewest Prod.fst fwPat w0.heap.size w0 [] D (fwNx l n b fr to N g ((j + 1) * fwBig g n + ((if m then sumN v g + 1 else sumN v g) * (n + 3) + (n - i + 1)))) (3, decide (d < to), m) (fwNm (g : Int) l n b fr to N g (fwX l n b to fr N g (decide (d < to)) (j + 1)) [] v (gV l d i v) d i (d + 1 - fr)) W := fun c hc hc0 hc1 ht => by
    have hrun := allU_lt (all2_all (all2_all fw_33 (decide (d < to))) m) c (by omega)
    have e2 : Nat.ble 2 c = false := by
      rcases (show c = 0 ∨ c = 1 by omega) with rfl | rfl <;> rfl
    rw [e2] at hrun
    refine stepH_to (fwI c) [] ht (fwS (sI 26) (sI 7) (sI 61) 30 8 9) [0, 1, 2, 3] rfl (3, decide (d < to), m) _ hrun (fun W' => holds_all (fw_ids W W' (sI 26) (sI 7) (sI 61) 30 8 9 rfl rfl rfl rfl rfl rfl)) ⟨_, ?_, FwP.gate d v af (i + 1) j m h0 h1 hj hi ha hv (fun hmf k hk ho => ?_)⟩
    · omega
    · rcases Nat.lt_or_ge k i with h | h
      · exact hm hmf k h ho
      · obtain rfl : k = i := by omega
        rcases (show c = 0 ∨ c = 1 by omega) with rfl | rfl
        · rw [hc0 rfl] at ho
          cases ho
        · exact hc1 rfl
  have lower : ∀ c (x y : Nat), c < 4 → Nat.ble 2 c = true → x < g → 0 ≤ v y → v y + 1 < v x → RxD (g : Int) l n b to d af (fun z => if z = x then v y + 1 else v z) → (∀ z, gV l d i v z = if z = x then v y + 1 else v z) → @TbOK ((fwNm (g : Int) l n b fr to N g (fwX l n b to fr N g (decide (d < to)) (j + 1)) [] v (gV l d i v) d i (d + 1 - fr)).val W) (fwI c) → StepH fFewest Prod.fst fwPat w0.heap.size w0 [] D (fwNx l n b fr to N g ((j + 1) * fwBig g n + ((if m then sumN v g + 1 else sumN v g) * (n + 3) + (n - i + 1)))) (3, decide (d < to), m) (fwNm (g : Int) l n b fr to N g (fwX l n b to fr N g (decide (d < to)) (j + 1)) [] v (gV l d i v) d i (d + 1 - fr)) W := fun c x y hc e2 hx hy0 hlt hrx hgv ht => by
    have hrun := allU_lt (all2_all (all2_all fw_33 (decide (d < to))) m) c hc
    rw [e2] at hrun
    refine stepH_to (fwI c) [] ht (fwS (sI 26) (sI 7) (sI 61) 30 10 9) [0, 1, 2, 3] rfl (3, decide (d < to), true) _ hrun (fun W' => holds_all (fw_ids W W' (sI 26) (sI 7) (sI 61) 30 10 9 rfl rfl rfl rfl (rowD_congr fun z _ => hgv z) rfl)) ⟨_, ?_, FwP.gate d (fun z => if z = x then v y + 1 else v z) af (i + 1) j true h0 h1 hj hi ha hrx (fun h => by cases h)⟩
    have hs := sumN_lt (v := v) (x := x) (a := v y + 1) (by omega) hlt hx
    have hs2 := Nat.mul_le_mul_right (n + 3) (show sumN (fun z => if z = x then v y + 1 else v z) g + 1 ≤ sumN v g from hs)
    have hs3 := Nat.mul_le_mul_right (n + 3) (show sumN v g ≤ if m then sumN v g + 1 else sumN v g by split <;> omega)
    simp only [if_true]
    omega
  by_cases ho : odP l d i = true
  · by_cases c1 : v (gtB l i).toNat + 1 < v (gtA l i).toNat
    · have hgv : ∀ z, gV l d i v z = if z = (gtA l i).toNat then v (gtB l i).toNat + 1 else v z := fun z => by
        unfold gV
        rw [if_pos ho, if_pos c1]
      refine lower 2 (gtA l i).toNat (gtB l i).toNat (by decide) rfl hA vb0 c1 (rx_step hv h1 hi ho (.inl eA) (by unfold nextG; rw [if_pos eA.symm]; exact eB.symm) (by omega) c1) hgv ?_
      have hx10 : ∀ e, e ∈ ([⟨10, 3, [sI 43]⟩, ⟨10, 4, [sI 42]⟩] : List LEE) → @LXTrue ((fwNm (g : Int) l n b fr to N g (fwX l n b to fr N g (decide (d < to)) (j + 1)) [] v (gV l d i v) d i (d + 1 - fr)).val W) e := by
        refine fa ⟨rfl, ?_, (rowD_at hA).trans ?_⟩ (fa ⟨rfl, ?_, (rowD_at hB).trans ?_⟩ fz)
        · show (gtA l i).toNat * 1 + 1 ≤ (rowD (gV l d i v) g).length
          rw [rowD_len]
          omega
        · rw [hgv, if_pos rfl]
          rfl
        · show (gtB l i).toNat * 1 + 1 ≤ (rowD (gV l d i v) g).length
          rw [rowD_len]
          omega
        · rw [hgv, if_neg (Ne.symm hAB)]
          rfl
      have hlw : @LWTrue ((fwNm (g : Int) l n b fr to N g (fwX l n b to fr N g (decide (d < to)) (j + 1)) [] v (gV l d i v) d i (d + 1 - fr)).val W) ⟨8, 3, sI 43, 10⟩ := by
        refine ⟨?_, ?_, ?_⟩
        · show 0 ≤ gtA l i
          omega
        · show (gtA l i).toNat < (rowD v g).length
          rw [rowD_len]
          exact hA
        · show rowD (gV l d i v) g = (rowD v g).set (gtA l i).toNat (.int .i64 (v (gtB l i).toNat + 1))
          rw [← rowD_set v _ hA]
          exact rowD_congr fun z _ => hgv z
      letI : Val := (fwNm (g : Int) l n b fr to N g (fwX l n b to fr N g (decide (d < to)) (j + 1)) [] v (gV l d i v) d i (d + 1 - fr)).val W
      exact { T := fapp (fapp hbase (hG1 true (decide_eq_true (by omega)))) (fa (f_add1 (m := v (gtB l i).toNat + 1) rfl rfl rfl (by omega) (by omega)) (fa (f_gtr (k := .i64) (m := v (gtB l i).toNat) (n := v (gtB l i).toNat + 1 + 1) rfl rfl (decide_eq_false (by omega))) fz)), LL := hLL, LX := fapp (fapp (fa hlx fz) hx8) hx10, LW := fa hlw fz, Y := fa (hO true ho) fz }
    · by_cases c2 : v (gtA l i).toNat + 1 < v (gtB l i).toNat
      · have hgv : ∀ z, gV l d i v z = if z = (gtB l i).toNat then v (gtA l i).toNat + 1 else v z := fun z => by
          unfold gV
          rw [if_pos ho, if_neg c1, if_pos c2]
        refine lower 3 (gtB l i).toNat (gtA l i).toNat (by decide) rfl hB va0 c2 (rx_step hv h1 hi ho (.inr eB) (by unfold nextG; rw [if_neg (by omega)]; exact eA.symm) (by omega) c2) hgv ?_
        have hlw : @LWTrue ((fwNm (g : Int) l n b fr to N g (fwX l n b to fr N g (decide (d < to)) (j + 1)) [] v (gV l d i v) d i (d + 1 - fr)).val W) ⟨8, 4, sI 44, 10⟩ := by
          refine ⟨?_, ?_, ?_⟩
          · show 0 ≤ gtB l i
            omega
          · show (gtB l i).toNat < (rowD v g).length
            rw [rowD_len]
            exact hB
          · show rowD (gV l d i v) g = (rowD v g).set (gtB l i).toNat (.int .i64 (v (gtA l i).toNat + 1))
            rw [← rowD_set v _ hB]
            exact rowD_congr fun z _ => hgv z
        letI : Val := (fwNm (g : Int) l n b fr to N g (fwX l n b to fr N g (decide (d < to)) (j + 1)) [] v (gV l d i v) d i (d + 1 - fr)).val W
        exact { T := fapp (fapp hbase (hG1 false (decide_eq_false (by omega)))) (fa (hG2 true (decide_eq_true (by omega))) fz), LL := hLL, LX := fapp (fapp (fa hlx fz) hx8) fz, LW := fa hlw fz, Y := fa (hO true ho) fz }
      · refine keep 1 (by decide) (fun h => by cases h) (fun _ => ⟨by omega, by omega⟩) ?_
        letI : Val := (fwNm (g : Int) l n b fr to N g (fwX l n b to fr N g (decide (d < to)) (j + 1)) [] v (gV l d i v) d i (d + 1 - fr)).val W
        exact { T := fapp (fapp hbase (hG1 false (decide_eq_false (by omega)))) (fa (hG2 false (decide_eq_false (by omega))) fz), LL := hLL, LX := fapp (fapp (fa hlx fz) hx8) fz, Y := fa (hO true ho) fz }
  · have ho2 : odP l d i = false := Bool.eq_false_iff.2 ho
    refine keep 0 (by decide) (fun _ => ho2) (fun h => by cases h) ?_
    letI : Val := (fwNm (g : Int) l n b fr to N g (fwX l n b to fr N g (decide (d < to)) (j + 1)) [] v (gV l d i v) d i (d + 1 - fr)).val W
    exact { T := fapp (fapp hbase fz) fz, LL := hLL, LX := fapp (fapp (fa hlx fz) fz) fz, Y := fa (hO false ho2) fz }
theorem few_ok {G : Int} (hl : ints l) (hn : l.length = n * 4) (hva : validM G l n = true) : FewOK G l n := by
  intro V b fr to N hG hL h21 h22 h40 hbG h0 h1 h2 hN h30 w hr vs hv
  have h32 := (validM_iff _ _ _).1 hva
  obtain ⟨g, rfl⟩ : ∃ g : Nat, G = (g : Int) := ⟨G.toNat, by omega⟩
  rw [Int.toNat_natCast] at h30
  let V1 : Val := (fwNm (g : Int) l n b fr to N g (List.replicate N (.slice none 0 0)) [] (fwZ 0) (fwZ' b g 0) to 0 (to + 1 - fr)).val fun _ => undef
  have hv : All2 (@Go.Ri.NVal V1 w) fwD vs := by
    have one : ∀ {a : Nat} {b : Nat} {z u}, V.I a = z → V1.I b = z → @Go.Ri.NVal V w (sI a) u → @Go.Ri.NVal V1 w (sI b) u := fun {a b z u} h1 h2 h => nval_re (V := V) (V' := V1) (x := sI a) (y := sI b) (v := .int .i64 z) rfl rfl (congrArg (Value.int .i64) h1) (congrArg (Value.int .i64) h2) h
    cases hv with
    | cons k1 h => cases h with
      | cons k2 h => cases h with
        | cons k3 h => cases h with
          | cons k4 h =>
            cases h
            exact .cons (fell_nval1 (V := V) (V' := V1) hG hL k1) (.cons (one h21 rfl k2) (.cons (one h22 rfl k3) (.cons (one h40 rfl k4) .nil)))
  have ht0 : @TbOK V1 fwE := by
    have hLL := fw_LL (X := List.replicate N (.slice none 0 0)) (X' := []) (v := fwZ 0) (v' := fwZ' b g 0) (d := to) (i := 0) (r := to + 1 - fr) (b := b) (fr := fr) (to := to) (G := (g : Int)) hn rfl List.length_replicate (fun _ => undef)
    letI := V1
    exact { T := fa (f_sub (m := to) (n := fr) (r := to - fr) rfl rfl rfl rfl rfl (by omega) (by omega)) (fa (f_add1 (m := to - fr) rfl (congrArg (Value.int .i64) hN) rfl (by omega) (by omega)) fz), LM := fa ⟨N, by omega, rfl, rfl⟩ (fa ⟨g, by omega, rfl, rfl⟩ fz), LL := hLL }
  refine fn_headsN (κ := Nat × Bool × Bool) (fwNm (g : Int) l n b fr to N g (List.replicate N (.slice none 0 0)) [] (fwZ 0) (fwZ' b g 0) to 0 (to + 1 - fr)) (fun _ => undef) fwE [] fFewest fwD Prod.fst fwPat (FwP (g : Int) l n b fr to N g) ht0 (fwS (sI 26) (lI 0) (sI 61) 30 9 9) [0, 1, 2, 3] (0, false, false) _ fw_enter (fwNm (g : Int) l n b fr to N g (List.replicate N (.slice none 0 0)) [] (fwZ 0) (fwZ' b g 0) to 0 (to + 1 - fr)) (fun W' => holds_all (fw_ids _ W' (sI 26) (lI 0) (sI 61) 30 9 9 rfl rfl rfl rfl ?_ rfl)) (FwP.fill 0 (Nat.zero_le _)) (DQ V (.slN 0 30 1) [some (.lstL 30 32 1)]) ?_ w hr vs hv
  · show List.replicate g (.int .i64 0) = rowD (fwZ 0) g
    rw [← rowD_zero]
    rfl
  · intro w q κ c hΦ W
    cases hΦ with
    | fill x hx => exact fw_step0 hn (by omega) (by omega) h1 hN hx W
    | day d v i j k0 k1 hj hv =>
      rcases Int.lt_or_le d fr with hlt | hge
      · exact fw_step1o hn h1 h30 (by omega) hj _ W
      · exact fw_step1 hn (by omega) hge k1 hj hv W
    | more d v af i j m k0 k1 hj ha hv hm =>
      cases m with
      | true => exact fw_step2 hn k0 k1 hj ha hv W
      | false => exact fw_step21 hva hn h0 h2 hN k0 k1 hj ha hv (hm rfl) W
    | gate d v af i j m k0 k1 hj hi ha hv hm =>
      rcases Nat.lt_or_ge i n with hlt | hge
      · exact fw_step33 hl hva hn h0 m k0 k1 hj hlt ha hv hm W
      · obtain rfl : i = n := by omega
        exact fw_step32 hn m k0 k1 hj ha hv hm W
end
end Go.Proofs.Z
