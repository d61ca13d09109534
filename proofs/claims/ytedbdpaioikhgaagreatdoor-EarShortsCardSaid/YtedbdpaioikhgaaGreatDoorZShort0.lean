/- A part of the proofs that the laws of layer one answer true for every input. -/
import Derived.Test.YtedbdpaioikhgaaGreatDoorZFeat0
import Derived.Test.YtedbdpaioikhgaaGreatDoorZCmp3
import Derived.Test.YtedbdpaioikhgaaGreatDoorZSame
namespace Go.Proofs.Z
open Go Go.RowKit Go.Proofs Go.Ri
/-! The letters of the short notation. -/
def lett (p : Nat) : List UInt8 := if p = 0 then [119, 115, 102, 104, 99] else if p < 9 then [46, 110, 98, 107] else [46, 111]
def lS (l : List UInt8) : RV := .pl (.string ⟨l.toArray⟩)
def sS (i : Nat) : RV := .sym .str i
def sU (i : Nat) : RV := .sym (.int .u8) i
def lU (n : Int) : RV := .pl (.int .u8 n)
def ln (p : Nat) : Nat := (lett p).length
theorem ok_rng (s i p : Nat) (z : Int) (h : (Nat.beq (cls z) 0 || !badC s i p (cls z)) = true) : 0 ≤ z ∧ z ≤ 3 := by
  have h0 := cls0 z
  have h2 := cls2 z
  have h3 := cls3 z
  cases hb : Nat.beq (cls z) 0 with
  | true =>
    rw [hb] at h0
    have : z = 0 := by simpa using h0.symm
    omega
  | false =>
    rw [hb] at h
    unfold badC at h
    rw [h2, h3] at h
    by_cases a : z < 0
    · simp [a] at h
    · by_cases b : z > 3
      · simp [b] at h
      · omega
theorem edge_rng (s : Nat) (x : Nat → Int) (h : edgeB s x = true) : ∀ i, i < 4 → 0 ≤ x i ∧ x i ≤ 3 := by
  unfold edgeB okC at h
  simp only [Bool.and_eq_true] at h
  obtain ⟨⟨⟨a, b⟩, c⟩, d⟩ := h
  intro i hi
  match i, hi with
  | 0, _ => exact ok_rng _ _ _ _ a
  | 1, _ => exact ok_rng _ _ _ _ b
  | 2, _ => exact ok_rng _ _ _ _ c
  | 3, _ => exact ok_rng _ _ _ _ d
theorem tip_rng (t : Int) (h : tipOK (tcl t) = true) : 0 ≤ t ∧ t ≤ 4 := by
  obtain ⟨_, h1, h2, _, _⟩ := tcl_spec t
  unfold tipOK at h
  rw [h1, h2] at h
  by_cases a : t < 0
  · simp [a] at h
  · by_cases b : t > 4
    · simp [b] at h
    · omega
theorem val_rng (x : Nat → Int) (y : Nat → Bool) (hv : valB x = true) (p : Nat) (hp : p < 12) : 0 ≤ shp x y p ∧ shp x y p < (ln p : Int) := by
  unfold valB at hv
  simp only [Bool.and_eq_true] at hv
  obtain ⟨ht, hu, hl⟩ := hv
  have t := tip_rng _ ht
  have u := edge_rng _ _ hu
  have l := edge_rng _ _ hl
  unfold shp
  by_cases h9 : p < 9
  · rw [if_pos h9]
    by_cases h0 : p = 0
    · subst h0
      have : ((ln 0 : Nat) : Int) = 5 := rfl
      omega
    · have e : ((ln p : Nat) : Int) = 4 := by unfold ln lett; rw [if_neg h0, if_pos h9]; rfl
      rw [e]
      by_cases h5 : p < 5
      · have := u (p - 1) (by omega)
        unfold sh at this
        rw [show 1 + (p - 1) = p by omega] at this
        omega
      · have := l (p - 5) (by omega)
        unfold sh at this
        rw [show 5 + (p - 5) = p by omega] at this
        omega
  · rw [if_neg h9]
    have e : ((ln p : Nat) : Int) = 2 := by unfold ln lett; rw [if_neg (by omega), if_neg h9]; rfl
    rw [e]
    split <;> omega
/-- The letter of a value. -/
def code (p : Nat) (v : Int) : UInt8 := (lett p).getD v.toNat 0
def codes (s : Nat → Int) : Nat → List UInt8
  | 0 => []
  | k + 1 => codes s k ++ [code k (s k)]
/-- The short notation. -/
def shortV (s : Nat → Int) : ByteArray := ⟨(codes s 12).toArray⟩
theorem get_code (p : Nat) (v : Int) (h0 : 0 ≤ v) (h1 : v < (ln p : Int)) : (lett p)[v.toNat]? = some (code p v) := by
  have : v.toNat < (lett p).length := by
    have : (ln p : Int) = ((lett p).length : Int) := rfl
    omega
  unfold code
  rw [List.getD_eq_getElem?_getD, List.getElem?_eq_getElem this]
  rfl
/-- The names: the ear, its row, the letters, the numbers behind; the letters as strings, the beginnings. -/
noncomputable def shnm (x : Nat → Int) (y : Nat → Bool) : Nm := ⟨fun i => if i < 20 then x i else if i < 40 then shp x y (i - 20) else if i < 80 then (code (i - 60) (shp x y (i - 60))).toNat else shp x y (i - 80) + 1, y,
  fun i => if i = 5 then shortV (shp x y) else if i < 30 then ⟨#[code (i - 10) (shp x y (i - 10))]⟩ else ⟨(codes (shp x y) (i - 29)).toArray⟩, fun _ => []⟩
def rg : List Nat := [0, 1, 2, 3, 4, 5, 6, 7, 8, 9, 10, 11]
noncomputable def shTb : Tb := { Y := [⟨fCheck, [earR 0], lI 0⟩, ⟨fShapeOf, [earR 0], shapeR 20⟩], T := rg.map fun p => ⟨.idx, lS (lett p), sI (20 + p), sU (60 + p)⟩, MS := [⟨rg.map fun p => sU (60 + p), 5⟩] }
def rshY : List YE := ⟨fValid, [earR 0], bR true⟩ :: rg.map (fun (p : Nat) => ⟨fGet, [earR 0, lI p], sI (20 + p)⟩)
def rshS : List SSE := rg.map (fun p => ⟨lS (lett p), sI (20 + p), sI (80 + p), sS (10 + p)⟩)
def rshT : List TE := rg.map (fun p => ⟨.bin .add, sI (20 + p), lI 1, sI (80 + p)⟩) ++ rg.map (fun p => ⟨.bin .add, if p = 0 then lS [] else sS (29 + p), sS (10 + p), sS (30 + p)⟩)
noncomputable def rshTb : Tb := { Y := rshY, SS := rshS, T := rshT }
set_option maxRecDepth 100000 in
theorem sh_run : doneQ shTb [true] fShort [earR 0] [.str 5 (sS 5)] [] (.tup [sS 5, lI 0]) [] = true := by kernel_rfl
set_option maxRecDepth 100000 in
theorem rsh_run : doneQ rshTb [true] fRShort [earR 0] [.str 5 (sS 41)] [] (.tup [sS 5, lI 0]) [] = true := by kernel_rfl
def shBad : RV := .pl (.tuple #[.string ⟨#[]⟩, .int .i64 10])
set_option maxRecDepth 100000 in
theorem sh_bad : doneQ { Y := [⟨fCheck, [earR 0], lI 10⟩] } [] fShort [earR 0] [] [] shBad [] = true := by kernel_rfl
set_option maxRecDepth 100000 in
theorem rsh_bad : doneQ { Y := [⟨fValid, [earR 0], bR false⟩] } [] fRShort [earR 0] [] [] shBad [] = true := by kernel_rfl
end Go.Proofs.Z
