/- A part of the proofs that the laws of layer four answer true for every input. -/
import Derived.Test.YtjjmnoiiihcoiaaGreatDoorZGS
namespace Go.Proofs.Z
open Go Go.RowKit Go.Proofs Go.Ri Go.Proofs.Z.Fa
/-! one and spread of the specification: runs. -/
abbrev fOne : Nat := 82
abbrev fRSpread : Nat := 81
/-! one: 20 the number of grazings (0), 21 the grazing; lists: 30 as made, 9 with the grazing -/
noncomputable def onTb : Tb := { T := [⟨.inb, sI 21, sI 0, bR true⟩], LL := [⟨0, 4, sI 1⟩, ⟨30, 1, sI 0⟩], LM := [⟨0, bR false, 30⟩], LW := [⟨30, 21, bR true, 9⟩] }
set_option maxRecDepth 100000 in
theorem one_run : doneQ onTb [] fOne [fellR, sI 21] [.lst 30 30, .lst 9 9] [2] (.slN 0 30 1) [some (.lst 9 tBool true)] = true := by kernel_rfl
/-! spread: lists: 1 the set that came in, 2 the gates that serve, 30 as made, 9 now -/
def rsD : List RV := [fellR, .slN 0 1 1, .slN 0 2 1]
def rsLL : List LNE := [⟨0, 4, sI 1⟩, ⟨1, 1, sI 0⟩, ⟨2, 1, sI 1⟩, ⟨30, 1, sI 0⟩]
noncomputable def rsE : Tb := { LL := rsLL, LM := [⟨0, bR false, 30⟩], OC := [1] }
noncomputable def rsH : RH := [some (.lstA 0), some (.lstA 1), some (.lstA 2), some (.cells [sI 0, .slA 0 0 4] tFell false false), some (.lst 9 tBool true)]
noncomputable def rsO (m : Bool) : St := ⟨patW [(2, .slA 2 2 1), (3, .ptr 3 0), (7, .slN 4 30 1), (8, bR m)] 55 0, rsH⟩
noncomputable def rsI (m : Bool) : St := ⟨patW [(2, .slA 2 2 1), (3, .ptr 3 0), (7, .slN 4 30 1), (8, bR m), (9, sI 2)] 55 0, rsH⟩
def rsS0 (u : Nat) : List SE := [.int 0 (sI 0), .int 1 (sI 1), .lst 0 0, .lst 1 1, .lst 2 2, .lst 30 30, .lst 9 u]
def rsS (r : RV) (u : Nat) : List SE := .int 2 r :: rsS0 u
noncomputable def rsB : Code := hB rsE [] fRSpread rsD
noncomputable def rsK : List Fr := hK rsE [] fRSpread rsD
set_option maxRecDepth 100000 in
theorem rs_enter : enterT rsE [] fRSpread rsD (rsS0 1) [0, 1, 2, 3, 4] (rsO true) = true := by kernel_rfl
set_option maxRecDepth 100000 in
theorem rs_out : outQ {} [] fRSpread rsB rsK (rsO false) [.lst 30 30, .lst 9 9] [4] (.slN 0 30 1) [some (.lst 9 tBool true)] = true := by kernel_rfl
noncomputable def rsG : Option Stop := bodT { LL := rsLL } [] rsB (rsO true)
set_option maxRecDepth 100000 in
theorem rs_in : enterH rsG (rsS (lI 0) 9) [0, 1, 2, 3, 4] (rsI false) = true := by kernel_rfl
noncomputable def rsIB : Code := hbB rsG
noncomputable def rsIK : List Fr := hbK rsG
/-- A round: e: the gate serves; p, q: its ends are in the set. -/
noncomputable def rsT (e p q : Bool) : Tb := { T := hT true ++ [⟨.truth, sB 0, sB 0, bR e⟩, ⟨.inb, sI 3, sI 0, bR true⟩, ⟨.inb, sI 4, sI 0, bR true⟩], LL := rsLL, LX := [⟨0, 2, [sI 3, sI 4, sI 5, sI 6]⟩, ⟨2, 2, [bR e]⟩, ⟨9, 3, [bR p]⟩, ⟨9, 4, [bR q]⟩], LW := [⟨9, 3, bR true, 31⟩, ⟨31, 4, bR true, 32⟩] }
set_option maxRecDepth 100000 in
theorem rs_again : (all2 fun m => all2 fun e => all2 fun p => all2 fun q => (e && (p != q)) || againT { rsT e p q with LW := [] } [] rsIB rsIK (rsI m) (rsS (sI 7) 9) [0, 1, 2, 3, 4] (rsI m)) = true := by kernel_rfl
set_option maxRecDepth 100000 in
theorem rs_again2 : (all2 fun m => all2 fun p => againT (rsT true p (!p)) [] rsIB rsIK (rsI m) (rsS (sI 7) 32) [0, 1, 2, 3, 4] (rsI true)) = true := by kernel_rfl
set_option maxRecDepth 100000 in
theorem rs_back : (all2 fun m => backT { T := hT false, LL := rsLL } [] rsIB rsIK (rsI m) (rsS0 9) [0, 1, 2, 3, 4] (rsO m)) = true := by kernel_rfl
end Go.Proofs.Z

namespace Go.Proofs.Z
open Go Go.RowKit Go.Proofs Go.Ri Go.Proofs.Z.Fa
/-! one and spread of the specification: contracts. -/
theorem bls_set (b : Nat → Bool) (n i : Nat) (h : i < n) : (bls b n).set i (.bool true) = bls (fun x => b x || decide (x = i)) n := by
  apply List.ext_getElem?
  intro m
  rw [List.getElem?_set, bls_len]
  by_cases hm : m < n
  · rw [bls_get _ n m hm, bls_get _ n m hm]
    by_cases he : i = m
    · subst he
      rw [if_pos rfl, if_pos h]
      simp
    · rw [if_neg he]
      have : ¬ m = i := fun e => he e.symm
      simp [this]
  · rw [List.getElem?_eq_none (by rw [bls_len]; omega), List.getElem?_eq_none (by rw [bls_len]; omega)]
    split
    · omega
    · rfl
theorem bls_rep (n : Nat) : bls (fun _ => false) n = List.replicate n (.bool false) := by
  apply List.ext_getElem?
  intro m
  by_cases hm : m < n
  · rw [bls_get _ n m hm, List.getElem?_replicate, if_pos hm]
  · rw [List.getElem?_eq_none (by rw [bls_len]; omega), List.getElem?_eq_none (by simp; omega)]
theorem bls_one (b : Nat → Bool) (n : Nat) : ∀ v, v ∈ bls b n → v.oneCell' = true := gl_mem (Q := fun v => v.oneCell' = true) (fun _ => fa rfl fz) n
theorem bls_congr {b c : Nat → Bool} {n : Nat} (h : ∀ i, i < n → b i = c i) : bls b n = bls c n := by
  apply List.ext_getElem?
  intro m
  by_cases hm : m < n
  · rw [bls_get _ n m hm, bls_get _ n m hm, h m hm]
  · rw [List.getElem?_eq_none (by rw [bls_len]; omega), List.getElem?_eq_none (by rw [bls_len]; omega)]
theorem bls_lx {V : Val} {b : Nat → Bool} {n : Nat} {i j : Nat} (hL : V.L i = bls b n) (_ : 0 ≤ V.I j) (h1 : (V.I j).toNat < n) : @LXTrue V ⟨i, j, [bR (b (V.I j).toNat)]⟩ := by
  refine ⟨rfl, ?_, ?_⟩
  · show (V.I j).toNat * 1 + 1 ≤ (V.L i).length
    rw [hL, bls_len]
    omega
  · show ((V.L i).drop ((V.I j).toNat * 1)).take 1 = [.bool (b (V.I j).toNat)]
    rw [hL, row1 _ (by rw [bls_len]; exact h1), List.getD_eq_getElem?_getD, bls_get b n _ h1]
    rfl
/-- The answer, by another name. -/
theorem dq_ren13 {V1 V : Val} {w : World} {x : Ending} {w' : World} (hl : (V1.L 30).length = (V1.L 9).length) (hL : V.L 13 = V1.L 9) (h : DQ V1 (.slN 0 30 1) [some (.lst 9 tBool true)] w x w') : DQ V (.slN 0 13 1) [some (.lst 13 tBool true)] w x w' := by
  obtain ⟨u, E', he, hu, H⟩ := h
  have hu2 : @VRel V1 E' (.slN 0 9 1) u := by
    obtain ⟨p, n, g1, g2, g3, g4, g5⟩ := hu
    exact ⟨p, n, g1, g2, hl ▸ g3, g4, g5⟩
  have q := mtQ_ok (V := V1) (V' := V) (S := [.lst 13 9]) (R := [0]) (r := .slN 0 9 1) (r0 := .slN 0 13 1) (h' := [some (.lst 9 tBool true)]) (h0 := [some (.lst 13 tBool true)]) (by kernel_rfl) rfl (holds_all (fa hL fz)) hu2 H
  exact ⟨u, _, he, q.1, q.2⟩
theorem dq_ren14 {V1 V : Val} {w : World} {x : Ending} {w' : World} (hl : (V1.L 30).length = (V1.L 9).length) (hL : V.L 14 = V1.L 9) (h : DQ V1 (.slN 0 30 1) [some (.lst 9 tBool true)] w x w') : DQ V (.slN 0 14 1) [some (.lst 14 tBool true)] w x w' := by
  obtain ⟨u, E', he, hu, H⟩ := h
  have hu2 : @VRel V1 E' (.slN 0 9 1) u := by
    obtain ⟨p, n, g1, g2, g3, g4, g5⟩ := hu
    exact ⟨p, n, g1, g2, hl ▸ g3, g4, g5⟩
  have q := mtQ_ok (V := V1) (V' := V) (S := [.lst 14 9]) (R := [0]) (r := .slN 0 9 1) (r0 := .slN 0 14 1) (h' := [some (.lst 9 tBool true)]) (h0 := [some (.lst 14 tBool true)]) (by kernel_rfl) rfl (holds_all (fa hL fz)) hu2 H
  exact ⟨u, _, he, q.1, q.2⟩
section
variable (V : Val) {G : Int} {l : List Value} {n : Nat} {x y : RV}
def onnm (G : Int) (l : List Value) (n : Nat) (a : Nat) : Nm := ⟨fun i => if i = 0 then G else if i = 1 then (n : Int) else (a : Int), ny, fun _ => ⟨#[]⟩, fun i => if i = 0 then l else if i = 30 then bls (fun _ => false) G.toNat else bls (fun x => decide (x = a)) G.toNat⟩
theorem one_q (hG : V.I 0 = G) (hL : V.L 0 = l) (hn : l.length = n * 4) (hva : validM G l n = true) {a : Nat} (ha : (a : Int) < G) (fx : flat x = true) (hx : @cvF V x = .int .i64 a) (h13 : V.L 13 = bls (fun x => decide (x = a)) G.toNat) :
    @QNTrue V ⟨fOne, [fellR, x], .slN 0 13 1, [some (.lst 13 tBool true)]⟩ := by
  intro w hr vs hv
  have hg := (validM_iff _ _ _).1 hva
  let V1 : Val := (onnm G l n a).val fun _ => undef
  have hv : All2 (@Go.Ri.NVal V1 w) [fellR, sI 21] vs := by
    cases hv with
    | cons h1 h2 => cases h2 with
      | cons h2 h3 =>
        cases h3
        exact .cons (fell_nval1 hG hL h1) (.cons (nval_re fx rfl hx rfl h2) .nil)
  have ht : @TbOK V1 onTb := by
    letI := V1
    refine { T := fa ⟨rfl, .i64, .i64, (a : Int), G, rfl, rfl, congrArg Value.bool (decide_eq_true ⟨by omega, ha⟩).symm⟩ fz, LL := fa ⟨rfl, n, Nat.succ_pos 3, hn, rfl⟩ (fa ⟨rfl, G.toNat, Nat.succ_pos 0, ?_, ?_⟩ fz), LM := fa ⟨G.toNat, by omega, ?_, bls_rep _⟩ fz, LW := fa ⟨?_, ?_, ?_⟩ fz }
    · show (bls (fun _ => false) G.toNat).length = G.toNat * 1
      rw [bls_len, Nat.mul_one]
    · show Value.int .i64 G = .int .i64 ((G.toNat : Nat) : Int)
      rw [show ((G.toNat : Nat) : Int) = G by omega]
    · show G = ((G.toNat : Nat) : Int)
      omega
    · show (0 : Int) ≤ (a : Int)
      omega
    · show ((a : Int)).toNat < (bls (fun _ => false) G.toNat).length
      rw [bls_len, Int.toNat_natCast]
      omega
    · show bls (fun x => decide (x = a)) G.toNat = (bls (fun _ => false) G.toNat).set ((a : Int)).toNat (.bool true)
      rw [Int.toNat_natCast, bls_set _ _ _ (by omega)]
      exact bls_congr fun i _ => by simp
  refine (done_calls V1 V1 ht one_run rfl (holds_all (fa (show V1.L 30 = V1.L 30 from Eq.refl _) (fa (show V1.L 9 = V1.L 9 from Eq.refl _) fz))) w hr vs hv).mono fun e w' h => ?_
  refine dq_ren13 (V1 := V1) ?_ ?_ h
  · show (bls (fun _ => false) G.toNat).length = (bls (fun x => decide (x = a)) G.toNat).length
    rw [bls_len, bls_len]
  · rw [h13]
    rfl
/-! spread -/
def rsnm (G : Int) (l : List Value) (n : Nat) (s e b : Nat → Bool) (k : Nat) : Nm :=
  ⟨fun i => if i = 0 then G else if i = 1 then (n : Int) else if i = 2 then (k : Int) else if i = 3 then gtA l k else if i = 4 then gtB l k else if i = 5 then gtF l k else if i = 6 then gtT l k else (k : Int) + 1, fun _ => e k, fun _ => ⟨#[]⟩,
   fun i => if i = 0 then l else if i = 1 then bls s G.toNat else if i = 2 then bls e n else if i = 30 then bls (fun _ => false) G.toNat else if i = 9 then bls b G.toNat else if i = 31 then bls (fun x => b x || decide (x = gA' l k)) G.toNat else bls (fun x => (b x || decide (x = gA' l k)) || decide (x = gB' l k)) G.toNat⟩
theorem rs_ll (hn : l.length = n * 4) (hG0 : 0 ≤ G) (s e b : Nat → Bool) (k : Nat) (W : Nat → Value) : ∀ q, q ∈ rsLL → @LLTrue ((rsnm G l n s e b k).val W) q := by
  have hg : Value.int .i64 G = .int .i64 ((G.toNat : Nat) : Int) := by rw [show ((G.toNat : Nat) : Int) = G by omega]
  refine fa ⟨rfl, n, Nat.succ_pos 3, hn, rfl⟩ (fa ⟨rfl, G.toNat, Nat.succ_pos 0, ?_, hg⟩ (fa ⟨rfl, n, Nat.succ_pos 0, ?_, rfl⟩ (fa ⟨rfl, G.toNat, Nat.succ_pos 0, ?_, hg⟩ fz)))
  · show (bls s G.toNat).length = G.toNat * 1
    rw [bls_len, Nat.mul_one]
  · show (bls e n).length = n * 1
    rw [bls_len, Nat.mul_one]
  · show (bls (fun _ => false) G.toNat).length = G.toNat * 1
    rw [bls_len, Nat.mul_one]
theorem rs_ids (s e b b' : Nat → Bool) (k k' : Nat) (u : Nat) (hu : ∀ W, ((rsnm G l n s e b' k').val W).L 9 = ((rsnm G l n s e b k).val W).L u) (W W' : Nat → Value) : ∀ q, q ∈ rsS0 u → okSE ((rsnm G l n s e b k).val W) ((rsnm G l n s e b' k').val W') q :=
  fa ⟨.i64, G, rfl, rfl⟩ (fa ⟨.i64, (n : Int), rfl, rfl⟩ (fa (show l = l from rfl) (fa (show bls s G.toNat = bls s G.toNat from rfl) (fa (show bls e n = bls e n from rfl) (fa (show bls (fun _ => false) G.toNat = bls (fun _ => false) G.toNat from rfl) (fa (hu W) fz))))))
end
end Go.Proofs.Z
