/- A part of the proofs that the laws of layer four answer true for every input. -/
import Derived.Test.YtjjmnoiiihcoiaaGreatDoorZLF
namespace Go.Proofs.Z
open Go Go.RowKit Go.Proofs Go.Ri Go.Proofs.Z.Fa
/-! Without, of both packages, and the law FellFolds: runs. -/
abbrev fWithout : Nat := 51
noncomputable def wtE : Tb := { LL := woLL, C := [⟨fCheck, [fellR], lI 0⟩] }
noncomputable def wtP : St := ⟨patW [(1, .slA 1 40 1), (2, .ptr 2 0), (4, .ptr 3 0), (15, .slA 1 40 1), (16, sI 45), (17, sI 2)] 30 0, [some (.lstA 0), some (.lstA 40), some (.cells [sI 0, .slA 0 0 4] tFell false false), some (.cells [.pl (.int .i64 0), nilR] tFell false false)]⟩
def wtS (r : RV) : List SE := [.int 2 r, .int 0 (sI 0), .int 1 (sI 1), .int 45 (sI 45), .lst 0 0, .lst 40 40]
noncomputable def wtB : Code := hB wtE [] fWithout woD
noncomputable def wtK : List Fr := hK wtE [] fWithout woD
set_option maxRecDepth 100000 in
theorem wt_enter : enterT wtE [] fWithout woD (wtS (lI 0)) [0, 1, 2, 3] wtP = true := by kernel_rfl
def wtI (p q : Bool) : List TE := [⟨.bin .geq, sI 32, lI 0, bR p⟩, ⟨.bin .lss, sI 32, lI 0, bR (!p)⟩, ⟨.bin .lss, sI 32, sI 1, bR q⟩, ⟨.bin .geq, sI 32, sI 1, bR (!q)⟩]
noncomputable def wtT (p q : Bool) : Tb := { T := wtI p q ++ woT true, LL := woLL, LX := [⟨40, 2, [sI 32]⟩] }
set_option maxRecDepth 100000 in
theorem wt_again : againT (wtT true true) [] wtB wtK wtP (wtS (sI 7)) [0, 1, 2, 3] wtP = true := by kernel_rfl
noncomputable def wtX : Tb := { T := woT false, LL := woLL, U := qnU [⟨fWout, [fellR, .slN 0 40 1], woR, [some (.lst 41 tGate true)]⟩] }
set_option maxRecDepth 100000 in
theorem wt_out : outQ wtX [] fWithout wtB wtK wtP [.int 0 (sI 0), .lst 41 41] [4] (.tup [woR, lI 0]) [some (.lst 41 tGate true)] = true := by kernel_rfl
/-! of the specification -/
end Go.Proofs.Z

namespace Go.Proofs.Z
open Go Go.RowKit Go.Proofs Go.Ri Go.Proofs.Z.Fa
/-! Without, of both packages: contracts. -/
theorem wtI_ok (V : Val) {n : Nat} {x : Int} (h1 : V.I 1 = n) (h32 : V.I 32 = x) : ∀ e, e ∈ wtI (decide (0 ≤ x)) (decide (x < n)) → @TETrue V e := by
  letI := V
  have e1 : cv (sI 1) = .int .i64 (n : Int) := congrArg (Value.int .i64) h1
  have e32 : cv (sI 32) = .int .i64 x := congrArg (Value.int .i64) h32
  exact fa (f_geq (k := .i64) (m := x) (n := 0) e32 rfl rfl) (fa (f_lss (k := .i64) (m := x) (n := 0) e32 rfl (nd' x 0)) (fa (f_lss (k := .i64) (m := x) (n := (n : Int)) e32 e1 rfl) (fa (f_geq (k := .i64) (m := x) (n := (n : Int)) e32 e1 (ng' x n)) fz)))
theorem wtI_ok2 (V : Val) {n : Nat} {x : Int} {p q : Bool} (h1 : V.I 1 = n) (h32 : V.I 32 = x) (hp : decide (0 ≤ x) = p) (hq : decide (x < n) = q) : ∀ e, e ∈ wtI p q → @TETrue V e := by
  rw [← hp, ← hq]
  exact wtI_ok V h1 h32
section
variable (V : Val) {G : Int} {l : List Value} {n : Nat}
theorem woT_ok (q : List Value) (m k : Nat) (hm : m ≤ 1000000) (hk : k ≤ m) (W : Nat → Value) {b : Bool} (hb : decide (k < m) = b) : ∀ e, e ∈ woT b → @TETrue ((wonm G l q n m k).val W) e := by
  letI : Val := (wonm G l q n m k).val W
  have e1 : decide ((k : Int) < (m : Int)) = b := by rw [← hb]; exact decide_eq_decide.2 (by omega)
  refine fa (f_lss (k := .i64) (m := (k : Int)) (n := (m : Int)) rfl rfl e1) (fa ⟨rfl, .i64, .i64, (k : Int), (m : Int), rfl, rfl, congrArg Value.bool ?_⟩ (fa (f_add1 (m := (k : Int)) rfl rfl rfl (by omega) (by omega)) fz))
  rw [← e1]
  exact decide_eq_decide.2 ⟨fun h => ⟨by omega, h⟩, fun h => h.2⟩
theorem woLL_ok (q : List Value) (m : Nat) (hn : l.length = n * 4) (hqm : q.length = m) (k : Nat) (W : Nat → Value) : ∀ e, e ∈ woLL → @LLTrue ((wonm G l q n m k).val W) e :=
  fa ⟨rfl, n, Nat.succ_pos 3, hn, rfl⟩ (fa ⟨rfl, m, Nat.succ_pos 0, by rw [Nat.mul_one]; exact hqm, rfl⟩ fz)
theorem wo40 (q : List Value) (hq : ints q) (m : Nat) (hqm : q.length = m) {k : Nat} (hk : k < m) (W : Nat → Value) : @LXTrue ((wonm G l q n m k).val W) ⟨40, 2, [sI 32]⟩ := by
  refine ⟨rfl, ?_, ?_⟩
  · show ((k : Int)).toNat * 1 + 1 ≤ q.length
    rw [Int.toNat_natCast]
    omega
  · show (q.drop (((k : Int)).toNat * 1)).take 1 = [.int .i64 (intOf (q.getD k undef))]
    rw [Int.toNat_natCast, row1 k (by omega)]
    obtain ⟨z, hz⟩ := hq (q.getD k undef) (by rw [List.getD_eq_getElem?_getD, List.getElem?_eq_getElem (by omega)]; exact List.getElem_mem _)
    rw [hz]
    rfl
def InR (q : List Value) (n m : Nat) : Prop := ∀ k, k < m → 0 ≤ intOf (q.getD k undef) ∧ intOf (q.getD k undef) < n
theorem wt_args {V' : Val} {w : World} {vs : List Value} {q : List Value} (hG : V.I 0 = G) (hL : V.L 0 = l) (h40 : V.L 40 = q) (e0 : V'.I 0 = G) (e1 : V'.L 0 = l) (e2 : V'.L 40 = q) (hv : All2 (@Go.Ri.NVal V w) woD vs) : All2 (@Go.Ri.NVal V' w) woD vs := by
  cases hv with
  | cons h1 h2 => cases h2 with
    | cons h2 h3 =>
      cases h3
      exact .cons (fell_nval1 (hG.trans e0.symm) (hL.trans e1.symm) h1) (.cons (lst_nval (V := V) (V' := V') (j := 40) (h40.trans e2.symm) h2) .nil)
theorem wtS_ok (q : List Value) (m k k' : Nat) {r : RV} (W W' : Nat → Value) (h : @cv ((wonm G l q n m k).val W) r = .int .i64 (k' : Int)) : ∀ e, e ∈ wtS r → okSE ((wonm G l q n m k).val W) ((wonm G l q n m k').val W') e :=
  fa ⟨.i64, (k' : Int), h, rfl⟩ (fa ⟨.i64, G, rfl, rfl⟩ (fa ⟨.i64, (n : Int), rfl, rfl⟩ (fa ⟨.i64, (m : Int), rfl, rfl⟩ (fa (show l = l from rfl) (fa (show q = q from rfl) fz)))))
theorem wout_good (hG : V.I 0 = G) (hL : V.L 0 = l) (hl : ints l) (hn : l.length = n * 4) (hva : validM G l n = true) (hn1 : 1 ≤ n) (q : List Value) (hq : ints q) (m : Nat) (hqm : q.length = m) (hm : m ≤ 1000000) (h40 : V.L 40 = q) (hin : InR q n m) (h41 : V.L 41 = wiF l q m) :
    @QNTrue V ⟨fWithout, woD, .tup [woR, lI 0], [some (.lst 41 tGate true)]⟩ := by
  intro w hr vs hv
  have hb32 := ((validM_iff _ _ _).1 hva).2.2.1
  have hv := wt_args V (V' := (wonm G l q n m 0).val fun _ => undef) hG hL h40 rfl rfl rfl hv
  have hC : @AnsN ((wonm G l q n m 0).val fun _ => undef) fCheck [fellR] (.int .i64 (errM G l n)) := check_ans _ rfl rfl hl hn
  rw [show errM G l n = 0 by unfold errM; rw [hva]; rfl] at hC
  have ht0 : @TbOK ((wonm G l q n m 0).val fun _ => undef) wtE := by
    letI : Val := (wonm G l q n m 0).val fun _ => undef
    exact { LL := woLL_ok q m hn hqm 0 _, C := fa hC fz }
  refine fn_loop (κ := Unit) (wonm G l q n m 0) (fun _ => undef) wtE [] fWithout woD (fun _ => wtP) (fun j _ cc => ∃ k, k ≤ m ∧ j = m - k ∧ cc = wonm G l q n m k) ht0 (wtS (lI 0)) [0, 1, 2, 3] () m wt_enter (wonm G l q n m 0) (fun W' => holds_all (wtS_ok q m 0 0 _ W' rfl)) ⟨0, Nat.zero_le _, rfl, rfl⟩ (DQ V (.tup [woR, lI 0]) [some (.lst 41 tGate true)]) ?_ w hr vs hv
  rintro w j _ cc ⟨k, hk, rfl, rfl⟩ W
  rcases Nat.lt_or_ge k m with hlt | hge
  · obtain ⟨i0, i1⟩ := hin k hlt
    have tb : @TbOK ((wonm G l q n m k).val W) (wtT true true) := by
      letI : Val := (wonm G l q n m k).val W
      exact { T := fapp (wtI_ok2 _ rfl rfl (decide_eq_true i0) (decide_eq_true i1)) (woT_ok q m k hm hk W (decide_eq_true hlt)), LL := woLL_ok q m hn hqm k W, LX := fa (wo40 q hq m hqm hlt W) fz }
    exact step_to _ [] tb (wtS (sI 7)) _ () (wonm G l q n m (k + 1)) wt_again (fun W' => holds_all (wtS_ok q m k (k + 1) W W' rfl)) ⟨m - (k + 1), by omega, k + 1, hlt, rfl, rfl⟩
  · obtain rfl : k = m := by omega
    have hwo := without_q ((wonm G l q n k k).val W) (G := G) (l := l) (n := n) rfl rfl hl hn hn1 (by omega) q hq k hqm hm rfl hin rfl
    have ht : @TbOK ((wonm G l q n k k).val W) wtX := by
      letI : Val := (wonm G l q n k k).val W
      exact { T := woT_ok q k k hm hk W (decide_eq_false (by omega)), LL := woLL_ok q k hn hqm k W, U := qnU_ok _ (fa hwo fz) }
    exact step_outQ _ [] ht V _ _ _ _ wt_out rfl (holds_all (fa ⟨.i64, G, rfl, hG⟩ (fa h41 fz)))
end
end Go.Proofs.Z
