/- A part of the proofs that the laws of layer four answer true for every input. -/
import Derived.Test.YtjjmnoiiihcoiaaGreatDoorZKA
import Derived.Test.YtjjmnoiiihcoiaaGreatDoorZGY
import Derived.Test.YtjjmnoiiihcoiaaGreatDoorZGH
import Derived.Lib.TrailingZeros
namespace Go.Proofs.Z
open Go Go.RowKit Go.Proofs Go.Ri Go.Proofs.Z.Fa
/-! Ever, Folds, of both packages: runs. -/
abbrev fAll : Nat := 96
abbrev fRUse : Nat := 95
abbrev fRUsable : Nat := 99
/-! all: 12 as many as there are gates, none set -/
set_option maxRecDepth 100000 in
theorem al_run : doneQ { LL := hLL, LM := [⟨1, bR false, 12⟩] } [] fAll [fellR] [.lst 12 12] [2] (.slN 0 12 1) [some (.lst 12 tBool true)] = true := by kernel_rfl
/-! Usable -/
set_option maxRecDepth 100000 in
theorem rus_run : (all2 fun q => runOK noX [⟨.ieq, sI 5, sI 6, bR (!q)⟩] [] 1000 20 fRUsable [.agg [sI 3, sI 4, sI 5, sI 6]] (bR q)) = true := by kernel_rfl
/-! usable: 9 so far, 10 then, 12 those that are off -/
noncomputable def ruD : List RV := [fellR, .slN 0 12 1]
noncomputable def ruLL : List LNE := [⟨0, 4, sI 1⟩, ⟨12, 1, sI 1⟩]
noncomputable def ruE : Tb := { LL := ruLL }
noncomputable def ruP (ne : Bool) : St := ⟨patW [(1, .slA 1 12 1), (2, .ptr 2 0), (5, if ne then .slN 3 9 1 else nilR), (6, sI 2)] 31 0, [some (.lstA 0), some (.lstA 12), some (.cells [sI 0, .slA 0 0 4] tFell false false)] ++ if ne then [some (.lst 9 tBool true)] else []⟩
def ruS (r : RV) : List SE := [.int 2 r, .int 0 (sI 0), .int 1 (sI 1), .lst 0 0, .lst 12 12]
noncomputable def ruB : Code := hB ruE [] fRUse ruD
noncomputable def ruK : List Fr := hK ruE [] fRUse ruD
set_option maxRecDepth 100000 in
theorem ru_enter : enterT ruE [] fRUse ruD (ruS (lI 0)) [0, 1, 2] (ruP false) = true := by kernel_rfl
noncomputable def ruT (u o : Bool) : Tb := { T := hT true, LL := ruLL, LX := hLX true ++ [⟨12, 2, [bR o]⟩], Y := [⟨fRUsable, [gateQ], bR u⟩], LA := [⟨9, [bR (u && !o)], 10⟩] }
set_option maxRecDepth 100000 in
theorem ru_again : (all2 fun u => all2 fun o => all2 fun ne => againT (ruT u o) [] ruB ruK (ruP ne) (ruS (sI 7) ++ if ne then [.lst 9 10] else [.new 9 [bR (u && !o)]]) [0, 1, 2, if ne then 5 else 4] (ruP true)) = true := by kernel_rfl
set_option maxRecDepth 100000 in
theorem ru_out : (all2 fun ne => outQ { T := hT false, LL := ruLL } [] fRUse ruB ruK (ruP ne) (if ne then [.lst 9 9] else []) (if ne then [3] else []) (if ne then .slN 0 9 1 else nilR) (if ne then [some (.lst 9 tBool true)] else [])) = true := by kernel_rfl
/-! Ever -/
/-! Folds -/
end Go.Proofs.Z

namespace Go.Proofs.Z
open Go Go.RowKit Go.Proofs Go.Ri Go.Proofs.Z.Fa
/-! Ever, Folds, of both packages: contracts. -/
theorem rusable_ans (a b fr to : Int) : Ans fRUsable [gateV a b fr to] (.bool (!(fr == to))) := by
  letI V : Val := VE (fun i => if i = 3 then a else if i = 4 then b else if i = 5 then fr else to) (fun _ => false)
  have := @ans V noX _ _ noX_true (fa (f_ieq (k := .i64) (m := fr) (n := to) (q := !(!(fr == to))) rfl rfl (by simp)) fz) fz _ _ _ _ _ (all2_all rus_run (!(fr == to)))
  exact this
section
variable (V : Val) {G : Int} {l : List Value} {n : Nat} {a : Int}
def alnm (G : Int) (l : List Value) (n : Nat) (A : List Value) : Nm := ⟨fun i => if i = 0 then G else (n : Int), ny, fun _ => ⟨#[]⟩, fun i => if i = 0 then l else A⟩
theorem all_q (hG : V.I 0 = G) (hL : V.L 0 = l) (hn : l.length = n * 4) (hb : n ≤ 60000) (h12 : V.L 12 = bls (fun _ => false) n) : @QNTrue V ⟨fAll, [fellR], .slN 0 12 1, [some (.lst 12 tBool true)]⟩ := by
  intro w hr vs hv
  obtain ⟨A, hA⟩ : ∃ A, A = bls (fun _ => false) n := ⟨_, rfl⟩
  rw [← hA] at h12
  let V1 : Val := (alnm G l n A).val fun _ => undef
  have hv : All2 (@Go.Ri.NVal V1 w) [fellR] vs := by
    cases hv with
    | cons h1 h2 => cases h2; exact .cons (fell_nval1 hG hL h1) .nil
  have ht : @TbOK V1 { LL := hLL, LM := [⟨1, bR false, 12⟩] } := by
    letI : Val := V1
    refine { LL := fa ⟨rfl, n, Nat.succ_pos 3, hn, rfl⟩ fz, LM := fa ⟨n, by omega, rfl, ?_⟩ fz }
    show A = _
    rw [hA]
    exact bls_rep n
  exact done_calls V1 V ht al_run rfl (holds_all (fa h12 fz)) w hr vs hv
/-! usable -/
noncomputable def usB (l : List Value) (b : Nat → Bool) (k : Nat) : Bool := usP l k && !b k
noncomputable def runm (G : Int) (l : List Value) (n : Nat) (b : Nat → Bool) (k : Nat) : Nm := gnm G l n k nx ny (fun i => if i = 9 then bls (usB l b) k else if i = 10 then bls (usB l b) (k + 1) else bls b n)
theorem ruse_q (hG : V.I 0 = G) (hL : V.L 0 = l) (hl : ints l) (hn : l.length = n * 4) (hb : n ≤ 60000) (b : Nat → Bool) {i12 : Nat} (h12 : V.L i12 = bls b n) (h11 : V.L 11 = bls (usB l b) n) :
    @QNTrue V ⟨fRUse, [fellR, .slN 0 i12 1], if decide (0 < n) then .slN 0 11 1 else nilR, if decide (0 < n) then [some (.lst 11 tBool true)] else []⟩ := by
  intro w hr vs hv
  have hv : All2 (@Go.Ri.NVal ((runm G l n b 0).val fun _ => undef) w) ruD vs := by
    cases hv with
    | cons h1 h2 => cases h2 with
      | cons h2 h3 =>
        cases h3
        exact .cons (fell_nval1 hG hL h1) (.cons (lst_nval (V := V) (V' := (runm G l n b 0).val fun _ => undef) (j := 12) h12 h2) .nil)
  have hLL : ∀ k W, ∀ q, q ∈ ruLL → @LLTrue ((runm G l n b k).val W) q := fun k W => fa ⟨rfl, n, Nat.succ_pos 3, hn, rfl⟩ (fa ⟨rfl, n, Nat.succ_pos 0, by rw [Nat.mul_one]; exact bls_len b n, rfl⟩ fz)
  have ht0 : @TbOK ((runm G l n b 0).val fun _ => undef) ruE := by
    letI : Val := (runm G l n b 0).val fun _ => undef
    exact { LL := hLL 0 _ }
  have hS : ∀ (k k' : Nat) {r : RV} (W W' : Nat → Value), @cv ((runm G l n b k).val W) r = .int .i64 (k' : Int) → ∀ q, q ∈ ruS r → okSE ((runm G l n b k).val W) ((runm G l n b k').val W') q := fun k k' r W W' h => fa ⟨.i64, (k' : Int), h, rfl⟩ (fa ⟨.i64, G, rfl, rfl⟩ (fa ⟨.i64, (n : Int), rfl, rfl⟩ (fa (show l = l from rfl) (fa (show bls b n = bls b n from rfl) fz))))
  have main := fn_loop (κ := Bool) (runm G l n b 0) (fun _ => undef) ruE [] fRUse ruD ruP (fun m ne cc => ∃ k, k ≤ n ∧ m = n - k ∧ cc = runm G l n b k ∧ ne = decide (0 < k)) ht0 (ruS (lI 0)) [0, 1, 2] false n ru_enter (runm G l n b 0) (fun W' => holds_all (hS 0 0 _ W' rfl)) ⟨0, Nat.zero_le _, rfl, rfl, rfl⟩ (DQ ((runm G l n b n).val fun _ => undef) (if decide (0 < n) then .slN 0 9 1 else nilR) (if decide (0 < n) then [some (.lst 9 tBool true)] else [])) ?_ w hr vs hv
  · refine main.mono fun x w' h => ?_
    by_cases h0 : 0 < n
    · rw [decide_eq_true h0, if_pos rfl, if_pos rfl] at h
      rw [decide_eq_true h0, if_pos rfl, if_pos rfl]
      obtain ⟨u, E', he, hu, H⟩ := h
      have q := mtQ_ok (V := (runm G l n b n).val fun _ => undef) (V' := V) (S := [.lst 11 9]) (R := [0]) (r := .slN 0 9 1) (r0 := .slN 0 11 1) (h' := [some (.lst 9 tBool true)]) (h0 := [some (.lst 11 tBool true)]) (by kernel_rfl) rfl (holds_all (fa h11 fz)) hu H
      exact ⟨u, _, he, q.1, q.2⟩
    · rw [decide_eq_false h0, if_neg (by decide), if_neg (by decide)] at h
      rw [decide_eq_false h0, if_neg (by decide), if_neg (by decide)]
      obtain ⟨u, E', he, hu, H⟩ := h
      have q := mtQ_ok (V := (runm G l n b n).val fun _ => undef) (V' := V) (S := []) (R := []) (r := nilR) (r0 := nilR) (h' := []) (h0 := []) (by kernel_rfl) rfl (holds_all fz) hu H
      exact ⟨u, _, he, q.1, q.2⟩
  · rintro w m ne cc ⟨k, hk, rfl, rfl, rfl⟩ W
    rcases Nat.lt_or_ge k n with hlt | hge
    · have tb : @TbOK ((runm G l n b k).val W) (ruT (usP l k) (b k)) := by
        letI : Val := (runm G l n b k).val W
        have lx := bls_lx (V := (runm G l n b k).val W) (b := b) (n := n) (i := 12) (j := 2) rfl (show (0 : Int) ≤ (k : Int) by omega) (by show ((k : Int)).toNat < n; rw [Int.toNat_natCast]; exact hlt)
        rw [show (((runm G l n b k).val W).I 2).toNat = k from Int.toNat_natCast k] at lx
        refine { T := hT_ok _ _ _ (by omega) W (by simp [hlt]), LL := hLL k W, LX := fapp (hLX_ok _ _ _ hl hn hlt W) (fa lx fz), Y := fa (rusable_ans (gtA l k) (gtB l k) (gtF l k) (gtT l k)) fz, LA := fa ?_ fz }
        exact gl_la (p := fun _ => true) (cells := fun k => [.bool (usB l b k)]) (s := 1) (fun _ => rfl) (fun _ => fa rfl fz) rfl rfl rfl rfl (by omega)
      have hag := all2_all (all2_all (all2_all ru_again (usP l k)) (b k)) (decide (0 < k))
      refine step_to _ [] tb _ _ true (runm G l n b (k + 1)) hag (fun W' => holds_all (fapp (hS k (k + 1) W W' rfl) ?_)) ⟨n - (k + 1), by omega, k + 1, hlt, rfl, rfl, by simp⟩
      by_cases h0 : 0 < k
      · rw [decide_eq_true h0, if_pos rfl]
        exact fa rfl fz
      · have : k = 0 := by omega
        subst this
        exact fa rfl fz
    · obtain rfl : k = n := by omega
      have ht : @TbOK ((runm G l k b k).val W) { T := hT false, LL := ruLL } := by
        letI : Val := (runm G l k b k).val W
        exact { T := hT_ok _ _ _ (by omega) W (by simp), LL := hLL k W }
      have ho := all2_all ru_out (decide (0 < k))
      refine step_outQ _ [] ht ((runm G l k b k).val fun _ => undef) _ _ _ _ ho (by split <;> rfl) (holds_all ?_)
      split
      · exact fa rfl fz
      · exact fz
end
end Go.Proofs.Z

namespace Go.Proofs.Z
open Go Go.RowKit Go.Proofs Go.Ri Go.Proofs.Z.Fa
/-! without, same: runs. 40 the indices, 45 how many, 2 the place, 7 the next one, 32 the index, 33 to 36 the gate; lists: 0 as it came, 41 so far, 42 then. -/
abbrev fWout : Nat := 98
abbrev fClone : Nat := 118
set_option maxRecDepth 100000 in
theorem cl_run : doneQ { LB := [⟨none, 0, 41⟩] } [] fClone [.slN 0 0 4] [.lst 0 41] [2] (.slN 0 0 4) [some (.lst 0 tGate true)] = true := by kernel_rfl
def woD : List RV := [fellR, .slN 0 40 1]
noncomputable def woLL : List LNE := [⟨0, 4, sI 1⟩, ⟨40, 1, sI 45⟩]
noncomputable def woE : Tb := { LL := woLL, U := qnU [⟨fClone, [.slN 0 0 4], .slN 0 0 4, [some (.lst 0 tGate true)]⟩] }
noncomputable def woP : St := ⟨patW [(2, .ptr 2 0), (4, .ptr 3 0), (11, .slA 1 40 1), (12, sI 45), (13, sI 2)] 30 0, [some (.lstA 0), some (.lstA 40), some (.cells [sI 0, .slN 4 0 4] tFell false false), some (.cells [.pl (.int .i64 0), nilR] tFell false false), some (.lst 41 tGate true)]⟩
def woS (r : RV) (j : Nat) : List SE := [.int 2 r, .int 0 (sI 0), .int 1 (sI 1), .int 45 (sI 45), .lst 0 0, .lst 40 40, .lst 41 j]
noncomputable def woB : Code := hB woE [] fWout woD
noncomputable def woK : List Fr := hK woE [] fWout woD
set_option maxRecDepth 100000 in
theorem wo_enter : enterT woE [] fWout woD (woS (lI 0) 0) [0, 1, 2, 3, 4] woP = true := by kernel_rfl
def woT (b : Bool) : List TE := [⟨.bin .lss, sI 2, sI 45, bR b⟩, ⟨.inb, sI 2, sI 45, bR b⟩, ⟨.bin .add, sI 2, lI 1, sI 7⟩]
noncomputable def woTb : Tb := { T := ⟨.inb, sI 32, sI 1, bR true⟩ :: woT true, LL := woLL, LX := [⟨40, 2, [sI 32]⟩, ⟨41, 32, [sI 33, sI 34, sI 35, sI 36]⟩], LF := [⟨41, 32, 4, 3, sI 35, 42⟩] }
set_option maxRecDepth 100000 in
theorem wo_again : againT woTb [] woB woK woP (woS (sI 7) 42) [0, 1, 2, 3, 4] woP = true := by kernel_rfl
def woR : RV := .agg [sI 0, .slN 0 41 4]
set_option maxRecDepth 100000 in
theorem wo_out : outQ { T := woT false, LL := woLL } [] fWout woB woK woP [.int 0 (sI 0), .lst 0 0, .lst 41 41] [4] (.agg [sI 0, .slN 0 0 4]) [some (.lst 41 tGate true)] = true := by kernel_rfl
/-! same, of two fells that hold one list -/
end Go.Proofs.Z

namespace Go.Proofs.Z
open Go Go.RowKit Go.Proofs Go.Ri Go.Proofs.Z.Fa
/-! Gates that are never open: the lists; contracts of without and same. -/
theorem int_one {v : Value} (h : ∃ n, v = .int .i64 n) : v.oneCell' = true := by
  obtain ⟨n, rfl⟩ := h
  rfl
/-- The list in which a gate is never open. -/
def wiS (l : List Value) (i : Nat) : List Value := l.set (i * 4 + 3) (.int .i64 (gtF l i))
def wiX (q : List Value) (k : Nat) : Nat := (intOf (q.getD k undef)).toNat
def wiF (l q : List Value) : Nat → List Value
  | 0 => l
  | k + 1 => wiS (wiF l q k) (wiX q k)
theorem wiS_len (l : List Value) (i : Nat) : (wiS l i).length = l.length := by unfold wiS; exact List.length_set
theorem wiS_ints {l : List Value} (h : ints l) (i : Nat) : ints (wiS l i) := fun v hv => by
  unfold wiS at hv
  rcases List.mem_or_eq_of_mem_set hv with h1 | rfl
  · exact h v h1
  · exact ⟨_, rfl⟩
theorem wiF_len (l q : List Value) : ∀ k, (wiF l q k).length = l.length
  | 0 => rfl
  | k + 1 => by
    show (wiS (wiF l q k) (wiX q k)).length = _
    rw [wiS_len, wiF_len l q k]
theorem wiF_ints {l q : List Value} (h : ints l) : ∀ k, ints (wiF l q k)
  | 0 => h
  | k + 1 => wiS_ints (wiF_ints h k) _
theorem fell_nvalG {V V' : Val} {w : World} {v : Value} {i j : Nat} (h0 : V.I 0 = V'.I 0) (hi : V.L i = V'.L j) (h : @Go.Ri.NVal V w (.agg [sI 0, .slN 0 i 4]) v) : @Go.Ri.NVal V' w (.agg [sI 0, .slN 0 j 4]) v := by
  obtain ⟨us, e, h3⟩ := h
  refine ⟨us, e, ?_⟩
  generalize us.toList = ul at h3
  cases h3 with
  | cons g1 g2 => cases g2 with
    | cons g2 g3 =>
      cases g3
      have g1 : _ = Value.int .i64 (V.I 0) := g1
      obtain ⟨a, m, cap, k1, k2, k3, k4, k5, k6⟩ := g2
      rw [hi] at k2 k4 k6
      refine .cons ?_ (.cons ⟨a, m, cap, k1, k2, k3, k4, k5, k6⟩ .nil)
      rw [g1, h0]
      rfl
section
variable (V : Val) {G : Int} {l : List Value} {n : Nat}
def clnm (l : List Value) : Nm := ⟨nx, ny, fun _ => ⟨#[]⟩, fun _ => l⟩
theorem clone_q (hL : V.L 0 = l) (hl : ints l) (hne : l ≠ []) (hb : l.length ≤ 1000000) : @QNTrue V ⟨fClone, [.slN 0 0 4], .slN 0 0 4, [some (.lst 0 tGate true)]⟩ := by
  intro w hr vs hv
  let V1 : Val := (clnm l).val fun _ => undef
  have hv : All2 (@Go.Ri.NVal V1 w) [.slN 0 0 4] vs := by
    cases hv with
    | cons h1 h2 => cases h2; exact .cons (lst_nval (V := V) (V' := V1) (j := 0) hL h1) .nil
  have ht : @TbOK V1 { LB := [⟨none, 0, 41⟩] } := by
    letI : Val := V1
    exact { LB := fa ⟨hne, rfl, hb, fun v hv => int_one (hl v hv)⟩ fz }
  exact done_calls V1 V ht cl_run rfl (holds_all (fa hL fz)) w hr vs hv
theorem dq_wo {V1 V : Val} {w : World} {x : Ending} {w' : World} (hl : (V1.L 0).length = (V1.L 41).length) (h0 : V.I 0 = V1.I 0) (h41 : V.L 41 = V1.L 41) (h : DQ V1 (.agg [sI 0, .slN 0 0 4]) [some (.lst 41 tGate true)] w x w') : DQ V woR [some (.lst 41 tGate true)] w x w' := by
  obtain ⟨u, E', he, hu, H⟩ := h
  have hu2 : @VRel V1 E' woR u := by
    obtain ⟨l', rfl, hr⟩ := hu
    have hr := (@VRels_iff V1 _ _ _).1 hr
    refine ⟨l', rfl, (@VRels_iff V1 _ _ _).2 ?_⟩
    generalize l'.toList = ls at hr
    cases hr with
    | cons a b => cases b with
      | cons b c =>
        cases c
        obtain ⟨p, n, g1, g2, g3, g4, g5⟩ := b
        exact .cons a (.cons ⟨p, n, g1, g2, hl ▸ g3, g4, g5⟩ .nil)
  have q := mtQ_ok (V := V1) (V' := V) (S := [.int 0 (sI 0), .lst 41 41]) (R := [0]) (r := woR) (r0 := woR) (h' := [some (.lst 41 tGate true)]) (h0 := [some (.lst 41 tGate true)]) (by kernel_rfl) rfl (holds_all (fa ⟨.i64, V1.I 0, rfl, h0⟩ (fa h41 fz))) hu2 H
  exact ⟨u, _, he, q.1, q.2⟩
noncomputable def wonm (G : Int) (l q : List Value) (n m : Nat) (k : Nat) : Nm :=
  ⟨fun i => if i = 0 then G else if i = 1 then (n : Int) else if i = 2 then (k : Int) else if i = 7 then (k : Int) + 1 else if i = 45 then (m : Int) else if i = 32 then intOf (q.getD k undef) else if i = 33 then gtA (wiF l q k) (wiX q k) else if i = 34 then gtB (wiF l q k) (wiX q k) else if i = 35 then gtF (wiF l q k) (wiX q k) else gtT (wiF l q k) (wiX q k), ny, fun _ => ⟨#[]⟩,
   fun i => if i = 0 then l else if i = 40 then q else if i = 41 then wiF l q k else wiF l q (k + 1)⟩
set_option maxHeartbeats 1000000 in
theorem without_q (hG : V.I 0 = G) (hL : V.L 0 = l) (hl : ints l) (hn : l.length = n * 4) (hn1 : 1 ≤ n) (hb : n ≤ 60000) (q : List Value) (hq : ints q) (m : Nat) (hqm : q.length = m) (hm : m ≤ 1000000) (h40 : V.L 40 = q) (hin : ∀ k, k < m → 0 ≤ intOf (q.getD k undef) ∧ intOf (q.getD k undef) < n) (h41 : V.L 41 = wiF l q m) :
    @QNTrue V ⟨fWout, [fellR, .slN 0 40 1], woR, [some (.lst 41 tGate true)]⟩ := by
  intro w hr vs hv
  have hv : All2 (@Go.Ri.NVal ((wonm G l q n m 0).val fun _ => undef) w) woD vs := by
    cases hv with
    | cons h1 h2 => cases h2 with
      | cons h2 h3 =>
        cases h3
        exact .cons (fell_nval1 hG hL h1) (.cons (lst_nval (V := V) (V' := (wonm G l q n m 0).val fun _ => undef) (j := 40) h40 h2) .nil)
  have hLL : ∀ k W, ∀ e, e ∈ woLL → @LLTrue ((wonm G l q n m k).val W) e := fun k W => fa ⟨rfl, n, Nat.succ_pos 3, hn, rfl⟩ (fa ⟨rfl, m, Nat.succ_pos 0, by rw [Nat.mul_one]; exact hqm, rfl⟩ fz)
  have ht0 : @TbOK ((wonm G l q n m 0).val fun _ => undef) woE := by
    letI : Val := (wonm G l q n m 0).val fun _ => undef
    have hcl := clone_q ((wonm G l q n m 0).val fun _ => undef) (l := l) rfl hl (fun h => by rw [h] at hn; simp at hn; omega) (by omega)
    exact { LL := hLL 0 _, U := qnU_ok _ (fa hcl fz) }
  have hS : ∀ (k k' : Nat) {r : RV} {j : Nat} (W W' : Nat → Value), @cv ((wonm G l q n m k).val W) r = .int .i64 (k' : Int) → wiF l q k' = ((wonm G l q n m k).val W).L j → ∀ e, e ∈ woS r j → okSE ((wonm G l q n m k).val W) ((wonm G l q n m k').val W') e := fun k k' r j W W' h hj => fa ⟨.i64, (k' : Int), h, rfl⟩ (fa ⟨.i64, G, rfl, rfl⟩ (fa ⟨.i64, (n : Int), rfl, rfl⟩ (fa ⟨.i64, (m : Int), rfl, rfl⟩ (fa (show l = l from rfl) (fa (show q = q from rfl) (fa hj fz))))))
  have main := fn_loop (κ := Unit) (wonm G l q n m 0) (fun _ => undef) woE [] fWout woD (fun _ => woP) (fun j _ cc => ∃ k, k ≤ m ∧ j = m - k ∧ cc = wonm G l q n m k) ht0 (woS (lI 0) 0) [0, 1, 2, 3, 4] () m wo_enter (wonm G l q n m 0) (fun W' => holds_all (hS 0 0 _ W' rfl rfl)) ⟨0, Nat.zero_le _, rfl, rfl⟩ (DQ ((wonm G l q n m m).val fun _ => undef) (.agg [sI 0, .slN 0 0 4]) [some (.lst 41 tGate true)]) ?_ w hr vs hv
  · refine main.mono fun x w' h => dq_wo ?_ ?_ ?_ h
    · show l.length = (wiF l q m).length
      rw [wiF_len]
    · exact hG
    · exact h41
  · rintro w j _ cc ⟨k, hk, rfl, rfl⟩ W
    have hT : ∀ b, decide (k < m) = b → ∀ e, e ∈ woT b → @TETrue ((wonm G l q n m k).val W) e := fun b hb => by
      letI : Val := (wonm G l q n m k).val W
      have e1 : decide ((k : Int) < (m : Int)) = b := by rw [← hb]; exact decide_eq_decide.2 (by omega)
      refine fa (f_lss (k := .i64) (m := (k : Int)) (n := (m : Int)) rfl rfl e1) (fa ⟨rfl, .i64, .i64, (k : Int), (m : Int), rfl, rfl, congrArg Value.bool ?_⟩ (fa (f_add1 (m := (k : Int)) rfl rfl rfl (by omega) (by omega)) fz))
      rw [← e1]
      exact decide_eq_decide.2 ⟨fun h => ⟨by omega, h⟩, fun h => h.2⟩
    rcases Nat.lt_or_ge k m with hlt | hge
    · obtain ⟨i0, i1⟩ := hin k hlt
      have hX : ((wiX q k : Nat) : Int) = intOf (q.getD k undef) := by unfold wiX; omega
      have hXn : wiX q k < n := by omega
      have hlen := wiF_len l q k
      have hints := wiF_ints (q := q) hl k
      have tb : @TbOK ((wonm G l q n m k).val W) woTb := by
        letI : Val := (wonm G l q n m k).val W
        refine { T := fa ⟨rfl, .i64, .i64, intOf (q.getD k undef), (n : Int), rfl, rfl, congrArg Value.bool (decide_eq_true ⟨i0, i1⟩).symm⟩ (hT true (decide_eq_true hlt)), LL := hLL k W, LX := fa ⟨rfl, ?_, ?_⟩ (fa ⟨rfl, ?_, ?_⟩ fz), LF := fa ⟨?_, rfl⟩ fz }
        · show ((k : Int)).toNat * 1 + 1 ≤ q.length
          rw [Int.toNat_natCast]
          omega
        · show (q.drop (((k : Int)).toNat * 1)).take 1 = [.int .i64 (intOf (q.getD k undef))]
          rw [Int.toNat_natCast, row1 k (by omega)]
          obtain ⟨z, hz⟩ := hq (q.getD k undef) (by rw [List.getD_eq_getElem?_getD, List.getElem?_eq_getElem (by omega)]; exact List.getElem_mem _)
          rw [hz]
          rfl
        · show wiX q k * 4 + 4 ≤ (wiF l q k).length
          omega
        · show ((wiF l q k).drop (wiX q k * 4)).take 4 = _
          rw [row4 hints (wiX q k) (by omega)]
          rfl
        · show wiX q k * 4 + 3 < (wiF l q k).length
          omega
      exact step_to _ [] tb (woS (sI 7) 42) _ () (wonm G l q n m (k + 1)) wo_again (fun W' => holds_all (hS k (k + 1) W W' rfl rfl)) ⟨m - (k + 1), by omega, k + 1, hlt, rfl, rfl⟩
    · obtain rfl : k = m := by omega
      have ht : @TbOK ((wonm G l q n k k).val W) { T := woT false, LL := woLL } := by
        letI : Val := (wonm G l q n k k).val W
        exact { T := hT false (decide_eq_false (by omega)), LL := hLL k W }
      exact step_outQ _ [] ht ((wonm G l q n k k).val fun _ => undef) _ _ _ _ wo_out rfl (holds_all (fa ⟨.i64, G, rfl, rfl⟩ (fa rfl (fa rfl fz))))
/-! same -/
end
end Go.Proofs.Z
