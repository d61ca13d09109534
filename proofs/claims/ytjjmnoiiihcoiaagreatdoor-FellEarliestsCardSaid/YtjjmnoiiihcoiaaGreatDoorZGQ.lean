/- A part of the proofs that the laws of layer four answer true for every input. -/
import Derived.Test.YtjjmnoiiihcoiaaGreatDoorZGN
namespace Go.Proofs.Z
open Go Go.RowKit Go.Proofs Go.Ri Go.Proofs.Z.Fa
/-! spread: its contract. -/
def usP (l : List Value) (k : Nat) : Bool := !(gtF l k == gtT l k)
def srv (c : Bool) (l : List Value) (d : Int) (k : Nat) : Bool := if c then odP l d k else usP l k
def gA' (l : List Value) (k : Nat) : Nat := (gtA l k).toNat
def gB' (l : List Value) (k : Nat) : Nat := (gtB l k).toNat
/-- What is reached from the set s by the gates that serve. -/
noncomputable def clS (l : List Value) (n : Nat) (e : Nat → Bool) (s : Nat) : Nat := setN (clo n (gA' l) (gB' l) e (fun x => s.testBit x)) 16
theorem clS_lt (l : List Value) (n : Nat) (e : Nat → Bool) (s : Nat) : clS l n e s < 65536 := setN_lt _
def cnt (S : Nat → Bool) : Nat → Nat
  | 0 => 0
  | k + 1 => cnt S k + if S k then 1 else 0
theorem cnt_le (S : Nat → Bool) : ∀ k, cnt S k ≤ k
  | 0 => Nat.le_refl _
  | k + 1 => by
    have := cnt_le S k
    unfold cnt
    split <;> omega
theorem cnt_mono {S T : Nat → Bool} (h : ∀ x, S x = true → T x = true) : ∀ k, cnt S k ≤ cnt T k
  | 0 => Nat.le_refl _
  | k + 1 => by
    have h1 := cnt_mono h k
    unfold cnt
    cases hS : S k
    · simp only [Bool.false_eq_true, if_false]
      split <;> omega
    · rw [if_pos rfl, if_pos (h k hS)]
      omega
theorem cnt_lt {S T : Nat → Bool} (h : ∀ x, S x = true → T x = true) {i : Nat} (h1 : S i = false) (h2 : T i = true) : ∀ k, i < k → cnt S k < cnt T k
  | k + 1, hi => by
    unfold cnt
    by_cases hk : i = k
    · subst hk
      rw [h1, h2]
      have := cnt_mono h i
      simp
      omega
    · have := cnt_lt h h1 h2 k (by omega)
      cases hS : S k
      · simp only [Bool.false_eq_true, if_false]
        split <;> omega
      · rw [if_pos rfl, if_pos (h k hS)]
        omega
def snm (G : Int) (l : List Value) (n : Nat) (d : Int) (S k : Nat) : Nm := gnm G l n k (fun i => if i = 8 then d else if i = 10 then (S : Int) else if i = 11 then ((S ||| (2 ^ gA' l k ||| 2 ^ gB' l k) : Nat) : Int) else if i = 12 then ((2 ^ gA' l k : Nat) : Int) else if i = 13 then ((2 ^ gB' l k : Nat) : Int) else ((2 ^ gA' l k ||| 2 ^ gB' l k : Nat) : Int)) ny nz
theorem fn_nval {V V' : Val} {w : World} {v : Value} (c : Bool) (h8 : V.I 8 = V'.I 8) (h : @Go.Ri.NVal V w (fnA c) v) : @Go.Ri.NVal V' w (fnA c) v := by
  cases c with
  | true =>
    obtain ⟨p, cur, fr, h1, h2, h3⟩ := h
    refine ⟨p, cur, fr, h1, h2, h3.trans ?_⟩
    show [Value.int .i64 (V.I 8)] = [Value.int .i64 (V'.I 8)]
    rw [h8]
  | false => exact h
theorem gate_range {G : Int} {l : List Value} {n : Nat} (hv : validM G l n = true) {k : Nat} (hk : k < n) : 0 ≤ gtA l k ∧ gtA l k < 16 ∧ 0 ≤ gtB l k ∧ gtB l k < 16 ∧ gtA l k < G ∧ gtB l k < G := by
  have h := (validM_iff _ _ _).1 hv
  have := (gOk_iff _ _ _ _ _).1 (okL_at h.2.2.2 hk)
  omega
theorem pow_lt16 {a : Nat} (h : a < 16) : 2 ^ a < 65536 := by
  have := Nat.pow_lt_pow_right (a := 2) (by decide) h
  simpa using this
section
variable (V : Val) {G : Int} {l : List Value} {n : Nat} {d : Int}
theorem spread_ans (c : Bool) (hG : V.I 0 = G) (hL : V.L 0 = l) (hl : ints l) (hn : l.length = n * 4) (hva : validM G l n = true) (hd : V.I 8 = d) (hd0 : c = true → 0 ≤ d) {s : Nat} (hs : s < 65536) {x : RV} (fx : flat x = true) (hx : @cvF V x = .int .u16 s) :
    @AnsN V fSpread [fellR, x, fnA c] (.int .u16 (clS l n (srv c l d) s : Nat)) := by
  intro w hr vs hv
  have hb : n ≤ 32 := ((validM_iff _ _ _).1 hva).2.2.1
  have hv : All2 (@Go.Ri.NVal ((snm G l n d s 0).val fun _ => undef) w) (spD c) vs := by
    cases hv with
    | cons h1 h2 => cases h2 with
      | cons h2 h3 => cases h3 with
        | cons h3 h4 =>
          cases h4
          refine .cons (fell_nval1 hG hL h1) (.cons ?_ (.cons (fn_nval c (hd.trans rfl) h3) .nil))
          have := @flat_of_nval V w x _ fx h2
          rw [this, hx]
          exact @nval_of_flat ((snm G l n d s 0).val fun _ => undef) w (sU 10) rfl
  have hLL : ∀ S k W, ∀ e, e ∈ hLL → @LLTrue ((snm G l n d S k).val W) e := fun S k W => hLL_ok _ _ _ hn k W
  have htE : ∀ S k W, @TbOK ((snm G l n d S k).val W) spE := fun S k W => by
    letI : Val := (snm G l n d S k).val W
    exact { LL := hLL S k W }
  let C : Nat → Bool := clo n (gA' l) (gB' l) (srv c l d) (fun x => s.testBit x)
  refine fn_loopO3 (κ := Unit) (snm G l n d s 0) (fun _ => undef) spE [] fSpread (spD c) (fun _ => spO c) (fun m _ nm => ∃ S, S < 65536 ∧ (∀ x, s.testBit x = true → S.testBit x = true) ∧ (∀ x, S.testBit x = true → C x = true) ∧ nm = snm G l n d S 0 ∧ m = 16 - cnt (fun x => S.testBit x) 16) (htE s 0 _) (spS0 (sU 10)) (spN c) () (16 - cnt (fun x => s.testBit x) 16) (all2_all sp_enter c) (snm G l n d s 0) (fun W' => holds_all (fa ⟨.u16, (s : Int), rfl, rfl⟩ (fa ⟨.i64, G, rfl, rfl⟩ (fa ⟨.i64, (n : Int), rfl, rfl⟩ (fa ⟨.i64, d, rfl, rfl⟩ (fa rfl fz)))))) ⟨s, hs, fun x h => h, fun x h => clo_sub h, rfl, rfl⟩ (DF (.int .u16 (clS l n (srv c l d) s : Nat))) ?_ w hr vs hv
  rintro w m _ nm ⟨S, hS, hsS, hSC, rfl, rfl⟩ W
  refine .inr ⟨Unit, spE, [], spS (lI 0), spN c, fun _ => spI c, fun m _ nm => ∃ k, k ≤ n ∧ nm = snm G l n d S k ∧ m = n - k ∧ ∀ j, j < k → srv c l d j = true → S.testBit (gA' l j) = S.testBit (gB' l j), n, (), snm G l n d S 0, htE S 0 W, fun W' => holds_all (fa ⟨.i64, 0, rfl, rfl⟩ (fa ⟨.u16, (S : Int), rfl, rfl⟩ (fa ⟨.i64, G, rfl, rfl⟩ (fa ⟨.i64, (n : Int), rfl, rfl⟩ (fa ⟨.i64, d, rfl, rfl⟩ (fa rfl fz)))))), all2_all sp_in c, ⟨0, Nat.zero_le _, rfl, rfl, fun j hj => absurd hj (Nat.not_lt_zero _)⟩, ?_⟩
  rintro m _ nm ⟨k, hk, rfl, rfl, hcl⟩ W
  letI : Val := (snm G l n d S k).val W
  rcases Nat.lt_or_ge k n with hlt | hge
  · obtain ⟨a0, a1, b0, b1, _, _⟩ := gate_range hva hlt
    have ea : (((gA' l k : Nat) : Int)) = gtA l k := by unfold gA'; omega
    have eb : (((gB' l k : Nat) : Int)) = gtB l k := by unfold gB'; omega
    have la : gA' l k < 16 := by unfold gA'; omega
    have lb : gB' l k < 16 := by unfold gB'; omega
    have oa := only_ans la
    have ob := only_ans lb
    rw [ea] at oa
    rw [eb] at ob
    have hab : 2 ^ gA' l k ||| 2 ^ gB' l k < 65536 := Nat.or_lt_two_pow (n := 16) (pow_lt16 la) (pow_lt16 lb)
    have tb : ∀ q, (srv c l d k = q ∨ (S.testBit (gA' l k) != S.testBit (gB' l k)) = false) → TbOK { spT (S.testBit (gA' l k) != S.testBit (gB' l k)) q with Y := [⟨fLeads, [sU 10, gateQ], bR (S.testBit (gA' l k) != S.testBit (gB' l k))⟩, ⟨fOnly, [sI 3], sU 12⟩, ⟨fOnly, [sI 4], sU 13⟩] ++ if (S.testBit (gA' l k) != S.testBit (gB' l k)) = true then (if c then [⟨fIsOpen, [gateQ, sI 8], bR q⟩] else [⟨fUsable, [gateQ], bR q⟩]) else [] } := fun q hq => by
      refine { T := fapp (hT_ok _ _ _ (by omega) W (by simp [hlt])) (fa (f_bin rfl rfl rfl rfl (t_or16 (pow_lt16 la) (pow_lt16 lb))) (fa (f_bin rfl rfl rfl rfl (t_or16 hS hab)) fz)), LL := hLL S k W, LX := hLX_ok _ _ _ hl hn hlt W, Y := fapp (fa (leads_ans (gtF l k) (gtT l k) hS a0 a1 b0 b1) (fa oa (fa ob fz))) ?_ }
      split
      · rename_i hp
        have hq : srv c l d k = q := by
          rcases hq with h | h
          · exact h
          · rw [h] at hp; cases hp
        unfold srv at hq
        split
        · rename_i hc
          rw [if_pos hc] at hq
          have := open_ans (gtA l k) (gtB l k) (gtF l k) (gtT l k) d (hd0 hc)
          rw [show openM (gtF l k) (gtT l k) d = q from hq] at this
          exact fa this fz
        · rename_i hc
          rw [if_neg hc] at hq
          have := usable_ans (gtA l k) (gtB l k) (gtF l k) (gtT l k)
          rw [show (!(gtF l k == gtT l k)) = q from hq] at this
          exact fa this fz
      · exact fz
    have hS1 : ∀ W', ∀ e, e ∈ spS (sI 7) → okSE ((snm G l n d S k).val W) ((snm G l n d S (k + 1)).val W') e := fun W' => fa ⟨.i64, (k : Int) + 1, rfl, rfl⟩ (fa ⟨.u16, (S : Int), rfl, rfl⟩ (fa ⟨.i64, G, rfl, rfl⟩ (fa ⟨.i64, (n : Int), rfl, rfl⟩ (fa ⟨.i64, d, rfl, rfl⟩ (fa rfl fz)))))
    have go : (srv c l d k = true → S.testBit (gA' l k) = S.testBit (gB' l k)) → ∀ j, j < k + 1 → srv c l d j = true → S.testBit (gA' l j) = S.testBit (gB' l j) := fun h j hj he => by
      rcases Nat.lt_or_eq_of_le (Nat.le_of_lt_succ hj) with h1 | rfl
      · exact hcl j h1 he
      · exact h he
    cases hp : (S.testBit (gA' l k) != S.testBit (gB' l k)) with
    | false =>
      have t := tb true (.inr hp)
      rw [hp] at t
      refine ⟨_, [], t, .inl ⟨spS (sI 7), spN c, (), snm G l n d S (k + 1), ⟨n - (k + 1), by omega, k + 1, hlt, rfl, rfl, go fun _ => by simpa using hp⟩, fun W' => holds_all (hS1 W'), all2_all sp_again' c⟩⟩
    | true =>
      cases hq : srv c l d k with
      | false =>
        have t := tb false (.inl hq)
        rw [hp] at t
        refine ⟨_, [], t, .inl ⟨spS (sI 7), spN c, (), snm G l n d S (k + 1), ⟨n - (k + 1), by omega, k + 1, hlt, rfl, rfl, go fun h => by rw [hq] at h; cases h⟩, fun W' => holds_all (hS1 W'), all2_all sp_again2' c⟩⟩
      | true =>
        have t := tb true (.inl hq)
        rw [hp] at t
        have hne : S.testBit (gA' l k) ≠ S.testBit (gB' l k) := by simpa using hp
        have hbit : ∀ x, (S ||| (2 ^ gA' l k ||| 2 ^ gB' l k)).testBit x = (S.testBit x || (decide (gA' l k = x) || decide (gB' l k = x))) := fun x => by
          rw [Nat.testBit_or, Nat.testBit_or, Nat.testBit_two_pow, Nat.testBit_two_pow]
        have hsub : ∀ x, S.testBit x = true → (S ||| (2 ^ gA' l k ||| 2 ^ gB' l k)).testBit x = true := fun x h => by rw [hbit, h]; rfl
        have hcab : C (gA' l k) = C (gB' l k) := clo_cl hlt hq
        have hboth : C (gA' l k) = true ∧ C (gB' l k) = true := by
          cases h1 : S.testBit (gA' l k) with
          | true => exact ⟨hSC _ h1, hcab ▸ hSC _ h1⟩
          | false =>
            have h2 : S.testBit (gB' l k) = true := by
              cases h2 : S.testBit (gB' l k) with
              | true => rfl
              | false => rw [h1, h2] at hne; exact absurd rfl hne
            exact ⟨hcab.symm ▸ hSC _ h2, hSC _ h2⟩
        refine ⟨_, [], t, .inr (.inl ⟨spS0 (sU 11), spN c, (), snm G l n d (S ||| (2 ^ gA' l k ||| 2 ^ gB' l k)) 0, ⟨16 - cnt (fun x => (S ||| (2 ^ gA' l k ||| 2 ^ gB' l k)).testBit x) 16, ?_, _, Nat.or_lt_two_pow (n := 16) hS hab, fun x h => hsub x (hsS x h), fun x h => ?_, rfl, rfl⟩, fun W' => holds_all (fa ⟨.u16, _, rfl, rfl⟩ (fa ⟨.i64, G, rfl, rfl⟩ (fa ⟨.i64, (n : Int), rfl, rfl⟩ (fa ⟨.i64, d, rfl, rfl⟩ (fa rfl fz))))), all2_all sp_back' c⟩)⟩
        · have hle := cnt_le (fun x => (S ||| (2 ^ gA' l k ||| 2 ^ gB' l k)).testBit x) 16
          have hlt2 : cnt (fun x => S.testBit x) 16 < cnt (fun x => (S ||| (2 ^ gA' l k ||| 2 ^ gB' l k)).testBit x) 16 := by
            cases h1 : S.testBit (gA' l k) with
            | false => exact cnt_lt (S := fun x => S.testBit x) hsub (i := gA' l k) h1 (by rw [hbit]; simp) 16 la
            | true =>
              have h2 : S.testBit (gB' l k) = false := by
                cases h2 : S.testBit (gB' l k) with
                | false => rfl
                | true => rw [h1, h2] at hne; exact absurd rfl hne
              exact cnt_lt (S := fun x => S.testBit x) hsub (i := gB' l k) h2 (by rw [hbit]; simp) 16 lb
          omega
        · rw [hbit] at h
          cases hx : S.testBit x with
          | true => exact hSC x hx
          | false =>
            rw [hx] at h
            simp only [Bool.false_or, Bool.or_eq_true, decide_eq_true_eq] at h
            rcases h with rfl | rfl
            · exact hboth.1
            · exact hboth.2
  · obtain rfl : k = n := by omega
    refine step_outIF hEnd [] [] { T := hT_ok _ _ _ (by omega) W (by simp), LL := hLL S k W } (sU 10) (all2_all sp_out c) ?_
    show Value.int .u16 (S : Int) = _
    have : S = clS l k (srv c l d) s := bits_ext hS fun i _ => clo_eq (t := fun x => S.testBit x) hsS hSC hcl i
    rw [← this]
end
end Go.Proofs.Z

namespace Go.Proofs.Z
open Go Go.RowKit Go.Proofs Go.Ri Go.Proofs.Z.Fa
/-! endOf, foldOf, list of a set, first, leaving. -/
abbrev fEndOf : Nat := 77
abbrev fFirst : Nat := 92
abbrev fLeaving : Nat := 83
set_option maxRecDepth 100000 in
theorem eo_run : doneQ { C := [⟨fSpread, [fellR, sU 10, fnA true], sU 11⟩] } [] fEndOf [fellR, sU 10, sI 8] [.int 11 (sU 11)] [] (sU 11) [] = true := by kernel_rfl
/-! list -/
/-! first -/
noncomputable def fiP : St := ⟨patW [(3, sI 10), (6, .slA 0 0 1), (7, sI 1), (8, sI 2)] 17 0, [some (.lstA 0)]⟩
def fiS (r m : RV) : List SE := [.int 2 r, .int 1 (sI 1), .int 10 m, .lst 0 0]
noncomputable def fiT (b lt : Bool) : Tb := { T := ⟨.bin .lss, sI 3, sI 10, bR lt⟩ :: hT b, LL := bLL, LX := if b then [⟨0, 2, [sI 3]⟩] else [] }
set_option maxRecDepth 100000 in
theorem fi_enter : enterT inE [] fFirst [.slN 0 0 1] (fiS (lI 0) (lI 1048577)) [0] fiP = true := by kernel_rfl
set_option maxRecDepth 100000 in
theorem fi_again : (all2 fun lt => againT (fiT true lt) [] (hB inE [] fFirst [.slN 0 0 1]) (hK inE [] fFirst [.slN 0 0 1]) fiP (fiS (sI 7) (if lt then sI 3 else sI 10)) [0] fiP) = true := by kernel_rfl
set_option maxRecDepth 100000 in
theorem fi_out : outF { T := hT false, LL := bLL } [] fFirst (hB inE [] fFirst [.slN 0 0 1]) (hK inE [] fFirst [.slN 0 0 1]) fiP (sI 10) = true := by kernel_rfl
/-! leaving -/
noncomputable def lvQ : GP where
  f := fLeaving
  ds := [fellR, sU 10, sI 8]
  tb := { LL := hLL }
  plan := []
  n := 29
  l := 7
  ov := [(1, sU 10), (2, sI 8), (3, .ptr 1 0), (11, .slA 0 0 4), (12, sI 1), (13, sI 2)]
  pre := fellB
  e := tInt
  s := 1
  S0 := .int 10 (sU 10) :: ogS (lI 0)
  rt := fun b => { T := hT true, LL := hLL, LX := hLX true, Y := [⟨fLeads, [sU 10, gateQ], bR b⟩, ⟨fOpening, [gateQ, sI 8], sI 15⟩], LA := if b then [⟨9, [sI 15], 10⟩] else [] }
  S := .int 10 (sU 10) :: ogS (sI 7)
  cr := [sI 15]
  bt := 5
  bf := 4
  et := hEnd
  er := fun _ => (nilR, [])
set_option maxRecDepth 100000 in
theorem lv_enter : genter lvQ = true := by kernel_rfl
set_option maxRecDepth 100000 in
theorem lv_rounds : (all2 fun ne => ground lvQ ne true) = true := by kernel_rfl
set_option maxRecDepth 100000 in
theorem lv_skips : (all2 fun ne => ground lvQ ne false) = true := by kernel_rfl
theorem lv_runs : GRunsF lvQ := ⟨lv_enter, lv_rounds, .inr lv_skips⟩
noncomputable def lvE (ne : Bool) : Tb := { T := hT false, LL := hLL, C := if ne then [⟨fFirst, [.slN 0 9 1], sI 16⟩] else [] }
set_option maxRecDepth 100000 in
theorem lv_out : (all2 fun ne => outF (lvE ne) [] fLeaving (gpB lvQ) (gpK lvQ) (gpat lvQ ne) (if ne then sI 16 else lI 1048577)) = true := by kernel_rfl
end Go.Proofs.Z

namespace Go.Proofs.Z
open Go Go.RowKit Go.Proofs Go.Ri Go.Proofs.Z.Fa
/-! endOf, foldOf, list of a set, first, leaving: contracts. -/
/-- An argument that stands for a value, in two worlds of names. -/
theorem nval_re {V V' : Val} {w : World} {x y : RV} {u v : Value} (fx : flat x = true) (fy : flat y = true) (hx : @cvF V x = v) (hy : @cvF V' y = v) (h : @Go.Ri.NVal V w x u) : @Go.Ri.NVal V' w y u := by
  have := @flat_of_nval V w x u fx h
  rw [this, hx, ← hy]
  exact @nval_of_flat V' w y fy
section
variable (V : Val) {G : Int} {l : List Value} {n : Nat} {d : Int} {s : Nat} {x y : RV}
def enm (G : Int) (l : List Value) (n : Nat) (d : Int) (s t : Nat) : Nm := gnm G l n 0 (fun i => if i = 8 then d else if i = 10 then (s : Int) else (t : Int)) ny nz
theorem done_val (V1 : Val) {t : Tb} {plan : List Bool} {f : FuncId} {ds : List RV} {S : List SE} {r0 : RV} {v : Value} (ht : @TbOK V1 t) (h : doneQ t plan f ds S [] r0 [] = true) (hw : isW r0 = false) (hf : flat r0 = true) (hS : ∀ e, e ∈ S → okSE V1 V1 e) (hv0 : @cvF V1 r0 = v) (w : World) (hr : RoIn ro w) (vs : List Value) (hv : All2 (@Go.Ri.NVal V1 w) ds vs) :
    Calls Tryz.prog f vs.toArray w (fun e w' => e = .returned v ∧ Below w.heap.size w w') := by
  have := done_calls V1 V1 ht h hw (holds_all hS) w hr vs hv
  refine this.mono fun e w' ⟨u, E', he, hu, H⟩ => ⟨?_, @HInv.below V1 _ _ _ _ _ _ H⟩
  rw [he, ← hv0]
  exact congrArg Ending.returned (@VRel.fn V1 E' r0 u _ hu (@rel_cvF V1 E' r0 hf))
theorem endOf_ans (hG : V.I 0 = G) (hL : V.L 0 = l) (hl : ints l) (hn : l.length = n * 4) (hva : validM G l n = true) (hd0 : 0 ≤ d) (hs : s < 65536) (fx : flat x = true) (hx : @cvF V x = .int .u16 s) (fy : flat y = true) (hy : @cvF V y = .int .i64 d) :
    @AnsN V fEndOf [fellR, x, y] (.int .u16 (clS l n (odP l d) s : Nat)) := by
  intro w hr vs hv
  let V1 : Val := (enm G l n d s (clS l n (odP l d) s)).val fun _ => undef
  have hv : All2 (@Go.Ri.NVal V1 w) [fellR, sU 10, sI 8] vs := by
    cases hv with
    | cons h1 h2 => cases h2 with
      | cons h2 h3 => cases h3 with
        | cons h3 h4 =>
          cases h4
          exact .cons (fell_nval1 hG hL h1) (.cons (nval_re fx rfl hx rfl h2) (.cons (nval_re fy rfl hy rfl h3) .nil))
  have ht : @TbOK V1 { C := [⟨fSpread, [fellR, sU 10, fnA true], sU 11⟩] } := by
    letI := V1
    exact { C := fa (spread_ans V1 true rfl rfl hl hn hva rfl (fun _ => hd0) hs rfl rfl) fz }
  exact done_val V1 ht eo_run rfl rfl (fa ⟨.u16, _, rfl, rfl⟩ fz) rfl w hr vs hv
/-! list -/
/-! first -/
def mnL (l : List Value) : Nat → Int
  | 0 => 1048577
  | k + 1 => if intOf (l.getD k undef) < mnL l k then intOf (l.getD k undef) else mnL l k
def finm (l : List Value) (n k : Nat) : Nm := ⟨fun i => if i = 1 then (n : Int) else if i = 2 then (k : Int) else if i = 3 then intOf (l.getD k undef) else if i = 10 then mnL l k else (k : Int) + 1, ny, fun _ => ⟨#[]⟩, fun i => if i = 0 then l else []⟩
theorem first_ans (l : List Value) (hl : ints l) (n : Nat) (hn : l.length = n) (hb : n ≤ 1000000) {i : Nat} (hL : V.L i = l) : @AnsN V fFirst [.slN 0 i 1] (.int .i64 (mnL l n)) := by
  intro w hr vs hv
  have hv : All2 (@Go.Ri.NVal ((finm l n 0).val fun _ => undef) w) [.slN 0 0 1] vs := by
    cases hv with
    | cons h1 h2 =>
      cases h2
      exact .cons (lst_nval (V := V) (V' := (finm l n 0).val fun _ => undef) hL h1) .nil
  have hLL : ∀ k W, ∀ e, e ∈ bLL → @LLTrue ((finm l n k).val W) e := fun k W => fa ⟨rfl, n, Nat.succ_pos 0, by rw [Nat.mul_one]; exact hn, rfl⟩ fz
  refine scan2 fFirst [.slN 0 0 1] inE [] fiP (fiS (lI 0) (lI 1048577)) [0] (finm l n 0) (fun _ => undef) (fun k => finm l n k) n _ (fun _ => True) fi_enter ?_ (fun W' => fa ⟨.i64, 0, rfl, rfl⟩ (fa ⟨.i64, (n : Int), rfl, rfl⟩ (fa ⟨.i64, 1048577, rfl, rfl⟩ (fa rfl fz)))) trivial ?_ w hr vs hv
  · letI : Val := (finm l n 0).val fun _ => undef
    exact { LL := hLL 0 _ }
  · intro k hk _ W
    letI : Val := (finm l n k).val W
    rcases Nat.lt_or_ge k n with hlt | hge
    · have hlx : ∀ e, e ∈ ([⟨0, 2, [sI 3]⟩] : List LEE) → LXTrue e := by
        refine fa ⟨rfl, ?_, ?_⟩ fz
        · show ((k : Int)).toNat * 1 + 1 ≤ l.length
          rw [Int.toNat_natCast, hn]
          omega
        · show (l.drop (((k : Int)).toNat * 1)).take 1 = [.int .i64 (intOf (l.getD k undef))]
          rw [Int.toNat_natCast, row1 k (by rw [hn]; exact hlt)]
          obtain ⟨z, hz⟩ := hl (l.getD k undef) (by rw [List.getD_eq_getElem?_getD, List.getElem?_eq_getElem (by rw [hn]; exact hlt)]; exact List.getElem_mem _)
          rw [hz]
          rfl
      have tb : TbOK (fiT true (decide (intOf (l.getD k undef) < mnL l k))) := { T := fa (f_lss (k := .i64) (m := intOf (l.getD k undef)) (n := mnL l k) rfl rfl rfl) (hT_gen _ rfl rfl rfl (by omega) (by simp [hlt])), LL := hLL k W, LX := hlx }
      refine .inr ⟨hlt, trivial, _, _, _, tb, all2_all fi_again _, fun W' => fa ⟨.i64, (k : Int) + 1, rfl, rfl⟩ (fa ⟨.i64, (n : Int), rfl, rfl⟩ (fa ?_ (fa rfl fz)))⟩
      by_cases hc : intOf (l.getD k undef) < mnL l k
      · rw [decide_eq_true hc]
        exact ⟨.i64, intOf (l.getD k undef), rfl, if_pos hc⟩
      · rw [decide_eq_false hc]
        exact ⟨.i64, mnL l k, rfl, if_neg hc⟩
    · obtain rfl : k = n := by omega
      exact .inl ⟨_, sI 10, { T := hT_gen _ rfl rfl rfl (by omega) (by simp), LL := hLL k W }, fi_out, rfl⟩
/-! leaving -/
def ldP (l : List Value) (s k : Nat) : Bool := s.testBit (gA' l k) != s.testBit (gB' l k)
def lvC (l : List Value) (d : Int) (k : Nat) : List Value := [.int .i64 (openingM (gtF l k) (gtT l k) d)]
def lvM (l : List Value) (s : Nat) (d : Int) : Nat → Int
  | 0 => 1048577
  | k + 1 => if ldP l s k then (if openingM (gtF l k) (gtT l k) d < lvM l s d k then openingM (gtF l k) (gtT l k) d else lvM l s d k) else lvM l s d k
theorem mnL_app (a b : List Value) : ∀ k, k ≤ a.length → mnL (a ++ b) k = mnL a k
  | 0, _ => rfl
  | k + 1, h => by
    have e : (a ++ b).getD k undef = a.getD k undef := by
      rw [List.getD_eq_getElem?_getD, List.getD_eq_getElem?_getD, List.getElem?_append_left (by omega)]
    unfold mnL
    rw [e, mnL_app a b k (by omega)]
theorem mnL_gl (l : List Value) (s : Nat) (d : Int) : ∀ k, mnL (gl (ldP l s) (lvC l d) k) (gl (ldP l s) (lvC l d) k).length = lvM l s d k
  | 0 => rfl
  | k + 1 => by
    have ih := mnL_gl l s d k
    show mnL (gl (ldP l s) (lvC l d) k ++ if ldP l s k then lvC l d k else []) (gl (ldP l s) (lvC l d) k ++ if ldP l s k then lvC l d k else []).length = _
    unfold lvM
    cases hp : ldP l s k with
    | false =>
      simp only [Bool.false_eq_true, if_false, List.append_nil]
      exact ih
    | true =>
      rw [if_pos rfl, if_pos rfl]
      rw [List.length_append]
      show mnL (gl (ldP l s) (lvC l d) k ++ lvC l d k) ((gl (ldP l s) (lvC l d) k).length + 1) = _
      have e : (gl (ldP l s) (lvC l d) k ++ lvC l d k).getD (gl (ldP l s) (lvC l d) k).length undef = .int .i64 (openingM (gtF l k) (gtT l k) d) := by
        rw [List.getD_eq_getElem?_getD, List.getElem?_append_right (Nat.le_refl _), Nat.sub_self]
        rfl
      unfold mnL
      rw [e, mnL_app _ _ _ (Nat.le_refl _), ih]
      rfl
def lvnm (G : Int) (l : List Value) (n : Nat) (d : Int) (s k : Nat) : Nm := gnm G l n k (fun i => if i = 8 then d else if i = 10 then (s : Int) else if i = 15 then openingM (gtF l k) (gtT l k) d else lvM l s d n) ny (fun i => if i = 9 then gl (ldP l s) (lvC l d) k else if i = 10 then gl (ldP l s) (lvC l d) (k + 1) else [])
theorem leaving_ans (hG : V.I 0 = G) (hL : V.L 0 = l) (hl : ints l) (hn : l.length = n * 4) (hva : validM G l n = true) (hd0 : 0 ≤ d) (hd1 : d ≤ 10000000) (hs : s < 65536) (fx : flat x = true) (hx : @cvF V x = .int .u16 s) (fy : flat y = true) (hy : @cvF V y = .int .i64 d) :
    @AnsN V fLeaving [fellR, x, y] (.int .i64 (lvM l s d n)) := by
  intro w hr vs hv
  have hb : n ≤ 32 := ((validM_iff _ _ _).1 hva).2.2.1
  have hv : All2 (@Go.Ri.NVal ((lvnm G l n d s 0).val fun _ => undef) w) [fellR, sU 10, sI 8] vs := by
    cases hv with
    | cons h1 h2 => cases h2 with
      | cons h2 h3 => cases h3 with
        | cons h3 h4 =>
          cases h4
          exact .cons (fell_nval1 hG hL h1) (.cons (nval_re fx rfl hx rfl h2) (.cons (nval_re fy rfl hy rfl h3) .nil))
  have ht : @TbOK ((lvnm G l n d s 0).val fun _ => undef) { LL := hLL } := by
    letI : Val := (lvnm G l n d s 0).val fun _ => undef
    exact { LL := hLL_ok _ _ _ hn 0 _ }
  refine gatherF lvQ lv_runs (lvnm G l n d s 0) (fun _ => undef) (fun k => lvnm G l n d s k) n (ldP l s) (lvC l d) (fun k => rfl) (fun k => rfl) ht (fun W' => fa ⟨.u16, (s : Int), rfl, rfl⟩ (fa ⟨.i64, 0, rfl, rfl⟩ (fa ⟨.i64, G, rfl, rfl⟩ (fa ⟨.i64, (n : Int), rfl, rfl⟩ (fa ⟨.i64, d, rfl, rfl⟩ (fa rfl fz)))))) ?_ (fun k _ W W' => fa ⟨.u16, (s : Int), rfl, rfl⟩ (fa ⟨.i64, (k : Int) + 1, rfl, rfl⟩ (fa ⟨.i64, G, rfl, rfl⟩ (fa ⟨.i64, (n : Int), rfl, rfl⟩ (fa ⟨.i64, d, rfl, rfl⟩ (fa rfl fz)))))) (fun k _ _ W => rfl) (fun k => by simp [lvC]) (fun h => by cases h) _ (fun W => ?_) w hr vs hv
  · intro k hk W
    letI : Val := (lvnm G l n d s k).val W
    obtain ⟨a0, a1, b0, b1, _, _⟩ := gate_range hva hk
    have hg := (gOk_iff _ _ _ _ _).1 (okL_at ((validM_iff _ _ _).1 hva).2.2.2 hk)
    refine { T := hT_ok _ _ _ (by omega) W (by simp [hk]), LL := hLL_ok _ _ _ hn k W, LX := hLX_ok _ _ _ hl hn hk W, Y := fa (leads_ans (gtF l k) (gtT l k) hs a0 a1 b0 b1) (fa (opening_ans (gtA l k) (gtB l k) (gtF l k) (gtT l k) d hg.2.2.2.1 hg.2.2.2.2.1 hg.2.2.2.2.2.1 hg.2.2.2.2.2.2 hd0 hd1) fz), LA := ?_ }
    show ∀ e, e ∈ (if ldP l s k = true then [(⟨9, [sI 15], 10⟩ : LAE)] else []) → _
    split
    · rename_i hp
      exact fa (gl_la (p := ldP l s) (cells := lvC l d) (s := 1) (fun _ => rfl) (fun _ => fa rfl fz) rfl rfl hp rfl (by omega)) fz
    · exact fz
  · letI : Val := (lvnm G l n d s n).val W
    have hints : ints (gl (ldP l s) (lvC l d) n) := gl_mem (Q := fun v => ∃ n, v = .int .i64 n) (fun k => fa ⟨_, rfl⟩ fz) n
    have hlen := gl_len (p := ldP l s) (cells := lvC l d) (s := 1) (fun _ => rfl) n
    have tb : TbOK (lvE (!(gl (ldP l s) (lvC l d) n).isEmpty)) := by
      refine { T := hT_ok _ _ _ (by omega) W (by simp), LL := hLL_ok _ _ _ hn n W, C := ?_ }
      show ∀ e, e ∈ (if (!(gl (ldP l s) (lvC l d) n).isEmpty) = true then [(⟨fFirst, [.slN 0 9 1], sI 16⟩ : YE)] else []) → _
      split
      · refine fa ?_ fz
        have := first_ans ((lvnm G l n d s n).val W) (gl (ldP l s) (lvC l d) n) hints _ rfl (by omega) (i := 9) rfl
        rw [mnL_gl] at this
        exact this
      · exact fz
    refine ⟨_, _, tb, all2_all lv_out _, ?_⟩
    cases hE : (gl (ldP l s) (lvC l d) n).isEmpty with
    | false => rfl
    | true =>
      have := mnL_gl l s d n
      rw [List.isEmpty_iff.1 hE] at this
      show Value.int .i64 1048577 = _
      rw [← this]
      rfl
end
end Go.Proofs.Z
