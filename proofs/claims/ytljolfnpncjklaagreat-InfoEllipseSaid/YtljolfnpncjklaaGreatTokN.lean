/-
  The reference's Div and Sqrt.
-/
import Derived.Test.YtljolfnpncjklaaGreatTokE
import Derived.Test.YtljolfnpncjklaaGreatQuoD
import Derived.Test.YtljolfnpncjklaaGreatDiv
namespace Go.Proofs.YtljolfnpncjklaaGreat.R
open Go Go.Ev Go.W32
open Go.Proofs.YtljolfnpncjklaaGreat.W (mixed rsl i64_wrap u64_wrap u32_wrap bitLen_lt_iff clamp WF absN Hi bitLen_Hi clamp_eq isq isq_spec isq_le isq_self newton errV wdivV wsqrtV fdiv_signs downK sq_le_of_le)

/-! ### Div -/
theorem enters_rDiv : ∀ us w, (callFunc 70 us).run Tryz.prog w = .ok (.enter 70 us) w := enters Tryz.func70 rfl (by kernel_rfl)
theorem dv_err (mem : Mem) (e : Nat) : Frz mem (.tuple #[.agg #[.bool false, .bool false, .slice none 0 0], .int .i64 e]) (errV (rB false false 0) e) := Frz.pair Frz2.none (Frz2.ofAbs rfl)
theorem dv_O1 {s o : Bool} {N : Nat} : MC Tryz.prog 70 [rB false true 0, rB s o N] [] (errV (rB false false 0) 2) [] :=
  AC.runN mixed Tryz.func70 [] ts0 qs0 (fun mem => dv_err mem 2) enters_rDiv (by kernel_rfl)
theorem dv_O2 {s : Bool} {N : Nat} : MC Tryz.prog 70 [rB s false N, rB false true 0] [] (errV (rB false false 0) 2) [] :=
  AC.runN mixed Tryz.func70 [] ts0 qs0 (fun mem => dv_err mem 2) enters_rDiv (by kernel_rfl)
theorem dv_Z {s t : Bool} {A B : Nat} (h : nw B = 0) : MC Tryz.prog 70 [rB s false A, rB t false B] [] (errV (rB false false 0) 1) [] :=
  AC.runN mixed Tryz.func70 [.auto, .auto, .tst true] (ts1 (tT (p := (nw B : Int) = 0) (by omega))) qs0 (fun mem => dv_err mem 1) enters_rDiv (by kernel_rfl)
theorem dv_same {s r o : Bool} {A B Q R K : Nat} (h : nw B ≠ 0) (h1 : MC Tryz.prog 102 [tk A (nw A), tk B (nw B)] [] (.tuple #[tk Q (nw Q), tk R (nw R)]) []) (h2 : MC Tryz.prog 37 [.bool false, tk Q (nw Q)] [] (rB r o K) []) :
    MC Tryz.prog 70 [rB s false A, rB s false B] [] (errV (rB r o K) 0) [] := by
  cases s <;> exact AC.runA mixed Tryz.func70 [.auto, .auto, .tst false, .ab (.tuple #[tk Q (nw Q), tk R (nw R)]), .ab (rB r o K)] (ts1 (tF (p := (nw B : Int) = 0) (by omega))) (qs2 h1 h2) rfl enters_rDiv (by kernel_rfl)
theorem dv_even {s r o : Bool} {A B Q R K : Nat} (h : nw B ≠ 0) (hR : nw R = 0) (h1 : MC Tryz.prog 102 [tk A (nw A), tk B (nw B)] [] (.tuple #[tk Q (nw Q), tk R (nw R)]) []) (h2 : MC Tryz.prog 37 [.bool true, tk Q (nw Q)] [] (rB r o K) []) :
    MC Tryz.prog 70 [rB s false A, rB (!s) false B] [] (errV (rB r o K) 0) [] := by
  cases s <;> exact AC.runA mixed Tryz.func70 [.auto, .auto, .tst false, .ab (.tuple #[tk Q (nw Q), tk R (nw R)]), .auto, .tst false, .ab (rB r o K)] (ts2 (tF (p := (nw B : Int) = 0) (by omega)) (tF (p := (nw R : Int) > 0) (by omega))) (qs2 h1 h2) rfl enters_rDiv (by kernel_rfl)
theorem dv_odd {s r o : Bool} {A B Q Q1 R K : Nat} (h : nw B ≠ 0) (hR : nw R ≠ 0) (h1 : MC Tryz.prog 102 [tk A (nw A), tk B (nw B)] [] (.tuple #[tk Q (nw Q), tk R (nw R)]) []) (h3 : MC Tryz.prog 43 [tk Q (nw Q), tk 1 1] [] (tk Q1 (nw Q1)) []) (h2 : MC Tryz.prog 37 [.bool true, tk Q1 (nw Q1)] [] (rB r o K) []) :
    MC Tryz.prog 70 [rB s false A, rB (!s) false B] [] (errV (rB r o K) 0) [] := by
  cases s <;> exact AC.runA mixed Tryz.func70 [.auto, .auto, .tst false, .ab (.tuple #[tk Q (nw Q), tk R (nw R)]), .auto, .tst true, .tk 1, .ab (tk Q1 (nw Q1)), .ab (rB r o K)] (ts2 (tF (p := (nw B : Int) = 0) (by omega)) (tT (p := (nw R : Int) > 0) (by omega))) (qs4 h1 (rfl : [Value.int .u32 1] = (List.range 1).map (word32 1)) h3 h2) rfl enters_rDiv (by kernel_rfl)
def rdivV : Option Int → Option Int → Value
  | none, _ => errV (rV (some 0)) 2
  | some _, none => errV (rV (some 0)) 2
  | some a, some b => if b = 0 then errV (rV (some 0)) 1 else errV (rV (some (a.fdiv b))) 0
theorem sgn_parts {N : Nat} {s : Bool} {z : Int} (h : Go.Proofs.YtljolfnpncjklaaGreat.W.sg N s = z) : z.natAbs = N ∧ (s && decide (N ≠ 0)) = decide (z < 0) := by
  subst h
  cases s with
  | true =>
    show (-(N : Int)).natAbs = N ∧ (true && decide (N ≠ 0)) = decide (-(N : Int) < 0)
    refine ⟨by omega, ?_⟩
    rw [Bool.true_and]
    exact decide_eq_decide.2 (by omega)
  | false =>
    show (N : Int).natAbs = N ∧ (false && decide (N ≠ 0)) = decide ((N : Int) < 0)
    refine ⟨by omega, ?_⟩
    rw [decide_eq_false (by omega : ¬ (N : Int) < 0)]
    rfl
theorem rDiv_t {A B : Option Int} (hA : WF A) (hB : WF B) : MC Tryz.prog 70 [rV A, rV B] [] (rdivV A B) [] := by
  cases A with
  | none =>
    obtain ⟨s, o, N, e⟩ := rV_form B
    rw [e]
    exact dv_O1
  | some a =>
    cases B with
    | none => exact dv_O2
    | some b =>
      show MC _ _ [rB (decide (a < 0)) false a.natAbs, rB (decide (b < 0)) false b.natAbs] [] (if b = 0 then errV (rV (some 0)) 1 else errV (rV (some (a.fdiv b))) 0) []
      by_cases h0 : b = 0
      · rw [if_pos h0]
        subst h0
        exact dv_Z rfl
      · rw [if_neg h0]
        have hnb : nw b.natAbs ≠ 0 := by have := (nw_pos (N := b.natAbs)).2 (by omega); omega
        have hna := wf_nw hA
        obtain ⟨f1, f2⟩ := fdiv_signs a b h0
        have hq := quo_t (A := a.natAbs) (B := b.natAbs) (by omega) (by omega)
        have hc : clamp (a.fdiv b) = some (a.fdiv b) := clamp_eq (by have := hA a rfl; omega)
        have hnq : nw (a.natAbs / b.natAbs) ≤ 32 := Nat.le_trans (nw_mono (Nat.div_le_self _ _)) hna
        have hpl := plus_t (A := a.natAbs / b.natAbs) (B := 1) (na := nw (a.natAbs / b.natAbs)) (nb := 1) (lt_nw _) (by decide) (by omega) (by omega)
        have hn1 := nw_addK (A := a.natAbs / b.natAbs) (B := 1) (k := 32) hnq (Nat.le_trans (nw_le (k := 1) (by decide)) (by omega))
        obtain ⟨f3, f4⟩ := sgn_parts f1
        have hm := made_z (z := a.fdiv b) f3 f4 (lt_nw _) (by unfold downK; split <;> omega)
        rw [hc] at hm
        obtain ⟨r, o, K, e⟩ := rV_form (some (a.fdiv b))
        rw [e] at hm ⊢
        have hR : nw (a.natAbs % b.natAbs) = 0 ↔ a.natAbs % b.natAbs = 0 := by
          have := nw_pos (N := a.natAbs % b.natAbs)
          omega
        by_cases hs : (a < 0) = (b < 0)
        · rw [dec_eq hs] at hm ⊢
          rw [beq_self_eq_true, Bool.not_true] at hm
          exact dv_same hnb hq (by simpa [downK] using hm)
        · have hne := dec_ne hs
          have e2 : decide (b < 0) = !decide (a < 0) := by cases h1 : decide (a < 0) <;> cases h2 : decide (b < 0) <;> simp_all
          have e3 : (!(decide (a < 0) == decide (b < 0))) = true := by rw [e2]; cases decide (a < 0) <;> rfl
          rw [e3] at hm
          rw [e2]
          by_cases hr : a.natAbs % b.natAbs = 0
          · rw [decide_eq_true hr] at hm
            exact dv_even hnb (hR.2 hr) hq hm
          · rw [decide_eq_false hr] at hm
            exact dv_odd hnb (fun h => hr (hR.1 h)) hq hpl hm
/-! ### Sqrt -/
theorem enters_rSqrt : ∀ us w, (callFunc 131 us).run Tryz.prog w = .ok (.enter 131 us) w := enters Tryz.func131 rfl (by kernel_rfl)
theorem sq_O : MC Tryz.prog 131 [rB false true 0] [] (errV (rB false false 0) 2) [] :=
  AC.runN mixed Tryz.func131 [] ts0 qs0 (fun mem => dv_err mem 2) enters_rSqrt (by kernel_rfl)
theorem sq_N {A : Nat} : MC Tryz.prog 131 [rB true false A] [] (errV (rB false false 0) 1) [] :=
  AC.runN mixed Tryz.func131 [] ts0 qs0 (fun mem => dv_err mem 1) enters_rSqrt (by kernel_rfl)
theorem sq_Z {A : Nat} (h : nw A = 0) : MC Tryz.prog 131 [rB false false A] [] (errV (rB false false 0) 0) [] :=
  AC.runN mixed Tryz.func131 [.auto, .auto, .tst true] (ts1 (tT (p := (nw A : Int) = 0) (by omega))) qs0 (fun mem => dv_err mem 0) enters_rSqrt (by kernel_rfl)
def sqS (N x : Nat) : St := ⟨slots 48 [(1, pB 0), (2, pB 1), (3, i6 0), (4, tk x (nw x))], [rBB false false N, zB]⟩
def sqE (N r : Nat) : St := ⟨slots 48 [(1, pB 0), (2, pB 1), (3, i6 0), (4, tk r (nw r))], [rBB false false N, rBB false false r]⟩
def sqL : List Nat := [1, 2, 3, 4]
theorem sq_stop {N x q r s y : Nat} {l : Bool} {c : Int} (hc : c ≥ 0) (h1 : MC Tryz.prog 102 [tk N (nw N), tk x (nw x)] [] (.tuple #[tk q (nw q), tk r (nw r)]) []) (h2 : MC Tryz.prog 43 [tk x (nw x), tk q (nw q)] [] (tk s (nw s)) []) (h3 : MC Tryz.prog 50 [tk s (nw s), i6 1] [] (.tuple #[tk y (nw y), .bool l]) []) (h4 : MC Tryz.prog 44 [tk y (nw y), tk x (nw x)] [] (i6 c) [])
    (h5 : MC Tryz.prog 37 [.bool false, tk x (nw x)] [] (rB false false x) []) : Tri Tryz.prog (loopN Tryz.f131 0) (sqS N x) (to .ret (sqE N x)) :=
  Tri.go mixed sqL [.ab (.tuple #[tk q (nw q), tk r (nw r)]), .ab (tk s (nw s)), .ab (.tuple #[tk y (nw y), .bool l]), .ab (i6 c), .tst true, .ab (rB false false x)] (ts1 (tT (p := c ≥ 0) hc)) (qs5 h1 h2 h3 h4 h5) (by kernel_rfl)
theorem sq_go {N x q r s y : Nat} {l : Bool} {c : Int} (hc : ¬ c ≥ 0) (h1 : MC Tryz.prog 102 [tk N (nw N), tk x (nw x)] [] (.tuple #[tk q (nw q), tk r (nw r)]) []) (h2 : MC Tryz.prog 43 [tk x (nw x), tk q (nw q)] [] (tk s (nw s)) []) (h3 : MC Tryz.prog 50 [tk s (nw s), i6 1] [] (.tuple #[tk y (nw y), .bool l]) []) (h4 : MC Tryz.prog 44 [tk y (nw y), tk x (nw x)] [] (i6 c) []) :
    Tri Tryz.prog (loopN Tryz.f131 0) (sqS N x) (to .normal (sqS N y)) :=
  Tri.go mixed sqL [.ab (.tuple #[tk q (nw q), tk r (nw r)]), .ab (tk s (nw s)), .ab (.tuple #[tk y (nw y), .bool l]), .ab (i6 c), .tst false] (ts1 (tF (p := c ≥ 0) hc)) (qs4 h1 h2 h3 h4) (by kernel_rfl)
theorem sq_loop {N : Nat} (hN : N < Hi) (h0 : 0 < N) : ∀ n x, x = n → isq N ≤ x → nw x ≤ 40 → TriL Tryz.prog (loopN Tryz.f131 0) (sqS N x) (to .ret (sqE N (isq N))) := by
  intro n
  induction n using Nat.strongRecOn with
  | ind n ih =>
    intro x hx hge hw
    have hp : 0 < isq N := by
      have := isq_le (n := N) (a := 1) (by omega)
      omega
    have hnN := nw32 hN
    have h1 := quo_t (A := N) (B := x) (by omega) (by omega)
    have hnq : nw (N / x) ≤ 40 := Nat.le_trans (nw_mono (Nat.div_le_self _ _)) (by omega)
    have h2 := plus_t (A := x) (B := N / x) (lt_nw _) (lt_nw _) (by omega) (by omega)
    have hns := nw_add hw hnq
    have h3 := right_t (A := x + N / x) (n := 1) (by omega)
    rw [Nat.pow_one] at h3
    obtain ⟨g1, g2⟩ := newton (N := N) (r := x) (s := isq N) (by omega) (isq_spec N).1 (isq_spec N).2 hge
    have hny : nw ((x + N / x) / 2) ≤ 41 := Nat.le_trans (nw_mono (Nat.div_le_self _ _)) hns
    have h4 := cmp_t (A := (x + N / x) / 2) (B := x) (by omega)
    generalize (x + N / x) / 2 = y at *
    by_cases hlt : y < x
    · have hc : ¬ rcmp y x ≥ 0 := fun h => by have := rcmp_ge.1 h; omega
      exact TriL.again (sq_go hc h1 h2 h3 h4) (ih y (by omega) y rfl g1 (Nat.le_trans (nw_mono (Nat.le_of_lt hlt)) hw))
    · have e := g2 hlt
      rw [← e]
      have hm := made_z (s := false) (z := (x : Int)) (N := x) (by omega) (by rw [decide_eq_false (by omega : ¬ (x : Int) < 0)]; rfl) (lt_nw x) (by omega)
      have hxs : x ≤ N := by rw [e]; exact isq_self N
      rw [clamp_eq (by omega)] at hm
      have e2 : rV (some (x : Int)) = rB false false x := by
        show rB (decide ((x : Int) < 0)) false (x : Int).natAbs = _
        rw [decide_eq_false (by omega : ¬ (x : Int) < 0), Int.natAbs_natCast]
      rw [e2] at hm
      exact TriL.leave (by simp) (sq_stop (rcmp_ge.2 (by omega)) h1 h2 h3 h4 hm)
theorem sq_P {N b h h1 x r : Nat} (hne : nw N ≠ 0) (hb : b < 100000) (hh : b / 2 = h) (hh1 : h + 1 = h1) (hbits : MC Tryz.prog 17 [tk N (nw N)] [] (i6 b) []) (hl : MC Tryz.prog 49 [tk 1 1, i6 h1] [] (tk x (nw x)) [])
    (hloop : TriL Tryz.prog (loopN Tryz.f131 0) (sqS N x) (to .ret (sqE N r))) : MC Tryz.prog 131 [rB false false N] [] (errV (rB false false r) 0) [] :=
  AC.runA mixed Tryz.func131 [.auto, .auto, .tst false, .tk 1, .ab (i6 b), .at 1 (i6 h), .at 0 (i6 h1), .ab (tk x (nw x)), .cut sqL .ret (sqE N r)]
    (tsC (tF (p := (nw N : Int) = 0) (by omega)) <| tsC (wrapN (n := (b : Int).tdiv 2) (m := h) (by rw [← hh]; rfl) (by omega)) <| tsC (wrapN (n := (h : Int) + 1) (m := h1) (by omega) (by omega)) ts0)
    (qs4 (rfl : [Value.int .u32 1] = (List.range 1).map (word32 1)) hbits hl hloop) rfl enters_rSqrt (by kernel_rfl)
def rsqrtV : Option Int → Value
  | none => errV (rV (some 0)) 2
  | some z => if z < 0 then errV (rV (some 0)) 1 else errV (rV (some (isq z.natAbs : Nat))) 0
theorem rSqrt_t {A : Option Int} (hA : WF A) : MC Tryz.prog 131 [rV A] [] (rsqrtV A) [] := by
  cases A with
  | none => exact sq_O
  | some z =>
    show MC _ _ [rB (decide (z < 0)) false z.natAbs] [] (if z < 0 then errV (rV (some 0)) 1 else errV (rV (some (isq z.natAbs : Nat))) 0) []
    by_cases h : z < 0
    · rw [if_pos h, decide_eq_true h]
      exact sq_N
    · rw [if_neg h, decide_eq_false h]
      have hN : z.natAbs < Hi := hA z rfl
      generalize z.natAbs = N at *
      have e2 : rV (some ((isq N : Nat) : Int)) = rB false false (isq N) := by
        show rB (decide (((isq N : Nat) : Int) < 0)) false ((isq N : Nat) : Int).natAbs = _
        rw [decide_eq_false (by omega : ¬ ((isq N : Nat) : Int) < 0), Int.natAbs_natCast]
      rw [e2]
      by_cases h0 : N = 0
      · subst h0
        exact sq_Z rfl
      · have hnN := nw32 hN
        have hp := (nw_pos (N := N)).2 h0
        have hb := bits_t (N := N) (by omega)
        have hbl : bitLen N ≤ 1023 := bitLen_Hi.2 hN
        have hl := left_t (A := 1) (na := 1) (n := bitLen N / 2 + 1) (by decide) (by omega) (by omega)
        rw [Nat.one_mul] at hl
        have hge : isq N ≤ 2 ^ (bitLen N / 2 + 1) := by
          rcases Nat.lt_or_ge (2 ^ (bitLen N / 2 + 1)) (isq N) with h | h
          · exfalso
            have h1 := sq_le_of_le (Nat.le_of_lt h)
            rw [← Nat.pow_add] at h1
            have h2 := (bitLen_spec N).1
            have h3 : 2 ^ bitLen N ≤ 2 ^ (bitLen N / 2 + 1 + (bitLen N / 2 + 1)) := Nat.pow_le_pow_right (by omega) (by omega)
            have := (isq_spec N).1
            omega
          · exact h
        have hw : nw (2 ^ (bitLen N / 2 + 1)) ≤ 40 := nw_pow (by omega)
        exact sq_P (by omega) (by omega) rfl rfl hb hl (sq_loop hN (by omega) _ _ rfl hge hw)
end Go.Proofs.YtljolfnpncjklaaGreat.R
