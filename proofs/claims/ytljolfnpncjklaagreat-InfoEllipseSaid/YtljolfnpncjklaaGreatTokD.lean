/-
  The reference's numbers: Of, Neg, Add, Sub, Mul, Sign, Bits, Cmp.
-/
import Derived.Test.YtljolfnpncjklaaGreatTokC
import Derived.Test.YtljolfnpncjklaaGreatWide2
/-! The reference: Of, Neg, Add, Sub, Mul, Sign, Bits, Cmp. -/
namespace Go.Proofs.YtljolfnpncjklaaGreat.R
open Go Go.Ev Go.W32
open Go.Proofs.YtljolfnpncjklaaGreat.W (mixed rsl i64_wrap u64_wrap u32_wrap bitLen_lt_iff enters_trim enters_rbits clamp WF wadd wsub wneg wmul wshift wcmp signI absN ordI Hi bitLen_Hi clamp_eq clamp_wf wneg_wf)

/-- A number, or over. -/
def rV : Option Int → Value
  | none => rB false true 0
  | some z => rB (decide (z < 0)) false z.natAbs
theorem rV_form (A : Option Int) : ∃ s o N, rV A = rB s o N := by
  cases A with
  | none => exact ⟨false, true, 0, rfl⟩
  | some z => exact ⟨decide (z < 0), false, z.natAbs, rfl⟩
theorem nw32 {N : Nat} (h : N < Hi) : nw N ≤ 32 := by
  have := bitLen_Hi.2 h
  unfold nw
  omega
theorem wf_nw {z : Int} (h : WF (some z)) : nw z.natAbs ≤ 32 := nw32 (h z rfl)
/-- What made makes of a number's sign and words. -/
theorem made_z {s : Bool} {z : Int} {N n : Nat} (h : z.natAbs = N) (hs : (s && decide (N ≠ 0)) = decide (z < 0)) (hN : N < 2 ^ (32 * n)) (hn : n < 1000000) : MC Tryz.prog 37 [.bool s, tk N n] [] (rV (clamp z)) [] := by
  have key := made_t (s := s) hN hn
  have e : mV s N = rV (clamp z) := by
    unfold mV clamp
    rw [hs, h]
    by_cases hb : N < Hi
    · have := bitLen_Hi.2 hb
      rw [if_pos hb, decide_eq_false (by omega)]
      show rB (decide (z < 0)) false N = rB (decide (z < 0)) false z.natAbs
      rw [h]
    · have : ¬ bitLen N ≤ 1023 := fun e => hb (bitLen_Hi.1 e)
      rw [if_neg hb, decide_eq_true (by omega)]
      rfl
  rw [e] at key
  exact key

/-! ### Of -/
theorem enters_rOf : ∀ us w, (callFunc 10 us).run Tryz.prog w = .ok (.enter 10 us) w := enters Tryz.func10 rfl (by kernel_rfl)
theorem word_two {v lo hi : Nat} (hv : v < 18446744073709551616) (hlo : v % 4294967296 = lo) (hhi : v / 4294967296 = hi) : [u3 lo, u3 hi] = (List.range 2).map (word32 v) := by
  have e0 : v / 2 ^ (32 * 0) % 4294967296 = lo := by rw [Nat.mul_zero, Nat.pow_zero, Nat.div_one]; exact hlo
  have e1 : v / 2 ^ (32 * 1) % 4294967296 = hi := by rw [← hhi]; exact Nat.mod_eq_of_lt (by omega)
  show _ = [Value.int .u32 ((v / 2 ^ (32 * 0) % 4294967296 : Nat) : Int), Value.int .u32 ((v / 2 ^ (32 * 1) % 4294967296 : Nat) : Int)]
  rw [e0, e1]
  rfl
theorem of_run1 {n : Int} {u v lo hi N : Nat} {s o : Bool} (h0 : n < 0) (h1 : IntKind.u64.wrap n = u) (h2 : IntKind.u64.wrap (0 - (u : Int)) = v) (hv : v < 18446744073709551616) (hlo : v % 4294967296 = lo) (hhi : v / 4294967296 = hi)
    (hm : MC Tryz.prog 37 [.bool (decide (n < 0)), tk v 2] [] (rB s o N) []) : MC Tryz.prog 10 [.int .i64 n] [] (rB s o N) [] :=
  AC.runA mixed Tryz.func10 [.at 2 (u6 u), .tst true, .at 1 (u6 v), .at 4 (u3 lo), .at 1 (u6 hi), .at 0 (u3 hi), .tk v, .ab (rB s o N)]
    ((tsC (tT h1) <| tsC (tT h0) <| tsC (tT h2) <| tsC (wrap32 hlo) <| tsC (shr32 hhi) <| tsC (wrap32 (x := hi) (lo := hi) (by omega)) ts0)) (qs2 (word_two hv hlo hhi) hm) rfl enters_rOf (by kernel_rfl)
theorem of_run0 {n : Int} {v lo hi N : Nat} {s o : Bool} (h0 : ¬ n < 0) (h1 : IntKind.u64.wrap n = v) (hv : v < 18446744073709551616) (hlo : v % 4294967296 = lo) (hhi : v / 4294967296 = hi)
    (hm : MC Tryz.prog 37 [.bool (decide (n < 0)), tk v 2] [] (rB s o N) []) : MC Tryz.prog 10 [.int .i64 n] [] (rB s o N) [] :=
  AC.runA mixed Tryz.func10 [.at 2 (u6 v), .tst false, .at 3 (u3 lo), .at 1 (u6 hi), .at 0 (u3 hi), .tk v, .ab (rB s o N)]
    ((tsC (tT h1) <| tsC (tF h0) <| tsC (wrap32 hlo) <| tsC (shr32 hhi) <| tsC (wrap32 (x := hi) (lo := hi) (by omega)) ts0)) (qs2 (word_two hv hlo hhi) hm) rfl enters_rOf (by kernel_rfl)
theorem small_WF {n : Int} (h : n.natAbs < 18446744073709551616) : WF (some n) := fun z e => by
  cases e
  have h1 : bitLen n.natAbs ≤ 64 := bitLen_lt_iff.2 h
  exact bitLen_Hi.1 (by omega)
theorem rOf_t {n : Int} (h0 : -9223372036854775808 ≤ n) (h1 : n ≤ 9223372036854775807) : MC Tryz.prog 10 [.int .i64 n] [] (rV (some n)) [] := by
  have hN : n.natAbs < 18446744073709551616 := by omega
  have es : (decide (n < 0) && decide (n.natAbs ≠ 0)) = decide (n < 0) := by
    by_cases h : n < 0
    · rw [decide_eq_true h, decide_eq_true (by omega)]; rfl
    · rw [decide_eq_false h]; rfl
  have hm := made_z (s := decide (n < 0)) (z := n) (n := 2) rfl es (show _ < 2 ^ 64 from hN) (by omega)
  rw [clamp_eq (small_WF hN n rfl)] at hm
  by_cases h : n < 0
  · exact of_run1 (u := (n + 18446744073709551616).toNat) (v := n.natAbs) h (by rw [u64_wrap]; omega) (by rw [u64_wrap]; omega) hN rfl rfl hm
  · exact of_run0 (v := n.natAbs) h (by rw [u64_wrap]; omega) hN rfl rfl hm

/-! ### Neg -/
theorem enters_rNeg : ∀ us w, (callFunc 28 us).run Tryz.prog w = .ok (.enter 28 us) w := enters Tryz.func28 rfl (by kernel_rfl)
theorem rNeg_t {A : Option Int} (hA : WF A) : MC Tryz.prog 28 [rV A] [] (rV (wneg A)) [] := by
  cases A with
  | none => exact AC.runA mixed Tryz.func28 [] ts0 qs0 rfl enters_rNeg (by kernel_rfl)
  | some z =>
    have e : (!decide (z < 0) && decide (z.natAbs ≠ 0)) = decide (-z < 0) := by
      rw [Bool.eq_iff_iff]
      simp
      omega
    have hm := made_z (s := !decide (z < 0)) (z := -z) (n := nw z.natAbs) (by omega) e (lt_nw _) (by have := wf_nw hA; omega)
    rw [clamp_eq (by have := hA z rfl; omega)] at hm
    show MC _ _ [rB (decide (z < 0)) false z.natAbs] [] (rV (some (-z))) []
    obtain ⟨s, o, N, h⟩ := rV_form (some (-z))
    rw [h] at hm ⊢
    exact AC.runA mixed Tryz.func28 [.ab (rB s o N)] ts0 (qs1 hm) rfl enters_rNeg (by kernel_rfl)

/-! ### Add, Sub -/
theorem enters_rAdd : ∀ us w, (callFunc 13 us).run Tryz.prog w = .ok (.enter 13 us) w := enters Tryz.func13 rfl (by kernel_rfl)
theorem add_O1 {s o : Bool} {N : Nat} : MC Tryz.prog 13 [rB false true 0, rB s o N] [] (rB false true 0) [] :=
  AC.runN mixed Tryz.func13 [] ts0 qs0 Frz.none enters_rAdd (by kernel_rfl)
theorem add_O2 {s : Bool} {N : Nat} : MC Tryz.prog 13 [rB s false N, rB false true 0] [] (rB false true 0) [] :=
  AC.runN mixed Tryz.func13 [] ts0 qs0 Frz.none enters_rAdd (by kernel_rfl)
theorem add_eq {s t r o : Bool} {A B R K : Nat} (hs : s = t) (h1 : MC Tryz.prog 43 [tk A (nw A), tk B (nw B)] [] (tk R (nw R)) []) (h2 : MC Tryz.prog 37 [.bool s, tk R (nw R)] [] (rB r o K) []) :
    MC Tryz.prog 13 [rB s false A, rB t false B] [] (rB r o K) [] :=
  AC.runA mixed Tryz.func13 [.auto, .auto, .tst true, .ab (tk R (nw R)), .ab (rB r o K)] (ts1 (tT hs)) (qs2 h1 h2) rfl enters_rAdd (by kernel_rfl)
theorem add_ge {s t r o : Bool} {A B R K : Nat} {c : Int} (hs : ¬ s = t) (hc : c ≥ 0) (h0 : MC Tryz.prog 44 [tk A (nw A), tk B (nw B)] [] (i6 c) []) (h1 : MC Tryz.prog 45 [tk A (nw A), tk B (nw B)] [] (tk R (nw R)) []) (h2 : MC Tryz.prog 37 [.bool s, tk R (nw R)] [] (rB r o K) []) :
    MC Tryz.prog 13 [rB s false A, rB t false B] [] (rB r o K) [] :=
  AC.runA mixed Tryz.func13 [.auto, .auto, .tst false, .ab (i6 c), .tst true, .ab (tk R (nw R)), .ab (rB r o K)] (ts2 (tF hs) (tT hc)) (qs3 h0 h1 h2) rfl enters_rAdd (by kernel_rfl)
theorem add_lt {s t r o : Bool} {A B R K : Nat} {c : Int} (hs : ¬ s = t) (hc : ¬ c ≥ 0) (h0 : MC Tryz.prog 44 [tk A (nw A), tk B (nw B)] [] (i6 c) []) (h1 : MC Tryz.prog 45 [tk B (nw B), tk A (nw A)] [] (tk R (nw R)) []) (h2 : MC Tryz.prog 37 [.bool t, tk R (nw R)] [] (rB r o K) []) :
    MC Tryz.prog 13 [rB s false A, rB t false B] [] (rB r o K) [] :=
  AC.runA mixed Tryz.func13 [.auto, .auto, .tst false, .ab (i6 c), .tst false, .ab (tk R (nw R)), .ab (rB r o K)] (ts2 (tF hs) (tF hc)) (qs3 h0 h1 h2) rfl enters_rAdd (by kernel_rfl)
theorem sum_sign_eq {a b : Int} (h : (a < 0) = (b < 0)) : (a + b).natAbs = a.natAbs + b.natAbs ∧ (decide (a < 0) && decide (a.natAbs + b.natAbs ≠ 0)) = decide (a + b < 0) := by
  have h' : a < 0 ↔ b < 0 := by rw [h]
  refine ⟨by omega, ?_⟩
  rw [Bool.eq_iff_iff]
  simp only [Bool.and_eq_true, decide_eq_true_eq]
  omega
theorem sum_sign_ge {a b : Int} (h : ¬ (a < 0) = (b < 0)) (hc : b.natAbs ≤ a.natAbs) : (a + b).natAbs = a.natAbs - b.natAbs ∧ (decide (a < 0) && decide (a.natAbs - b.natAbs ≠ 0)) = decide (a + b < 0) := by
  have h' : ¬ (a < 0 ↔ b < 0) := fun e => h (propext e)
  refine ⟨by omega, ?_⟩
  rw [Bool.eq_iff_iff]
  simp only [Bool.and_eq_true, decide_eq_true_eq]
  omega
theorem sum_sign_lt {a b : Int} (h : ¬ (a < 0) = (b < 0)) (hc : ¬ b.natAbs ≤ a.natAbs) : (a + b).natAbs = b.natAbs - a.natAbs ∧ (decide (b < 0) && decide (b.natAbs - a.natAbs ≠ 0)) = decide (a + b < 0) := by
  have h' : ¬ (a < 0 ↔ b < 0) := fun e => h (propext e)
  refine ⟨by omega, ?_⟩
  rw [Bool.eq_iff_iff]
  simp only [Bool.and_eq_true, decide_eq_true_eq]
  omega
theorem rcmp_ge {A B : Nat} : rcmp A B ≥ 0 ↔ B ≤ A := by
  unfold rcmp
  split
  · omega
  · split <;> omega
theorem dec_eq {p q : Prop} [Decidable p] [Decidable q] (h : p = q) : decide p = decide q := by
  subst h
  congr
theorem dec_ne {p q : Prop} [Decidable p] [Decidable q] (h : ¬ p = q) : ¬ decide p = decide q := fun e => h (propext (decide_eq_decide.1 e))
theorem nw_addK {A B k : Nat} (h1 : nw A ≤ k) (h2 : nw B ≤ k) : nw (A + B) ≤ k + 1 := by
  have h1' : A < 2 ^ (32 * k) := Nat.lt_of_lt_of_le (lt_nw A) (Nat.pow_le_pow_right (by omega) (by omega))
  have h2' : B < 2 ^ (32 * k) := Nat.lt_of_lt_of_le (lt_nw B) (Nat.pow_le_pow_right (by omega) (by omega))
  refine nw_le ?_
  rw [pow_succ32]
  omega
theorem nw_add {A B : Nat} (h1 : nw A ≤ 40) (h2 : nw B ≤ 40) : nw (A + B) ≤ 41 := nw_addK h1 h2
theorem rAdd_some {a b : Int} (h1 : nw a.natAbs ≤ 40) (h2 : nw b.natAbs ≤ 40) : MC Tryz.prog 13 [rV (some a), rV (some b)] [] (rV (clamp (a + b))) [] := by
  have hcm := cmp_t (A := a.natAbs) (B := b.natAbs) (by omega)
  obtain ⟨r, o, K, e⟩ := rV_form (clamp (a + b))
  rw [e]
  by_cases hs : (a < 0) = (b < 0)
  · obtain ⟨e1, e2⟩ := sum_sign_eq hs
    have hm := made_z (s := decide (a < 0)) e1 e2 (lt_nw _) (by have := nw_add h1 h2; omega)
    rw [e] at hm
    exact add_eq (dec_eq hs) (plus_t (lt_nw _) (lt_nw _) (by omega) (by omega)) hm
  · by_cases hc : b.natAbs ≤ a.natAbs
    · obtain ⟨e1, e2⟩ := sum_sign_ge hs hc
      have hm := made_z (s := decide (a < 0)) e1 e2 (lt_nw _) (by have := nw_mono (Nat.sub_le a.natAbs b.natAbs); omega)
      rw [e] at hm
      exact add_ge (dec_ne hs) (rcmp_ge.2 hc) hcm (minus_t (lt_nw _) (lt_nw _) hc (by omega)) hm
    · obtain ⟨e1, e2⟩ := sum_sign_lt hs hc
      have hm := made_z (s := decide (b < 0)) e1 e2 (lt_nw _) (by have := nw_mono (Nat.sub_le b.natAbs a.natAbs); omega)
      rw [e] at hm
      exact add_lt (dec_ne hs) (fun h => hc (rcmp_ge.1 h)) hcm (minus_t (lt_nw _) (lt_nw _) (by omega) (by omega)) hm
theorem rAdd_t {A B : Option Int} (hA : WF A) (hB : WF B) : MC Tryz.prog 13 [rV A, rV B] [] (rV (wadd A B)) [] := by
  cases A with
  | none =>
    obtain ⟨s, o, N, e⟩ := rV_form B
    rw [e]
    exact add_O1
  | some a =>
    cases B with
    | none => exact add_O2
    | some b => exact rAdd_some (by have := wf_nw hA; omega) (by have := wf_nw hB; omega)
theorem enters_rSub : ∀ us w, (callFunc 26 us).run Tryz.prog w = .ok (.enter 26 us) w := enters Tryz.func26 rfl (by kernel_rfl)
theorem rSub_t {A B : Option Int} (hA : WF A) (hB : WF B) : MC Tryz.prog 26 [rV A, rV B] [] (rV (wsub A B)) [] := by
  have h1 := rNeg_t hB
  have h2 := rAdd_t hA (wneg_wf hB)
  unfold wsub
  obtain ⟨s, o, N, e⟩ := rV_form (wadd A (wneg B))
  obtain ⟨s1, o1, N1, e1⟩ := rV_form (wneg B)
  obtain ⟨s2, o2, N2, e2⟩ := rV_form A
  obtain ⟨s3, o3, N3, e3⟩ := rV_form B
  rw [e, e1, e2] at h2
  rw [e1, e3] at h1
  rw [e, e2, e3]
  exact AC.runA mixed Tryz.func26 [.ab (rB s1 o1 N1), .ab (rB s o N)] ts0 (qs2 h1 h2) rfl enters_rSub (by kernel_rfl)

/-! ### Mul -/
theorem enters_rMul : ∀ us w, (callFunc 14 us).run Tryz.prog w = .ok (.enter 14 us) w := enters Tryz.func14 rfl (by kernel_rfl)
theorem mul_sign (a b : Int) : (!decide (decide (a < 0) = decide (b < 0)) && decide ((a * b).natAbs ≠ 0)) = decide (a * b < 0) := by
  rw [Bool.eq_iff_iff]
  simp only [Bool.and_eq_true, Bool.not_eq_true', decide_eq_false_iff_not, decide_eq_true_eq, decide_eq_decide]
  rcases Int.lt_trichotomy a 0 with h | h | h <;> rcases Int.lt_trichotomy b 0 with h' | h' | h'
  · have := Int.mul_pos_of_neg_of_neg h h'; omega
  · subst h'; simp
  · have := Int.mul_neg_of_neg_of_pos h h'; omega
  · subst h; simp
  · subst h; simp
  · subst h; simp
  · have := Int.mul_neg_of_pos_of_neg h h'; omega
  · subst h'; simp
  · have := Int.mul_pos h h'; omega
theorem mul_run {s t r o : Bool} {A B R K : Nat} (h1 : MC Tryz.prog 46 [tk A (nw A), tk B (nw B)] [] (tk R (nw R)) []) (h2 : MC Tryz.prog 37 [.bool (!decide (s = t)), tk R (nw R)] [] (rB r o K) []) :
    MC Tryz.prog 14 [rB s false A, rB t false B] [] (rB r o K) [] :=
  AC.runA mixed Tryz.func14 [.ab (tk R (nw R)), .ab (rB r o K)] ts0 (qs2 h1 h2) rfl enters_rMul (by kernel_rfl)
theorem mul_O1 {s o : Bool} {N : Nat} : MC Tryz.prog 14 [rB false true 0, rB s o N] [] (rB false true 0) [] :=
  AC.runN mixed Tryz.func14 [] ts0 qs0 Frz.none enters_rMul (by kernel_rfl)
theorem mul_O2 {s : Bool} {N : Nat} : MC Tryz.prog 14 [rB s false N, rB false true 0] [] (rB false true 0) [] :=
  AC.runN mixed Tryz.func14 [] ts0 qs0 Frz.none enters_rMul (by kernel_rfl)
theorem nw_mulK {A B j k : Nat} (h1 : nw A ≤ j) (h2 : nw B ≤ k) : nw (A * B) ≤ j + k := by
  refine nw_le ?_
  have h1' : A < 2 ^ (32 * j) := Nat.lt_of_lt_of_le (lt_nw A) (Nat.pow_le_pow_right (by omega) (by omega))
  have h2' : B < 2 ^ (32 * k) := Nat.lt_of_lt_of_le (lt_nw B) (Nat.pow_le_pow_right (by omega) (by omega))
  rw [Nat.mul_add, Nat.pow_add]
  exact Nat.mul_lt_mul'' h1' h2'
theorem nw_mul {A B : Nat} (h1 : nw A ≤ 40) (h2 : nw B ≤ 40) : nw (A * B) ≤ 80 := nw_mulK h1 h2
theorem rMul_t {A B : Option Int} (hA : WF A) (hB : WF B) : MC Tryz.prog 14 [rV A, rV B] [] (rV (wmul A B)) [] := by
  cases A with
  | none =>
    obtain ⟨s, o, N, e⟩ := rV_form B
    rw [e]
    exact mul_O1
  | some a =>
    cases B with
    | none => exact mul_O2
    | some b =>
      have ha := wf_nw hA
      have hb := wf_nw hB
      have hm := made_z (s := !decide (decide (a < 0) = decide (b < 0))) (z := a * b) rfl (mul_sign a b) (lt_nw _) (by rw [Int.natAbs_mul]; have := nw_mul (A := a.natAbs) (B := b.natAbs) (by omega) (by omega); omega)
      show MC _ _ _ [] (rV (clamp (a * b))) []
      obtain ⟨r, o, K, e⟩ := rV_form (clamp (a * b))
      rw [e] at hm ⊢
      rw [Int.natAbs_mul] at hm
      exact mul_run (times_t (lt_nw _) (lt_nw _) (by omega) (by omega)) hm

/-! ### Sign, Bits -/
theorem enters_rSign : ∀ us w, (callFunc 31 us).run Tryz.prog w = .ok (.enter 31 us) w := enters Tryz.func31 rfl (by kernel_rfl)
theorem enters_rBits : ∀ us w, (callFunc 5 us).run Tryz.prog w = .ok (.enter 5 us) w := enters Tryz.func5 rfl (by kernel_rfl)
/-- The sign of a number of any size. -/
theorem rSign_any (z : Int) : MC Tryz.prog 31 [rB (decide (z < 0)) false z.natAbs] [] (i6 (signI (some z))) [] := by
  show MC _ _ _ [] (i6 (if z < 0 then -1 else if z = 0 then 0 else 1)) []
  by_cases h : z < 0
  · rw [if_pos h, decide_eq_true h]
    exact AC.runA mixed Tryz.func31 [.auto, .tst false] (ts1 (tF (show ¬ ((nw z.natAbs : Nat) : Int) = 0 by have := nw_pos.2 (show z.natAbs ≠ 0 by omega); omega))) qs0 rfl enters_rSign (by kernel_rfl)
  · rw [if_neg h, decide_eq_false h]
    by_cases h0 : z = 0
    · rw [if_pos h0]
      exact AC.runA mixed Tryz.func31 [.auto, .tst true] (ts1 (tT (show ((nw z.natAbs : Nat) : Int) = 0 by rw [h0]; rfl))) qs0 rfl enters_rSign (by kernel_rfl)
    · rw [if_neg h0]
      exact AC.runA mixed Tryz.func31 [.auto, .tst false] (ts1 (tF (show ¬ ((nw z.natAbs : Nat) : Int) = 0 by have := nw_pos.2 (show z.natAbs ≠ 0 by omega); omega))) qs0 rfl enters_rSign (by kernel_rfl)
theorem rSign_t {A : Option Int} : MC Tryz.prog 31 [rV A] [] (i6 (signI A)) [] := by
  cases A with
  | none => exact AC.runA mixed Tryz.func31 [] ts0 qs0 rfl enters_rSign (by kernel_rfl)
  | some z => exact rSign_any z
theorem rBits_t {A : Option Int} (hA : WF A) : MC Tryz.prog 5 [rV A] [] (.int .i64 (bitLen (absN A))) [] := by
  cases A with
  | none => exact AC.runA mixed Tryz.func5 [] ts0 qs0 rfl enters_rBits (by kernel_rfl)
  | some z =>
    have h := bits_t (N := z.natAbs) (by have := wf_nw hA; omega)
    show MC _ _ [rB (decide (z < 0)) false z.natAbs] [] (.int .i64 (bitLen z.natAbs)) []
    generalize bitLen z.natAbs = b at *
    exact AC.runA mixed Tryz.func5 [.ab (.int .i64 b)] ts0 (qs1 h) rfl enters_rBits (by kernel_rfl)
end Go.Proofs.YtljolfnpncjklaaGreat.R
