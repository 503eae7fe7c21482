/-
  The reference's numbers: Of, Neg, Add, Sub, Mul, Sign, Bits, Cmp.
-/
import Derived.Test.YthnemimpkpkjbaaTokC
import Derived.Test.YthnemimpkpkjbaaWide2
/-! The reference: Of, Neg, Add, Sub, Mul, Sign, Bits, Cmp. -/
namespace Go.Proofs.Ythnemimpkpkjbaa.R
open Go Go.Ev Go.W32
open Go.Proofs.Ythnemimpkpkjbaa.W (mixed rsl i64_wrap u64_wrap u32_wrap bitLen_lt_iff enters_trim enters_rbits clamp WF wadd wsub wneg wmul wshift wcmp signI absN ordI Hi bitLen_Hi clamp_eq clamp_wf wneg_wf)

/-- A number, or over. -/
def rV : Option Int → Value
  | none => rB false true 0
  | some z => rB (decide (z < 0)) false z.natAbs
theorem rV_form (A : Option Int) : ∃ s o N, rV A = rB s o N := by
  cases A with
  | none => exact ⟨false, true, 0, rfl⟩
  | some z => exact ⟨decide (z < 0), false, z.natAbs, rfl⟩
theorem nw32 {N : Nat} (h : N < Hi) : nw N ≤ 32 := by
  have := bitLen_Hi.2 h
  unfold nw
  omega
theorem wf_nw {z : Int} (h : WF (some z)) : nw z.natAbs ≤ 32 := nw32 (h z rfl)
/-- What made makes of a number's sign and words. -/
theorem made_z {s : Bool} {z : Int} {N n : Nat} (h : z.natAbs = N) (hs : (s && decide (N ≠ 0)) = decide (z < 0)) (hN : N < 2 ^ (32 * n)) (hn : n < 1000000) : MC Try.prog 45 [.bool s, tk N n] [] (rV (clamp z)) [] := by
  have key := made_t (s := s) hN hn
  have e : mV s N = rV (clamp z) := by
    unfold mV clamp
    rw [hs, h]
    by_cases hb : N < Hi
    · have := bitLen_Hi.2 hb
      rw [if_pos hb, decide_eq_false (by omega)]
      show rB (decide (z < 0)) false N = rB (decide (z < 0)) false z.natAbs
      rw [h]
    · have : ¬ bitLen N ≤ 1023 := fun e => hb (bitLen_Hi.1 e)
      rw [if_neg hb, decide_eq_true (by omega)]
      rfl
  rw [e] at key
  exact key

/-! ### Of -/
theorem enters_rOf : ∀ us w, (callFunc 35 us).run Try.prog w = .ok (.enter 35 us) w := enters Try.func35 rfl (by kernel_rfl)
theorem word_two {v lo hi : Nat} (hv : v < 18446744073709551616) (hlo : v % 4294967296 = lo) (hhi : v / 4294967296 = hi) : [u3 lo, u3 hi] = (List.range 2).map (word32 v) := by
  have e0 : v / 2 ^ (32 * 0) % 4294967296 = lo := by rw [Nat.mul_zero, Nat.pow_zero, Nat.div_one]; exact hlo
  have e1 : v / 2 ^ (32 * 1) % 4294967296 = hi := by rw [← hhi]; exact Nat.mod_eq_of_lt (by omega)
  show _ = [Value.int .u32 ((v / 2 ^ (32 * 0) % 4294967296 : Nat) : Int), Value.int .u32 ((v / 2 ^ (32 * 1) % 4294967296 : Nat) : Int)]
  rw [e0, e1]
  rfl
theorem of_run1 {n : Int} {u v lo hi N : Nat} {s o : Bool} (h0 : n < 0) (h1 : IntKind.u64.wrap n = u) (h2 : IntKind.u64.wrap (0 - (u : Int)) = v) (hv : v < 18446744073709551616) (hlo : v % 4294967296 = lo) (hhi : v / 4294967296 = hi)
    (hm : MC Try.prog 45 [.bool (decide (n < 0)), tk v 2] [] (rB s o N) []) : MC Try.prog 35 [.int .i64 n] [] (rB s o N) [] :=
  AC.runA mixed Try.func35 [.at 2 (u6 u), .tst true, .at 1 (u6 v), .at 4 (u3 lo), .at 1 (u6 hi), .at 0 (u3 hi), .tk v, .ab (rB s o N)]
    ((tsC (tT h1) <| tsC (tT h0) <| tsC (tT h2) <| tsC (wrap32 hlo) <| tsC (shr32 hhi) <| tsC (wrap32 (x := hi) (lo := hi) (by omega)) ts0)) (qs2 (word_two hv hlo hhi) hm) rfl enters_rOf (by kernel_rfl)
theorem of_run0 {n : Int} {v lo hi N : Nat} {s o : Bool} (h0 : ¬ n < 0) (h1 : IntKind.u64.wrap n = v) (hv : v < 18446744073709551616) (hlo : v % 4294967296 = lo) (hhi : v / 4294967296 = hi)
    (hm : MC Try.prog 45 [.bool (decide (n < 0)), tk v 2] [] (rB s o N) []) : MC Try.prog 35 [.int .i64 n] [] (rB s o N) [] :=
  AC.runA mixed Try.func35 [.at 2 (u6 v), .tst false, .at 3 (u3 lo), .at 1 (u6 hi), .at 0 (u3 hi), .tk v, .ab (rB s o N)]
    ((tsC (tT h1) <| tsC (tF h0) <| tsC (wrap32 hlo) <| tsC (shr32 hhi) <| tsC (wrap32 (x := hi) (lo := hi) (by omega)) ts0)) (qs2 (word_two hv hlo hhi) hm) rfl enters_rOf (by kernel_rfl)
theorem small_WF {n : Int} (h : n.natAbs < 18446744073709551616) : WF (some n) := fun z e => by
  cases e
  have h1 : bitLen n.natAbs ≤ 64 := bitLen_lt_iff.2 h
  exact bitLen_Hi.1 (by omega)
theorem rOf_t {n : Int} (h0 : -9223372036854775808 ≤ n) (h1 : n ≤ 9223372036854775807) : MC Try.prog 35 [.int .i64 n] [] (rV (some n)) [] := by
  have hN : n.natAbs < 18446744073709551616 := by omega
  have es : (decide (n < 0) && decide (n.natAbs ≠ 0)) = decide (n < 0) := by
    by_cases h : n < 0
    · rw [decide_eq_true h, decide_eq_true (by omega)]; rfl
    · rw [decide_eq_false h]; rfl
  have hm := made_z (s := decide (n < 0)) (z := n) (n := 2) rfl es (show _ < 2 ^ 64 from hN) (by omega)
  rw [clamp_eq (small_WF hN n rfl)] at hm
  by_cases h : n < 0
  · exact of_run1 (u := (n + 18446744073709551616).toNat) (v := n.natAbs) h (by rw [u64_wrap]; omega) (by rw [u64_wrap]; omega) hN rfl rfl hm
  · exact of_run0 (v := n.natAbs) h (by rw [u64_wrap]; omega) hN rfl rfl hm

/-! ### Neg -/
/-! ### Add, Sub -/
theorem sum_sign_eq {a b : Int} (h : (a < 0) = (b < 0)) : (a + b).natAbs = a.natAbs + b.natAbs ∧ (decide (a < 0) && decide (a.natAbs + b.natAbs ≠ 0)) = decide (a + b < 0) := by
  have h' : a < 0 ↔ b < 0 := by rw [h]
  refine ⟨by omega, ?_⟩
  rw [Bool.eq_iff_iff]
  simp only [Bool.and_eq_true, decide_eq_true_eq]
  omega
theorem sum_sign_ge {a b : Int} (h : ¬ (a < 0) = (b < 0)) (hc : b.natAbs ≤ a.natAbs) : (a + b).natAbs = a.natAbs - b.natAbs ∧ (decide (a < 0) && decide (a.natAbs - b.natAbs ≠ 0)) = decide (a + b < 0) := by
  have h' : ¬ (a < 0 ↔ b < 0) := fun e => h (propext e)
  refine ⟨by omega, ?_⟩
  rw [Bool.eq_iff_iff]
  simp only [Bool.and_eq_true, decide_eq_true_eq]
  omega
theorem sum_sign_lt {a b : Int} (h : ¬ (a < 0) = (b < 0)) (hc : ¬ b.natAbs ≤ a.natAbs) : (a + b).natAbs = b.natAbs - a.natAbs ∧ (decide (b < 0) && decide (b.natAbs - a.natAbs ≠ 0)) = decide (a + b < 0) := by
  have h' : ¬ (a < 0 ↔ b < 0) := fun e => h (propext e)
  refine ⟨by omega, ?_⟩
  rw [Bool.eq_iff_iff]
  simp only [Bool.and_eq_true, decide_eq_true_eq]
  omega
theorem rcmp_ge {A B : Nat} : rcmp A B ≥ 0 ↔ B ≤ A := by
  unfold rcmp
  split
  · omega
  · split <;> omega
theorem dec_eq {p q : Prop} [Decidable p] [Decidable q] (h : p = q) : decide p = decide q := by
  subst h
  congr
theorem dec_ne {p q : Prop} [Decidable p] [Decidable q] (h : ¬ p = q) : ¬ decide p = decide q := fun e => h (propext (decide_eq_decide.1 e))
theorem nw_addK {A B k : Nat} (h1 : nw A ≤ k) (h2 : nw B ≤ k) : nw (A + B) ≤ k + 1 := by
  have h1' : A < 2 ^ (32 * k) := Nat.lt_of_lt_of_le (lt_nw A) (Nat.pow_le_pow_right (by omega) (by omega))
  have h2' : B < 2 ^ (32 * k) := Nat.lt_of_lt_of_le (lt_nw B) (Nat.pow_le_pow_right (by omega) (by omega))
  refine nw_le ?_
  rw [pow_succ32]
  omega
theorem nw_add {A B : Nat} (h1 : nw A ≤ 40) (h2 : nw B ≤ 40) : nw (A + B) ≤ 41 := nw_addK h1 h2
/-! ### Mul -/
theorem mul_sign (a b : Int) : (!decide (decide (a < 0) = decide (b < 0)) && decide ((a * b).natAbs ≠ 0)) = decide (a * b < 0) := by
  rw [Bool.eq_iff_iff]
  simp only [Bool.and_eq_true, Bool.not_eq_true', decide_eq_false_iff_not, decide_eq_true_eq, decide_eq_decide]
  rcases Int.lt_trichotomy a 0 with h | h | h <;> rcases Int.lt_trichotomy b 0 with h' | h' | h'
  · have := Int.mul_pos_of_neg_of_neg h h'; omega
  · subst h'; simp
  · have := Int.mul_neg_of_neg_of_pos h h'; omega
  · subst h; simp
  · subst h; simp
  · subst h; simp
  · have := Int.mul_neg_of_pos_of_neg h h'; omega
  · subst h'; simp
  · have := Int.mul_pos h h'; omega
theorem nw_mulK {A B j k : Nat} (h1 : nw A ≤ j) (h2 : nw B ≤ k) : nw (A * B) ≤ j + k := by
  refine nw_le ?_
  have h1' : A < 2 ^ (32 * j) := Nat.lt_of_lt_of_le (lt_nw A) (Nat.pow_le_pow_right (by omega) (by omega))
  have h2' : B < 2 ^ (32 * k) := Nat.lt_of_lt_of_le (lt_nw B) (Nat.pow_le_pow_right (by omega) (by omega))
  rw [Nat.mul_add, Nat.pow_add]
  exact Nat.mul_lt_mul'' h1' h2'
theorem nw_mul {A B : Nat} (h1 : nw A ≤ 40) (h2 : nw B ≤ 40) : nw (A * B) ≤ 80 := nw_mulK h1 h2
/-! ### Sign, Bits -/
end Go.Proofs.Ythnemimpkpkjbaa.R
