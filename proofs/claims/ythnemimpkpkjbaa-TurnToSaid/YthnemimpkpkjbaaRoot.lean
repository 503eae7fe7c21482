/-
  Package root: roots and quotients of numbers.
  Package root: quotients.
  Package root: what the laws share.
-/
import Derived.Test.YthnemimpkpkjbaaDiv
import Derived.Test.YthnemimpkpkjbaaWide2
import Derived.Test.YthnemimpkpkjbaaEv3
/-! Package root: roots and quotients of numbers. -/
namespace Go.Proofs.Ythnemimpkpkjbaa.W
open Go Go.Ev Go.Wide

def errI (n : Int) (e : Nat) : Value := .tuple #[.int .i64 n, .int .i64 e]
theorem flat_errI (n : Int) (e : Nat) : flat (errI n e) = true := by kernel_rfl
/-- A number as an int64. -/
def wnar : Option Int → Value
  | none => errI 0 2
  | some z => match fits64 z with | true => errI z 0 | false => errI 0 2
theorem flat_wnar (A : Option Int) : flat (wnar A) = true := by
  unfold wnar
  split
  · exact flat_errI _ _
  · split <;> exact flat_errI _ _
theorem fits64_iff {z : Int} : fits64 z = true ↔ -9223372036854775808 ≤ z ∧ z ≤ 9223372036854775807 := by simp [fits64]
/-! ### Roots -/
/-- The root, rounded up. -/
def csq (n : Nat) : Nat := if isq n * isq n < n then isq n + 1 else isq n
theorem csq_le (n : Nat) : csq n ≤ n := by
  unfold csq
  have := isq_self n
  split
  · rename_i h
    rcases Nat.lt_or_ge (isq n) n with h1 | h1
    · omega
    · have e : isq n = n := by omega
      rw [e] at h
      have := Nat.le_mul_self n
      omega
  · exact this
theorem csq_sq (n : Nat) : n ≤ csq n * csq n := by
  unfold csq
  have := isq_spec n
  split <;> omega
theorem tN {p : Prop} [Decidable p] (h : p) : (!(!decide p)) = true := by rw [decide_eq_true h]; rfl
def ordV (o : Int) : Value := .tuple #[.int .i64 o, .bool true]
theorem wnar_form (A : Option Int) : ∃ r e, wnar A = errI r e := by
  unfold wnar
  split
  · exact ⟨_, _, rfl⟩
  · split <;> exact ⟨_, _, rfl⟩
/-- Roots of int64s, 0 below 1. -/
def upI (n : Int) : Int := (csq n.toNat : Nat)
def sqI (n : Int) : Int := (isq n.toNat : Nat)
theorem csq_zero : csq 0 = 0 := by
  have := csq_le 0
  omega
theorem isq_zero : isq 0 = 0 := rfl
end Go.Proofs.Ythnemimpkpkjbaa.W
/-! Package root: quotients. -/
namespace Go.Proofs.Ythnemimpkpkjbaa.W
open Go Go.Ev Go.Wide

def I64r (n : Int) : Prop := -9223372036854775808 ≤ n ∧ n ≤ 9223372036854775807
theorem fdiv_wf {a b : Int} (ha : WF (some a)) (h0 : b ≠ 0) : WF (some (a.fdiv b)) := fun z e => by
  cases e
  have := (fdiv_signs a b h0).2
  have := ha a rfl
  omega
theorem neg_wf {a : Int} (ha : WF (some a)) : WF (some (-a)) := fun z e => by
  cases e
  have := ha a rfl
  omega
theorem prod_wf {a b : Int} (ha : I64r a) (hb : I64r b) : WF (some (a * b)) := ((Sm.i64 ha.1 ha.2).mul (Sm.i64 hb.1 hb.2)).wf (by omega)
/-- Down and up, as int64s. -/
def mdV (z c : Int) : Value := if c = 0 then errI 0 1 else wnar (some (z.fdiv c))
def cdiv (z c : Int) : Int := -((-z).fdiv c)
def muV (z c : Int) : Value := if c = 0 then errI 0 1 else wnar (some (cdiv z c))
theorem mdV_form (z c : Int) : ∃ r e, mdV z c = errI r e := by
  unfold mdV
  split
  · exact ⟨_, _, rfl⟩
  · exact wnar_form _
theorem muV_form (z c : Int) : ∃ r e, muV z c = errI r e := by
  unfold muV
  split
  · exact ⟨_, _, rfl⟩
  · exact wnar_form _
/-! ### Floor, Ceil, Near, for a divisor that is positive -/
theorem signI_le {q : Int} (h : 0 < q) : ¬ signI (some q) ≤ 0 := by
  simp only [signI]
  split
  · omega
  · split <;> omega
/-! ### Floors and ceilings of integers -/
theorem fdiv_bounds {z c : Int} (hc : 0 < c) : c * z.fdiv c ≤ z ∧ z < c * z.fdiv c + c := by
  rw [Int.fdiv_eq_ediv_of_nonneg _ (by omega)]
  have h1 := Int.mul_ediv_add_emod z c
  have h2 := Int.emod_nonneg z (show c ≠ 0 by omega)
  have h3 := Int.emod_lt_of_pos z hc
  omega
theorem cdiv_bounds {z c : Int} (hc : 0 < c) : z ≤ c * cdiv z c ∧ c * cdiv z c < z + c := by
  unfold cdiv
  obtain ⟨h1, h2⟩ := fdiv_bounds (z := -z) hc
  rw [Int.mul_neg]
  omega
theorem mul_lt_cancel {c p q : Int} (hc : 0 < c) (h : c * p < c * q) : p < q := Int.lt_of_mul_lt_mul_left h (by omega)
theorem fdiv_cdiv {z c : Int} (hc : 0 < c) : z.fdiv c ≤ cdiv z c ∧ cdiv z c ≤ z.fdiv c + 1 ∧ (z.fdiv c = cdiv z c ↔ z.fdiv c * c = z) := by
  obtain ⟨h1, h2⟩ := fdiv_bounds (z := z) hc
  obtain ⟨h3, h4⟩ := cdiv_bounds (z := z) hc
  generalize z.fdiv c = p at *
  generalize cdiv z c = q at *
  have e1 : c * (q + 1) = c * q + c := by rw [Int.mul_add, Int.mul_one]
  have e2 : c * (p + 2) = c * p + c + c := by rw [Int.mul_add]; omega
  have e3 : c * (p + 1) = c * p + c := by rw [Int.mul_add, Int.mul_one]
  have l1 : p < q + 1 := mul_lt_cancel hc (by omega)
  have l2 : q < p + 2 := mul_lt_cancel hc (by omega)
  refine ⟨by omega, by omega, fun h => ?_, fun h => ?_⟩
  · subst h
    rw [Int.mul_comm]
    omega
  · rw [Int.mul_comm] at h
    have : q < p + 1 := mul_lt_cancel hc (by omega)
    omega
/-- Whatever the divisor's sign. -/
theorem fdiv_cdiv_any {z c : Int} (hc : c ≠ 0) : z.fdiv c ≤ cdiv z c ∧ cdiv z c ≤ z.fdiv c + 1 ∧ (z.fdiv c = cdiv z c ↔ z.fdiv c * c = z) := by
  rcases Int.lt_or_gt_of_ne hc with h | h
  · have e1 : z.fdiv c = (-z).fdiv (-c) := (Int.neg_fdiv_neg z c).symm
    have e2 : cdiv z c = cdiv (-z) (-c) := by
      unfold cdiv
      rw [Int.neg_fdiv_neg]
    have key := fdiv_cdiv (z := -z) (c := -c) (by omega)
    rw [← e1, ← e2] at key
    refine ⟨key.1, key.2.1, key.2.2.trans ?_⟩
    rw [Int.mul_neg]
    omega
  · exact fdiv_cdiv h
theorem fdiv_mono {y z c : Int} (hc : 0 < c) (h : y ≤ z) : y.fdiv c ≤ z.fdiv c := by
  obtain ⟨h1, h2⟩ := fdiv_bounds (z := y) hc
  obtain ⟨h3, h4⟩ := fdiv_bounds (z := z) hc
  have e : c * (z.fdiv c + 1) = c * z.fdiv c + c := by rw [Int.mul_add, Int.mul_one]
  have : y.fdiv c < z.fdiv c + 1 := mul_lt_cancel hc (by omega)
  omega
theorem csq_mono {m n : Nat} (h : m ≤ n) : csq m ≤ csq n := by
  have h1 := isq_mono h
  unfold csq
  have s1 := isq_spec m
  have s2 := isq_spec n
  split <;> split
  · omega
  · rename_i h3 h4
    rcases Nat.lt_or_ge (isq m) (isq n) with h5 | h5
    · omega
    · have e : isq m = isq n := by omega
      rw [e] at h3
      omega
  · omega
  · omega
theorem csq_isq (n : Nat) : isq n ≤ csq n ∧ csq n ≤ isq n + 1 ∧ (csq n = isq n ↔ isq n * isq n = n) := by
  unfold csq
  have := isq_spec n
  split
  · exact ⟨by omega, by omega, by omega⟩
  · exact ⟨by omega, by omega, by omega⟩

/-! ### awake, masks -/
theorem upI_of {n : Int} {m : Nat} (h : csq n.toNat = m) : upI n = m := by unfold upI; rw [h]
theorem sqI_of {n : Int} {m : Nat} (h : isq n.toNat = m) : sqI n = m := by unfold sqI; rw [h]
/-- A number's lowest bits. -/
def andK (n m : Int) : Int := IntKind.i64.wrap (BitVec.ofInt 64 n &&& BitVec.ofInt 64 m).toNat
theorem andK_eq (n : Int) (m k : Nat) (hm : m + 1 = 2 ^ k) (hk : k ≤ 62) : andK n m = n % ((2 ^ k : Nat) : Int) := by
  unfold andK
  have hmm : m = 2 ^ k - 1 := by omega
  have hp : 2 ^ k ≤ 2 ^ 62 := Nat.pow_le_pow_right (by omega) hk
  have hp0 : 0 < 2 ^ k := Nat.two_pow_pos k
  have e62 : (2 : Nat) ^ 62 = 4611686018427387904 := by decide
  have e2 : (BitVec.ofInt 64 (m : Int)).toNat = m := by rw [BitVec.toNat_ofInt]; omega
  have e1 : (BitVec.ofInt 64 n).toNat = (n % 18446744073709551616).toNat := by rw [BitVec.toNat_ofInt]; rfl
  rw [BitVec.toNat_and, e1, e2, hmm, Nat.and_two_pow_sub_one_eq_mod]
  have e64 : (18446744073709551616 : Int) = ((2 ^ k : Nat) : Int) * ((2 ^ (64 - k) : Nat) : Int) := by
    rw [← Int.natCast_mul, ← Nat.pow_add, show k + (64 - k) = 64 by omega]
    rfl
  have hnn : 0 ≤ n % 18446744073709551616 := by omega
  have e3 : (((n % 18446744073709551616).toNat % 2 ^ k : Nat) : Int) = n % ((2 ^ k : Nat) : Int) := by
    rw [Int.natCast_emod, Int.toNat_of_nonneg hnn, e64, Int.emod_emod_of_dvd _ ⟨_, rfl⟩]
  rw [e3]
  have h1 := Int.emod_nonneg n (show ((2 ^ k : Nat) : Int) ≠ 0 by omega)
  have h2 := Int.emod_lt_of_pos n (show (0 : Int) < ((2 ^ k : Nat) : Int) by omega)
  exact i64_wrap (by omega) (by omega)
end Go.Proofs.Ythnemimpkpkjbaa.W
/-! Package root: what the laws share. -/
namespace Go.Proofs.Ythnemimpkpkjbaa.W
open Go Go.Ev Go.Wide

theorem mdV_fits {z c : Int} (h0 : c ≠ 0) (h : fits64 (z.fdiv c) = true) : mdV z c = errI (z.fdiv c) 0 := by
  unfold mdV wnar
  rw [if_neg h0]
  simp only
  rw [h]
theorem mdV_over {z c : Int} (h0 : c ≠ 0) (h : fits64 (z.fdiv c) = false) : mdV z c = errI 0 2 := by
  unfold mdV wnar
  rw [if_neg h0]
  simp only
  rw [h]
theorem mdV_arg {z c : Int} (h0 : c = 0) : mdV z c = errI 0 1 := if_pos h0
theorem muV_fits {z c : Int} (h0 : c ≠ 0) (h : fits64 (cdiv z c) = true) : muV z c = errI (cdiv z c) 0 := by
  unfold muV wnar
  rw [if_neg h0]
  simp only
  rw [h]
theorem muV_over {z c : Int} (h0 : c ≠ 0) (h : fits64 (cdiv z c) = false) : muV z c = errI 0 2 := by
  unfold muV wnar
  rw [if_neg h0]
  simp only
  rw [h]
theorem muV_arg {z c : Int} (h0 : c = 0) : muV z c = errI 0 1 := if_pos h0
theorem sqI_nn (m : Int) : 0 ≤ sqI m := by unfold sqI; omega
/-- Roots of a number that is not negative. -/
theorem roots {m : Int} (h0 : 0 ≤ m) (h1 : m ≤ 4611686018427387904) : sqI m * sqI m ≤ m ∧ 0 ≤ upI m - sqI m ∧ upI m - sqI m ≤ 1 ∧ (upI m = sqI m ↔ sqI m * sqI m = m) ∧ m ≤ upI m * upI m ∧ sqI m ≤ 2147483648 ∧ upI m ≤ 2147483649 := by
  unfold upI sqI
  obtain ⟨k, rfl⟩ : ∃ k : Nat, m = k := ⟨m.toNat, by omega⟩
  rw [Int.toNat_natCast, ← Int.natCast_mul, ← Int.natCast_mul]
  obtain ⟨s1, s2⟩ := isq_spec k
  obtain ⟨c1, c2, c3⟩ := csq_isq k
  have c4 := csq_sq k
  have hs : isq k ≤ 2147483648 := by
    rcases Nat.lt_or_ge 2147483648 (isq k) with h | h
    · have := sq_lt_of_lt h
      omega
    · exact h
  refine ⟨by omega, by omega, by omega, ?_, by omega, by omega, by omega⟩
  constructor
  · intro h
    have := c3.1 (by omega)
    omega
  · intro h
    have := c3.2 (by omega)
    omega
theorem small_sq {s : Int} (h0 : 0 ≤ s) (h1 : s ≤ 2147483649) : -9223372036854775808 ≤ s * s ∧ s * s ≤ 9223372036854775807 := by
  have a := Int.mul_nonneg h0 h0
  have b := Int.mul_le_mul h1 h1 h0 (by omega)
  omega
theorem wrap_id {z : Int} (h : -9223372036854775808 ≤ z ∧ z ≤ 9223372036854775807) : IntKind.i64.wrap z = z := i64_wrap h.1 h.2
end Go.Proofs.Ythnemimpkpkjbaa.W
