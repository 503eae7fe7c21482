/-
  Package root: what the laws share.
-/
import Derived.Test.YtjmdppnhpfdhdaaRootB
import Derived.Test.YtjmdppnhpfdhdaaEvT
namespace Go.Proofs.Ytjmdppnhpfdhdaa.W
open Go Go.Ev Go.Wide

theorem mdV_fits {z c : Int} (h0 : c ≠ 0) (h : fits64 (z.fdiv c) = true) : mdV z c = errI (z.fdiv c) 0 := by
  unfold mdV wnar
  rw [if_neg h0]
  simp only
  rw [h]
theorem mdV_over {z c : Int} (h0 : c ≠ 0) (h : fits64 (z.fdiv c) = false) : mdV z c = errI 0 2 := by
  unfold mdV wnar
  rw [if_neg h0]
  simp only
  rw [h]
theorem mdV_arg {z c : Int} (h0 : c = 0) : mdV z c = errI 0 1 := if_pos h0
theorem muV_fits {z c : Int} (h0 : c ≠ 0) (h : fits64 (cdiv z c) = true) : muV z c = errI (cdiv z c) 0 := by
  unfold muV wnar
  rw [if_neg h0]
  simp only
  rw [h]
theorem muV_over {z c : Int} (h0 : c ≠ 0) (h : fits64 (cdiv z c) = false) : muV z c = errI 0 2 := by
  unfold muV wnar
  rw [if_neg h0]
  simp only
  rw [h]
theorem muV_arg {z c : Int} (h0 : c = 0) : muV z c = errI 0 1 := if_pos h0
theorem sqI_nn (m : Int) : 0 ≤ sqI m := by unfold sqI; omega
/-- Roots of a number that is not negative. -/
theorem roots {m : Int} (h0 : 0 ≤ m) (h1 : m ≤ 4611686018427387904) : sqI m * sqI m ≤ m ∧ 0 ≤ upI m - sqI m ∧ upI m - sqI m ≤ 1 ∧ (upI m = sqI m ↔ sqI m * sqI m = m) ∧ m ≤ upI m * upI m ∧ sqI m ≤ 2147483648 ∧ upI m ≤ 2147483649 := by
  unfold upI sqI
  obtain ⟨k, rfl⟩ : ∃ k : Nat, m = k := ⟨m.toNat, by omega⟩
  rw [Int.toNat_natCast, ← Int.natCast_mul, ← Int.natCast_mul]
  obtain ⟨s1, s2⟩ := isq_spec k
  obtain ⟨c1, c2, c3⟩ := csq_isq k
  have c4 := csq_sq k
  have hs : isq k ≤ 2147483648 := by
    rcases Nat.lt_or_ge 2147483648 (isq k) with h | h
    · have := sq_lt_of_lt h
      omega
    · exact h
  refine ⟨by omega, by omega, by omega, ?_, by omega, by omega, by omega⟩
  constructor
  · intro h
    have := c3.1 (by omega)
    omega
  · intro h
    have := c3.2 (by omega)
    omega
theorem small_sq {s : Int} (h0 : 0 ≤ s) (h1 : s ≤ 2147483649) : -9223372036854775808 ≤ s * s ∧ s * s ≤ 9223372036854775807 := by
  have a := Int.mul_nonneg h0 h0
  have b := Int.mul_le_mul h1 h1 h0 (by omega)
  omega
theorem wrap_id {z : Int} (h : -9223372036854775808 ≤ z ∧ z ≤ 9223372036854775807) : IntKind.i64.wrap z = z := i64_wrap h.1 h.2
end Go.Proofs.Ytjmdppnhpfdhdaa.W
