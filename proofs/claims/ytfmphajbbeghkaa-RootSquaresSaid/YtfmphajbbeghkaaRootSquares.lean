/-
  RootSquares: roots of squares and of their neighbours.
-/
import Derived.Test.YtfmphajbbeghkaaRootM
namespace Go.Proofs.Ytfmphajbbeghkaa.W
open Go Go.Ev Go.Wide

def n31 (n : Int) : Int := andK n 2147483647
theorem n31_eq (n : Int) : andK n 2147483647 = n31 n := rfl
theorem n31_range (n : Int) : 0 ≤ n31 n ∧ n31 n < 2147483648 := by
  have h : n31 n = n % ((2 ^ 31 : Nat) : Int) := andK_eq n 2147483647 31 (by decide) (by omega)
  have e : ((2 ^ 31 : Nat) : Int) = 2147483648 := by decide
  rw [h, e]
  omega
theorem csq_min {n a : Nat} (h : n ≤ a * a) : csq n ≤ a := by
  have s := isq_spec n
  unfold csq
  split
  · rcases Nat.lt_or_ge (isq n) a with h1 | h1
    · omega
    · have := sq_le_of_le h1
      omega
  · rcases Nat.lt_or_ge a (isq n) with h1 | h1
    · have := sq_lt_of_lt h1
      omega
    · omega
theorem csq_gt {n a : Nat} (h : a * a < n) : a < csq n := by
  have s := csq_sq n
  rcases Nat.lt_or_ge a (csq n) with h1 | h1
  · exact h1
  · have := sq_le_of_le h1
    omega
theorem squares {m : Int} (h : 0 ≤ m) : sqI (m * m) = m ∧ upI (m * m) = m ∧ m ≤ sqI (m * m + 1) ∧ upI (m * m + 1) = m + 1 ∧ (¬ m < 2 → sqI (m * m - 1) = m - 1 ∧ upI (m * m - 1) = m) := by
  obtain ⟨k, rfl⟩ : ∃ k : Nat, m = k := ⟨m.toNat, by omega⟩
  have e : (k + 1) * (k + 1) = k * k + 2 * k + 1 := by grind
  unfold sqI upI
  rw [← Int.natCast_mul]
  have t1 : (((k * k : Nat) : Int)).toNat = k * k := Int.toNat_natCast _
  have t2 : (((k * k : Nat) : Int) + 1).toNat = k * k + 1 := by omega
  have t3 : (((k * k : Nat) : Int) - 1).toNat = k * k - 1 := by omega
  rw [t1, t2, t3]
  have i1 : isq (k * k) = k := isq_eq (Nat.le_refl _) (by omega)
  have c1 := csq_min (n := k * k) (a := k) (Nat.le_refl _)
  have c2 := csq_isq (k * k)
  have i2 : k ≤ isq (k * k + 1) := isq_le (by omega)
  have c3 := csq_min (n := k * k + 1) (a := k + 1) (by omega)
  have c4 := csq_gt (n := k * k + 1) (a := k) (by omega)
  refine ⟨by omega, by omega, by omega, by omega, fun h2 => ?_⟩
  obtain ⟨j, rfl⟩ : ∃ j, k = j + 1 := ⟨k - 1, by omega⟩
  have e2 : (j + 1) * (j + 1) = j * j + 2 * j + 1 := by grind
  have i3 : isq ((j + 1) * (j + 1) - 1) = j := isq_eq (by omega) (by omega)
  have c5 := csq_min (n := (j + 1) * (j + 1) - 1) (a := j + 1) (by omega)
  have c6 := csq_gt (n := (j + 1) * (j + 1) - 1) (a := j) (by omega)
  omega
theorem max_is {m r : Int} (h : m ≤ r) : r = if r > m then r else m := by split <;> omega
theorem rootSquares_pc {n : Int} : PC Try.prog 7 [.int .i64 (n)] (.bool true) := by
  have hfl : [.int .i64 (n)].all flat = true := by simp [show flat (Value.int .i64 n) = true from rfl]
  have hm := n31_range n
  obtain ⟨q1, q2, q3, q4, q5⟩ := squares hm.1
  have hb := Int.mul_le_mul (show n31 n ≤ 2147483647 by omega) (show n31 n ≤ 2147483647 by omega) hm.1 (by omega)
  have hnn := Int.mul_nonneg hm.1 hm.1
  by_cases h2 : n31 n < 2
  ·
    exact PC.run mixed Try.func7 [.at 2 (.int .i64 (n31 n)), .at 3 (.int .i64 (n31 n * n31 n)), .res (.int .i64 (n31 n)), .tst true, .res (.int .i64 (n31 n)), .tst true, .at 1 (.int .i64 (n31 n * n31 n + 1)), .res (.int .i64 (sqI (n31 n * n31 n + 1))), .at 3 (.int .i64 (n31 n * n31 n + 1)), .res (.int .i64 (sqI (n31 n * n31 n + 1))), .tst true, .at 1 (.int .i64 (n31 n * n31 n + 1)), .res (.int .i64 (n31 n + 1)), .at 2 (.int .i64 (n31 n + 1)), .tst true, .tst true, .res (.bool true)] hfl (ts11 (tT (n31_eq n)) (tT (wrap_id (z := n31 n * n31 n) (by omega))) (tT (p := n31 n = n31 n) rfl) (tT (p := n31 n = n31 n) rfl) (tT (wrap_id (z := n31 n * n31 n + 1) (by omega))) (tT (wrap_id (z := n31 n * n31 n + 1) (by omega))) (tT (max_is q3)) (tT (wrap_id (z := n31 n * n31 n + 1) (by omega))) (tT (wrap_id (z := n31 n + 1) (by omega))) (tT (p := n31 n + 1 = n31 n + 1) rfl) (tT h2)) (qs6 (sqrt_is (n := n31 n * n31 n) (r := n31 n) q1 (by omega) (by omega)) (up_is (n := n31 n * n31 n) (r := n31 n) q2 (by omega) (by omega)) (sqrt_is (n := n31 n * n31 n + 1) (r := sqI (n31 n * n31 n + 1)) rfl (by omega) (by omega)) (sqrt_is (n := n31 n * n31 n + 1) (r := sqI (n31 n * n31 n + 1)) rfl (by omega) (by omega)) (up_is (n := n31 n * n31 n + 1) (r := n31 n + 1) q4 (by omega) (by omega)) (awakeR)) (rfl) (rfl) (by kernel_rfl)
  ·
    exact PC.run mixed Try.func7 [.at 2 (.int .i64 (n31 n)), .at 3 (.int .i64 (n31 n * n31 n)), .res (.int .i64 (n31 n)), .tst true, .res (.int .i64 (n31 n)), .tst true, .at 1 (.int .i64 (n31 n * n31 n + 1)), .res (.int .i64 (sqI (n31 n * n31 n + 1))), .at 3 (.int .i64 (n31 n * n31 n + 1)), .res (.int .i64 (sqI (n31 n * n31 n + 1))), .tst true, .at 1 (.int .i64 (n31 n * n31 n + 1)), .res (.int .i64 (n31 n + 1)), .at 2 (.int .i64 (n31 n + 1)), .tst true, .tst false, .at 1 (.int .i64 (n31 n * n31 n - 1)), .res (.int .i64 (n31 n - 1)), .at 2 (.int .i64 (n31 n - 1)), .tst true, .at 1 (.int .i64 (n31 n * n31 n - 1)), .res (.int .i64 (n31 n)), .tst true, .res (.bool true)] hfl (tsC (tT (n31_eq n)) (tsC (tT (wrap_id (z := n31 n * n31 n) (by omega))) (tsC (tT (p := n31 n = n31 n) rfl) (tsC (tT (p := n31 n = n31 n) rfl) (tsC (tT (wrap_id (z := n31 n * n31 n + 1) (by omega))) (tsC (tT (wrap_id (z := n31 n * n31 n + 1) (by omega))) (tsC (tT (max_is q3)) (tsC (tT (wrap_id (z := n31 n * n31 n + 1) (by omega))) (tsC (tT (wrap_id (z := n31 n + 1) (by omega))) (tsC (tT (p := n31 n + 1 = n31 n + 1) rfl) (tsC (tF h2) (tsC (tT (wrap_id (z := n31 n * n31 n - 1) (by omega))) (tsC (tT (wrap_id (z := n31 n - 1) (by omega))) (tsC (tT (p := n31 n - 1 = n31 n - 1) rfl) (tsC (tT (wrap_id (z := n31 n * n31 n - 1) (by omega))) (tsC (tT (p := n31 n = n31 n) rfl) ts0)))))))))))))))) (qs8 (sqrt_is (n := n31 n * n31 n) (r := n31 n) q1 (by omega) (by omega)) (up_is (n := n31 n * n31 n) (r := n31 n) q2 (by omega) (by omega)) (sqrt_is (n := n31 n * n31 n + 1) (r := sqI (n31 n * n31 n + 1)) rfl (by omega) (by omega)) (sqrt_is (n := n31 n * n31 n + 1) (r := sqI (n31 n * n31 n + 1)) rfl (by omega) (by omega)) (up_is (n := n31 n * n31 n + 1) (r := n31 n + 1) q4 (by omega) (by omega)) (sqrt_is (n := n31 n * n31 n - 1) (r := n31 n - 1) (q5 h2).1 (by omega) (by omega)) (up_is (n := n31 n * n31 n - 1) (r := n31 n) (q5 h2).2 (by omega) (by omega)) (awakeR)) (rfl) (rfl) (by kernel_rfl)
theorem enters_rootSquares : ∀ us w, (callFunc 7 us).run Try.prog w = .ok (.enter 7 us) w := enters Try.func7 rfl (by kernel_rfl)
end Go.Proofs.Ytfmphajbbeghkaa.W
