/-
  Products of words, row by row, column by column, in numbers.
-/
import Derived.Test.YtjmdppnhpfdhdaaWideF
namespace Go.Proofs.Ytjmdppnhpfdhdaa.W
open Go Go.Ev Go.Wide

theorem mod_succ64 (N s : Nat) : N % 2 ^ (64 * (s + 1)) = N % 2 ^ (64 * s) + wd N s * 2 ^ (64 * s) := by
  unfold wd
  rw [pow_succ64, Nat.mod_mul, Nat.mul_comm (2 ^ (64 * s))]
theorem wd_lt_add (A z s t : Nat) (h : t < s) : wd (A + z * 2 ^ (64 * s)) t = wd A t := by
  unfold wd
  have e : z * 2 ^ (64 * s) = 2 ^ (64 * t) * (18446744073709551616 * (z * 2 ^ (64 * (s - t - 1)))) := by
    have : 64 * s = 64 * t + (64 + 64 * (s - t - 1)) := by omega
    rw [this, Nat.pow_add, Nat.pow_add]
    show _ = _ * (2 ^ 64 * _)
    ac_rfl
  rw [e, Nat.add_mul_div_left _ _ (Nat.two_pow_pos _), Nat.add_mul_mod_self_left]
theorem wd_mod (P s t : Nat) (h : t < s) : wd (P % 2 ^ (64 * s)) t = wd P t := by
  have e : P = P % 2 ^ (64 * s) + P / 2 ^ (64 * s) * 2 ^ (64 * s) := by rw [Nat.mul_comm (P / _)]; exact (Nat.mod_add_div _ _).symm
  conv => rhs; rw [e]
  exact (wd_lt_add _ _ _ _ h).symm

/-- The rows before row i. -/
def rowP (M N i : Nat) : Nat := M % 2 ^ (64 * i) * N
/-- Row i's columns before column j, and the rows before, as far as they count. -/
def colA (M N i j : Nat) : Nat := rowP M N i % 2 ^ (64 * (i + j)) + wd M i * (N % 2 ^ (64 * j)) * 2 ^ (64 * i)
def carryK (M N i j : Nat) : Nat := colA M N i j / 2 ^ (64 * (i + j))
/-- The words while row i is at column j. -/
def prodW (M N i j t : Nat) : Nat := match decide (t < i + j) with | true => wd (colA M N i j) t | false => wd (rowP M N i) t
def colT (M N i j : Nat) : Nat := wd M i * wd N j + wd (rowP M N i) (i + j) + carryK M N i j

theorem colA_succ (M N i j : Nat) : colA M N i (j + 1) = colA M N i j + (wd (rowP M N i) (i + j) + wd M i * wd N j) * 2 ^ (64 * (i + j)) := by
  unfold colA
  rw [show i + (j + 1) = (i + j) + 1 by omega, mod_succ64, mod_succ64 N j, Nat.mul_add (wd M i), Nat.add_mul, Nat.add_mul (wd (rowP M N i) (i + j))]
  have e : wd M i * (wd N j * 2 ^ (64 * j)) * 2 ^ (64 * i) = wd M i * wd N j * 2 ^ (64 * (i + j)) := by
    rw [Nat.mul_add, Nat.pow_add]; ac_rfl
  rw [e]
  omega
theorem colA_div (M N i j : Nat) : colA M N i (j + 1) / 2 ^ (64 * (i + j)) = colT M N i j := by
  rw [colA_succ, Nat.add_mul_div_right _ _ (Nat.two_pow_pos _)]
  unfold colT carryK
  omega
theorem carryK_succ (M N i j : Nat) : carryK M N i (j + 1) = colT M N i j / 18446744073709551616 := by
  rw [← colA_div]
  unfold carryK
  rw [show i + (j + 1) = (i + j) + 1 by omega, pow_succ64, Nat.div_div_eq_div_mul]
theorem carryK_zero (M N i : Nat) : carryK M N i 0 = 0 := by
  unfold carryK colA
  rw [Nat.mul_zero, Nat.pow_zero, Nat.mod_one, Nat.mul_zero, Nat.zero_mul, Nat.add_zero, Nat.add_zero]
  exact Nat.div_eq_of_lt (Nat.mod_lt _ (Nat.two_pow_pos _))
theorem colT_lt (M N i j : Nat) (h : carryK M N i j < 18446744073709551616) : colT M N i j < 18446744073709551616 * 18446744073709551616 := by
  unfold colT
  have h1 := wd_lt M i
  have h2 := wd_lt N j
  have h3 := wd_lt (rowP M N i) (i + j)
  have : wd M i * wd N j ≤ 18446744073709551615 * 18446744073709551615 := Nat.mul_le_mul (by omega) (by omega)
  omega
theorem carryK_lt (M N i : Nat) : ∀ j, carryK M N i j < 18446744073709551616
  | 0 => by rw [carryK_zero]; omega
  | j + 1 => by
    rw [carryK_succ]
    have := colT_lt M N i j (carryK_lt M N i j)
    exact Nat.div_lt_of_lt_mul this
theorem wd_colA (M N i j : Nat) : wd (colA M N i (j + 1)) (i + j) = colT M N i j % 18446744073709551616 := by
  unfold wd
  rw [colA_div]
theorem prodW_zero (M N i t : Nat) : prodW M N i 0 t = wd (rowP M N i) t := by
  unfold prodW
  by_cases h : t < i + 0
  · rw [decide_eq_true h]
    simp only
    unfold colA
    rw [Nat.mul_zero, Nat.pow_zero, Nat.mod_one, Nat.mul_zero, Nat.zero_mul, Nat.add_zero]
    exact wd_mod _ _ _ h
  · rw [decide_eq_false h]
/-- One column more. -/
theorem prodW_succ (M N i j t : Nat) : prodW M N i (j + 1) t = if t = i + j then colT M N i j % 18446744073709551616 else prodW M N i j t := by
  unfold prodW
  by_cases h : t = i + j
  · subst h
    rw [if_pos rfl, decide_eq_true (by omega)]
    exact wd_colA M N i j
  · rw [if_neg h]
    by_cases h1 : t < i + j
    · rw [decide_eq_true h1, decide_eq_true (by omega)]
      simp only
      rw [colA_succ, wd_lt_add _ _ _ _ h1]
    · rw [decide_eq_false h1, decide_eq_false (by omega)]
theorem rowP_lt (M N i c : Nat) (hN : N < 2 ^ (64 * c)) : rowP M N i < 2 ^ (64 * (i + c)) := by
  unfold rowP
  rw [Nat.mul_add, Nat.pow_add]
  have h1 : M % 2 ^ (64 * i) < 2 ^ (64 * i) := Nat.mod_lt _ (Nat.two_pow_pos _)
  have h2 : M % 2 ^ (64 * i) * N ≤ 2 ^ (64 * i) * N := Nat.mul_le_mul_right _ (Nat.le_of_lt h1)
  have h3 : 2 ^ (64 * i) * N < 2 ^ (64 * i) * 2 ^ (64 * c) := Nat.mul_lt_mul_of_pos_left hN (Nat.two_pow_pos _)
  omega
theorem colA_all (M N i c : Nat) (hN : N < 2 ^ (64 * c)) : colA M N i c = rowP M N (i + 1) := by
  unfold colA
  rw [Nat.mod_eq_of_lt (rowP_lt M N i c hN), Nat.mod_eq_of_lt hN]
  unfold rowP
  rw [mod_succ64, Nat.add_mul]
  have : wd M i * N * 2 ^ (64 * i) = wd M i * 2 ^ (64 * i) * N := by ac_rfl
  omega
theorem carryK_all (M N i c : Nat) (hN : N < 2 ^ (64 * c)) : carryK M N i c = wd (rowP M N (i + 1)) (i + c) := by
  have h := carryK_lt M N i c
  unfold carryK at *
  rw [colA_all M N i c hN] at *
  unfold wd
  rw [Nat.mod_eq_of_lt h]
/-- The row's end. -/
theorem prodW_all (M N i c t : Nat) (hN : N < 2 ^ (64 * c)) : (if t = i + c then carryK M N i c else prodW M N i c t) = wd (rowP M N (i + 1)) t := by
  by_cases h : t = i + c
  · subst h
    rw [if_pos rfl]
    exact carryK_all M N i c hN
  · rw [if_neg h]
    unfold prodW
    by_cases h1 : t < i + c
    · rw [decide_eq_true h1]
      simp only
      rw [colA_all M N i c hN]
    · rw [decide_eq_false h1]
      have hz : ∀ P, P < 2 ^ (64 * (i + 1 + c)) → wd P t = 0 := fun P hP => by
        unfold wd
        rw [Nat.div_eq_of_lt (Nat.lt_of_lt_of_le hP (Nat.pow_le_pow_right (by omega) (by omega)))]
      simp only
      rw [hz _ (Nat.lt_of_lt_of_le (rowP_lt M N i c hN) (Nat.pow_le_pow_right (by omega) (by omega))), hz _ (rowP_lt M N (i + 1) c hN)]
end Go.Proofs.Ytjmdppnhpfdhdaa.W
