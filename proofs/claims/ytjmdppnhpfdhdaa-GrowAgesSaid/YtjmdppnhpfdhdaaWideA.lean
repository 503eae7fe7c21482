/-
  Plain numbers: a number's words, carries, borrows. No program.
-/
import Derived.Test.YtjmdppnhpfdhdaaEvH
namespace Go.Wide

/-- Word i of N. -/
def wd (N i : Nat) : Nat := N / 2 ^ (64 * i) % 18446744073709551616

theorem wd_lt (N i : Nat) : wd N i < 18446744073709551616 := Nat.mod_lt _ (by decide)
theorem wd_eq_zero {N i : Nat} (h : N < 2 ^ (64 * i)) : wd N i = 0 := by
  unfold wd
  rw [Nat.div_eq_of_lt h]

/-- What 16 words hold. -/
def pw : Nat → Nat
  | 0 => 1
  | n + 1 => 2 * pw n
theorem pw_eq : ∀ n, pw n = 2 ^ n
  | 0 => rfl
  | n + 1 => by rw [pw, pw_eq n, Nat.pow_succ, Nat.mul_comm]
theorem pw_succ (n : Nat) : pw (n + 1) = 2 * pw n := rfl
theorem pw_pos (n : Nat) : 0 < pw n := by rw [pw_eq]; exact Nat.two_pow_pos _
def T16 : Nat := pw (64 * 15 + 64)
theorem T16_eq : T16 = pw (64 * 15 + 64) := by rw [T16]
/-- A magnitude of the program: 16 words. -/
def words (N : Nat) : List Value := (List.range 16).map fun i => .int .u64 (wd N i)
def mag (N : Nat) : Value := .agg (words N).toArray

theorem pow_succ64 (i : Nat) : 2 ^ (64 * (i + 1)) = 2 ^ (64 * i) * 18446744073709551616 := by
  rw [Nat.mul_add, Nat.pow_add]

/-! Sums -/
def car (M N i : Nat) : Nat := (M % 2 ^ (64 * i) + N % 2 ^ (64 * i)) / 2 ^ (64 * i)
theorem car_le (M N i : Nat) : car M N i ≤ 1 := by
  unfold car
  have hp : 0 < 2 ^ (64 * i) := Nat.two_pow_pos _
  have h1 := Nat.mod_lt M hp
  have h2 := Nat.mod_lt N hp
  have : (M % 2 ^ (64 * i) + N % 2 ^ (64 * i)) / 2 ^ (64 * i) < 2 := Nat.div_lt_of_lt_mul (by omega)
  omega
theorem add_div_car (M N i : Nat) : (M + N) / 2 ^ (64 * i) = M / 2 ^ (64 * i) + N / 2 ^ (64 * i) + car M N i := by
  unfold car
  have hp : 0 < 2 ^ (64 * i) := Nat.two_pow_pos _
  generalize 2 ^ (64 * i) = X at hp
  have e1 := Nat.div_add_mod M X
  have e2 := Nat.div_add_mod N X
  have : M + N = (M % X + N % X) + X * (M / X + N / X) := by rw [Nat.mul_add]; omega
  rw [this, Nat.add_mul_div_left _ _ hp]
  have h3 : (M % X + N % X + X * (M / X + N / X)) = M + N := this.symm
  omega
theorem wd_add (M N i : Nat) : wd (M + N) i = (wd M i + wd N i + car M N i) % 18446744073709551616 := by
  unfold wd
  rw [add_div_car]
  omega
theorem car_succ (M N i : Nat) : car M N (i + 1) = (wd M i + wd N i + car M N i) / 18446744073709551616 := by
  have h1 := add_div_car M N i
  have h2 := add_div_car M N (i + 1)
  have e : ∀ K, K / 2 ^ (64 * (i + 1)) = K / 2 ^ (64 * i) / 18446744073709551616 := fun K => by rw [pow_succ64, Nat.div_div_eq_div_mul]
  rw [e, e, e, h1] at h2
  unfold wd
  have hc := car_le M N i
  omega
theorem car_zero (M N : Nat) : car M N 0 = 0 := by simp [car, Nat.mod_one]

/-! Differences -/
def bor (M N i : Nat) : Nat := if M % 2 ^ (64 * i) < N % 2 ^ (64 * i) then 1 else 0
theorem bor_le (M N i : Nat) : bor M N i ≤ 1 := by unfold bor; split <;> omega
theorem sub_div_bor {M N : Nat} (h : N ≤ M) (i : Nat) : (M - N) / 2 ^ (64 * i) + N / 2 ^ (64 * i) + bor M N i = M / 2 ^ (64 * i) := by
  have h1 := add_div_car (M - N) N i
  rw [Nat.sub_add_cancel h] at h1
  have : car (M - N) N i = bor M N i := by
    unfold car bor
    have hp : 0 < 2 ^ (64 * i) := Nat.two_pow_pos _
    generalize 2 ^ (64 * i) = X at hp
    have e1 := Nat.mod_lt N hp
    have e2 := Nat.mod_lt (M - N) hp
    have e3 : ((M - N) % X + N % X) % X = M % X := by rw [← Nat.add_mod, Nat.sub_add_cancel h]
    by_cases hb : (M - N) % X + N % X < X
    · rw [Nat.div_eq_of_lt hb]
      rw [Nat.mod_eq_of_lt hb] at e3
      rw [if_neg (by omega)]
    · have e4 : ((M - N) % X + N % X) / X = 1 := by
        rw [Nat.div_eq_sub_div hp (by omega), Nat.div_eq_of_lt (by omega)]
      rw [e4]
      have e5 : ((M - N) % X + N % X) % X = (M - N) % X + N % X - X := by
        rw [Nat.mod_eq_sub_mod (by omega), Nat.mod_eq_of_lt (by omega)]
      rw [if_pos (by omega)]
  omega
theorem bor_zero (M N : Nat) : bor M N 0 = 0 := by simp [bor, Nat.mod_one]
/-- What one step of a subtraction gives. -/
theorem wd_sub {M N : Nat} (h : N ≤ M) (i : Nat) : (wd (M - N) i : Int) = ((wd M i : Int) - wd N i - bor M N i) % 18446744073709551616 := by
  have h1 := sub_div_bor h i
  unfold wd
  omega
theorem bor_succ {M N : Nat} (h : N ≤ M) (i : Nat) : (bor M N (i + 1) : Nat) = if wd M i < wd N i + bor M N i then 1 else 0 := by
  have h1 := sub_div_bor h i
  have h2 := sub_div_bor h (i + 1)
  have e : ∀ K, K / 2 ^ (64 * (i + 1)) = K / 2 ^ (64 * i) / 18446744073709551616 := fun K => by rw [pow_succ64, Nat.div_div_eq_div_mul]
  rw [e, e, e] at h2
  unfold wd
  have hc := bor_le M N i
  have hc2 := bor_le M N (i + 1)
  split <;> omega

end Go.Wide
