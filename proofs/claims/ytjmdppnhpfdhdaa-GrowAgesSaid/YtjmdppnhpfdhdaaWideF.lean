/-
  Shifts of words, as numbers and as the program computes them.
-/
import Derived.Test.YtjmdppnhpfdhdaaWideE
namespace Go.Proofs.Ytjmdppnhpfdhdaa.W
open Go Go.Ev Go.Wide

/-! ### Plain shifts of words -/
theorem or_add {a b k : Nat} (hb : b < 2 ^ k) : (2 ^ k * a ||| b) = 2 ^ k * a + b := (Nat.two_pow_add_eq_or_of_lt hb a).symm
/-- Two neighbouring words of a number that is shifted by less than a word: Q = lo + B (hi + ..), over 2 ^ k. -/
theorem pair_shift (Q k : Nat) (hk : k ≤ 64) : Q / 2 ^ k % 18446744073709551616 = (Q % 18446744073709551616) / 2 ^ k + (Q / 18446744073709551616 % 18446744073709551616 * 2 ^ (64 - k)) % 18446744073709551616 := by
  have hB : (18446744073709551616 : Nat) = 2 ^ k * 2 ^ (64 - k) := by rw [← Nat.pow_add, Nat.add_sub_cancel' hk]
  have hp : 0 < 2 ^ k := Nat.two_pow_pos _
  have hq : 0 < 2 ^ (64 - k) := Nat.two_pow_pos _
  generalize he : (18446744073709551616 : Nat) = B at *
  generalize hX : 2 ^ k = X at *
  generalize hY : 2 ^ (64 - k) = Y at *
  have h1 : Q = B * (Q / B) + Q % B := (Nat.div_add_mod Q B).symm
  have h2 : Q / X = Q % B / X + Y * (Q / B) := by
    have : Q = Q % B + X * (Y * (Q / B)) := by rw [← Nat.mul_assoc, ← hB]; omega
    conv => lhs; rw [this]
    rw [Nat.add_mul_div_left _ _ hp]
  have hlt : Q % B / X < Y := by
    rw [Nat.div_lt_iff_lt_mul hp, Nat.mul_comm, ← hB]
    exact Nat.mod_lt _ (by rw [hB]; exact Nat.mul_pos hp hq)
  have h3 : (Y * (Q / B)) % B = (Q / B % B * Y) % B := by
    rw [Nat.mul_comm, Nat.mul_mod (Q / B) Y B, Nat.mul_mod (Q / B % B) Y B, Nat.mod_mod]
  have h4 : ∃ z, (Q / B % B * Y) % B = Y * z ∧ z < X := by
    refine ⟨(Q / B % B) % X, ?_, Nat.mod_lt _ hp⟩
    rw [hB, Nat.mul_mod_mul_right, Nat.mul_comm]
  obtain ⟨z, hz, hzx⟩ := h4
  rw [h2, Nat.add_mod, h3, hz]
  have hlt2 : Q % B / X + Y * z < B := by
    have : Y * z + Y ≤ Y * X := by rw [← Nat.mul_succ]; exact Nat.mul_le_mul_left _ hzx
    have hBY : B = Y * X := by rw [hB, Nat.mul_comm]
    omega
  have : Q % B / X < B := by omega
  rw [Nat.mod_eq_of_lt this, Nat.mod_eq_of_lt hlt2]

/-- The words of N / 2 ^ (64 s + r). -/
theorem wd_down (N s r i : Nat) (hr : r ≤ 64) : wd (N / 2 ^ (64 * s + r)) i = wd N (i + s) / 2 ^ r + wd N (i + s + 1) * 2 ^ (64 - r) % 18446744073709551616 := by
  have h1 : N / 2 ^ (64 * s + r) / 2 ^ (64 * i) = N / 2 ^ (64 * (i + s)) / 2 ^ r := by
    rw [Nat.div_div_eq_div_mul, Nat.div_div_eq_div_mul, ← Nat.pow_add, ← Nat.pow_add]
    congr 2; omega
  have h2 : N / 2 ^ (64 * (i + s + 1)) = N / 2 ^ (64 * (i + s)) / 18446744073709551616 := by rw [pow_succ64, Nat.div_div_eq_div_mul]
  unfold wd
  rw [h1, pair_shift _ r hr, h2]
/-- The words of N * 2 ^ (64 s + r). -/
theorem wd_up (N s r d : Nat) (hr : r < 64) : wd (N * 2 ^ (64 * s + r)) (d + s) = wd N d * 2 ^ r % 18446744073709551616 + (match d with | 0 => 0 | d + 1 => wd N d / 2 ^ (64 - r)) := by
  have h1 : N * 2 ^ (64 * s + r) / 2 ^ (64 * (d + s)) = N * 2 ^ r / 2 ^ (64 * d) := by
    rw [show 64 * (d + s) = 64 * d + 64 * s by omega, Nat.pow_add 2 (64 * s) r, Nat.pow_add 2 (64 * d), show N * (2 ^ (64 * s) * 2 ^ r) = N * 2 ^ r * 2 ^ (64 * s) by ac_rfl]
    exact Nat.mul_div_mul_right _ _ (Nat.two_pow_pos _)
  unfold wd
  rw [h1]
  cases d with
  | zero => simp [Nat.mul_mod]
  | succ d =>
    have h2 : N * 2 ^ r / 2 ^ (64 * (d + 1)) = N / 2 ^ (64 * d) / 2 ^ (64 - r) := by
      rw [Nat.div_div_eq_div_mul, ← Nat.pow_add, show 64 * (d + 1) = (64 * d + (64 - r)) + r by omega, Nat.pow_add]
      exact Nat.mul_div_mul_right _ _ (Nat.two_pow_pos _)
    have h3 : N / 2 ^ (64 * (d + 1)) = N / 2 ^ (64 * d) / 18446744073709551616 := by rw [pow_succ64, Nat.div_div_eq_div_mul]
    rw [h2, pair_shift _ (64 - r) (by omega), h3, show 64 - (64 - r) = r by omega, Nat.add_comm]
theorem wd_up_low (N s r i : Nat) (h : i < s) : wd (N * 2 ^ (64 * s + r)) i = 0 := by
  unfold wd
  have h1 : N * 2 ^ (64 * s + r) / 2 ^ (64 * i) = N * 2 ^ (64 * (s - i - 1) + r) * 18446744073709551616 := by
    have : 64 * s + r = (64 * (s - i - 1) + r) + 64 + 64 * i := by omega
    rw [this, Nat.pow_add, Nat.pow_add, ← Nat.mul_assoc, Nat.mul_div_cancel _ (Nat.two_pow_pos _), ← Nat.mul_assoc]
  rw [h1, Nat.mul_mod_left]

theorem T16_le (d : Nat) : T16 ≤ 2 ^ (64 * (d + 16)) := by
  have e : ∀ n m, n ≤ m → pw n ≤ 2 ^ m := fun n m h => by rw [pw_eq]; exact Nat.pow_le_pow_right (by omega) h
  rw [T16_eq]
  exact e _ _ (by omega)

/-! ### As the program computes -/
def shlI (x r : Int) : Int := IntKind.u64.wrap (x * 2 ^ (min r.toNat 64))
def shrI (x r : Int) : Int := x.fdiv (2 ^ (min r.toNat 64))
def orI (x y : Int) : Int := IntKind.u64.wrap (BitVec.ofInt 64 x ||| BitVec.ofInt 64 y).toNat
def restI (r : Int) : Int := IntKind.i64.wrap (64 - r)
theorem shlI_eq (x r : Nat) (hr : r ≤ 64) : shlI x r = ((x * 2 ^ r % 18446744073709551616 : Nat) : Int) := by
  unfold shlI
  have e : (x : Int) * (2 : Int) ^ r = ((x * 2 ^ r : Nat) : Int) := by push_cast; rfl
  rw [Int.toNat_natCast, Nat.min_eq_left hr, e, u64_wrap]
  generalize x * 2 ^ r = z
  omega
theorem shrI_eq (x r : Nat) (hr : r ≤ 64) : shrI x r = ((x / 2 ^ r : Nat) : Int) := by
  unfold shrI
  rw [Int.toNat_natCast, Nat.min_eq_left hr]
  have : ((2 : Int) ^ r) = ((2 ^ r : Nat) : Int) := by push_cast; rfl
  rw [this, fdiv_lit]
  rfl
theorem restI_eq {r : Nat} (hr : r ≤ 64) : restI r = ((64 - r : Nat) : Int) := by
  unfold restI
  rw [i64_wrap (by omega) (by omega)]
  omega
theorem orI_eq {x y : Nat} (hx : x < 18446744073709551616) (hy : y < 18446744073709551616) : orI x y = ((x ||| y : Nat) : Int) := by
  unfold orI
  have hlt : x ||| y < 2 ^ 64 := Nat.or_lt_two_pow hx hy
  have e : ∀ z : Nat, z < 18446744073709551616 → (BitVec.ofInt 64 (z : Int)).toNat = z := fun z hz => by
    rw [BitVec.toNat_ofInt]; omega
  rw [BitVec.toNat_or, e x hx, e y hy, u64_wrap]
  have : (2 : Nat) ^ 64 = 18446744073709551616 := by decide
  omega
end Go.Proofs.Ytjmdppnhpfdhdaa.W
