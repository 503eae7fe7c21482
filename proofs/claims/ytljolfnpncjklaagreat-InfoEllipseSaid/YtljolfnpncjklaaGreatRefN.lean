/-
  Words of 32 bits, in numbers: no program.
-/
import Derived.Test.YtljolfnpncjklaaGreatWide1
namespace Go.W32
open Go
open Go.Proofs.YtljolfnpncjklaaGreat.W (bitLen_lt_iff)


/-- Word i of N. -/
def wd (N i : Nat) : Nat := N / 2 ^ (32 * i) % 4294967296

theorem wd_lt (N i : Nat) : wd N i < 4294967296 := Nat.mod_lt _ (by decide)
theorem wd_eq_zero {N i : Nat} (h : N < 2 ^ (32 * i)) : wd N i = 0 := by
  unfold wd
  rw [Nat.div_eq_of_lt h]

theorem pow_succ32 (i : Nat) : 2 ^ (32 * (i + 1)) = 2 ^ (32 * i) * 4294967296 := by
  rw [Nat.mul_add, Nat.pow_add]

/-! Sums -/
def car (M N i : Nat) : Nat := (M % 2 ^ (32 * i) + N % 2 ^ (32 * i)) / 2 ^ (32 * i)
theorem car_le (M N i : Nat) : car M N i ≤ 1 := by
  unfold car
  have hp : 0 < 2 ^ (32 * i) := Nat.two_pow_pos _
  have h1 := Nat.mod_lt M hp
  have h2 := Nat.mod_lt N hp
  have : (M % 2 ^ (32 * i) + N % 2 ^ (32 * i)) / 2 ^ (32 * i) < 2 := Nat.div_lt_of_lt_mul (by omega)
  omega
theorem add_div_car (M N i : Nat) : (M + N) / 2 ^ (32 * i) = M / 2 ^ (32 * i) + N / 2 ^ (32 * i) + car M N i := by
  unfold car
  have hp : 0 < 2 ^ (32 * i) := Nat.two_pow_pos _
  generalize 2 ^ (32 * i) = X at hp
  have e1 := Nat.div_add_mod M X
  have e2 := Nat.div_add_mod N X
  have : M + N = (M % X + N % X) + X * (M / X + N / X) := by rw [Nat.mul_add]; omega
  rw [this, Nat.add_mul_div_left _ _ hp]
  have h3 : (M % X + N % X + X * (M / X + N / X)) = M + N := this.symm
  omega
theorem wd_add (M N i : Nat) : wd (M + N) i = (wd M i + wd N i + car M N i) % 4294967296 := by
  unfold wd
  rw [add_div_car]
  omega
theorem car_succ (M N i : Nat) : car M N (i + 1) = (wd M i + wd N i + car M N i) / 4294967296 := by
  have h1 := add_div_car M N i
  have h2 := add_div_car M N (i + 1)
  have e : ∀ K, K / 2 ^ (32 * (i + 1)) = K / 2 ^ (32 * i) / 4294967296 := fun K => by rw [pow_succ32, Nat.div_div_eq_div_mul]
  rw [e, e, e, h1] at h2
  unfold wd
  have hc := car_le M N i
  omega
theorem car_zero (M N : Nat) : car M N 0 = 0 := by simp [car, Nat.mod_one]

/-! Differences -/
def bor (M N i : Nat) : Nat := if M % 2 ^ (32 * i) < N % 2 ^ (32 * i) then 1 else 0
theorem bor_le (M N i : Nat) : bor M N i ≤ 1 := by unfold bor; split <;> omega
theorem sub_div_bor {M N : Nat} (h : N ≤ M) (i : Nat) : (M - N) / 2 ^ (32 * i) + N / 2 ^ (32 * i) + bor M N i = M / 2 ^ (32 * i) := by
  have h1 := add_div_car (M - N) N i
  rw [Nat.sub_add_cancel h] at h1
  have : car (M - N) N i = bor M N i := by
    unfold car bor
    have hp : 0 < 2 ^ (32 * i) := Nat.two_pow_pos _
    generalize 2 ^ (32 * i) = X at hp
    have e1 := Nat.mod_lt N hp
    have e2 := Nat.mod_lt (M - N) hp
    have e3 : ((M - N) % X + N % X) % X = M % X := by rw [← Nat.add_mod, Nat.sub_add_cancel h]
    by_cases hb : (M - N) % X + N % X < X
    · rw [Nat.div_eq_of_lt hb]
      rw [Nat.mod_eq_of_lt hb] at e3
      rw [if_neg (by omega)]
    · have e4 : ((M - N) % X + N % X) / X = 1 := by
        rw [Nat.div_eq_sub_div hp (by omega), Nat.div_eq_of_lt (by omega)]
      rw [e4]
      have e5 : ((M - N) % X + N % X) % X = (M - N) % X + N % X - X := by
        rw [Nat.mod_eq_sub_mod (by omega), Nat.mod_eq_of_lt (by omega)]
      rw [if_pos (by omega)]
  omega
theorem bor_zero (M N : Nat) : bor M N 0 = 0 := by simp [bor, Nat.mod_one]
/-- What one step of a subtraction gives. -/
theorem wd_sub {M N : Nat} (h : N ≤ M) (i : Nat) : (wd (M - N) i : Int) = ((wd M i : Int) - wd N i - bor M N i) % 4294967296 := by
  have h1 := sub_div_bor h i
  unfold wd
  omega
theorem bor_succ {M N : Nat} (h : N ≤ M) (i : Nat) : (bor M N (i + 1) : Nat) = if wd M i < wd N i + bor M N i then 1 else 0 := by
  have h1 := sub_div_bor h i
  have h2 := sub_div_bor h (i + 1)
  have e : ∀ K, K / 2 ^ (32 * (i + 1)) = K / 2 ^ (32 * i) / 4294967296 := fun K => by rw [pow_succ32, Nat.div_div_eq_div_mul]
  rw [e, e, e] at h2
  unfold wd
  have hc := bor_le M N i
  have hc2 := bor_le M N (i + 1)
  split <;> omega

/-- The number of words of N. -/
def nw (N : Nat) : Nat := (bitLen N + 31) / 32
theorem lt_nw (N : Nat) : N < 2 ^ (32 * nw N) := by
  refine Nat.lt_of_lt_of_le (bitLen_spec N).1 (Nat.pow_le_pow_right (by omega) ?_)
  unfold nw; omega
theorem nw_le {N k : Nat} (h : N < 2 ^ (32 * k)) : nw N ≤ k := by
  have := bitLen_lt_iff.2 h
  unfold nw; omega
theorem nw_top {N : Nat} (h : nw N ≠ 0) : N / 2 ^ (32 * (nw N - 1)) ≠ 0 ∧ N / 2 ^ (32 * (nw N - 1)) < 4294967296 := by
  have hl := bitLen_spec N
  have hn : N ≠ 0 := fun e => by subst e; exact h (by simp [nw, bitLen])
  have h2 := hl.2 hn
  constructor
  · have : 2 ^ (32 * (nw N - 1)) ≤ 2 ^ (bitLen N - 1) := Nat.pow_le_pow_right (by omega) (by unfold nw at *; omega)
    have hp : 0 < 2 ^ (32 * (nw N - 1)) := Nat.two_pow_pos _
    have := Nat.div_pos (Nat.le_trans this h2) hp
    omega
  · rw [Nat.div_lt_iff_lt_mul (Nat.two_pow_pos _)]
    have := lt_nw N
    have e : 4294967296 * 2 ^ (32 * (nw N - 1)) = 2 ^ (32 * nw N) := by
      rw [show 32 * nw N = 32 + 32 * (nw N - 1) by omega, Nat.pow_add]
    omega
theorem wd_top {N : Nat} (h : nw N ≠ 0) : wd N (nw N - 1) = N / 2 ^ (32 * (nw N - 1)) := Nat.mod_eq_of_lt (nw_top h).2
theorem bitLen_nw {N : Nat} (h : nw N ≠ 0) : bitLen N = 32 * (nw N - 1) + bitLen (wd N (nw N - 1)) := by
  rw [wd_top h]
  exact bitLen_shift N _ (nw_top h).1

theorem mod_succ32 (N s : Nat) : N % 2 ^ (32 * (s + 1)) = N % 2 ^ (32 * s) + wd N s * 2 ^ (32 * s) := by
  unfold wd
  rw [pow_succ32, Nat.mod_mul, Nat.mul_comm (2 ^ (32 * s))]
theorem wd_lt_add (A z s t : Nat) (h : t < s) : wd (A + z * 2 ^ (32 * s)) t = wd A t := by
  unfold wd
  have e : z * 2 ^ (32 * s) = 2 ^ (32 * t) * (4294967296 * (z * 2 ^ (32 * (s - t - 1)))) := by
    have : 32 * s = 32 * t + (32 + 32 * (s - t - 1)) := by omega
    rw [this, Nat.pow_add, Nat.pow_add]
    show _ = _ * (2 ^ 32 * _)
    ac_rfl
  rw [e, Nat.add_mul_div_left _ _ (Nat.two_pow_pos _), Nat.add_mul_mod_self_left]
theorem wd_mod (P s t : Nat) (h : t < s) : wd (P % 2 ^ (32 * s)) t = wd P t := by
  have e : P = P % 2 ^ (32 * s) + P / 2 ^ (32 * s) * 2 ^ (32 * s) := by rw [Nat.mul_comm (P / _)]; exact (Nat.mod_add_div _ _).symm
  conv => rhs; rw [e]
  exact (wd_lt_add _ _ _ _ h).symm

/-- The rows before row i. -/
def rowP (M N i : Nat) : Nat := M % 2 ^ (32 * i) * N
/-- Row i's columns before column j, and the rows before, as far as they count. -/
def colA (M N i j : Nat) : Nat := rowP M N i % 2 ^ (32 * (i + j)) + wd M i * (N % 2 ^ (32 * j)) * 2 ^ (32 * i)
def carryK (M N i j : Nat) : Nat := colA M N i j / 2 ^ (32 * (i + j))
/-- The words while row i is at column j. -/
def prodW (M N i j t : Nat) : Nat := match decide (t < i + j) with | true => wd (colA M N i j) t | false => wd (rowP M N i) t
def colT (M N i j : Nat) : Nat := wd M i * wd N j + wd (rowP M N i) (i + j) + carryK M N i j

theorem colA_succ (M N i j : Nat) : colA M N i (j + 1) = colA M N i j + (wd (rowP M N i) (i + j) + wd M i * wd N j) * 2 ^ (32 * (i + j)) := by
  unfold colA
  rw [show i + (j + 1) = (i + j) + 1 by omega, mod_succ32, mod_succ32 N j, Nat.mul_add (wd M i), Nat.add_mul, Nat.add_mul (wd (rowP M N i) (i + j))]
  have e : wd M i * (wd N j * 2 ^ (32 * j)) * 2 ^ (32 * i) = wd M i * wd N j * 2 ^ (32 * (i + j)) := by
    rw [Nat.mul_add, Nat.pow_add]; ac_rfl
  rw [e]
  omega
theorem colA_div (M N i j : Nat) : colA M N i (j + 1) / 2 ^ (32 * (i + j)) = colT M N i j := by
  rw [colA_succ, Nat.add_mul_div_right _ _ (Nat.two_pow_pos _)]
  unfold colT carryK
  omega
theorem carryK_succ (M N i j : Nat) : carryK M N i (j + 1) = colT M N i j / 4294967296 := by
  rw [← colA_div]
  unfold carryK
  rw [show i + (j + 1) = (i + j) + 1 by omega, pow_succ32, Nat.div_div_eq_div_mul]
theorem carryK_zero (M N i : Nat) : carryK M N i 0 = 0 := by
  unfold carryK colA
  rw [Nat.mul_zero, Nat.pow_zero, Nat.mod_one, Nat.mul_zero, Nat.zero_mul, Nat.add_zero, Nat.add_zero]
  exact Nat.div_eq_of_lt (Nat.mod_lt _ (Nat.two_pow_pos _))
theorem colT_lt (M N i j : Nat) (h : carryK M N i j < 4294967296) : colT M N i j < 4294967296 * 4294967296 := by
  unfold colT
  have h1 := wd_lt M i
  have h2 := wd_lt N j
  have h3 := wd_lt (rowP M N i) (i + j)
  have : wd M i * wd N j ≤ 4294967295 * 4294967295 := Nat.mul_le_mul (by omega) (by omega)
  omega
theorem carryK_lt (M N i : Nat) : ∀ j, carryK M N i j < 4294967296
  | 0 => by rw [carryK_zero]; omega
  | j + 1 => by
    rw [carryK_succ]
    have := colT_lt M N i j (carryK_lt M N i j)
    exact Nat.div_lt_of_lt_mul this
theorem wd_colA (M N i j : Nat) : wd (colA M N i (j + 1)) (i + j) = colT M N i j % 4294967296 := by
  unfold wd
  rw [colA_div]
theorem prodW_zero (M N i t : Nat) : prodW M N i 0 t = wd (rowP M N i) t := by
  unfold prodW
  by_cases h : t < i + 0
  · rw [decide_eq_true h]
    simp only
    unfold colA
    rw [Nat.mul_zero, Nat.pow_zero, Nat.mod_one, Nat.mul_zero, Nat.zero_mul, Nat.add_zero]
    exact wd_mod _ _ _ h
  · rw [decide_eq_false h]
/-- One column more. -/
theorem prodW_succ (M N i j t : Nat) : prodW M N i (j + 1) t = if t = i + j then colT M N i j % 4294967296 else prodW M N i j t := by
  unfold prodW
  by_cases h : t = i + j
  · subst h
    rw [if_pos rfl, decide_eq_true (by omega)]
    exact wd_colA M N i j
  · rw [if_neg h]
    by_cases h1 : t < i + j
    · rw [decide_eq_true h1, decide_eq_true (by omega)]
      simp only
      rw [colA_succ, wd_lt_add _ _ _ _ h1]
    · rw [decide_eq_false h1, decide_eq_false (by omega)]
theorem rowP_lt (M N i c : Nat) (hN : N < 2 ^ (32 * c)) : rowP M N i < 2 ^ (32 * (i + c)) := by
  unfold rowP
  rw [Nat.mul_add, Nat.pow_add]
  have h1 : M % 2 ^ (32 * i) < 2 ^ (32 * i) := Nat.mod_lt _ (Nat.two_pow_pos _)
  have h2 : M % 2 ^ (32 * i) * N ≤ 2 ^ (32 * i) * N := Nat.mul_le_mul_right _ (Nat.le_of_lt h1)
  have h3 : 2 ^ (32 * i) * N < 2 ^ (32 * i) * 2 ^ (32 * c) := Nat.mul_lt_mul_of_pos_left hN (Nat.two_pow_pos _)
  omega
theorem colA_all (M N i c : Nat) (hN : N < 2 ^ (32 * c)) : colA M N i c = rowP M N (i + 1) := by
  unfold colA
  rw [Nat.mod_eq_of_lt (rowP_lt M N i c hN), Nat.mod_eq_of_lt hN]
  unfold rowP
  rw [mod_succ32, Nat.add_mul]
  have : wd M i * N * 2 ^ (32 * i) = wd M i * 2 ^ (32 * i) * N := by ac_rfl
  omega
theorem carryK_all (M N i c : Nat) (hN : N < 2 ^ (32 * c)) : carryK M N i c = wd (rowP M N (i + 1)) (i + c) := by
  have h := carryK_lt M N i c
  unfold carryK at *
  rw [colA_all M N i c hN] at *
  unfold wd
  rw [Nat.mod_eq_of_lt h]
/-- The row's end. -/
theorem prodW_all (M N i c t : Nat) (hN : N < 2 ^ (32 * c)) : (if t = i + c then carryK M N i c else prodW M N i c t) = wd (rowP M N (i + 1)) t := by
  by_cases h : t = i + c
  · subst h
    rw [if_pos rfl]
    exact carryK_all M N i c hN
  · rw [if_neg h]
    unfold prodW
    by_cases h1 : t < i + c
    · rw [decide_eq_true h1]
      simp only
      rw [colA_all M N i c hN]
    · rw [decide_eq_false h1]
      have hz : ∀ P, P < 2 ^ (32 * (i + 1 + c)) → wd P t = 0 := fun P hP => by
        unfold wd
        rw [Nat.div_eq_of_lt (Nat.lt_of_lt_of_le hP (Nat.pow_le_pow_right (by omega) (by omega)))]
      simp only
      rw [hz _ (Nat.lt_of_lt_of_le (rowP_lt M N i c hN) (Nat.pow_le_pow_right (by omega) (by omega))), hz _ (rowP_lt M N (i + 1) c hN)]
theorem or_add {a b k : Nat} (hb : b < 2 ^ k) : (2 ^ k * a ||| b) = 2 ^ k * a + b := (Nat.two_pow_add_eq_or_of_lt hb a).symm
/-- Two neighbouring words of a number that is shifted by less than a word: Q = lo + B (hi + ..), over 2 ^ k. -/
theorem pair_shift (Q k : Nat) (hk : k ≤ 32) : Q / 2 ^ k % 4294967296 = (Q % 4294967296) / 2 ^ k + (Q / 4294967296 % 4294967296 * 2 ^ (32 - k)) % 4294967296 := by
  have hB : (4294967296 : Nat) = 2 ^ k * 2 ^ (32 - k) := by rw [← Nat.pow_add, Nat.add_sub_cancel' hk]
  have hp : 0 < 2 ^ k := Nat.two_pow_pos _
  have hq : 0 < 2 ^ (32 - k) := Nat.two_pow_pos _
  generalize he : (4294967296 : Nat) = B at *
  generalize hX : 2 ^ k = X at *
  generalize hY : 2 ^ (32 - k) = Y at *
  have h1 : Q = B * (Q / B) + Q % B := (Nat.div_add_mod Q B).symm
  have h2 : Q / X = Q % B / X + Y * (Q / B) := by
    have : Q = Q % B + X * (Y * (Q / B)) := by rw [← Nat.mul_assoc, ← hB]; omega
    conv => lhs; rw [this]
    rw [Nat.add_mul_div_left _ _ hp]
  have hlt : Q % B / X < Y := by
    rw [Nat.div_lt_iff_lt_mul hp, Nat.mul_comm, ← hB]
    exact Nat.mod_lt _ (by rw [hB]; exact Nat.mul_pos hp hq)
  have h3 : (Y * (Q / B)) % B = (Q / B % B * Y) % B := by
    rw [Nat.mul_comm, Nat.mul_mod (Q / B) Y B, Nat.mul_mod (Q / B % B) Y B, Nat.mod_mod]
  have h4 : ∃ z, (Q / B % B * Y) % B = Y * z ∧ z < X := by
    refine ⟨(Q / B % B) % X, ?_, Nat.mod_lt _ hp⟩
    rw [hB, Nat.mul_mod_mul_right, Nat.mul_comm]
  obtain ⟨z, hz, hzx⟩ := h4
  rw [h2, Nat.add_mod, h3, hz]
  have hlt2 : Q % B / X + Y * z < B := by
    have : Y * z + Y ≤ Y * X := by rw [← Nat.mul_succ]; exact Nat.mul_le_mul_left _ hzx
    have hBY : B = Y * X := by rw [hB, Nat.mul_comm]
    omega
  have : Q % B / X < B := by omega
  rw [Nat.mod_eq_of_lt this, Nat.mod_eq_of_lt hlt2]

/-- The words of N / 2 ^ (64 s + r). -/
theorem wd_down (N s r i : Nat) (hr : r ≤ 32) : wd (N / 2 ^ (32 * s + r)) i = wd N (i + s) / 2 ^ r + wd N (i + s + 1) * 2 ^ (32 - r) % 4294967296 := by
  have h1 : N / 2 ^ (32 * s + r) / 2 ^ (32 * i) = N / 2 ^ (32 * (i + s)) / 2 ^ r := by
    rw [Nat.div_div_eq_div_mul, Nat.div_div_eq_div_mul, ← Nat.pow_add, ← Nat.pow_add]
    congr 2; omega
  have h2 : N / 2 ^ (32 * (i + s + 1)) = N / 2 ^ (32 * (i + s)) / 4294967296 := by rw [pow_succ32, Nat.div_div_eq_div_mul]
  unfold wd
  rw [h1, pair_shift _ r hr, h2]
/-- The words of N * 2 ^ (64 s + r). -/
theorem wd_up (N s r d : Nat) (hr : r < 32) : wd (N * 2 ^ (32 * s + r)) (d + s) = wd N d * 2 ^ r % 4294967296 + (match d with | 0 => 0 | d + 1 => wd N d / 2 ^ (32 - r)) := by
  have h1 : N * 2 ^ (32 * s + r) / 2 ^ (32 * (d + s)) = N * 2 ^ r / 2 ^ (32 * d) := by
    rw [show 32 * (d + s) = 32 * d + 32 * s by omega, Nat.pow_add 2 (32 * s) r, Nat.pow_add 2 (32 * d), show N * (2 ^ (32 * s) * 2 ^ r) = N * 2 ^ r * 2 ^ (32 * s) by ac_rfl]
    exact Nat.mul_div_mul_right _ _ (Nat.two_pow_pos _)
  unfold wd
  rw [h1]
  cases d with
  | zero => simp [Nat.mul_mod]
  | succ d =>
    have h2 : N * 2 ^ r / 2 ^ (32 * (d + 1)) = N / 2 ^ (32 * d) / 2 ^ (32 - r) := by
      rw [Nat.div_div_eq_div_mul, ← Nat.pow_add, show 32 * (d + 1) = (32 * d + (32 - r)) + r by omega, Nat.pow_add]
      exact Nat.mul_div_mul_right _ _ (Nat.two_pow_pos _)
    have h3 : N / 2 ^ (32 * (d + 1)) = N / 2 ^ (32 * d) / 4294967296 := by rw [pow_succ32, Nat.div_div_eq_div_mul]
    rw [h2, pair_shift _ (32 - r) (by omega), h3, show 32 - (32 - r) = r by omega, Nat.add_comm]
theorem wd_up_low (N s r i : Nat) (h : i < s) : wd (N * 2 ^ (32 * s + r)) i = 0 := by
  unfold wd
  have h1 : N * 2 ^ (32 * s + r) / 2 ^ (32 * i) = N * 2 ^ (32 * (s - i - 1) + r) * 4294967296 := by
    have : 32 * s + r = (32 * (s - i - 1) + r) + 32 + 32 * i := by omega
    rw [this, Nat.pow_add, Nat.pow_add, ← Nat.mul_assoc, Nat.mul_div_cancel _ (Nat.two_pow_pos _), ← Nat.mul_assoc]
  rw [h1, Nat.mul_mod_left]

theorem wd_shift (P s i : Nat) : wd P (i + s) = wd (P / 2 ^ (32 * s)) i := by
  unfold wd
  rw [Nat.div_div_eq_div_mul, ← Nat.pow_add, show 32 * s + 32 * i = 32 * (i + s) by omega]
end Go.W32
