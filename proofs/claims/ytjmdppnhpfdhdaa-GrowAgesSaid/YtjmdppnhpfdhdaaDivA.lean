/-
  Long division, in numbers: no program.
-/
import Derived.Test.YtjmdppnhpfdhdaaWideK
namespace Go.Proofs.Ytjmdppnhpfdhdaa.W
open Go Go.Ev Go.Wide

/-! ### One digit times the divisor -/
/-- What is carried before word j of V * d. -/
def mK (V d j : Nat) : Nat := V % 2 ^ (64 * j) * d / 2 ^ (64 * j)
theorem mK_zero (V d : Nat) : mK V d 0 = 0 := by
  unfold mK
  rw [Nat.mul_zero, Nat.pow_zero, Nat.mod_one, Nat.zero_mul, Nat.zero_div]
theorem mK_lt (V d j : Nat) (hd : d < 18446744073709551616) : mK V d j < 18446744073709551616 := by
  unfold mK
  have hp : 0 < 2 ^ (64 * j) := Nat.two_pow_pos _
  have h1 := Nat.mod_lt V hp
  refine Nat.div_lt_of_lt_mul ?_
  rcases Nat.eq_zero_or_pos d with h0 | h0
  · subst h0; rw [Nat.mul_zero]; exact Nat.mul_pos hp (by omega)
  · exact Nat.lt_of_lt_of_le (Nat.mul_lt_mul_of_pos_right h1 h0) (Nat.mul_le_mul_left _ (by omega))
theorem mK_step (V d j : Nat) : V % 2 ^ (64 * (j + 1)) * d / 2 ^ (64 * j) = wd V j * d + mK V d j := by
  unfold mK
  rw [mod_succ64, Nat.add_mul, show wd V j * 2 ^ (64 * j) * d = wd V j * d * 2 ^ (64 * j) by ac_rfl, Nat.add_mul_div_right _ _ (Nat.two_pow_pos _), Nat.add_comm]
theorem mK_succ (V d j : Nat) : mK V d (j + 1) = (wd V j * d + mK V d j) / 18446744073709551616 := by
  rw [← mK_step, Nat.div_div_eq_div_mul, ← pow_succ64]
  rfl
theorem wd_mK (V d j : Nat) : wd (V * d) j = (wd V j * d + mK V d j) % 18446744073709551616 := by
  have e : ∀ P, V * d = V % P * d + V / P * d * P := fun P => by
    have h := Nat.mod_add_div V P
    conv => lhs; rw [← h]
    rw [Nat.add_mul, Nat.mul_assoc P, Nat.mul_comm P]
  have h := wd_lt_add (V % 2 ^ (64 * (j + 1)) * d) (V / 2 ^ (64 * (j + 1)) * d) (j + 1) j (by omega)
  rw [← e] at h
  rw [h, ← mK_step]
  rfl
theorem mul_lt_word {V d L : Nat} (hV : V < 2 ^ (64 * L)) (hd : d < 18446744073709551616) : V * d < 2 ^ (64 * (L + 1)) := by
  rw [pow_succ64]
  exact Nat.lt_of_le_of_lt (Nat.mul_le_mul_left V (Nat.le_of_lt hd)) (Nat.mul_lt_mul_of_pos_right hV (by omega))
theorem mK_all {V d L : Nat} (hV : V < 2 ^ (64 * L)) (hd : d < 18446744073709551616) : mK V d L = wd (V * d) L := by
  have h := mK_lt V d L hd
  unfold mK at *
  rw [Nat.mod_eq_of_lt hV] at *
  unfold wd
  rw [Nat.mod_eq_of_lt h]

/-! ### The difference, with a word's power lent -/
/-- What is left of R, without V * d, with 2 ^ (64 (L + 1)) lent. -/
def lentX (R D L : Nat) : Nat := R + 1 * 2 ^ (64 * (L + 1)) - D
theorem lent_ge {R D L : Nat} (hD : D < 2 ^ (64 * (L + 1))) : D ≤ R + 1 * 2 ^ (64 * (L + 1)) := by omega
theorem wd_lent {R L t : Nat} (h : t ≤ L) : wd (R + 1 * 2 ^ (64 * (L + 1))) t = wd R t := wd_lt_add _ _ _ _ (by omega)
theorem sub_step {R D L t : Nat} (hD : D < 2 ^ (64 * (L + 1))) (h : t ≤ L) :
    wd (lentX R D L) t = (wd R t + 18446744073709551616 - wd D t - bor (R + 1 * 2 ^ (64 * (L + 1))) D t) % 18446744073709551616 ∧
    bor (R + 1 * 2 ^ (64 * (L + 1))) D (t + 1) = if wd R t < wd D t + bor (R + 1 * 2 ^ (64 * (L + 1))) D t then 1 else 0 := by
  have h0 := lent_ge (R := R) hD
  have h1 := wd_sub h0 t
  have h2 := bor_succ h0 t
  rw [wd_lent h] at h1 h2
  refine ⟨?_, h2⟩
  have h3 := wd_lt R t
  have h4 := wd_lt D t
  have h5 := bor_le (R + 1 * 2 ^ (64 * (L + 1))) D t
  unfold lentX
  omega
theorem bor_end {R D L : Nat} (hR : R < 2 ^ (64 * (L + 1))) (hD : D < 2 ^ (64 * (L + 1))) : bor (R + 1 * 2 ^ (64 * (L + 1))) D (L + 1) = if R < D then 1 else 0 := by
  unfold bor
  rw [Nat.one_mul, Nat.add_mod_right, Nat.mod_eq_of_lt hR, Nat.mod_eq_of_lt hD]
theorem car_end {X V L : Nat} (hX : X < 2 ^ (64 * (L + 1))) (hV : V < 2 ^ (64 * (L + 1))) : car X V (L + 1) = (X + V) / 2 ^ (64 * (L + 1)) := by
  unfold car
  rw [Nat.mod_eq_of_lt hX, Nat.mod_eq_of_lt hV]

/-- Words i .. i + j - 1 are those of X, the others as in p. -/
def mixW (i j X : Nat) (p : Nat → Nat) (t : Nat) : Nat := if i ≤ t ∧ t < i + j then wd X (t - i) else p t
theorem mixW_zero (i X : Nat) (p : Nat → Nat) (t : Nat) : mixW i 0 X p t = p t := by
  unfold mixW
  rw [if_neg (by omega)]
theorem mixW_succ (i j X : Nat) (p : Nat → Nat) (t : Nat) : mixW i (j + 1) X p t = if t = i + j then wd X j else mixW i j X p t := by
  unfold mixW
  by_cases h : t = i + j
  · subst h
    rw [if_pos rfl, if_pos (by omega), Nat.add_sub_cancel_left]
  · rw [if_neg h]
    by_cases h1 : i ≤ t ∧ t < i + j
    · rw [if_pos h1, if_pos (by omega)]
    · rw [if_neg h1, if_neg (by omega)]
theorem mixW_at (i j X : Nat) (p : Nat → Nat) : mixW i j X p (i + j) = p (i + j) := by
  unfold mixW
  rw [if_neg (by omega)]
theorem mixW_in {i j X : Nat} {p : Nat → Nat} {t : Nat} (h : t < j) : mixW i j X p (i + t) = wd X t := by
  unfold mixW
  rw [if_pos (by omega), Nat.add_sub_cancel_left]
theorem mixW_mixW (i j X Y : Nat) (p : Nat → Nat) (t : Nat) : mixW i j X (mixW i j Y p) t = mixW i j X p t := by
  unfold mixW
  split
  · rfl
  · rfl

/-! ### The digit that is estimated is not too small -/
theorem est_ge {R V L : Nat} (hL : 1 ≤ L) (hV : V < 2 ^ (64 * L)) (hV2 : 9223372036854775808 ≤ wd V (L - 1)) (hR : R < V * 18446744073709551616) :
    (wd V (L - 1) ≤ wd R L → R / V ≤ 18446744073709551615) ∧
    (¬ wd V (L - 1) ≤ wd R L → R / V ≤ (wd R L * 18446744073709551616 + wd R (L - 1)) / wd V (L - 1) ∧ (wd R L * 18446744073709551616 + wd R (L - 1)) / wd V (L - 1) < 18446744073709551616) := by
  obtain ⟨k, rfl⟩ : ∃ k, L = k + 1 := ⟨L - 1, by omega⟩
  rw [Nat.add_sub_cancel] at *
  have hp : 0 < 2 ^ (64 * k) := Nat.two_pow_pos _
  have hv : wd V k = V / 2 ^ (64 * k) := by
    unfold wd
    exact Nat.mod_eq_of_lt (Nat.div_lt_of_lt_mul (by rw [pow_succ64] at hV; exact hV))
  have hR2 : R / 2 ^ (64 * k) / 18446744073709551616 < 18446744073709551616 := by
    refine Nat.div_lt_of_lt_mul (Nat.div_lt_of_lt_mul ?_)
    have : V * 18446744073709551616 ≤ 2 ^ (64 * k) * 18446744073709551616 * 18446744073709551616 := Nat.mul_le_mul_right _ (by rw [pow_succ64] at hV; exact Nat.le_of_lt hV)
    rw [← Nat.mul_assoc]
    exact Nat.lt_of_lt_of_le hR this
  have hr : R / 2 ^ (64 * k) = wd R (k + 1) * 18446744073709551616 + wd R k := by
    unfold wd
    rw [pow_succ64, ← Nat.div_div_eq_div_mul, Nat.mod_eq_of_lt hR2]
    omega
  have h0 : V ≠ 0 := by
    intro e
    subst e
    rw [hv, Nat.zero_div] at hV2
    omega
  refine ⟨fun _ => ?_, fun h => ⟨?_, ?_⟩⟩
  · have : R / V < 18446744073709551616 := Nat.div_lt_of_lt_mul hR
    omega
  · have h1 : 2 ^ (64 * k) * wd V k ≤ V := by rw [hv]; exact Nat.mul_div_le V _
    have h2 := Nat.div_le_div_left (a := R) h1 (Nat.mul_pos hp (by omega))
    rw [← Nat.div_div_eq_div_mul, hr] at h2
    exact h2
  · refine Nat.div_lt_of_lt_mul ?_
    have := wd_lt R k
    have h3 : (wd R (k + 1) + 1) * 18446744073709551616 ≤ wd V k * 18446744073709551616 := Nat.mul_le_mul_right _ (by omega)
    omega

/-! ### The divisor, shifted -/
theorem topShift {N : Nat} (h : N ≠ 0) : nw N ≠ 0 ∧ 1 ≤ bitLen (wd N (nw N - 1)) ∧ bitLen (wd N (nw N - 1)) ≤ 64 ∧
    N * 2 ^ (64 - bitLen (wd N (nw N - 1))) < 2 ^ (64 * nw N) ∧ 9223372036854775808 ≤ wd (N * 2 ^ (64 - bitLen (wd N (nw N - 1)))) (nw N - 1) := by
  have hn : nw N ≠ 0 := by
    intro e
    have := lt_nw N
    rw [e, Nat.mul_zero, Nat.pow_zero] at this
    omega
  obtain ⟨hne, hlt⟩ := nw_top hn
  have hw : wd N (nw N - 1) = N / 2 ^ (64 * (nw N - 1)) := Nat.mod_eq_of_lt hlt
  have hlt' := lt_nw N
  generalize nw N = n at *
  obtain ⟨k, rfl⟩ : ∃ k, n = k + 1 := ⟨n - 1, by omega⟩
  rw [Nat.add_sub_cancel] at *
  rw [hw]
  generalize hwd : N / 2 ^ (64 * k) = w at *
  have hb := bitLen_spec w
  have hb2 := hb.2 hne
  have hb1 := hb.1
  have hb0 : 1 ≤ bitLen w := by
    rcases Nat.eq_zero_or_pos (bitLen w) with e | e
    · rw [e, Nat.pow_zero] at hb1; omega
    · exact e
  have hb64 : bitLen w ≤ 64 := bitLen_lt_iff.2 hlt
  have hp : 0 < 2 ^ (64 * k) := Nat.two_pow_pos _
  have hN1 : N < (w + 1) * 2 ^ (64 * k) := by
    rw [← hwd, Nat.mul_comm]
    exact Nat.lt_mul_div_succ N hp
  have hN2 : w * 2 ^ (64 * k) ≤ N := by rw [← hwd]; exact Nat.div_mul_le_self _ _
  have hB : (18446744073709551616 : Nat) = 2 ^ bitLen w * 2 ^ (64 - bitLen w) := by rw [← Nat.pow_add, Nat.add_sub_cancel' hb64]
  have hB2 : (9223372036854775808 : Nat) = 2 ^ (bitLen w - 1) * 2 ^ (64 - bitLen w) := by rw [← Nat.pow_add, show bitLen w - 1 + (64 - bitLen w) = 63 by omega]
  generalize hs : 2 ^ (64 - bitLen w) = S at *
  have hS : 0 < S := by rw [← hs]; exact Nat.two_pow_pos _
  have hlt2 : N * S < 2 ^ (64 * (k + 1)) := by
    rw [pow_succ64, hB, show 2 ^ (64 * k) * (2 ^ bitLen w * S) = 2 ^ bitLen w * 2 ^ (64 * k) * S by ac_rfl]
    refine Nat.mul_lt_mul_of_pos_right (Nat.lt_of_lt_of_le hN1 (Nat.mul_le_mul_right _ ?_)) hS
    omega
  refine ⟨by omega, hb0, hb64, hlt2, ?_⟩
  unfold wd
  rw [Nat.mod_eq_of_lt (Nat.div_lt_of_lt_mul (by rw [pow_succ64] at hlt2; exact hlt2)), Nat.le_div_iff_mul_le hp, hB2]
  calc 2 ^ (bitLen w - 1) * S * 2 ^ (64 * k) ≤ w * S * 2 ^ (64 * k) := Nat.mul_le_mul_right _ (Nat.mul_le_mul_right _ hb2)
    _ = w * 2 ^ (64 * k) * S := by ac_rfl
    _ ≤ N * S := Nat.mul_le_mul_right _ hN2

/-! ### The rest, digit by digit -/
/-- What is left before the last r digits are taken. -/
def restW (W V r : Nat) : Nat := W % (V * 2 ^ (64 * r))
theorem restW_zero (W V : Nat) : restW W V 0 = W % V := by unfold restW; rw [Nat.mul_zero, Nat.pow_zero, Nat.mul_one]
theorem restW_lt (W r : Nat) {V : Nat} (hV : 0 < V) : restW W V r < V * 2 ^ (64 * r) := Nat.mod_lt _ (Nat.mul_pos hV (Nat.two_pow_pos _))
/-- The digit that is taken. -/
theorem restW_digit (W V r : Nat) : restW W V (r + 1) / 2 ^ (64 * r) / V = wd (W / V) r := by
  unfold restW wd
  rw [pow_succ64, ← Nat.mul_assoc, Nat.div_div_eq_div_mul, Nat.mul_comm (2 ^ (64 * r)) V, Nat.mod_mul_right_div_self, Nat.div_div_eq_div_mul]
theorem restW_succ (W V r : Nat) : restW W V r = restW W V (r + 1) - V * wd (W / V) r * 2 ^ (64 * r) ∧ V * wd (W / V) r * 2 ^ (64 * r) ≤ restW W V (r + 1) := by
  have h1 : restW W V r = restW W V (r + 1) % (V * 2 ^ (64 * r)) := by
    unfold restW
    rw [Nat.mod_mod_of_dvd]
    exact Nat.mul_dvd_mul_left _ (Nat.pow_dvd_pow 2 (by omega))
  have h2 := Nat.div_add_mod (restW W V (r + 1)) (V * 2 ^ (64 * r))
  have h3 : restW W V (r + 1) / (V * 2 ^ (64 * r)) = wd (W / V) r := by
    rw [← restW_digit, Nat.div_div_eq_div_mul, Nat.mul_comm V]
  rw [h3, show V * 2 ^ (64 * r) * wd (W / V) r = V * wd (W / V) r * 2 ^ (64 * r) by ac_rfl] at h2
  omega
/-- The words below, within and above. -/
theorem restW_words (W V r L t : Nat) (hV : 0 < V) (hVL : V < 2 ^ (64 * L)) :
    mixW r (L + 1) (restW W V (r + 1) / 2 ^ (64 * r) - V * wd (W / V) r) (fun t => wd (restW W V (r + 1)) t) t = wd (restW W V r) t := by
  obtain ⟨h1, h2⟩ := restW_succ W V r
  have hlt := restW_lt W (r + 1) hV
  have e : restW W V r / 2 ^ (64 * r) = restW W V (r + 1) / 2 ^ (64 * r) - V * wd (W / V) r := by
    have e2 : restW W V (r + 1) = restW W V r + V * wd (W / V) r * 2 ^ (64 * r) := by omega
    rw [e2, Nat.add_mul_div_right _ _ (Nat.two_pow_pos _), Nat.add_sub_cancel]
  rw [← e]
  unfold mixW
  split
  · rename_i h
    unfold wd
    rw [Nat.div_div_eq_div_mul, ← Nat.pow_add, show 64 * r + 64 * (t - r) = 64 * t by omega]
  · rename_i h
    show wd (restW W V (r + 1)) t = _
    rcases Nat.lt_or_ge t r with h3 | h3
    · have e2 : restW W V (r + 1) = restW W V r + V * wd (W / V) r * 2 ^ (64 * r) := by omega
      rw [e2, wd_lt_add _ _ _ _ h3]
    · have h4 : r + L + 1 ≤ t := by omega
      have hz : ∀ P, P < V * 2 ^ (64 * (r + 1)) → wd P t = 0 := fun P hP => by
        refine wd_eq_zero (Nat.lt_of_lt_of_le hP ?_)
        calc V * 2 ^ (64 * (r + 1)) ≤ 2 ^ (64 * L) * 2 ^ (64 * (r + 1)) := Nat.mul_le_mul_right _ (Nat.le_of_lt hVL)
          _ = 2 ^ (64 * L + 64 * (r + 1)) := (Nat.pow_add _ _ _).symm
          _ ≤ 2 ^ (64 * t) := Nat.pow_le_pow_right (by omega) (by omega)
      rw [hz _ hlt, hz _ (by omega)]
/-- At the beginning nothing is taken yet. -/
theorem rounds_lt {M N S : Nat} (hS : S ≤ 9223372036854775808) (hN : 2 ^ (64 * (nw N - 1)) * 9223372036854775808 ≤ N * S) : M * S < N * S * 2 ^ (64 * (nw M + 1 - nw N)) := by
  have hM := lt_nw M
  have hB : 2 ^ (64 * (nw N - 1)) * 2 ^ (64 * (nw M + 1 - nw N)) ≥ 2 ^ (64 * nw M) := by
    rw [← Nat.pow_add]
    exact Nat.pow_le_pow_right (by omega) (by omega)
  rcases Nat.eq_zero_or_pos S with h0 | h0
  · subst h0
    have : 0 < 2 ^ (64 * (nw N - 1)) * 9223372036854775808 := Nat.mul_pos (Nat.two_pow_pos _) (by omega)
    omega
  · calc M * S < 2 ^ (64 * nw M) * S := Nat.mul_lt_mul_of_pos_right hM h0
      _ ≤ 2 ^ (64 * nw M) * 9223372036854775808 := Nat.mul_le_mul_left _ hS
      _ ≤ 2 ^ (64 * (nw N - 1)) * 2 ^ (64 * (nw M + 1 - nw N)) * 9223372036854775808 := Nat.mul_le_mul_right _ hB
      _ = 2 ^ (64 * (nw N - 1)) * 9223372036854775808 * 2 ^ (64 * (nw M + 1 - nw N)) := by ac_rfl
      _ ≤ N * S * 2 ^ (64 * (nw M + 1 - nw N)) := Nat.mul_le_mul_right _ hN

/-! ### Two halves of a word by the upper half: math/bits's Div64 -/
theorem half_start {a b y : Nat} (hy : 9223372036854775808 ≤ y) (hy2 : y < 18446744073709551616) (ha : a < y) (hb : b < 4294967296) :
    (a * 4294967296 + b) / y ≤ a / (y / 4294967296) ∧ a / (y / 4294967296) ≤ 4294967297 ∧ (a * 4294967296 + b) / y < 4294967296 ∧ a / (y / 4294967296) * (y / 4294967296) + a % (y / 4294967296) = a ∧ a % (y / 4294967296) < 4294967296 := by
  have hh : 2147483648 ≤ y / 4294967296 := by omega
  have hh2 : y / 4294967296 < 4294967296 := by omega
  have hh3 : y < (y / 4294967296) * 4294967296 + 4294967296 := by omega
  have hh4 : (y / 4294967296) * 4294967296 ≤ y := by omega
  have hm : a % (y / 4294967296) < y / 4294967296 := Nat.mod_lt _ (by omega)
  have hd := Nat.div_add_mod a (y / 4294967296)
  rw [Nat.mul_comm] at hd
  generalize y / 4294967296 = h at *
  refine ⟨?_, ?_, ?_, hd, by omega⟩
  · have h1 := Nat.div_le_div_left (a := a * 4294967296 + b) (show 4294967296 * h ≤ y by omega) (by omega)
    rw [← Nat.div_div_eq_div_mul, show (a * 4294967296 + b) / 4294967296 = a by omega] at h1
    exact h1
  · have : a < h * 4294967298 := by omega
    have := Nat.div_lt_of_lt_mul this
    omega
  · refine Nat.div_lt_of_lt_mul ?_
    omega
theorem half_test {a b y q r : Nat} (hy : 9223372036854775808 ≤ y) (hq : q * (y / 4294967296) + r = a) : q * (y % 4294967296) > 4294967296 * r + b ↔ (a * 4294967296 + b) / y < q := by
  rw [Nat.div_lt_iff_lt_mul (by omega)]
  have e : q * y = q * (y / 4294967296) * 4294967296 + q * (y % 4294967296) := by
    conv => lhs; rw [← Nat.div_add_mod y 4294967296]
    rw [Nat.mul_add]
    congr 1
    ac_rfl
  rw [e, ← hq, Nat.add_mul]
  omega
theorem half_step {y q r a : Nat} (h : q * (y / 4294967296) + r = a) (hq : 0 < q) : (q - 1) * (y / 4294967296) + (r + y / 4294967296) = a := by
  obtain ⟨k, rfl⟩ : ∃ k, q = k + 1 := ⟨q - 1, by omega⟩
  rw [Nat.add_sub_cancel]
  rw [Nat.add_mul] at h
  omega
/-- Broken off: it is the quotient. -/
theorem half_break {a b y q r : Nat} (hy : 9223372036854775808 ≤ y) (hq : q * (y / 4294967296) + r = a) (hr : 4294967296 ≤ r) (hq2 : q ≤ 4294967296) : q ≤ (a * 4294967296 + b) / y := by
  rw [Nat.le_div_iff_mul_le (by omega)]
  have e : q * y = q * (y / 4294967296) * 4294967296 + q * (y % 4294967296) := by
    conv => lhs; rw [← Nat.div_add_mod y 4294967296]
    rw [Nat.mul_add]
    congr 1
    ac_rfl
  have h1 : q * (y % 4294967296) ≤ 4294967296 * 4294967295 := Nat.mul_le_mul hq2 (by omega)
  rw [e, ← hq, Nat.add_mul]
  omega
/-- Both halves. -/
theorem half_any (A b l y : Nat) (hy : 0 < y) : (A / y) * b + ((A % y) * b + l) / y = (A * b + l) / y := by
  have h1 := Nat.div_add_mod A y
  generalize A / y = q at *
  generalize A % y = r at *
  have e : A * b + l = r * b + l + y * (q * b) := by
    rw [← h1, Nat.add_mul, Nat.mul_assoc]
    omega
  rw [e, Nat.add_mul_div_left _ _ hy, Nat.add_comm]
theorem half_both {hi lo y : Nat} (hy : 0 < y) :
    ((hi * 4294967296 + lo / 4294967296) / y) * 4294967296 + (((hi * 4294967296 + lo / 4294967296) % y) * 4294967296 + lo % 4294967296) / y = (hi * 18446744073709551616 + lo) / y := by
  have e : ∀ A, A = hi * 4294967296 + lo / 4294967296 → hi * 18446744073709551616 + lo = A * 4294967296 + lo % 4294967296 := fun A hA => by omega
  rw [e _ rfl]
  exact half_any _ _ _ y hy
end Go.Proofs.Ytjmdppnhpfdhdaa.W
