/-
  Long division, in numbers: no program.
  math/bits: two words by one whose first bit is set.
  Long division, the program's pieces: memories and states.
  Long division, the program's pieces: estimateDigit, subtractProduct, addBack, takeDigit.
  Long division, the program's pieces in numbers: one digit.
  Long division: widenedUp, dividedBy.
  The program's squareRoot, Div, Sqrt.
  The program's Div.
-/
import Derived.Test.YthnemimpkpkjbaaWide1
import Derived.Test.YthnemimpkpkjbaaEv3
import Derived.Test.YthnemimpkpkjbaaWide2
/-! Long division, in numbers: no program. -/
namespace Go.Proofs.Ythnemimpkpkjbaa.W
open Go Go.Ev Go.Wide

/-! ### One digit times the divisor -/
/-- What is carried before word j of V * d. -/
def mK (V d j : Nat) : Nat := V % 2 ^ (64 * j) * d / 2 ^ (64 * j)
theorem mK_zero (V d : Nat) : mK V d 0 = 0 := by
  unfold mK
  rw [Nat.mul_zero, Nat.pow_zero, Nat.mod_one, Nat.zero_mul, Nat.zero_div]
theorem mK_lt (V d j : Nat) (hd : d < 18446744073709551616) : mK V d j < 18446744073709551616 := by
  unfold mK
  have hp : 0 < 2 ^ (64 * j) := Nat.two_pow_pos _
  have h1 := Nat.mod_lt V hp
  refine Nat.div_lt_of_lt_mul ?_
  rcases Nat.eq_zero_or_pos d with h0 | h0
  · subst h0; rw [Nat.mul_zero]; exact Nat.mul_pos hp (by omega)
  · exact Nat.lt_of_lt_of_le (Nat.mul_lt_mul_of_pos_right h1 h0) (Nat.mul_le_mul_left _ (by omega))
theorem mK_step (V d j : Nat) : V % 2 ^ (64 * (j + 1)) * d / 2 ^ (64 * j) = wd V j * d + mK V d j := by
  unfold mK
  rw [mod_succ64, Nat.add_mul, show wd V j * 2 ^ (64 * j) * d = wd V j * d * 2 ^ (64 * j) by ac_rfl, Nat.add_mul_div_right _ _ (Nat.two_pow_pos _), Nat.add_comm]
theorem mK_succ (V d j : Nat) : mK V d (j + 1) = (wd V j * d + mK V d j) / 18446744073709551616 := by
  rw [← mK_step, Nat.div_div_eq_div_mul, ← pow_succ64]
  rfl
theorem wd_mK (V d j : Nat) : wd (V * d) j = (wd V j * d + mK V d j) % 18446744073709551616 := by
  have e : ∀ P, V * d = V % P * d + V / P * d * P := fun P => by
    have h := Nat.mod_add_div V P
    conv => lhs; rw [← h]
    rw [Nat.add_mul, Nat.mul_assoc P, Nat.mul_comm P]
  have h := wd_lt_add (V % 2 ^ (64 * (j + 1)) * d) (V / 2 ^ (64 * (j + 1)) * d) (j + 1) j (by omega)
  rw [← e] at h
  rw [h, ← mK_step]
  rfl
theorem mul_lt_word {V d L : Nat} (hV : V < 2 ^ (64 * L)) (hd : d < 18446744073709551616) : V * d < 2 ^ (64 * (L + 1)) := by
  rw [pow_succ64]
  exact Nat.lt_of_le_of_lt (Nat.mul_le_mul_left V (Nat.le_of_lt hd)) (Nat.mul_lt_mul_of_pos_right hV (by omega))
theorem mK_all {V d L : Nat} (hV : V < 2 ^ (64 * L)) (hd : d < 18446744073709551616) : mK V d L = wd (V * d) L := by
  have h := mK_lt V d L hd
  unfold mK at *
  rw [Nat.mod_eq_of_lt hV] at *
  unfold wd
  rw [Nat.mod_eq_of_lt h]

/-! ### The difference, with a word's power lent -/
/-- What is left of R, without V * d, with 2 ^ (64 (L + 1)) lent. -/
def lentX (R D L : Nat) : Nat := R + 1 * 2 ^ (64 * (L + 1)) - D
theorem lent_ge {R D L : Nat} (hD : D < 2 ^ (64 * (L + 1))) : D ≤ R + 1 * 2 ^ (64 * (L + 1)) := by omega
theorem wd_lent {R L t : Nat} (h : t ≤ L) : wd (R + 1 * 2 ^ (64 * (L + 1))) t = wd R t := wd_lt_add _ _ _ _ (by omega)
theorem sub_step {R D L t : Nat} (hD : D < 2 ^ (64 * (L + 1))) (h : t ≤ L) :
    wd (lentX R D L) t = (wd R t + 18446744073709551616 - wd D t - bor (R + 1 * 2 ^ (64 * (L + 1))) D t) % 18446744073709551616 ∧
    bor (R + 1 * 2 ^ (64 * (L + 1))) D (t + 1) = if wd R t < wd D t + bor (R + 1 * 2 ^ (64 * (L + 1))) D t then 1 else 0 := by
  have h0 := lent_ge (R := R) hD
  have h1 := wd_sub h0 t
  have h2 := bor_succ h0 t
  rw [wd_lent h] at h1 h2
  refine ⟨?_, h2⟩
  have h3 := wd_lt R t
  have h4 := wd_lt D t
  have h5 := bor_le (R + 1 * 2 ^ (64 * (L + 1))) D t
  unfold lentX
  omega
theorem bor_end {R D L : Nat} (hR : R < 2 ^ (64 * (L + 1))) (hD : D < 2 ^ (64 * (L + 1))) : bor (R + 1 * 2 ^ (64 * (L + 1))) D (L + 1) = if R < D then 1 else 0 := by
  unfold bor
  rw [Nat.one_mul, Nat.add_mod_right, Nat.mod_eq_of_lt hR, Nat.mod_eq_of_lt hD]
theorem car_end {X V L : Nat} (hX : X < 2 ^ (64 * (L + 1))) (hV : V < 2 ^ (64 * (L + 1))) : car X V (L + 1) = (X + V) / 2 ^ (64 * (L + 1)) := by
  unfold car
  rw [Nat.mod_eq_of_lt hX, Nat.mod_eq_of_lt hV]

/-- Words i .. i + j - 1 are those of X, the others as in p. -/
def mixW (i j X : Nat) (p : Nat → Nat) (t : Nat) : Nat := if i ≤ t ∧ t < i + j then wd X (t - i) else p t
theorem mixW_zero (i X : Nat) (p : Nat → Nat) (t : Nat) : mixW i 0 X p t = p t := by
  unfold mixW
  rw [if_neg (by omega)]
theorem mixW_succ (i j X : Nat) (p : Nat → Nat) (t : Nat) : mixW i (j + 1) X p t = if t = i + j then wd X j else mixW i j X p t := by
  unfold mixW
  by_cases h : t = i + j
  · subst h
    rw [if_pos rfl, if_pos (by omega), Nat.add_sub_cancel_left]
  · rw [if_neg h]
    by_cases h1 : i ≤ t ∧ t < i + j
    · rw [if_pos h1, if_pos (by omega)]
    · rw [if_neg h1, if_neg (by omega)]
theorem mixW_at (i j X : Nat) (p : Nat → Nat) : mixW i j X p (i + j) = p (i + j) := by
  unfold mixW
  rw [if_neg (by omega)]
theorem mixW_in {i j X : Nat} {p : Nat → Nat} {t : Nat} (h : t < j) : mixW i j X p (i + t) = wd X t := by
  unfold mixW
  rw [if_pos (by omega), Nat.add_sub_cancel_left]
theorem mixW_mixW (i j X Y : Nat) (p : Nat → Nat) (t : Nat) : mixW i j X (mixW i j Y p) t = mixW i j X p t := by
  unfold mixW
  split
  · rfl
  · rfl

/-! ### The digit that is estimated is not too small -/
theorem est_ge {R V L : Nat} (hL : 1 ≤ L) (hV : V < 2 ^ (64 * L)) (hV2 : 9223372036854775808 ≤ wd V (L - 1)) (hR : R < V * 18446744073709551616) :
    (wd V (L - 1) ≤ wd R L → R / V ≤ 18446744073709551615) ∧
    (¬ wd V (L - 1) ≤ wd R L → R / V ≤ (wd R L * 18446744073709551616 + wd R (L - 1)) / wd V (L - 1) ∧ (wd R L * 18446744073709551616 + wd R (L - 1)) / wd V (L - 1) < 18446744073709551616) := by
  obtain ⟨k, rfl⟩ : ∃ k, L = k + 1 := ⟨L - 1, by omega⟩
  rw [Nat.add_sub_cancel] at *
  have hp : 0 < 2 ^ (64 * k) := Nat.two_pow_pos _
  have hv : wd V k = V / 2 ^ (64 * k) := by
    unfold wd
    exact Nat.mod_eq_of_lt (Nat.div_lt_of_lt_mul (by rw [pow_succ64] at hV; exact hV))
  have hR2 : R / 2 ^ (64 * k) / 18446744073709551616 < 18446744073709551616 := by
    refine Nat.div_lt_of_lt_mul (Nat.div_lt_of_lt_mul ?_)
    have : V * 18446744073709551616 ≤ 2 ^ (64 * k) * 18446744073709551616 * 18446744073709551616 := Nat.mul_le_mul_right _ (by rw [pow_succ64] at hV; exact Nat.le_of_lt hV)
    rw [← Nat.mul_assoc]
    exact Nat.lt_of_lt_of_le hR this
  have hr : R / 2 ^ (64 * k) = wd R (k + 1) * 18446744073709551616 + wd R k := by
    unfold wd
    rw [pow_succ64, ← Nat.div_div_eq_div_mul, Nat.mod_eq_of_lt hR2]
    omega
  have h0 : V ≠ 0 := by
    intro e
    subst e
    rw [hv, Nat.zero_div] at hV2
    omega
  refine ⟨fun _ => ?_, fun h => ⟨?_, ?_⟩⟩
  · have : R / V < 18446744073709551616 := Nat.div_lt_of_lt_mul hR
    omega
  · have h1 : 2 ^ (64 * k) * wd V k ≤ V := by rw [hv]; exact Nat.mul_div_le V _
    have h2 := Nat.div_le_div_left (a := R) h1 (Nat.mul_pos hp (by omega))
    rw [← Nat.div_div_eq_div_mul, hr] at h2
    exact h2
  · refine Nat.div_lt_of_lt_mul ?_
    have := wd_lt R k
    have h3 : (wd R (k + 1) + 1) * 18446744073709551616 ≤ wd V k * 18446744073709551616 := Nat.mul_le_mul_right _ (by omega)
    omega

/-! ### The divisor, shifted -/
theorem topShift {N : Nat} (h : N ≠ 0) : nw N ≠ 0 ∧ 1 ≤ bitLen (wd N (nw N - 1)) ∧ bitLen (wd N (nw N - 1)) ≤ 64 ∧
    N * 2 ^ (64 - bitLen (wd N (nw N - 1))) < 2 ^ (64 * nw N) ∧ 9223372036854775808 ≤ wd (N * 2 ^ (64 - bitLen (wd N (nw N - 1)))) (nw N - 1) := by
  have hn : nw N ≠ 0 := by
    intro e
    have := lt_nw N
    rw [e, Nat.mul_zero, Nat.pow_zero] at this
    omega
  obtain ⟨hne, hlt⟩ := nw_top hn
  have hw : wd N (nw N - 1) = N / 2 ^ (64 * (nw N - 1)) := Nat.mod_eq_of_lt hlt
  have hlt' := lt_nw N
  generalize nw N = n at *
  obtain ⟨k, rfl⟩ : ∃ k, n = k + 1 := ⟨n - 1, by omega⟩
  rw [Nat.add_sub_cancel] at *
  rw [hw]
  generalize hwd : N / 2 ^ (64 * k) = w at *
  have hb := bitLen_spec w
  have hb2 := hb.2 hne
  have hb1 := hb.1
  have hb0 : 1 ≤ bitLen w := by
    rcases Nat.eq_zero_or_pos (bitLen w) with e | e
    · rw [e, Nat.pow_zero] at hb1; omega
    · exact e
  have hb64 : bitLen w ≤ 64 := bitLen_lt_iff.2 hlt
  have hp : 0 < 2 ^ (64 * k) := Nat.two_pow_pos _
  have hN1 : N < (w + 1) * 2 ^ (64 * k) := by
    rw [← hwd, Nat.mul_comm]
    exact Nat.lt_mul_div_succ N hp
  have hN2 : w * 2 ^ (64 * k) ≤ N := by rw [← hwd]; exact Nat.div_mul_le_self _ _
  have hB : (18446744073709551616 : Nat) = 2 ^ bitLen w * 2 ^ (64 - bitLen w) := by rw [← Nat.pow_add, Nat.add_sub_cancel' hb64]
  have hB2 : (9223372036854775808 : Nat) = 2 ^ (bitLen w - 1) * 2 ^ (64 - bitLen w) := by rw [← Nat.pow_add, show bitLen w - 1 + (64 - bitLen w) = 63 by omega]
  generalize hs : 2 ^ (64 - bitLen w) = S at *
  have hS : 0 < S := by rw [← hs]; exact Nat.two_pow_pos _
  have hlt2 : N * S < 2 ^ (64 * (k + 1)) := by
    rw [pow_succ64, hB, show 2 ^ (64 * k) * (2 ^ bitLen w * S) = 2 ^ bitLen w * 2 ^ (64 * k) * S by ac_rfl]
    refine Nat.mul_lt_mul_of_pos_right (Nat.lt_of_lt_of_le hN1 (Nat.mul_le_mul_right _ ?_)) hS
    omega
  refine ⟨by omega, hb0, hb64, hlt2, ?_⟩
  unfold wd
  rw [Nat.mod_eq_of_lt (Nat.div_lt_of_lt_mul (by rw [pow_succ64] at hlt2; exact hlt2)), Nat.le_div_iff_mul_le hp, hB2]
  calc 2 ^ (bitLen w - 1) * S * 2 ^ (64 * k) ≤ w * S * 2 ^ (64 * k) := Nat.mul_le_mul_right _ (Nat.mul_le_mul_right _ hb2)
    _ = w * 2 ^ (64 * k) * S := by ac_rfl
    _ ≤ N * S := Nat.mul_le_mul_right _ hN2

/-! ### The rest, digit by digit -/
/-- What is left before the last r digits are taken. -/
def restW (W V r : Nat) : Nat := W % (V * 2 ^ (64 * r))
theorem restW_zero (W V : Nat) : restW W V 0 = W % V := by unfold restW; rw [Nat.mul_zero, Nat.pow_zero, Nat.mul_one]
theorem restW_lt (W r : Nat) {V : Nat} (hV : 0 < V) : restW W V r < V * 2 ^ (64 * r) := Nat.mod_lt _ (Nat.mul_pos hV (Nat.two_pow_pos _))
/-- The digit that is taken. -/
theorem restW_digit (W V r : Nat) : restW W V (r + 1) / 2 ^ (64 * r) / V = wd (W / V) r := by
  unfold restW wd
  rw [pow_succ64, ← Nat.mul_assoc, Nat.div_div_eq_div_mul, Nat.mul_comm (2 ^ (64 * r)) V, Nat.mod_mul_right_div_self, Nat.div_div_eq_div_mul]
theorem restW_succ (W V r : Nat) : restW W V r = restW W V (r + 1) - V * wd (W / V) r * 2 ^ (64 * r) ∧ V * wd (W / V) r * 2 ^ (64 * r) ≤ restW W V (r + 1) := by
  have h1 : restW W V r = restW W V (r + 1) % (V * 2 ^ (64 * r)) := by
    unfold restW
    rw [Nat.mod_mod_of_dvd]
    exact Nat.mul_dvd_mul_left _ (Nat.pow_dvd_pow 2 (by omega))
  have h2 := Nat.div_add_mod (restW W V (r + 1)) (V * 2 ^ (64 * r))
  have h3 : restW W V (r + 1) / (V * 2 ^ (64 * r)) = wd (W / V) r := by
    rw [← restW_digit, Nat.div_div_eq_div_mul, Nat.mul_comm V]
  rw [h3, show V * 2 ^ (64 * r) * wd (W / V) r = V * wd (W / V) r * 2 ^ (64 * r) by ac_rfl] at h2
  omega
/-- The words below, within and above. -/
theorem restW_words (W V r L t : Nat) (hV : 0 < V) (hVL : V < 2 ^ (64 * L)) :
    mixW r (L + 1) (restW W V (r + 1) / 2 ^ (64 * r) - V * wd (W / V) r) (fun t => wd (restW W V (r + 1)) t) t = wd (restW W V r) t := by
  obtain ⟨h1, h2⟩ := restW_succ W V r
  have hlt := restW_lt W (r + 1) hV
  have e : restW W V r / 2 ^ (64 * r) = restW W V (r + 1) / 2 ^ (64 * r) - V * wd (W / V) r := by
    have e2 : restW W V (r + 1) = restW W V r + V * wd (W / V) r * 2 ^ (64 * r) := by omega
    rw [e2, Nat.add_mul_div_right _ _ (Nat.two_pow_pos _), Nat.add_sub_cancel]
  rw [← e]
  unfold mixW
  split
  · rename_i h
    unfold wd
    rw [Nat.div_div_eq_div_mul, ← Nat.pow_add, show 64 * r + 64 * (t - r) = 64 * t by omega]
  · rename_i h
    show wd (restW W V (r + 1)) t = _
    rcases Nat.lt_or_ge t r with h3 | h3
    · have e2 : restW W V (r + 1) = restW W V r + V * wd (W / V) r * 2 ^ (64 * r) := by omega
      rw [e2, wd_lt_add _ _ _ _ h3]
    · have h4 : r + L + 1 ≤ t := by omega
      have hz : ∀ P, P < V * 2 ^ (64 * (r + 1)) → wd P t = 0 := fun P hP => by
        refine wd_eq_zero (Nat.lt_of_lt_of_le hP ?_)
        calc V * 2 ^ (64 * (r + 1)) ≤ 2 ^ (64 * L) * 2 ^ (64 * (r + 1)) := Nat.mul_le_mul_right _ (Nat.le_of_lt hVL)
          _ = 2 ^ (64 * L + 64 * (r + 1)) := (Nat.pow_add _ _ _).symm
          _ ≤ 2 ^ (64 * t) := Nat.pow_le_pow_right (by omega) (by omega)
      rw [hz _ hlt, hz _ (by omega)]
/-- At the beginning nothing is taken yet. -/
theorem rounds_lt {M N S : Nat} (hS : S ≤ 9223372036854775808) (hN : 2 ^ (64 * (nw N - 1)) * 9223372036854775808 ≤ N * S) : M * S < N * S * 2 ^ (64 * (nw M + 1 - nw N)) := by
  have hM := lt_nw M
  have hB : 2 ^ (64 * (nw N - 1)) * 2 ^ (64 * (nw M + 1 - nw N)) ≥ 2 ^ (64 * nw M) := by
    rw [← Nat.pow_add]
    exact Nat.pow_le_pow_right (by omega) (by omega)
  rcases Nat.eq_zero_or_pos S with h0 | h0
  · subst h0
    have : 0 < 2 ^ (64 * (nw N - 1)) * 9223372036854775808 := Nat.mul_pos (Nat.two_pow_pos _) (by omega)
    omega
  · calc M * S < 2 ^ (64 * nw M) * S := Nat.mul_lt_mul_of_pos_right hM h0
      _ ≤ 2 ^ (64 * nw M) * 9223372036854775808 := Nat.mul_le_mul_left _ hS
      _ ≤ 2 ^ (64 * (nw N - 1)) * 2 ^ (64 * (nw M + 1 - nw N)) * 9223372036854775808 := Nat.mul_le_mul_right _ hB
      _ = 2 ^ (64 * (nw N - 1)) * 9223372036854775808 * 2 ^ (64 * (nw M + 1 - nw N)) := by ac_rfl
      _ ≤ N * S * 2 ^ (64 * (nw M + 1 - nw N)) := Nat.mul_le_mul_right _ hN

/-! ### Two halves of a word by the upper half: math/bits's Div64 -/
theorem half_start {a b y : Nat} (hy : 9223372036854775808 ≤ y) (hy2 : y < 18446744073709551616) (ha : a < y) (hb : b < 4294967296) :
    (a * 4294967296 + b) / y ≤ a / (y / 4294967296) ∧ a / (y / 4294967296) ≤ 4294967297 ∧ (a * 4294967296 + b) / y < 4294967296 ∧ a / (y / 4294967296) * (y / 4294967296) + a % (y / 4294967296) = a ∧ a % (y / 4294967296) < 4294967296 := by
  have hh : 2147483648 ≤ y / 4294967296 := by omega
  have hh2 : y / 4294967296 < 4294967296 := by omega
  have hh3 : y < (y / 4294967296) * 4294967296 + 4294967296 := by omega
  have hh4 : (y / 4294967296) * 4294967296 ≤ y := by omega
  have hm : a % (y / 4294967296) < y / 4294967296 := Nat.mod_lt _ (by omega)
  have hd := Nat.div_add_mod a (y / 4294967296)
  rw [Nat.mul_comm] at hd
  generalize y / 4294967296 = h at *
  refine ⟨?_, ?_, ?_, hd, by omega⟩
  · have h1 := Nat.div_le_div_left (a := a * 4294967296 + b) (show 4294967296 * h ≤ y by omega) (by omega)
    rw [← Nat.div_div_eq_div_mul, show (a * 4294967296 + b) / 4294967296 = a by omega] at h1
    exact h1
  · have : a < h * 4294967298 := by omega
    have := Nat.div_lt_of_lt_mul this
    omega
  · refine Nat.div_lt_of_lt_mul ?_
    omega
theorem half_test {a b y q r : Nat} (hy : 9223372036854775808 ≤ y) (hq : q * (y / 4294967296) + r = a) : q * (y % 4294967296) > 4294967296 * r + b ↔ (a * 4294967296 + b) / y < q := by
  rw [Nat.div_lt_iff_lt_mul (by omega)]
  have e : q * y = q * (y / 4294967296) * 4294967296 + q * (y % 4294967296) := by
    conv => lhs; rw [← Nat.div_add_mod y 4294967296]
    rw [Nat.mul_add]
    congr 1
    ac_rfl
  rw [e, ← hq, Nat.add_mul]
  omega
theorem half_step {y q r a : Nat} (h : q * (y / 4294967296) + r = a) (hq : 0 < q) : (q - 1) * (y / 4294967296) + (r + y / 4294967296) = a := by
  obtain ⟨k, rfl⟩ : ∃ k, q = k + 1 := ⟨q - 1, by omega⟩
  rw [Nat.add_sub_cancel]
  rw [Nat.add_mul] at h
  omega
/-- Broken off: it is the quotient. -/
theorem half_break {a b y q r : Nat} (hy : 9223372036854775808 ≤ y) (hq : q * (y / 4294967296) + r = a) (hr : 4294967296 ≤ r) (hq2 : q ≤ 4294967296) : q ≤ (a * 4294967296 + b) / y := by
  rw [Nat.le_div_iff_mul_le (by omega)]
  have e : q * y = q * (y / 4294967296) * 4294967296 + q * (y % 4294967296) := by
    conv => lhs; rw [← Nat.div_add_mod y 4294967296]
    rw [Nat.mul_add]
    congr 1
    ac_rfl
  have h1 : q * (y % 4294967296) ≤ 4294967296 * 4294967295 := Nat.mul_le_mul hq2 (by omega)
  rw [e, ← hq, Nat.add_mul]
  omega
/-- Both halves. -/
theorem half_any (A b l y : Nat) (hy : 0 < y) : (A / y) * b + ((A % y) * b + l) / y = (A * b + l) / y := by
  have h1 := Nat.div_add_mod A y
  generalize A / y = q at *
  generalize A % y = r at *
  have e : A * b + l = r * b + l + y * (q * b) := by
    rw [← h1, Nat.add_mul, Nat.mul_assoc]
    omega
  rw [e, Nat.add_mul_div_left _ _ hy, Nat.add_comm]
theorem half_both {hi lo y : Nat} (hy : 0 < y) :
    ((hi * 4294967296 + lo / 4294967296) / y) * 4294967296 + (((hi * 4294967296 + lo / 4294967296) % y) * 4294967296 + lo % 4294967296) / y = (hi * 18446744073709551616 + lo) / y := by
  have e : ∀ A, A = hi * 4294967296 + lo / 4294967296 → hi * 18446744073709551616 + lo = A * 4294967296 + lo % 4294967296 := fun A hA => by omega
  rw [e _ rfl]
  exact half_any _ _ _ y hy
end Go.Proofs.Ythnemimpkpkjbaa.W
/-! math/bits: two words by one whose first bit is set. -/
namespace Go.Ev
section
variable {P : Program}
def evM4 (P : Program) (c : Code) (fuel : Nat) (live : List Nat) (S : St) (ans : List Ans) : Option (Bool × Prop × Exit × St) :=
  match evM P c fuel live S ans with
  | some (a, b, x, y) => some (a, allP b, x, y)
  | none => none
/-- A round of a loop: the tests, the obligations, the end and the state are read off what is handed in. -/
theorem Tri.run (hm : P.follows .mixedOrders = true) {c : Code} (live : List Nat) (ans : List Ans) {S S' : St} {x : Exit} {X : Bool} {A : Prop} (hx : X = true) (ha : A) (e : evM4 P c 400 live S ans = some (X, A, x, S')) : Tri P c S (to x S') := by
  unfold evM4 at e
  split at e
  · rename_i a b y s he
    cases e
    exact Tri.of_ev hm 400 live ans he hx ha
  · cases e
theorem TriL.out {c : Code} {S S' : St} {x : Exit} (hx : x ≠ .normal) (h : Tri P c S (to x S')) : TriL P c S (to x S') :=
  TriL.step (h.mono fun e S1 ⟨h1, h2⟩ => by
    subst h1 h2
    cases e with
    | normal => exact absurd rfl hx
    | _ => exact ⟨rfl, rfl⟩)
theorem TriL.next {c : Code} {S S1 : St} {Q : Exit → St → Prop} (h : Tri P c S (to .normal S1)) (h' : TriL P c S1 Q) : TriL P c S Q :=
  TriL.step (h.mono fun e S2 ⟨h1, h2⟩ => by subst h1 h2; exact h')
end
end Go.Ev
namespace Go.Proofs.Ythnemimpkpkjbaa.W
open Go Go.Ev Go.Wide

def u (n : Nat) : Value := .int .u64 n
theorem wrap_mul (a b : Nat) : IntKind.u64.wrap ((a : Int) * (b : Int)) = ((a * b % 18446744073709551616 : Nat) : Int) := by
  rw [u64_wrap, ← Int.natCast_mul]
  omega
theorem wrap_add (a b : Nat) : IntKind.u64.wrap ((a : Int) + (b : Int)) = (((a + b) % 18446744073709551616 : Nat) : Int) := by
  rw [u64_wrap]
  omega
theorem wrap_of {n : Int} {m : Nat} (h : n = m) (hm : m < 18446744073709551616) : IntKind.u64.wrap n = m := by
  rw [u64_wrap, h]
  omega

def dL : List Nat := [2, 8, 9, 10, 11, 13, 14, 15, 16]
def dS (y y1 y0 h u1 u0 q r : Nat) : St := ⟨slots 135 [(2, u y), (8, .int .u64 0), (9, u y1), (10, u y0), (11, u h), (13, u u1), (14, u u0), (15, u q), (16, u r)], []⟩
def dL2 : List Nat := [2, 8, 9, 10, 14, 15, 16, 17, 18]
def dS2 (y y1 y0 u0 s v q r : Nat) : St := ⟨slots 135 [(2, u y), (8, .int .u64 0), (9, u y1), (10, u y0), (14, u u0), (15, u s), (16, u r), (17, u v), (18, u q)], []⟩

/-- Either loop: it ends at the quotient. -/
theorem half_loop {c : Code} {ex : Exit} {st : Nat → Nat → St} {y a b : Nat} (hex : ex ≠ .normal) (hy : 9223372036854775808 ≤ y) (hb : b < 4294967296) (hQ : (a * 4294967296 + b) / y < 4294967296)
    (hend : ∀ q r m n k : Nat, ¬ (q : Int) ≥ 4294967296 → IntKind.u64.wrap ((q : Int) * ((y % 4294967296 : Nat) : Int)) = m → IntKind.u64.wrap (4294967296 * (r : Int)) = n → IntKind.u64.wrap ((n : Int) + (b : Int)) = k → ¬ (m : Int) > k → Tri Try.prog c (st q r) (to ex (st q r)))
    (hbig : ∀ q r q' r' : Nat, (q : Int) ≥ 4294967296 → IntKind.u64.wrap ((q : Int) - 1) = q' → IntKind.u64.wrap ((r : Int) + ((y / 4294967296 : Nat) : Int)) = r' → (r' : Int) ≥ 4294967296 → Tri Try.prog c (st q r) (to ex (st q' r')))
    (hbig2 : ∀ q r q' r' : Nat, (q : Int) ≥ 4294967296 → IntKind.u64.wrap ((q : Int) - 1) = q' → IntKind.u64.wrap ((r : Int) + ((y / 4294967296 : Nat) : Int)) = r' → ¬ (r' : Int) ≥ 4294967296 → Tri Try.prog c (st q r) (to .normal (st q' r')))
    (hmore : ∀ q r q' r' m n k : Nat, ¬ (q : Int) ≥ 4294967296 → IntKind.u64.wrap ((q : Int) * ((y % 4294967296 : Nat) : Int)) = m → IntKind.u64.wrap (4294967296 * (r : Int)) = n → IntKind.u64.wrap ((n : Int) + (b : Int)) = k → (m : Int) > k →
      IntKind.u64.wrap ((q : Int) - 1) = q' → IntKind.u64.wrap ((r : Int) + ((y / 4294967296 : Nat) : Int)) = r' → (r' : Int) ≥ 4294967296 → Tri Try.prog c (st q r) (to ex (st q' r')))
    (hmore2 : ∀ q r q' r' m n k : Nat, ¬ (q : Int) ≥ 4294967296 → IntKind.u64.wrap ((q : Int) * ((y % 4294967296 : Nat) : Int)) = m → IntKind.u64.wrap (4294967296 * (r : Int)) = n → IntKind.u64.wrap ((n : Int) + (b : Int)) = k → (m : Int) > k →
      IntKind.u64.wrap ((q : Int) - 1) = q' → IntKind.u64.wrap ((r : Int) + ((y / 4294967296 : Nat) : Int)) = r' → ¬ (r' : Int) ≥ 4294967296 → Tri Try.prog c (st q r) (to .normal (st q' r')))
    (hy2 : y < 18446744073709551616) :
    ∀ q r : Nat, q * (y / 4294967296) + r = a → r < 4294967296 → (a * 4294967296 + b) / y ≤ q → q ≤ 4294967297 → TriL Try.prog c (st q r) (to ex (st ((a * 4294967296 + b) / y) (a - (a * 4294967296 + b) / y * (y / 4294967296)))) := by
  intro q
  induction q with
  | zero =>
    intro r hq hr hge hle
    have e0 : (a * 4294967296 + b) / y = 0 := Nat.le_zero.1 hge
    rw [e0]
    have e1 : a - 0 * (y / 4294967296) = r := by omega
    rw [e1]
    exact TriL.out hex (hend 0 r 0 (4294967296 * r) (4294967296 * r + b) (by omega) (wrap_of (by omega) (by omega)) (wrap_of (by omega) (by omega)) (wrap_of (by omega) (by omega)) (by omega))
  | succ q ih =>
    intro r hq hr hge hle
    have hy0 : y % 4294967296 < 4294967296 := Nat.mod_lt _ (by omega)
    have hm : q + 1 < 4294967296 → (q + 1) * (y % 4294967296) < 18446744073709551616 := fun h => by
      have := Nat.mul_lt_mul'' h hy0
      omega
    have w3 : IntKind.u64.wrap (4294967296 * (r : Int)) = ((4294967296 * r : Nat) : Int) := wrap_of (by omega) (by omega)
    have w4 : IntKind.u64.wrap (((4294967296 * r : Nat) : Int) + (b : Int)) = ((4294967296 * r + b : Nat) : Int) := wrap_of (by omega) (by omega)
    have g2 : IntKind.u64.wrap (((q + 1 : Nat) : Int) - 1) = (q : Int) := wrap_of (by omega) (by omega)
    have g3 : IntKind.u64.wrap ((r : Int) + ((y / 4294967296 : Nat) : Int)) = ((r + y / 4294967296 : Nat) : Int) := wrap_of (by omega) (by omega)
    have htest := half_test (b := b) hy hq
    by_cases hlt : (a * 4294967296 + b) / y < q + 1
    · have hstep := half_step hq (by omega)
      rw [Nat.add_sub_cancel] at hstep
      by_cases hbr : r + y / 4294967296 ≥ 4294967296
      · have hQ' := half_break (b := b) hy hstep hbr (by omega)
        have e : (a * 4294967296 + b) / y = q := by omega
        rw [e]
        have e1 : a - q * (y / 4294967296) = r + y / 4294967296 := by omega
        rw [e1]
        by_cases hb32 : q + 1 ≥ 4294967296
        · exact TriL.out hex (hbig _ _ _ _ (by omega) g2 g3 (by omega))
        · have w2 : IntKind.u64.wrap (((q + 1 : Nat) : Int) * ((y % 4294967296 : Nat) : Int)) = (((q + 1) * (y % 4294967296) : Nat) : Int) := by
            rw [wrap_mul, Nat.mod_eq_of_lt (hm (by omega))]
          have h5 := htest.2 hlt
          exact TriL.out hex (hmore _ _ _ _ _ _ _ (by omega) w2 w3 w4 (by omega) g2 g3 (by omega))
      · have hnext := ih (r + y / 4294967296) hstep (by omega) (by omega) (by omega)
        by_cases hb32 : q + 1 ≥ 4294967296
        · exact TriL.next (hbig2 _ _ _ _ (by omega) g2 g3 (by omega)) hnext
        · have w2 : IntKind.u64.wrap (((q + 1 : Nat) : Int) * ((y % 4294967296 : Nat) : Int)) = (((q + 1) * (y % 4294967296) : Nat) : Int) := by
            rw [wrap_mul, Nat.mod_eq_of_lt (hm (by omega))]
          have h5 := htest.2 hlt
          exact TriL.next (hmore2 _ _ _ _ _ _ _ (by omega) w2 w3 w4 (by omega) g2 g3 (by omega)) hnext
    · have e : (a * 4294967296 + b) / y = q + 1 := by omega
      rw [e]
      have e1 : a - (q + 1) * (y / 4294967296) = r := by omega
      rw [e1]
      have w2 : IntKind.u64.wrap (((q + 1 : Nat) : Int) * ((y % 4294967296 : Nat) : Int)) = (((q + 1) * (y % 4294967296) : Nat) : Int) := by
        rw [wrap_mul, Nat.mod_eq_of_lt (hm (by omega))]
      have h5 : ¬ (q + 1) * (y % 4294967296) > 4294967296 * r + b := fun h => hlt (htest.1 h)
      exact TriL.out hex (hend _ _ _ _ _ (by omega) w2 w3 w4 (by omega))
theorem tsC {b : Bool} {l : List Bool} (h : b = true) (t : conj l = true) : conj (b :: l) = true := by rw [conj_cons, h, t]; rfl
theorem whole_aux {U y Q R : Nat} (e : U = y * Q + R) (h3 : R < y) : U / y = Q ∧ U % y = R := by
  subst e
  rw [Nat.mul_add_div (by omega), Nat.mul_add_mod, Nat.div_eq_of_lt h3, Nat.mod_eq_of_lt h3]
  exact ⟨rfl, rfl⟩
theorem half_whole {hi lo y Q1 R1 Q0 R0 : Nat} (h1 : Q1 * y + R1 = hi * 4294967296 + lo / 4294967296) (h2 : Q0 * y + R0 = R1 * 4294967296 + lo % 4294967296) (h3 : R0 < y) :
    (hi * 18446744073709551616 + lo) / y = Q1 * 4294967296 + Q0 ∧ (hi * 18446744073709551616 + lo) % y = R0 := by
  refine whole_aux ?_ h3
  have e1 : y * (Q1 * 4294967296 + Q0) = Q1 * y * 4294967296 + Q0 * y := by rw [Nat.mul_add, Nat.mul_comm y Q0, ← Nat.mul_assoc, Nat.mul_comm y Q1]
  omega
def u64v (n : Int) : Value := .int .u64 n
theorem wrap_lit (x : Nat) : IntKind.u64.wrap ((x : Int) * 4294967296) = ((x * 4294967296 % 18446744073709551616 : Nat) : Int) := by rw [u64_wrap]; omega
theorem sub_back {T X R M : Nat} (h : X + R = T) (hR : R < 18446744073709551616) (hM : M = T % 18446744073709551616) : IntKind.u64.wrap ((M : Int) - ((X % 18446744073709551616 : Nat) : Int)) = (R : Int) := by
  rw [u64_wrap]
  omega
end Go.Proofs.Ythnemimpkpkjbaa.W
/-! Long division, the program's pieces: memories and states. -/
namespace Go.Proofs.Ythnemimpkpkjbaa.W
open Go Go.Ev Go.Wide

def m17 (p : Nat → Nat) : List Value := (List.range 17).map fun t => .int .u64 (p t)
theorem set17 (p : Nat → Nat) (i j v : Nat) : (m17 p).set (i + ((j : Nat) : Int).toNat * 1) (.int .u64 v) = m17 (fun t => if t = i + j then v else p t) := by
  unfold m17
  rw [map_set, Int.toNat_natCast, Nat.mul_one]
  refine List.map_congr_left fun t _ => ?_
  by_cases h : t = i + j
  · rw [if_pos h]; simp only [if_pos h]
  · rw [if_neg h]; simp only [if_neg h]
theorem get17 (p : Nat → Nat) {i j : Nat} (h : i + j < 17) : (m17 p).getD (i + ((j : Nat) : Int).toNat * 1) undef = u (p (i + j)) := by
  unfold m17
  rw [Int.toNat_natCast, Nat.mul_one, List.getD_eq_getElem?_getD, List.getElem?_map, List.getElem?_range h]
  rfl
theorem m17_congr {p p' : Nat → Nat} (h : ∀ t, p t = p' t) : m17 p = m17 p' := by rw [funext h]
theorem getWord (V : Nat) {j : Nat} (h : j < 16) : (words V).getD (0 + ((j : Nat) : Int).toNat * 1) undef = u (wd V j) := getD_map h

/-- The rest's words i .. i + L, and the divisor's L words. -/
def psl (i L : Nat) : Value := .slice (some ⟨4, i, none⟩) (L + 1) (17 - i)
def dsl (L : Nat) : Value := .slice (some ⟨3, 0, none⟩) L 16
def q16 (p : Nat → Nat) : List Value := (List.range 16).map fun t => .int .u64 (p t)

def spL : List Nat := [0, 1, 2, 7, 8, 13, 14, 15]
def abL : List Nat := [0, 1, 5, 9, 10, 11]
def tdL : List Nat := [0, 1, 5, 6]
def dbL : List Nat := [4, 6, 9, 10, 11]
end Go.Proofs.Ythnemimpkpkjbaa.W
/-! Long division, the program's pieces: estimateDigit, subtractProduct, addBack, takeDigit. -/
namespace Go.Proofs.Ythnemimpkpkjbaa.W
open Go Go.Ev Go.Wide

theorem ltI {j n : Nat} (h : j < n) : decide ((j : Int) < (n : Int)) = true := decide_eq_true (by omega)
theorem ltA {i j n : Nat} (h : i + j < n) : decide (i + ((j : Nat) : Int).toNat * 1 < n) = true := decide_eq_true (by rw [Int.toNat_natCast]; omega)
theorem wrapN {n : Int} {m : Nat} (h : n = m) (hm : m ≤ 9223372036854775807) : decide (IntKind.i64.wrap n = (m : Int)) = true := by
  rw [h, i64_wrap (by omega) (by omega)]
  exact decide_eq_true rfl
theorem all17 (p : Nat → Nat) (i j v n : Nat) : ((m17 p).set (i + ((j : Nat) : Int).toNat * 1) (.int .u64 v)).all (noNew1 n) = true := by
  rw [set17]
  rfl
/-! ### estimateDigit -/
/-! ### subtractProduct -/
/-! ### addBack -/
/-! ### takeDigit -/
end Go.Proofs.Ythnemimpkpkjbaa.W
/-! Long division, the program's pieces in numbers: one digit. -/
namespace Go.Proofs.Ythnemimpkpkjbaa.W
open Go Go.Ev Go.Wide

end Go.Proofs.Ythnemimpkpkjbaa.W
/-! Long division: widenedUp, dividedBy. -/
namespace Go.Proofs.Ythnemimpkpkjbaa.W
open Go Go.Ev Go.Wide

/-! ### widenedUp -/
def widV (W : Nat) : Value := .agg (m17 (wd W)).toArray
def widV0 (W M s : Nat) : Value := .agg ((List.range 16).map (fun t => Value.int .u64 (wd W t)) ++ [Value.int .u64 (shrI (wd M 15) (restI s))]).toArray
/-! ### dividedBy -/
theorem set16 (q : Nat → Nat) (k v : Nat) : (q16 q).set (0 + ((k : Nat) : Int).toNat * 1) (.int .u64 v) = q16 (fun t => if t = k then v else q t) := by
  unfold q16
  rw [map_set, Int.toNat_natCast, Nat.zero_add, Nat.mul_one]
  refine List.map_congr_left fun i _ => ?_
  by_cases h : i = k
  · rw [if_pos h]; simp only [if_pos h]
  · rw [if_neg h]; simp only [if_neg h]
theorem psl_eq {i L : Nat} (h : i < 17) : Value.slice (some ⟨4, 0 + (if 17 = ((i : Nat) : Int).toNat then 0 else ((i : Nat) : Int).toNat * 1), none⟩) (((i + L + 1 : Nat) : Int).toNat - ((i : Nat) : Int).toNat) (17 - ((i : Nat) : Int).toNat) = psl i L := by
  unfold psl
  rw [Int.toNat_natCast, Int.toNat_natCast, if_neg (by omega), Nat.zero_add, Nat.mul_one, show i + L + 1 - i = L + 1 by omega]
theorem q16_mag (Q : Nat) : Value.agg (q16 (wd Q)).toArray = mag Q := rfl
end Go.Proofs.Ythnemimpkpkjbaa.W
/-! The program's squareRoot, Div, Sqrt. -/
namespace Go.Ev
section
variable {P : Program}
def evK4 (P : Program) (c : Code) (fuel : Nat) (live : List Nat) (n : Nat) (S : St) (ans : List Ans) : Option (Bool × Prop × Exit × St) :=
  match evK P c fuel live n S ans with
  | some (a, b, x, y) => some (a, allP b, x, y)
  | none => none
theorem Tri.runK (hm : P.follows .mixedOrders = true) {c : Code} (live : List Nat) (n : Nat) (ans : List Ans) {S S' : St} {x : Exit} {X : Bool} {A : Prop} (hx : X = true) (ha : A) (e : evK4 P c 400 live n S ans = some (X, A, x, S')) : Tri P c S (to x S') := by
  unfold evK4 at e
  split at e
  · rename_i a b y s he
    cases e
    exact Tri.of_evK hm 400 live n ans he hx ha
  · cases e
end
end Go.Ev
namespace Go.Proofs.Ythnemimpkpkjbaa.W
open Go Go.Ev Go.Wide

/-! ### Roots of natural numbers -/
def isq : Nat → Nat
  | 0 => 0
  | n + 1 => if (isq n + 1) * (isq n + 1) ≤ n + 1 then isq n + 1 else isq n
theorem isq_spec : ∀ n, isq n * isq n ≤ n ∧ n < (isq n + 1) * (isq n + 1)
  | 0 => by simp [isq]
  | n + 1 => by
    obtain ⟨h1, h2⟩ := isq_spec n
    unfold isq
    split
    · rename_i h
      refine ⟨h, ?_⟩
      have e : (isq n + 1 + 1) * (isq n + 1 + 1) = (isq n + 1) * (isq n + 1) + (isq n + 1) + (isq n + 1) + 1 := by
        rw [Nat.mul_add, Nat.add_mul, Nat.mul_one, Nat.one_mul]
        omega
      omega
    · exact ⟨by omega, by omega⟩
theorem sq_lt_of_lt {a b : Nat} (h : a < b) : a * a < b * b := Nat.mul_lt_mul'' h h
theorem sq_le_of_le {a b : Nat} (h : a ≤ b) : a * a ≤ b * b := Nat.mul_le_mul h h
theorem isq_le {n a : Nat} (h : a * a ≤ n) : a ≤ isq n := by
  have h2 := (isq_spec n).2
  rcases Nat.lt_or_ge (isq n) a with h1 | h1
  · have := sq_le_of_le (show isq n + 1 ≤ a from h1)
    omega
  · exact h1
theorem isq_eq {n a : Nat} (h1 : a * a ≤ n) (h2 : n < (a + 1) * (a + 1)) : isq n = a := by
  have h := isq_le h1
  have hs := (isq_spec n).1
  rcases Nat.lt_or_ge a (isq n) with h3 | h3
  · have := sq_le_of_le (show a + 1 ≤ isq n from h3)
    omega
  · omega
theorem isq_mono {m n : Nat} (h : m ≤ n) : isq m ≤ isq n := isq_le (Nat.le_trans (isq_spec m).1 h)
theorem isq_self (n : Nat) : isq n ≤ n := by
  have := (isq_spec n).1
  rcases Nat.eq_zero_or_pos (isq n) with h | h
  · omega
  · have := Nat.mul_le_mul_left (isq n) (show 1 ≤ isq n from h)
    omega
/-- One step of Newton's, from above. -/
theorem newton {N r s : Nat} (hr : 0 < r) (hs : s * s ≤ N) (hs2 : N < (s + 1) * (s + 1)) (h : s ≤ r) : s ≤ (r + N / r) / 2 ∧ (¬ (r + N / r) / 2 < r → r = s) := by
  constructor
  · obtain ⟨k, rfl⟩ : ∃ k, r = s + k := ⟨r - s, by omega⟩
    rcases Nat.lt_or_ge s k with h1 | h1
    · generalize N / (s + k) = q
      omega
    · obtain ⟨j, rfl⟩ : ∃ j, s = k + j := ⟨s - k, by omega⟩
      have : j ≤ N / (k + j + k) := by
        rw [Nat.le_div_iff_mul_le hr]
        refine Nat.le_trans ?_ hs
        have e1 : j * (k + j + k) = j * k + j * j + j * k := by rw [Nat.mul_add, Nat.mul_add]
        have e2 : (k + j) * (k + j) = k * k + j * k + (k * j + j * j) := by rw [Nat.mul_add, Nat.add_mul, Nat.add_mul]
        have e3 : k * j = j * k := Nat.mul_comm _ _
        omega
      generalize N / (k + j + k) = q at *
      omega
  · intro h1
    have h2 : r ≤ N / r := by omega
    have h3 := (Nat.le_div_iff_mul_le hr).1 h2
    rcases Nat.lt_or_ge s r with h4 | h4
    · have := sq_le_of_le (show s + 1 ≤ r from h4)
      omega
    · omega

/-! ### squareRoot -/
def srL : List Nat := [1, 2, 3]
def zero16 : List Value := List.replicate 16 (.int .u64 0)
/-! ### Sqrt -/
def errV (v : Value) (e : Nat) : Value := .tuple #[v, .int .i64 e]
def wsqrtV : Option Int → Value
  | none => errV (wv (some 0)) 2
  | some z => if z < 0 then errV (wv (some 0)) 1 else errV (wv (some (isq z.natAbs : Nat))) 0
theorem wv_zero : wv (some 0) = wR false 0 false := rfl
theorem wv_none : wv none = wR true 0 false := rfl
theorem wv_nat (n : Nat) : wv (some (n : Int)) = wR false n false := by
  rw [wv_some, decide_eq_false (by omega), Int.natAbs_natCast]
end Go.Proofs.Ythnemimpkpkjbaa.W
/-! The program's Div. -/
namespace Go.Proofs.Ythnemimpkpkjbaa.W
open Go Go.Ev Go.Wide

/-- The quotient, rounded down. -/
def wdivV : Option Int → Option Int → Value
  | none, _ => errV (wv (some 0)) 2
  | some _, none => errV (wv (some 0)) 2
  | some a, some b => if b = 0 then errV (wv (some 0)) 1 else errV (wv (some (a.fdiv b))) 0
theorem fdiv_signs (a b : Int) (hb : b ≠ 0) : sg (downK (a.natAbs / b.natAbs) (decide (a.natAbs % b.natAbs = 0)) (!(decide (a < 0) == decide (b < 0)))) (!(decide (a < 0) == decide (b < 0))) = a.fdiv b ∧ (a.fdiv b).natAbs ≤ a.natAbs := by
  have hle : a.natAbs / b.natAbs ≤ a.natAbs := Nat.div_le_self _ _
  have hdm := Nat.div_add_mod a.natAbs b.natAbs
  have hlt := Nat.mod_lt a.natAbs (show 0 < b.natAbs by omega)
  -- the floor, by its remainder
  have key : ∀ (q : Int) (r : Int), a = b * q + r → (0 < b → 0 ≤ r ∧ r < b) → (b < 0 → b < r ∧ r ≤ 0) → a.fdiv b = q := by
    intro q r h1 h2 h3
    by_cases hp : 0 < b
    · obtain ⟨r0, r1⟩ := h2 hp
      rw [Int.fdiv_eq_ediv_of_nonneg _ (by omega), h1, Int.add_comm, Int.add_mul_ediv_left _ _ hb, Int.ediv_eq_zero_of_lt r0 r1]
      omega
    · obtain ⟨r0, r1⟩ := h3 (by omega)
      have e : a.fdiv b = (-a).fdiv (-b) := (Int.neg_fdiv_neg a b).symm
      rw [e, Int.fdiv_eq_ediv_of_nonneg _ (by omega), h1, show -(b * q + r) = -r + -b * q by rw [Int.neg_mul]; omega, Int.add_mul_ediv_left _ _ (by omega), Int.ediv_eq_zero_of_lt (by omega) (by omega)]
      omega
  generalize hQ : a.natAbs / b.natAbs = Q at *
  generalize hR : a.natAbs % b.natAbs = R at *
  have hmul : ((b.natAbs * Q : Nat) : Int) = (b.natAbs : Int) * (Q : Int) := Int.natCast_mul _ _
  have hbig : R ≠ 0 → Q + 1 ≤ a.natAbs := fun h => by
    have h2 : 2 ≤ b.natAbs := by omega
    have := Nat.mul_le_mul_right Q h2
    omega
  by_cases ha : a < 0 <;> by_cases hb2 : b < 0
  · rw [decide_eq_true ha, decide_eq_true hb2]
    have e : a.fdiv b = Q := key Q (-R) (by rw [show b = -(b.natAbs : Int) by omega, Int.neg_mul]; omega) (by omega) (by omega)
    rw [e]
    exact ⟨by cases decide (R = 0) <;> rfl, by omega⟩
  · rw [decide_eq_true ha, decide_eq_false hb2]
    by_cases hr : R = 0
    · have e : a.fdiv b = -Q := key (-Q) 0 (by rw [Int.mul_neg, show b = (b.natAbs : Int) by omega]; omega) (by omega) (by omega)
      rw [e, decide_eq_true hr]
      exact ⟨rfl, by omega⟩
    · have e : a.fdiv b = -((Q + 1 : Nat) : Int) := key (-((Q + 1 : Nat) : Int)) (b - R) (by rw [Int.mul_neg, Int.natCast_add, Int.mul_add, show b = (b.natAbs : Int) by omega]; omega) (by omega) (by omega)
      rw [e, decide_eq_false hr]
      exact ⟨rfl, by have := hbig hr; omega⟩
  · rw [decide_eq_false ha, decide_eq_true hb2]
    by_cases hr : R = 0
    · have e : a.fdiv b = -Q := key (-Q) 0 (by rw [Int.mul_neg, show b = -(b.natAbs : Int) by omega, Int.neg_mul]; omega) (by omega) (by omega)
      rw [e, decide_eq_true hr]
      exact ⟨rfl, by omega⟩
    · have e : a.fdiv b = -((Q + 1 : Nat) : Int) := key (-((Q + 1 : Nat) : Int)) (b + R) (by rw [Int.mul_neg, Int.natCast_add, Int.mul_add, show b = -(b.natAbs : Int) by omega, Int.neg_mul]; omega) (by omega) (by omega)
      rw [e, decide_eq_false hr]
      exact ⟨rfl, by have := hbig hr; omega⟩
  · rw [decide_eq_false ha, decide_eq_false hb2]
    have e : a.fdiv b = Q := key Q R (by rw [show b = (b.natAbs : Int) by omega]; omega) (by omega) (by omega)
    rw [e]
    exact ⟨by cases decide (R = 0) <;> rfl, by omega⟩
end Go.Proofs.Ythnemimpkpkjbaa.W
