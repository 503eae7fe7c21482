/-
  Long division, in numbers: no program.
  math/bits: two words by one whose first bit is set.
  Long division, the program's pieces: memories and states.
  Long division, the program's pieces: estimateDigit, subtractProduct, addBack, takeDigit.
  Long division, the program's pieces in numbers: one digit.
  Long division: widenedUp, dividedBy.
  The program's squareRoot, Div, Sqrt.
  The program's Div.
-/
import Derived.Test.YtljolfnpncjklaaGreatWide1
import Derived.Test.YtljolfnpncjklaaGreatEv3
import Derived.Test.YtljolfnpncjklaaGreatWide2
/-! Long division, in numbers: no program. -/
namespace Go.Proofs.YtljolfnpncjklaaGreat.W
open Go Go.Ev Go.Wide

/-! ### One digit times the divisor -/
/-- What is carried before word j of V * d. -/
def mK (V d j : Nat) : Nat := V % 2 ^ (64 * j) * d / 2 ^ (64 * j)
theorem mK_zero (V d : Nat) : mK V d 0 = 0 := by
  unfold mK
  rw [Nat.mul_zero, Nat.pow_zero, Nat.mod_one, Nat.zero_mul, Nat.zero_div]
theorem mK_lt (V d j : Nat) (hd : d < 18446744073709551616) : mK V d j < 18446744073709551616 := by
  unfold mK
  have hp : 0 < 2 ^ (64 * j) := Nat.two_pow_pos _
  have h1 := Nat.mod_lt V hp
  refine Nat.div_lt_of_lt_mul ?_
  rcases Nat.eq_zero_or_pos d with h0 | h0
  · subst h0; rw [Nat.mul_zero]; exact Nat.mul_pos hp (by omega)
  · exact Nat.lt_of_lt_of_le (Nat.mul_lt_mul_of_pos_right h1 h0) (Nat.mul_le_mul_left _ (by omega))
theorem mK_step (V d j : Nat) : V % 2 ^ (64 * (j + 1)) * d / 2 ^ (64 * j) = wd V j * d + mK V d j := by
  unfold mK
  rw [mod_succ64, Nat.add_mul, show wd V j * 2 ^ (64 * j) * d = wd V j * d * 2 ^ (64 * j) by ac_rfl, Nat.add_mul_div_right _ _ (Nat.two_pow_pos _), Nat.add_comm]
theorem mK_succ (V d j : Nat) : mK V d (j + 1) = (wd V j * d + mK V d j) / 18446744073709551616 := by
  rw [← mK_step, Nat.div_div_eq_div_mul, ← pow_succ64]
  rfl
theorem wd_mK (V d j : Nat) : wd (V * d) j = (wd V j * d + mK V d j) % 18446744073709551616 := by
  have e : ∀ P, V * d = V % P * d + V / P * d * P := fun P => by
    have h := Nat.mod_add_div V P
    conv => lhs; rw [← h]
    rw [Nat.add_mul, Nat.mul_assoc P, Nat.mul_comm P]
  have h := wd_lt_add (V % 2 ^ (64 * (j + 1)) * d) (V / 2 ^ (64 * (j + 1)) * d) (j + 1) j (by omega)
  rw [← e] at h
  rw [h, ← mK_step]
  rfl
theorem mul_lt_word {V d L : Nat} (hV : V < 2 ^ (64 * L)) (hd : d < 18446744073709551616) : V * d < 2 ^ (64 * (L + 1)) := by
  rw [pow_succ64]
  exact Nat.lt_of_le_of_lt (Nat.mul_le_mul_left V (Nat.le_of_lt hd)) (Nat.mul_lt_mul_of_pos_right hV (by omega))
theorem mK_all {V d L : Nat} (hV : V < 2 ^ (64 * L)) (hd : d < 18446744073709551616) : mK V d L = wd (V * d) L := by
  have h := mK_lt V d L hd
  unfold mK at *
  rw [Nat.mod_eq_of_lt hV] at *
  unfold wd
  rw [Nat.mod_eq_of_lt h]

/-! ### The difference, with a word's power lent -/
/-- What is left of R, without V * d, with 2 ^ (64 (L + 1)) lent. -/
def lentX (R D L : Nat) : Nat := R + 1 * 2 ^ (64 * (L + 1)) - D
theorem lent_ge {R D L : Nat} (hD : D < 2 ^ (64 * (L + 1))) : D ≤ R + 1 * 2 ^ (64 * (L + 1)) := by omega
theorem wd_lent {R L t : Nat} (h : t ≤ L) : wd (R + 1 * 2 ^ (64 * (L + 1))) t = wd R t := wd_lt_add _ _ _ _ (by omega)
theorem sub_step {R D L t : Nat} (hD : D < 2 ^ (64 * (L + 1))) (h : t ≤ L) :
    wd (lentX R D L) t = (wd R t + 18446744073709551616 - wd D t - bor (R + 1 * 2 ^ (64 * (L + 1))) D t) % 18446744073709551616 ∧
    bor (R + 1 * 2 ^ (64 * (L + 1))) D (t + 1) = if wd R t < wd D t + bor (R + 1 * 2 ^ (64 * (L + 1))) D t then 1 else 0 := by
  have h0 := lent_ge (R := R) hD
  have h1 := wd_sub h0 t
  have h2 := bor_succ h0 t
  rw [wd_lent h] at h1 h2
  refine ⟨?_, h2⟩
  have h3 := wd_lt R t
  have h4 := wd_lt D t
  have h5 := bor_le (R + 1 * 2 ^ (64 * (L + 1))) D t
  unfold lentX
  omega
theorem bor_end {R D L : Nat} (hR : R < 2 ^ (64 * (L + 1))) (hD : D < 2 ^ (64 * (L + 1))) : bor (R + 1 * 2 ^ (64 * (L + 1))) D (L + 1) = if R < D then 1 else 0 := by
  unfold bor
  rw [Nat.one_mul, Nat.add_mod_right, Nat.mod_eq_of_lt hR, Nat.mod_eq_of_lt hD]
theorem car_end {X V L : Nat} (hX : X < 2 ^ (64 * (L + 1))) (hV : V < 2 ^ (64 * (L + 1))) : car X V (L + 1) = (X + V) / 2 ^ (64 * (L + 1)) := by
  unfold car
  rw [Nat.mod_eq_of_lt hX, Nat.mod_eq_of_lt hV]

/-- Words i .. i + j - 1 are those of X, the others as in p. -/
def mixW (i j X : Nat) (p : Nat → Nat) (t : Nat) : Nat := if i ≤ t ∧ t < i + j then wd X (t - i) else p t
theorem mixW_zero (i X : Nat) (p : Nat → Nat) (t : Nat) : mixW i 0 X p t = p t := by
  unfold mixW
  rw [if_neg (by omega)]
theorem mixW_succ (i j X : Nat) (p : Nat → Nat) (t : Nat) : mixW i (j + 1) X p t = if t = i + j then wd X j else mixW i j X p t := by
  unfold mixW
  by_cases h : t = i + j
  · subst h
    rw [if_pos rfl, if_pos (by omega), Nat.add_sub_cancel_left]
  · rw [if_neg h]
    by_cases h1 : i ≤ t ∧ t < i + j
    · rw [if_pos h1, if_pos (by omega)]
    · rw [if_neg h1, if_neg (by omega)]
theorem mixW_at (i j X : Nat) (p : Nat → Nat) : mixW i j X p (i + j) = p (i + j) := by
  unfold mixW
  rw [if_neg (by omega)]
theorem mixW_in {i j X : Nat} {p : Nat → Nat} {t : Nat} (h : t < j) : mixW i j X p (i + t) = wd X t := by
  unfold mixW
  rw [if_pos (by omega), Nat.add_sub_cancel_left]
theorem mixW_mixW (i j X Y : Nat) (p : Nat → Nat) (t : Nat) : mixW i j X (mixW i j Y p) t = mixW i j X p t := by
  unfold mixW
  split
  · rfl
  · rfl

/-! ### The digit that is estimated is not too small -/
theorem est_ge {R V L : Nat} (hL : 1 ≤ L) (hV : V < 2 ^ (64 * L)) (hV2 : 9223372036854775808 ≤ wd V (L - 1)) (hR : R < V * 18446744073709551616) :
    (wd V (L - 1) ≤ wd R L → R / V ≤ 18446744073709551615) ∧
    (¬ wd V (L - 1) ≤ wd R L → R / V ≤ (wd R L * 18446744073709551616 + wd R (L - 1)) / wd V (L - 1) ∧ (wd R L * 18446744073709551616 + wd R (L - 1)) / wd V (L - 1) < 18446744073709551616) := by
  obtain ⟨k, rfl⟩ : ∃ k, L = k + 1 := ⟨L - 1, by omega⟩
  rw [Nat.add_sub_cancel] at *
  have hp : 0 < 2 ^ (64 * k) := Nat.two_pow_pos _
  have hv : wd V k = V / 2 ^ (64 * k) := by
    unfold wd
    exact Nat.mod_eq_of_lt (Nat.div_lt_of_lt_mul (by rw [pow_succ64] at hV; exact hV))
  have hR2 : R / 2 ^ (64 * k) / 18446744073709551616 < 18446744073709551616 := by
    refine Nat.div_lt_of_lt_mul (Nat.div_lt_of_lt_mul ?_)
    have : V * 18446744073709551616 ≤ 2 ^ (64 * k) * 18446744073709551616 * 18446744073709551616 := Nat.mul_le_mul_right _ (by rw [pow_succ64] at hV; exact Nat.le_of_lt hV)
    rw [← Nat.mul_assoc]
    exact Nat.lt_of_lt_of_le hR this
  have hr : R / 2 ^ (64 * k) = wd R (k + 1) * 18446744073709551616 + wd R k := by
    unfold wd
    rw [pow_succ64, ← Nat.div_div_eq_div_mul, Nat.mod_eq_of_lt hR2]
    omega
  have h0 : V ≠ 0 := by
    intro e
    subst e
    rw [hv, Nat.zero_div] at hV2
    omega
  refine ⟨fun _ => ?_, fun h => ⟨?_, ?_⟩⟩
  · have : R / V < 18446744073709551616 := Nat.div_lt_of_lt_mul hR
    omega
  · have h1 : 2 ^ (64 * k) * wd V k ≤ V := by rw [hv]; exact Nat.mul_div_le V _
    have h2 := Nat.div_le_div_left (a := R) h1 (Nat.mul_pos hp (by omega))
    rw [← Nat.div_div_eq_div_mul, hr] at h2
    exact h2
  · refine Nat.div_lt_of_lt_mul ?_
    have := wd_lt R k
    have h3 : (wd R (k + 1) + 1) * 18446744073709551616 ≤ wd V k * 18446744073709551616 := Nat.mul_le_mul_right _ (by omega)
    omega

/-! ### The divisor, shifted -/
theorem topShift {N : Nat} (h : N ≠ 0) : nw N ≠ 0 ∧ 1 ≤ bitLen (wd N (nw N - 1)) ∧ bitLen (wd N (nw N - 1)) ≤ 64 ∧
    N * 2 ^ (64 - bitLen (wd N (nw N - 1))) < 2 ^ (64 * nw N) ∧ 9223372036854775808 ≤ wd (N * 2 ^ (64 - bitLen (wd N (nw N - 1)))) (nw N - 1) := by
  have hn : nw N ≠ 0 := by
    intro e
    have := lt_nw N
    rw [e, Nat.mul_zero, Nat.pow_zero] at this
    omega
  obtain ⟨hne, hlt⟩ := nw_top hn
  have hw : wd N (nw N - 1) = N / 2 ^ (64 * (nw N - 1)) := Nat.mod_eq_of_lt hlt
  have hlt' := lt_nw N
  generalize nw N = n at *
  obtain ⟨k, rfl⟩ : ∃ k, n = k + 1 := ⟨n - 1, by omega⟩
  rw [Nat.add_sub_cancel] at *
  rw [hw]
  generalize hwd : N / 2 ^ (64 * k) = w at *
  have hb := bitLen_spec w
  have hb2 := hb.2 hne
  have hb1 := hb.1
  have hb0 : 1 ≤ bitLen w := by
    rcases Nat.eq_zero_or_pos (bitLen w) with e | e
    · rw [e, Nat.pow_zero] at hb1; omega
    · exact e
  have hb64 : bitLen w ≤ 64 := bitLen_lt_iff.2 hlt
  have hp : 0 < 2 ^ (64 * k) := Nat.two_pow_pos _
  have hN1 : N < (w + 1) * 2 ^ (64 * k) := by
    rw [← hwd, Nat.mul_comm]
    exact Nat.lt_mul_div_succ N hp
  have hN2 : w * 2 ^ (64 * k) ≤ N := by rw [← hwd]; exact Nat.div_mul_le_self _ _
  have hB : (18446744073709551616 : Nat) = 2 ^ bitLen w * 2 ^ (64 - bitLen w) := by rw [← Nat.pow_add, Nat.add_sub_cancel' hb64]
  have hB2 : (9223372036854775808 : Nat) = 2 ^ (bitLen w - 1) * 2 ^ (64 - bitLen w) := by rw [← Nat.pow_add, show bitLen w - 1 + (64 - bitLen w) = 63 by omega]
  generalize hs : 2 ^ (64 - bitLen w) = S at *
  have hS : 0 < S := by rw [← hs]; exact Nat.two_pow_pos _
  have hlt2 : N * S < 2 ^ (64 * (k + 1)) := by
    rw [pow_succ64, hB, show 2 ^ (64 * k) * (2 ^ bitLen w * S) = 2 ^ bitLen w * 2 ^ (64 * k) * S by ac_rfl]
    refine Nat.mul_lt_mul_of_pos_right (Nat.lt_of_lt_of_le hN1 (Nat.mul_le_mul_right _ ?_)) hS
    omega
  refine ⟨by omega, hb0, hb64, hlt2, ?_⟩
  unfold wd
  rw [Nat.mod_eq_of_lt (Nat.div_lt_of_lt_mul (by rw [pow_succ64] at hlt2; exact hlt2)), Nat.le_div_iff_mul_le hp, hB2]
  calc 2 ^ (bitLen w - 1) * S * 2 ^ (64 * k) ≤ w * S * 2 ^ (64 * k) := Nat.mul_le_mul_right _ (Nat.mul_le_mul_right _ hb2)
    _ = w * 2 ^ (64 * k) * S := by ac_rfl
    _ ≤ N * S := Nat.mul_le_mul_right _ hN2

/-! ### The rest, digit by digit -/
/-- What is left before the last r digits are taken. -/
def restW (W V r : Nat) : Nat := W % (V * 2 ^ (64 * r))
theorem restW_zero (W V : Nat) : restW W V 0 = W % V := by unfold restW; rw [Nat.mul_zero, Nat.pow_zero, Nat.mul_one]
theorem restW_lt (W r : Nat) {V : Nat} (hV : 0 < V) : restW W V r < V * 2 ^ (64 * r) := Nat.mod_lt _ (Nat.mul_pos hV (Nat.two_pow_pos _))
/-- The digit that is taken. -/
theorem restW_digit (W V r : Nat) : restW W V (r + 1) / 2 ^ (64 * r) / V = wd (W / V) r := by
  unfold restW wd
  rw [pow_succ64, ← Nat.mul_assoc, Nat.div_div_eq_div_mul, Nat.mul_comm (2 ^ (64 * r)) V, Nat.mod_mul_right_div_self, Nat.div_div_eq_div_mul]
theorem restW_succ (W V r : Nat) : restW W V r = restW W V (r + 1) - V * wd (W / V) r * 2 ^ (64 * r) ∧ V * wd (W / V) r * 2 ^ (64 * r) ≤ restW W V (r + 1) := by
  have h1 : restW W V r = restW W V (r + 1) % (V * 2 ^ (64 * r)) := by
    unfold restW
    rw [Nat.mod_mod_of_dvd]
    exact Nat.mul_dvd_mul_left _ (Nat.pow_dvd_pow 2 (by omega))
  have h2 := Nat.div_add_mod (restW W V (r + 1)) (V * 2 ^ (64 * r))
  have h3 : restW W V (r + 1) / (V * 2 ^ (64 * r)) = wd (W / V) r := by
    rw [← restW_digit, Nat.div_div_eq_div_mul, Nat.mul_comm V]
  rw [h3, show V * 2 ^ (64 * r) * wd (W / V) r = V * wd (W / V) r * 2 ^ (64 * r) by ac_rfl] at h2
  omega
/-- The words below, within and above. -/
theorem restW_words (W V r L t : Nat) (hV : 0 < V) (hVL : V < 2 ^ (64 * L)) :
    mixW r (L + 1) (restW W V (r + 1) / 2 ^ (64 * r) - V * wd (W / V) r) (fun t => wd (restW W V (r + 1)) t) t = wd (restW W V r) t := by
  obtain ⟨h1, h2⟩ := restW_succ W V r
  have hlt := restW_lt W (r + 1) hV
  have e : restW W V r / 2 ^ (64 * r) = restW W V (r + 1) / 2 ^ (64 * r) - V * wd (W / V) r := by
    have e2 : restW W V (r + 1) = restW W V r + V * wd (W / V) r * 2 ^ (64 * r) := by omega
    rw [e2, Nat.add_mul_div_right _ _ (Nat.two_pow_pos _), Nat.add_sub_cancel]
  rw [← e]
  unfold mixW
  split
  · rename_i h
    unfold wd
    rw [Nat.div_div_eq_div_mul, ← Nat.pow_add, show 64 * r + 64 * (t - r) = 64 * t by omega]
  · rename_i h
    show wd (restW W V (r + 1)) t = _
    rcases Nat.lt_or_ge t r with h3 | h3
    · have e2 : restW W V (r + 1) = restW W V r + V * wd (W / V) r * 2 ^ (64 * r) := by omega
      rw [e2, wd_lt_add _ _ _ _ h3]
    · have h4 : r + L + 1 ≤ t := by omega
      have hz : ∀ P, P < V * 2 ^ (64 * (r + 1)) → wd P t = 0 := fun P hP => by
        refine wd_eq_zero (Nat.lt_of_lt_of_le hP ?_)
        calc V * 2 ^ (64 * (r + 1)) ≤ 2 ^ (64 * L) * 2 ^ (64 * (r + 1)) := Nat.mul_le_mul_right _ (Nat.le_of_lt hVL)
          _ = 2 ^ (64 * L + 64 * (r + 1)) := (Nat.pow_add _ _ _).symm
          _ ≤ 2 ^ (64 * t) := Nat.pow_le_pow_right (by omega) (by omega)
      rw [hz _ hlt, hz _ (by omega)]
/-- At the beginning nothing is taken yet. -/
theorem rounds_lt {M N S : Nat} (hS : S ≤ 9223372036854775808) (hN : 2 ^ (64 * (nw N - 1)) * 9223372036854775808 ≤ N * S) : M * S < N * S * 2 ^ (64 * (nw M + 1 - nw N)) := by
  have hM := lt_nw M
  have hB : 2 ^ (64 * (nw N - 1)) * 2 ^ (64 * (nw M + 1 - nw N)) ≥ 2 ^ (64 * nw M) := by
    rw [← Nat.pow_add]
    exact Nat.pow_le_pow_right (by omega) (by omega)
  rcases Nat.eq_zero_or_pos S with h0 | h0
  · subst h0
    have : 0 < 2 ^ (64 * (nw N - 1)) * 9223372036854775808 := Nat.mul_pos (Nat.two_pow_pos _) (by omega)
    omega
  · calc M * S < 2 ^ (64 * nw M) * S := Nat.mul_lt_mul_of_pos_right hM h0
      _ ≤ 2 ^ (64 * nw M) * 9223372036854775808 := Nat.mul_le_mul_left _ hS
      _ ≤ 2 ^ (64 * (nw N - 1)) * 2 ^ (64 * (nw M + 1 - nw N)) * 9223372036854775808 := Nat.mul_le_mul_right _ hB
      _ = 2 ^ (64 * (nw N - 1)) * 9223372036854775808 * 2 ^ (64 * (nw M + 1 - nw N)) := by ac_rfl
      _ ≤ N * S * 2 ^ (64 * (nw M + 1 - nw N)) := Nat.mul_le_mul_right _ hN

/-! ### Two halves of a word by the upper half: math/bits's Div64 -/
theorem half_start {a b y : Nat} (hy : 9223372036854775808 ≤ y) (hy2 : y < 18446744073709551616) (ha : a < y) (hb : b < 4294967296) :
    (a * 4294967296 + b) / y ≤ a / (y / 4294967296) ∧ a / (y / 4294967296) ≤ 4294967297 ∧ (a * 4294967296 + b) / y < 4294967296 ∧ a / (y / 4294967296) * (y / 4294967296) + a % (y / 4294967296) = a ∧ a % (y / 4294967296) < 4294967296 := by
  have hh : 2147483648 ≤ y / 4294967296 := by omega
  have hh2 : y / 4294967296 < 4294967296 := by omega
  have hh3 : y < (y / 4294967296) * 4294967296 + 4294967296 := by omega
  have hh4 : (y / 4294967296) * 4294967296 ≤ y := by omega
  have hm : a % (y / 4294967296) < y / 4294967296 := Nat.mod_lt _ (by omega)
  have hd := Nat.div_add_mod a (y / 4294967296)
  rw [Nat.mul_comm] at hd
  generalize y / 4294967296 = h at *
  refine ⟨?_, ?_, ?_, hd, by omega⟩
  · have h1 := Nat.div_le_div_left (a := a * 4294967296 + b) (show 4294967296 * h ≤ y by omega) (by omega)
    rw [← Nat.div_div_eq_div_mul, show (a * 4294967296 + b) / 4294967296 = a by omega] at h1
    exact h1
  · have : a < h * 4294967298 := by omega
    have := Nat.div_lt_of_lt_mul this
    omega
  · refine Nat.div_lt_of_lt_mul ?_
    omega
theorem half_test {a b y q r : Nat} (hy : 9223372036854775808 ≤ y) (hq : q * (y / 4294967296) + r = a) : q * (y % 4294967296) > 4294967296 * r + b ↔ (a * 4294967296 + b) / y < q := by
  rw [Nat.div_lt_iff_lt_mul (by omega)]
  have e : q * y = q * (y / 4294967296) * 4294967296 + q * (y % 4294967296) := by
    conv => lhs; rw [← Nat.div_add_mod y 4294967296]
    rw [Nat.mul_add]
    congr 1
    ac_rfl
  rw [e, ← hq, Nat.add_mul]
  omega
theorem half_step {y q r a : Nat} (h : q * (y / 4294967296) + r = a) (hq : 0 < q) : (q - 1) * (y / 4294967296) + (r + y / 4294967296) = a := by
  obtain ⟨k, rfl⟩ : ∃ k, q = k + 1 := ⟨q - 1, by omega⟩
  rw [Nat.add_sub_cancel]
  rw [Nat.add_mul] at h
  omega
/-- Broken off: it is the quotient. -/
theorem half_break {a b y q r : Nat} (hy : 9223372036854775808 ≤ y) (hq : q * (y / 4294967296) + r = a) (hr : 4294967296 ≤ r) (hq2 : q ≤ 4294967296) : q ≤ (a * 4294967296 + b) / y := by
  rw [Nat.le_div_iff_mul_le (by omega)]
  have e : q * y = q * (y / 4294967296) * 4294967296 + q * (y % 4294967296) := by
    conv => lhs; rw [← Nat.div_add_mod y 4294967296]
    rw [Nat.mul_add]
    congr 1
    ac_rfl
  have h1 : q * (y % 4294967296) ≤ 4294967296 * 4294967295 := Nat.mul_le_mul hq2 (by omega)
  rw [e, ← hq, Nat.add_mul]
  omega
/-- Both halves. -/
theorem half_any (A b l y : Nat) (hy : 0 < y) : (A / y) * b + ((A % y) * b + l) / y = (A * b + l) / y := by
  have h1 := Nat.div_add_mod A y
  generalize A / y = q at *
  generalize A % y = r at *
  have e : A * b + l = r * b + l + y * (q * b) := by
    rw [← h1, Nat.add_mul, Nat.mul_assoc]
    omega
  rw [e, Nat.add_mul_div_left _ _ hy, Nat.add_comm]
theorem half_both {hi lo y : Nat} (hy : 0 < y) :
    ((hi * 4294967296 + lo / 4294967296) / y) * 4294967296 + (((hi * 4294967296 + lo / 4294967296) % y) * 4294967296 + lo % 4294967296) / y = (hi * 18446744073709551616 + lo) / y := by
  have e : ∀ A, A = hi * 4294967296 + lo / 4294967296 → hi * 18446744073709551616 + lo = A * 4294967296 + lo % 4294967296 := fun A hA => by omega
  rw [e _ rfl]
  exact half_any _ _ _ y hy
end Go.Proofs.YtljolfnpncjklaaGreat.W
/-! math/bits: two words by one whose first bit is set. -/
namespace Go.Ev
section
variable {P : Program}
def evM4 (P : Program) (c : Code) (fuel : Nat) (live : List Nat) (S : St) (ans : List Ans) : Option (Bool × Prop × Exit × St) :=
  match evM P c fuel live S ans with
  | some (a, b, x, y) => some (a, allP b, x, y)
  | none => none
/-- A round of a loop: the tests, the obligations, the end and the state are read off what is handed in. -/
theorem Tri.run (hm : P.follows .mixedOrders = true) {c : Code} (live : List Nat) (ans : List Ans) {S S' : St} {x : Exit} {X : Bool} {A : Prop} (hx : X = true) (ha : A) (e : evM4 P c 400 live S ans = some (X, A, x, S')) : Tri P c S (to x S') := by
  unfold evM4 at e
  split at e
  · rename_i a b y s he
    cases e
    exact Tri.of_ev hm 400 live ans he hx ha
  · cases e
theorem TriL.out {c : Code} {S S' : St} {x : Exit} (hx : x ≠ .normal) (h : Tri P c S (to x S')) : TriL P c S (to x S') :=
  TriL.step (h.mono fun e S1 ⟨h1, h2⟩ => by
    subst h1 h2
    cases e with
    | normal => exact absurd rfl hx
    | _ => exact ⟨rfl, rfl⟩)
theorem TriL.next {c : Code} {S S1 : St} {Q : Exit → St → Prop} (h : Tri P c S (to .normal S1)) (h' : TriL P c S1 Q) : TriL P c S Q :=
  TriL.step (h.mono fun e S2 ⟨h1, h2⟩ => by subst h1 h2; exact h')
end
end Go.Ev
namespace Go.Proofs.YtljolfnpncjklaaGreat.W
open Go Go.Ev Go.Wide

def u (n : Nat) : Value := .int .u64 n
theorem wrap_mul (a b : Nat) : IntKind.u64.wrap ((a : Int) * (b : Int)) = ((a * b % 18446744073709551616 : Nat) : Int) := by
  rw [u64_wrap, ← Int.natCast_mul]
  omega
theorem wrap_add (a b : Nat) : IntKind.u64.wrap ((a : Int) + (b : Int)) = (((a + b) % 18446744073709551616 : Nat) : Int) := by
  rw [u64_wrap]
  omega
theorem wrap_of {n : Int} {m : Nat} (h : n = m) (hm : m < 18446744073709551616) : IntKind.u64.wrap n = m := by
  rw [u64_wrap, h]
  omega

def dL : List Nat := [2, 8, 9, 10, 11, 13, 14, 15, 16]
def dS (y y1 y0 h u1 u0 q r : Nat) : St := ⟨slots 135 [(2, u y), (8, .int .u64 0), (9, u y1), (10, u y0), (11, u h), (13, u u1), (14, u u0), (15, u q), (16, u r)], []⟩
def dL2 : List Nat := [2, 8, 9, 10, 14, 15, 16, 17, 18]
def dS2 (y y1 y0 u0 s v q r : Nat) : St := ⟨slots 135 [(2, u y), (8, .int .u64 0), (9, u y1), (10, u y0), (14, u u0), (15, u s), (16, u r), (17, u v), (18, u q)], []⟩

theorem d_end {y y1 y0 h u1 u0 q r m n k : Nat} (h1 : ¬ (q : Int) ≥ 4294967296) (h2 : IntKind.u64.wrap ((q : Int) * (y0 : Int)) = m) (h3 : IntKind.u64.wrap (4294967296 * (r : Int)) = n) (h4 : IntKind.u64.wrap ((n : Int) + (u1 : Int)) = k) (h5 : ¬ (m : Int) > k) :
    Tri Tryz.prog (loopN Tryz.f136 0) (dS y y1 y0 h u1 u0 q r) (to (.exit 0) (dS y y1 y0 h u1 u0 q r)) :=
  Tri.run mixed dL [.tst false, .at 2 (u m), .at 1 (u n), .at 1 (u k), .tst false] (ts5 (tF h1) (tT h2) (tT h3) (tT h4) (tF h5)) qs0 (by kernel_rfl)
theorem d_big {y y1 y0 h u1 u0 q r q' r' : Nat} (h1 : (q : Int) ≥ 4294967296) (h2 : IntKind.u64.wrap ((q : Int) - 1) = q') (h3 : IntKind.u64.wrap ((r : Int) + (y1 : Int)) = r') (h4 : (r' : Int) ≥ 4294967296) :
    Tri Tryz.prog (loopN Tryz.f136 0) (dS y y1 y0 h u1 u0 q r) (to (.exit 0) (dS y y1 y0 h u1 u0 q' r')) :=
  Tri.run mixed dL [.tst true, .auto, .at 1 (u q'), .at 3 (u r'), .tst true] (ts4 (tT h1) (tT h2) (tT h3) (tT h4)) qs0 (by kernel_rfl)
theorem d_big2 {y y1 y0 h u1 u0 q r q' r' : Nat} (h1 : (q : Int) ≥ 4294967296) (h2 : IntKind.u64.wrap ((q : Int) - 1) = q') (h3 : IntKind.u64.wrap ((r : Int) + (y1 : Int)) = r') (h4 : ¬ (r' : Int) ≥ 4294967296) :
    Tri Tryz.prog (loopN Tryz.f136 0) (dS y y1 y0 h u1 u0 q r) (to .normal (dS y y1 y0 h u1 u0 q' r')) :=
  Tri.run mixed dL [.tst true, .auto, .at 1 (u q'), .at 3 (u r'), .tst false] (ts4 (tT h1) (tT h2) (tT h3) (tF h4)) qs0 (by kernel_rfl)
theorem d_more {y y1 y0 h u1 u0 q r q' r' m n k : Nat} (h1 : ¬ (q : Int) ≥ 4294967296) (h2 : IntKind.u64.wrap ((q : Int) * (y0 : Int)) = m) (h3 : IntKind.u64.wrap (4294967296 * (r : Int)) = n) (h4 : IntKind.u64.wrap ((n : Int) + (u1 : Int)) = k) (h5 : (m : Int) > k)
    (g2 : IntKind.u64.wrap ((q : Int) - 1) = q') (g3 : IntKind.u64.wrap ((r : Int) + (y1 : Int)) = r') (g4 : (r' : Int) ≥ 4294967296) :
    Tri Tryz.prog (loopN Tryz.f136 0) (dS y y1 y0 h u1 u0 q r) (to (.exit 0) (dS y y1 y0 h u1 u0 q' r')) :=
  Tri.run mixed dL [.tst false, .at 2 (u m), .at 1 (u n), .at 1 (u k), .tst true, .at 1 (u q'), .at 3 (u r'), .tst true] (ts8 (tF h1) (tT h2) (tT h3) (tT h4) (tT h5) (tT g2) (tT g3) (tT g4)) qs0 (by kernel_rfl)
theorem d_more2 {y y1 y0 h u1 u0 q r q' r' m n k : Nat} (h1 : ¬ (q : Int) ≥ 4294967296) (h2 : IntKind.u64.wrap ((q : Int) * (y0 : Int)) = m) (h3 : IntKind.u64.wrap (4294967296 * (r : Int)) = n) (h4 : IntKind.u64.wrap ((n : Int) + (u1 : Int)) = k) (h5 : (m : Int) > k)
    (g2 : IntKind.u64.wrap ((q : Int) - 1) = q') (g3 : IntKind.u64.wrap ((r : Int) + (y1 : Int)) = r') (g4 : ¬ (r' : Int) ≥ 4294967296) :
    Tri Tryz.prog (loopN Tryz.f136 0) (dS y y1 y0 h u1 u0 q r) (to .normal (dS y y1 y0 h u1 u0 q' r')) :=
  Tri.run mixed dL [.tst false, .at 2 (u m), .at 1 (u n), .at 1 (u k), .tst true, .at 1 (u q'), .at 3 (u r'), .tst false] (ts8 (tF h1) (tT h2) (tT h3) (tT h4) (tT h5) (tT g2) (tT g3) (tF g4)) qs0 (by kernel_rfl)

theorem e_end {y y1 y0 u0 s v q r m n k : Nat} (h1 : ¬ (q : Int) ≥ 4294967296) (h2 : IntKind.u64.wrap ((q : Int) * (y0 : Int)) = m) (h3 : IntKind.u64.wrap (4294967296 * (r : Int)) = n) (h4 : IntKind.u64.wrap ((n : Int) + (u0 : Int)) = k) (h5 : ¬ (m : Int) > k) :
    Tri Tryz.prog (loopN Tryz.f136 1) (dS2 y y1 y0 u0 s v q r) (to (.exit 2) (dS2 y y1 y0 u0 s v q r)) :=
  Tri.run mixed dL2 [.tst false, .at 2 (u m), .at 1 (u n), .at 1 (u k), .tst false] (ts5 (tF h1) (tT h2) (tT h3) (tT h4) (tF h5)) qs0 (by kernel_rfl)
theorem e_big {y y1 y0 u0 s v q r q' r' : Nat} (h1 : (q : Int) ≥ 4294967296) (h2 : IntKind.u64.wrap ((q : Int) - 1) = q') (h3 : IntKind.u64.wrap ((r : Int) + (y1 : Int)) = r') (h4 : (r' : Int) ≥ 4294967296) :
    Tri Tryz.prog (loopN Tryz.f136 1) (dS2 y y1 y0 u0 s v q r) (to (.exit 2) (dS2 y y1 y0 u0 s v q' r')) :=
  Tri.run mixed dL2 [.tst true, .auto, .at 1 (u q'), .at 3 (u r'), .tst true] (ts4 (tT h1) (tT h2) (tT h3) (tT h4)) qs0 (by kernel_rfl)
theorem e_big2 {y y1 y0 u0 s v q r q' r' : Nat} (h1 : (q : Int) ≥ 4294967296) (h2 : IntKind.u64.wrap ((q : Int) - 1) = q') (h3 : IntKind.u64.wrap ((r : Int) + (y1 : Int)) = r') (h4 : ¬ (r' : Int) ≥ 4294967296) :
    Tri Tryz.prog (loopN Tryz.f136 1) (dS2 y y1 y0 u0 s v q r) (to .normal (dS2 y y1 y0 u0 s v q' r')) :=
  Tri.run mixed dL2 [.tst true, .auto, .at 1 (u q'), .at 3 (u r'), .tst false] (ts4 (tT h1) (tT h2) (tT h3) (tF h4)) qs0 (by kernel_rfl)
theorem e_more {y y1 y0 u0 s v q r q' r' m n k : Nat} (h1 : ¬ (q : Int) ≥ 4294967296) (h2 : IntKind.u64.wrap ((q : Int) * (y0 : Int)) = m) (h3 : IntKind.u64.wrap (4294967296 * (r : Int)) = n) (h4 : IntKind.u64.wrap ((n : Int) + (u0 : Int)) = k) (h5 : (m : Int) > k)
    (g2 : IntKind.u64.wrap ((q : Int) - 1) = q') (g3 : IntKind.u64.wrap ((r : Int) + (y1 : Int)) = r') (g4 : (r' : Int) ≥ 4294967296) :
    Tri Tryz.prog (loopN Tryz.f136 1) (dS2 y y1 y0 u0 s v q r) (to (.exit 2) (dS2 y y1 y0 u0 s v q' r')) :=
  Tri.run mixed dL2 [.tst false, .at 2 (u m), .at 1 (u n), .at 1 (u k), .tst true, .at 1 (u q'), .at 3 (u r'), .tst true] (ts8 (tF h1) (tT h2) (tT h3) (tT h4) (tT h5) (tT g2) (tT g3) (tT g4)) qs0 (by kernel_rfl)
theorem e_more2 {y y1 y0 u0 s v q r q' r' m n k : Nat} (h1 : ¬ (q : Int) ≥ 4294967296) (h2 : IntKind.u64.wrap ((q : Int) * (y0 : Int)) = m) (h3 : IntKind.u64.wrap (4294967296 * (r : Int)) = n) (h4 : IntKind.u64.wrap ((n : Int) + (u0 : Int)) = k) (h5 : (m : Int) > k)
    (g2 : IntKind.u64.wrap ((q : Int) - 1) = q') (g3 : IntKind.u64.wrap ((r : Int) + (y1 : Int)) = r') (g4 : ¬ (r' : Int) ≥ 4294967296) :
    Tri Tryz.prog (loopN Tryz.f136 1) (dS2 y y1 y0 u0 s v q r) (to .normal (dS2 y y1 y0 u0 s v q' r')) :=
  Tri.run mixed dL2 [.tst false, .at 2 (u m), .at 1 (u n), .at 1 (u k), .tst true, .at 1 (u q'), .at 3 (u r'), .tst false] (ts8 (tF h1) (tT h2) (tT h3) (tT h4) (tT h5) (tT g2) (tT g3) (tF g4)) qs0 (by kernel_rfl)

/-- Either loop: it ends at the quotient. -/
theorem half_loop {c : Code} {ex : Exit} {st : Nat → Nat → St} {y a b : Nat} (hex : ex ≠ .normal) (hy : 9223372036854775808 ≤ y) (hb : b < 4294967296) (hQ : (a * 4294967296 + b) / y < 4294967296)
    (hend : ∀ q r m n k : Nat, ¬ (q : Int) ≥ 4294967296 → IntKind.u64.wrap ((q : Int) * ((y % 4294967296 : Nat) : Int)) = m → IntKind.u64.wrap (4294967296 * (r : Int)) = n → IntKind.u64.wrap ((n : Int) + (b : Int)) = k → ¬ (m : Int) > k → Tri Tryz.prog c (st q r) (to ex (st q r)))
    (hbig : ∀ q r q' r' : Nat, (q : Int) ≥ 4294967296 → IntKind.u64.wrap ((q : Int) - 1) = q' → IntKind.u64.wrap ((r : Int) + ((y / 4294967296 : Nat) : Int)) = r' → (r' : Int) ≥ 4294967296 → Tri Tryz.prog c (st q r) (to ex (st q' r')))
    (hbig2 : ∀ q r q' r' : Nat, (q : Int) ≥ 4294967296 → IntKind.u64.wrap ((q : Int) - 1) = q' → IntKind.u64.wrap ((r : Int) + ((y / 4294967296 : Nat) : Int)) = r' → ¬ (r' : Int) ≥ 4294967296 → Tri Tryz.prog c (st q r) (to .normal (st q' r')))
    (hmore : ∀ q r q' r' m n k : Nat, ¬ (q : Int) ≥ 4294967296 → IntKind.u64.wrap ((q : Int) * ((y % 4294967296 : Nat) : Int)) = m → IntKind.u64.wrap (4294967296 * (r : Int)) = n → IntKind.u64.wrap ((n : Int) + (b : Int)) = k → (m : Int) > k →
      IntKind.u64.wrap ((q : Int) - 1) = q' → IntKind.u64.wrap ((r : Int) + ((y / 4294967296 : Nat) : Int)) = r' → (r' : Int) ≥ 4294967296 → Tri Tryz.prog c (st q r) (to ex (st q' r')))
    (hmore2 : ∀ q r q' r' m n k : Nat, ¬ (q : Int) ≥ 4294967296 → IntKind.u64.wrap ((q : Int) * ((y % 4294967296 : Nat) : Int)) = m → IntKind.u64.wrap (4294967296 * (r : Int)) = n → IntKind.u64.wrap ((n : Int) + (b : Int)) = k → (m : Int) > k →
      IntKind.u64.wrap ((q : Int) - 1) = q' → IntKind.u64.wrap ((r : Int) + ((y / 4294967296 : Nat) : Int)) = r' → ¬ (r' : Int) ≥ 4294967296 → Tri Tryz.prog c (st q r) (to .normal (st q' r')))
    (hy2 : y < 18446744073709551616) :
    ∀ q r : Nat, q * (y / 4294967296) + r = a → r < 4294967296 → (a * 4294967296 + b) / y ≤ q → q ≤ 4294967297 → TriL Tryz.prog c (st q r) (to ex (st ((a * 4294967296 + b) / y) (a - (a * 4294967296 + b) / y * (y / 4294967296)))) := by
  intro q
  induction q with
  | zero =>
    intro r hq hr hge hle
    have e0 : (a * 4294967296 + b) / y = 0 := Nat.le_zero.1 hge
    rw [e0]
    have e1 : a - 0 * (y / 4294967296) = r := by omega
    rw [e1]
    exact TriL.out hex (hend 0 r 0 (4294967296 * r) (4294967296 * r + b) (by omega) (wrap_of (by omega) (by omega)) (wrap_of (by omega) (by omega)) (wrap_of (by omega) (by omega)) (by omega))
  | succ q ih =>
    intro r hq hr hge hle
    have hy0 : y % 4294967296 < 4294967296 := Nat.mod_lt _ (by omega)
    have hm : q + 1 < 4294967296 → (q + 1) * (y % 4294967296) < 18446744073709551616 := fun h => by
      have := Nat.mul_lt_mul'' h hy0
      omega
    have w3 : IntKind.u64.wrap (4294967296 * (r : Int)) = ((4294967296 * r : Nat) : Int) := wrap_of (by omega) (by omega)
    have w4 : IntKind.u64.wrap (((4294967296 * r : Nat) : Int) + (b : Int)) = ((4294967296 * r + b : Nat) : Int) := wrap_of (by omega) (by omega)
    have g2 : IntKind.u64.wrap (((q + 1 : Nat) : Int) - 1) = (q : Int) := wrap_of (by omega) (by omega)
    have g3 : IntKind.u64.wrap ((r : Int) + ((y / 4294967296 : Nat) : Int)) = ((r + y / 4294967296 : Nat) : Int) := wrap_of (by omega) (by omega)
    have htest := half_test (b := b) hy hq
    by_cases hlt : (a * 4294967296 + b) / y < q + 1
    · have hstep := half_step hq (by omega)
      rw [Nat.add_sub_cancel] at hstep
      by_cases hbr : r + y / 4294967296 ≥ 4294967296
      · have hQ' := half_break (b := b) hy hstep hbr (by omega)
        have e : (a * 4294967296 + b) / y = q := by omega
        rw [e]
        have e1 : a - q * (y / 4294967296) = r + y / 4294967296 := by omega
        rw [e1]
        by_cases hb32 : q + 1 ≥ 4294967296
        · exact TriL.out hex (hbig _ _ _ _ (by omega) g2 g3 (by omega))
        · have w2 : IntKind.u64.wrap (((q + 1 : Nat) : Int) * ((y % 4294967296 : Nat) : Int)) = (((q + 1) * (y % 4294967296) : Nat) : Int) := by
            rw [wrap_mul, Nat.mod_eq_of_lt (hm (by omega))]
          have h5 := htest.2 hlt
          exact TriL.out hex (hmore _ _ _ _ _ _ _ (by omega) w2 w3 w4 (by omega) g2 g3 (by omega))
      · have hnext := ih (r + y / 4294967296) hstep (by omega) (by omega) (by omega)
        by_cases hb32 : q + 1 ≥ 4294967296
        · exact TriL.next (hbig2 _ _ _ _ (by omega) g2 g3 (by omega)) hnext
        · have w2 : IntKind.u64.wrap (((q + 1 : Nat) : Int) * ((y % 4294967296 : Nat) : Int)) = (((q + 1) * (y % 4294967296) : Nat) : Int) := by
            rw [wrap_mul, Nat.mod_eq_of_lt (hm (by omega))]
          have h5 := htest.2 hlt
          exact TriL.next (hmore2 _ _ _ _ _ _ _ (by omega) w2 w3 w4 (by omega) g2 g3 (by omega)) hnext
    · have e : (a * 4294967296 + b) / y = q + 1 := by omega
      rw [e]
      have e1 : a - (q + 1) * (y / 4294967296) = r := by omega
      rw [e1]
      have w2 : IntKind.u64.wrap (((q + 1 : Nat) : Int) * ((y % 4294967296 : Nat) : Int)) = (((q + 1) * (y % 4294967296) : Nat) : Int) := by
        rw [wrap_mul, Nat.mod_eq_of_lt (hm (by omega))]
      have h5 : ¬ (q + 1) * (y % 4294967296) > 4294967296 * r + b := fun h => hlt (htest.1 h)
      exact TriL.out hex (hend _ _ _ _ _ (by omega) w2 w3 w4 (by omega))
theorem enters_lz64 : ∀ us w, (callFunc 126 us).run Tryz.prog w = .ok (.enter 126 us) w := enters Tryz.func126 rfl (by kernel_rfl)
theorem tsC {b : Bool} {l : List Bool} (h : b = true) (t : conj l = true) : conj (b :: l) = true := by rw [conj_cons, h, t]; rfl
theorem whole_aux {U y Q R : Nat} (e : U = y * Q + R) (h3 : R < y) : U / y = Q ∧ U % y = R := by
  subst e
  rw [Nat.mul_add_div (by omega), Nat.mul_add_mod, Nat.div_eq_of_lt h3, Nat.mod_eq_of_lt h3]
  exact ⟨rfl, rfl⟩
theorem half_whole {hi lo y Q1 R1 Q0 R0 : Nat} (h1 : Q1 * y + R1 = hi * 4294967296 + lo / 4294967296) (h2 : Q0 * y + R0 = R1 * 4294967296 + lo % 4294967296) (h3 : R0 < y) :
    (hi * 18446744073709551616 + lo) / y = Q1 * 4294967296 + Q0 ∧ (hi * 18446744073709551616 + lo) % y = R0 := by
  refine whole_aux ?_ h3
  have e1 : y * (Q1 * 4294967296 + Q0) = Q1 * y * 4294967296 + Q0 * y := by rw [Nat.mul_add, Nat.mul_comm y Q0, ← Nat.mul_assoc, Nat.mul_comm y Q1]
  omega
def u64v (n : Int) : Value := .int .u64 n
theorem div64_run {hi lo y y1 y0 u1 u0 q m r A B C D E F G X Q1 R1 Q0 R0 q2 m2 r2 z1 z2 : Nat}
    (t1 : ¬ (y : Int) = 0) (t2 : ¬ (y : Int) ≤ (hi : Int)) (t3 : ¬ (hi : Int) = 0) (t4 : shlI (y : Int) 0 = y) (t5 : shrI (y : Int) 32 = y1) (t6 : lo32 (y : Int) = y0) (t7 : shlI (hi : Int) 0 = hi) (t8 : shrI (lo : Int) 64 = ((0 : Nat) : Int)) (t9 : orI (hi : Int) ((0 : Nat) : Int) = hi)
    (t10 : shlI (lo : Int) 0 = lo) (t11 : shrI (lo : Int) 32 = u1) (t12 : lo32 (lo : Int) = u0) (t13 : ¬ (y1 : Int) = 0) (t14 : IntKind.u64.wrap ((hi : Int).tdiv y1) = q) (t15 : IntKind.u64.wrap ((q : Int) * (y1 : Int)) = m) (t16 : IntKind.u64.wrap ((hi : Int) - (m : Int)) = r)
    (t17 : u64v (IntKind.u64.wrap ((hi : Int) * 4294967296)) = u A) (t18 : IntKind.u64.wrap ((A : Int) + (u1 : Int)) = B) (t19 : IntKind.u64.wrap ((Q1 : Int) * (y : Int)) = C) (t20 : IntKind.u64.wrap ((B : Int) - (C : Int)) = R1)
    (t22 : IntKind.u64.wrap ((R1 : Int).tdiv y1) = q2) (t23 : IntKind.u64.wrap ((q2 : Int) * (y1 : Int)) = m2) (t24 : IntKind.u64.wrap ((R1 : Int) - (m2 : Int)) = r2)
    (t25 : u64v (IntKind.u64.wrap ((Q1 : Int) * 4294967296)) = u D) (t26 : IntKind.u64.wrap ((D : Int) + (Q0 : Int)) = X) (t27 : u64v (IntKind.u64.wrap ((R1 : Int) * 4294967296)) = u E) (t28 : IntKind.u64.wrap ((E : Int) + (u0 : Int)) = F) (t29 : IntKind.u64.wrap ((Q0 : Int) * (y : Int)) = G) (t30 : IntKind.u64.wrap ((F : Int) - (G : Int)) = R0) (t31 : shrI (R0 : Int) 0 = R0)
    (hlz : QC Tryz.prog 126 [u y] (.int .i64 0))
    (l1 : TriL Tryz.prog (loopN Tryz.f136 0) (dS y y1 y0 hi u1 u0 q r) (to (.exit 0) (dS y y1 y0 hi u1 u0 Q1 z1)))
    (l2 : TriL Tryz.prog (loopN Tryz.f136 1) (dS2 y y1 y0 u0 Q1 R1 q2 r2) (to (.exit 2) (dS2 y y1 y0 u0 Q1 R1 Q0 z2))) :
    PC Tryz.prog 136 [u hi, u lo, u y] (.tuple #[u X, u R0]) :=
  PC.run mixed Tryz.func136 [.tst false, .tst false, .tst false, .res (.int .i64 0), .at 5 (u y), .at 2 (u y1), .at 2 (u y0), .at 3 (u hi), .at 3 (u 0), .at 0 (u hi), .at 3 (u lo), .at 2 (u u1), .at 2 (u u0), .at 3 (u q), .at 4 (u m), .at 0 (u r),
      .cut dL (.exit 0) (dS y y1 y0 hi u1 u0 Q1 z1), .is 1 (u A), .at 1 (u B), .at 2 (u C), .at 0 (u R1), .at 3 (u q2), .at 4 (u m2), .at 0 (u r2), .cut dL2 (.exit 2) (dS2 y y1 y0 u0 Q1 R1 Q0 z2), .is 1 (u D), .at 1 (u X), .is 1 (u E), .at 1 (u F), .at 2 (u G), .at 0 (u R0), .at 1 (u R0)]
    rfl
    (tsC (tF t1) <| tsC (tF t2) <| tsC (tF t3) <| tsC (tT t4) <| tsC (tT t5) <| tsC (tT t6) <| tsC (tT t7) <| tsC (tT t8) <| tsC (tT t9) <| tsC (tT t10) <| tsC (tT t11) <| tsC (tT t12) <|
      tsC (tF t13) <| tsC (tT t14) <| tsC (tT t15) <| tsC (tT t16) <|
      tsC (tT t18) <| tsC (tT t19) <| tsC (tT t20) <| tsC (tF t13) <| tsC (tT t22) <| tsC (tT t23) <| tsC (tT t24) <|
      tsC (tT t26) <| tsC (tT t28) <| tsC (tT t29) <| tsC (tT t30) <| tsC (tT t31) ts0)
    (qs6 hlz l1 t17 l2 t25 t27) rfl rfl (by kernel_rfl)
theorem wrap_lit (x : Nat) : IntKind.u64.wrap ((x : Int) * 4294967296) = ((x * 4294967296 % 18446744073709551616 : Nat) : Int) := by rw [u64_wrap]; omega
theorem sub_back {T X R M : Nat} (h : X + R = T) (hR : R < 18446744073709551616) (hM : M = T % 18446744073709551616) : IntKind.u64.wrap ((M : Int) - ((X % 18446744073709551616 : Nat) : Int)) = (R : Int) := by
  rw [u64_wrap]
  omega
theorem div64_big {hi lo y Q1 R1 Q0 R0 : Nat} (hy : 9223372036854775808 ≤ y) (hy2 : y < 18446744073709551616) (hh : hi < y) (hl : lo < 18446744073709551616) (h0 : hi ≠ 0)
    (hT : Q1 * y + R1 = hi * 4294967296 + lo / 4294967296) (hT2 : Q0 * y + R0 = R1 * 4294967296 + lo % 4294967296) (hR1 : R1 < y) (hR0 : R0 < y) (hQ1 : Q1 < 4294967296) (hQ0 : Q0 < 4294967296)
    (l1 : TriL Tryz.prog (loopN Tryz.f136 0) (dS y (y / 4294967296) (y % 4294967296) hi (lo / 4294967296) (lo % 4294967296) (hi / (y / 4294967296)) (hi % (y / 4294967296))) (to (.exit 0) (dS y (y / 4294967296) (y % 4294967296) hi (lo / 4294967296) (lo % 4294967296) Q1 (hi - Q1 * (y / 4294967296)))))
    (l2 : TriL Tryz.prog (loopN Tryz.f136 1) (dS2 y (y / 4294967296) (y % 4294967296) (lo % 4294967296) Q1 R1 (R1 / (y / 4294967296)) (R1 % (y / 4294967296))) (to (.exit 2) (dS2 y (y / 4294967296) (y % 4294967296) (lo % 4294967296) Q1 R1 Q0 (R1 - Q0 * (y / 4294967296))))) :
    PC Tryz.prog 136 [u hi, u lo, u y] (.tuple #[u (Q1 * 4294967296 + Q0), u R0]) := by
  have hlz : QC Tryz.prog 126 [u y] (.int .i64 0) := by
    have h := lz64_pc hy2
    have e : bitLen y = 64 := by
      have h1 : bitLen y ≤ 64 := bitLen_lt_iff.2 hy2
      have h2 : ¬ bitLen y ≤ 63 := fun h => by
        have := bitLen_lt_iff.1 h
        have e : (2 : Nat) ^ 63 = 9223372036854775808 := by decide
        omega
      omega
    rw [e] at h
    exact QC.of_pc enters_lz64 h
  have sh0 : ∀ x : Nat, x < 18446744073709551616 → shlI x 0 = x := fun x hx => by
    have h := shlI_eq x 0 (by omega)
    rw [Nat.pow_zero, Nat.mul_one, Nat.mod_eq_of_lt hx] at h
    exact h
  have sr32 : ∀ x : Nat, shrI x 32 = ((x / 4294967296 : Nat) : Int) := fun x => shrI_eq x 32 (by omega)
  have sr64 : shrI lo 64 = ((0 : Nat) : Int) := by
    have h := shrI_eq lo 64 (by omega)
    rw [Nat.div_eq_of_lt (show lo < 2 ^ 64 from hl)] at h
    exact h
  have sr0 : shrI R0 0 = (R0 : Int) := by
    have h := shrI_eq R0 0 (by omega)
    rw [Nat.pow_zero, Nat.div_one] at h
    exact h
  have l32 : ∀ x : Nat, x < 18446744073709551616 → lo32 x = ((x % 4294967296 : Nat) : Int) := fun x hx => by rw [lo32_eq (by omega) (by omega)]; omega
  have or0 : orI (hi : Int) ((0 : Nat) : Int) = (hi : Int) := by rw [orI_eq (by omega) (by omega), Nat.or_zero]
  have qd : ∀ x h : Nat, x < 18446744073709551616 → IntKind.u64.wrap ((x : Int).tdiv h) = ((x / h : Nat) : Int) := fun x h hx => by
    rw [Int.tdiv_eq_ediv_of_nonneg (by omega), ← Int.natCast_ediv]
    exact wrap_of rfl (Nat.lt_of_le_of_lt (Nat.div_le_self _ _) hx)
  have qm : ∀ x h : Nat, x < 18446744073709551616 → IntKind.u64.wrap (((x / h : Nat) : Int) * h) = ((x / h * h : Nat) : Int) := fun x h hx => by
    rw [wrap_mul, Nat.mod_eq_of_lt (Nat.lt_of_le_of_lt (Nat.div_mul_le_self x h) hx)]
  have qr : ∀ x h : Nat, x < 18446744073709551616 → IntKind.u64.wrap ((x : Int) - ((x / h * h : Nat) : Int)) = ((x % h : Nat) : Int) := fun x h hx => by
    have e := Nat.div_add_mod x h
    rw [Nat.mul_comm] at e
    have := Nat.mod_le x h
    exact wrap_of (by omega) (by omega)
  exact div64_run (by omega) (by omega) (by omega) (sh0 y hy2) (sr32 y) (l32 y hy2) (sh0 hi (by omega)) sr64 or0 (sh0 lo hl) (sr32 lo) (l32 lo hl) (by omega) (qd hi _ (by omega)) (qm hi _ (by omega)) (qr hi _ (by omega))
    (congrArg u64v (wrap_lit hi)) (wrap_add _ _) (wrap_mul Q1 y) (sub_back hT (by omega) (by omega)) (qd R1 _ (by omega)) (qm R1 _ (by omega)) (qr R1 _ (by omega))
    (congrArg u64v (wrap_of (m := Q1 * 4294967296) (by omega) (by omega))) (wrap_of (m := Q1 * 4294967296 + Q0) (by omega) (by omega)) (congrArg u64v (wrap_lit R1)) (wrap_add _ _) (wrap_mul Q0 y) (sub_back hT2 (by omega) (by omega)) sr0 hlz l1 l2
theorem div64_pc {hi lo y : Nat} (hy : 9223372036854775808 ≤ y) (hy2 : y < 18446744073709551616) (hh : hi < y) (hl : lo < 18446744073709551616) :
    PC Tryz.prog 136 [u hi, u lo, u y] (.tuple #[u ((hi * 18446744073709551616 + lo) / y), u ((hi * 18446744073709551616 + lo) % y)]) := by
  by_cases h0 : hi = 0
  · subst h0
    rw [Nat.zero_mul, Nat.zero_add]
    have e1 : IntKind.u64.wrap ((lo : Int).tdiv y) = ((lo / y : Nat) : Int) := by
      rw [Int.tdiv_eq_ediv_of_nonneg (by omega), ← Int.natCast_ediv]
      exact wrap_of rfl (Nat.lt_of_le_of_lt (Nat.div_le_self _ _) hl)
    have e2 : (lo : Int).tmod y = ((lo % y : Nat) : Int) := by
      rw [Int.tmod_eq_emod_of_nonneg (by omega), ← Int.natCast_emod]
    exact PC.run mixed Tryz.func136 [.tst false, .tst false, .tst true, .at 2 (u (lo / y)), .at 2 (u (lo % y))] rfl (ts7 (tF (p := (y : Int) = 0) (by omega)) (tF (p := (y : Int) ≤ ((0 : Nat) : Int)) (by omega)) (tT (p := ((0 : Nat) : Int) = 0) (by omega))
      (tF (p := (y : Int) = 0) (by omega)) (tT e1) (tF (p := (y : Int) = 0) (by omega)) (tT e2)) qs0 rfl rfl (by kernel_rfl)
  · have hU1 : lo / 4294967296 < 4294967296 := by omega
    have hU0 : lo % 4294967296 < 4294967296 := by omega
    obtain ⟨a1, a2, a3, a4, a5⟩ := half_start hy hy2 hh hU1
    have hlt2 : (hi * 4294967296 + lo / 4294967296) % y < y := Nat.mod_lt _ (by omega)
    obtain ⟨b1, b2, b3, b4, b5⟩ := half_start hy hy2 hlt2 hU0
    have hb := half_both (hi := hi) (lo := lo) (y := y) (by omega)
    have hl1 := half_loop (c := loopN Tryz.f136 0) (ex := .exit 0) (st := fun q r => dS y (y / 4294967296) (y % 4294967296) hi (lo / 4294967296) (lo % 4294967296) q r) (y := y) (a := hi) (b := lo / 4294967296) (by simp) hy hU1 a3
      (fun q r m n k => d_end) (fun q r q' r' => d_big) (fun q r q' r' => d_big2) (fun q r q' r' m n k => d_more) (fun q r q' r' m n k => d_more2) hy2 _ _ a4 a5 a1 a2
    have hl2 := fun s => half_loop (c := loopN Tryz.f136 1) (ex := .exit 2) (st := fun q r => dS2 y (y / 4294967296) (y % 4294967296) (lo % 4294967296) s ((hi * 4294967296 + lo / 4294967296) % y) q r) (y := y) (a := (hi * 4294967296 + lo / 4294967296) % y) (b := lo % 4294967296) (by simp) hy hU0 b3
      (fun q r m n k => e_end) (fun q r q' r' => e_big) (fun q r q' r' => e_big2) (fun q r q' r' m n k => e_more) (fun q r q' r' m n k => e_more2) hy2 _ _ b4 b5 b1 b2
    have hT := Nat.div_add_mod (hi * 4294967296 + lo / 4294967296) y
    have hT2 := Nat.div_add_mod ((hi * 4294967296 + lo / 4294967296) % y * 4294967296 + lo % 4294967296) y
    have hlt3 : ((hi * 4294967296 + lo / 4294967296) % y * 4294967296 + lo % 4294967296) % y < y := Nat.mod_lt _ (by omega)
    rw [Nat.mul_comm y] at hT hT2
    obtain ⟨e1, e2⟩ := half_whole hT hT2 hlt3
    rw [e1, e2]
    exact div64_big hy hy2 hh hl h0 hT hT2 hlt2 hlt3 a3 b3 hl1 (hl2 _)
theorem enters_div64 : ∀ us w, (callFunc 136 us).run Tryz.prog w = .ok (.enter 136 us) w := enters Tryz.func136 rfl (by kernel_rfl)
end Go.Proofs.YtljolfnpncjklaaGreat.W
/-! Long division, the program's pieces: memories and states. -/
namespace Go.Proofs.YtljolfnpncjklaaGreat.W
open Go Go.Ev Go.Wide

def m17 (p : Nat → Nat) : List Value := (List.range 17).map fun t => .int .u64 (p t)
theorem set17 (p : Nat → Nat) (i j v : Nat) : (m17 p).set (i + ((j : Nat) : Int).toNat * 1) (.int .u64 v) = m17 (fun t => if t = i + j then v else p t) := by
  unfold m17
  rw [map_set, Int.toNat_natCast, Nat.mul_one]
  refine List.map_congr_left fun t _ => ?_
  by_cases h : t = i + j
  · rw [if_pos h]; simp only [if_pos h]
  · rw [if_neg h]; simp only [if_neg h]
theorem get17 (p : Nat → Nat) {i j : Nat} (h : i + j < 17) : (m17 p).getD (i + ((j : Nat) : Int).toNat * 1) undef = u (p (i + j)) := by
  unfold m17
  rw [Int.toNat_natCast, Nat.mul_one, List.getD_eq_getElem?_getD, List.getElem?_map, List.getElem?_range h]
  rfl
theorem m17_congr {p p' : Nat → Nat} (h : ∀ t, p t = p' t) : m17 p = m17 p' := by rw [funext h]
theorem getWord (V : Nat) {j : Nat} (h : j < 16) : (words V).getD (0 + ((j : Nat) : Int).toNat * 1) undef = u (wd V j) := getD_map h

/-- Where a division works: the two numbers, the quotient's words, the divisor, shifted, and the rest. -/
def M5 (M N V : Nat) (q : List Value) (r : List Value) : Mem := [⟨words M, 29, true⟩, ⟨words N, 29, true⟩, ⟨q, 29, true⟩, ⟨words V, 29, true⟩, ⟨r, 156, true⟩]
/-- The rest's words i .. i + L, and the divisor's L words. -/
def psl (i L : Nat) : Value := .slice (some ⟨4, i, none⟩) (L + 1) (17 - i)
def dsl (L : Nat) : Value := .slice (some ⟨3, 0, none⟩) L 16
def q16 (p : Nat → Nat) : List Value := (List.range 16).map fun t => .int .u64 (p t)

def spS (M N V i L j d c b : Nat) (q : List Value) (p : Nat → Nat) : St := ⟨slots 58 [(0, psl i L), (1, dsl L), (2, u d), (7, u c), (8, u b), (13, dsl L), (14, .int .i64 L), (15, .int .i64 j)], M5 M N V q (m17 p)⟩
def spL : List Nat := [0, 1, 2, 7, 8, 13, 14, 15]
def abS (M N V i L j c : Nat) (q : List Value) (p : Nat → Nat) : St := ⟨slots 46 [(0, psl i L), (1, dsl L), (5, u c), (9, dsl L), (10, .int .i64 L), (11, .int .i64 j)], M5 M N V q (m17 p)⟩
def abL : List Nat := [0, 1, 5, 9, 10, 11]
def tdS (M N V i L d : Nat) (neg : Bool) (q : List Value) (p : Nat → Nat) : St := ⟨slots 22 [(0, psl i L), (1, dsl L), (5, u d), (6, .bool neg)], M5 M N V q (m17 p)⟩
def tdL : List Nat := [0, 1, 5, 6]
def dbS (M N V L : Nat) (i : Int) (q : List Value) (p : Nat → Nat) : St := ⟨slots 49 [(4, ptr 2), (6, .int .i64 L), (9, dsl L), (10, ptr 4), (11, .int .i64 i)], M5 M N V q (m17 p)⟩
def dbL : List Nat := [4, 6, 9, 10, 11]
end Go.Proofs.YtljolfnpncjklaaGreat.W
/-! Long division, the program's pieces: estimateDigit, subtractProduct, addBack, takeDigit. -/
namespace Go.Proofs.YtljolfnpncjklaaGreat.W
open Go Go.Ev Go.Wide

theorem ltI {j n : Nat} (h : j < n) : decide ((j : Int) < (n : Int)) = true := decide_eq_true (by omega)
theorem ltA {i j n : Nat} (h : i + j < n) : decide (i + ((j : Nat) : Int).toNat * 1 < n) = true := decide_eq_true (by rw [Int.toNat_natCast]; omega)
theorem wrapN {n : Int} {m : Nat} (h : n = m) (hm : m ≤ 9223372036854775807) : decide (IntKind.i64.wrap n = (m : Int)) = true := by
  rw [h, i64_wrap (by omega) (by omega)]
  exact decide_eq_true rfl
theorem all17 (p : Nat → Nat) (i j v n : Nat) : ((m17 p).set (i + ((j : Nat) : Int).toNat * 1) (.int .u64 v)).all (noNew1 n) = true := by
  rw [set17]
  rfl
theorem enters_est : ∀ us w, (callFunc 132 us).run Tryz.prog w = .ok (.enter 132 us) w := enters Tryz.func132 rfl (by kernel_rfl)
theorem enters_subProd : ∀ us w, (callFunc 133 us).run Tryz.prog w = .ok (.enter 133 us) w := enters Tryz.func133 rfl (by kernel_rfl)
theorem enters_addBack : ∀ us w, (callFunc 134 us).run Tryz.prog w = .ok (.enter 134 us) w := enters Tryz.func134 rfl (by kernel_rfl)
theorem enters_take : ∀ us w, (callFunc 128 us).run Tryz.prog w = .ok (.enter 128 us) w := enters Tryz.func128 rfl (by kernel_rfl)

/-! ### estimateDigit -/
theorem est_high {M N V i k a v : Nat} {q p : Nat → Nat} (hk : i + (k + 1) < 17) (ha : p (i + (k + 1)) = a) (hv : wd V k = v) (h : v ≤ a) :
    MC Tryz.prog 132 [psl i (k + 1), dsl (k + 1)] (M5 M N V (q16 q) (m17 p)) (u 18446744073709551615) (M5 M N V (q16 q) (m17 p)) :=
  MC.run mixed Tryz.func132 [.at 3 (.int .i64 k), .at 3 (.int .i64 ((k + 1 : Nat) : Int)), .is 1 (u a), .is 3 (u v), .tst true]
    (ts1 (tsC (wrapN (n := ((k + 1 : Nat) : Int) - 1) (m := k) (by omega) (by omega)) <| tsC (wrapN (n := (k : Int) + 1) (m := k + 1) (by omega) (by omega)) <| tsC (ltI (j := k + 1) (n := k + 1 + 1) (by omega)) <| tsC (ltA (i := i) (j := k + 1) (n := 17) hk) <| tsC (ltI (j := k) (n := k + 1) (by omega)) <| tsC (ltA (i := 0) (j := k) (n := 16) (by omega)) <| tsC (tT (p := (a : Int) ≥ (v : Int)) (by omega)) ts0))
    (qs2 ((get17 p hk).trans (congrArg u ha)) ((getWord V (by omega)).trans (congrArg u hv))) rfl rfl enters_est (by kernel_rfl)
theorem est_low {M N V i k a b v d e : Nat} {q p : Nat → Nat} (hk : i + (k + 1) < 17) (ha : p (i + (k + 1)) = a) (hb : p (i + k) = b) (hv : wd V k = v) (h : ¬ v ≤ a) (hd : QC Tryz.prog 136 [u a, u b, u v] (.tuple #[u d, u e])) :
    MC Tryz.prog 132 [psl i (k + 1), dsl (k + 1)] (M5 M N V (q16 q) (m17 p)) (u d) (M5 M N V (q16 q) (m17 p)) :=
  MC.run mixed Tryz.func132 [.at 3 (.int .i64 k), .at 3 (.int .i64 ((k + 1 : Nat) : Int)), .is 1 (u a), .is 3 (u v), .tst false, .at 2 (.int .i64 ((k + 1 : Nat) : Int)), .is 1 (u a), .is 3 (u b), .is 3 (u v), .res (.tuple #[u d, u e])]
    (ts1 (tsC (wrapN (n := ((k + 1 : Nat) : Int) - 1) (m := k) (by omega) (by omega)) <| tsC (wrapN (n := (k : Int) + 1) (m := k + 1) (by omega) (by omega)) <| tsC (ltI (j := k + 1) (n := k + 1 + 1) (by omega)) <| tsC (ltA (i := i) (j := k + 1) (n := 17) hk) <| tsC (ltI (j := k) (n := k + 1) (by omega)) <| tsC (ltA (i := 0) (j := k) (n := 16) (by omega)) <| tsC (tF (p := (a : Int) ≥ (v : Int)) (by omega)) <|
      tsC (wrapN (n := (k : Int) + 1) (m := k + 1) (by omega) (by omega)) <| tsC (ltI (j := k + 1) (n := k + 1 + 1) (by omega)) <| tsC (ltA (i := i) (j := k + 1) (n := 17) hk) <| tsC (ltI (j := k) (n := k + 1 + 1) (by omega)) <| tsC (ltA (i := i) (j := k) (n := 17) (by omega)) <| tsC (ltI (j := k) (n := k + 1) (by omega)) <| tsC (ltA (i := 0) (j := k) (n := 16) (by omega)) ts0))
    (qs6 ((get17 p hk).trans (congrArg u ha)) ((getWord V (by omega)).trans (congrArg u hv)) ((get17 p hk).trans (congrArg u ha)) ((get17 p (by omega)).trans (congrArg u hb)) ((getWord V (by omega)).trans (congrArg u hv)) hd) rfl rfl enters_est (by kernel_rfl)

/-! ### subtractProduct -/
theorem sp_round {M N V i L j d c b v w lo hi x b' : Nat} {q p : Nat → Nat} (hi17 : i + L < 17) (hj : j < L) (hv : wd V j = v) (hw : p (i + j) = w)
    (h1 : QC Tryz.prog 82 [u v, u d, u c, .int .u64 0] (.tuple #[u lo, u hi])) (h2 : QC Tryz.prog 80 [u w, u lo, u b] (.tuple #[u x, u b'])) :
    Tri Tryz.prog (loopN Tryz.f133 0) (spS M N V i L j d c b (q16 q) p) (to .normal (spS M N V i L (j + 1) d hi b' (q16 q) (fun t => if t = i + j then x else p t))) := by
  have e := set17 p i j x
  have key : Tri Tryz.prog (loopN Tryz.f133 0) (spS M N V i L j d c b (q16 q) p) (to .normal ⟨(spS M N V i L (j + 1) d hi b' (q16 q) p).tmps, M5 M N V (q16 q) ((m17 p).set (i + ((j : Nat) : Int).toNat * 1) (.int .u64 x))⟩) :=
    Tri.run mixed spL [.tst true, .is 2 (u v), .res (.tuple #[u lo, u hi]), .is 11 (u w), .res (.tuple #[u x, u b']), .at 7 (.int .i64 ((j + 1 : Nat) : Int))]
      (tsC (ltI (j := j) (n := L) hj) <| tsC (ltI (j := j) (n := L) hj) <| tsC (ltA (i := 0) (j := j) (n := 16) (by omega)) <| tsC (ltI (j := j) (n := L + 1) (by omega)) <| tsC (ltA (i := i) (j := j) (n := 17) (by omega)) <| tsC (ltI (j := j) (n := L + 1) (by omega)) <| tsC (ltA (i := i) (j := j) (n := 17) (by omega)) <|
        tsC (wrapN (n := (j : Int) + 1) (m := j + 1) (by omega) (by omega)) ts0)
      (qs4 ((getWord V (by omega)).trans (congrArg u hv)) h1 ((get17 p (by omega)).trans (congrArg u hw)) h2) (by kernel_rfl)
  rw [e] at key
  exact key
theorem sp_end {M N V i L d c b : Nat} {q p : Nat → Nat} : Tri Tryz.prog (loopN Tryz.f133 0) (spS M N V i L L d c b (q16 q) p) (to (.exit 0) (spS M N V i L L d c b (q16 q) p)) :=
  Tri.run mixed spL [.tst false] (tsC (tF (p := (L : Int) < (L : Int)) (by omega)) ts0) qs0 (by kernel_rfl)
theorem sp_mc {M N V i L d c b w x b' : Nat} {q p p' : Nat → Nat} {r : Bool} (hi17 : i + L < 17) (hw : p' (i + L) = w) (hb : b' = match r with | true => 1 | false => 0)
    (hl : TriL Tryz.prog (loopN Tryz.f133 0) (spS M N V i L 0 d 0 0 (q16 q) p) (to (.exit 0) (spS M N V i L L d c b (q16 q) p'))) (h2 : QC Tryz.prog 80 [u w, u c, u b] (.tuple #[u x, u b'])) :
    MC Tryz.prog 133 [psl i L, dsl L, u d] (M5 M N V (q16 q) (m17 p)) (.bool r) (M5 M N V (q16 q) (m17 (fun t => if t = i + L then x else p' t))) := by
  have e := set17 p' i L x
  rw [← e]
  subst hb
  cases r
  · exact MC.run mixed Tryz.func133 [.cut spL (.exit 0) (spS M N V i L L d c b (q16 q) p'), .is 8 (u w), .res (.tuple #[u x, u 0])]
      (ts2 (tsC (ltI (j := L) (n := L + 1) (by omega)) <| tsC (ltA (i := i) (j := L) (n := 17) (by omega)) <| tsC (ltI (j := L) (n := L + 1) (by omega)) <| tsC (ltA (i := i) (j := L) (n := 17) (by omega)) ts0) (all17 p' i L x 5))
      (qs3 hl ((get17 p' hi17).trans (congrArg u hw)) h2) rfl rfl enters_subProd (by kernel_rfl)
  · exact MC.run mixed Tryz.func133 [.cut spL (.exit 0) (spS M N V i L L d c b (q16 q) p'), .is 8 (u w), .res (.tuple #[u x, u 1])]
      (ts2 (tsC (ltI (j := L) (n := L + 1) (by omega)) <| tsC (ltA (i := i) (j := L) (n := 17) (by omega)) <| tsC (ltI (j := L) (n := L + 1) (by omega)) <| tsC (ltA (i := i) (j := L) (n := 17) (by omega)) ts0) (all17 p' i L x 5))
      (qs3 hl ((get17 p' hi17).trans (congrArg u hw)) h2) rfl rfl enters_subProd (by kernel_rfl)

/-! ### addBack -/
theorem ab_round {M N V i L j c v w x c' : Nat} {q p : Nat → Nat} (hi17 : i + L < 17) (hj : j < L) (hv : wd V j = v) (hw : p (i + j) = w)
    (h2 : QC Tryz.prog 79 [u w, u v, u c] (.tuple #[u x, u c'])) :
    Tri Tryz.prog (loopN Tryz.f134 0) (abS M N V i L j c (q16 q) p) (to .normal (abS M N V i L (j + 1) c' (q16 q) (fun t => if t = i + j then x else p t))) := by
  have e := set17 p i j x
  have key : Tri Tryz.prog (loopN Tryz.f134 0) (abS M N V i L j c (q16 q) p) (to .normal ⟨(abS M N V i L (j + 1) c' (q16 q) p).tmps, M5 M N V (q16 q) ((m17 p).set (i + ((j : Nat) : Int).toNat * 1) (.int .u64 x))⟩) :=
    Tri.run mixed abL [.tst true, .is 2 (u v), .is 7 (u w), .res (.tuple #[u x, u c']), .at 7 (.int .i64 ((j + 1 : Nat) : Int))]
      (tsC (ltI (j := j) (n := L) hj) <| tsC (ltI (j := j) (n := L) hj) <| tsC (ltA (i := 0) (j := j) (n := 16) (by omega)) <| tsC (ltI (j := j) (n := L + 1) (by omega)) <| tsC (ltA (i := i) (j := j) (n := 17) (by omega)) <| tsC (ltI (j := j) (n := L + 1) (by omega)) <| tsC (ltA (i := i) (j := j) (n := 17) (by omega)) <|
        tsC (wrapN (n := (j : Int) + 1) (m := j + 1) (by omega) (by omega)) ts0)
      (qs3 ((getWord V (by omega)).trans (congrArg u hv)) ((get17 p (by omega)).trans (congrArg u hw)) h2) (by kernel_rfl)
  rw [e] at key
  exact key
theorem ab_end {M N V i L c : Nat} {q p : Nat → Nat} : Tri Tryz.prog (loopN Tryz.f134 0) (abS M N V i L L c (q16 q) p) (to (.exit 0) (abS M N V i L L c (q16 q) p)) :=
  Tri.run mixed abL [.tst false] (tsC (tF (p := (L : Int) < (L : Int)) (by omega)) ts0) qs0 (by kernel_rfl)
theorem ab_mc {M N V i L c w x b' : Nat} {q p p' : Nat → Nat} {r : Bool} (hi17 : i + L < 17) (hw : p' (i + L) = w) (hb : b' = match r with | true => 1 | false => 0)
    (hl : TriL Tryz.prog (loopN Tryz.f134 0) (abS M N V i L 0 0 (q16 q) p) (to (.exit 0) (abS M N V i L L c (q16 q) p'))) (h2 : QC Tryz.prog 79 [u w, .int .u64 0, u c] (.tuple #[u x, u b'])) :
    MC Tryz.prog 134 [psl i L, dsl L] (M5 M N V (q16 q) (m17 p)) (.bool r) (M5 M N V (q16 q) (m17 (fun t => if t = i + L then x else p' t))) := by
  have e := set17 p' i L x
  rw [← e]
  subst hb
  cases r
  · exact MC.run mixed Tryz.func134 [.cut abL (.exit 0) (abS M N V i L L c (q16 q) p'), .is 8 (u w), .res (.tuple #[u x, u 0])]
      (ts2 (tsC (ltI (j := L) (n := L + 1) (by omega)) <| tsC (ltA (i := i) (j := L) (n := 17) (by omega)) <| tsC (ltI (j := L) (n := L + 1) (by omega)) <| tsC (ltA (i := i) (j := L) (n := 17) (by omega)) ts0) (all17 p' i L x 5))
      (qs3 hl ((get17 p' hi17).trans (congrArg u hw)) h2) rfl rfl enters_addBack (by kernel_rfl)
  · exact MC.run mixed Tryz.func134 [.cut abL (.exit 0) (abS M N V i L L c (q16 q) p'), .is 8 (u w), .res (.tuple #[u x, u 1])]
      (ts2 (tsC (ltI (j := L) (n := L + 1) (by omega)) <| tsC (ltA (i := i) (j := L) (n := 17) (by omega)) <| tsC (ltI (j := L) (n := L + 1) (by omega)) <| tsC (ltA (i := i) (j := L) (n := 17) (by omega)) ts0) (all17 p' i L x 5))
      (qs3 hl ((get17 p' hi17).trans (congrArg u hw)) h2) rfl rfl enters_addBack (by kernel_rfl)

/-! ### takeDigit -/
theorem td_round {M N V i L d d' : Nat} {q p p' : Nat → Nat} {r : Bool} (hd : IntKind.u64.wrap ((d : Int) - 1) = d')
    (h : MC Tryz.prog 134 [psl i L, dsl L] (M5 M N V (q16 q) (m17 p)) (.bool r) (M5 M N V (q16 q) (m17 p'))) :
    Tri Tryz.prog (loopN Tryz.f128 0) (tdS M N V i L d true (q16 q) p) (to .normal (tdS M N V i L d' (!r) (q16 q) p')) :=
  Tri.run mixed tdL [.at 2 (u d'), .mem (.bool r) (M5 M N V (q16 q) (m17 p'))] (tsC (tT hd) ts0) (qs1 h) (by kernel_rfl)
theorem td_end {M N V i L d : Nat} {q p : Nat → Nat} : Tri Tryz.prog (loopN Tryz.f128 0) (tdS M N V i L d false (q16 q) p) (to (.exit 0) (tdS M N V i L d false (q16 q) p)) :=
  Tri.run mixed tdL [] ts0 qs0 (by kernel_rfl)
theorem td_mc {M N V i L d d' : Nat} {q p p1 p2 : Nat → Nat} {r : Bool} (h1 : MC Tryz.prog 132 [psl i L, dsl L] (M5 M N V (q16 q) (m17 p)) (u d) (M5 M N V (q16 q) (m17 p)))
    (h2 : MC Tryz.prog 133 [psl i L, dsl L, u d] (M5 M N V (q16 q) (m17 p)) (.bool r) (M5 M N V (q16 q) (m17 p1)))
    (hl : TriL Tryz.prog (loopN Tryz.f128 0) (tdS M N V i L d r (q16 q) p1) (to (.exit 0) (tdS M N V i L d' false (q16 q) p2))) :
    MC Tryz.prog 128 [psl i L, dsl L] (M5 M N V (q16 q) (m17 p)) (u d') (M5 M N V (q16 q) (m17 p2)) :=
  MC.run mixed Tryz.func128 [.mem (u d) (M5 M N V (q16 q) (m17 p)), .mem (.bool r) (M5 M N V (q16 q) (m17 p1)), .cut tdL (.exit 0) (tdS M N V i L d' false (q16 q) p2)] ts0 (qs3 h1 h2 hl) rfl rfl enters_take (by kernel_rfl)
end Go.Proofs.YtljolfnpncjklaaGreat.W
/-! Long division, the program's pieces in numbers: one digit. -/
namespace Go.Proofs.YtljolfnpncjklaaGreat.W
open Go Go.Ev Go.Wide

theorem sub_num {M N V i L d R : Nat} {q p : Nat → Nat} (hi17 : i + L < 17) (hV : V < 2 ^ (64 * L)) (hd : d < 18446744073709551616) (hR : R < 2 ^ (64 * (L + 1))) (hp : ∀ t, t ≤ L → p (i + t) = wd R t) :
    MC Tryz.prog 133 [psl i L, dsl L, u d] (M5 M N V (q16 q) (m17 p)) (.bool (decide (R < V * d))) (M5 M N V (q16 q) (m17 (mixW i (L + 1) (lentX R (V * d) L) p))) := by
  have hD : V * d < 2 ^ (64 * (L + 1)) := mul_lt_word hV hd
  have hstep := fun t (h : t ≤ L) => sub_step (R := R) hD h
  have hbl := fun t => bor_le (R + 1 * 2 ^ (64 * (L + 1))) (V * d) t
  have hend := bor_end hR hD
  have hb0 := bor_zero (R + 1 * 2 ^ (64 * (L + 1))) (V * d)
  generalize lentX R (V * d) L = X at *
  generalize bor (R + 1 * 2 ^ (64 * (L + 1))) (V * d) = bo at *
  have hloop : TriL Tryz.prog (loopN Tryz.f133 0) (spS M N V i L 0 d 0 0 (q16 q) p) (to (.exit 0) (spS M N V i L L d (mK V d L) (bo L) (q16 q) (mixW i L X p))) := by
    have h := TriL.count (P := Tryz.prog) (c := loopN Tryz.f133 0) (e := .exit 0) (fun j => spS M N V i L j d (mK V d j) (bo j) (q16 q) (mixW i j X p)) (by simp) L (fun j hj => ?_) sp_end
    · rw [mK_zero, hb0, funext (mixW_zero i X p)] at h
      exact h
    · have h1 := mulAdd_pc (a := wd V j) (b := d) (c := mK V d j) (d := 0) (wd_lt V j) hd (mK_lt V d j hd) (by omega)
      rw [Nat.add_zero, ← wd_mK, ← mK_succ] at h1
      have h2 := sub64_qc (wd R j) (wd (V * d) j) (bo j) (hbl j)
      obtain ⟨e1, e2⟩ := hstep j (Nat.le_of_lt hj)
      rw [← e1, ← e2] at h2
      have hr := sp_round (M := M) (N := N) (V := V) (i := i) (L := L) (j := j) (d := d) (c := mK V d j) (b := bo j) (q := q) (p := mixW i j X p) hi17 hj rfl ((mixW_at i j X p).trans (hp j (Nat.le_of_lt hj))) (QC.of_pc enters_mulAdd h1) h2
      rw [funext fun t => (mixW_succ i j X p t).symm] at hr
      exact hr
  have h2 := sub64_qc (wd R L) (wd (V * d) L) (bo L) (hbl L)
  obtain ⟨e1, e2⟩ := hstep L (Nat.le_refl _)
  rw [← e1, ← e2, hend, ← mK_all hV hd] at h2
  have hm := sp_mc (M := M) (N := N) (V := V) (i := i) (L := L) (q := q) (p := p) (r := decide (R < V * d)) hi17 ((mixW_at i L X p).trans (hp L (Nat.le_refl _))) (by
    by_cases h : R < V * d
    · rw [decide_eq_true h, if_pos h]
    · rw [decide_eq_false h, if_neg h]) hloop h2
  rw [funext fun t => (mixW_succ i L X p t).symm] at hm
  exact hm
theorem add_num {M N V i L X : Nat} {q p : Nat → Nat} (hi17 : i + L < 17) (hV : V < 2 ^ (64 * L)) (hX : X < 2 ^ (64 * (L + 1))) (hp : ∀ t, t ≤ L → p (i + t) = wd X t) :
    MC Tryz.prog 134 [psl i L, dsl L] (M5 M N V (q16 q) (m17 p)) (.bool (decide (2 ^ (64 * (L + 1)) ≤ X + V))) (M5 M N V (q16 q) (m17 (mixW i (L + 1) (X + V) p))) := by
  have hV2 : V < 2 ^ (64 * (L + 1)) := Nat.lt_of_lt_of_le hV (Nat.pow_le_pow_right (by omega) (by omega))
  have hend := car_end hX hV2
  have hloop : TriL Tryz.prog (loopN Tryz.f134 0) (abS M N V i L 0 0 (q16 q) p) (to (.exit 0) (abS M N V i L L (car X V L) (q16 q) (mixW i L (X + V) p))) := by
    have h := TriL.count (P := Tryz.prog) (c := loopN Tryz.f134 0) (e := .exit 0) (fun j => abS M N V i L j (car X V j) (q16 q) (mixW i j (X + V) p)) (by simp) L (fun j hj => ?_) ab_end
    · rw [car_zero, funext (mixW_zero i (X + V) p)] at h
      exact h
    · have h2 := add64_qc (wd X j) (wd V j) (car X V j) (car_le X V j)
      rw [← wd_add, ← car_succ] at h2
      have hr := ab_round (M := M) (N := N) (V := V) (i := i) (L := L) (j := j) (c := car X V j) (q := q) (p := mixW i j (X + V) p) hi17 hj rfl ((mixW_at i j (X + V) p).trans (hp j (Nat.le_of_lt hj))) h2
      rw [funext fun t => (mixW_succ i j (X + V) p t).symm] at hr
      exact hr
  have h2 := add64_qc (wd X L) (wd V L) (car X V L) (car_le X V L)
  rw [← wd_add, ← car_succ, hend, wd_eq_zero hV] at h2
  have hm := ab_mc (M := M) (N := N) (V := V) (i := i) (L := L) (q := q) (p := p) (r := decide (2 ^ (64 * (L + 1)) ≤ X + V)) hi17 ((mixW_at i L (X + V) p).trans (hp L (Nat.le_refl _))) (by
    generalize 2 ^ (64 * (L + 1)) = P at *
    by_cases h : P ≤ X + V
    · rw [decide_eq_true h, Nat.div_eq_sub_div (by omega) h, Nat.div_eq_of_lt (by omega)]
    · rw [decide_eq_false h, Nat.div_eq_of_lt (by omega)]) hloop h2
  rw [funext fun t => (mixW_succ i L (X + V) p t).symm] at hm
  exact hm
theorem est_num {M N V i k R : Nat} {q p : Nat → Nat} (hi17 : i + (k + 1) < 17) (hV : V < 2 ^ (64 * (k + 1))) (hV2 : 9223372036854775808 ≤ wd V k) (hR : R < V * 18446744073709551616) (hp : ∀ t, t ≤ k + 1 → p (i + t) = wd R t) :
    ∃ d, R / V ≤ d ∧ d < 18446744073709551616 ∧ MC Tryz.prog 132 [psl i (k + 1), dsl (k + 1)] (M5 M N V (q16 q) (m17 p)) (u d) (M5 M N V (q16 q) (m17 p)) := by
  obtain ⟨h1, h2⟩ := est_ge (L := k + 1) (by omega) hV hV2 hR
  rw [Nat.add_sub_cancel] at h1 h2
  by_cases h : wd V k ≤ wd R (k + 1)
  · exact ⟨_, h1 h, by omega, est_high hi17 (hp (k + 1) (Nat.le_refl _)) rfl h⟩
  · obtain ⟨h3, h4⟩ := h2 h
    exact ⟨_, h3, h4, est_low hi17 (hp (k + 1) (Nat.le_refl _)) (hp k (by omega)) rfl h (QC.of_pc enters_div64 (div64_pc hV2 (wd_lt V k) (by omega) (wd_lt R k)))⟩
theorem take_num {M N V i L R : Nat} {q p : Nat → Nat} (hL : 1 ≤ L) (hi17 : i + L < 17) (hV : V < 2 ^ (64 * L)) (hV2 : 9223372036854775808 ≤ wd V (L - 1)) (hR : R < V * 18446744073709551616) (hp : ∀ t, t ≤ L → p (i + t) = wd R t) :
    MC Tryz.prog 128 [psl i L, dsl L] (M5 M N V (q16 q) (m17 p)) (u (R / V)) (M5 M N V (q16 q) (m17 (mixW i (L + 1) (R - V * (R / V)) p))) := by
  obtain ⟨d, h1, h2, h3⟩ : ∃ d, R / V ≤ d ∧ d < 18446744073709551616 ∧ MC Tryz.prog 132 [psl i L, dsl L] (M5 M N V (q16 q) (m17 p)) (u d) (M5 M N V (q16 q) (m17 p)) := by
    obtain ⟨k, rfl⟩ : ∃ k, L = k + 1 := ⟨L - 1, by omega⟩
    rw [Nat.add_sub_cancel] at hV2
    exact est_num hi17 hV hV2 hR hp
  have hV0 : 0 < V := by
    rcases Nat.eq_zero_or_pos V with e | e
    · subst e; rw [Nat.zero_mul] at hR; omega
    · exact e
  have hRP : R < 2 ^ (64 * (L + 1)) := by
    rw [pow_succ64]
    exact Nat.lt_of_lt_of_le hR (Nat.mul_le_mul_right _ (Nat.le_of_lt hV))
  have hs := sub_num (M := M) (N := N) (q := q) hi17 hV h2 hRP hp
  have hQ : V * (R / V) ≤ R := Nat.mul_div_le R V
  have hgt : ∀ e, R / V < e → R < V * e := fun e he => by
    have := (Nat.div_lt_iff_lt_mul hV0).1 he
    rw [Nat.mul_comm]; exact this
  have hVd : V * d < 2 ^ (64 * (L + 1)) := mul_lt_word hV h2
  generalize R / V = Q at *
  have hloop : TriL Tryz.prog (loopN Tryz.f128 0) (tdS M N V i L d (decide (R < V * d)) (q16 q) (mixW i (L + 1) (lentX R (V * d) L) p)) (to (.exit 0) (tdS M N V i L Q false (q16 q) (mixW i (L + 1) (lentX R (V * Q) L) p))) := by
    have h := TriL.count (P := Tryz.prog) (c := loopN Tryz.f128 0) (e := .exit 0) (S' := tdS M N V i L Q false (q16 q) (mixW i (L + 1) (lentX R (V * Q) L) p))
      (fun m => tdS M N V i L (d - m) (decide (R < V * (d - m))) (q16 q) (mixW i (L + 1) (lentX R (V * (d - m)) L) p)) (by simp) (d - Q) (fun m hm => ?_) ?_
    · exact h
    · obtain ⟨e, he⟩ : ∃ e, d - m = e + 1 := ⟨d - m - 1, by omega⟩
      show Tri _ _ (tdS M N V i L (d - m) (decide (R < V * (d - m))) (q16 q) (mixW i (L + 1) (lentX R (V * (d - m)) L) p)) (to _ (tdS M N V i L (d - (m + 1)) (decide (R < V * (d - (m + 1)))) (q16 q) (mixW i (L + 1) (lentX R (V * (d - (m + 1))) L) p)))
      rw [show d - (m + 1) = e by omega, he]
      have hlt := hgt (e + 1) (by omega)
      have hle : V * (e + 1) ≤ V * d := Nat.mul_le_mul_left V (by omega)
      have hmul : V * (e + 1) = V * e + V := Nat.mul_succ V e
      rw [decide_eq_true hlt]
      have ha := add_num (M := M) (N := N) (V := V) (i := i) (L := L) (X := lentX R (V * (e + 1)) L) (q := q) (p := mixW i (L + 1) (lentX R (V * (e + 1)) L) p) hi17 hV (by unfold lentX; omega) (fun t ht => mixW_in (by omega))
      have eX : lentX R (V * (e + 1)) L + V = lentX R (V * e) L := by unfold lentX; omega
      have hneg : decide (R < V * e) = !(decide (2 ^ (64 * (L + 1)) ≤ lentX R (V * e) L)) := by
        unfold lentX
        by_cases h : R < V * e
        · rw [decide_eq_true h, decide_eq_false (by omega)]; rfl
        · rw [decide_eq_false h, decide_eq_true (by omega)]; rfl
      rw [eX, funext (mixW_mixW i (L + 1) (lentX R (V * e) L) (lentX R (V * (e + 1)) L) p)] at ha
      rw [hneg]
      exact td_round (wrap_of (by omega) (by omega)) ha
    · show Tri _ _ (tdS M N V i L (d - (d - Q)) (decide (R < V * (d - (d - Q)))) (q16 q) (mixW i (L + 1) (lentX R (V * (d - (d - Q))) L) p)) _
      rw [show d - (d - Q) = Q by omega, decide_eq_false (by omega)]
      exact td_end
  have hfin : mixW i (L + 1) (lentX R (V * Q) L) p = mixW i (L + 1) (R - V * Q) p := by
    funext t
    unfold mixW
    split
    · have e : lentX R (V * Q) L = R - V * Q + 1 * 2 ^ (64 * (L + 1)) := by unfold lentX; omega
      rw [e, wd_lt_add _ _ _ _ (by omega)]
    · rfl
  rw [hfin] at hloop
  exact td_mc h3 hs hloop
end Go.Proofs.YtljolfnpncjklaaGreat.W
/-! Long division: widenedUp, dividedBy. -/
namespace Go.Proofs.YtljolfnpncjklaaGreat.W
open Go Go.Ev Go.Wide

theorem enters_widened : ∀ us w, (callFunc 127 us).run Tryz.prog w = .ok (.enter 127 us) w := enters Tryz.func127 rfl (by kernel_rfl)
theorem enters_divided : ∀ us w, (callFunc 121 us).run Tryz.prog w = .ok (.enter 121 us) w := enters Tryz.func121 rfl (by kernel_rfl)

/-! ### widenedUp -/
def widV (W : Nat) : Value := .agg (m17 (wd W)).toArray
def widV0 (W M s : Nat) : Value := .agg ((List.range 16).map (fun t => Value.int .u64 (wd W t)) ++ [Value.int .u64 (shrI (wd M 15) (restI s))]).toArray
theorem widened_pc {M s : Nat} (hM : M < T16) (hs : s < 64) : PC Tryz.prog 127 [mag M, .int .i64 s] (widV (M * 2 ^ s)) := by
  have hr := restI_eq (r := s) (by omega)
  have hnn : ¬ restI (s : Int) < 0 := by rw [hr]; omega
  refine PC.run mixed Tryz.func127 [.res (mag (M * 2 ^ s))] (v := widV0 (M * 2 ^ s) M s) (by simp [flat_mag]; rfl) (ts1 (tF hnn)) (qs1 (QC.of_pc enters_shiftedUp (shiftedUp_pc (c := s) hM (by omega)))) (by kernel_rfl) ?_ (by kernel_rfl)
  have e16 : (shrI (wd M 15) (restI s)) = ((wd (M * 2 ^ s) 16 : Nat) : Int) := by
    rw [hr, shrI_eq _ _ (by omega)]
    have h := wd_up M 0 s 16 hs
    rw [Nat.mul_zero, Nat.zero_add, Nat.add_zero] at h
    have hz : ∀ z, z = 16 → wd M z = 0 := fun z hz => wd_eq_zero (by rw [T16_pow hz]; exact hM)
    rw [h, hz 16 rfl, Nat.zero_mul, Nat.zero_mod, Nat.zero_add]
  unfold widV0
  rw [e16]
  rfl

/-! ### dividedBy -/
theorem set16 (q : Nat → Nat) (k v : Nat) : (q16 q).set (0 + ((k : Nat) : Int).toNat * 1) (.int .u64 v) = q16 (fun t => if t = k then v else q t) := by
  unfold q16
  rw [map_set, Int.toNat_natCast, Nat.zero_add, Nat.mul_one]
  refine List.map_congr_left fun i _ => ?_
  by_cases h : i = k
  · rw [if_pos h]; simp only [if_pos h]
  · rw [if_neg h]; simp only [if_neg h]
theorem psl_eq {i L : Nat} (h : i < 17) : Value.slice (some ⟨4, 0 + (if 17 = ((i : Nat) : Int).toNat then 0 else ((i : Nat) : Int).toNat * 1), none⟩) (((i + L + 1 : Nat) : Int).toNat - ((i : Nat) : Int).toNat) (17 - ((i : Nat) : Int).toNat) = psl i L := by
  unfold psl
  rw [Int.toNat_natCast, Int.toNat_natCast, if_neg (by omega), Nat.zero_add, Nat.mul_one, show i + L + 1 - i = L + 1 by omega]
theorem db_round {M N V L i d : Nat} {q p p' : Nat → Nat} {i' : Int} (hi : i + L < 17) (hL : 1 ≤ L) (hi' : i' = (i : Int) - 1)
    (h : MC Tryz.prog 128 [psl i L, dsl L] (M5 M N V (q16 q) (m17 p)) (u d) (M5 M N V (q16 q) (m17 p'))) :
    Tri Tryz.prog (loopN Tryz.f121 0) (dbS M N V L (i : Int) (q16 q) p) (to .normal (dbS M N V L i' (q16 (fun t => if t = i then d else q t)) p')) := by
  have key : Tri Tryz.prog (loopN Tryz.f121 0) (dbS M N V L (i : Int) (q16 q) p) (to .normal (dbS M N V L i' ((q16 q).set (0 + ((i : Nat) : Int).toNat * 1) (.int .u64 d)) p')) :=
    Tri.run mixed dbL [.tst true, .at 4 (.int .i64 ((i + L : Nat) : Int)), .at 0 (.int .i64 ((i + L + 1 : Nat) : Int)), .is 0 (psl i L), .mem (u d) (M5 M N V (q16 q) (m17 p')), .at 4 (.int .i64 i')]
      (tsC (tT (p := (i : Int) ≥ 0) (by omega)) <| tsC (wrapN (n := (i : Int) + (L : Int)) (m := i + L) (by omega) (by omega)) <| tsC (wrapN (n := ((i + L : Nat) : Int) + 1) (m := i + L + 1) (by omega) (by omega)) <|
        tsC (b := decide (((i + L + 1 : Nat) : Int) ≤ 17) && decide ((i : Int) ≤ ((((i + L + 1 : Nat) : Int).toNat : Nat) : Int))) (by rw [Int.toNat_natCast, decide_eq_true (by omega), decide_eq_true (by omega)]; rfl) <|
        tsC (tT (p := (i : Int) < 16) (by omega)) <| tsC (ltA (i := 0) (j := i) (n := 16) (by omega)) <| tsC (tT (p := IntKind.i64.wrap ((i : Int) - 1) = i') (by rw [hi', i64_wrap (by omega) (by omega)])) ts0)
      (qs2 (psl_eq (i := i) (L := L) (by omega)) h) (by kernel_rfl)
  rw [set16] at key
  exact key
theorem db_end {M N V L : Nat} {i : Int} {q p : Nat → Nat} (hi : i < 0) : Tri Tryz.prog (loopN Tryz.f121 0) (dbS M N V L i (q16 q) p) (to (.exit 0) (dbS M N V L i (q16 q) p)) :=
  Tri.run mixed dbL [.tst false] (tsC (tF (p := i ≥ 0) (by omega)) ts0) qs0 (by kernel_rfl)
theorem db_pc {M N V W k w s nm : Nat} {i0 i1 : Int} {q p : Nat → Nat} (hk : k < 16) (hw : wd N k = w) (hi0 : IntKind.i64.wrap ((nm : Int) - ((k + 1 : Nat) : Int)) = i0)
    (h1 : QC Tryz.prog 81 [mag N] (.int .i64 ((k + 1 : Nat) : Int))) (h2 : QC Tryz.prog 126 [u w] (.int .i64 s)) (h3 : QC Tryz.prog 84 [mag N, .int .i64 s] (mag V))
    (h4 : QC Tryz.prog 127 [mag M, .int .i64 s] (widV W)) (h5 : QC Tryz.prog 81 [mag M] (.int .i64 nm))
    (hl : TriL Tryz.prog (loopN Tryz.f121 0) (dbS M N V (k + 1) i0 (q16 fun _ => 0) (wd W)) (to (.exit 0) (dbS M N V (k + 1) i1 (q16 q) p))) :
    PC Tryz.prog 121 [mag M, mag N] (.tuple #[.agg (q16 q).toArray, .bool (eqZ ((List.range 17).map p))]) :=
  PC.run mixed Tryz.func121 [.res (.int .i64 ((k + 1 : Nat) : Int)), .at 3 (.int .i64 k), .is 1 (u w), .res (.int .i64 s), .res (mag V), .res (widV W), .res (.int .i64 nm), .at 2 (.int .i64 i0), .cut dbL (.exit 0) (dbS M N V (k + 1) i1 (q16 q) p)]
    (by simp [flat_mag])
    (tsC (wrapN (n := ((k + 1 : Nat) : Int) - 1) (m := k) (by omega) (by omega)) <| tsC (tT (p := (k : Int) < 16) (by omega)) <| tsC (ltA (i := 0) (j := k) (n := 16) (by omega)) <| tsC (b := decide (((k + 1 : Nat) : Int) ≤ 16) && true) (by rw [decide_eq_true (by omega)]; rfl) <| tsC (tT hi0) ts0)
    (qs7 h1 ((getWord N hk).trans (congrArg u hw)) h2 h3 h4 h5 hl) (by kernel_rfl) rfl (by kernel_rfl)

theorem db_loop {M N V L n W : Nat} {i0 : Int} (hL : 1 ≤ L) (hn : n + L ≤ 17) (hi0 : i0 = if n = 0 then i0 else (n : Int) - 1) (hneg : n = 0 → i0 < 0) (hV : V < 2 ^ (64 * L)) (hV2 : 9223372036854775808 ≤ wd V (L - 1)) (hW : W < V * 2 ^ (64 * n)) :
    ∃ i1, TriL Tryz.prog (loopN Tryz.f121 0) (dbS M N V L i0 (q16 fun _ => 0) (wd W)) (to (.exit 0) (dbS M N V L i1 (q16 (wd (W / V))) (wd (W % V)))) := by
  have hV0 : 0 < V := by
    rcases Nat.eq_zero_or_pos V with e | e
    · subst e; rw [Nat.zero_mul] at hW; omega
    · exact e
  by_cases h0 : n = 0
  · subst h0
    rw [Nat.mul_zero, Nat.pow_zero, Nat.mul_one] at hW
    refine ⟨i0, ?_⟩
    have e1 : W / V = 0 := Nat.div_eq_of_lt hW
    have e2 : W % V = W := Nat.mod_eq_of_lt hW
    have e3 : wd 0 = fun _ => 0 := funext fun t => by unfold wd; rw [Nat.zero_div, Nat.zero_mod]
    rw [e1, e2, e3]
    exact TriL.out (by simp) (db_end (hneg rfl))
  · refine ⟨(n : Int) - 1 - (n : Nat), ?_⟩
    rw [if_neg h0] at hi0
    subst hi0
    have h := TriL.count (P := Tryz.prog) (c := loopN Tryz.f121 0) (e := .exit 0)
      (fun m => dbS M N V L ((n : Int) - 1 - (m : Nat)) (q16 fun t => if n - m ≤ t then wd (W / V) t else 0) (wd (restW W V (n - m)))) (S' := dbS M N V L ((n : Int) - 1 - (n : Nat)) (q16 (wd (W / V))) (wd (W % V))) (by simp) n (fun m hm => ?_) ?_
    · have e1 : restW W V n = W := by unfold restW; exact Nat.mod_eq_of_lt hW
      have e2 : (fun t => if n ≤ t then wd (W / V) t else 0) = fun _ => 0 := funext fun t => by
        split
        · rename_i ht
          refine wd_eq_zero (Nat.lt_of_lt_of_le (Nat.div_lt_of_lt_mul hW) (Nat.pow_le_pow_right (by omega) (by omega)))
        · rfl
      rw [Nat.sub_zero, e1, e2] at h
      simpa using h
    · obtain ⟨r, hr⟩ : ∃ r, n - m = r + 1 := ⟨n - m - 1, by omega⟩
      show Tri _ _ (dbS M N V L ((n : Int) - 1 - (m : Nat)) (q16 fun t => if n - m ≤ t then wd (W / V) t else 0) (wd (restW W V (n - m)))) (to _ (dbS M N V L ((n : Int) - 1 - ((m + 1 : Nat) : Int)) (q16 fun t => if n - (m + 1) ≤ t then wd (W / V) t else 0) (wd (restW W V (n - (m + 1))))))
      rw [show n - (m + 1) = r by omega, hr, show (n : Int) - 1 - (m : Nat) = (r : Nat) by omega]
      have hlt := restW_lt W (r + 1) hV0
      have hR : restW W V (r + 1) / 2 ^ (64 * r) < V * 18446744073709551616 := by
        refine Nat.div_lt_of_lt_mul ?_
        rw [pow_succ64, ← Nat.mul_assoc, Nat.mul_comm V, Nat.mul_assoc] at hlt
        exact hlt
      have ht := take_num (M := M) (N := N) (V := V) (i := r) (L := L) (R := restW W V (r + 1) / 2 ^ (64 * r)) (q := fun t => if r + 1 ≤ t then wd (W / V) t else 0) (p := wd (restW W V (r + 1))) hL (by omega) hV hV2 hR (fun t _ => by rw [Nat.add_comm r t, wd_shift])
      rw [restW_digit, funext (fun t => restW_words W V r L t hV0 hV)] at ht
      have hq : (fun t => if t = r then wd (W / V) r else if r + 1 ≤ t then wd (W / V) t else 0) = fun t => if r ≤ t then wd (W / V) t else 0 := funext fun t => by
        by_cases h1 : t = r
        · rw [if_pos h1, if_pos (by omega), h1]
        · rw [if_neg h1]
          by_cases h2 : r + 1 ≤ t
          · rw [if_pos h2, if_pos (by omega)]
          · rw [if_neg h2, if_neg (by omega)]
      have key := db_round (M := M) (N := N) (V := V) (L := L) (i := r) (q := fun t => if r + 1 ≤ t then wd (W / V) t else 0) (i' := (n : Int) - 1 - ((m + 1 : Nat) : Int)) (by omega) hL (by omega) ht
      rw [hq] at key
      exact key
    · show Tri _ _ (dbS M N V L ((n : Int) - 1 - (n : Nat)) (q16 fun t => if n - n ≤ t then wd (W / V) t else 0) (wd (restW W V (n - n)))) _
      rw [Nat.sub_self, restW_zero]
      have e : (fun t => if 0 ≤ t then wd (W / V) t else 0) = wd (W / V) := funext fun t => if_pos (Nat.zero_le t)
      rw [e]
      exact db_end (by omega)
theorem q16_mag (Q : Nat) : Value.agg (q16 (wd Q)).toArray = mag Q := rfl
/-- The quotient of magnitudes, rounded down, and whether nothing is left. -/
theorem dividedBy_pc {M N : Nat} (hM : M < T16) (hN : N < T16) (h0 : N ≠ 0) : PC Tryz.prog 121 [mag M, mag N] (.tuple #[mag (M / N), .bool (decide (M % N = 0))]) := by
  obtain ⟨t1, t2, t3, t4, t5⟩ := topShift h0
  have hw := wordLen_pc hN
  have hwm := wordLen_pc hM
  have hn16 := nw_le16 hN
  have hm16 := nw_le16 hM
  have hlz := lz64_pc (wd_lt N (nw N - 1))
  have hs : ∃ s : Nat, s = 64 - bitLen (wd N (nw N - 1)) := ⟨_, rfl⟩
  obtain ⟨s, hs⟩ := hs
  rw [show (64 : Int) - (bitLen (wd N (nw N - 1)) : Int) = (s : Nat) by omega] at hlz
  rw [← hs] at t4 t5
  have hs63 : s ≤ 63 := by omega
  have hup := shiftedUp_pc (c := s) hN (by omega)
  have hwid := widened_pc (s := s) hM (by omega)
  have hS : 2 ^ s ≤ 9223372036854775808 := Nat.pow_le_pow_right (n := 2) (by omega) (show s ≤ 63 from hs63)
  have hNS : 2 ^ (64 * (nw N - 1)) * 9223372036854775808 ≤ N * 2 ^ s := by
    have h1 : wd (N * 2 ^ s) (nw N - 1) ≤ N * 2 ^ s / 2 ^ (64 * (nw N - 1)) := Nat.mod_le _ _
    have h2 := (Nat.le_div_iff_mul_le (Nat.two_pow_pos (64 * (nw N - 1)))).1 (Nat.le_trans t5 h1)
    rw [Nat.mul_comm]; exact h2
  have hrl := rounds_lt (M := M) (N := N) (S := 2 ^ s) hS hNS
  obtain ⟨i1, hl⟩ := db_loop (M := M) (N := N) (V := N * 2 ^ s) (L := nw N) (n := nw M + 1 - nw N) (W := M * 2 ^ s) (i0 := (nw M : Int) - (nw N : Int)) (by omega) (by omega) (by split <;> omega) (by omega) t4 t5 hrl
  obtain ⟨k, hk⟩ : ∃ k, nw N = k + 1 := ⟨nw N - 1, by omega⟩
  rw [hk, Nat.add_sub_cancel] at hlz
  rw [hk] at hw hl
  have hpos : 0 < 2 ^ s := Nat.two_pow_pos s
  have key := db_pc (M := M) (N := N) (V := N * 2 ^ s) (W := M * 2 ^ s) (k := k) (w := wd N k) (s := s) (nm := nw M) (i0 := (nw M : Int) - ((k + 1 : Nat) : Int)) (i1 := i1) (by omega) rfl (by rw [i64_wrap (by omega) (by omega)])
    (QC.of_pc enters_wordLen hw) (QC.of_pc enters_lz64 hlz) (QC.of_pc enters_shiftedUp hup) (QC.of_pc enters_widened hwid) (QC.of_pc enters_wordLen hwm) hl
  rw [q16_mag, Nat.mul_div_mul_right _ _ hpos, Nat.mul_mod_mul_right] at key
  have hb : eqZ ((List.range 17).map (wd (M % N * 2 ^ s))) = decide (M % N = 0) := by
    rw [Bool.eq_iff_iff, eqZ_iff, decide_eq_true_eq]
    have hlt : M % N * 2 ^ s < T16 := by
      have h1 : M % N * 2 ^ s < N * 2 ^ s := Nat.mul_lt_mul_of_pos_right (Nat.mod_lt _ (by omega)) hpos
      obtain ⟨z, hz⟩ : ∃ z, z = 16 := ⟨16, rfl⟩
      rw [← T16_pow hz]
      exact Nat.lt_of_lt_of_le (Nat.lt_trans h1 t4) (Nat.pow_le_pow_right (by omega) (by omega))
    constructor
    · intro hz
      have := eq_zero_of_words hlt fun i hi => hz _ (List.mem_map.2 ⟨i, List.mem_range.2 (by omega), rfl⟩)
      rcases Nat.mul_eq_zero.1 this with h | h
      · exact h
      · omega
    · intro h x hx
      rw [h, Nat.zero_mul] at hx
      obtain ⟨i, _, rfl⟩ := List.mem_map.1 hx
      simp [wd]
  rw [hb] at key
  exact key
end Go.Proofs.YtljolfnpncjklaaGreat.W
/-! The program's squareRoot, Div, Sqrt. -/
namespace Go.Ev
section
variable {P : Program}
def evK4 (P : Program) (c : Code) (fuel : Nat) (live : List Nat) (n : Nat) (S : St) (ans : List Ans) : Option (Bool × Prop × Exit × St) :=
  match evK P c fuel live n S ans with
  | some (a, b, x, y) => some (a, allP b, x, y)
  | none => none
theorem Tri.runK (hm : P.follows .mixedOrders = true) {c : Code} (live : List Nat) (n : Nat) (ans : List Ans) {S S' : St} {x : Exit} {X : Bool} {A : Prop} (hx : X = true) (ha : A) (e : evK4 P c 400 live n S ans = some (X, A, x, S')) : Tri P c S (to x S') := by
  unfold evK4 at e
  split at e
  · rename_i a b y s he
    cases e
    exact Tri.of_evK hm 400 live n ans he hx ha
  · cases e
end
end Go.Ev
namespace Go.Proofs.YtljolfnpncjklaaGreat.W
open Go Go.Ev Go.Wide

/-! ### Roots of natural numbers -/
def isq : Nat → Nat
  | 0 => 0
  | n + 1 => if (isq n + 1) * (isq n + 1) ≤ n + 1 then isq n + 1 else isq n
theorem isq_spec : ∀ n, isq n * isq n ≤ n ∧ n < (isq n + 1) * (isq n + 1)
  | 0 => by simp [isq]
  | n + 1 => by
    obtain ⟨h1, h2⟩ := isq_spec n
    unfold isq
    split
    · rename_i h
      refine ⟨h, ?_⟩
      have e : (isq n + 1 + 1) * (isq n + 1 + 1) = (isq n + 1) * (isq n + 1) + (isq n + 1) + (isq n + 1) + 1 := by
        rw [Nat.mul_add, Nat.add_mul, Nat.mul_one, Nat.one_mul]
        omega
      omega
    · exact ⟨by omega, by omega⟩
theorem sq_lt_of_lt {a b : Nat} (h : a < b) : a * a < b * b := Nat.mul_lt_mul'' h h
theorem sq_le_of_le {a b : Nat} (h : a ≤ b) : a * a ≤ b * b := Nat.mul_le_mul h h
theorem isq_le {n a : Nat} (h : a * a ≤ n) : a ≤ isq n := by
  have h2 := (isq_spec n).2
  rcases Nat.lt_or_ge (isq n) a with h1 | h1
  · have := sq_le_of_le (show isq n + 1 ≤ a from h1)
    omega
  · exact h1
theorem isq_eq {n a : Nat} (h1 : a * a ≤ n) (h2 : n < (a + 1) * (a + 1)) : isq n = a := by
  have h := isq_le h1
  have hs := (isq_spec n).1
  rcases Nat.lt_or_ge a (isq n) with h3 | h3
  · have := sq_le_of_le (show a + 1 ≤ isq n from h3)
    omega
  · omega
theorem isq_mono {m n : Nat} (h : m ≤ n) : isq m ≤ isq n := isq_le (Nat.le_trans (isq_spec m).1 h)
theorem isq_self (n : Nat) : isq n ≤ n := by
  have := (isq_spec n).1
  rcases Nat.eq_zero_or_pos (isq n) with h | h
  · omega
  · have := Nat.mul_le_mul_left (isq n) (show 1 ≤ isq n from h)
    omega
/-- One step of Newton's, from above. -/
theorem newton {N r s : Nat} (hr : 0 < r) (hs : s * s ≤ N) (hs2 : N < (s + 1) * (s + 1)) (h : s ≤ r) : s ≤ (r + N / r) / 2 ∧ (¬ (r + N / r) / 2 < r → r = s) := by
  constructor
  · obtain ⟨k, rfl⟩ : ∃ k, r = s + k := ⟨r - s, by omega⟩
    rcases Nat.lt_or_ge s k with h1 | h1
    · generalize N / (s + k) = q
      omega
    · obtain ⟨j, rfl⟩ : ∃ j, s = k + j := ⟨s - k, by omega⟩
      have : j ≤ N / (k + j + k) := by
        rw [Nat.le_div_iff_mul_le hr]
        refine Nat.le_trans ?_ hs
        have e1 : j * (k + j + k) = j * k + j * j + j * k := by rw [Nat.mul_add, Nat.mul_add]
        have e2 : (k + j) * (k + j) = k * k + j * k + (k * j + j * j) := by rw [Nat.mul_add, Nat.add_mul, Nat.add_mul]
        have e3 : k * j = j * k := Nat.mul_comm _ _
        omega
      generalize N / (k + j + k) = q at *
      omega
  · intro h1
    have h2 : r ≤ N / r := by omega
    have h3 := (Nat.le_div_iff_mul_le hr).1 h2
    rcases Nat.lt_or_ge s r with h4 | h4
    · have := sq_le_of_le (show s + 1 ≤ r from h4)
      omega
    · omega

/-! ### squareRoot -/
def srS (N : Nat) (R : List Value) (r : Nat) : St := ⟨slots 32 [(1, ptr 0), (2, ptr 1), (3, ptr 2)], [⟨words N, 29, true⟩, ⟨R, 29, true⟩, ⟨words r, 29, true⟩]⟩
def srL : List Nat := [1, 2, 3]
def zero16 : List Value := List.replicate 16 (.int .u64 0)
theorem sr_stop {N r q b : Nat} {x : Bool} {c : Int} (hc : c ≥ 0) (h1 : QC Tryz.prog 121 [mag N, mag r] (.tuple #[mag q, .bool x])) (h2 : QC Tryz.prog 39 [mag r, mag q] (mag (r + q)))
    (h3 : QC Tryz.prog 83 [mag (r + q), .int .i64 1] (mag b)) (h4 : QC Tryz.prog 40 [mag b, mag r] (.int .i64 c)) :
    Tri Tryz.prog (loopN Tryz.f135 0) (srS N zero16 r) (to .ret (srS N (words r) r)) :=
  Tri.runK mixed srL 3 [.res (.tuple #[mag q, .bool x]), .res (mag (r + q)), .res (mag b), .res (.int .i64 c), .tst true] (tsC (tT hc) ts0) (qs4 h1 h2 h3 h4) (by kernel_rfl)
theorem sr_go {N r q b : Nat} {x : Bool} {c : Int} (hc : ¬ c ≥ 0) (h1 : QC Tryz.prog 121 [mag N, mag r] (.tuple #[mag q, .bool x])) (h2 : QC Tryz.prog 39 [mag r, mag q] (mag (r + q)))
    (h3 : QC Tryz.prog 83 [mag (r + q), .int .i64 1] (mag b)) (h4 : QC Tryz.prog 40 [mag b, mag r] (.int .i64 c)) :
    Tri Tryz.prog (loopN Tryz.f135 0) (srS N zero16 r) (to .normal (srS N zero16 b)) :=
  Tri.runK mixed srL 3 [.res (.tuple #[mag q, .bool x]), .res (mag (r + q)), .res (mag b), .res (.int .i64 c), .tst false] (tsC (tF hc) ts0) (qs4 h1 h2 h3 h4) (by kernel_rfl)
theorem sr_loop {N : Nat} (hN : N < Hi) (h0 : 0 < N) : ∀ n r, r = n → isq N ≤ r → r < Hi → TriL Tryz.prog (loopN Tryz.f135 0) (srS N zero16 r) (to .ret (srS N (words (isq N)) (isq N))) := by
  intro n
  induction n using Nat.strongRecOn with
  | _ n ih =>
    intro r hrn hs hr
    subst hrn
    obtain ⟨s1, s2⟩ := isq_spec N
    have hs0 : 0 < isq N := by
      rcases Nat.eq_zero_or_pos (isq N) with e | e
      · rw [e] at s2; omega
      · exact e
    have hr0 : 0 < r := by omega
    obtain ⟨n1, n2⟩ := newton hr0 s1 s2 hs
    have hT := Hi_T16
    have hq : N / r ≤ N := Nat.div_le_self _ _
    have hd := dividedBy_pc (M := N) (N := r) (by omega) (by omega) (by omega)
    have hp := plus_pc r (N / r)
    have hdn := shiftedDown_pc (N := r + N / r) (c := 1) (by omega) (by omega)
    rw [Nat.pow_one] at hdn
    have hc := compare_pc (M := (r + N / r) / 2) (N := r) (by omega) (by omega)
    by_cases h : (r + N / r) / 2 < r
    · have hneg : ¬ cmpI ((r + N / r) / 2) r ≥ 0 := by unfold cmpI; rw [if_pos h]; omega
      exact TriL.next (sr_go hneg (QC.of_pc enters_divided hd) (QC.of_pc enters_plus hp) (QC.of_pc enters_shiftedDown hdn) (QC.of_pc enters_compare hc)) (ih _ h _ rfl n1 (by omega))
    · have hpos : cmpI ((r + N / r) / 2) r ≥ 0 := by unfold cmpI; rw [if_neg h]; split <;> omega
      have e := n2 h
      have key := sr_stop hpos (QC.of_pc enters_divided hd) (QC.of_pc enters_plus hp) (QC.of_pc enters_shiftedDown hdn) (QC.of_pc enters_compare hc)
      rw [← e]
      exact TriL.out (by simp) key
theorem sqrt_zero {N : Nat} (h : QC Tryz.prog 63 [mag N] (.bool true)) : PC Tryz.prog 135 [mag N] (mag N) :=
  PC.run mixed Tryz.func135 [.res (.bool true)] (by simp [flat_mag]) ts0 (qs1 h) (flat_mag _) rfl (by kernel_rfl)
theorem sqrt_run {N b k r s : Nat} (hk : IntKind.i64.wrap ((IntKind.i64.wrap ((b : Int) + 1)).tdiv 2) = k) (h : QC Tryz.prog 63 [mag N] (.bool false)) (h1 : QC Tryz.prog 78 [mag N] (.int .i64 b))
    (h2 : QC Tryz.prog 84 [mag1, .int .i64 k] (mag r)) (hl : TriL Tryz.prog (loopN Tryz.f135 0) (srS N zero16 r) (to .ret (srS N (words s) s))) :
    PC Tryz.prog 135 [mag N] (mag s) :=
  PC.run mixed Tryz.func135 [.res (.bool false), .res (.int .i64 b), .at 2 (.int .i64 k), .res (mag r), .cut srL .ret (srS N (words s) s)] (by simp [flat_mag]) (tsC (tT hk) ts0) (qs4 h h1 h2 hl) (flat_mag _) rfl (by kernel_rfl)
theorem squareRoot_pc {N : Nat} (hN : N < Hi) : PC Tryz.prog 135 [mag N] (mag (isq N)) := by
  have hT := Hi_T16
  have hz := isZero_pc (N := N) (by omega)
  by_cases h0 : N = 0
  · subst h0
    exact sqrt_zero (QC.of_pc enters_isZero hz)
  · rw [decide_eq_false h0] at hz
    have hb := bitLen_pc (N := N) (by omega)
    have hbl : bitLen N ≤ 1023 := bitLen_Hi.2 hN
    have h1T : 1 < T16 := small_T16 (by omega)
    have hup := shiftedUp_pc (N := 1) (c := (bitLen N + 1) / 2) h1T (by omega)
    rw [Nat.one_mul, ← mag1_eq] at hup
    have hHi : 2 ^ ((bitLen N + 1) / 2) < Hi := small_Hi (n := (bitLen N + 1) / 2 + 1) (Nat.pow_lt_pow_right (by omega) (by omega)) (by omega)
    have hge : isq N ≤ 2 ^ ((bitLen N + 1) / 2) := by
      rcases Nat.lt_or_ge (2 ^ ((bitLen N + 1) / 2)) (isq N) with h | h
      · exfalso
        have h1 := sq_le_of_le (Nat.le_of_lt h)
        rw [← Nat.pow_add] at h1
        have h2 := (bitLen_spec N).1
        have h3 : 2 ^ bitLen N ≤ 2 ^ ((bitLen N + 1) / 2 + (bitLen N + 1) / 2) := Nat.pow_le_pow_right (by omega) (by omega)
        have := (isq_spec N).1
        omega
      · exact h
    refine sqrt_run (b := bitLen N) (k := (bitLen N + 1) / 2) ?_ (QC.of_pc enters_isZero hz) (QC.of_pc enters_bitLen hb) (QC.of_pc enters_shiftedUp hup) (sr_loop hN (by omega) _ _ rfl hge hHi)
    have w1 : IntKind.i64.wrap ((bitLen N : Int) + 1) = (bitLen N : Int) + 1 := i64_wrap (by omega) (by omega)
    rw [w1, Int.tdiv_eq_ediv_of_nonneg (by omega), i64_wrap (by omega) (by omega)]
    omega
theorem enters_squareRoot : ∀ us w, (callFunc 135 us).run Tryz.prog w = .ok (.enter 135 us) w := enters Tryz.func135 rfl (by kernel_rfl)

/-! ### Sqrt -/
def errV (v : Value) (e : Nat) : Value := .tuple #[v, .int .i64 e]
def wsqrtV : Option Int → Value
  | none => errV (wv (some 0)) 2
  | some z => if z < 0 then errV (wv (some 0)) 1 else errV (wv (some (isq z.natAbs : Nat))) 0
theorem wv_zero : wv (some 0) = wR false 0 false := rfl
theorem wv_none : wv none = wR true 0 false := rfl
theorem sqrtO : PC Tryz.prog 129 [wR true 0 false] (errV (wR false 0 false) 2) :=
  PC.run mixed Tryz.func129 [] (by simp [flat_wR]) ts0 qs0 (by kernel_rfl) rfl (by kernel_rfl)
theorem sqrtN {K : Nat} : PC Tryz.prog 129 [wR false K true] (errV (wR false 0 false) 1) :=
  PC.run mixed Tryz.func129 [] (by simp [flat_wR]) ts0 qs0 (by kernel_rfl) rfl (by kernel_rfl)
theorem sqrtP {K s : Nat} (h : QC Tryz.prog 135 [mag K] (mag s)) : PC Tryz.prog 129 [wR false K false] (errV (wR false s false) 0) :=
  PC.run mixed Tryz.func129 [.res (mag s)] (by simp [flat_wR]) ts0 (qs1 h) (by kernel_rfl) rfl (by kernel_rfl)
theorem wv_nat (n : Nat) : wv (some (n : Int)) = wR false n false := by
  rw [wv_some, decide_eq_false (by omega), Int.natAbs_natCast]
theorem sqrt_pc {A : Option Int} (hA : WF A) : PC Tryz.prog 129 [wv A] (wsqrtV A) := by
  cases A with
  | none =>
    unfold wsqrtV
    rw [wv_zero, wv_none]
    exact sqrtO
  | some z =>
    unfold wsqrtV
    simp only
    by_cases h : z < 0
    · rw [if_pos h, wv_some (z := z), decide_eq_true h, wv_zero]
      exact sqrtN
    · rw [if_neg h, wv_some (z := z), decide_eq_false h, wv_nat]
      exact sqrtP (QC.of_pc enters_squareRoot (squareRoot_pc (hA z rfl)))
theorem enters_sqrt : ∀ us w, (callFunc 129 us).run Tryz.prog w = .ok (.enter 129 us) w := enters Tryz.func129 rfl (by kernel_rfl)
end Go.Proofs.YtljolfnpncjklaaGreat.W
/-! The program's Div. -/
namespace Go.Proofs.YtljolfnpncjklaaGreat.W
open Go Go.Ev Go.Wide

theorem enters_div : ∀ us w, (callFunc 112 us).run Tryz.prog w = .ok (.enter 112 us) w := enters Tryz.func112 rfl (by kernel_rfl)
theorem divO1 {K : Nat} {o s : Bool} : PC Tryz.prog 112 [wR true 0 false, wR o K s] (errV (wR false 0 false) 2) := by
  cases o <;> exact PC.run mixed Tryz.func112 [] (by simp [flat_wR]) ts0 qs0 (by kernel_rfl) rfl (by kernel_rfl)
theorem divO2 {M : Nat} {s : Bool} : PC Tryz.prog 112 [wR false M s, wR true 0 false] (errV (wR false 0 false) 2) :=
  PC.run mixed Tryz.func112 [] (by simp [flat_wR]) ts0 qs0 (by kernel_rfl) rfl (by kernel_rfl)
theorem divZ {M N : Nat} {s t : Bool} (h : QC Tryz.prog 63 [mag N] (.bool true)) : PC Tryz.prog 112 [wR false M s, wR false N t] (errV (wR false 0 false) 1) :=
  PC.run mixed Tryz.func112 [.res (.bool true)] (by simp [flat_wR]) ts0 (qs1 h) (by kernel_rfl) rfl (by kernel_rfl)
theorem divN {M N Q L : Nat} {s t x o q : Bool} (h : QC Tryz.prog 63 [mag N] (.bool false)) (h1 : QC Tryz.prog 121 [mag M, mag N] (.tuple #[mag Q, .bool x]))
    (h2 : QC Tryz.prog 85 [mag Q, .bool x, .bool (!(s == t))] (wR o L q)) : PC Tryz.prog 112 [wR false M s, wR false N t] (errV (wR o L q) 0) := by
  cases o
  · cases s <;> cases t <;> exact PC.run mixed Tryz.func112 [.res (.bool false), .res (.tuple #[mag Q, .bool x]), .res (wR false L q)] (by simp [flat_wR]) ts0 (qs3 h h1 h2) (by kernel_rfl) rfl (by kernel_rfl)
  · cases s <;> cases t <;> exact PC.run mixed Tryz.func112 [.res (.bool false), .res (.tuple #[mag Q, .bool x]), .res (wR true L q)] (by simp [flat_wR]) ts0 (qs3 h h1 h2) (by kernel_rfl) rfl (by kernel_rfl)
/-- The quotient, rounded down. -/
def wdivV : Option Int → Option Int → Value
  | none, _ => errV (wv (some 0)) 2
  | some _, none => errV (wv (some 0)) 2
  | some a, some b => if b = 0 then errV (wv (some 0)) 1 else errV (wv (some (a.fdiv b))) 0
theorem fdiv_signs (a b : Int) (hb : b ≠ 0) : sg (downK (a.natAbs / b.natAbs) (decide (a.natAbs % b.natAbs = 0)) (!(decide (a < 0) == decide (b < 0)))) (!(decide (a < 0) == decide (b < 0))) = a.fdiv b ∧ (a.fdiv b).natAbs ≤ a.natAbs := by
  have hle : a.natAbs / b.natAbs ≤ a.natAbs := Nat.div_le_self _ _
  have hdm := Nat.div_add_mod a.natAbs b.natAbs
  have hlt := Nat.mod_lt a.natAbs (show 0 < b.natAbs by omega)
  -- the floor, by its remainder
  have key : ∀ (q : Int) (r : Int), a = b * q + r → (0 < b → 0 ≤ r ∧ r < b) → (b < 0 → b < r ∧ r ≤ 0) → a.fdiv b = q := by
    intro q r h1 h2 h3
    by_cases hp : 0 < b
    · obtain ⟨r0, r1⟩ := h2 hp
      rw [Int.fdiv_eq_ediv_of_nonneg _ (by omega), h1, Int.add_comm, Int.add_mul_ediv_left _ _ hb, Int.ediv_eq_zero_of_lt r0 r1]
      omega
    · obtain ⟨r0, r1⟩ := h3 (by omega)
      have e : a.fdiv b = (-a).fdiv (-b) := (Int.neg_fdiv_neg a b).symm
      rw [e, Int.fdiv_eq_ediv_of_nonneg _ (by omega), h1, show -(b * q + r) = -r + -b * q by rw [Int.neg_mul]; omega, Int.add_mul_ediv_left _ _ (by omega), Int.ediv_eq_zero_of_lt (by omega) (by omega)]
      omega
  generalize hQ : a.natAbs / b.natAbs = Q at *
  generalize hR : a.natAbs % b.natAbs = R at *
  have hmul : ((b.natAbs * Q : Nat) : Int) = (b.natAbs : Int) * (Q : Int) := Int.natCast_mul _ _
  have hbig : R ≠ 0 → Q + 1 ≤ a.natAbs := fun h => by
    have h2 : 2 ≤ b.natAbs := by omega
    have := Nat.mul_le_mul_right Q h2
    omega
  by_cases ha : a < 0 <;> by_cases hb2 : b < 0
  · rw [decide_eq_true ha, decide_eq_true hb2]
    have e : a.fdiv b = Q := key Q (-R) (by rw [show b = -(b.natAbs : Int) by omega, Int.neg_mul]; omega) (by omega) (by omega)
    rw [e]
    exact ⟨by cases decide (R = 0) <;> rfl, by omega⟩
  · rw [decide_eq_true ha, decide_eq_false hb2]
    by_cases hr : R = 0
    · have e : a.fdiv b = -Q := key (-Q) 0 (by rw [Int.mul_neg, show b = (b.natAbs : Int) by omega]; omega) (by omega) (by omega)
      rw [e, decide_eq_true hr]
      exact ⟨rfl, by omega⟩
    · have e : a.fdiv b = -((Q + 1 : Nat) : Int) := key (-((Q + 1 : Nat) : Int)) (b - R) (by rw [Int.mul_neg, Int.natCast_add, Int.mul_add, show b = (b.natAbs : Int) by omega]; omega) (by omega) (by omega)
      rw [e, decide_eq_false hr]
      exact ⟨rfl, by have := hbig hr; omega⟩
  · rw [decide_eq_false ha, decide_eq_true hb2]
    by_cases hr : R = 0
    · have e : a.fdiv b = -Q := key (-Q) 0 (by rw [Int.mul_neg, show b = -(b.natAbs : Int) by omega, Int.neg_mul]; omega) (by omega) (by omega)
      rw [e, decide_eq_true hr]
      exact ⟨rfl, by omega⟩
    · have e : a.fdiv b = -((Q + 1 : Nat) : Int) := key (-((Q + 1 : Nat) : Int)) (b + R) (by rw [Int.mul_neg, Int.natCast_add, Int.mul_add, show b = -(b.natAbs : Int) by omega, Int.neg_mul]; omega) (by omega) (by omega)
      rw [e, decide_eq_false hr]
      exact ⟨rfl, by have := hbig hr; omega⟩
  · rw [decide_eq_false ha, decide_eq_false hb2]
    have e : a.fdiv b = Q := key Q R (by rw [show b = (b.natAbs : Int) by omega]; omega) (by omega) (by omega)
    rw [e]
    exact ⟨by cases decide (R = 0) <;> rfl, by omega⟩
theorem div_pc {A B : Option Int} (hA : WF A) (hB : WF B) : PC Tryz.prog 112 [wv A, wv B] (wdivV A B) := by
  cases A with
  | none =>
    obtain ⟨o, K, s, e⟩ := wv_form B
    unfold wdivV
    rw [e, wv_zero, wv_none]
    exact divO1
  | some a =>
    cases B with
    | none =>
      unfold wdivV
      rw [wv_zero, wv_none, wv_some (z := a)]
      exact divO2
    | some b =>
      have ha := hA a rfl
      have hb := hB b rfl
      have hT := Hi_T16
      have hz := isZero_pc (N := b.natAbs) (by omega)
      unfold wdivV
      simp only
      rw [wv_some (z := a), wv_some (z := b)]
      by_cases h0 : b = 0
      · rw [if_pos h0]
        rw [decide_eq_true (by omega)] at hz
        rw [wv_zero]
        exact divZ (QC.of_pc enters_isZero hz)
      · rw [if_neg h0]
        rw [decide_eq_false (by omega)] at hz
        obtain ⟨f1, f2⟩ := fdiv_signs a b h0
        have hd := dividedBy_pc (M := a.natAbs) (N := b.natAbs) (by omega) (by omega) (by omega)
        have hq : a.natAbs / b.natAbs ≤ a.natAbs := Nat.div_le_self _ _
        have hr := rounded_pc (M := a.natAbs / b.natAbs) (by have := Hi_pos; omega) (decide (a.natAbs % b.natAbs = 0)) (!(decide (a < 0) == decide (b < 0)))
        unfold sgn at hr
        rw [f1, clamp_eq (by omega)] at hr
        obtain ⟨o, L, q, e⟩ := wv_form (some (a.fdiv b))
        rw [e] at hr ⊢
        exact divN (QC.of_pc enters_isZero hz) (QC.of_pc enters_divided hd) (QC.of_pc enters_rounded hr)
end Go.Proofs.YtljolfnpncjklaaGreat.W
