/-
  Long division by words of 32 bits, in numbers: no program.
-/
import Derived.Test.YtljolfnpncjklaaGreatRefN
namespace Go.W32
open Go
open Go.Proofs.YtljolfnpncjklaaGreat.W (bitLen_lt_iff)

/-! ### One digit times the divisor -/
/-- What is carried before word j of V * d. -/
def mK (V d j : Nat) : Nat := V % 2 ^ (32 * j) * d / 2 ^ (32 * j)
theorem mK_zero (V d : Nat) : mK V d 0 = 0 := by
  unfold mK
  rw [Nat.mul_zero, Nat.pow_zero, Nat.mod_one, Nat.zero_mul, Nat.zero_div]
theorem mK_lt (V d j : Nat) (hd : d < 4294967296) : mK V d j < 4294967296 := by
  unfold mK
  have hp : 0 < 2 ^ (32 * j) := Nat.two_pow_pos _
  have h1 := Nat.mod_lt V hp
  refine Nat.div_lt_of_lt_mul ?_
  rcases Nat.eq_zero_or_pos d with h0 | h0
  · subst h0; rw [Nat.mul_zero]; exact Nat.mul_pos hp (by omega)
  · exact Nat.lt_of_lt_of_le (Nat.mul_lt_mul_of_pos_right h1 h0) (Nat.mul_le_mul_left _ (by omega))
theorem mK_step (V d j : Nat) : V % 2 ^ (32 * (j + 1)) * d / 2 ^ (32 * j) = wd V j * d + mK V d j := by
  unfold mK
  rw [mod_succ32, Nat.add_mul, show wd V j * 2 ^ (32 * j) * d = wd V j * d * 2 ^ (32 * j) by ac_rfl, Nat.add_mul_div_right _ _ (Nat.two_pow_pos _), Nat.add_comm]
theorem mK_succ (V d j : Nat) : mK V d (j + 1) = (wd V j * d + mK V d j) / 4294967296 := by
  rw [← mK_step, Nat.div_div_eq_div_mul, ← pow_succ32]
  rfl
theorem wd_mK (V d j : Nat) : wd (V * d) j = (wd V j * d + mK V d j) % 4294967296 := by
  have e : ∀ P, V * d = V % P * d + V / P * d * P := fun P => by
    have h := Nat.mod_add_div V P
    conv => lhs; rw [← h]
    rw [Nat.add_mul, Nat.mul_assoc P, Nat.mul_comm P]
  have h := wd_lt_add (V % 2 ^ (32 * (j + 1)) * d) (V / 2 ^ (32 * (j + 1)) * d) (j + 1) j (by omega)
  rw [← e] at h
  rw [h, ← mK_step]
  rfl
theorem mul_lt_word {V d L : Nat} (hV : V < 2 ^ (32 * L)) (hd : d < 4294967296) : V * d < 2 ^ (32 * (L + 1)) := by
  rw [pow_succ32]
  exact Nat.lt_of_le_of_lt (Nat.mul_le_mul_left V (Nat.le_of_lt hd)) (Nat.mul_lt_mul_of_pos_right hV (by omega))
theorem mK_all {V d L : Nat} (hV : V < 2 ^ (32 * L)) (hd : d < 4294967296) : mK V d L = wd (V * d) L := by
  have h := mK_lt V d L hd
  unfold mK at *
  rw [Nat.mod_eq_of_lt hV] at *
  unfold wd
  rw [Nat.mod_eq_of_lt h]

/-! ### The difference, with a word's power lent -/
/-- What is left of R, without V * d, with 2 ^ (64 (L + 1)) lent. -/
def lentX (R D L : Nat) : Nat := R + 1 * 2 ^ (32 * (L + 1)) - D
theorem lent_ge {R D L : Nat} (hD : D < 2 ^ (32 * (L + 1))) : D ≤ R + 1 * 2 ^ (32 * (L + 1)) := by omega
theorem wd_lent {R L t : Nat} (h : t ≤ L) : wd (R + 1 * 2 ^ (32 * (L + 1))) t = wd R t := wd_lt_add _ _ _ _ (by omega)
theorem sub_step {R D L t : Nat} (hD : D < 2 ^ (32 * (L + 1))) (h : t ≤ L) :
    wd (lentX R D L) t = (wd R t + 4294967296 - wd D t - bor (R + 1 * 2 ^ (32 * (L + 1))) D t) % 4294967296 ∧
    bor (R + 1 * 2 ^ (32 * (L + 1))) D (t + 1) = if wd R t < wd D t + bor (R + 1 * 2 ^ (32 * (L + 1))) D t then 1 else 0 := by
  have h0 := lent_ge (R := R) hD
  have h1 := wd_sub h0 t
  have h2 := bor_succ h0 t
  rw [wd_lent h] at h1 h2
  refine ⟨?_, h2⟩
  have h3 := wd_lt R t
  have h4 := wd_lt D t
  have h5 := bor_le (R + 1 * 2 ^ (32 * (L + 1))) D t
  unfold lentX
  omega
theorem bor_end {R D L : Nat} (hR : R < 2 ^ (32 * (L + 1))) (hD : D < 2 ^ (32 * (L + 1))) : bor (R + 1 * 2 ^ (32 * (L + 1))) D (L + 1) = if R < D then 1 else 0 := by
  unfold bor
  rw [Nat.one_mul, Nat.add_mod_right, Nat.mod_eq_of_lt hR, Nat.mod_eq_of_lt hD]
theorem car_end {X V L : Nat} (hX : X < 2 ^ (32 * (L + 1))) (hV : V < 2 ^ (32 * (L + 1))) : car X V (L + 1) = (X + V) / 2 ^ (32 * (L + 1)) := by
  unfold car
  rw [Nat.mod_eq_of_lt hX, Nat.mod_eq_of_lt hV]

/-- Words i .. i + j - 1 are those of X, the others as in p. -/
def mixW (i j X : Nat) (p : Nat → Nat) (t : Nat) : Nat := if i ≤ t ∧ t < i + j then wd X (t - i) else p t
theorem mixW_zero (i X : Nat) (p : Nat → Nat) (t : Nat) : mixW i 0 X p t = p t := by
  unfold mixW
  rw [if_neg (by omega)]
theorem mixW_succ (i j X : Nat) (p : Nat → Nat) (t : Nat) : mixW i (j + 1) X p t = if t = i + j then wd X j else mixW i j X p t := by
  unfold mixW
  by_cases h : t = i + j
  · subst h
    rw [if_pos rfl, if_pos (by omega), Nat.add_sub_cancel_left]
  · rw [if_neg h]
    by_cases h1 : i ≤ t ∧ t < i + j
    · rw [if_pos h1, if_pos (by omega)]
    · rw [if_neg h1, if_neg (by omega)]
theorem mixW_at (i j X : Nat) (p : Nat → Nat) : mixW i j X p (i + j) = p (i + j) := by
  unfold mixW
  rw [if_neg (by omega)]
theorem mixW_in {i j X : Nat} {p : Nat → Nat} {t : Nat} (h : t < j) : mixW i j X p (i + t) = wd X t := by
  unfold mixW
  rw [if_pos (by omega), Nat.add_sub_cancel_left]
theorem mixW_mixW (i j X Y : Nat) (p : Nat → Nat) (t : Nat) : mixW i j X (mixW i j Y p) t = mixW i j X p t := by
  unfold mixW
  split
  · rfl
  · rfl

/-! ### The divisor, shifted -/
theorem topShift {N : Nat} (h : N ≠ 0) : nw N ≠ 0 ∧ 1 ≤ bitLen (wd N (nw N - 1)) ∧ bitLen (wd N (nw N - 1)) ≤ 32 ∧
    N * 2 ^ (32 - bitLen (wd N (nw N - 1))) < 2 ^ (32 * nw N) ∧ 2147483648 ≤ wd (N * 2 ^ (32 - bitLen (wd N (nw N - 1)))) (nw N - 1) := by
  have hn : nw N ≠ 0 := by
    intro e
    have := lt_nw N
    rw [e, Nat.mul_zero, Nat.pow_zero] at this
    omega
  obtain ⟨hne, hlt⟩ := nw_top hn
  have hw : wd N (nw N - 1) = N / 2 ^ (32 * (nw N - 1)) := Nat.mod_eq_of_lt hlt
  have hlt' := lt_nw N
  generalize nw N = n at *
  obtain ⟨k, rfl⟩ : ∃ k, n = k + 1 := ⟨n - 1, by omega⟩
  rw [Nat.add_sub_cancel] at *
  rw [hw]
  generalize hwd : N / 2 ^ (32 * k) = w at *
  have hb := bitLen_spec w
  have hb2 := hb.2 hne
  have hb1 := hb.1
  have hb0 : 1 ≤ bitLen w := by
    rcases Nat.eq_zero_or_pos (bitLen w) with e | e
    · rw [e, Nat.pow_zero] at hb1; omega
    · exact e
  have hb32 : bitLen w ≤ 32 := bitLen_lt_iff.2 hlt
  have hp : 0 < 2 ^ (32 * k) := Nat.two_pow_pos _
  have hN1 : N < (w + 1) * 2 ^ (32 * k) := by
    rw [← hwd, Nat.mul_comm]
    exact Nat.lt_mul_div_succ N hp
  have hN2 : w * 2 ^ (32 * k) ≤ N := by rw [← hwd]; exact Nat.div_mul_le_self _ _
  have hB : (4294967296 : Nat) = 2 ^ bitLen w * 2 ^ (32 - bitLen w) := by rw [← Nat.pow_add, Nat.add_sub_cancel' hb32]
  have hB2 : (2147483648 : Nat) = 2 ^ (bitLen w - 1) * 2 ^ (32 - bitLen w) := by rw [← Nat.pow_add, show bitLen w - 1 + (32 - bitLen w) = 31 by omega]
  generalize hs : 2 ^ (32 - bitLen w) = S at *
  have hS : 0 < S := by rw [← hs]; exact Nat.two_pow_pos _
  have hlt2 : N * S < 2 ^ (32 * (k + 1)) := by
    rw [pow_succ32, hB, show 2 ^ (32 * k) * (2 ^ bitLen w * S) = 2 ^ bitLen w * 2 ^ (32 * k) * S by ac_rfl]
    refine Nat.mul_lt_mul_of_pos_right (Nat.lt_of_lt_of_le hN1 (Nat.mul_le_mul_right _ ?_)) hS
    omega
  refine ⟨by omega, hb0, hb32, hlt2, ?_⟩
  unfold wd
  rw [Nat.mod_eq_of_lt (Nat.div_lt_of_lt_mul (by rw [pow_succ32] at hlt2; exact hlt2)), Nat.le_div_iff_mul_le hp, hB2]
  calc 2 ^ (bitLen w - 1) * S * 2 ^ (32 * k) ≤ w * S * 2 ^ (32 * k) := Nat.mul_le_mul_right _ (Nat.mul_le_mul_right _ hb2)
    _ = w * 2 ^ (32 * k) * S := by ac_rfl
    _ ≤ N * S := Nat.mul_le_mul_right _ hN2

/-! ### The rest, digit by digit -/
/-- What is left before the last r digits are taken. -/
def restW (W V r : Nat) : Nat := W % (V * 2 ^ (32 * r))
theorem restW_zero (W V : Nat) : restW W V 0 = W % V := by unfold restW; rw [Nat.mul_zero, Nat.pow_zero, Nat.mul_one]
theorem restW_lt (W r : Nat) {V : Nat} (hV : 0 < V) : restW W V r < V * 2 ^ (32 * r) := Nat.mod_lt _ (Nat.mul_pos hV (Nat.two_pow_pos _))
/-- The digit that is taken. -/
theorem restW_digit (W V r : Nat) : restW W V (r + 1) / 2 ^ (32 * r) / V = wd (W / V) r := by
  unfold restW wd
  rw [pow_succ32, ← Nat.mul_assoc, Nat.div_div_eq_div_mul, Nat.mul_comm (2 ^ (32 * r)) V, Nat.mod_mul_right_div_self, Nat.div_div_eq_div_mul]
theorem restW_succ (W V r : Nat) : restW W V r = restW W V (r + 1) - V * wd (W / V) r * 2 ^ (32 * r) ∧ V * wd (W / V) r * 2 ^ (32 * r) ≤ restW W V (r + 1) := by
  have h1 : restW W V r = restW W V (r + 1) % (V * 2 ^ (32 * r)) := by
    unfold restW
    rw [Nat.mod_mod_of_dvd]
    exact Nat.mul_dvd_mul_left _ (Nat.pow_dvd_pow 2 (by omega))
  have h2 := Nat.div_add_mod (restW W V (r + 1)) (V * 2 ^ (32 * r))
  have h3 : restW W V (r + 1) / (V * 2 ^ (32 * r)) = wd (W / V) r := by
    rw [← restW_digit, Nat.div_div_eq_div_mul, Nat.mul_comm V]
  rw [h3, show V * 2 ^ (32 * r) * wd (W / V) r = V * wd (W / V) r * 2 ^ (32 * r) by ac_rfl] at h2
  omega
/-- The words below, within and above. -/
theorem restW_words (W V r L t : Nat) (hV : 0 < V) (hVL : V < 2 ^ (32 * L)) :
    mixW r (L + 1) (restW W V (r + 1) / 2 ^ (32 * r) - V * wd (W / V) r) (fun t => wd (restW W V (r + 1)) t) t = wd (restW W V r) t := by
  obtain ⟨h1, h2⟩ := restW_succ W V r
  have hlt := restW_lt W (r + 1) hV
  have e : restW W V r / 2 ^ (32 * r) = restW W V (r + 1) / 2 ^ (32 * r) - V * wd (W / V) r := by
    have e2 : restW W V (r + 1) = restW W V r + V * wd (W / V) r * 2 ^ (32 * r) := by omega
    rw [e2, Nat.add_mul_div_right _ _ (Nat.two_pow_pos _), Nat.add_sub_cancel]
  rw [← e]
  unfold mixW
  split
  · rename_i h
    unfold wd
    rw [Nat.div_div_eq_div_mul, ← Nat.pow_add, show 32 * r + 32 * (t - r) = 32 * t by omega]
  · rename_i h
    show wd (restW W V (r + 1)) t = _
    rcases Nat.lt_or_ge t r with h3 | h3
    · have e2 : restW W V (r + 1) = restW W V r + V * wd (W / V) r * 2 ^ (32 * r) := by omega
      rw [e2, wd_lt_add _ _ _ _ h3]
    · have h4 : r + L + 1 ≤ t := by omega
      have hz : ∀ P, P < V * 2 ^ (32 * (r + 1)) → wd P t = 0 := fun P hP => by
        refine wd_eq_zero (Nat.lt_of_lt_of_le hP ?_)
        calc V * 2 ^ (32 * (r + 1)) ≤ 2 ^ (32 * L) * 2 ^ (32 * (r + 1)) := Nat.mul_le_mul_right _ (Nat.le_of_lt hVL)
          _ = 2 ^ (32 * L + 32 * (r + 1)) := (Nat.pow_add _ _ _).symm
          _ ≤ 2 ^ (32 * t) := Nat.pow_le_pow_right (by omega) (by omega)
      rw [hz _ hlt, hz _ (by omega)]
/-- At the beginning nothing is taken yet. -/
theorem rounds_lt {M N S : Nat} (hS : S ≤ 2147483648) (hN : 2 ^ (32 * (nw N - 1)) * 2147483648 ≤ N * S) : M * S < N * S * 2 ^ (32 * (nw M + 1 - nw N)) := by
  have hM := lt_nw M
  have hB : 2 ^ (32 * (nw N - 1)) * 2 ^ (32 * (nw M + 1 - nw N)) ≥ 2 ^ (32 * nw M) := by
    rw [← Nat.pow_add]
    exact Nat.pow_le_pow_right (by omega) (by omega)
  rcases Nat.eq_zero_or_pos S with h0 | h0
  · subst h0
    have : 0 < 2 ^ (32 * (nw N - 1)) * 2147483648 := Nat.mul_pos (Nat.two_pow_pos _) (by omega)
    omega
  · calc M * S < 2 ^ (32 * nw M) * S := Nat.mul_lt_mul_of_pos_right hM h0
      _ ≤ 2 ^ (32 * nw M) * 2147483648 := Nat.mul_le_mul_left _ hS
      _ ≤ 2 ^ (32 * (nw N - 1)) * 2 ^ (32 * (nw M + 1 - nw N)) * 2147483648 := Nat.mul_le_mul_right _ hB
      _ = 2 ^ (32 * (nw N - 1)) * 2147483648 * 2 ^ (32 * (nw M + 1 - nw N)) := by ac_rfl
      _ ≤ N * S * 2 ^ (32 * (nw M + 1 - nw N)) := Nat.mul_le_mul_right _ hN

/-! ### The digit guessed by two words of the divisor -/
/-- The guess: a: the two highest words of what is left, b: the next; y1, y0: the divisor's two highest. -/
def estQ (a b y1 y0 : Nat) : Nat := min 4294967295 ((a * 4294967296 + b) / (y1 * 4294967296 + y0))
theorem estQ_lt (a b y1 y0 : Nat) : estQ a b y1 y0 < 4294967296 := by unfold estQ; omega
/-- Is the guess too great? -/
theorem est_test {a b y1 y0 q r : Nat} (hy : 0 < y1) (hq : q * y1 + r = a) : (4294967296 ≤ q ∨ r * 4294967296 + b < q * y0) ↔ estQ a b y1 y0 < q := by
  have key : q ≤ (a * 4294967296 + b) / (y1 * 4294967296 + y0) ↔ q * y0 ≤ r * 4294967296 + b := by
    rw [Nat.le_div_iff_mul_le (by omega), ← hq, Nat.mul_add, show q * (y1 * 4294967296) = q * y1 * 4294967296 by ac_rfl, Nat.add_mul]
    omega
  unfold estQ
  omega
theorem est_step {y1 q r a : Nat} (h : (q + 1) * y1 + r = a) : q * y1 + (r + y1) = a := by
  rw [Nat.add_mul, Nat.one_mul] at h
  omega
/-- What is left is a word or more: the guess is right. -/
theorem est_break {a b y1 y0 q r : Nat} (hy0 : y0 < 4294967296) (ha : a < y1 * 4294967296 + 4294967296) (hq : q * y1 + r = a) (hr : 4294967296 ≤ r) (he : estQ a b y1 y0 ≤ q) : estQ a b y1 y0 = q := by
  have hy : 0 < y1 := by
    rcases Nat.eq_zero_or_pos y1 with e | e
    · subst e; omega
    · exact e
  have h1 : q < 4294967296 := by
    refine Nat.lt_of_not_le fun h => ?_
    have := Nat.mul_le_mul_right y1 h
    rw [Nat.mul_comm 4294967296 y1] at this
    omega
  have h2 : q * y0 ≤ 4294967295 * 4294967295 := Nat.mul_le_mul (by omega) (by omega)
  have ht := est_test (b := b) (y0 := y0) hy hq
  omega
theorem est_core {R V B H k a b y1 y0 : Nat} (hB : 0 < B) (hkk : y1 * 4294967296 + y0 = k) (hH : a * 4294967296 + b = H) (hVlo : k * B ≤ V) (hVhi : V < (k + 1) * B) (hRH : R / B = H) (hR : R < V * 4294967296) (hb : b < 4294967296) (hy0 : y0 < 4294967296) (hy : 2147483648 ≤ y1) :
    R / V ≤ estQ a b y1 y0 ∧ estQ a b y1 y0 ≤ R / V + 1 ∧ estQ a b y1 y0 ≤ a / y1 ∧ a < y1 * 4294967296 + 4294967296 := by
  have hk0 : 0 < k := by omega
  have hV0 : 0 < V := by
    rcases Nat.eq_zero_or_pos V with e | e
    · subst e; omega
    · exact e
  have hRlo : H * B ≤ R := by rw [← hRH]; exact Nat.div_mul_le_self _ _
  have g1 : R / V ≤ H / k := by
    rw [Nat.le_div_iff_mul_le hk0, ← hRH, Nat.le_div_iff_mul_le hB]
    calc R / V * k * B = R / V * (k * B) := Nat.mul_assoc _ _ _
      _ ≤ R / V * V := Nat.mul_le_mul_left _ hVlo
      _ ≤ R := Nat.div_mul_le_self _ _
  have g2 : R / V < 4294967296 := Nat.div_lt_of_lt_mul hR
  have gq : estQ a b y1 y0 = min 4294967295 (H / k) := by unfold estQ; rw [hkk, hH]
  have g5 := estQ_lt a b y1 y0
  generalize estQ a b y1 y0 = e at *
  have g3 : e ≤ H / k := by omega
  have g0 : R / V ≤ e := by omega
  have g4 : e * k ≤ H := (Nat.le_div_iff_mul_le hk0).1 g3
  have g6 : e ≤ R / V + 1 := by
    rcases Nat.eq_zero_or_pos e with e0 | e0
    · rw [e0]; exact Nat.zero_le _
    · obtain ⟨d, rfl⟩ : ∃ d, e = d + 1 := ⟨e - 1, by omega⟩
      refine Nat.succ_le_succ ((Nat.le_div_iff_mul_le hV0).2 ?_)
      have h3 : d * (k + 1) ≤ H := by
        rw [Nat.mul_add, Nat.mul_one]
        rw [Nat.add_mul, Nat.one_mul] at g4
        omega
      calc d * V ≤ d * ((k + 1) * B) := Nat.mul_le_mul_left _ (Nat.le_of_lt hVhi)
        _ = d * (k + 1) * B := (Nat.mul_assoc _ _ _).symm
        _ ≤ H * B := Nat.mul_le_mul_right _ h3
        _ ≤ R := hRlo
  have g7 : e * y1 ≤ a := by
    have h3 : e * y1 * 4294967296 ≤ H := by
      refine Nat.le_trans ?_ g4
      rw [Nat.mul_assoc]
      exact Nat.mul_le_mul_left _ (by omega)
    omega
  have g8 : a < y1 * 4294967296 + 4294967296 := by
    have h3 : R / B < (k + 1) * 4294967296 := by
      rw [Nat.div_lt_iff_lt_mul hB]
      refine Nat.lt_of_lt_of_le hR ?_
      rw [show (k + 1) * 4294967296 * B = (k + 1) * B * 4294967296 by ac_rfl]
      exact Nat.mul_le_mul_right _ (Nat.le_of_lt hVhi)
    rw [hRH] at h3
    omega
  exact ⟨g0, g6, (Nat.le_div_iff_mul_le (by omega)).2 g7, g8⟩
theorem top_two {x x1 x2 w2 w1 w0 : Nat} (h2 : x / 4294967296 = x1) (h1 : x1 / 4294967296 = x2) (hx : x2 < 4294967296) (e2 : x2 % 4294967296 = w2) (e1 : x1 % 4294967296 = w1) (e0 : x % 4294967296 = w0) : x = (w2 * 4294967296 + w1) * 4294967296 + w0 := by omega
/-- The guess is right or one too great. -/
theorem est_near {R V n a b y1 y0 : Nat} (hV : V < 2 ^ (32 * (n + 2))) (hR : R < V * 4294967296) (ha : wd R (n + 2) * 4294967296 + wd R (n + 1) = a) (hb : wd R n = b) (h1 : wd V (n + 1) = y1) (h0 : wd V n = y0) (hy : 2147483648 ≤ y1) :
    R / V ≤ estQ a b y1 y0 ∧ estQ a b y1 y0 ≤ R / V + 1 ∧ estQ a b y1 y0 ≤ a / y1 ∧ a < y1 * 4294967296 + 4294967296 := by
  have hB : 0 < 2 ^ (32 * n) := Nat.two_pow_pos _
  have hdd : ∀ z i, z / 2 ^ (32 * i) / 4294967296 = z / 2 ^ (32 * (i + 1)) := fun z i => by rw [Nat.div_div_eq_div_mul, ← pow_succ32]
  have hk : V / 2 ^ (32 * n) = y1 * 4294967296 + y0 := by
    have e5 : V / 2 ^ (32 * (n + 1)) < 4294967296 := Nat.div_lt_of_lt_mul (by rw [← pow_succ32]; exact hV)
    have e1 : V / 2 ^ (32 * n) / 4294967296 = y1 := by
      rw [hdd, ← h1]
      exact (Nat.mod_eq_of_lt e5).symm
    have e2 : V / 2 ^ (32 * n) % 4294967296 = y0 := h0
    omega
  have hRB : R < 2 ^ (32 * (n + 2 + 1)) := by
    rw [pow_succ32]
    exact Nat.lt_of_lt_of_le hR (Nat.mul_le_mul_right _ (Nat.le_of_lt hV))
  have hh : R / 2 ^ (32 * n) = a * 4294967296 + b := by
    rw [← ha, ← hb]
    exact top_two (hdd R n) (hdd R (n + 1)) (Nat.div_lt_of_lt_mul (by rw [← pow_succ32]; exact hRB)) rfl rfl rfl
  exact est_core hB rfl rfl (by rw [← hk]; exact Nat.div_mul_le_self _ _) (by rw [← hk, Nat.mul_comm]; exact Nat.lt_mul_div_succ V hB) hh hR (by rw [← hb]; exact wd_lt _ _) (by rw [← h0]; exact wd_lt _ _) hy
end Go.W32
