/-
  Floats that stand for integers: sums, products, comparisons and conversions of integers below 2^53 are exact, whatever the sign of a zero.
-/
import GoSem.Core.Float
namespace Go.Flo
open Ieee

/-- An integer by a sign and a size. -/
def sI (s : Bool) (m : Nat) : Int := if s then -(m : Int) else (m : Int)
/-- The word of a whole number. -/
def wd (s : Bool) (m : Nat) : Nat := double.nearest s m 0
theorem log2_mul (m k : Nat) (h : m ≠ 0) : (m * 2 ^ k).log2 = m.log2 + k := by
  have h2 : m * 2 ^ k ≠ 0 := Nat.mul_ne_zero h (by have := Nat.two_pow_pos k; omega)
  rw [Nat.log2_eq_iff h2]
  have h3 := (Nat.log2_eq_iff (k := m.log2) h).1 rfl
  constructor
  · rw [Nat.pow_add]; exact Nat.mul_le_mul_right _ h3.1
  · rw [show m.log2 + k + 1 = m.log2 + 1 + k by omega, Nat.pow_add]; exact Nat.mul_lt_mul_of_pos_right h3.2 (Nat.two_pow_pos k)
theorem cut_zero (way : Toward) (s : Bool) (n : Nat) : way.cut s n 0 = n := by
  unfold Toward.cut
  have e : 1 <<< min 0 (n.log2 + 2) = 1 := by rw [Nat.zero_min]; rfl
  simp only [e, Nat.div_one, Nat.mod_one]
  cases way <;> simp
theorem cut_exact (way : Toward) (s : Bool) (n b : Nat) (h : n ≠ 0) : way.cut s (n * 2 ^ b) b = n := by
  unfold Toward.cut
  have e : 1 <<< min b ((n * 2 ^ b).log2 + 2) = 2 ^ b := by
    rw [log2_mul n b h, Nat.min_eq_left (by omega), Nat.one_shiftLeft]
  have hp := Nat.two_pow_pos b
  simp only [e, Nat.mul_div_cancel _ hp, Nat.mul_mod_left]
  cases way <;> simp <;> omega
theorem cut_nought (way : Toward) (s : Bool) (b : Nat) : way.cut s 0 b = 0 := by
  unfold Toward.cut
  have hp : 0 < 1 <<< min b (Nat.log2 0 + 2) := by rw [Nat.one_shiftLeft]; exact Nat.two_pow_pos _
  simp only [Nat.zero_div, Nat.zero_mod]
  cases way <;> simp <;> omega
theorem c_place : double.leastPlace = -1074 := by decide
theorem c_binade : double.binade = 4503599627370496 := by decide
theorem c_inf : double.infRung = 9218868437227405312 := by decide
theorem c_sign : double.signWeight = 9223372036854775808 := by decide
/-- How far a whole number is moved to fill a word's digits. -/
def kk (m : Nat) : Nat := if m = 0 then 1074 else 52 - m.log2
theorem log2_le {m : Nat} (h : m < 9007199254740992) : m.log2 ≤ 52 := by
  by_cases h0 : m = 0
  · subst h0; decide
  · have e : (2 : Nat) ^ 53 = 9007199254740992 := by decide
    have := (Nat.log2_lt (n := m) (k := 53) h0).2 (by rw [e]; exact h)
    omega
theorem fill_bd {m : Nat} (h0 : m ≠ 0) (h : m < 9007199254740992) : 4503599627370496 ≤ m * 2 ^ (52 - m.log2) ∧ m * 2 ^ (52 - m.log2) < 9007199254740992 := by
  have hl := log2_le h
  have h3 := (Nat.log2_eq_iff (k := m.log2) h0).1 rfl
  have e1 : (4503599627370496 : Nat) = 2 ^ m.log2 * 2 ^ (52 - m.log2) := by rw [← Nat.pow_add, show m.log2 + (52 - m.log2) = 52 by omega]
  have e2 : (9007199254740992 : Nat) = 2 ^ (m.log2 + 1) * 2 ^ (52 - m.log2) := by rw [← Nat.pow_add, show m.log2 + 1 + (52 - m.log2) = 53 by omega]
  constructor
  · rw [e1]; exact Nat.mul_le_mul_right _ h3.1
  · rw [e2]; exact Nat.mul_lt_mul_of_pos_right h3.2 (Nat.two_pow_pos _)
/-- A whole number, moved to the left and as far back, is rounded to itself. -/
theorem nearest_shift (s : Bool) {m : Nat} (k : Nat) (h0 : m ≠ 0) (h : m < 9007199254740992) : double.nearest s (m * 2 ^ k) (-(k : Int)) = double.word s ((m.log2 + 1022) * 4503599627370496 + m * 2 ^ (52 - m.log2)) := by
  have hl := log2_le h
  have hb := fill_bd h0 h
  have hne : m * 2 ^ k ≠ 0 := Nat.mul_ne_zero h0 (by have := Nat.two_pow_pos k; omega)
  unfold Format.nearest
  rw [if_neg hne, log2_mul m k h0, c_place, c_inf, c_binade]
  have e1 : max (-(k : Int) + ((m.log2 + k : Nat) : Int) - (double.fractionBits : Int)) (-1074) = (m.log2 : Int) - 52 := by
    have : (double.fractionBits : Int) = 52 := by decide
    rw [this]
    omega
  simp only [e1]
  have e2 : ((m.log2 : Int) - 52 - -1074).toNat = m.log2 + 1022 := by omega
  have ek : Toward.even.cut s ((m * 2 ^ k) <<< (-(k : Int) - ((m.log2 : Int) - 52)).toNat) ((m.log2 : Int) - 52 - -(k : Int)).toNat = m * 2 ^ (52 - m.log2) := by
    by_cases hk : k ≤ 52 - m.log2
    · rw [show (-(k : Int) - ((m.log2 : Int) - 52)).toNat = 52 - m.log2 - k by omega, show ((m.log2 : Int) - 52 - -(k : Int)).toNat = 0 by omega, cut_zero, Nat.shiftLeft_eq, Nat.mul_assoc, ← Nat.pow_add, show k + (52 - m.log2 - k) = 52 - m.log2 by omega]
    · rw [show (-(k : Int) - ((m.log2 : Int) - 52)).toNat = 0 by omega, show ((m.log2 : Int) - 52 - -(k : Int)).toNat = k - (52 - m.log2) by omega, Nat.shiftLeft_zero]
      have : m * 2 ^ k = m * 2 ^ (52 - m.log2) * 2 ^ (k - (52 - m.log2)) := by rw [Nat.mul_assoc, ← Nat.pow_add, show 52 - m.log2 + (k - (52 - m.log2)) = k by omega]
      rw [this, cut_exact]
      omega
  rw [e2, ek, Nat.min_eq_left (by omega)]
theorem nearest_any (s : Bool) {m : Nat} (k : Nat) (h : m < 9007199254740992) : double.nearest s (m * 2 ^ k) (-(k : Int)) = wd s m := by
  unfold wd
  by_cases h0 : m = 0
  · subst h0
    unfold Format.nearest
    rw [if_pos (Nat.zero_mul _), if_pos rfl]
  · rw [nearest_shift s k h0 h]
    have := nearest_shift s 0 h0 h
    rw [Nat.pow_zero, Nat.mul_one] at this
    exact this.symm
theorem read_wd (s : Bool) {m : Nat} (h : m < 9007199254740992) : double.read (wd s m) = .number s (m * 2 ^ kk m) (-(kk m : Int)) := by
  by_cases h0 : m = 0
  · subst h0
    have e0 : (0 : Nat) * 2 ^ kk 0 = 0 := Nat.zero_mul _
    have e1 : kk 0 = 1074 := rfl
    have e2 : wd s 0 = double.word s 0 := rfl
    rw [e0, e1, e2]
    cases s <;> rfl
  · have e := nearest_shift s 0 h0 h
    rw [Nat.pow_zero, Nat.mul_one] at e
    have e' : wd s m = double.word s ((m.log2 + 1022) * 4503599627370496 + m * 2 ^ (52 - m.log2)) := e
    have hl := log2_le h
    have hb := fill_bd h0 h
    have ek : kk m = 52 - m.log2 := if_neg h0
    rw [e', ek]
    generalize m * 2 ^ (52 - m.log2) = M at *
    have hr : (m.log2 + 1022) * 4503599627370496 + M < 9223372036854775808 := by omega
    have e1 : double.word s ((m.log2 + 1022) * 4503599627370496 + M) % double.signWeight = (m.log2 + 1022) * 4503599627370496 + M := by
      unfold Format.word
      rw [c_sign]
      cases s
      · simp only [Bool.false_eq_true, if_false]; omega
      · simp only [if_true]; omega
    have e2 : (double.word s ((m.log2 + 1022) * 4503599627370496 + M) / double.signWeight % 2 == 1) = s := by
      unfold Format.word
      rw [c_sign]
      cases s
      · simp only [Bool.false_eq_true, if_false, beq_eq_false_iff_ne]; omega
      · simp only [if_true, beq_iff_eq]; omega
    unfold Format.read
    simp only [e1, e2, c_binade, c_inf, c_place]
    rw [if_neg (by omega), if_pos (by omega)]
    congr 1 <;> omega
theorem signed_eq (s : Bool) (m a K : Nat) (h : a ≤ K) : signed s (m * 2 ^ a) ((-(a : Int)) - -(K : Int)).toNat = sI s m * 2 ^ K := by
  have e : ((-(a : Int)) - -(K : Int)).toNat = K - a := by omega
  have e2 : (m * 2 ^ a) <<< (K - a) = m * 2 ^ K := by rw [Nat.shiftLeft_eq, Nat.mul_assoc, ← Nat.pow_add, show a + (K - a) = K by omega]
  unfold signed sI
  rw [e, e2]
  have e3 : ((m * 2 ^ K : Nat) : Int) = (m : Int) * 2 ^ K := by rw [Int.natCast_mul, Int.natCast_pow]; rfl
  cases s
  · simp only [Bool.false_eq_true, if_false, e3]
  · simp only [if_true, e3, Int.neg_mul]
theorem base_eq (a b : Nat) : min (-(a : Int)) (-(b : Int)) = -((max a b : Nat) : Int) := by omega
theorem pow_pos' (K : Nat) : (0 : Int) < 2 ^ K := by
  have := Nat.two_pow_pos K
  have e : ((2 ^ K : Nat) : Int) = (2 : Int) ^ K := by rw [Int.natCast_pow]; rfl
  omega
/-- The sign of a sum. -/
def sgS (s t : Bool) (x : Int) : Bool := if x = 0 then s && t else decide (x < 0)
theorem sum_eq {s t : Bool} {m n a b : Nat} : (Datum.number s (m * 2 ^ a) (-(a : Int))).sum (.number t (n * 2 ^ b) (-(b : Int))) = some (.number (sgS s t (sI s m + sI t n)) ((sI s m + sI t n).natAbs * 2 ^ max a b) (-((max a b : Nat) : Int))) := by
  unfold Datum.sum
  simp only [base_eq]
  have h1 := signed_eq s m a (max a b) (Nat.le_max_left _ _)
  have h2 := signed_eq t n b (max a b) (Nat.le_max_right _ _)
  simp only [h1, h2]
  rw [← Int.add_mul]
  have hp := pow_pos' (max a b)
  have hz : (sI s m + sI t n) * 2 ^ max a b = 0 ↔ sI s m + sI t n = 0 := by
    constructor
    · intro h
      rcases Int.mul_eq_zero.1 h with h | h
      · exact h
      · omega
    · intro h; rw [h, Int.zero_mul]
  have hn : (sI s m + sI t n) * 2 ^ max a b < 0 ↔ sI s m + sI t n < 0 := by
    constructor
    · intro h
      rcases Int.lt_or_le (sI s m + sI t n) 0 with h1 | h1
      · exact h1
      · have := Int.mul_nonneg h1 (Int.le_of_lt hp)
        omega
    · intro h; exact Int.mul_neg_of_neg_of_pos h hp
  have ea : ((sI s m + sI t n) * 2 ^ max a b).natAbs = (sI s m + sI t n).natAbs * 2 ^ max a b := by
    have e : ((2 ^ max a b : Nat) : Int) = (2 : Int) ^ max a b := by rw [Int.natCast_pow]; rfl
    rw [Int.natAbs_mul, ← e, Int.natAbs_natCast]
  rw [ea]
  unfold sgS
  by_cases h0 : sI s m + sI t n = 0
  · simp only [h0, Int.zero_mul, if_true]
  · have hz' : ¬ (sI s m + sI t n) * 2 ^ max a b = 0 := fun h => h0 (hz.1 h)
    simp only [if_neg hz', if_neg h0, decide_eq_decide.2 hn]
theorem add_wd {s t : Bool} {m n : Nat} (hm : m < 9007199254740992) (hn : n < 9007199254740992) (h : (sI s m + sI t n).natAbs < 9007199254740992) : double.add (wd s m) (wd t n) = some (wd (sgS s t (sI s m + sI t n)) (sI s m + sI t n).natAbs) := by
  unfold Format.add
  rw [read_wd s hm, read_wd t hn, sum_eq]
  exact congrArg some (nearest_any _ _ h)
theorem sI_not (t : Bool) (n : Nat) : sI (!t) n = -sI t n := by
  unfold sI
  cases t <;> simp
theorem sub_wd {s t : Bool} {m n : Nat} (hm : m < 9007199254740992) (hn : n < 9007199254740992) (h : (sI s m - sI t n).natAbs < 9007199254740992) : double.sub (wd s m) (wd t n) = some (wd (sgS s (!t) (sI s m - sI t n)) (sI s m - sI t n).natAbs) := by
  unfold Format.sub
  rw [read_wd s hm, read_wd t hn]
  show ((Datum.number s (m * 2 ^ kk m) (-(kk m : Int))).sum (.number (!t) (n * 2 ^ kk n) (-(kk n : Int)))).map _ = _
  rw [sum_eq, sI_not, ← Int.sub_eq_add_neg]
  exact congrArg some (nearest_any _ _ h)
theorem mul_wd {s t : Bool} {m n : Nat} (hm : m < 9007199254740992) (hn : n < 9007199254740992) (h : m * n < 9007199254740992) : double.mul (wd s m) (wd t n) = some (wd (s ^^ t) (m * n)) := by
  unfold Format.mul
  rw [read_wd s hm, read_wd t hn]
  show some (double.nearest (s ^^ t) (m * 2 ^ kk m * (n * 2 ^ kk n)) (-(kk m : Int) + -(kk n : Int))) = _
  have e1 : m * 2 ^ kk m * (n * 2 ^ kk n) = m * n * 2 ^ (kk m + kk n) := by rw [Nat.pow_add]; ac_rfl
  have e2 : -(kk m : Int) + -(kk n : Int) = -((kk m + kk n : Nat) : Int) := by omega
  rw [e1, e2, nearest_any _ _ h]
theorem toInt_wd (s : Bool) {m : Nat} (h : m < 9007199254740992) : (double.read (wd s m)).toInt .zero = some (sI s m) := by
  rw [read_wd s h]
  unfold Datum.toInt Datum.integral
  have e1 : (-(kk m : Int)).toNat = 0 := by omega
  have e2 : (-(-(kk m : Int))).toNat = kk m := by omega
  simp only [e1, e2, Nat.shiftLeft_zero]
  have hc : Toward.zero.cut s (m * 2 ^ kk m) (kk m) = m := by
    by_cases h0 : m = 0
    · subst h0; rw [Nat.zero_mul]; exact cut_nought _ _ _
    · exact cut_exact _ _ _ _ h0
  rw [hc]
  unfold signed sI
  rw [Nat.shiftLeft_zero]
theorem compare_of_lt_and_beq' (x y : Int) (h : x < y) : compare x y = .lt := by
  show compareOfLessAndEq x y = _
  unfold compareOfLessAndEq
  rw [if_pos h]
theorem compare_gt' (x y : Int) (h : y < x) : compare x y = .gt := by
  show compareOfLessAndEq x y = _
  unfold compareOfLessAndEq
  rw [if_neg (by omega), if_neg (by omega)]
theorem compare_same (x : Int) : compare x x = .eq := by
  show compareOfLessAndEq x x = _
  unfold compareOfLessAndEq
  rw [if_neg (by omega), if_pos rfl]
theorem order_wd {s t : Bool} {m n : Nat} (hm : m < 9007199254740992) (hn : n < 9007199254740992) : double.order (wd s m) (wd t n) = some (compare (sI s m) (sI t n)) := by
  unfold Format.order
  rw [read_wd s hm, read_wd t hn]
  unfold Datum.order
  simp only [base_eq]
  rw [signed_eq s m (kk m) (max (kk m) (kk n)) (Nat.le_max_left _ _), signed_eq t n (kk n) (max (kk m) (kk n)) (Nat.le_max_right _ _)]
  have hp := pow_pos' (max (kk m) (kk n))
  generalize (2 : Int) ^ max (kk m) (kk n) = c at *
  generalize sI s m = x
  generalize sI t n = y
  congr 1
  rcases Int.lt_trichotomy x y with h | h | h
  · rw [compare_of_lt_and_beq' x y h, compare_of_lt_and_beq' (x * c) (y * c) (Int.mul_lt_mul_of_pos_right h hp)]
  · subst h
    rw [compare_same, compare_same]
  · rw [compare_gt' x y h, compare_gt' (x * c) (y * c) (Int.mul_lt_mul_of_pos_right h hp)]
/-- The word of an integer. -/
theorem ofInt_wd (n : Int) : FloatKind.f64.nearest n = wd (decide (n < 0)) n.natAbs := rfl
theorem sI_ofInt (n : Int) : sI (decide (n < 0)) n.natAbs = n := by
  unfold sI
  by_cases h : n < 0
  · rw [decide_eq_true h, if_pos rfl]; omega
  · rw [decide_eq_false h, if_neg (by simp)]; omega
end Go.Flo
