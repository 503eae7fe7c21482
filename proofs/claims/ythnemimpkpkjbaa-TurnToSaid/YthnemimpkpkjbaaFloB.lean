/-
  Floats that stand for integers, whatever the sign of a zero: sums, products, complex products, comparisons, square roots rounded down.
-/
import Derived.Test.YthnemimpkpkjbaaFlo
import Derived.Laws.ComplexArith
namespace Go.Flo
open Ieee

/-- A word that stands for an integer. -/
def Rep (w : Nat) (n : Int) : Prop := ∃ s, w = wd s n.natAbs ∧ sI s n.natAbs = n
theorem rep_int (n : Int) : Rep (floatOfInt .f64 n) n := ⟨decide (n < 0), rfl, sI_ofInt n⟩
theorem rep_wd (s : Bool) (m : Nat) : Rep (wd s m) (sI s m) := by
  have e : (sI s m).natAbs = m := by unfold sI; cases s <;> simp
  exact ⟨s, by rw [e], by rw [e]⟩
theorem rep_sg (s t : Bool) (z : Int) (h : z = 0 ∨ True) : sI (sgS s t z) z.natAbs = z := by
  unfold sI sgS
  by_cases h0 : z = 0
  · subst h0
    simp
  · rw [if_neg h0]
    by_cases h1 : z < 0
    · rw [decide_eq_true h1, if_pos rfl]; omega
    · rw [decide_eq_false h1, if_neg (by simp)]; omega
theorem rep_add {a b : Nat} {x y : Int} (ha : Rep a x) (hb : Rep b y) (h1 : x.natAbs < 9007199254740992) (h2 : y.natAbs < 9007199254740992) (h3 : (x + y).natAbs < 9007199254740992) : ∃ c, double.add a b = some c ∧ Rep c (x + y) := by
  obtain ⟨s, rfl, e1⟩ := ha
  obtain ⟨t, rfl, e2⟩ := hb
  have := add_wd (s := s) (t := t) h1 h2 (by rw [e1, e2]; exact h3)
  rw [e1, e2] at this
  exact ⟨_, this, _, rfl, rep_sg _ _ _ (.inr trivial)⟩
theorem rep_sub {a b : Nat} {x y : Int} (ha : Rep a x) (hb : Rep b y) (h1 : x.natAbs < 9007199254740992) (h2 : y.natAbs < 9007199254740992) (h3 : (x - y).natAbs < 9007199254740992) : ∃ c, double.sub a b = some c ∧ Rep c (x - y) := by
  obtain ⟨s, rfl, e1⟩ := ha
  obtain ⟨t, rfl, e2⟩ := hb
  have := sub_wd (s := s) (t := t) h1 h2 (by rw [e1, e2]; exact h3)
  rw [e1, e2] at this
  exact ⟨_, this, _, rfl, rep_sg _ _ _ (.inr trivial)⟩
theorem sI_mul (s t : Bool) (m n : Nat) : sI (s ^^ t) (m * n) = sI s m * sI t n := by
  unfold sI
  cases s <;> cases t <;> simp [Int.neg_mul, Int.mul_neg]
theorem rep_mul {a b : Nat} {x y : Int} (ha : Rep a x) (hb : Rep b y) (h1 : x.natAbs < 9007199254740992) (h2 : y.natAbs < 9007199254740992) (h3 : (x * y).natAbs < 9007199254740992) : ∃ c, double.mul a b = some c ∧ Rep c (x * y) := by
  obtain ⟨s, rfl, e1⟩ := ha
  obtain ⟨t, rfl, e2⟩ := hb
  rw [Int.natAbs_mul] at h3
  have := mul_wd (s := s) (t := t) h1 h2 h3
  exact ⟨_, this, s ^^ t, by rw [Int.natAbs_mul], by rw [Int.natAbs_mul, sI_mul, e1, e2]⟩
theorem rep_toInt {a : Nat} {x : Int} (ha : Rep a x) (h : x.natAbs < 9007199254740992) : floatToIntVal .f64 a .i64 = some x := by
  obtain ⟨s, rfl, e⟩ := ha
  unfold floatToIntVal
  have h2 : (FloatKind.f64.decode (wd s x.natAbs)).toInt .zero = some x := by
    have := toInt_wd s h
    rw [e] at this
    exact this
  rw [h2]
  have l1 : IntKind.i64.min = -9223372036854775808 := by decide
  have l2 : IntKind.i64.max = 9223372036854775807 := by decide
  show (if IntKind.i64.min ≤ x ∧ x ≤ IntKind.i64.max then some x else none) = some x
  rw [l1, l2, if_pos (by omega)]
theorem rep_order {a b : Nat} {x y : Int} (ha : Rep a x) (hb : Rep b y) (h1 : x.natAbs < 9007199254740992) (h2 : y.natAbs < 9007199254740992) : double.order a b = some (compare x y) := by
  obtain ⟨s, rfl, e1⟩ := ha
  obtain ⟨t, rfl, e2⟩ := hb
  rw [order_wd h1 h2, e1, e2]
theorem rep_cmul {a b c d : Nat} {x y u v : Int} (ha : Rep a x) (hb : Rep b y) (hc : Rep c u) (hd : Rep d v) (h1 : x.natAbs ≤ 268435456) (h2 : y.natAbs ≤ 268435456) (h3 : u.natAbs ≤ 4194304) (h4 : v.natAbs ≤ 4194304) :
    ∃ p q, cMulBits a b c d = some (p, q) ∧ Rep p (x * u - y * v) ∧ Rep q (x * v + y * u) := by
  have bd : ∀ {s t : Int}, s.natAbs ≤ 268435456 → t.natAbs ≤ 4194304 → (s * t).natAbs ≤ 1125899906842624 := fun hs ht => by
    rw [Int.natAbs_mul]
    exact Nat.mul_le_mul hs ht
  have b1 := bd h1 h3
  have b2 := bd h2 h4
  have b3 := bd h1 h4
  have b4 := bd h2 h3
  obtain ⟨r1, e1, q1⟩ := rep_mul ha hc (by omega) (by omega) (by omega)
  obtain ⟨r2, e2, q2⟩ := rep_mul hb hd (by omega) (by omega) (by omega)
  obtain ⟨r3, e3, q3⟩ := rep_mul ha hd (by omega) (by omega) (by omega)
  obtain ⟨r4, e4, q4⟩ := rep_mul hb hc (by omega) (by omega) (by omega)
  obtain ⟨p, e5, q5⟩ := rep_sub q1 q2 (by omega) (by omega) (by omega)
  obtain ⟨q, e6, q6⟩ := rep_add q3 q4 (by omega) (by omega) (by omega)
  refine ⟨p, q, ?_, q5, q6⟩
  have f1 : floatBits .mul .f64 a c = some r1 := e1
  have f2 : floatBits .mul .f64 b d = some r2 := e2
  have f3 : floatBits .mul .f64 a d = some r3 := e3
  have f4 : floatBits .mul .f64 b c = some r4 := e4
  have f5 : floatBits .sub .f64 r1 r2 = some p := e5
  have f6 : floatBits .add .f64 r3 r4 = some q := e6
  simp only [cMulBits, f1, f2, f3, f4, f5, f6, Option.bind_some]
theorem rep_cadd {a b c d : Nat} {x y u v : Int} (ha : Rep a x) (hb : Rep b y) (hc : Rep c u) (hd : Rep d v) (h1 : x.natAbs ≤ 1125899906842624) (h2 : y.natAbs ≤ 1125899906842624) (h3 : u.natAbs ≤ 1125899906842624) (h4 : v.natAbs ≤ 1125899906842624) :
    ∃ p q, cSumBits .add .f64 a b c d = some (p, q) ∧ Rep p (x + u) ∧ Rep q (y + v) := by
  obtain ⟨p, e5, q5⟩ := rep_add ha hc (by omega) (by omega) (by omega)
  obtain ⟨q, e6, q6⟩ := rep_add hb hd (by omega) (by omega) (by omega)
  have f5 : floatBits .add .f64 a c = some p := e5
  have f6 : floatBits .add .f64 b d = some q := e6
  exact ⟨p, q, by simp only [cSumBits, f5, f6, Option.bind_some], q5, q6⟩
theorem rep_csub {a b c d : Nat} {x y u v : Int} (ha : Rep a x) (hb : Rep b y) (hc : Rep c u) (hd : Rep d v) (h1 : x.natAbs ≤ 1125899906842624) (h2 : y.natAbs ≤ 1125899906842624) (h3 : u.natAbs ≤ 1125899906842624) (h4 : v.natAbs ≤ 1125899906842624) :
    ∃ p q, cSumBits .sub .f64 a b c d = some (p, q) ∧ Rep p (x - u) ∧ Rep q (y - v) := by
  obtain ⟨p, e5, q5⟩ := rep_sub ha hc (by omega) (by omega) (by omega)
  obtain ⟨q, e6, q6⟩ := rep_sub hb hd (by omega) (by omega) (by omega)
  have f5 : floatBits .sub .f64 a c = some p := e5
  have f6 : floatBits .sub .f64 b d = some q := e6
  exact ⟨p, q, by simp only [cSumBits, f5, f6, Option.bind_some], q5, q6⟩

/-! ### Square roots -/
theorem rootFrom_spec : ∀ k n r, r * r ≤ n → n < (r + 2 ^ k) * (r + 2 ^ k) → Datum.rootFrom n k r * Datum.rootFrom n k r ≤ n ∧ n < (Datum.rootFrom n k r + 1) * (Datum.rootFrom n k r + 1)
  | 0, n, r, h1, h2 => ⟨h1, h2⟩
  | k + 1, n, r, h1, h2 => by
    have e : 1 <<< k = 2 ^ k := by rw [Nat.one_shiftLeft]
    unfold Datum.rootFrom
    simp only [e]
    split
    · rename_i h
      exact rootFrom_spec k n _ h (by rw [Nat.add_assoc, ← Nat.two_mul, Nat.mul_comm 2, ← Nat.pow_succ]; exact h2)
    · rename_i h
      exact rootFrom_spec k n _ h1 (by omega)
theorem rootFrom_eq (n : Nat) : Datum.rootFrom n (n.log2 / 2 + 1) 0 * Datum.rootFrom n (n.log2 / 2 + 1) 0 ≤ n ∧ n < (Datum.rootFrom n (n.log2 / 2 + 1) 0 + 1) * (Datum.rootFrom n (n.log2 / 2 + 1) 0 + 1) := by
  have h := Nat.lt_log2_self (n := n)
  have h2 : 2 ^ (n.log2 + 1) ≤ (0 + 2 ^ (n.log2 / 2 + 1)) * (0 + 2 ^ (n.log2 / 2 + 1)) := by
    rw [Nat.zero_add, ← Nat.pow_add]
    exact Nat.pow_le_pow_right (by omega) (by omega)
  exact rootFrom_spec _ n 0 (by omega) (by omega)
theorem lt_of_sq_lt {a b : Nat} (h : a * a < b * b) : a < b := by
  rcases Nat.lt_or_ge a b with h1 | h1
  · exact h1
  · have := Nat.mul_le_mul h1 h1; omega
theorem le_of_sq_le {a b : Nat} (h : a * a ≤ b * b) : a ≤ b := by
  rcases Nat.lt_or_ge b a with h1 | h1
  · have := Nat.mul_lt_mul_of_lt_of_le h1 (Nat.le_of_lt h1) (by omega); omega
  · exact h1
/-- A word with all its digits is read as it is. -/
theorem read_full {l M : Nat} (hl : l ≤ 52) (h1 : 4503599627370496 ≤ M) (h2 : M < 9007199254740992) : double.read (double.word false ((l + 1022) * 4503599627370496 + M)) = .number false M ((l : Int) - 52) := by
  obtain ⟨z, hz⟩ : ∃ z, z = (l + 1022) * 4503599627370496 + M := ⟨_, rfl⟩
  have hr : z < 9223372036854775808 := by omega
  have e1 : double.word false ((l + 1022) * 4503599627370496 + M) = z := by
    rw [← hz]
    unfold Format.word
    rfl
  rw [e1]
  have e2 : z % double.signWeight = z := by rw [c_sign]; omega
  have e3 : (z / double.signWeight % 2 == 1) = false := by
    rw [c_sign, beq_eq_false_iff_ne]; omega
  have d1 : ¬ z < 4503599627370496 := by omega
  have d2 : z < 9218868437227405312 := by omega
  have d3 : 4503599627370496 + z % 4503599627370496 = M := by omega
  have d4 : (-1074 : Int) + ((z / 4503599627370496 - 1 : Nat) : Int) = (l : Int) - 52 := by omega
  unfold Format.read
  simp only [e2, e3, c_binade, c_inf, c_place]
  rw [if_neg d1, if_pos d2, d3, d4]
theorem cut_even_bd (s : Bool) (n b : Nat) (h : b ≤ n.log2 + 2) : n / 2 ^ b ≤ Toward.even.cut s n b ∧ Toward.even.cut s n b ≤ n / 2 ^ b + 1 := by
  unfold Toward.cut
  have e : 1 <<< min b (n.log2 + 2) = 2 ^ b := by rw [Nat.min_eq_left h, Nat.one_shiftLeft]
  simp only [e]
  generalize (decide (2 ^ b < 2 * (n % 2 ^ b)) || 2 ^ b == 2 * (n % 2 ^ b) && n / 2 ^ b % 2 == 1) = c
  cases c
  · exact ⟨Nat.le_refl _, Nat.le_succ _⟩
  · exact ⟨Nat.le_succ _, Nat.le_refl _⟩
theorem cut_down (s : Bool) (n b : Nat) : Toward.zero.cut s n b = n / 2 ^ b := by
  unfold Toward.cut
  simp only [Bool.toNat_false, Nat.add_zero]
  rcases Nat.le_total b (n.log2 + 2) with h | h
  · rw [Nat.min_eq_left h, Nat.one_shiftLeft]
  · rw [Nat.min_eq_right h, Nat.one_shiftLeft]
    have h1 : n < 2 ^ (n.log2 + 2) := Nat.lt_of_lt_of_le Nat.lt_log2_self (Nat.pow_le_pow_right (by omega) (by omega))
    have h2 : n < 2 ^ b := Nat.lt_of_lt_of_le h1 (Nat.pow_le_pow_right (by omega) h)
    rw [Nat.div_eq_of_lt h1, Nat.div_eq_of_lt h2]
/-- What is known of the root's digits: D the weight of 1 in the rounded root, H = 4 D. -/
theorem root_bounds {n r l whole b : Nat} (hr : r * r ≤ n) (hr2 : n < (r + 1) * (r + 1)) (hl : l ≤ 23) (hn : 2 ^ (2 * l) ≤ n) (hn2 : n < 2 ^ (2 * l + 2)) (hw : whole * whole ≤ n * 2 ^ (2 * (54 - l))) (hw2 : n * 2 ^ (2 * (54 - l)) < (whole + 1) * (whole + 1)) (hb : b ≤ 1) :
    36028797018963968 ≤ 2 * whole + b ∧ 2 * whole + b < 72057594037927936 ∧ r * 2 ^ (52 - l) ≤ (2 * whole + b) / 8 ∧ (2 * whole + b) / 8 + 1 < (r + 1) * 2 ^ (52 - l) ∧ (r + 1) * 2 ^ (52 - l) ≤ 9007199254740992 := by
  have eD : 2 ^ (54 - l) = 4 * 2 ^ (52 - l) := by rw [show 54 - l = (52 - l) + 2 by omega, Nat.pow_add]; omega
  have eH : 2 ^ (2 * (54 - l)) = 2 ^ (54 - l) * 2 ^ (54 - l) := by rw [← Nat.pow_add]; congr 1; omega
  have eL : 2 ^ (2 * l) = 2 ^ l * 2 ^ l := by rw [← Nat.pow_add]; congr 1; omega
  have eL2 : 2 ^ (2 * l + 2) = (2 * 2 ^ l) * (2 * 2 ^ l) := by
    have : 2 * 2 ^ l = 2 ^ (l + 1) := by rw [Nat.pow_succ]; omega
    rw [this, ← Nat.pow_add]; congr 1; omega
  have eLD : 2 ^ l * 2 ^ (52 - l) = 4503599627370496 := by
    rw [← Nat.pow_add, show l + (52 - l) = 52 by omega]
  have bH : 2147483648 ≤ 2 ^ (54 - l) := by
    have : 2 ^ 31 ≤ 2 ^ (54 - l) := Nat.pow_le_pow_right (by omega) (by omega)
    exact this
  rw [eL] at hn
  rw [eL2] at hn2
  rw [eH] at hw hw2
  obtain ⟨D, hD⟩ : ∃ D, D = 2 ^ (52 - l) := ⟨_, rfl⟩
  obtain ⟨E, hE⟩ : ∃ E, E = 2 ^ l := ⟨_, rfl⟩
  obtain ⟨H, hH⟩ : ∃ H, H = 2 ^ (54 - l) := ⟨_, rfl⟩
  rw [← hD] at eD eLD ⊢
  rw [← hE] at hn hn2 eLD
  rw [← hH] at hw hw2 bH eD
  have s1 : E < r + 1 := lt_of_sq_lt (Nat.lt_of_le_of_lt hn hr2)
  have s2 : r < 2 * E := lt_of_sq_lt (Nat.lt_of_le_of_lt hr hn2)
  have s3 : r * H < whole + 1 := lt_of_sq_lt (by
    have := Nat.mul_le_mul hr (Nat.le_refl (H * H))
    have e : r * H * (r * H) = r * r * (H * H) := by ac_rfl
    omega)
  have s4 : whole < (r + 1) * H := lt_of_sq_lt (by
    have := Nat.mul_lt_mul_of_pos_right hr2 (show 0 < H * H from Nat.mul_pos (by omega) (by omega))
    have e : (r + 1) * H * ((r + 1) * H) = (r + 1) * (r + 1) * (H * H) := by ac_rfl
    omega)
  have s5 : E * H ≤ r * H := Nat.mul_le_mul_right _ (by omega)
  have s6 : (r + 1) * H ≤ 2 * E * H := Nat.mul_le_mul_right _ (by omega)
  have e4 : E * H = 4 * 4503599627370496 := by rw [eD, ← eLD]; grind
  have e5 : 2 * E * H = 8 * 4503599627370496 := by rw [Nat.mul_assoc, e4]
  have e6 : r * H = 4 * (r * D) := by rw [eD]; grind
  have e7 : (r + 1) * H = 4 * ((r + 1) * D) := by rw [eD]; grind
  refine ⟨by omega, by omega, by omega, ?_, by omega⟩
  rcases Nat.lt_or_ge ((2 * whole + b) / 8 + 1) ((r + 1) * D) with h | h
  · exact h
  · exfalso
    have k1 : (r + 1) * H ≤ whole + 4 := by omega
    have k2 := Nat.mul_le_mul k1 k1
    have k3 := Nat.mul_le_mul (show n + 1 ≤ (r + 1) * (r + 1) from hr2) (Nat.le_refl (H * H))
    have e8 : (r + 1) * H * ((r + 1) * H) = (r + 1) * (r + 1) * (H * H) := by ac_rfl
    have e9 : (n + 1) * (H * H) = n * (H * H) + H * H := by grind
    have e10 : (whole + 4) * (whole + 4) = whole * whole + 8 * whole + 16 := by grind
    have k4 : H * H ≤ 8 * whole + 16 := by omega
    have k5 := Nat.mul_le_mul bH bH
    omega
theorem fsqrt_zero : double.sqrt (wd false 0) = some (wd false 0) := by kernel_rfl
theorem near_full {l Q K : Nat} (hl : l ≤ 23) (c1 : 36028797018963968 ≤ Q) (c2 : Q < 72057594037927936) (hK : K = Toward.even.cut false Q 3) (hK2 : K ≤ 9007199254740992) : double.nearest false Q (-((55 - l : Nat) : Int)) = double.word false ((l + 1022) * 4503599627370496 + K) := by
  have elQ : Q.log2 = 55 := (Nat.log2_eq_iff (by omega)).2 ⟨by exact c1, by exact c2⟩
  have f1 : max (-((55 - l : Nat) : Int) + ((55 : Nat) : Int) - (double.fractionBits : Int)) (-1074) = (l : Int) - 52 := by
    have : (double.fractionBits : Int) = 52 := by decide
    rw [this]
    omega
  have f2 : ((l : Int) - 52 - -1074).toNat = l + 1022 := by omega
  have f3 : (-((55 - l : Nat) : Int) - ((l : Int) - 52)).toNat = 0 := by omega
  have f4 : ((l : Int) - 52 - -((55 - l : Nat) : Int)).toNat = 3 := by omega
  have f5 : min ((l + 1022) * 4503599627370496 + K) 9218868437227405312 = (l + 1022) * 4503599627370496 + K := Nat.min_eq_left (by omega)
  unfold Format.nearest
  rw [if_neg (show ¬ Q = 0 by omega), elQ, c_place, c_inf, c_binade]
  simp only [f1]
  rw [f2, f3, f4, Nat.shiftLeft_zero, ← hK, f5]
theorem root_form {n l wh b : Nat} (h0 : n ≠ 0) (hn : n < 281474976710656) (hl : l = n.log2 / 2) (hwh : wh = Datum.rootFrom (n * 2 ^ (2 * (54 - l))) ((n * 2 ^ (2 * (54 - l))).log2 / 2 + 1) 0) (hb : b = (wh * wh != n * 2 ^ (2 * (54 - l))).toNat) (hL : n.log2 < 48) :
    (double.read (wd false n)).root (double.fractionBits + 2) = some (.number false (2 * wh + b) (-((55 - l : Nat) : Int))) := by
  have hk : kk n = 52 - n.log2 := if_neg h0
  have hm : n * 2 ^ kk n ≠ 0 := Nat.mul_ne_zero h0 (by have := Nat.two_pow_pos (kk n); omega)
  have elog : (n * 2 ^ kk n).log2 = 52 := by rw [log2_mul n _ h0, hk]; omega
  have emore : 2 * (double.fractionBits + 2) - (n * 2 ^ kk n).log2 = 56 := by
    have : double.fractionBits = 52 := rfl
    rw [this, elog]
  have epar : ((-(kk n : Int) - ((56 : Nat) : Int)) % 2).toNat = n.log2 % 2 := by rw [hk]; omega
  have eN : (n * 2 ^ kk n) <<< (56 + n.log2 % 2) = n * 2 ^ (2 * (54 - l)) := by
    rw [Nat.shiftLeft_eq, Nat.mul_assoc, ← Nat.pow_add]
    congr 2
    omega
  have eplace : (-(kk n : Int) - ((56 + n.log2 % 2 : Nat) : Int)) / 2 - 1 = -((55 - l : Nat) : Int) := by omega
  have hd : double.read (wd false n) = .number false (n * 2 ^ kk n) (-(kk n : Int)) := read_wd false (by omega)
  rw [hd]
  unfold Datum.root
  simp only [if_neg hm, emore, epar, eN, ← hwh, ← hb, eplace, Bool.false_eq_true, if_false]
theorem down_eq {K D r : Nat} (hp : 0 < D) (h3 : r * D ≤ K) (h4 : K < (r + 1) * D) : K / D = r := by
  rw [Nat.div_eq_iff hp]
  have : (r + 1) * D = r * D + D := Nat.succ_mul r D
  omega
theorem int_down {l K r : Nat} (hl : l ≤ 23) (h3 : r * 2 ^ (52 - l) ≤ K) (h4 : K < (r + 1) * 2 ^ (52 - l)) : (Datum.number false K ((l : Int) - 52)).toInt .zero = some (r : Int) := by
  have g1 : ((l : Int) - 52).toNat = 0 := by omega
  have g2 : (-((l : Int) - 52)).toNat = 52 - l := by omega
  have g3 : K / 2 ^ (52 - l) = r := down_eq (Nat.two_pow_pos _) h3 h4
  have g4 : signed false r 0 = (r : Int) := by unfold signed; rw [Nat.shiftLeft_zero]; rfl
  unfold Datum.toInt Datum.integral
  simp only [g1, g2, Nat.shiftLeft_zero, cut_down, g3, g4]
theorem full_of {w l K r : Nat} (hw : double.read w = .number false K ((l : Int) - 52)) (hl : l ≤ 23) (h3 : r * 2 ^ (52 - l) ≤ K) (h4 : K < (r + 1) * 2 ^ (52 - l)) (hr : r ≤ 16777216) : floatToIntVal .f64 w .i64 = some (r : Int) := by
  have hint : (FloatKind.f64.decode w).toInt .zero = some (r : Int) := by
    show (double.read w).toInt .zero = some (r : Int)
    rw [hw]
    exact int_down hl h3 h4
  have l1 : IntKind.i64.min = -9223372036854775808 := by decide
  have l2 : IntKind.i64.max = 9223372036854775807 := by decide
  have hc : IntKind.i64.min ≤ (r : Int) ∧ (r : Int) ≤ IntKind.i64.max := by rw [l1, l2]; omega
  unfold floatToIntVal
  rw [hint]
  exact if_pos hc
theorem full_int {l K r : Nat} (hl : l ≤ 23) (h1 : 4503599627370496 ≤ K) (h2 : K < 9007199254740992) (h3 : r * 2 ^ (52 - l) ≤ K) (h4 : K < (r + 1) * 2 ^ (52 - l)) (hr : r ≤ 16777216) : floatToIntVal .f64 (double.word false ((l + 1022) * 4503599627370496 + K)) .i64 = some (r : Int) :=
  full_of (read_full (by omega) h1 h2) hl h3 h4 hr
theorem sqrt_floor {n r : Nat} (hn : n < 281474976710656) (hr : r * r ≤ n) (hr2 : n < (r + 1) * (r + 1)) : ∃ w, double.sqrt (wd false n) = some w ∧ floatToIntVal .f64 w .i64 = some (r : Int) := by
  by_cases h0 : n = 0
  · subst h0
    have : r = 0 := by
      rcases Nat.eq_zero_or_pos r with h | h
      · exact h
      · have := Nat.mul_pos h h; omega
    subst this
    exact ⟨wd false 0, fsqrt_zero, rep_toInt (x := 0) ⟨false, rfl, rfl⟩ (by decide)⟩
  have e48 : (2 : Nat) ^ 48 = 281474976710656 := by decide
  have hL : n.log2 < 48 := (Nat.log2_lt h0).2 (by rw [e48]; exact hn)
  have hlog := (Nat.log2_eq_iff (k := n.log2) h0).1 rfl
  obtain ⟨l, hl⟩ : ∃ l, l = n.log2 / 2 := ⟨_, rfl⟩
  have h1 : 2 ^ (2 * l) ≤ n := Nat.le_trans (Nat.pow_le_pow_right (by omega) (by omega)) hlog.1
  have h2 : n < 2 ^ (2 * l + 2) := Nat.lt_of_lt_of_le hlog.2 (Nat.pow_le_pow_right (by omega) (by omega))
  obtain ⟨wh, hwh⟩ : ∃ wh, wh = Datum.rootFrom (n * 2 ^ (2 * (54 - l))) ((n * 2 ^ (2 * (54 - l))).log2 / 2 + 1) 0 := ⟨_, rfl⟩
  have hroot := rootFrom_eq (n * 2 ^ (2 * (54 - l)))
  rw [← hwh] at hroot
  obtain ⟨b, hb⟩ : ∃ b, b = (wh * wh != n * 2 ^ (2 * (54 - l))).toNat := ⟨_, rfl⟩
  have hb1 : b ≤ 1 := by rw [hb]; exact Bool.toNat_le _
  obtain ⟨c1, c2, c3, c4, c5⟩ := root_bounds hr hr2 (by omega) h1 h2 hroot.1 hroot.2 hb1
  have hroot2 := root_form h0 hn hl hwh hb hL
  clear hroot hwh hb hlog
  obtain ⟨Q, hQ⟩ : ∃ Q, Q = 2 * wh + b := ⟨_, rfl⟩
  rw [← hQ] at c1 c2 c3 c4 hroot2
  obtain ⟨K, hK⟩ : ∃ K, K = Toward.even.cut false Q 3 := ⟨_, rfl⟩
  have elQ : Q.log2 = 55 := (Nat.log2_eq_iff (by omega)).2 ⟨by exact c1, by exact c2⟩
  have hcut := cut_even_bd false Q 3 (by omega)
  have e8 : (2 : Nat) ^ 3 = 8 := by decide
  rw [← hK, e8] at hcut
  obtain ⟨x, hx⟩ : ∃ x, x = r * 2 ^ (52 - l) := ⟨_, rfl⟩
  obtain ⟨y, hy⟩ : ∃ y, y = (r + 1) * 2 ^ (52 - l) := ⟨_, rfl⟩
  have hrb : r ≤ 16777216 := le_of_sq_le (by omega)
  refine ⟨double.word false ((l + 1022) * 4503599627370496 + K), ?_, full_int (by omega) (by omega) (by omega) ?_ ?_ hrb⟩
  · unfold Format.sqrt
    rw [hroot2]
    exact congrArg some (near_full (by omega) c1 c2 hK (by omega))
  · rw [← hx] at c3 ⊢
    omega
  · rw [← hy] at c4 ⊢
    omega
end Go.Flo
