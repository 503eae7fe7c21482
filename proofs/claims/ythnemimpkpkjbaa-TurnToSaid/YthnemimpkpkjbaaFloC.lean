/-
  Floats by what they stand for, in units of the least one: comparisons, what is cut off, what is whole.
-/
import Derived.Test.YthnemimpkpkjbaaFloB
namespace Go.Flo
open Ieee

/-- The unit: how many of the least float make 1. -/
def U : Int := 2 ^ 1074
theorem U_pos : 0 < U := pow_pos' 1074
theorem compare_scale {x y c : Int} (hc : 0 < c) : compare (x * c) (y * c) = compare x y := by
  rcases Int.lt_trichotomy x y with h | h | h
  · rw [compare_of_lt_and_beq' x y h, compare_of_lt_and_beq' (x * c) (y * c) (Int.mul_lt_mul_of_pos_right h hc)]
  · subst h
    rw [compare_same, compare_same]
  · rw [compare_gt' x y h, compare_gt' (x * c) (y * c) (Int.mul_lt_mul_of_pos_right h hc)]
theorem signed_pow (s : Bool) (m k : Nat) : signed s m k = sI s m * 2 ^ k := by
  have e : ((2 ^ k : Nat) : Int) = (2 : Int) ^ k := by rw [Int.natCast_pow]; rfl
  unfold signed sI
  rw [Nat.shiftLeft_eq]
  cases s
  · simp [e]
  · simp [e, Int.neg_mul]
theorem pow_split {i b : Int} (h1 : b ≤ i) (h2 : -1074 ≤ b) : (2 : Int) ^ (i + 1074).toNat = 2 ^ (i - b).toNat * 2 ^ (b + 1074).toNat := by
  rw [← Int.pow_add]
  congr 1
  omega
/-- What a finite float stands for. -/
def val (x : Nat) : Option Int := match double.read x with | .number s m e => some (sI s m * 2 ^ (e + 1074).toNat) | _ => none
theorem read_place {x : Nat} {s : Bool} {m : Nat} {e : Int} (h : double.read x = .number s m e) : -1074 ≤ e := by
  unfold Format.read at h
  simp only [c_place] at h
  split at h
  · cases h; omega
  · split at h
    · cases h; omega
    · split at h
      · cases h
      · cases h
theorem val_some {x : Nat} {v : Int} (h : val x = some v) : ∃ s m e, double.read x = .number s m e ∧ v = sI s m * 2 ^ (e + 1074).toNat := by
  unfold val at h
  split at h
  · rename_i s m e he
    cases h
    exact ⟨s, m, e, he, rfl⟩
  · cases h
theorem order_val {x y : Nat} {a b : Int} (hx : val x = some a) (hy : val y = some b) : double.order x y = some (compare a b) := by
  obtain ⟨s, m, i, h1, rfl⟩ := val_some hx
  obtain ⟨t, n, j, h2, rfl⟩ := val_some hy
  have p1 := read_place h1
  have p2 := read_place h2
  unfold Format.order
  rw [h1, h2]
  unfold Datum.order
  simp only [signed_pow]
  rw [pow_split (i := i) (b := min i j) (by omega) (by omega), pow_split (i := j) (b := min i j) (by omega) (by omega), ← Int.mul_assoc, ← Int.mul_assoc, compare_scale (pow_pos' _)]
theorem val_wd (s : Bool) {m : Nat} (h : m < 9007199254740992) : val (wd s m) = some (sI s m * U) := by
  unfold val
  rw [read_wd s h]
  show some (sI s (m * 2 ^ kk m) * 2 ^ (-(kk m : Int) + 1074).toNat) = some (sI s m * 2 ^ 1074)
  have hk : kk m ≤ 1074 := by unfold kk; split <;> omega
  have e : sI s (m * 2 ^ kk m) = sI s m * 2 ^ kk m := by
    have e : ((2 ^ kk m : Nat) : Int) = (2 : Int) ^ kk m := by rw [Int.natCast_pow]; rfl
    unfold sI
    rw [Int.natCast_mul, e]
    cases s <;> simp [Int.neg_mul]
  rw [e, Int.mul_assoc, ← Int.pow_add]
  congr 3
  omega
theorem val_int {n : Int} (h : n.natAbs < 9007199254740992) : val (floatOfInt .f64 n) = some (n * U) := by
  have := val_wd (decide (n < 0)) h
  rw [sI_ofInt] at this
  exact this
def leB (x y : Nat) : Bool := double.order x y == some .lt || double.order x y == some .eq
def geB (x y : Nat) : Bool := double.order x y == some .gt || double.order x y == some .eq
def eqF (x y : Nat) : Bool := double.order x y == some .eq
theorem cmp_le {a b : Int} : (some (compare a b) == some Ordering.lt || some (compare a b) == some Ordering.eq) = decide (a ≤ b) := by
  rcases Int.lt_trichotomy a b with h | h | h
  · rw [compare_of_lt_and_beq' a b h, decide_eq_true (by omega)]; rfl
  · subst h
    rw [compare_same, decide_eq_true (by omega)]; rfl
  · rw [compare_gt' a b h, decide_eq_false (by omega)]; rfl
theorem cmp_ge {a b : Int} : (some (compare a b) == some Ordering.gt || some (compare a b) == some Ordering.eq) = decide (b ≤ a) := by
  rcases Int.lt_trichotomy a b with h | h | h
  · rw [compare_of_lt_and_beq' a b h, decide_eq_false (by omega)]; rfl
  · subst h
    rw [compare_same, decide_eq_true (by omega)]; rfl
  · rw [compare_gt' a b h, decide_eq_true (by omega)]; rfl
theorem cmp_eq {a b : Int} : (some (compare a b) == some Ordering.eq) = decide (a = b) := by
  rcases Int.lt_trichotomy a b with h | h | h
  · rw [compare_of_lt_and_beq' a b h, decide_eq_false (by omega)]; rfl
  · subst h
    rw [compare_same, decide_eq_true rfl]; rfl
  · rw [compare_gt' a b h, decide_eq_false (by omega)]; rfl
theorem leB_val {x y : Nat} {a b : Int} (hx : val x = some a) (hy : val y = some b) : leB x y = decide (a ≤ b) := by unfold leB; rw [order_val hx hy, cmp_le]
theorem geB_val {x y : Nat} {a b : Int} (hx : val x = some a) (hy : val y = some b) : geB x y = decide (b ≤ a) := by unfold geB; rw [order_val hx hy, cmp_ge]
theorem eqF_val {x y : Nat} {a b : Int} (hx : val x = some a) (hy : val y = some b) : eqF x y = decide (a = b) := by unfold eqF; rw [order_val hx hy, cmp_eq]
/-- The size without the sign. -/
def absW (x : Nat) : Nat := x % 9223372036854775808
theorem read_abs (x : Nat) : double.read (absW x) = (match double.read x with | .number _ m e => .number false m e | .infinity _ => .infinity false | .nan _ t => .nan false t) := by
  have e1 : absW x % double.signWeight = x % double.signWeight := by rw [c_sign]; unfold absW; omega
  have e2 : (absW x / double.signWeight % 2 == 1) = false := by
    rw [c_sign, beq_eq_false_iff_ne]; unfold absW; omega
  unfold Format.read
  simp only [e1, e2]
  split
  · rfl
  · split
    · rfl
    · split <;> rfl
theorem val_none {x : Nat} (h : val x = none) : (∃ s, double.read x = .infinity s) ∨ ∃ s t, double.read x = .nan s t := by
  unfold val at h
  split at h
  · cases h
  · rename_i hn
    cases hr : double.read x with
    | number s m e => exact absurd hr (hn s m e)
    | infinity s => exact .inl ⟨s, rfl⟩
    | nan s t => exact .inr ⟨s, t, rfl⟩
theorem sI_abs (s : Bool) (m : Nat) : (sI s m).natAbs = m := by unfold sI; cases s <;> simp
theorem val_abs {x : Nat} {v : Int} (h : val x = some v) : val (absW x) = some (v.natAbs : Int) := by
  obtain ⟨s, m, e, h1, rfl⟩ := val_some h
  have e2 : ((2 ^ (e + 1074).toNat : Nat) : Int) = (2 : Int) ^ (e + 1074).toNat := by rw [Int.natCast_pow]; rfl
  have e1 : (sI s m * 2 ^ (e + 1074).toNat).natAbs = m * 2 ^ (e + 1074).toNat := by
    rw [Int.natAbs_mul, sI_abs, ← e2, Int.natAbs_natCast]
  unfold val
  rw [read_abs, h1]
  simp only
  rw [e1, Int.natCast_mul, e2]
  rfl
/-- How far a step's coordinates go. -/
def MU : Int := 4194304 * U
theorem MU_pos : 0 < MU := by have := U_pos; unfold MU; omega
/-- A finite float within the range of a step. -/
def finB (x : Nat) : Bool := match val x with | some v => decide (-MU ≤ v) && decide (v ≤ MU) | none => false
/-- A float cut off towards 0; whether it is whole. -/
def nI (x : Nat) : Int := match val x with | some v => v.tdiv U | none => 0
def whB (x : Nat) : Bool := match val x with | some v => decide (v = v.tdiv U * U) | none => false
theorem fin_some {x : Nat} (h : finB x = true) : ∃ v, val x = some v ∧ -MU ≤ v ∧ v ≤ MU := by
  unfold finB at h
  split at h
  · rename_i v hv
    simp only [Bool.and_eq_true, decide_eq_true_eq] at h
    exact ⟨v, hv, h.1, h.2⟩
  · cases h
def wM : Nat := 4706261610602168320
def wN : Nat := 13929633647456944128
theorem wM_eq : wM = wd false 4194304 := by kernel_rfl
theorem wN_eq : wN = wd true 4194304 := by kernel_rfl
theorem val_M : val wM = some MU := by rw [wM_eq, val_wd false (by omega)]; rfl
theorem val_N : val wN = some (-MU) := by
  rw [wN_eq, val_wd true (by omega)]
  show some (-((4194304 : Nat) : Int) * U) = some (-MU)
  unfold MU
  rw [Int.neg_mul]
  rfl
theorem order_inf {x y : Nat} {s : Bool} {b : Int} (hx : double.read x = .infinity s) (hy : val y = some b) : double.order x y = some (if s then .lt else .gt) := by
  obtain ⟨t, n, j, h2, rfl⟩ := val_some hy
  unfold Format.order
  rw [hx, h2]
  rfl
theorem order_nan {x y : Nat} {s : Bool} {t : Nat} (hx : double.read x = .nan s t) : double.order x y = none := by
  unfold Format.order
  rw [hx]
  rfl
theorem leB_abs (x : Nat) : leB (absW x) wM = finB x := by
  cases h : val x with
  | some v =>
    rw [leB_val (val_abs h) val_M]
    unfold finB
    rw [h]
    simp only
    rw [Bool.eq_iff_iff, Bool.and_eq_true, decide_eq_true_eq, decide_eq_true_eq, decide_eq_true_eq]
    omega
  | none =>
    have hf : finB x = false := by unfold finB; rw [h]
    rw [hf]
    rcases val_none h with ⟨s, hr⟩ | ⟨s, t, hr⟩
    · have : double.read (absW x) = .infinity false := by rw [read_abs, hr]
      unfold leB
      rw [order_inf this val_M]
      rfl
    · have : double.read (absW x) = .nan false t := by rw [read_abs, hr]
      unfold leB
      rw [order_nan this]
      rfl
theorem range_fin (x : Nat) : (geB x wN && leB x wM) = finB x := by
  cases h : val x with
  | some v =>
    rw [geB_val h val_N, leB_val h val_M]
    unfold finB
    rw [h]
  | none =>
    have hf : finB x = false := by unfold finB; rw [h]
    rw [hf]
    rcases val_none h with ⟨s, hr⟩ | ⟨s, t, hr⟩
    · unfold geB leB
      rw [order_inf hr val_M, order_inf hr val_N]
      cases s <;> rfl
    · unfold geB leB
      rw [order_nan hr, order_nan hr]
      rfl
/-- What is cut off. -/
theorem int_form {x : Nat} {s : Bool} {m : Nat} {e : Int} (h : double.read x = .number s m e) : sI s ((m * 2 ^ e.toNat) / 2 ^ (-e).toNat) = nI x ∧ (double.read x).integral .zero = .number s ((m * 2 ^ e.toNat) / 2 ^ (-e).toNat) 0 := by
  have hp := read_place h
  constructor
  · have hv : val x = some (sI s m * 2 ^ (e + 1074).toNat) := by unfold val; rw [h]
    unfold nI
    rw [hv]
    simp only
    unfold U
    rcases Int.le_total 0 e with h0 | h0
    · have k1 : (-e).toNat = 0 := by omega
      have k2 : (e + 1074).toNat = e.toNat + 1074 := by omega
      have e2 : ((2 ^ e.toNat : Nat) : Int) = (2 : Int) ^ e.toNat := by rw [Int.natCast_pow]; rfl
      rw [k1, k2, Nat.pow_zero, Nat.div_one, Int.pow_add, ← Int.mul_assoc, Int.mul_tdiv_cancel _ (by have := U_pos; unfold U at this; omega)]
      unfold sI
      rw [Int.natCast_mul, e2]
      cases s <;> simp [Int.neg_mul]
    · have k1 : e.toNat = 0 := by omega
      have k3 : (1074 : Nat) = (-e).toNat + (e + 1074).toNat := by omega
      have e2 : ((2 ^ (-e).toNat : Nat) : Int) = (2 : Int) ^ (-e).toNat := by rw [Int.natCast_pow]; rfl
      have hpow : (2 : Int) ^ 1074 = 2 ^ (-e).toNat * 2 ^ (e + 1074).toNat := by rw [← Int.pow_add, ← k3]
      rw [k1, Nat.pow_zero, Nat.mul_one, hpow, Int.mul_tdiv_mul_of_pos_left _ _ (pow_pos' _), ← e2]
      unfold sI
      cases s
      · rfl
      · simp only [if_true]
        rw [Int.neg_tdiv]
        rfl
  · rw [h]
    unfold Datum.integral
    simp only [cut_down, Nat.shiftLeft_eq]
theorem nI_bd {x : Nat} (h : finB x = true) : (nI x).natAbs ≤ 4194304 := by
  obtain ⟨v, hv, h1, h2⟩ := fin_some h
  unfold nI
  rw [hv]
  simp only
  rw [Int.natAbs_tdiv]
  have hU := U_pos
  apply Nat.div_le_of_le_mul
  unfold MU at h1 h2
  omega
theorem fin_int {x : Nat} (h : finB x = true) : floatToIntVal .f64 x .i64 = some (nI x) := by
  obtain ⟨v, hv, h1, h2⟩ := fin_some h
  obtain ⟨s, m, e, hr, _⟩ := val_some hv
  obtain ⟨f1, f2⟩ := int_form hr
  have hb := nI_bd h
  have hint : (FloatKind.f64.decode x).toInt .zero = some (nI x) := by
    show (double.read x).toInt .zero = some (nI x)
    unfold Datum.toInt
    rw [f2]
    simp only [signed_pow]
    rw [f1, Int.pow_zero, Int.mul_one]
  have l1 : IntKind.i64.min = -9223372036854775808 := by decide
  have l2 : IntKind.i64.max = 9223372036854775807 := by decide
  have hc : IntKind.i64.min ≤ nI x ∧ nI x ≤ IntKind.i64.max := by rw [l1, l2]; omega
  unfold floatToIntVal
  rw [hint]
  exact if_pos hc
/-- A float cut off, as a float. -/
def truW (x : Nat) : Nat := FloatKind.f64.encode ((FloatKind.f64.decode x).integral .zero)
theorem val_tru {x : Nat} (h : finB x = true) : val (truW x) = some (nI x * U) := by
  obtain ⟨v, hv, h1, h2⟩ := fin_some h
  obtain ⟨s, m, e, hr, _⟩ := val_some hv
  obtain ⟨f1, f2⟩ := int_form hr
  have hb := nI_bd h
  have hw : truW x = wd s ((m * 2 ^ e.toNat) / 2 ^ (-e).toNat) := by
    show double.write ((double.read x).integral .zero) = _
    rw [f2]
    rfl
  have hs := sI_abs s ((m * 2 ^ e.toNat) / 2 ^ (-e).toNat)
  rw [f1] at hs
  rw [hw, val_wd s (by omega), f1]
theorem whole_tru {x : Nat} (h : finB x = true) : eqF (truW x) x = whB x := by
  obtain ⟨v, hv, h1, h2⟩ := fin_some h
  rw [eqF_val (val_tru h) hv]
  unfold whB nI
  rw [hv]
  simp only
  rw [Bool.eq_iff_iff, decide_eq_true_eq, decide_eq_true_eq]
  exact eq_comm
theorem whole_int {x : Nat} (h : finB x = true) : eqF x (floatOfInt .f64 (nI x)) = whB x := by
  obtain ⟨v, hv, h1, h2⟩ := fin_some h
  have hb := nI_bd h
  rw [eqF_val hv (val_int (by omega))]
  unfold whB nI
  rw [hv]
theorem whole_back {x : Nat} (h : finB x = true) (hw : whB x = true) : eqF (floatOfInt .f64 (nI x)) x = true := by
  obtain ⟨v, hv, h1, h2⟩ := fin_some h
  have hb := nI_bd h
  rw [eqF_val (val_int (by omega)) hv]
  unfold whB at hw
  unfold nI
  rw [hv] at hw ⊢
  simp only [decide_eq_true_eq] at hw ⊢
  exact hw.symm
/-- The floats of a step's coordinates. -/
theorem fin_of {n : Int} (h : n.natAbs ≤ 4194304) : finB (floatOfInt .f64 n) = true ∧ whB (floatOfInt .f64 n) = true ∧ nI (floatOfInt .f64 n) = n := by
  have hv := val_int (n := n) (by omega)
  have hU := U_pos
  have hd : (n * U).tdiv U = n := Int.mul_tdiv_cancel _ (by omega)
  refine ⟨?_, ?_, ?_⟩
  · unfold finB
    rw [hv]
    simp only [Bool.and_eq_true, decide_eq_true_eq]
    unfold MU
    constructor
    · rw [← Int.neg_mul]
      exact Int.mul_le_mul_of_nonneg_right (by omega) (by omega)
    · exact Int.mul_le_mul_of_nonneg_right (by omega) (by omega)
  · unfold whB
    rw [hv]
    simp only [decide_eq_true_eq]
    rw [hd]
  · unfold nI
    rw [hv]
    exact hd
/-- No NaN. -/
theorem fin_nan {x : Nat} (h : finB x = true) : ∃ s m e, double.read x = .number s m e := by
  obtain ⟨v, hv, _⟩ := fin_some h
  obtain ⟨s, m, e, hr, _⟩ := val_some hv
  exact ⟨s, m, e, hr⟩
theorem andNot_abs {x : Nat} (h : x < 18446744073709551616) : IntKind.u64.wrap ((BitVec.ofInt 64 (x : Int) &&& ~~~(BitVec.ofInt 64 9223372036854775808)).toNat : Nat) = (absW x : Nat) := by
  have e1 : (BitVec.ofInt 64 (x : Int)).toNat = x := by
    rw [BitVec.toNat_ofInt]
    omega
  have e2 : (~~~(BitVec.ofInt 64 9223372036854775808)).toNat = 2 ^ 63 - 1 := by decide +kernel
  have e3 : (2 : Nat) ^ 63 = 9223372036854775808 := by decide
  rw [BitVec.toNat_and, e1, e2, Nat.and_two_pow_sub_one_eq_mod, e3]
  unfold IntKind.wrap absW
  simp only [IntKind.bits, IntKind.signed, Bool.false_and, Bool.false_eq_true, if_false]
  omega
end Go.Flo
