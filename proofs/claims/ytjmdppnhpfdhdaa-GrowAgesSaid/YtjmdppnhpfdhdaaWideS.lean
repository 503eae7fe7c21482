/-
  Numbers that are far from being over: the program's sums, differences and products of them are exact.
-/
import Derived.Test.YtjmdppnhpfdhdaaWideJ
import Derived.Test.YtjmdppnhpfdhdaaWideL
namespace Go.Proofs.Ytjmdppnhpfdhdaa.W
open Go Go.Ev Go.Wide

/-- Below 2^k without its sign. -/
def Sm (k : Nat) (z : Int) : Prop := z.natAbs < 2 ^ k
theorem Sm.mono {j k : Nat} {z : Int} (h : Sm j z) (hj : j ≤ k) : Sm k z := Nat.lt_of_lt_of_le h (Nat.pow_le_pow_right (by omega) hj)
theorem Sm.neg {k : Nat} {z : Int} (h : Sm k z) : Sm k (-z) := by unfold Sm at *; omega
theorem Sm.add {k : Nat} {a b : Int} (ha : Sm k a) (hb : Sm k b) : Sm (k + 1) (a + b) := by
  unfold Sm at *
  rw [Nat.pow_succ]
  omega
theorem Sm.sub {k : Nat} {a b : Int} (ha : Sm k a) (hb : Sm k b) : Sm (k + 1) (a - b) := by
  unfold Sm at *
  rw [Nat.pow_succ]
  omega
theorem Sm.mul {j k : Nat} {a b : Int} (ha : Sm j a) (hb : Sm k b) : Sm (j + k) (a * b) := by
  unfold Sm at *
  rw [Int.natAbs_mul, Nat.pow_add]
  exact Nat.mul_lt_mul'' ha hb
theorem Sm.hi {k : Nat} {z : Int} (h : Sm k z) (hk : k ≤ 1023 := by omega) : z.natAbs < Hi := bitLen_Hi.1 (Nat.le_trans (bitLen_lt_iff.2 h) hk)
theorem Sm.wf {k : Nat} {z : Int} (h : Sm k z) (hk : k ≤ 1023 := by omega) : WF (some z) := fun y e => by cases e; exact h.hi hk
theorem Sm.i64 {z : Int} (h0 : -9223372036854775808 ≤ z) (h1 : z ≤ 9223372036854775807) : Sm 64 z := by
  unfold Sm
  have : (2 : Nat) ^ 64 = 18446744073709551616 := by decide
  omega
/-- A number of the program that is not over. -/
def wz (z : Int) : Value := wv (some z)
theorem wz_eq (z : Int) : wz z = wR false z.natAbs (decide (z < 0)) := rfl
theorem flat_wz (z : Int) : flat (wz z) = true := flat_wv _
theorem of_wz {n : Int} (h0 : -9223372036854775808 ≤ n) (h1 : n ≤ 9223372036854775807) : PC Try.prog 59 [.int .i64 n] (wz n) := of_pc h0 h1
theorem mul_wz {j k : Nat} {a b : Int} (ha : Sm j a) (hb : Sm k b) (hk : j + k ≤ 1023 := by omega) : PC Try.prog 71 [wz a, wz b] (wz (a * b)) := by
  have h := mul_pc (ha.wf (by omega)) (hb.wf (by omega))
  have e : wmul (some a) (some b) = some (a * b) := clamp_eq ((ha.mul hb).hi hk)
  rw [e] at h
  exact h
theorem add_wz {k : Nat} {a b : Int} (ha : Sm k a) (hb : Sm k b) (hk : k < 1023 := by omega) : PC Try.prog 72 [wz a, wz b] (wz (a + b)) := by
  have h := add_pc (ha.wf (by omega)) (hb.wf (by omega))
  have e : wadd (some a) (some b) = some (a + b) := clamp_eq ((ha.add hb).hi (by omega))
  rw [e] at h
  exact h
theorem sub_wz {k : Nat} {a b : Int} (ha : Sm k a) (hb : Sm k b) (hk : k < 1023 := by omega) : PC Try.prog 60 [wz a, wz b] (wz (a - b)) := by
  have h := sub_pc (ha.wf (by omega)) (hb.wf (by omega))
  have e : wsub (some a) (some b) = some (a - b) := by
    show clamp (a + -b) = _
    rw [clamp_eq ((ha.add hb.neg).hi (by omega)), Int.sub_eq_add_neg]
  rw [e] at h
  exact h
theorem sign_wz {k : Nat} {a : Int} (ha : Sm k a) (hk : k ≤ 1023 := by omega) : PC Try.prog 34 [wz a] (.int .i64 (signI (some a))) := sign_pc (ha.wf hk)
theorem signI_nonneg {a : Int} : (signI (some a) ≥ 0) ↔ 0 ≤ a := by
  simp only [signI]
  split
  · omega
  · split <;> omega
end Go.Proofs.Ytjmdppnhpfdhdaa.W
