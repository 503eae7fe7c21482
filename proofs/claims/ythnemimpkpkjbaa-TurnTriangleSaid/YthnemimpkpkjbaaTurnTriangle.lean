/-
  TurnTriangle: distances are symmetric, 0 only of equal points, and keep the triangle's inequality up to 1.
-/
import Derived.Test.YthnemimpkpkjbaaTurn
namespace Go.Proofs.Ythnemimpkpkjbaa.W
open Go Go.Ev Go.Wide Go.Flo

def m22 (x : Int) : Int := x.tmod 4194304
theorem m22_lt (x : Int) : -4194304 < m22 x ∧ m22 x < 4194304 := by
  unfold m22
  have h1 := Int.tmod_lt_of_pos x (show (0 : Int) < 4194304 by omega)
  have h2 := Int.lt_tmod_of_pos x (show (0 : Int) < 4194304 by omega)
  omega
theorem m22_may (x y : Int) : mayP (m22 x) (m22 y) = true := by
  have h1 := m22_lt x
  have h2 := m22_lt y
  exact mayP_iff.2 (by omega)
/-- The square of a distance. -/
def dsq (x y u v : Int) : Nat := ((x - u) * (x - u) + (y - v) * (y - v)).toNat
theorem dsq_eq (x y u v : Int) : (dsq x y u v : Int) = (x - u) * (x - u) + (y - v) * (y - v) := by
  have n1 := mul_self_nonneg' (x - u)
  have n2 := mul_self_nonneg' (y - v)
  unfold dsq
  omega
theorem dist_may {x y u v : Int} (h1 : mayP x y = true) (h2 : mayP u v = true) : distI x y u v = (isq (dsq x y u v) : Nat) := by
  unfold distI dsq
  rw [h1, h2]
  rfl
theorem dsq_symm (x y u v : Int) : dsq u v x y = dsq x y u v := by
  unfold dsq
  congr 1
  grind
theorem sq_zero {a : Int} (h : a * a = 0) : a = 0 := by
  rcases Int.mul_eq_zero.1 h with h | h <;> exact h
theorem dsq_zero (x y u v : Int) : dsq x y u v = 0 ↔ x = u ∧ y = v := by
  have n1 := mul_self_nonneg' (x - u)
  have n2 := mul_self_nonneg' (y - v)
  have e := dsq_eq x y u v
  constructor
  · intro h
    have h1 := sq_zero (a := x - u) (by omega)
    have h2 := sq_zero (a := y - v) (by omega)
    omega
  · rintro ⟨rfl, rfl⟩
    rw [Int.sub_self, Int.sub_self] at e
    omega
theorem isq_pos {n : Nat} : isq n = 0 ↔ n = 0 := by
  have s := isq_spec n
  constructor
  · intro h
    rw [h] at s
    omega
  · intro h
    subst h
    rcases Nat.eq_zero_or_pos (isq 0) with h | h
    · exact h
    · have := Nat.mul_pos h h
      omega
/-- Cauchy and Schwarz, with the roots rounded up. -/
theorem dot_lt {p q u v : Int} {A B : Nat} (hA : p * p + q * q < (A : Int) * A) (hB : u * u + v * v < (B : Int) * B) : p * u + q * v < (A : Int) * B := by
  rcases Int.lt_or_le (p * u + q * v) ((A : Int) * B) with h | h
  · exact h
  · exfalso
    have n0 := mul_self_nonneg' p
    have n1 := mul_self_nonneg' q
    have n2 := mul_self_nonneg' u
    have n3 := mul_self_nonneg' v
    have h0 : 0 ≤ (A : Int) * B := Int.mul_nonneg (by omega) (by omega)
    have h1 := Int.mul_le_mul h h h0 (by omega)
    have h2 : (p * p + q * q) * (u * u + v * v) < (A : Int) * A * ((B : Int) * B) := by
      have a1 : (p * p + q * q) * (u * u + v * v) ≤ (A : Int) * A * (u * u + v * v) := Int.mul_le_mul_of_nonneg_right (by omega) (by omega)
      have a2 : (A : Int) * A * (u * u + v * v) < (A : Int) * A * ((B : Int) * B) := Int.mul_lt_mul_of_pos_left hB (by omega)
      omega
    have h3 := mul_self_nonneg' (p * v - q * u)
    have e : (p * p + q * q) * (u * u + v * v) = (p * u + q * v) * (p * u + q * v) + (p * v - q * u) * (p * v - q * u) := by grind
    have e2 : (A : Int) * B * (A * B) = (A : Int) * A * ((B : Int) * B) := by grind
    omega
theorem triangle (x y u v s t : Int) : isq (dsq x y s t) ≤ isq (dsq x y u v) + isq (dsq u v s t) + 1 := by
  have s1 := (isq_spec (dsq x y u v)).2
  have s2 := (isq_spec (dsq u v s t)).2
  have s3 := (isq_spec (dsq x y s t)).1
  obtain ⟨a, ha⟩ : ∃ a, a = isq (dsq x y u v) := ⟨_, rfl⟩
  obtain ⟨b, hb⟩ : ∃ b, b = isq (dsq u v s t) := ⟨_, rfl⟩
  obtain ⟨c, hc⟩ : ∃ c, c = isq (dsq x y s t) := ⟨_, rfl⟩
  rw [← ha] at s1
  rw [← hb] at s2
  rw [← hc] at s3
  rw [← ha, ← hb, ← hc]
  have e1 := dsq_eq x y u v
  have e2 := dsq_eq u v s t
  have e3 := dsq_eq x y s t
  have t1 : (x - u) * (x - u) + (y - v) * (y - v) < ((a + 1 : Nat) : Int) * ((a + 1 : Nat) : Int) := by rw [← e1, ← Int.natCast_mul]; exact Int.ofNat_lt.2 s1
  have t2 : (u - s) * (u - s) + (v - t) * (v - t) < ((b + 1 : Nat) : Int) * ((b + 1 : Nat) : Int) := by rw [← e2, ← Int.natCast_mul]; exact Int.ofNat_lt.2 s2
  have t3 := dot_lt t1 t2
  have e4 : (x - s) * (x - s) + (y - t) * (y - t) = (x - u) * (x - u) + (y - v) * (y - v) + ((u - s) * (u - s) + (v - t) * (v - t)) + 2 * ((x - u) * (u - s) + (y - v) * (v - t)) := by grind
  have e5 : ((a + 1 : Nat) : Int) * ((a + 1 : Nat) : Int) + ((b + 1 : Nat) : Int) * ((b + 1 : Nat) : Int) + 2 * (((a + 1 : Nat) : Int) * ((b + 1 : Nat) : Int)) = ((a + b + 2 : Nat) : Int) * ((a + b + 2 : Nat) : Int) := by
    rw [show ((a + b + 2 : Nat) : Int) = ((a + 1 : Nat) : Int) + ((b + 1 : Nat) : Int) by omega]
    grind
  have t4 : ((c * c : Nat) : Int) < (((a + b + 2) * (a + b + 2) : Nat) : Int) := by
    rw [Int.natCast_mul (a + b + 2), ← e5]
    have : ((c * c : Nat) : Int) ≤ (dsq x y s t : Int) := Int.ofNat_le.2 s3
    omega
  have := lt_of_sq_lt (Int.ofNat_lt.1 t4)
  omega
theorem zero_bool {a : Nat} {x y u v : Int} (h : a = 0 ↔ x = u ∧ y = v) : (decide ((a : Int) = 0)) = (decide (x = u) && (decide (y = v) && true)) := by
  rw [Bool.eq_iff_iff]
  simp only [decide_eq_true_eq, Bool.and_eq_true, Bool.and_true]
  omega
theorem isq_le24 {n : Nat} (h : n < 281474976710656) : isq n < 16777216 := by
  have := (isq_spec n).1
  exact lt_of_sq_lt (by omega)
theorem dsq_lt {x y u v : Int} (h1 : mayP x y = true) (h2 : mayP u v = true) : dsq x y u v < 281474976710656 := by
  have m1 := mayP_iff.1 h1
  have m2 := mayP_iff.1 h2
  have b1 := mulA_bd (a := x - u) (b := x - u) (m := 8388608) (n := 8388608) (by omega) (by omega) (Nat.le_refl _)
  have b2 := mulA_bd (a := y - v) (b := y - v) (m := 8388608) (n := 8388608) (by omega) (by omega) (Nat.le_refl _)
  have e := dsq_eq x y u v
  omega
theorem turnTriangle_pc (x y u v s t : Int) : PC Try.prog 7 [pt x y, pt u v, pt s t] (.bool true) := by
  have hfl : [pt x y, pt u v, pt s t].all flat = true := by simp [flat_pt]
  have p1 := m22_may x y
  have p2 := m22_may u v
  have p3 := m22_may s t
  have d1 := dist_may p1 p2
  have d2 := dist_may p2 p3
  have d3 := dist_may p1 p3
  have d4 := dist_may p2 p1
  rw [dsq_symm] at d4
  have l1 := isq_le24 (dsq_lt p1 p2)
  have l2 := isq_le24 (dsq_lt p2 p3)
  have tr := triangle (m22 x) (m22 y) (m22 u) (m22 v) (m22 s) (m22 t)
  have z := isq_pos.trans (dsq_zero (m22 x) (m22 y) (m22 u) (m22 v))
  obtain ⟨a, ha⟩ : ∃ a, a = isq (dsq (m22 x) (m22 y) (m22 u) (m22 v)) := ⟨_, rfl⟩
  obtain ⟨b, hb⟩ : ∃ b, b = isq (dsq (m22 u) (m22 v) (m22 s) (m22 t)) := ⟨_, rfl⟩
  obtain ⟨c, hc⟩ : ∃ c, c = isq (dsq (m22 x) (m22 y) (m22 s) (m22 t)) := ⟨_, rfl⟩
  rw [← ha] at d1 d4 l1 tr z
  rw [← hb] at d2 l2 tr
  rw [← hc] at d3 tr
  have w1 : IntKind.i64.wrap ((a : Int) + b) = (a : Int) + b := wrap_id (by omega)
  have w2 : IntKind.i64.wrap ((a : Int) + b + 1) = (a : Int) + b + 1 := wrap_id (by omega)
  exact PC.run mixed Try.func7 [.res (.int .i64 a), .res (.int .i64 b), .res (.int .i64 c), .at 7 (.int .i64 ((a : Int) + b)), .at 0 (.int .i64 ((a : Int) + b + 1)), .tst true, .res (.int .i64 a), .tst true, .tst true, .res (.bool true)] hfl
    (ts5 (tT w1) (tT w2) (tT (p := (c : Int) ≤ (a : Int) + b + 1) (by omega)) (tT (p := (a : Int) = a) rfl) (tT (zero_bool z)))
    (qs5 (dist_qc _ _ _ _ d1) (dist_qc _ _ _ _ d2) (dist_qc _ _ _ _ d3) (dist_qc _ _ _ _ d4) awakeT) rfl rfl (by kernel_rfl)
theorem enters_turnTriangle : ∀ us w, (callFunc 7 us).run Try.prog w = .ok (.enter 7 us) w := enters Try.func7 rfl (by kernel_rfl)
end Go.Proofs.Ythnemimpkpkjbaa.W
