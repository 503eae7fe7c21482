/-
  Package strip: the geometry of a ring: what is so far from a point of one ellipse lies between the strip's bounds.
-/
import Derived.Test.YtaibhjphgdjcmaaGreatGrow
namespace Go.Proofs.YtaibhjphgdjcmaaGreat.W
open Go Go.Ev Go.Wide

theorem dot_le {a1 a2 b1 b2 x y : Int} (hx : 0 ≤ x) (hy : 0 ≤ y) (ha : a1 * a1 + a2 * a2 ≤ x * x) (hb : b1 * b1 + b2 * b2 ≤ y * y) : -(x * y) ≤ a1 * b1 + a2 * b2 ∧ a1 * b1 + a2 * b2 ≤ x * y := by
  have hn := Int.mul_nonneg hx hy
  refine sq_abs hn ?_
  have e : (a1 * b1 + a2 * b2) * (a1 * b1 + a2 * b2) + (a1 * b2 - a2 * b1) * (a1 * b2 - a2 * b1) = (a1 * a1 + a2 * a2) * (b1 * b1 + b2 * b2) := by grind
  have n := sq_nn (a1 * b2 - a2 * b1)
  have p1 : 0 ≤ b1 * b1 + b2 * b2 := by have := sq_nn b1; have := sq_nn b2; omega
  have m1 : (a1 * a1 + a2 * a2) * (b1 * b1 + b2 * b2) ≤ x * x * (b1 * b1 + b2 * b2) := Int.mul_le_mul_of_nonneg_right ha p1
  have m2 : x * x * (b1 * b1 + b2 * b2) ≤ x * x * (y * y) := Int.mul_le_mul_of_nonneg_left hb (sq_nn x)
  have e2 : x * y * (x * y) = x * x * (y * y) := by grind
  omega
theorem tri_up {a1 a2 b1 b2 x y : Int} (hx : 0 ≤ x) (hy : 0 ≤ y) (ha : a1 * a1 + a2 * a2 ≤ x * x) (hb : b1 * b1 + b2 * b2 ≤ y * y) : (a1 + b1) * (a1 + b1) + (a2 + b2) * (a2 + b2) ≤ (x + y) * (x + y) := by
  have h := (dot_le hx hy ha hb).2
  have e : (a1 + b1) * (a1 + b1) + (a2 + b2) * (a2 + b2) = (a1 * a1 + a2 * a2) + (b1 * b1 + b2 * b2) + 2 * (a1 * b1 + a2 * b2) := by grind
  have e2 : (x + y) * (x + y) = x * x + y * y + 2 * (x * y) := by grind
  omega
theorem tri_down {a1 a2 b1 b2 x y : Int} (hy : 0 ≤ y) (hxy : y ≤ x) (ha : x * x ≤ a1 * a1 + a2 * a2) (hb : b1 * b1 + b2 * b2 ≤ y * y) : (x - y) * (x - y) ≤ (a1 + b1) * (a1 + b1) + (a2 + b2) * (a2 + b2) := by
  rcases Int.lt_or_le ((a1 + b1) * (a1 + b1) + (a2 + b2) * (a2 + b2)) ((x - y) * (x - y)) with h | h
  · exfalso
    have k := (dot_le (a1 := a1 + b1) (a2 := a2 + b2) (b1 := b1) (b2 := b2) (x := x - y) (y := y) (by omega) hy (by omega) hb).1
    have e : a1 * a1 + a2 * a2 = ((a1 + b1) * (a1 + b1) + (a2 + b2) * (a2 + b2)) + (b1 * b1 + b2 * b2) - 2 * ((a1 + b1) * b1 + (a2 + b2) * b2) := by grind
    have e2 : x * x = (x - y) * (x - y) + y * y + 2 * ((x - y) * y) := by grind
    omega
  · exact h
theorem csq_of {z n : Int} (h : z * z ≤ n) : z ≤ (csq n.natAbs : Nat) := by
  have hn : 0 ≤ n := Int.le_trans (sq_nn z) h
  have h1 := csq_sq n.natAbs
  have h2 : ((csq n.natAbs * csq n.natAbs : Nat) : Int) = (csq n.natAbs : Int) * (csq n.natAbs : Int) := Int.natCast_mul _ _
  exact (sq_abs (x := z) (n := (csq n.natAbs : Nat)) (by omega) (by omega)).2
theorem isq_of {z n : Int} (h0 : 0 ≤ n) (hz : 0 ≤ z) (h : n ≤ z * z) : ((isq n.natAbs : Nat) : Int) ≤ z := by
  have h1 := (isq_spec n.natAbs).1
  have h2 : ((isq n.natAbs * isq n.natAbs : Nat) : Int) = (isq n.natAbs : Int) * (isq n.natAbs : Int) := Int.natCast_mul _ _
  exact (sq_abs (x := (isq n.natAbs : Nat)) (n := z) hz (by omega)).2
/-- WideDown, with 0 where it refuses. -/
def dnI (z : Int) : Int := if z < 0 then 0 else (isq z.natAbs : Nat)
theorem dnI_of {z n : Int} (hz : 0 ≤ z) (h : n ≤ z * z) : dnI n ≤ z := by
  unfold dnI
  split
  · exact hz
  · exact isq_of (by omega) hz h
def sqH (p q : Int) : Int := p * p + q * q
/-- The strip's bounds. -/
def ringL (h w k m : Int) : Int := if h - w ≤ 0 then h - w else max (h - w) (dnI (h * (m * m) - k * k))
def ringU (h w R : Int) : Int := min (h + w) (csq (h * (R * R)).natAbs : Nat)
/-- A point u from n's centre, v from e's, H between them. -/
theorem ring_at {g k s t w c lo hi r a1 a2 b1 b2 : Int} (h1 : -w ≤ g * s + k * t ∧ g * s + k * t ≤ w) (h2 : -c ≤ -k * s + g * t ∧ -k * s + g * t ≤ c) (ea : a1 + b1 = s + g) (eb : a2 + b2 = t + k)
    (hr : 0 ≤ r) (hhi : 0 ≤ hi) (l1 : lo * lo ≤ a1 * a1 + a2 * a2) (l2 : a1 * a1 + a2 * a2 ≤ hi * hi) (hb : b1 * b1 + b2 * b2 ≤ r * r) :
    ringL (sqH g k) w c (max (lo - r) 0) ≤ g * (s + g) + k * (t + k) ∧ g * (s + g) + k * (t + k) ≤ ringU (sqH g k) w (hi + r) := by
  have e0 : g * (s + g) + k * (t + k) = sqH g k + (g * s + k * t) := by unfold sqH; grind
  have hc0 : 0 ≤ c := by omega
  have n0 : 0 ≤ sqH g k := by unfold sqH; have := sq_nn g; have := sq_nn k; omega
  have u1 := tri_up hhi hr l2 hb
  rw [ea, eb] at u1
  have e1 : (g * (s + g) + k * (t + k)) * (g * (s + g) + k * (t + k)) + (-k * s + g * t) * (-k * s + g * t) = sqH g k * ((s + g) * (s + g) + (t + k) * (t + k)) := by unfold sqH; grind
  have d0 : 0 ≤ (s + g) * (s + g) + (t + k) * (t + k) := by have := sq_nn (s + g); have := sq_nn (t + k); omega
  have m0 : max (lo - r) 0 * max (lo - r) 0 ≤ (s + g) * (s + g) + (t + k) * (t + k) := by
    rcases Int.lt_or_le lo r with h | h
    · rw [show max (lo - r) 0 = 0 by omega]; omega
    · rw [show max (lo - r) 0 = lo - r by omega]
      have := tri_down (a1 := a1) (a2 := a2) (b1 := b1) (b2 := b2) hr h l1 hb
      rw [ea, eb] at this
      exact this
  have c2 : (-k * s + g * t) * (-k * s + g * t) ≤ c * c := sq_le (n := c) h2
  have c0 := sq_nn (-k * s + g * t)
  have p1 : sqH g k * ((s + g) * (s + g) + (t + k) * (t + k)) ≤ sqH g k * ((hi + r) * (hi + r)) := Int.mul_le_mul_of_nonneg_left u1 n0
  have p2 : sqH g k * (max (lo - r) 0 * max (lo - r) 0) ≤ sqH g k * ((s + g) * (s + g) + (t + k) * (t + k)) := Int.mul_le_mul_of_nonneg_left m0 n0
  have hU := csq_of (z := g * (s + g) + k * (t + k)) (n := sqH g k * ((hi + r) * (hi + r))) (by omega)
  refine ⟨?_, ?_⟩
  · unfold ringL
    split
    · omega
    · have hD := dnI_of (z := g * (s + g) + k * (t + k)) (n := sqH g k * (max (lo - r) 0 * max (lo - r) 0) - c * c) (by omega) (by omega)
      generalize dnI (sqH g k * (max (lo - r) 0 * max (lo - r) 0) - c * c) = D at *
      omega
  · unfold ringU
    generalize ((csq (sqH g k * ((hi + r) * (hi + r))).natAbs : Nat) : Int) = U at *
    omega
theorem near_radius {x y a b d p q : Int} (h : inE x y a b d p q = true) : (p - x) * (p - x) + (q - y) * (q - y) ≤ radI x y a b d * radI x y a b d ∧ 0 ≤ radI x y a b d := by
  obtain ⟨hm, _, hh, _, _⟩ := inE_near h
  have h1 := holds_sq hh
  have g := mayL_iff.1 hm
  obtain ⟨u0, u1, u2⟩ := upI_bounds (m := a + d) (K := 16777216) (by omega) (by omega) (by omega)
  have e : radI x y a b d = upI (a + d) := by unfold radI trI; rw [hm]
  rw [e]
  omega
end Go.Proofs.YtaibhjphgdjcmaaGreat.W
