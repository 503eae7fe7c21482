/-
  Ellipses: balls, boxes, hulls: the bounds in numbers.
-/
import Derived.Test.YtjmdppnhpfdhdaaEllM
namespace Go.Proofs.Ytjmdppnhpfdhdaa.W
open Go Go.Ev Go.Wide

/-! ### Balls and boxes -/
theorem r_sq {r : Int} (h : mayR r = true) : 1 ≤ r * r ∧ r * r ≤ 17592186044416 := by
  have g := mayR_iff.1 h
  have b1 : r * r ≤ 4194304 * 4194304 := Int.mul_le_mul g.2 g.2 (by omega) (by omega)
  have b0 : 1 * 1 ≤ r * r := Int.mul_le_mul g.1 g.1 (by omega) (by omega)
  omega
theorem ball_may {x y r : Int} (hp : mayP x y = true) (h : mayR r = true) : mayL x y (r * r) 0 (r * r) = true := by
  have g := r_sq h
  have hp' := within_iff.1 hp
  have := Int.mul_pos (show 0 < r * r by omega) (show 0 < r * r by omega)
  exact mayL_iff.2 ⟨by omega, by omega, by omega, by omega, by unfold detI; omega⟩
theorem ball_holds {r x y : Int} (h : 1 ≤ r * r) : holdsI (r * r) 0 (r * r) x y = decide (x * x + y * y ≤ r * r) := by
  have hx := sq_nn x
  have hy := sq_nn y
  rw [Bool.eq_iff_iff, decide_eq_true_eq, holdsE_eq, psdI_iff]
  have e : (r * r - x * x) * (r * r - y * y) - (0 - x * y) * (0 - x * y) = r * r * (r * r - (x * x + y * y)) := by grind
  rw [e]
  constructor
  · rintro ⟨_, _, h3⟩
    have := nn_of_mul (show 0 < r * r by omega) h3
    omega
  · intro h1
    exact ⟨by omega, by omega, Int.mul_nonneg (by omega) (by omega)⟩
/-- A ball holds its points, and no others. -/
theorem ball_in {e f r p q : Int} (hp : mayP e f = true) (h : mayR r = true) (hw : (-1073741824 ≤ p ∧ p ≤ 1073741824) ∧ (-1073741824 ≤ q ∧ q ≤ 1073741824)) :
    inE e f (r * r) 0 (r * r) p q = decide ((p - e) * (p - e) + (q - f) * (q - f) ≤ r * r) := by
  unfold inE
  rw [ball_may hp h, within_iff.2 hw, ball_holds (r_sq h).1]
  rfl
theorem box_sq {i : Int} (h : mayR i = true) : 1 ≤ 2 * i * i ∧ 2 * i * i ≤ 35184372088832 := by
  have g := r_sq h
  rw [Int.mul_assoc]
  omega
theorem box_may {x y i j : Int} (hp : mayP x y = true) (h : mayR i = true) (h' : mayR j = true) : mayL x y (2 * i * i) 0 (2 * j * j) = true := by
  have g := box_sq h
  have g' := box_sq h'
  have hp' := within_iff.1 hp
  have := Int.mul_pos (show 0 < 2 * i * i by omega) (show 0 < 2 * j * j by omega)
  exact mayL_iff.2 ⟨by omega, by omega, by omega, by omega, by unfold detI; omega⟩
theorem box_holds {i j x y : Int} (h1 : x * x = i * i) (h2 : y * y = j * j) : holdsI (2 * i * i) 0 (2 * j * j) x y = true := by
  have hi := sq_nn i
  have hj := sq_nn j
  rw [holdsE_eq, psdI_iff, h1, h2]
  have e : (0 - x * y) * (0 - x * y) = i * i * (j * j) := by rw [← h1, ← h2]; grind
  have e2 : (2 * i * i - i * i) * (2 * j * j - j * j) = i * i * (j * j) := by grind
  have e3 : 2 * i * i = 2 * (i * i) := Int.mul_assoc _ _ _
  have e4 : 2 * j * j = 2 * (j * j) := Int.mul_assoc _ _ _
  rw [e, e2]
  omega
theorem box_holds0 {i j : Int} : holdsI (2 * i * i) 0 (2 * j * j) 0 0 = true := by
  have hi := sq_nn i
  have hj := sq_nn j
  have e3 : 2 * i * i = 2 * (i * i) := Int.mul_assoc _ _ _
  have e4 : 2 * j * j = 2 * (j * j) := Int.mul_assoc _ _ _
  rw [holdsE_eq, psdI_iff, e3, e4]
  have := Int.mul_nonneg (show 0 ≤ 2 * (i * i) by omega) (show 0 ≤ 2 * (j * j) by omega)
  simp only [Int.mul_zero, Int.sub_zero]
  omega
def wa (e i : Int) : Int := IntKind.i64.wrap (e + i)
def nH (i : Int) : Int := IntKind.i64.wrap (0 - i)
theorem wa_eq {e i : Int} (he : -4194304 ≤ e ∧ e ≤ 4194304) (hi : -4194304 ≤ i ∧ i ≤ 4194304) : wa e i = e + i := i64_wrap (by omega) (by omega)
theorem nH_eq {i : Int} (hi : -4194304 ≤ i ∧ i ≤ 4194304) : nH i = -i := by
  unfold nH
  rw [i64_wrap (by omega) (by omega)]
  omega
theorem box_in {e f i j s t : Int} (hp : mayP e f = true) (h : mayR i = true) (h' : mayR j = true) (hs : s = i ∨ s = nH i) (ht : t = j ∨ t = nH j) : inE e f (2 * i * i) 0 (2 * j * j) (wa e s) (wa f t) = true := by
  have g := mayR_iff.1 h
  have g' := mayR_iff.1 h'
  have hp' := within_iff.1 hp
  rw [nH_eq (by omega)] at hs ht
  rw [wa_eq (by omega) (by omega), wa_eq (by omega) (by omega)]
  refine inE_mk (box_may hp h h') (by omega) (box_holds ?_ ?_)
  · rw [show e + s - e = s by omega]
    rcases hs with rfl | rfl
    · rfl
    · exact Int.neg_mul_neg _ _
  · rw [show f + t - f = t by omega]
    rcases ht with rfl | rfl
    · rfl
    · exact Int.neg_mul_neg _ _
theorem box_in0 {e f i j : Int} (hp : mayP e f = true) (h : mayR i = true) (h' : mayR j = true) : inE e f (2 * i * i) 0 (2 * j * j) (wa e 0) (wa f 0) = true := by
  have hp' := within_iff.1 hp
  rw [wa_eq (by omega) (by omega), wa_eq (by omega) (by omega)]
  refine inE_mk (box_may hp h h') (by omega) ?_
  rw [show e + 0 - e = 0 by omega, show f + 0 - f = 0 by omega]
  exact box_holds0

/-! ### Bounds of an ellipse -/
theorem csq_min {n a : Nat} (h : n ≤ a * a) : csq n ≤ a := by
  have s := isq_spec n
  unfold csq
  split
  · rcases Nat.lt_or_ge (isq n) a with h1 | h1
    · omega
    · have := sq_le_of_le h1
      omega
  · rcases Nat.lt_or_ge a (isq n) with h1 | h1
    · have := sq_lt_of_lt h1
      omega
    · omega
theorem upI_bounds {m K : Int} (h0 : 0 ≤ m) (hK : 0 ≤ K) (h : m ≤ K * K) : 0 ≤ upI m ∧ upI m ≤ K ∧ m ≤ upI m * upI m := by
  unfold upI
  obtain ⟨k, rfl⟩ : ∃ k : Nat, m = k := ⟨m.toNat, by omega⟩
  obtain ⟨l, rfl⟩ : ∃ l : Nat, K = l := ⟨K.toNat, by omega⟩
  rw [Int.toNat_natCast, ← Int.natCast_mul]
  rw [← Int.natCast_mul] at h
  have h1 := csq_min (n := k) (a := l) (by omega)
  have h2 := csq_sq k
  omega
theorem may_psd {x y a b d : Int} (h : mayL x y a b d = true) : psdI a b d = true := by
  have g := mayL_iff.1 h
  exact psdI_iff.2 ⟨by omega, by omega, by have := g.2.2.2.2; unfold detI at this; omega⟩
/-- The square form in a direction, and what it bounds. -/
theorem along_facts {x y a b d g k : Int} (h : mayL x y a b d = true) (hw : within g k 16777216 = true) : 0 ≤ quadI a b d g k ∧ csq (quadI a b d g k).natAbs ≤ 281474976710656 := by
  have h0 := quad_of_psd (may_psd h) g k
  refine ⟨h0, csq_min ?_⟩
  have m := mayL_iff.1 h
  have w := within_iff.1 hw
  have gg : g * g ≤ 16777216 * 16777216 := by
    have := sq_nn g
    rcases Int.le_total 0 g with hg | hg
    · exact Int.mul_le_mul w.1.2 w.1.2 hg (by omega)
    · have := Int.mul_le_mul (show -g ≤ 16777216 by omega) (show -g ≤ 16777216 by omega) (by omega) (by omega)
      rwa [Int.neg_mul_neg] at this
  have kk : k * k ≤ 16777216 * 16777216 := by
    rcases Int.le_total 0 k with hk | hk
    · exact Int.mul_le_mul w.2.2 w.2.2 hk (by omega)
    · have := Int.mul_le_mul (show -k ≤ 16777216 by omega) (show -k ≤ 16777216 by omega) (by omega) (by omega)
      rwa [Int.neg_mul_neg] at this
  have p1 := sq_nn (g - k)
  have p2 := sq_nn (g + k)
  have e1 : (g - k) * (g - k) = g * g + k * k - 2 * (g * k) := by grind
  have e2 : (g + k) * (g + k) = g * g + k * k + 2 * (g * k) := by grind
  have n1 := sq_nn g
  have n2 := sq_nn k
  have ta : a * (g * g) ≤ 70368744177664 * 281474976710656 := Int.mul_le_mul (by omega) (by omega) n1 (by omega)
  have td : d * (k * k) ≤ 70368744177664 * 281474976710656 := Int.mul_le_mul (by omega) (by omega) n2 (by omega)
  have tb : b * (g * k) ≤ 70368744177664 * 281474976710656 := by
    rcases Int.le_total 0 (g * k) with hg | hg
    · exact Int.mul_le_mul (by omega) (by omega) hg (by omega)
    · have := Int.mul_le_mul (show -b ≤ 70368744177664 by omega) (show -(g * k) ≤ 281474976710656 by omega) (by omega) (by omega)
      rwa [Int.neg_mul_neg] at this
  rw [quadI_eq] at *
  have e3 : (281474976710656 * 281474976710656 : Nat) = 79228162514264337593543950336 := by decide
  rw [e3]
  omega
theorem along_holds {a b d g k s t : Int} (h : holdsI a b d s t = true) (h0 : 0 ≤ quadI a b d g k) : -((csq (quadI a b d g k).natAbs : Nat) : Int) ≤ g * s + k * t ∧ g * s + k * t ≤ ((csq (quadI a b d g k).natAbs : Nat) : Int) := by
  have h1 := psd_iff_quad.1 (holdsE_eq ▸ h) g k
  have e : quadI (a - s * s) (b - s * t) (d - t * t) g k = quadI a b d g k - (g * s + k * t) * (g * s + k * t) := by
    simp only [quadI_eq]
    grind
  rw [e] at h1
  have h2 := csq_sq (quadI a b d g k).natAbs
  have h3 : ((csq (quadI a b d g k).natAbs * csq (quadI a b d g k).natAbs : Nat) : Int) = ((csq (quadI a b d g k).natAbs : Nat) : Int) * ((csq (quadI a b d g k).natAbs : Nat) : Int) := Int.natCast_mul _ _
  exact sq_abs (by omega) (by omega)
theorem inE_shift {x y a b d p q u v : Int} (h : inE x y a b d p q = true) (hw : within u v 4194304 = true) (hp : mayP (x + u) (y + v) = true) : inE (x + u) (y + v) a b d (IntKind.i64.wrap (p + u)) (IntKind.i64.wrap (q + v)) = true := by
  obtain ⟨h1, h2, h3, h4, h5⟩ := inE_near h
  have g := mayL_iff.1 h1
  have w := within_iff.1 hw
  have e1 : IntKind.i64.wrap (p + u) = p + u := i64_wrap (by omega) (by omega)
  have e2 : IntKind.i64.wrap (q + v) = q + v := i64_wrap (by omega) (by omega)
  rw [e1, e2]
  refine inE_mk (mayL_move h1 hp) (by omega) ?_
  rwa [show p + u - (x + u) = p - x by omega, show q + v - (y + v) = q - y by omega]
theorem inE_centre {x y a b d : Int} (h : mayL x y a b d = true) : inE x y a b d x y = true := by
  have g := mayL_iff.1 h
  refine inE_mk h (by omega) ?_
  rw [Int.sub_self, Int.sub_self, holdsE_eq]
  simpa using may_psd h
theorem wrapS {z : Int} (h : -4611686018427387904 ≤ z ∧ z ≤ 4611686018427387904) : IntKind.i64.wrap z = z := i64_wrap (by omega) (by omega)
theorem sq_le {z n : Int} (h : -n ≤ z ∧ z ≤ n) : z * z ≤ n * n := by
  rcases Int.le_total 0 z with hz | hz
  · exact Int.mul_le_mul h.2 h.2 hz (by omega)
  · have := Int.mul_le_mul (show -z ≤ n by omega) (show -z ≤ n by omega) (by omega) (by omega)
    rwa [Int.neg_mul_neg] at this
theorem mul_abs {g s n m : Int} (hg : -n ≤ g ∧ g ≤ n) (hs : -m ≤ s ∧ s ≤ m) : -(n * m) ≤ g * s ∧ g * s ≤ n * m := by
  have a1 : g * s ≤ n * m := by
    rcases Int.le_total 0 g with h1 | h1
    · rcases Int.le_total 0 s with h2 | h2
      · exact Int.mul_le_mul hg.2 hs.2 h2 (by omega)
      · have t1 := Int.mul_nonneg h1 (show 0 ≤ -s by omega)
        have t2 := Int.mul_nonneg (show 0 ≤ n by omega) (show 0 ≤ m by omega)
        rw [Int.mul_neg] at t1
        omega
    · rcases Int.le_total 0 s with h2 | h2
      · have t1 := Int.mul_nonneg (show 0 ≤ -g by omega) h2
        have t2 := Int.mul_nonneg (show 0 ≤ n by omega) (show 0 ≤ m by omega)
        rw [Int.neg_mul] at t1
        omega
      · have := Int.mul_le_mul (show -g ≤ n by omega) (show -s ≤ m by omega) (by omega) (by omega)
        rwa [Int.neg_mul_neg] at this
  have a2 : -(g * s) ≤ n * m := by
    rw [← Int.neg_mul]
    rcases Int.le_total 0 (-g) with h1 | h1
    · rcases Int.le_total 0 s with h2 | h2
      · exact Int.mul_le_mul (by omega) hs.2 h2 (by omega)
      · have t1 := Int.mul_nonneg h1 (show 0 ≤ -s by omega)
        have t2 := Int.mul_nonneg (show 0 ≤ n by omega) (show 0 ≤ m by omega)
        rw [Int.mul_neg] at t1
        omega
    · rcases Int.le_total 0 s with h2 | h2
      · have t1 := Int.mul_nonneg (show 0 ≤ g by omega) h2
        have t2 := Int.mul_nonneg (show 0 ≤ n by omega) (show 0 ≤ m by omega)
        rw [Int.neg_mul]
        omega
      · have := Int.mul_le_mul (show g ≤ n by omega) (show -s ≤ m by omega) (by omega) (by omega)
        rw [Int.mul_neg, ← Int.neg_mul] at this
        exact this
  omega
end Go.Proofs.Ytjmdppnhpfdhdaa.W
