/-
  Ellipses: what is in, opposite and between, within which bounds.
-/
import Derived.Test.YtjmdppnhpfdhdaaEllA
import Derived.Test.YtjmdppnhpfdhdaaMatM
namespace Go.Proofs.Ytjmdppnhpfdhdaa.W
open Go Go.Ev Go.Wide

theorem holdsE_eq {a b d x y : Int} : holdsI a b d x y = psdI (a - x * x) (b - x * y) (d - y * y) := rfl
theorem sq_abs {x n : Int} (hn : 0 ≤ n) (h : x * x ≤ n * n) : -n ≤ x ∧ x ≤ n := by
  constructor
  · rcases Int.lt_or_le x (-n) with h1 | h1
    · have := Int.mul_le_mul (show n + 1 ≤ -x by omega) (show n + 1 ≤ -x by omega) (by omega) (by omega)
      rw [Int.neg_mul_neg] at this
      have e : (n + 1) * (n + 1) = n * n + 2 * n + 1 := by grind
      omega
    · exact h1
  · rcases Int.lt_or_le n x with h1 | h1
    · have := Int.mul_le_mul (show n + 1 ≤ x by omega) (show n + 1 ≤ x by omega) (by omega) (by omega)
      have e : (n + 1) * (n + 1) = n * n + 2 * n + 1 := by grind
      omega
    · exact h1
theorem holds_sq {a b d x y : Int} (h : holdsI a b d x y = true) : x * x ≤ a ∧ y * y ≤ d := by
  have := psdI_iff.1 h
  omega
/-- What a valid ellipse holds is not far from its centre. -/
theorem inE_near {x y a b d p q : Int} (h : inE x y a b d p q = true) : mayL x y a b d = true ∧ within p q 1073741824 = true ∧ holdsI a b d (p - x) (q - y) = true ∧ (-8388608 ≤ p - x ∧ p - x ≤ 8388608) ∧ (-8388608 ≤ q - y ∧ q - y ≤ 8388608) := by
  simp only [inE, Bool.and_eq_true] at h
  obtain ⟨h1, h2, h3⟩ := h
  have g := mayL_iff.1 h1
  obtain ⟨s1, s2⟩ := holds_sq h3
  exact ⟨h1, h2, h3, sq_abs (by omega) (by omega), sq_abs (by omega) (by omega)⟩
theorem inE_mk {x y a b d p q : Int} (h1 : mayL x y a b d = true) (h2 : (-1073741824 ≤ p ∧ p ≤ 1073741824) ∧ (-1073741824 ≤ q ∧ q ≤ 1073741824)) (h3 : holdsI a b d (p - x) (q - y) = true) : inE x y a b d p q = true := by
  unfold inE
  rw [h1, within_iff.2 h2, h3]
  rfl
theorem holds_neg {a b d x y : Int} (h : holdsI a b d x y = true) : holdsI a b d (-x) (-y) = true := by
  rw [holdsE_eq, Int.neg_mul_neg, Int.neg_mul_neg, Int.neg_mul_neg]; exact h
theorem inE_other {x y a b d p q : Int} (h : inE x y a b d p q = true) : inE x y a b d (2 * x - p) (2 * y - q) = true := by
  obtain ⟨h1, h2, h3, h4, h5⟩ := inE_near h
  have g := mayL_iff.1 h1
  refine inE_mk h1 (by omega) ?_
  have := holds_neg h3
  rwa [show -(p - x) = 2 * x - p - x by omega, show -(q - y) = 2 * y - q - y by omega] at this
theorem holds_mid {a b d u1 u2 v1 v2 m1 m2 : Int} (e1 : u1 + v1 = 2 * m1) (e2 : u2 + v2 = 2 * m2) (h : holdsI a b d u1 u2 = true) (h' : holdsI a b d v1 v2 = true) : holdsI a b d m1 m2 = true := by
  rw [holdsE_eq] at *
  refine psd_iff_quad.2 fun s t => ?_
  have p1 := psd_iff_quad.1 h s t
  have p2 := psd_iff_quad.1 h' s t
  have p3 := sq_nn ((u1 - v1) * s + (u2 - v2) * t)
  have f1 : v1 = 2 * m1 - u1 := by omega
  have f2 : v2 = 2 * m2 - u2 := by omega
  subst f1 f2
  have e : 4 * quadI (a - m1 * m1) (b - m1 * m2) (d - m2 * m2) s t = 2 * quadI (a - u1 * u1) (b - u1 * u2) (d - u2 * u2) s t + 2 * quadI (a - (2 * m1 - u1) * (2 * m1 - u1)) (b - (2 * m1 - u1) * (2 * m2 - u2)) (d - (2 * m2 - u2) * (2 * m2 - u2)) s t + ((u1 - (2 * m1 - u1)) * s + (u2 - (2 * m2 - u2)) * t) * ((u1 - (2 * m1 - u1)) * s + (u2 - (2 * m2 - u2)) * t) := by
    simp only [quadI_eq]
    grind
  omega
theorem inE_mid {x y a b d p q u v m n : Int} (e1 : p + u = 2 * m) (e2 : q + v = 2 * n) (h : inE x y a b d p q = true) (h' : inE x y a b d u v = true) : inE x y a b d m n = true := by
  obtain ⟨h1, h2, h3, _, _⟩ := inE_near h
  obtain ⟨_, h2', h3', _, _⟩ := inE_near h'
  have g := within_iff.1 h2
  have g' := within_iff.1 h2'
  exact inE_mk h1 (by omega) (holds_mid (by omega) (by omega) h3 h3')
theorem inE_wider {x y a b d a' b' d' p q : Int} (hm : mayL x y a' b' d' = true) (hl : leastI a' b' d' a b d = true) (h : inE x y a b d p q = true) : inE x y a' b' d' p q = true := by
  obtain ⟨h1, h2, h3, _, _⟩ := inE_near h
  obtain ⟨_, _, h4⟩ := leastI_iff.1 hl
  refine inE_mk hm (within_iff.1 h2) ?_
  have h5 := psd_add h4 h3
  rw [holdsE_eq]
  generalize p - x = s at *
  generalize q - y = t at *
  rwa [show a' - a + (a - s * s) = a' - s * s by omega, show b' - b + (b - s * t) = b' - s * t by omega, show d' - d + (d - t * t) = d' - t * t by omega] at h5
theorem trI_wider {x y a b d a' b' d' : Int} (h1 : mayL x y a b d = true) (h2 : mayL x y a' b' d' = true) (hl : leastI a' b' d' a b d = true) : trI x y a' b' d' ≥ trI x y a b d := by
  obtain ⟨_, _, h4⟩ := leastI_iff.1 hl
  have := psdI_iff.1 h4
  unfold trI
  rw [h1, h2]
  simp only
  omega
theorem ell_refl (x y a b d : Int) : ((decide (x = x) && (decide (y = y) && true)) && ((decide (a = a) && (decide (b = b) && (decide (d = d) && true))) && true)) = true := by simp
theorem mayL_move {x y a b d p q : Int} (h : mayL x y a b d = true) (hp : mayP p q = true) : mayL p q a b d = true := by
  simp only [mayL, Bool.and_eq_true] at h ⊢
  exact ⟨hp, h.2⟩
theorem trI_move {x y a b d p q : Int} (h : mayL x y a b d = true) (h' : mayL p q a b d = true) : trI p q a b d = trI x y a b d := by
  unfold trI
  rw [h, h']
end Go.Proofs.Ytjmdppnhpfdhdaa.W
