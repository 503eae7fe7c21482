/-
  Symmetric matrices of two rows: positive semidefinite just where the square form is nowhere negative.
-/
import Derived.Test.YtjmdppnhpfdhdaaMatC
namespace Go.Proofs.Ytjmdppnhpfdhdaa.W
open Go Go.Ev Go.Wide

theorem psdI_iff {a b d : Int} : psdI a b d = true ↔ 0 ≤ a ∧ 0 ≤ d ∧ 0 ≤ a * d - b * b := by simp [psdI, detI]
theorem quadI_eq (a b d x y : Int) : quadI a b d x y = a * (x * x) + d * (y * y) + 2 * (b * (x * y)) := rfl
theorem sq_nn (x : Int) : 0 ≤ x * x := by
  rcases Int.le_total 0 x with h | h
  · exact Int.mul_nonneg h h
  · have := Int.mul_nonneg (show 0 ≤ -x by omega) (show 0 ≤ -x by omega)
    rwa [Int.neg_mul_neg] at this
theorem sq_pos {x : Int} (h : x ≠ 0) : 0 < x * x := by
  rcases Int.lt_or_gt_of_ne h with h | h
  · have := Int.mul_pos (show 0 < -x by omega) (show 0 < -x by omega)
    rwa [Int.neg_mul_neg] at this
  · exact Int.mul_pos h h
theorem nn_of_mul {a q : Int} (ha : 0 < a) (h : 0 ≤ a * q) : 0 ≤ q := by
  rcases Int.lt_or_le q 0 with hq | hq
  · have := Int.mul_neg_of_pos_of_neg ha hq
    omega
  · exact hq
theorem quad_of_psd {a b d : Int} (h : psdI a b d = true) (x y : Int) : 0 ≤ quadI a b d x y := by
  obtain ⟨ha, hd, hdet⟩ := psdI_iff.1 h
  rw [quadI_eq]
  rcases Int.lt_or_eq_of_le ha with ha' | ha'
  · refine nn_of_mul ha' ?_
    have e : a * (a * (x * x) + d * (y * y) + 2 * (b * (x * y))) = (a * x + b * y) * (a * x + b * y) + (a * d - b * b) * (y * y) := by grind
    rw [e]
    have h1 := sq_nn (a * x + b * y)
    have h2 := Int.mul_nonneg hdet (sq_nn y)
    omega
  · subst ha'
    have hb : b = 0 := by
      rcases Int.lt_or_eq_of_le (sq_nn b) with h | h
      · omega
      · rcases Int.mul_eq_zero.1 h.symm with h | h <;> exact h
    subst hb
    have := Int.mul_nonneg hd (sq_nn y)
    simp only [Int.zero_mul, Int.mul_zero]
    omega
/-- One of six points tells. -/
theorem psd_of_six {a b d : Int} (h0 : 0 ≤ quadI a b d 1 0) (h1 : 0 ≤ quadI a b d 0 1) (h2 : 0 ≤ quadI a b d b (-a)) (h3 : 0 ≤ quadI a b d d (-b)) (h4 : 0 ≤ quadI a b d 1 1) (h5 : 0 ≤ quadI a b d 1 (-1)) : psdI a b d = true := by
  rw [quadI_eq] at *
  have ha : 0 ≤ a := by omega
  have hd : 0 ≤ d := by omega
  refine psdI_iff.2 ⟨ha, hd, ?_⟩
  rcases Int.lt_or_eq_of_le ha with ha' | ha'
  · refine nn_of_mul ha' ?_
    have e : a * (a * d - b * b) = a * (b * b) + d * (-a * -a) + 2 * (b * (b * -a)) := by grind
    rw [e]; exact h2
  · rcases Int.lt_or_eq_of_le hd with hd' | hd'
    · refine nn_of_mul hd' ?_
      have e : d * (a * d - b * b) = a * (d * d) + d * (-b * -b) + 2 * (b * (d * -b)) := by grind
      rw [e]; exact h3
    · subst ha' hd'
      have : b = 0 := by omega
      subst this
      decide
theorem psd_iff_quad {a b d : Int} : psdI a b d = true ↔ ∀ x y, 0 ≤ quadI a b d x y :=
  ⟨fun h => quad_of_psd h, fun h => psd_of_six (h _ _) (h _ _) (h _ _) (h _ _) (h _ _) (h _ _)⟩
theorem quad_add (a b d a' b' d' x y : Int) : quadI (a + a') (b + b') (d + d') x y = quadI a b d x y + quadI a' b' d' x y := by
  simp only [quadI_eq]; grind
theorem psd_add {a b d a' b' d' : Int} (h : psdI a b d = true) (h' : psdI a' b' d' = true) : psdI (a + a') (b + b') (d + d') = true :=
  psd_iff_quad.2 fun x y => by
    have h1 := quad_of_psd h x y
    have h2 := quad_of_psd h' x y
    rw [quad_add]; omega
theorem psd_zero : psdI 0 0 0 = true := by decide
/-- m m' is positive, and so is any multiple of it. -/
theorem psd_square (k x y : Int) (hk : 0 ≤ k) : psdI (k * (x * x)) (k * (x * y)) (k * (y * y)) = true :=
  psd_iff_quad.2 fun u v => by
    have e : quadI (k * (x * x)) (k * (x * y)) (k * (y * y)) u v = k * ((x * u + y * v) * (x * u + y * v)) := by rw [quadI_eq]; grind
    rw [e]
    exact Int.mul_nonneg hk (sq_nn _)
theorem psd_antisymm {a b d : Int} (h : psdI a b d = true) (h' : psdI (-a) (-b) (-d) = true) : a = 0 ∧ b = 0 ∧ d = 0 := by
  have p := fun x y => quad_of_psd h x y
  have q := fun x y => quad_of_psd h' x y
  have p1 := p 1 0; have q1 := q 1 0; have p2 := p 0 1; have q2 := q 0 1
  have p3 := p 1 1; have q3 := q 1 1; have p4 := p 1 (-1); have q4 := q 1 (-1)
  simp only [quadI_eq] at *
  omega
theorem leastI_iff {a b d a' b' d' : Int} : leastI a b d a' b' d' = true ↔ mayM a b d = true ∧ mayM a' b' d' = true ∧ psdI (a - a') (b - b') (d - d') = true := by simp [leastI]
theorem least_trans {a b d a' b' d' a'' b'' d'' : Int} (h : leastI a b d a' b' d' = true) (h' : leastI a' b' d' a'' b'' d'' = true) : leastI a b d a'' b'' d'' = true := by
  obtain ⟨h1, _, h3⟩ := leastI_iff.1 h
  obtain ⟨_, g2, g3⟩ := leastI_iff.1 h'
  refine leastI_iff.2 ⟨h1, g2, ?_⟩
  have := psd_add h3 g3
  rwa [show a - a' + (a' - a'') = a - a'' by omega, show b - b' + (b' - b'') = b - b'' by omega, show d - d' + (d' - d'') = d - d'' by omega] at this
theorem least_refl {a b d : Int} (h : mayM a b d = true) : leastI a b d a b d = true := leastI_iff.2 ⟨h, h, by rw [Int.sub_self, Int.sub_self, Int.sub_self]; exact psd_zero⟩
theorem least_antisymm {a b d a' b' d' : Int} (h : leastI a b d a' b' d' = true) (h' : leastI a' b' d' a b d = true) : a = a' ∧ b = b' ∧ d = d' := by
  obtain ⟨_, _, h3⟩ := leastI_iff.1 h
  obtain ⟨_, _, g3⟩ := leastI_iff.1 h'
  have := psd_antisymm h3 (by rwa [Int.neg_sub, Int.neg_sub, Int.neg_sub])
  omega
theorem str_refl (t : ByteArray) : (t.toList == t.toList) = true := by simp
theorem sym_refl (a b d : Int) : (decide (a = a) && (decide (b = b) && (decide (d = d) && true))) = true := by simp
end Go.Proofs.Ytjmdppnhpfdhdaa.W
