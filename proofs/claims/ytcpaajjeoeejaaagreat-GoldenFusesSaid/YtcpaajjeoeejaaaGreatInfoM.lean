/-
  Package info: what inequalities, mixtures and their ellipses hold.
-/
import Derived.Test.YtcpaajjeoeejaaaGreatInfo5
/-! Package info: what inequalities, mixtures and their ellipses hold. -/
namespace Go.Proofs.YtcpaajjeoeejaaaGreat.W
open Go Go.Ev Go.Wide

theorem ellT_eq {x y a b d x' y' a' b' d' : Int} {e e' : Nat} (h : ellT x y a b d e = ellT x' y' a' b' d' e') : x = x' ∧ y = y' ∧ a = a' ∧ b = b' ∧ d = d' ∧ e = e' := by
  simp only [ellT, ell, Value.tuple.injEq, Array.mk.injEq, List.cons.injEq, Value.agg.injEq, Value.int.injEq, true_and, and_true] at h
  omega

/-! ### Mixtures -/
theorem mix_sum (i j : Inq) (w p q : Int) : sumQ (mixQ i j w) p q = w * j.n * sumQ i p q + (34 - w) * i.n * sumQ j p q := by
  unfold sumQ mixQ mixI
  simp only
  grind
theorem mix_holds {i j : Inq} {w p q : Int} (h0 : 0 ≤ w) (h1 : w ≤ 34) (hi : 0 ≤ i.n) (hj : 0 ≤ j.n) (h : sumQ i p q ≤ i.n) (h' : sumQ j p q ≤ j.n) : sumQ (mixQ i j w) p q ≤ (mixQ i j w).n := by
  rw [mix_sum]
  have m1 := Int.mul_le_mul_of_nonneg_left h (Int.mul_nonneg h0 hj)
  have m2 := Int.mul_le_mul_of_nonneg_left h' (Int.mul_nonneg (show 0 ≤ 34 - w by omega) hi)
  have e : w * j.n * i.n + (34 - w) * i.n * j.n = 34 * i.n * j.n := by grind
  show _ ≤ 34 * i.n * j.n
  omega

/-! ### An ellipse's inequality, a strip's -/
theorem of_sum (x y a b d p q : Int) : sumQ (ofQ x y a b d) p q = quadI d (-b) a (p - x) (q - y) := by
  unfold sumQ ofQ
  simp only [quadI_eq]
  grind
theorem det_less (a b d u v : Int) : detI (a - u * u) (b - u * v) (d - v * v) = detI a b d - quadI d (-b) a u v := by
  simp only [detI, quadI_eq]
  grind
theorem of_in {x y a b d p q : Int} (h : mayL x y a b d = true) : sumQ (ofQ x y a b d) p q ≤ (ofQ x y a b d).n ↔ holdsI a b d (p - x) (q - y) = true := by
  have g := mayL_iff.1 h
  rw [of_sum]
  show quadI d (-b) a (p - x) (q - y) ≤ detI a b d ↔ _
  rw [holdsE_eq, psdI_iff]
  generalize p - x = u
  generalize q - y = v
  have hd := det_less a b d u v
  have hk := g.2.2.2.2
  constructor
  · intro hq
    have e1 : a * quadI d (-b) a u v = (a * v - b * u) * (a * v - b * u) + detI a b d * (u * u) := by simp only [detI, quadI_eq]; grind
    have e2 : d * quadI d (-b) a u v = (d * u - b * v) * (d * u - b * v) + detI a b d * (v * v) := by simp only [detI, quadI_eq]; grind
    have m1 := Int.mul_le_mul_of_nonneg_left hq (show 0 ≤ a by omega)
    have m2 := Int.mul_le_mul_of_nonneg_left hq (show 0 ≤ d by omega)
    have s1 := sq_nn (a * v - b * u)
    have s2 := sq_nn (d * u - b * v)
    have n1 : 0 ≤ detI a b d * (a - u * u) := by
      have : detI a b d * (a - u * u) = a * detI a b d - detI a b d * (u * u) := by grind
      omega
    have n2 : 0 ≤ detI a b d * (d - v * v) := by
      have : detI a b d * (d - v * v) = d * detI a b d - detI a b d * (v * v) := by grind
      omega
    refine ⟨nn_of_mul hk n1, nn_of_mul hk n2, ?_⟩
    show 0 ≤ detI (a - u * u) (b - u * v) (d - v * v)
    omega
  · rintro ⟨_, _, h3⟩
    have h3' : 0 ≤ detI (a - u * u) (b - u * v) (d - v * v) := h3
    omega
def atI (ox oy hx hy p q : Int) : Int := hx * (p - ox) + hy * (q - oy)
theorem os_sum (ox oy hx hy lo hi p q : Int) : sumQ (osQ ox oy hx hy lo hi) p q = (2 * atI ox oy hx hy p q - lo - hi) * (2 * atI ox oy hx hy p q - lo - hi) := by
  unfold sumQ osQ midI atI
  simp only
  grind
theorem os_in {ox oy hx hy lo hi p q : Int} (h : lo < hi) : sumQ (osQ ox oy hx hy lo hi) p q ≤ (osQ ox oy hx hy lo hi).n ↔ lo ≤ atI ox oy hx hy p q ∧ atI ox oy hx hy p q ≤ hi := by
  rw [os_sum]
  show _ ≤ (hi - lo) * (hi - lo) ↔ _
  generalize atI ox oy hx hy p q = t
  constructor
  · intro hh
    have := sq_abs (by omega) hh
    omega
  · intro hh
    exact sq_le ⟨by omega, by omega⟩

/-! ### The ellipse of an inequality -/
section
variable {a b d u v z n p q : Int}
theorem ex_sum : detI a b d * (a * (p * p) + d * (q * q) + b * (2 * p * q) - 2 * (u * p + v * q) + z - n) = (detI a b d * p - (d * u - b * v)) * (a * p + b * q - u) + (detI a b d * q - (a * v - b * u)) * (b * p + d * q - v) - sizI a b d u v z n (detI a b d) := by
  simp only [detI, sizI]
  grind
theorem ex_x : a * (detI a b d * p - (d * u - b * v)) + b * (detI a b d * q - (a * v - b * u)) = detI a b d * (a * p + b * q - u) := by
  simp only [detI]
  grind
theorem ex_y : b * (detI a b d * p - (d * u - b * v)) + d * (detI a b d * q - (a * v - b * u)) = detI a b d * (b * p + d * q - v) := by
  simp only [detI]
  grind
theorem ex_cs (X Y g l : Int) : quadI d (-b) a g l * quadI a b d X Y = detI a b d * ((g * X + l * Y) * (g * X + l * Y)) + (g * (b * X + d * Y) - l * (a * X + b * Y)) * (g * (b * X + d * Y) - l * (a * X + b * Y)) := by
  simp only [detI, quadI_eq]
  grind
/-- R is at least 0, and the point is in the exact ellipse, in every direction. -/
theorem ex_in (ha : 0 < a) (hk : 0 < detI a b d) (h : a * (p * p) + d * (q * q) + b * (2 * p * q) - 2 * (u * p + v * q) + z ≤ n) :
    0 ≤ sizI a b d u v z n (detI a b d) ∧ ∀ g l, (g * (detI a b d * p - (d * u - b * v)) + l * (detI a b d * q - (a * v - b * u))) * (g * (detI a b d * p - (d * u - b * v)) + l * (detI a b d * q - (a * v - b * u))) ≤ sizI a b d u v z n (detI a b d) * quadI d (-b) a g l := by
  have hd : 0 < d := by
    have hk' : 0 < a * d - b * b := hk
    have := sq_nn b
    have h2 : a * 0 < a * d := by omega
    exact Int.lt_of_mul_lt_mul_left h2 (by omega)
  have e1 := ex_sum (a := a) (b := b) (d := d) (u := u) (v := v) (z := z) (n := n) (p := p) (q := q)
  have e2 := ex_x (a := a) (b := b) (d := d) (u := u) (v := v) (p := p) (q := q)
  have e3 := ex_y (a := a) (b := b) (d := d) (u := u) (v := v) (p := p) (q := q)
  have cs := fun g l => ex_cs (a := a) (b := b) (d := d) (detI a b d * p - (d * u - b * v)) (detI a b d * q - (a * v - b * u)) g l
  have pN : psdI a b d = true := psdI_iff.2 ⟨by omega, by omega, by have : 0 < a * d - b * b := hk; omega⟩
  have pA : psdI d (-b) a = true := psdI_iff.2 ⟨by omega, by omega, by have : 0 < a * d - b * b := hk; rw [Int.neg_mul_neg, Int.mul_comm d a]; omega⟩
  generalize hX : detI a b d * p - (d * u - b * v) = X at *
  generalize hY : detI a b d * q - (a * v - b * u) = Y at *
  generalize sizI a b d u v z n (detI a b d) = R at *
  have hQ : quadI a b d X Y = detI a b d * (X * (a * p + b * q - u) + Y * (b * p + d * q - v)) := by
    have : quadI a b d X Y = X * (a * X + b * Y) + Y * (b * X + d * Y) := by rw [quadI_eq]; grind
    rw [this, e2, e3]
    grind
  have hle : X * (a * p + b * q - u) + Y * (b * p + d * q - v) ≤ R := by
    have := Int.mul_le_mul_of_nonneg_left (show a * (p * p) + d * (q * q) + b * (2 * p * q) - 2 * (u * p + v * q) + z - n ≤ 0 by omega) (show 0 ≤ detI a b d by omega)
    omega
  have hQR : quadI a b d X Y ≤ detI a b d * R := by rw [hQ]; exact Int.mul_le_mul_of_nonneg_left hle (by omega)
  have hQ0 := quad_of_psd pN X Y
  refine ⟨nn_of_mul hk (by omega), fun g l => ?_⟩
  have hA := quad_of_psd pA g l
  have m1 := Int.mul_le_mul_of_nonneg_left hQR hA
  have s1 := sq_nn (g * (b * X + d * Y) - l * (a * X + b * Y))
  have c1 := cs g l
  generalize quadI d (-b) a g l = H at *
  generalize (g * X + l * Y) * (g * X + l * Y) = T at *
  have e : H * (detI a b d * R) = detI a b d * (R * H) := by grind
  exact Int.le_of_mul_le_mul_left (show detI a b d * T ≤ detI a b d * (R * H) by omega) hk
theorem near_bounds {x k : Int} (hk : 0 < k) : -k ≤ 2 * (x - k * nearI x k) ∧ 2 * (x - k * nearI x k) ≤ k := by
  unfold nearI
  obtain ⟨h1, h2⟩ := fdiv_bounds (z := 2 * x + k) (c := 2 * k) (by omega)
  generalize (2 * x + k).fdiv (2 * k) = X at *
  rw [Int.mul_assoc] at h1 h2
  omega
theorem shift_in {k x y g l : Int} (_ : 0 < k) (hx : -k ≤ 2 * x ∧ 2 * x ≤ k) (hy : -k ≤ 2 * y ∧ 2 * y ≤ k) : 0 ≤ k * k * quadI 1 0 1 g l - (g * x + l * y) * (g * x + l * y) := by
  have s1 : x * x ≤ k * k - y * y := by
    have h1 : 2 * x * (2 * x) ≤ k * k := sq_le hx
    have h2 : 2 * y * (2 * y) ≤ k * k := sq_le hy
    have e1 : 2 * x * (2 * x) = 4 * (x * x) := by grind
    have e2 : 2 * y * (2 * y) = 4 * (y * y) := by grind
    have := sq_nn x
    have := sq_nn y
    omega
  have n1 := sq_nn (g * y - l * x)
  have n2 := Int.mul_nonneg (Int.add_nonneg (sq_nn g) (sq_nn l)) (show 0 ≤ k * k - x * x - y * y by omega)
  have e : k * k * quadI 1 0 1 g l - (g * x + l * y) * (g * x + l * y) = (g * g + l * l) * (k * k - x * x - y * y) + (g * y - l * x) * (g * y - l * x) := by rw [quadI_eq]; grind
  omega
theorem ell_in {A B D X Y : Int} (ha : 0 < a) (hk : 0 < detI a b d) (h : a * (p * p) + d * (q * q) + b * (2 * p * q) - 2 * (u * p + v * q) + z ≤ n)
    (hX : nearI (d * u - b * v) (detI a b d) = X) (hY : nearI (a * v - b * u) (detI a b d) = Y) (hA : cdiv (sizI a b d u v z n (detI a b d) * d) (detI a b d * detI a b d) = A) (hB : (-(sizI a b d u v z n (detI a b d) * b)).fdiv (detI a b d * detI a b d) = B) (hD : cdiv (sizI a b d u v z n (detI a b d) * a) (detI a b d * detI a b d) = D)
    {s t : Int} (hs : 0 < s) (ht : 0 < t) : holdsI (sumA s t (A + 1) 1) (sumB s t B 0) (sumA s t (D + 1) 1) (p - X) (q - Y) = true := by
  obtain ⟨_, hin⟩ := ex_in ha hk h
  have nx := near_bounds (x := d * u - b * v) hk
  have ny := near_bounds (x := a * v - b * u) hk
  rw [hX] at nx
  rw [hY] at ny
  rw [holdsE_eq]
  refine psd_iff_quad.2 fun g l => ?_
  rw [quad_sub_sq]
  have h1 := hin g l
  have h2 := stretch_quad (w := sizI a b d u v z n (detI a b d)) (a := d) (b := -b) (d := a) (p := detI a b d * detI a b d) g l (Int.mul_pos hk hk)
  have h3 := shift_in (g := g) (l := l) hk nx ny
  have h4 := sum_quad (s := s) (t := t) (a := A + 1) (b := B) (d := D + 1) (a' := 1) (b' := 0) (d' := 1) g l hs ht
  have e1 : strA (sizI a b d u v z n (detI a b d)) d (detI a b d * detI a b d) = A + 1 := by unfold strA; rw [hA]
  have e2 : strB (sizI a b d u v z n (detI a b d)) (-b) (detI a b d * detI a b d) = B := by unfold strB; rw [Int.mul_neg, hB]
  have e3 : strA (sizI a b d u v z n (detI a b d)) a (detI a b d * detI a b d) = D + 1 := by unfold strA; rw [hD]
  rw [e1, e2, e3] at h2
  generalize sizI a b d u v z n (detI a b d) = R at *
  generalize detI a b d = k at *
  generalize d * u - b * v = x' at *
  generalize a * v - b * u = y' at *
  generalize quadI (A + 1) B (D + 1) g l = P at *
  generalize quadI 1 0 1 g l = Q at *
  generalize quadI (sumA s t (A + 1) 1) (sumB s t B 0) (sumA s t (D + 1) 1) g l = S at *
  generalize quadI d (-b) a g l = H at *
  have hkk : 0 < k * k := Int.mul_pos hk hk
  have two := two_sides (s := s) (t := t) (P := k * k * P) (Q := k * k * Q) (S := k * k * S) (α := g * (k * p - x') + l * (k * q - y')) (β := g * (x' - k * X) + l * (y' - k * Y)) hs ht (by omega) h3 (by
    have m := Int.mul_le_mul_of_nonneg_left h4 (show 0 ≤ k * k by omega)
    have f1 : k * k * (t * (s + t) * P + s * (s + t) * Q) = t * (s + t) * (k * k * P) + s * (s + t) * (k * k * Q) := by grind
    have f2 : k * k * (s * t * S) = s * t * (k * k * S) := by grind
    omega)
  have f3 : k * k * S - (g * (k * p - x') + l * (k * q - y') + (g * (x' - k * X) + l * (y' - k * Y))) * (g * (k * p - x') + l * (k * q - y') + (g * (x' - k * X) + l * (y' - k * Y))) = k * k * (S - (g * (p - X) + l * (q - Y)) * (g * (p - X) + l * (q - Y))) := by grind
  rw [f3] at two
  exact nn_of_mul hkk two
end
theorem ellQ_holds {i : Inq} {p q X Y A B D : Int} {e : Nat} (hw : (-1073741824 ≤ p ∧ p ≤ 1073741824) ∧ (-1073741824 ≤ q ∧ q ≤ 1073741824)) (h : sumQ i p q ≤ i.n) (he : ellQ i = ellT X Y A B D e) : e ≠ 3 ∧ (e = 0 → inE X Y A B D p q = true) := by
  unfold ellQ ellI at he
  split at he
  · have := (ellT_eq he).2.2.2.2.2
    omega
  rename_i ha
  split at he
  · have := (ellT_eq he).2.2.2.2.2
    omega
  rename_i hk
  split at he
  · rename_i hr
    have := (ex_in (by omega) (by omega) h).1
    omega
  unfold ellW at he
  split at he
  · rename_i hm
    cases h3 : mayG (nearI (i.d * i.u - i.b * i.v) (detI i.a i.b i.d)) (nearI (i.a * i.v - i.b * i.u) (detI i.a i.b i.d)) (cdiv (sizI i.a i.b i.d i.u i.v i.z i.n (detI i.a i.b i.d) * i.d) (detI i.a i.b i.d * detI i.a i.b i.d) + 1) ((-(sizI i.a i.b i.d i.u i.v i.z i.n (detI i.a i.b i.d) * i.b)).fdiv (detI i.a i.b i.d * detI i.a i.b i.d)) (cdiv (sizI i.a i.b i.d i.u i.v i.z i.n (detI i.a i.b i.d) * i.a) (detI i.a i.b i.d * detI i.a i.b i.d) + 1) 0 0 (1 * 1) 0 (1 * 1) with
    | false =>
      rw [gball_over hm (by decide) (by decide) h3] at he
      have := (ellT_eq he).2.2.2.2.2
      omega
    | true =>
      rw [gball_ok hm (by decide) (by decide) h3] at he
      obtain ⟨e1, e2, e3, e4, e5, e6⟩ := ellT_eq he
      refine ⟨by omega, fun _ => ?_⟩
      subst e1 e2 e3 e4 e5
      refine inE_mk h3 hw ?_
      rw [Int.add_zero, Int.add_zero]
      exact ell_in (by omega) (by omega) h rfl rfl rfl rfl rfl (rad_facts hm).1 (rad_facts (ball_may0 (r := 1) (by decide))).1
  · have := (ellT_eq he).2.2.2.2.2
    omega
end Go.Proofs.YtcpaajjeoeejaaaGreat.W
