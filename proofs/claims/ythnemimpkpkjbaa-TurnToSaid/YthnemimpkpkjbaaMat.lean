/-
  Package mat: the entries of a matrix as wide numbers: widen, square, minus, det, psd, dot.
  Package mat: May, Add, Adj, Det, Psd, Quad, Holds, Least.
  Package mat: awake.
  Symmetric matrices of two rows: positive semidefinite just where the square form is nowhere negative.
-/
import Derived.Test.YthnemimpkpkjbaaWide2
import Derived.Test.YthnemimpkpkjbaaEv3
/-! Package mat: the entries of a matrix as wide numbers: widen, square, minus, det, psd, dot. -/
namespace Go.Proofs.Ythnemimpkpkjbaa.W
open Go Go.Ev Go.Wide

def wC (N : Nat) (s : Bool) : List Value := (List.range 16).map (fun i => Value.int .u64 (wd N i)) ++ [Value.bool s, Value.bool false]
def eR (A : Nat) (a : Bool) (B : Nat) (b : Bool) (D : Nat) (d : Bool) : Value := .agg (wC A a ++ wC B b ++ wC D d).toArray
/-- The entries a b d. -/
def eV (a b d : Int) : Value := eR a.natAbs (decide (a < 0)) b.natAbs (decide (b < 0)) d.natAbs (decide (d < 0))
theorem flat_eR (A : Nat) (a : Bool) (B : Nat) (b : Bool) (D : Nat) (d : Bool) : flat (eR A a B b D d) = true := by kernel_rfl
theorem flat_eV (a b d : Int) : flat (eV a b d) = true := flat_eR _ _ _ _ _ _
def sym (a b d : Int) : Value := .agg #[.int .i64 a, .int .i64 b, .int .i64 d]
def pt (x y : Int) : Value := .agg #[.int .i64 x, .int .i64 y]

theorem flat_sym (A B D : Int) : flat (sym A B D) = true := by kernel_rfl
theorem flat_pt (X Y : Int) : flat (pt X Y) = true := by kernel_rfl
def I64 (n : Int) : Prop := -9223372036854775808 ≤ n ∧ n ≤ 9223372036854775807
theorem I64.sm {n : Int} (h : I64 n) : Sm 64 n := Sm.i64 h.1 h.2
def detI (a b d : Int) : Int := a * d - b * b
theorem detI_sm {k : Nat} {a b d : Int} (ha : Sm k a) (hb : Sm k b) (hd : Sm k d) : Sm (k + k + 1) (detI a b d) := (ha.mul hd).sub (hb.mul hb)
def psdI (a b d : Int) : Bool := decide (0 ≤ a) && (decide (0 ≤ d) && decide (0 ≤ detI a b d))
def dotI (a b d a' b' d' : Int) : Int := (a * a' + d * d') + 2 * (b * b')
theorem dotI_sm {j k : Nat} {a b d a' b' d' : Int} (ha : Sm j a) (hb : Sm j b) (hd : Sm j d) (ha' : Sm k a') (hb' : Sm k b') (hd' : Sm k d') : Sm (j + k + 2) (dotI a b d a' b' d') := by
  have h := (ha.mul ha').add (hd.mul hd')
  have h2 : Sm (j + k + 1) (2 * (b * b')) := by
    have := (hb.mul hb').add (hb.mul hb')
    rw [show 2 * (b * b') = b * b' + b * b' by omega]
    exact this
  exact h.add h2
end Go.Proofs.Ythnemimpkpkjbaa.W
/-! Package mat: May, Add, Adj, Det, Psd, Quad, Holds, Least. -/
namespace Go.Proofs.Ythnemimpkpkjbaa.W
open Go Go.Ev Go.Wide

def mayE (n : Int) : Bool := decide (-2305843009213693952 ≤ n) && decide (n ≤ 2305843009213693952)
theorem mayE_iff {n : Int} : mayE n = true ↔ -2305843009213693952 ≤ n ∧ n ≤ 2305843009213693952 := by simp [mayE]
theorem mayE_i64 {n : Int} (h : mayE n = true) : I64 n := by
  have := mayE_iff.1 h
  exact ⟨by omega, by omega⟩
def mayM (a b d : Int) : Bool := mayE a && (mayE b && mayE d)
theorem mayM_iff {a b d : Int} : mayM a b d = true ↔ (-2305843009213693952 ≤ a ∧ a ≤ 2305843009213693952) ∧ (-2305843009213693952 ≤ b ∧ b ≤ 2305843009213693952) ∧ (-2305843009213693952 ≤ d ∧ d ≤ 2305843009213693952) := by
  simp only [mayM, Bool.and_eq_true, mayE_iff]
theorem i64_wrap_self {z : Int} (h : I64 z) : IntKind.i64.wrap z = z := i64_wrap h.1 h.2
/-- The adjugate; the zero matrix if it is not valid. -/
def adjV (a b d : Int) : Value := match mayM a b d with | true => sym d (-b) a | false => sym 0 0 0
theorem flat_adjV (a b d : Int) : flat (adjV a b d) = true := by unfold adjV; cases mayM a b d <;> exact flat_sym _ _ _
def sumT (a b d : Int) : Value := .tuple #[sym a b d, .int .i64 0]
theorem flat_sumT (a b d : Int) : flat (sumT a b d) = true := by kernel_rfl
def sumV (a b d a' b' d' : Int) : Value := match mayM a b d, mayM a' b' d' with
  | true, true => match mayM (a + a') (b + b') (d + d') with
    | true => .tuple #[sym (a + a') (b + b') (d + d'), .int .i64 0]
    | false => .tuple #[sym 0 0 0, .int .i64 2]
  | _, _ => .tuple #[sym 0 0 0, .int .i64 1]
/-- The square form of a b d at x y. -/
def quadI (a b d x y : Int) : Int := dotI a b d (x * x) (x * y) (y * y)
theorem I64.sq {x y : Int} (hx : I64 x) (hy : I64 y) : Sm 128 (x * y) := hx.sm.mul hy.sm
theorem quadI_sm {a b d x y : Int} (ha : I64 a) (hb : I64 b) (hd : I64 d) (hx : I64 x) (hy : I64 y) : Sm 194 (quadI a b d x y) := dotI_sm ha.sm hb.sm hd.sm (hx.sq hx) (hx.sq hy) (hy.sq hy)
def holdsI (a b d x y : Int) : Bool := psdI (a - x * x) (b - x * y) (d - y * y)
def leastI (a b d a' b' d' : Int) : Bool := mayM a b d && (mayM a' b' d' && psdI (a - a') (b - b') (d - d'))
end Go.Proofs.Ythnemimpkpkjbaa.W
/-! Package mat: awake. -/
namespace Go.Proofs.Ythnemimpkpkjbaa.W
open Go Go.Ev Go.Wide

def txt24 : ByteArray := ⟨#[50, 52]⟩
theorem txt24_eq : textB (some 36) = txt24 := by
  rw [text_of (M := 36) (L := 2) (s := false) rfl rfl (by unfold hexLen; rw [bitLen_eq (x := 36) (n := 5) (by decide) (by decide)]; rfl)]
  kernel_rfl
theorem I64.lit {n : Int} (h : (decide (-9223372036854775808 ≤ n) && decide (n ≤ 9223372036854775807)) = true := by decide) : I64 n := by simpa [I64] using h
end Go.Proofs.Ythnemimpkpkjbaa.W
/-! Symmetric matrices of two rows: positive semidefinite just where the square form is nowhere negative. -/
namespace Go.Proofs.Ythnemimpkpkjbaa.W
open Go Go.Ev Go.Wide

theorem psdI_iff {a b d : Int} : psdI a b d = true ↔ 0 ≤ a ∧ 0 ≤ d ∧ 0 ≤ a * d - b * b := by simp [psdI, detI]
theorem quadI_eq (a b d x y : Int) : quadI a b d x y = a * (x * x) + d * (y * y) + 2 * (b * (x * y)) := rfl
theorem sq_nn (x : Int) : 0 ≤ x * x := by
  rcases Int.le_total 0 x with h | h
  · exact Int.mul_nonneg h h
  · have := Int.mul_nonneg (show 0 ≤ -x by omega) (show 0 ≤ -x by omega)
    rwa [Int.neg_mul_neg] at this
theorem sq_pos {x : Int} (h : x ≠ 0) : 0 < x * x := by
  rcases Int.lt_or_gt_of_ne h with h | h
  · have := Int.mul_pos (show 0 < -x by omega) (show 0 < -x by omega)
    rwa [Int.neg_mul_neg] at this
  · exact Int.mul_pos h h
theorem nn_of_mul {a q : Int} (ha : 0 < a) (h : 0 ≤ a * q) : 0 ≤ q := by
  rcases Int.lt_or_le q 0 with hq | hq
  · have := Int.mul_neg_of_pos_of_neg ha hq
    omega
  · exact hq
theorem quad_of_psd {a b d : Int} (h : psdI a b d = true) (x y : Int) : 0 ≤ quadI a b d x y := by
  obtain ⟨ha, hd, hdet⟩ := psdI_iff.1 h
  rw [quadI_eq]
  rcases Int.lt_or_eq_of_le ha with ha' | ha'
  · refine nn_of_mul ha' ?_
    have e : a * (a * (x * x) + d * (y * y) + 2 * (b * (x * y))) = (a * x + b * y) * (a * x + b * y) + (a * d - b * b) * (y * y) := by grind
    rw [e]
    have h1 := sq_nn (a * x + b * y)
    have h2 := Int.mul_nonneg hdet (sq_nn y)
    omega
  · subst ha'
    have hb : b = 0 := by
      rcases Int.lt_or_eq_of_le (sq_nn b) with h | h
      · omega
      · rcases Int.mul_eq_zero.1 h.symm with h | h <;> exact h
    subst hb
    have := Int.mul_nonneg hd (sq_nn y)
    simp only [Int.zero_mul, Int.mul_zero]
    omega
/-- One of six points tells. -/
theorem psd_of_six {a b d : Int} (h0 : 0 ≤ quadI a b d 1 0) (h1 : 0 ≤ quadI a b d 0 1) (h2 : 0 ≤ quadI a b d b (-a)) (h3 : 0 ≤ quadI a b d d (-b)) (h4 : 0 ≤ quadI a b d 1 1) (h5 : 0 ≤ quadI a b d 1 (-1)) : psdI a b d = true := by
  rw [quadI_eq] at *
  have ha : 0 ≤ a := by omega
  have hd : 0 ≤ d := by omega
  refine psdI_iff.2 ⟨ha, hd, ?_⟩
  rcases Int.lt_or_eq_of_le ha with ha' | ha'
  · refine nn_of_mul ha' ?_
    have e : a * (a * d - b * b) = a * (b * b) + d * (-a * -a) + 2 * (b * (b * -a)) := by grind
    rw [e]; exact h2
  · rcases Int.lt_or_eq_of_le hd with hd' | hd'
    · refine nn_of_mul hd' ?_
      have e : d * (a * d - b * b) = a * (d * d) + d * (-b * -b) + 2 * (b * (d * -b)) := by grind
      rw [e]; exact h3
    · subst ha' hd'
      have : b = 0 := by omega
      subst this
      decide
theorem psd_iff_quad {a b d : Int} : psdI a b d = true ↔ ∀ x y, 0 ≤ quadI a b d x y :=
  ⟨fun h => quad_of_psd h, fun h => psd_of_six (h _ _) (h _ _) (h _ _) (h _ _) (h _ _) (h _ _)⟩
theorem quad_add (a b d a' b' d' x y : Int) : quadI (a + a') (b + b') (d + d') x y = quadI a b d x y + quadI a' b' d' x y := by
  simp only [quadI_eq]; grind
theorem psd_add {a b d a' b' d' : Int} (h : psdI a b d = true) (h' : psdI a' b' d' = true) : psdI (a + a') (b + b') (d + d') = true :=
  psd_iff_quad.2 fun x y => by
    have h1 := quad_of_psd h x y
    have h2 := quad_of_psd h' x y
    rw [quad_add]; omega
theorem psd_zero : psdI 0 0 0 = true := by decide
/-- m m' is positive, and so is any multiple of it. -/
theorem psd_square (k x y : Int) (hk : 0 ≤ k) : psdI (k * (x * x)) (k * (x * y)) (k * (y * y)) = true :=
  psd_iff_quad.2 fun u v => by
    have e : quadI (k * (x * x)) (k * (x * y)) (k * (y * y)) u v = k * ((x * u + y * v) * (x * u + y * v)) := by rw [quadI_eq]; grind
    rw [e]
    exact Int.mul_nonneg hk (sq_nn _)
theorem psd_antisymm {a b d : Int} (h : psdI a b d = true) (h' : psdI (-a) (-b) (-d) = true) : a = 0 ∧ b = 0 ∧ d = 0 := by
  have p := fun x y => quad_of_psd h x y
  have q := fun x y => quad_of_psd h' x y
  have p1 := p 1 0; have q1 := q 1 0; have p2 := p 0 1; have q2 := q 0 1
  have p3 := p 1 1; have q3 := q 1 1; have p4 := p 1 (-1); have q4 := q 1 (-1)
  simp only [quadI_eq] at *
  omega
theorem leastI_iff {a b d a' b' d' : Int} : leastI a b d a' b' d' = true ↔ mayM a b d = true ∧ mayM a' b' d' = true ∧ psdI (a - a') (b - b') (d - d') = true := by simp [leastI]
theorem least_trans {a b d a' b' d' a'' b'' d'' : Int} (h : leastI a b d a' b' d' = true) (h' : leastI a' b' d' a'' b'' d'' = true) : leastI a b d a'' b'' d'' = true := by
  obtain ⟨h1, _, h3⟩ := leastI_iff.1 h
  obtain ⟨_, g2, g3⟩ := leastI_iff.1 h'
  refine leastI_iff.2 ⟨h1, g2, ?_⟩
  have := psd_add h3 g3
  rwa [show a - a' + (a' - a'') = a - a'' by omega, show b - b' + (b' - b'') = b - b'' by omega, show d - d' + (d' - d'') = d - d'' by omega] at this
theorem least_refl {a b d : Int} (h : mayM a b d = true) : leastI a b d a b d = true := leastI_iff.2 ⟨h, h, by rw [Int.sub_self, Int.sub_self, Int.sub_self]; exact psd_zero⟩
theorem least_antisymm {a b d a' b' d' : Int} (h : leastI a b d a' b' d' = true) (h' : leastI a' b' d' a b d = true) : a = a' ∧ b = b' ∧ d = d' := by
  obtain ⟨_, _, h3⟩ := leastI_iff.1 h
  obtain ⟨_, _, g3⟩ := leastI_iff.1 h'
  have := psd_antisymm h3 (by rwa [Int.neg_sub, Int.neg_sub, Int.neg_sub])
  omega
theorem str_refl (t : ByteArray) : (t.toList == t.toList) = true := by simp
theorem sym_refl (a b d : Int) : (decide (a = a) && (decide (b = b) && (decide (d = d) && true))) = true := by simp
end Go.Proofs.Ythnemimpkpkjbaa.W
