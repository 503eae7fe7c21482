/-
  StripFar: a distance that is much too small, or much too great, leaves nothing.
-/
import Derived.Test.YtaibhjphgdjcmaaGreatStripL
import Derived.Test.YtaibhjphgdjcmaaGreatStripA
namespace Go.Proofs.YtaibhjphgdjcmaaGreat.W
open Go Go.Ev Go.Wide

def far_e (x r : Int) : El := ⟨x, 0, r * r, 0, r * r⟩
/-- Two balls far from each other: the weight 13 tells it. -/
theorem fuse_far {x α β : Int} (m1 : mayL x 0 α 0 α = true) (m2 : mayL 0 0 β 0 β = true) (h : 442 * β + 714 * α < 273 * (x * x)) : fuseV x 0 α 0 α 0 0 β 0 β 13 = ellT 0 0 0 0 0 3 := by
  have g1 := mayL_iff.1 m1
  have g2 := mayL_iff.1 m2
  unfold fuseV
  rw [m1, m2]
  show ellI (mixI 13 (34 - 13) (detI α 0 α) (detI β 0 β) α β) (mixI 13 (34 - 13) (detI α 0 α) (detI β 0 β) (-0) (-0)) (mixI 13 (34 - 13) (detI α 0 α) (detI β 0 β) α β) (mixI 13 (34 - 13) (detI α 0 α) (detI β 0 β) (α * x + -0 * 0) (β * 0 + -0 * 0)) (mixI 13 (34 - 13) (detI α 0 α) (detI β 0 β) (-0 * x + α * 0) (-0 * 0 + β * 0)) (mixI 13 (34 - 13) (detI α 0 α) (detI β 0 β) (quadI α (-0) α x 0) (quadI β (-0) β 0 0)) (34 * detI α 0 α * detI β 0 β) = _
  have f1 : mixI 13 (34 - 13) (detI α 0 α) (detI β 0 β) α β = α * β * (13 * β + 21 * α) := by unfold mixI detI; grind
  have f2 : mixI 13 (34 - 13) (detI α 0 α) (detI β 0 β) (-0) (-0) = 0 := by unfold mixI detI; grind
  have f4 : mixI 13 (34 - 13) (detI α 0 α) (detI β 0 β) (α * x + -0 * 0) (β * 0 + -0 * 0) = 13 * (α * x * (β * β)) := by unfold mixI detI; grind
  have f5 : mixI 13 (34 - 13) (detI α 0 α) (detI β 0 β) (-0 * x + α * 0) (-0 * 0 + β * 0) = 0 := by unfold mixI detI; grind
  have f6 : mixI 13 (34 - 13) (detI α 0 α) (detI β 0 β) (quadI α (-0) α x 0) (quadI β (-0) β 0 0) = 13 * (α * (x * x) * (β * β)) := by unfold mixI; simp only [detI, quadI_eq]; grind
  have f7 : 34 * detI α 0 α * detI β 0 β = 34 * (α * α * (β * β)) := by unfold detI; grind
  rw [f1, f2, f4, f5, f6, f7]
  have hab : 0 < α * β := Int.mul_pos (by omega) (by omega)
  have hM : 0 < 13 * β + 21 * α := by omega
  have hA : 0 < α * β * (13 * β + 21 * α) := Int.mul_pos hab hM
  unfold ellI
  rw [if_neg (by omega)]
  have hdet : detI (α * β * (13 * β + 21 * α)) 0 (α * β * (13 * β + 21 * α)) = α * β * (13 * β + 21 * α) * (α * β * (13 * β + 21 * α)) := by unfold detI; omega
  rw [hdet]
  have hA2 := Int.mul_pos hA hA
  rw [if_neg (by omega)]
  have hs : sizI (α * β * (13 * β + 21 * α)) 0 (α * β * (13 * β + 21 * α)) (13 * (α * x * (β * β))) 0 (13 * (α * (x * x) * (β * β))) (34 * (α * α * (β * β))) (α * β * (13 * β + 21 * α) * (α * β * (13 * β + 21 * α)))
      = α * β * (13 * β + 21 * α) * (α * β * (α * β) * (α * β)) * (442 * β + 714 * α - 273 * (x * x)) := by unfold sizI; grind
  have hp : 0 < α * β * (13 * β + 21 * α) * (α * β * (α * β) * (α * β)) := Int.mul_pos hA (Int.mul_pos (Int.mul_pos hab hab) hab)
  rw [hs, if_pos (Int.mul_neg_of_pos_of_neg hp (by omega))]
theorem gFuse_13 {e f : El} (he : e.may = true) (hf : f.may = true) (h : mkF e f 13 = ⟨.zero, 3⟩) : gFuse e f = ⟨.zero, 3⟩ := by
  unfold gFuse
  rw [he, hf, (empM_iff (mkF e f) (gfin (oM (mkF e f))).2.2).2 ⟨13, (gfin_best (oM (mkF e f))).l13, by rw [h]; rfl⟩]
  rfl
theorem acq_near {e n : El} {hi : Int} (hn : n.may = true) (h0 : 0 ≤ hi) (h1 : hi + n.rad ≤ 4194304) : nearV e n hi = gFuse e (n.ball (hi + n.rad)) ∧ (n.ball (hi + n.rad)).may = true := by
  have hr := rad_bd hn
  unfold nearV
  rcases acqV_cases n hi with ha | ha | ⟨_, _, _, _, ha, hb⟩
  · exfalso
    unfold acqV at ha
    rw [hn, decide_eq_true h0, decide_eq_true (show hi ≤ 4194304 by omega), decide_eq_true h1] at ha
    exact absurd (congrArg Mk.n ha) (show ¬ (0 : Nat) = 1 by omega)
  · exfalso
    unfold acqV at ha
    rw [hn, decide_eq_true h0, decide_eq_true (show hi ≤ 4194304 by omega), decide_eq_true h1] at ha
    exact absurd (congrArg Mk.n ha) (show ¬ (0 : Nat) = 2 by omega)
  · rw [ha]
    exact ⟨rfl, hb⟩
theorem may_ball {x r : Int} (hx : -4194304 ≤ x ∧ x ≤ 4194304) (hr : 1 ≤ r ∧ r ≤ 4194304) : (far_e x r).may = true := by
  show mayL x 0 (r * r) 0 (r * r) = true
  exact ball_may (within_iff.2 (by omega)) (mayR_iff.2 hr)
theorem rad_ball {x r : Int} (hx : -4194304 ≤ x ∧ x ≤ 4194304) (hr : 1 ≤ r ∧ r ≤ 4194304) : 1 ≤ (far_e x r).rad ∧ (far_e x r).rad ≤ 2 * r := by
  have h := may_ball hx hr
  have hb := rad_bd h
  refine ⟨hb.1, ?_⟩
  have e : (far_e x r).rad = upI (r * r + r * r) := by unfold El.rad radI trI; rw [show mayL (far_e x r).x (far_e x r).y (far_e x r).a (far_e x r).b (far_e x r).d = true from h]; rfl
  rw [e]
  have n0 := sq_nn r
  have e2 : 2 * r * (2 * r) = 4 * (r * r) := by grind
  exact (upI_bounds (m := r * r + r * r) (K := 2 * r) (by omega) (by omega) (by omega)).2.1
theorem has_ball {x r p q : Int} (hx : -4194304 ≤ x ∧ x ≤ 4194304) (hr : 1 ≤ r ∧ r ≤ 4194304) (hp : (-1073741824 ≤ p ∧ p ≤ 1073741824) ∧ (-1073741824 ≤ q ∧ q ≤ 1073741824)) (h : (p - x) * (p - x) + q * q ≤ r * r) : (far_e x r).has p q = true := by
  show inE x 0 (r * r) 0 (r * r) p q = true
  rw [ball_in (within_iff.2 (by omega)) (mayR_iff.2 hr) hp, Int.sub_zero]
  exact decide_eq_true h
theorem far_near {r s g : Int} (hr : 2 ≤ r ∧ r ≤ 1001) (hs : 2 ≤ s ∧ s ≤ 1001) (hg : 1 ≤ g ∧ g ≤ 1000) : updV (far_e (8 * (r + s) + g) r) (far_e 0 s) 0 1 = ⟨.zero, 3⟩ := by
  obtain ⟨x, hx⟩ : ∃ x, 8 * (r + s) + g = x := ⟨_, rfl⟩
  rw [hx]
  have me := may_ball (x := x) (r := r) (by omega) (by omega)
  have mn := may_ball (x := 0) (r := s) (by omega) (by omega)
  obtain ⟨r0, r1⟩ := rad_ball (x := 0) (r := s) (by omega) (by omega)
  have hm : measB (far_e x r) (far_e 0 s) 0 1 = true := measB_iff.2 ⟨me, mn, by omega, by omega, by omega⟩
  obtain ⟨hn, hb⟩ := acq_near (e := far_e x r) (hi := 1) mn (by omega) (by omega)
  have hB : (1 + (far_e 0 s).rad) * (1 + (far_e 0 s).rad) ≤ 3 * s * (3 * s) := Int.mul_le_mul (by omega) (by omega) (by omega) (by omega)
  have hX : (8 * r + 8 * s) * (8 * r + 8 * s) ≤ x * x := Int.mul_le_mul (by omega) (by omega) (by omega) (by omega)
  have e1 : (8 * r + 8 * s) * (8 * r + 8 * s) = 64 * (r * r) + 64 * (s * s) + 128 * (r * s) := by grind
  have e2 : 3 * s * (3 * s) = 9 * (s * s) := by grind
  have e3 := Int.mul_nonneg (show 0 ≤ r by omega) (show 0 ≤ s by omega)
  have e4 := Int.mul_pos (show 0 < r by omega) (show 0 < r by omega)
  have e5 := Int.mul_pos (show 0 < s by omega) (show 0 < s by omega)
  have hmk : mkF (far_e x r) ((far_e 0 s).ball (1 + (far_e 0 s).rad)) 13 = ⟨.zero, 3⟩ := toMk_t (fuse_far (x := x) (α := r * r) (β := (1 + (far_e 0 s).rad) * (1 + (far_e 0 s).rad)) me hb (by omega))
  rw [gFuse_13 me hb hmk] at hn
  unfold updV
  rw [hm, hn]
  rfl
theorem csq_up {z K : Int} (h0 : 0 ≤ K) (hz : 0 ≤ z) (h : z ≤ K * K) : ((csq z.natAbs : Nat) : Int) ≤ K := by
  have := up_le h0 hz h
  omega
theorem isq_ge {z n : Int} (hz : 0 ≤ z) (h : z * z ≤ n) : z ≤ ((isq n.natAbs : Nat) : Int) := by
  obtain ⟨k, rfl⟩ : ∃ k : Nat, z = k := ⟨z.toNat, by omega⟩
  rw [← Int.natCast_mul] at h
  have := isq_le (n := n.natAbs) (a := k) (by omega)
  omega
/-- What holds a ball and is no greater is the ball. -/
theorem ball_same {x r : Int} {f : El} (hm : f.may = true) (ht : f.tr ≤ (far_e x r).tr) (me : (far_e x r).may = true) (h1 : f.has (x + r) 0 = true) (h2 : f.has (x - r) 0 = true) (h3 : f.has x r = true) (h4 : f.has x (-r) = true) : f = far_e x r := by
  have t1 : f.tr = f.a + f.d := by unfold El.tr trI; rw [show mayL f.x f.y f.a f.b f.d = true from hm]
  have t2 : (far_e x r).tr = r * r + r * r := by unfold El.tr trI; rw [show mayL (far_e x r).x (far_e x r).y (far_e x r).a (far_e x r).b (far_e x r).d = true from me]; rfl
  have k1 := holds_sq (inE_near h1).2.2.1
  have k2 := holds_sq (inE_near h2).2.2.1
  have k3 := holds_sq (inE_near h3).2.2.1
  have k4 := holds_sq (inE_near h4).2.2.1
  have e1 : (x + r - f.x) * (x + r - f.x) + (x - r - f.x) * (x - r - f.x) = 2 * (r * r) + 2 * ((x - f.x) * (x - f.x)) := by grind
  have e2 : (r - f.y) * (r - f.y) + (-r - f.y) * (-r - f.y) = 2 * (r * r) + 2 * (f.y * f.y) := by grind
  have n1 := sq_nn (x - f.x)
  have n2 := sq_nn f.y
  have x0 : x - f.x = 0 := by
    rcases Int.mul_eq_zero.1 (show (x - f.x) * (x - f.x) = 0 by omega) with h | h <;> exact h
  have y0 : f.y = 0 := by
    rcases Int.mul_eq_zero.1 (show f.y * f.y = 0 by omega) with h | h <;> exact h
  have a0 : f.a = r * r := by omega
  have d0 : f.d = r * r := by omega
  have hh := (inE_near h1).2.2.1
  rw [show x + r - f.x = r by omega, y0, a0, d0] at hh
  have hp := (psdI_iff.1 (holdsE_eq ▸ hh)).2.2
  have b0 : f.b = 0 := by
    have e3 : (r * r - r * r) * (r * r - 0 * 0) - (f.b - r * (0 - 0)) * (f.b - r * (0 - 0)) = -(f.b * f.b) := by grind
    have n3 := sq_nn f.b
    rw [Int.sub_zero] at *
    rcases Int.mul_eq_zero.1 (show f.b * f.b = 0 by omega) with h | h <;> exact h
  obtain ⟨fx, fy, fa, fb, fd⟩ := f
  show El.mk fx fy fa fb fd = El.mk x 0 (r * r) 0 (r * r)
  rw [show fx = x by have : x - fx = 0 := x0; omega, show fy = 0 from y0, show fa = r * r from a0, show fb = 0 from b0, show fd = r * r from d0]
theorem far_ring {x r s : Int} (hr : 2 ≤ r ∧ r ≤ 1001) (hs : 2 ≤ s ∧ s ≤ 1001) (hx : 8 * (r + s) < x ∧ x ≤ 20000) : inRing (far_e x r) (far_e 0 s) (3 * x) (3 * x + 1) = ⟨.zero, 3⟩ := by
  have me := may_ball (x := x) (r := r) (by omega) (by omega)
  have mn := may_ball (x := 0) (r := s) (by omega) (by omega)
  obtain ⟨r0, r1⟩ := rad_ball (x := 0) (r := s) (by omega) (by omega)
  have hm : measB (far_e x r) (far_e 0 s) (3 * x) (3 * x + 1) = true := measB_iff.2 ⟨me, mn, by omega, by omega, by omega⟩
  have ho : isO (rgX (far_e x r) (far_e 0 s)) (rgY (far_e x r) (far_e 0 s)) = false := by
    show isO (x - 0) (0 - 0) = false
    unfold isO
    rw [decide_eq_false (show ¬ x - 0 = 0 by omega)]
    rfl
  have hU : rgU (far_e x r) (far_e 0 s) (3 * x + 1) < rgL (far_e x r) (far_e 0 s) (3 * x) := by
    have ex : rgX (far_e x r) (far_e 0 s) = x := Int.sub_zero x
    have ey : rgY (far_e x r) (far_e 0 s) = 0 := rfl
    have hrx : 0 ≤ r * x := Int.mul_nonneg (by omega) (by omega)
    have q1 : quadI (r * r) 0 (r * r) x 0 = r * x * (r * x) := by rw [quadI_eq]; grind
    have q2 : quadI (r * r) 0 (r * r) (-0) x = r * x * (r * x) := by rw [quadI_eq]; grind
    have hw : (far_e x r).al x 0 ≤ r * x := by
      show ((csq (quadI (r * r) 0 (r * r) x 0).natAbs : Nat) : Int) ≤ _
      rw [q1]
      exact csq_up hrx (sq_nn _) (Int.le_refl _)
    have hk : (far_e x r).al (-0) x ≤ r * x := by
      show ((csq (quadI (r * r) 0 (r * r) (-0) x).natAbs : Nat) : Int) ≤ _
      rw [q2]
      exact csq_up hrx (sq_nn _) (Int.le_refl _)
    have hk0 : 0 ≤ (far_e x r).al (-0) x := by unfold El.al; omega
    have eh : sqH x 0 = x * x := by unfold sqH; omega
    unfold rgU rgL ringU
    rw [ex, ey, eh]
    generalize (far_e x r).al x 0 = w at *
    generalize (far_e x r).al (-0) x = k at *
    generalize (far_e 0 s).rad = ρ at *
    have hxx : x * (8 * (r + s)) ≤ x * x := Int.mul_le_mul_of_nonneg_left (by omega) (by omega)
    have e1 : x * (8 * (r + s)) = 8 * (r * x) + 8 * (s * x) := by grind
    have hsx : 0 < s * x := Int.mul_pos (by omega) (by omega)
    unfold ringL
    rw [if_neg (by omega)]
    have em : max (3 * x - ρ) 0 = 3 * x - ρ := by omega
    rw [em]
    have hm2 : (2 * x + 2 * r) * (2 * x + 2 * r) ≤ (3 * x - ρ) * (3 * x - ρ) := Int.mul_le_mul (by omega) (by omega) (by omega) (by omega)
    have hm3 : x * x * ((2 * x + 2 * r) * (2 * x + 2 * r)) ≤ x * x * ((3 * x - ρ) * (3 * x - ρ)) := Int.mul_le_mul_of_nonneg_left hm2 (sq_nn x)
    have hk2 : k * k ≤ r * x * (r * x) := Int.mul_le_mul hk hk hk0 hrx
    have hX : 1 ≤ x * x + r * x := by omega
    have e2 : x * x * ((2 * x + 2 * r) * (2 * x + 2 * r)) = 4 * ((x * x + r * x) * (x * x + r * x)) := by grind
    have hX2 : x * x + r * x ≤ (x * x + r * x) * (x * x + r * x) := by
      have := Int.mul_le_mul_of_nonneg_left hX (show 0 ≤ x * x + r * x by omega)
      omega
    have e3 : (x * x + r * x + 1) * (x * x + r * x + 1) = (x * x + r * x) * (x * x + r * x) + 2 * (x * x + r * x) + 1 := by grind
    have hrr : r * x * (r * x) ≤ (x * x + r * x) * (x * x + r * x) := Int.mul_le_mul (by omega) (by omega) hrx (by omega)
    have h64 : 4 ≤ x * x + r * x := by
      have : 16 * 16 ≤ x * x := Int.mul_le_mul (by omega) (by omega) (by omega) (by omega)
      omega
    have hX4 : 4 * (x * x + r * x) ≤ (x * x + r * x) * (x * x + r * x) := Int.mul_le_mul_of_nonneg_right h64 (by omega)
    have hge : x * x + r * x + 1 ≤ dnI (x * x * ((3 * x - ρ) * (3 * x - ρ)) - k * k) := by
      unfold dnI
      rw [if_neg (by omega)]
      exact isq_ge (by omega) (by omega)
    generalize dnI (x * x * ((3 * x - ρ) * (3 * x - ρ)) - k * k) = D at *
    omega
  unfold inRing
  rw [hm, ho, decide_eq_true hU]
theorem far_off {r s x : Int} (hr : 2 ≤ r ∧ r ≤ 1001) (hs : 2 ≤ s ∧ s ≤ 1001) (hx : 8 * (r + s) < x ∧ x ≤ 20000) : updV (far_e x r) (far_e 0 s) (3 * x) (3 * x + 1) = ⟨.zero, 3⟩ := by
  have me := may_ball (x := x) (r := r) (by omega) (by omega)
  have mn := may_ball (x := 0) (r := s) (by omega) (by omega)
  obtain ⟨r0, r1⟩ := rad_ball (x := 0) (r := s) (by omega) (by omega)
  have hm : measB (far_e x r) (far_e 0 s) (3 * x) (3 * x + 1) = true := measB_iff.2 ⟨me, mn, by omega, by omega, by omega⟩
  obtain ⟨hn, hb⟩ := acq_near (e := far_e x r) (hi := 3 * x + 1) mn (by omega) (by omega)
  have key : ∀ f : El, nearV (far_e x r) (far_e 0 s) (3 * x + 1) = ⟨f, 0⟩ → updV (far_e x r) (far_e 0 s) (3 * x) (3 * x + 1) = inRing f (far_e 0 s) (3 * x) (3 * x + 1) := fun f h => upd_near hm h
  rcases gFuse_cases me hb with ⟨g1, _⟩ | ⟨f, g1, g2, g3, _, g5⟩
  · rw [g1] at hn
    unfold updV
    rw [hm, hn]
    rfl
  · rw [g1] at hn
    have hR : (far_e 0 s).ball (3 * x + 1 + (far_e 0 s).rad) = far_e 0 (3 * x + 1 + (far_e 0 s).rad) := rfl
    rw [hR] at g5
    generalize (far_e 0 s).rad = ρ at *
    have hin : ∀ p q, (-(2 * x) ≤ p ∧ p ≤ 2 * x) → (-x ≤ q ∧ q ≤ x) → (p - x) * (p - x) + q * q ≤ r * r → f.has p q = true := fun p q hp hq h => by
      refine g5 p q (has_ball (by omega) (by omega) (by omega) h) (has_ball (by omega) (by omega) (by omega) ?_)
      have s1 := sq_le hp
      have s2 := sq_le hq
      rw [Int.sub_zero]
      have e1 : 2 * x * (2 * x) = 4 * (x * x) := by grind
      have e2 : (3 * x) * (3 * x) ≤ (3 * x + 1 + ρ) * (3 * x + 1 + ρ) := Int.mul_le_mul (by omega) (by omega) (by omega) (by omega)
      have e3 : 3 * x * (3 * x) = 9 * (x * x) := by grind
      have := sq_nn x
      omega
    have e1 : (x + r - x) * (x + r - x) + 0 * 0 = r * r := by grind
    have e2 : (x - r - x) * (x - r - x) + 0 * 0 = r * r := by grind
    have e3 : (x - x) * (x - x) + r * r = r * r := by grind
    have e4 : (x - x) * (x - x) + -r * -r = r * r := by grind
    have hs := ball_same (x := x) (r := r) g2 g3 me (hin _ _ (by omega) (by omega) (by omega)) (hin _ _ (by omega) (by omega) (by omega)) (hin _ _ (by omega) (by omega) (by omega)) (hin _ _ (by omega) (by omega) (by omega))
    rw [key f hn, hs]
    exact far_ring hr ‹_› hx
theorem enters_stripFar : ∀ us w, (callFunc 7 us).run Tryz.prog w = .ok (.enter 7 us) w := enters Tryz.func7 rfl (by kernel_rfl)
theorem stripFar_run {r s g r' s' g' x lo hi : Int} {e n : El} (er : IntKind.i64.wrap (2 + IntKind.i64.wrap ((IntKind.u64.wrap r).tmod 1000)) = r') (es : IntKind.i64.wrap (2 + IntKind.i64.wrap ((IntKind.u64.wrap s).tmod 1000)) = s') (eg : IntKind.i64.wrap (1 + IntKind.i64.wrap ((IntKind.u64.wrap g).tmod 1000)) = g')
    (exx : IntKind.i64.wrap (IntKind.i64.wrap (8 * IntKind.i64.wrap (r' + s')) + g') = x) (q1 : QC Tryz.prog 20 [pt x 0, .int .i64 r'] (Mk.mk e 0).val) (q2 : QC Tryz.prog 20 [pt 0 0, .int .i64 s'] (Mk.mk n 0).val)
    (q3 : QC Tryz.prog 10 [e.val, n.val, .int .i64 0, .int .i64 1] (Mk.mk .zero 3).val) (el : IntKind.i64.wrap (3 * x) = lo) (eh : IntKind.i64.wrap (lo + 1) = hi) (q4 : QC Tryz.prog 10 [e.val, n.val, .int .i64 lo, .int .i64 hi] (Mk.mk .zero 3).val) :
    PC Tryz.prog 7 [.int .i64 r, .int .i64 s, .int .i64 g] (.bool true) :=
  PC.run mixed Tryz.func7 [.is 5 (.int .i64 r'), .is 4 (.int .i64 s'), .is 4 (.int .i64 g'), .is 8 (.int .i64 x), .res (Mk.mk e 0).val, .res (Mk.mk n 0).val, .res (Mk.mk .zero 3).val, .is 10 (.int .i64 lo), .is 1 (.int .i64 lo), .is 0 (.int .i64 hi), .res (Mk.mk .zero 3).val, .res (.bool true)] rfl ts0
    (qs12 (congrArg (Value.int .i64) er) (congrArg (Value.int .i64) es) (congrArg (Value.int .i64) eg) (congrArg (Value.int .i64) exx) q1 q2 q3 (congrArg (Value.int .i64) el) (congrArg (Value.int .i64) el) (congrArg (Value.int .i64) eh) q4 awake8) rfl rfl (by kernel_rfl)
theorem stripFar_pc (r s g : Int) : PC Tryz.prog 7 [.int .i64 r, .int .i64 s, .int .i64 g] (.bool true) := by
  have hr := u64_mod r (m := 1000) (by omega) (by omega)
  have hs := u64_mod s (m := 1000) (by omega) (by omega)
  have hg := u64_mod g (m := 1000) (by omega) (by omega)
  obtain ⟨r', er⟩ : ∃ r', IntKind.i64.wrap ((IntKind.u64.wrap r).tmod 1000) = r' := ⟨_, rfl⟩
  obtain ⟨s', es⟩ : ∃ s', IntKind.i64.wrap ((IntKind.u64.wrap s).tmod 1000) = s' := ⟨_, rfl⟩
  obtain ⟨g', eg⟩ : ∃ g', IntKind.i64.wrap ((IntKind.u64.wrap g).tmod 1000) = g' := ⟨_, rfl⟩
  rw [er] at hr
  rw [es] at hs
  rw [eg] at hg
  have bl : ∀ x r : Int, (-4194304 ≤ x ∧ x ≤ 4194304) → 1 ≤ r ∧ r ≤ 4194304 → QC Tryz.prog 20 [pt x 0, .int .i64 r] (Mk.mk (far_e x r) 0).val := fun x r hx h => ball_qc x 0 r _ (by
    unfold ballV
    rw [show mayP x 0 = true from within_iff.2 (by omega), show mayR r = true from mayR_iff.2 h]
    rfl)
  have me := may_ball (x := 8 * (2 + r' + (2 + s')) + (1 + g')) (r := 2 + r') (by omega) (by omega)
  have mn := may_ball (x := 0) (r := 2 + s') (by omega) (by omega)
  refine stripFar_run (r' := 2 + r') (s' := 2 + s') (g' := 1 + g') (x := 8 * (2 + r' + (2 + s')) + (1 + g')) (by rw [er]; exact wrapS (by omega)) (by rw [es]; exact wrapS (by omega)) (by rw [eg]; exact wrapS (by omega)) (by rw [wrapS (z := 2 + r' + (2 + s')) (by omega), wrapS (z := 8 * (2 + r' + (2 + s'))) (by omega), wrapS (by omega)])
    (bl _ _ (by omega) (by omega)) (bl 0 _ (by omega) (by omega)) (upd_qc (may_ok me) (may_ok mn) 0 1 _ (far_near (by omega) (by omega) (by omega))) (wrapS (by omega)) (wrapS (by omega)) (upd_qc (may_ok me) (may_ok mn) _ _ _ (far_off (by omega) (by omega) (by omega)))
end Go.Proofs.YtaibhjphgdjcmaaGreat.W
