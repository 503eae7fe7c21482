/-
  Package strip: what Update keeps, and that it makes nothing greater; awake.
-/
import Derived.Test.YtaibhjphgdjcmaaGreatStrip
import Derived.Test.YtaibhjphgdjcmaaGreatGoldM
namespace Go.Proofs.YtaibhjphgdjcmaaGreat.W
open Go Go.Ev Go.Wide

/-- The square of the distance of two points. -/
def d2 (p q u v : Int) : Int := (p - u) * (p - u) + (q - v) * (q - v)
/-- A point of e that is so far from a point of n. -/
structure Far (e n : El) (lo hi p q u v : Int) : Prop where
  e : e.has p q = true
  n : n.has u v = true
  lo : lo * lo ≤ d2 p q u v
  hi : d2 p q u v ≤ hi * hi
theorem has_rad {n : El} {u v : Int} (h : n.has u v = true) : d2 u v n.x n.y ≤ n.rad * n.rad ∧ 0 ≤ n.rad := near_radius h
theorem d2_tri {p q u v x y a b : Int} (ha : 0 ≤ a) (hb : 0 ≤ b) (h1 : d2 p q u v ≤ a * a) (h2 : d2 u v x y ≤ b * b) : d2 p q x y ≤ (a + b) * (a + b) := by
  have := tri_up (a1 := p - u) (a2 := q - v) (b1 := u - x) (b2 := v - y) ha hb h1 h2
  unfold d2
  rw [show p - u + (u - x) = p - x by omega, show q - v + (v - y) = q - y by omega] at this
  exact this
theorem far_ball {e n : El} {lo hi p q u v : Int} (h : Far e n lo hi p q u v) (h0 : 0 ≤ hi) (h1 : hi + n.rad ≤ 4194304) : (n.ball (hi + n.rad)).has p q = true := by
  have hr := has_rad h.n
  have hb := rad_bd (has_may h.n)
  have g := mayL_iff.1 (show mayL n.x n.y n.a n.b n.d = true from has_may h.n)
  have hw := (inE_near h.e).2.1
  have ht := d2_tri h0 hr.2 h.hi hr.1
  show inE n.x n.y ((hi + n.rad) * (hi + n.rad)) 0 ((hi + n.rad) * (hi + n.rad)) p q = true
  rw [ball_in (within_iff.2 (by omega)) (mayR_iff.2 (by omega)) (within_iff.1 hw)]
  exact decide_eq_true ht
theorem near_cases {e n : El} (he : e.may = true) (lo hi : Int) (h0 : 0 ≤ hi) : (nearV e n hi = ⟨.zero, 3⟩ ∧ ∀ p q u v, ¬ Far e n lo hi p q u v) ∨
    ∃ g : El, nearV e n hi = ⟨g, 0⟩ ∧ g.may = true ∧ g.tr ≤ e.tr ∧ ∀ p q u v, Far e n lo hi p q u v → Far g n lo hi p q u v := by
  unfold nearV
  rcases acqV_cases n hi with h | h | ⟨h1, h2, h3, h4, h, hb⟩
  · rw [h]; exact .inr ⟨e, rfl, he, Int.le_refl _, fun _ _ _ _ k => k⟩
  · rw [h]; exact .inr ⟨e, rfl, he, Int.le_refl _, fun _ _ _ _ k => k⟩
  · rw [h]
    rcases gFuse_cases he hb with ⟨g1, g2⟩ | ⟨g, g1, g2, g3, g4, g5⟩
    · exact .inl ⟨g1, fun p q u v k => g2 p q ⟨k.e, far_ball k h0 h4⟩⟩
    · exact .inr ⟨g, g1, g2, g3, fun p q u v k => ⟨g5 p q k.e (far_ball k h0 h4), k.n, k.lo, k.hi⟩⟩
/-- A point so far lies between the strip's bounds. -/
theorem far_at {e n : El} {lo hi p q u v : Int} (h : Far e n lo hi p q u v) (h1 : 0 ≤ hi) : rgL e n lo ≤ atI n.x n.y (rgX e n) (rgY e n) p q ∧ atI n.x n.y (rgX e n) (rgY e n) p q ≤ rgU e n hi := by
  obtain ⟨m1, _, hh, _, _⟩ := inE_near h.e
  obtain ⟨bx, by', sn⟩ := rg_seen (e := e) (n := n) m1 (has_may h.n)
  have hr := has_rad h.n
  have a1 := along_holds hh (al_bd (e := e) m1 (p := rgX e n) (q := rgY e n) (within_iff.2 (by omega))).1
  have a2 := along_holds hh (al_bd (e := e) m1 (p := -rgY e n) (q := rgX e n) (within_iff.2 (by omega))).1
  have key := ring_at (g := rgX e n) (k := rgY e n) (s := p - e.x) (t := q - e.y) (w := e.al (rgX e n) (rgY e n)) (c := e.al (-rgY e n) (rgX e n)) (lo := lo) (hi := hi) (r := n.rad) (a1 := p - u) (a2 := q - v) (b1 := u - n.x) (b2 := v - n.y)
    a1 a2 (by unfold rgX; omega) (by unfold rgY; omega) hr.2 h1 h.lo h.hi hr.1
  have e1 : atI n.x n.y (rgX e n) (rgY e n) p q = rgX e n * (p - e.x + rgX e n) + rgY e n * (q - e.y + rgY e n) := by
    unfold atI
    rw [show p - e.x + rgX e n = p - n.x by unfold rgX; omega, show q - e.y + rgY e n = q - n.y by unfold rgY; omega]
  rw [e1]
  exact key
theorem gCut_may {e : El} {s : Sp} (he : e.may = true) {g : El} (h : gCut e s = ⟨g, 0⟩) : g.may = true := by
  unfold gCut at h
  split at h
  · unfold smV at h
    split at h
    · cases h
    · cases h
      exact smE_may (mkC_good e s) he
  · cases h
theorem ring_cases {e n : El} {lo hi : Int} (hm : measB e n lo hi = true) : (inRing e n lo hi = ⟨.zero, 3⟩ ∧ ∀ p q u v, ¬ Far e n lo hi p q u v) ∨
    ∃ g : El, inRing e n lo hi = ⟨g, 0⟩ ∧ g.may = true ∧ g.tr ≤ e.tr ∧ ∀ p q u v, Far e n lo hi p q u v → g.has p q = true := by
  obtain ⟨he, hn, h0, h1, h2⟩ := measB_iff.1 hm
  unfold inRing
  rw [hm]
  cases ho : isO (rgX e n) (rgY e n) with
  | true => exact .inr ⟨e, rfl, he, Int.le_refl _, fun _ _ _ _ k => k.e⟩
  | false =>
    by_cases h3 : rgU e n hi < rgL e n lo
    · rw [decide_eq_true h3]
      refine .inl ⟨rfl, fun p q u v k => ?_⟩
      have := far_at k (show 0 ≤ hi by omega)
      omega
    · rw [decide_eq_false h3]
      have hs := rgS_may hm ho h3
      have hat : ∀ p q u v, Far e n lo hi p q u v → ¬ atI (rgS e n lo hi).ox (rgS e n lo hi).oy (rgS e n lo hi).hx (rgS e n lo hi).hy p q < (rgS e n lo hi).lo ∧ ¬ atI (rgS e n lo hi).ox (rgS e n lo hi).oy (rgS e n lo hi).hx (rgS e n lo hi).hy p q > (rgS e n lo hi).hi := fun p q u v k => by
        have h4 := far_at k (show 0 ≤ hi by omega)
        show ¬ atI n.x n.y (rgX e n) (rgY e n) p q < rgL e n lo ∧ ¬ atI n.x n.y (rgX e n) (rgY e n) p q > (if rgU e n hi = rgL e n lo then rgU e n hi + 1 else rgU e n hi)
        split <;> omega
      rcases gCut_cases he hs with ⟨g1, g2⟩ | ⟨g, g1, _, g3, g4⟩
      · exact .inl ⟨g1, fun p q u v k => g2 p q ⟨k.e, hat p q u v k⟩⟩
      · exact .inr ⟨g, g1, gCut_may he g1, g3, fun p q u v k => g4 p q k.e (hat p q u v k).1 (hat p q u v k).2⟩
theorem upd_cases {e n : El} {lo hi : Int} (hm : measB e n lo hi = true) : (updV e n lo hi = ⟨.zero, 3⟩ ∧ ∀ p q u v, ¬ Far e n lo hi p q u v) ∨
    ∃ g : El, updV e n lo hi = ⟨g, 0⟩ ∧ g.may = true ∧ g.tr ≤ e.tr ∧ ∀ p q u v, Far e n lo hi p q u v → g.has p q = true := by
  obtain ⟨he, hn, h0, h1, h2⟩ := measB_iff.1 hm
  unfold updV
  rw [hm]
  rcases near_cases (n := n) he lo hi (by omega) with ⟨g1, g2⟩ | ⟨f, f1, f2, f3, f4⟩
  · rw [g1]
    exact .inl ⟨rfl, g2⟩
  · rw [f1]
    show ((inRing f n lo hi = _ ∧ _) ∨ ∃ g, inRing f n lo hi = _ ∧ _)
    rcases ring_cases (e := f) (n := n) (measB_iff.2 ⟨f2, hn, h0, h1, h2⟩) with ⟨g1, g2⟩ | ⟨g, g1, g2, g3, g4⟩
    · exact .inl ⟨g1, fun p q u v k => g2 p q u v (f4 p q u v k)⟩
    · exact .inr ⟨g, g1, g2, by omega, fun p q u v k => g4 p q u v (f4 p q u v k)⟩

end Go.Proofs.YtaibhjphgdjcmaaGreat.W
