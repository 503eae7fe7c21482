/-
  InfoMeets: what is in both is in what is fused, or cut.
-/
import Derived.Test.YtcpaajjeoeejaaaGreatInfoTurns
namespace Go.Proofs.YtcpaajjeoeejaaaGreat.W
open Go Go.Ev Go.Wide

theorem fuse_meets {x y a b d X Y A B D w p q P Q R S T : Int} {e : Nat} (h0 : 0 ≤ w) (h1 : w ≤ 34) (h : inE x y a b d p q = true) (h' : inE X Y A B D p q = true) (he : fuseV x y a b d X Y A B D w = ellT P Q R S T e) : ¬ ((e : Nat) : Int) = 3 ∧ (((e : Nat) : Int) = 0 → inE P Q R S T p q = true) := by
  obtain ⟨m1, k1, i1, _, _⟩ := inE_near h
  obtain ⟨m2, _, i2, _, _⟩ := inE_near h'
  unfold fuseV at he
  rw [m1, m2] at he
  have g1 := mayL_iff.1 m1
  have g2 := mayL_iff.1 m2
  have := ellQ_holds (within_iff.1 k1) (mix_holds h0 h1 (show 0 ≤ detI a b d by omega) (show 0 ≤ detI A B D by omega) ((of_in m1).2 i1) ((of_in m2).2 i2)) he
  exact ⟨by omega, fun h => this.2 (by omega)⟩
theorem cut_meets {x y a b d ox oy hx hy lo hi w p q P Q R S T : Int} {e : Nat} (h0 : 0 ≤ w) (h1 : w ≤ 34) (h : inE x y a b d p q = true) (h' : mayS ox oy hx hy lo hi = true) (c1 : ¬ atI ox oy hx hy p q < lo) (c2 : ¬ atI ox oy hx hy p q > hi) (he : cutV x y a b d ox oy hx hy lo hi w = ellT P Q R S T e) : ¬ ((e : Nat) : Int) = 3 ∧ (((e : Nat) : Int) = 0 → inE P Q R S T p q = true) := by
  obtain ⟨m1, k1, i1, _, _⟩ := inE_near h
  unfold cutV at he
  rw [m1, h'] at he
  have g1 := mayL_iff.1 m1
  have g2 := mayS_iff.1 h'
  have := ellQ_holds (within_iff.1 k1) (mix_holds (j := osQ ox oy hx hy lo hi) h0 h1 (show 0 ≤ detI a b d by omega) (show 0 ≤ (hi - lo) * (hi - lo) from sq_nn _) ((of_in m1).2 i1) ((os_in g2.2.2.2.2.1).2 ⟨by omega, by omega⟩)) he
  exact ⟨by omega, fun h => this.2 (by omega)⟩
theorem inE_i64 {x y a b d p q : Int} (h : inE x y a b d p q = true) : I64 a ∧ I64 b ∧ I64 d := by
  have g := mayL_iff.1 (inE_near h).1
  exact ⟨⟨by omega, by omega⟩, ⟨by omega, by omega⟩, by omega, by omega⟩
/-- Where a point is across a strip, as the program reckons. -/
def atW (ox oy hx hy p q : Int) : Int := IntKind.i64.wrap (IntKind.i64.wrap (hx * IntKind.i64.wrap (p - ox)) + IntKind.i64.wrap (hy * IntKind.i64.wrap (q - oy)))
theorem atW_eq {ox oy hx hy lo hi p q : Int} (h : mayS ox oy hx hy lo hi = true) (hp : -1073741824 ≤ p ∧ p ≤ 1073741824) (hq : -1073741824 ≤ q ∧ q ≤ 1073741824) : atW ox oy hx hy p q = atI ox oy hx hy p q := by
  have g := mayS_iff.1 h
  have b1 := mul_bd (x := hx) (y := p - ox) (p := 16777216) (q := 2147483648) (by omega) (by omega)
  have b2 := mul_bd (x := hy) (y := q - oy) (p := 16777216) (q := 2147483648) (by omega) (by omega)
  unfold atW atI
  rw [wrapS (z := p - ox) (by omega), wrapS (z := q - oy) (by omega), wrapS (z := hx * (p - ox)) (by omega), wrapS (z := hy * (q - oy)) (by omega), wrapS (by omega)]
theorem neN {e : Nat} (h : ((e : Nat) : Int) = 0) : (!!decide (((e : Nat) : Int) = 0)) = true := by rw [decide_eq_true h]; rfl
end Go.Proofs.YtcpaajjeoeejaaaGreat.W
