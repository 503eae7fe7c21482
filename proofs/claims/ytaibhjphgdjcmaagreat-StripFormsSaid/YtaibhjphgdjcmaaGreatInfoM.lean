/-
  Package info: what inequalities, mixtures and their ellipses hold.
-/
import Derived.Test.YtaibhjphgdjcmaaGreatInfo5
/-! Package info: what inequalities, mixtures and their ellipses hold. -/
namespace Go.Proofs.YtaibhjphgdjcmaaGreat.W
open Go Go.Ev Go.Wide

/-! ### Mixtures -/
/-! ### An ellipse's inequality, a strip's -/
def atI (ox oy hx hy p q : Int) : Int := hx * (p - ox) + hy * (q - oy)
/-! ### The ellipse of an inequality -/
section
variable {a b d u v z n p q : Int}
end
end Go.Proofs.YtaibhjphgdjcmaaGreat.W
