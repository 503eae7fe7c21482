/-
  InfoMeets: what is in both is in what is fused, or cut.
-/
import Derived.Test.YtaibhjphgdjcmaaGreatInfoTurns
namespace Go.Proofs.YtaibhjphgdjcmaaGreat.W
open Go Go.Ev Go.Wide

/-- Where a point is across a strip, as the program reckons. -/
def atW (ox oy hx hy p q : Int) : Int := IntKind.i64.wrap (IntKind.i64.wrap (hx * IntKind.i64.wrap (p - ox)) + IntKind.i64.wrap (hy * IntKind.i64.wrap (q - oy)))
end Go.Proofs.YtaibhjphgdjcmaaGreat.W
