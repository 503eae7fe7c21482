/-
  InfoTurns: fused in either order.
-/
import Derived.Test.YtaibhjphgdjcmaaGreatInfoM
namespace Go.Proofs.YtaibhjphgdjcmaaGreat.W
open Go Go.Ev Go.Wide

def n35 (s : Int) : Int := IntKind.i64.wrap ((IntKind.u64.wrap s).tmod 35)
end Go.Proofs.YtaibhjphgdjcmaaGreat.W
