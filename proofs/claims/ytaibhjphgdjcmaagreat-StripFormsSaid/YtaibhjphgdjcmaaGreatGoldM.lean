/-
  Package golden: what is in both is in what is fused, or cut; traces.
-/
import Derived.Test.YtaibhjphgdjcmaaGreatGold5
import Derived.Test.YtaibhjphgdjcmaaGreatInfoMeets
namespace Go.Proofs.YtaibhjphgdjcmaaGreat.W
open Go Go.Ev Go.Wide

def El.has (e : El) (p q : Int) : Bool := inE e.x e.y e.a e.b e.d p q
theorem mkF_good (e f : El) (w : Int) : ((mkF e f w).n = 0 ∧ (mkF e f w).e.may = true) ∨ ((mkF e f w).n ≠ 0 ∧ (mkF e f w).e = .zero) := (fuseV_good _ _ _ _ _ _ _ _ _ _ w).mk.2.2
theorem mkC_good (e : El) (s : Sp) (w : Int) : ((mkC e s w).n = 0 ∧ (mkC e s w).e.may = true) ∨ ((mkC e s w).n ≠ 0 ∧ (mkC e s w).e = .zero) := (cutV_good _ _ _ _ _ _ _ _ _ _ _ w).mk.2.2
end Go.Proofs.YtaibhjphgdjcmaaGreat.W
