/-
  Package golden: the search on a closure that captures nothing; the law's awake.
-/
import Derived.Test.YtaibhjphgdjcmaaGreatGold4
namespace Go.Proofs.YtaibhjphgdjcmaaGreat.W
open Go Go.Ev Go.Wide

def clA (g : FuncId) : Value := .func (.func g) #[] #[]
section A
variable {g : FuncId} {o : Int → Int × Bool}
def OraA (g : FuncId) (o : Int → Int × Bool) : Prop := ∀ w, 1 ≤ w → w ≤ 33 → MC Tryz.prog g [.int .i64 w] [] (.tuple #[.int .i64 (o w).1, .bool (o w).2]) []
def stA (g : FuncId) (a b : Int) (x y : An) : St := ⟨slots 53 [(0, clA g), (5, .int .i64 a), (6, .int .i64 b), (7, ptr 0), (8, ptr 1)], [aBlk x, aBlk y]⟩
def endA (x y : An) : St :=
  ⟨slots 53 [(2, .int .i64 (match x.has with | true => x.w | false => 0)), (3, .int .i64 (match x.has with | true => x.v | false => 0)), (4, .bool x.has)], [aBlk x, aBlk y]⟩
end A
def sqA (w : Int) : Int × Bool := ((w - 9) * (w - 9), true)
end Go.Proofs.YtaibhjphgdjcmaaGreat.W
