/-
  The reference's numbers: Text.
-/
import Derived.Test.YtaibhjphgdjcmaaGreatTokE
/-! The reference: Text. -/
namespace Go.Proofs.YtaibhjphgdjcmaaGreat.R
open Go Go.Ev Go.W32
open Go.Proofs.YtaibhjphgdjcmaaGreat.W (mixed rsl i64_wrap u64_wrap u32_wrap bitLen_lt_iff clamp WF signI Hi bitLen_Hi textB tc sLen hexLen hexd chr hexS)

def ptr0 : Value := .pointer (some ⟨0, 0, none⟩)
def boxT (s : Bool) (N n : Nat) : Blk := ⟨[.bool s, .bool false, tk N n], 56, true⟩
def rtS (s : Bool) (N n : Nat) (B : ByteArray) (i : Int) : St := ⟨slots 50 [(1, ptr0), (3, .string B), (4, .int .i64 i)], [boxT s N n]⟩
def rtL : List Nat := [1, 3, 4]
/-- A text not empty? -/
def ne0 (B : ByteArray) : Bool := !(B.toList == (⟨#[]⟩ : ByteArray).toList)
/-- The digits from the top down to place k. -/
def dI (N L k : Nat) : List Int := (List.range (L - k)).map fun t => chr (hexd N (L - 1 - t))
end Go.Proofs.YtaibhjphgdjcmaaGreat.R
