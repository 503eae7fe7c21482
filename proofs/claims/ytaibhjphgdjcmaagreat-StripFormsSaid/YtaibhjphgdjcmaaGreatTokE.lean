/-
  The reference's numbers: Shift, Cmp, Int64.
-/
import Derived.Test.YtaibhjphgdjcmaaGreatTokD
/-! The reference: Shift, Cmp, Int64. -/
namespace Go.Proofs.YtaibhjphgdjcmaaGreat.R
open Go Go.Ev Go.W32
open Go.Proofs.YtaibhjphgdjcmaaGreat.W (mixed rsl i64_wrap u64_wrap u32_wrap bitLen_lt_iff clamp WF wadd wsub wneg wmul wshift wcmp signI absN wint ordI Hi bitLen_Hi clamp_eq clamp_wf wneg_wf sg downK sg_down sg_up sg_natAbs lt_Hi_pow fits64 wshift_wf)

/-! ### Shift -/
theorem nw_pow {n k : Nat} (h : n < 32 * k) : nw (2 ^ n) ≤ k := nw_le (Nat.pow_lt_pow_right (by omega) h)
def rBB (s o : Bool) (N : Nat) : Blk := ⟨[.bool s, .bool o, tk N (nw N)], 56, true⟩
def zB : Blk := ⟨[.bool false, .bool false, .slice none 0 0], 56, true⟩
def pB (k : Nat) : Value := .pointer (some ⟨k, 0, none⟩)
end Go.Proofs.YtaibhjphgdjcmaaGreat.R
