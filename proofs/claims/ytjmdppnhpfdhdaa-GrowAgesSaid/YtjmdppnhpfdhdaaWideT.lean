/-
  Texts of known numbers.
-/
import Derived.Test.YtjmdppnhpfdhdaaWideM
namespace Go.Proofs.Ytjmdppnhpfdhdaa.W
open Go Go.Ev Go.Wide

theorem bitLen_eq {x n : Nat} (h1 : 2 ^ n ≤ x) (h2 : x < 2 ^ (n + 1)) : bitLen x = n + 1 := by
  have a := bitLen_lt_iff.2 h2
  have b : ¬ bitLen x ≤ n := fun h => by have := bitLen_lt_iff.1 h; omega
  omega
theorem text_of {z : Int} {M L : Nat} {s : Bool} (hz : z.natAbs = M) (hs : decide (z < 0) = s) (hl : hexLen M = L) : textB (some z) = strOf ((List.range (sLen s + L)).map (tc M L s)) := by
  subst hz hs hl; rfl
theorem small_T16 {x : Nat} (h : x < 18446744073709551616) : x < T16 := by
  rw [T16_eq]
  exact bitLen_pw.1 (Nat.le_trans (bitLen_lt_iff.2 (show x < 2 ^ 64 from h)) (by omega))
theorem small_Hi {x n : Nat} (h : x < 2 ^ n) (hn : n ≤ 1023) : x < Hi := bitLen_Hi.1 (Nat.le_trans (bitLen_lt_iff.2 h) hn)
end Go.Proofs.Ytjmdppnhpfdhdaa.W
