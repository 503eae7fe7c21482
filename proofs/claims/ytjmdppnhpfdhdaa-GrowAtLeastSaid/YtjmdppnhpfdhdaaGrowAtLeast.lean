/-
  GrowAtLeast: a sum is at least each of both.
-/
import Derived.Test.YtjmdppnhpfdhdaaGrowB
import Derived.Test.YtjmdppnhpfdhdaaEvT
namespace Go.Proofs.Ytjmdppnhpfdhdaa.W
open Go Go.Ev Go.Wide

theorem growAtLeast_pc {x y a b d X Y A B D : Int} (ha : I64 a) (hb : I64 b) (hd : I64 d) (hA : I64 A) (hB : I64 B) (hD : I64 D) : PC Try.prog 8 [ell x y a b d, ell X Y A B D] (.bool true) := by
  have hfl : [ell x y a b d, ell X Y A B D].all flat = true := by simp [flat_ell, flat_pt]
  cases h1 : mayL x y a b d with
  | true =>
    cases h2 : mayL X Y A B D with
    | true =>
      cases h3 : mayG x y a b d X Y A B D with
      | true =>
        obtain ⟨iA, iB, iD⟩ := mayG_i64 h3
        exact PC.run mixed Try.func8 [.res (sumT5 x y a b d X Y A B D), .res (.bool true), .res (.bool true), .res (.bool true)] hfl (ts0 ) (qs4 (gsum_qc x y X Y ha hb hd hA hB hD _ (gsum_ok h1 h2 h3)) (leastM_qc iA iB iD ha hb hd _ (gsum_least h1 h2 h3)) (leastM_qc iA iB iD hA hB hD _ (gsum_least' h1 h2 h3)) (awakeG)) (rfl) (rfl) (by kernel_rfl)
      | false =>
        exact PC.run mixed Try.func8 [.res (ellT 0 0 0 0 0 2), .res (.bool true)] hfl (ts0 ) (qs2 (gsum_qc x y X Y ha hb hd hA hB hD _ (gsum_over h1 h2 h3)) (awakeG)) (rfl) (rfl) (by kernel_rfl)
    | false =>
      exact PC.run mixed Try.func8 [.res (ellT 0 0 0 0 0 1), .res (.bool true)] hfl (ts0 ) (qs2 (gsum_qc x y X Y ha hb hd hA hB hD _ (gsum_arg2 h2)) (awakeG)) (rfl) (rfl) (by kernel_rfl)
  | false =>
    exact PC.run mixed Try.func8 [.res (ellT 0 0 0 0 0 1), .res (.bool true)] hfl (ts0 ) (qs2 (gsum_qc x y X Y ha hb hd hA hB hD _ (gsum_arg1 h1)) (awakeG)) (rfl) (rfl) (by kernel_rfl)
theorem enters_growAtLeast : ∀ us w, (callFunc 8 us).run Try.prog w = .ok (.enter 8 us) w := enters Try.func8 rfl (by kernel_rfl)
end Go.Proofs.Ytjmdppnhpfdhdaa.W
