/-
  GrowHolds: a sum holds all sums.
-/
import Derived.Test.YtjmdppnhpfdhdaaGrowB
import Derived.Test.YtjmdppnhpfdhdaaEvT
namespace Go.Proofs.Ytjmdppnhpfdhdaa.W
open Go Go.Ev Go.Wide

theorem pt_eq {a b c d : Int} (h1 : a = b) (h2 : c = d) : (decide (a = b) && (decide (c = d) && true)) = true := by subst h1 h2; simp
theorem may_wrap {x y a b d X Y A B D : Int} (h1 : mayL x y a b d = true) (h2 : mayL X Y A B D = true) : x + X = IntKind.i64.wrap (x + X) ∧ y + Y = IntKind.i64.wrap (y + Y) := by
  have g1 := mayL_iff.1 h1
  have g2 := mayL_iff.1 h2
  rw [wrapS (by omega), wrapS (by omega)]
  exact ⟨rfl, rfl⟩
theorem growHolds_pc {x y a b d X Y A B D p q P Q : Int} (ha : I64 a) (hb : I64 b) (hd : I64 d) (hA : I64 A) (hB : I64 B) (hD : I64 D) : PC Try.prog 4 [ell x y a b d, ell X Y A B D, pt p q, pt P Q] (.bool true) := by
  have hfl : [ell x y a b d, ell X Y A B D, pt p q, pt P Q].all flat = true := by simp [flat_ell, flat_pt]
  cases h1 : mayL x y a b d with
  | true =>
    cases h2 : mayL X Y A B D with
    | true =>
      have hw := may_wrap h1 h2
      cases h3 : mayG x y a b d X Y A B D with
      | true =>
        obtain ⟨iA, iB, iD⟩ := mayG_i64 h3
        cases h4 : inE x y a b d p q with
        | true =>
          cases h5 : inE X Y A B D P Q with
          | true =>
            exact PC.run mixed Try.func4 [.res (sumT5 x y a b d X Y A B D), .res (.bool true), .res (.bool true), .res (.bool true), .auto, .tst true, .res (.bool true), .res (.bool true)] hfl (ts1 (pt_eq hw.1 hw.2)) (qs6 (gsum_qc x y X Y ha hb hd hA hB hD _ (gsum_ok h1 h2 h3)) (inE_qc x y p q ha hb hd _ h4) (inE_qc X Y P Q hA hB hD _ h5) (mayL_qc (x + X) (y + Y) iA iB iD _ h3) (inE_qc (x + X) (y + Y) (IntKind.i64.wrap (p + P)) (IntKind.i64.wrap (q + Q)) iA iB iD _ (gsum_in_w h3 h4 h5)) (awakeG)) (rfl) (rfl) (by kernel_rfl)
          | false =>
            exact PC.run mixed Try.func4 [.res (sumT5 x y a b d X Y A B D), .res (.bool true), .res (.bool false), .res (.bool true)] hfl (ts0 ) (qs4 (gsum_qc x y X Y ha hb hd hA hB hD _ (gsum_ok h1 h2 h3)) (inE_qc x y p q ha hb hd _ h4) (inE_qc X Y P Q hA hB hD _ h5) (awakeG)) (rfl) (rfl) (by kernel_rfl)
        | false =>
          exact PC.run mixed Try.func4 [.res (sumT5 x y a b d X Y A B D), .res (.bool false), .res (.bool true)] hfl (ts0 ) (qs3 (gsum_qc x y X Y ha hb hd hA hB hD _ (gsum_ok h1 h2 h3)) (inE_qc x y p q ha hb hd _ h4) (awakeG)) (rfl) (rfl) (by kernel_rfl)
      | false =>
        exact PC.run mixed Try.func4 [.res (ellT 0 0 0 0 0 2), .res (.bool true)] hfl (ts0 ) (qs2 (gsum_qc x y X Y ha hb hd hA hB hD _ (gsum_over h1 h2 h3)) (awakeG)) (rfl) (rfl) (by kernel_rfl)
    | false =>
      exact PC.run mixed Try.func4 [.res (ellT 0 0 0 0 0 1), .res (.bool true)] hfl (ts0 ) (qs2 (gsum_qc x y X Y ha hb hd hA hB hD _ (gsum_arg2 h2)) (awakeG)) (rfl) (rfl) (by kernel_rfl)
  | false =>
    exact PC.run mixed Try.func4 [.res (ellT 0 0 0 0 0 1), .res (.bool true)] hfl (ts0 ) (qs2 (gsum_qc x y X Y ha hb hd hA hB hD _ (gsum_arg1 h1)) (awakeG)) (rfl) (rfl) (by kernel_rfl)
theorem enters_growHolds : ∀ us w, (callFunc 4 us).run Try.prog w = .ok (.enter 4 us) w := enters Try.func4 rfl (by kernel_rfl)
end Go.Proofs.Ytjmdppnhpfdhdaa.W
