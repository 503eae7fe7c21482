/-
  GrowTurns: a sum in either order.
-/
import Derived.Test.YtjmdppnhpfdhdaaGrowB
import Derived.Test.YtjmdppnhpfdhdaaEvT
namespace Go.Proofs.Ytjmdppnhpfdhdaa.W
open Go Go.Ev Go.Wide

theorem ell_reflN (x y a b d : Int) : (!(!((decide (x = x) && (decide (y = y) && true)) && ((decide (a = a) && (decide (b = b) && (decide (d = d) && true))) && true)))) = true := by simp
theorem gsum_back {x y a b d X Y A B D : Int} {v : Value} (h : gsumV x y a b d X Y A B D = v) : gsumV X Y A B D x y a b d = v := by rw [gsumV_comm]; exact h
theorem gsum_trace_w {x y a b d X Y A B D : Int} (h1 : mayL x y a b d = true) (h2 : mayL X Y A B D = true) (h3 : mayG x y a b d X Y A B D = true) : IntKind.i64.wrap (trI x y a b d + trI X Y A B D) ≤ trI (x + X) (y + Y) (gA a d A D) (gB a b d A B D) (gD a d A D) := by
  have g1 := (trI_i64 x y a b d).2
  have g2 := (trI_i64 X Y A B D).2
  rw [wrapS (by omega)]
  have := gsum_trace h1 h2 h3
  omega
theorem growTurns_pc {x y a b d X Y A B D : Int} (ha : I64 a) (hb : I64 b) (hd : I64 d) (hA : I64 A) (hB : I64 B) (hD : I64 D) : PC Try.prog 6 [ell x y a b d, ell X Y A B D] (.bool true) := by
  have hfl : [ell x y a b d, ell X Y A B D].all flat = true := by simp [flat_ell, flat_pt]
  cases h1 : mayL x y a b d with
  | true =>
    cases h2 : mayL X Y A B D with
    | true =>
      cases h3 : mayG x y a b d X Y A B D with
      | true =>
        obtain ⟨iA, iB, iD⟩ := mayG_i64 h3
        exact PC.run mixed Try.func6 [.res (sumT5 x y a b d X Y A B D), .res (sumT5 x y a b d X Y A B D), .auto, .tst false, .auto, .res (.int .i64 (trI (x + X) (y + Y) (gA a d A D) (gB a b d A B D) (gD a d A D))), .res (.int .i64 (trI x y a b d)), .res (.int .i64 (trI X Y A B D)), .tst true, .res (.bool true)] hfl (ts2 (ell_reflN (x + X) (y + Y) (gA a d A D) (gB a b d A B D) (gD a d A D)) (tT (gsum_trace_w h1 h2 h3))) (qs6 (gsum_qc x y X Y ha hb hd hA hB hD _ (gsum_ok h1 h2 h3)) (gsum_qc X Y x y hA hB hD ha hb hd _ (gsum_back (gsum_ok h1 h2 h3))) (trace_qc (x + X) (y + Y) iA iB iD) (trace_qc x y ha hb hd) (trace_qc X Y hA hB hD) (awakeG)) (rfl) (rfl) (by kernel_rfl)
      | false =>
        exact PC.run mixed Try.func6 [.res (ellT 0 0 0 0 0 2), .res (ellT 0 0 0 0 0 2), .res (.bool true)] hfl (ts0 ) (qs3 (gsum_qc x y X Y ha hb hd hA hB hD _ (gsum_over h1 h2 h3)) (gsum_qc X Y x y hA hB hD ha hb hd _ (gsum_back (gsum_over h1 h2 h3))) (awakeG)) (rfl) (rfl) (by kernel_rfl)
    | false =>
      exact PC.run mixed Try.func6 [.res (ellT 0 0 0 0 0 1), .res (ellT 0 0 0 0 0 1), .res (.bool true)] hfl (ts0 ) (qs3 (gsum_qc x y X Y ha hb hd hA hB hD _ (gsum_arg2 h2)) (gsum_qc X Y x y hA hB hD ha hb hd _ (gsum_back (gsum_arg2 h2))) (awakeG)) (rfl) (rfl) (by kernel_rfl)
  | false =>
    exact PC.run mixed Try.func6 [.res (ellT 0 0 0 0 0 1), .res (ellT 0 0 0 0 0 1), .res (.bool true)] hfl (ts0 ) (qs3 (gsum_qc x y X Y ha hb hd hA hB hD _ (gsum_arg1 h1)) (gsum_qc X Y x y hA hB hD ha hb hd _ (gsum_back (gsum_arg1 h1))) (awakeG)) (rfl) (rfl) (by kernel_rfl)
theorem enters_growTurns : ∀ us w, (callFunc 6 us).run Try.prog w = .ok (.enter 6 us) w := enters Try.func6 rfl (by kernel_rfl)
end Go.Proofs.Ytjmdppnhpfdhdaa.W
