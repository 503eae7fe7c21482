/-
  The reference's ellipses: what may be, radii, sums, growth.
-/
import Derived.Test.YthnemimpkpkjbaaTokR
import Derived.Test.YthnemimpkpkjbaaGrow
namespace Go.Proofs.Ythnemimpkpkjbaa.R
open Go Go.Ev Go.W32
open Go.Proofs.Ythnemimpkpkjbaa.W (mixed i64_wrap WF signI Sm I64 ell flat_ell ellT flat_ellT pt flat_pt sym within within_iff mayP mayV mayV_iff mayR mayR_iff mayL mayL_iff detI detI_sm signI_pos trI trI_i64 radI upI ballV gsumV gsumR gballV gageV mayG3 errI mdV muV cdiv muV_fits mdV_fits fits64_iff rad_facts str_bounds strA strB sumA sumB r_sq gage_prod tdiv_wrap gsumV_form gballV_form gageV_form ball_may)

/-! ### What may be -/
def win (n m : Int) : Bool := decide (-m ≤ n) && decide (n ≤ m)
theorem win_iff {n m : Int} : win n m = true ↔ -m ≤ n ∧ n ≤ m := by simp [win]
theorem within_win (x y m : Int) : within x y m = (win x m && win y m) := by
  unfold within win
  rw [Bool.and_assoc]
theorem ewithin_pc {n m : Int} (h0 : 0 ≤ m) (h1 : m ≤ 9223372036854775807) : PC Try.prog 33 [.int .i64 n, .int .i64 m] (.bool (win n m)) := by
  have e : IntKind.i64.wrap (0 - m) = -m := by rw [i64_wrap (by omega) (by omega)]; omega
  unfold win
  by_cases c1 : -m ≤ n
  · have d1 : n ≥ IntKind.i64.wrap (0 - m) := by rw [e]; exact c1
    rw [decide_eq_true c1, Bool.true_and]
    exact PC.run mixed Try.func33 [.tst true] rfl (ts1 (tT d1)) qs0 rfl rfl (by kernel_rfl)
  · have d1 : ¬ n ≥ IntKind.i64.wrap (0 - m) := by rw [e]; exact c1
    rw [decide_eq_false c1, Bool.false_and]
    exact PC.run mixed Try.func33 [.tst false] rfl (ts1 (tF d1)) qs0 rfl rfl (by kernel_rfl)
theorem enters_ewithin : ∀ us w, (callFunc 33 us).run Try.prog w = .ok (.enter 33 us) w := enters Try.func33 rfl (by kernel_rfl)
theorem ewithin_qc (n m : Int) (h0 : 0 ≤ m) (h1 : m ≤ 9223372036854775807) (r : Bool) (h : win n m = r) : QC Try.prog 33 [.int .i64 n, .int .i64 m] (.bool r) := h ▸ QC.of_pc enters_ewithin (ewithin_pc h0 h1)
theorem ePoint_pc (x y : Int) : PC Try.prog 29 [pt x y] (.bool (mayP x y)) := by
  have hfl : [pt x y].all flat = true := by simp [flat_pt]
  unfold mayP
  rw [within_win]
  cases h : win x 4194304 with
  | true => exact PC.run mixed Try.func29 [.res (.bool true), .res (.bool (win y 4194304))] hfl ts0 (qs2 (ewithin_qc x _ (by omega) (by omega) _ h) (ewithin_qc y 4194304 (by omega) (by omega) _ rfl)) rfl rfl (by kernel_rfl)
  | false => exact PC.run mixed Try.func29 [.res (.bool false)] hfl ts0 (qs1 (ewithin_qc x _ (by omega) (by omega) _ h)) rfl rfl (by kernel_rfl)
theorem enters_ePoint : ∀ us w, (callFunc 29 us).run Try.prog w = .ok (.enter 29 us) w := enters Try.func29 rfl (by kernel_rfl)
theorem ePoint_qc (x y : Int) (r : Bool) (h : mayP x y = r) : QC Try.prog 29 [pt x y] (.bool r) := h ▸ QC.of_pc enters_ePoint (ePoint_pc x y)
/-! ### Traces, radii, balls -/
/-! ### Sums -/
theorem cdiv_nn {z c : Int} (hc : 0 < c) (hz : 0 ≤ z) : 0 ≤ cdiv z c := by
  have h := (Go.Proofs.Ythnemimpkpkjbaa.W.cdiv_bounds (z := z) hc).1
  refine Int.not_lt.1 fun h2 => ?_
  have := Int.mul_le_mul_of_nonneg_left (show cdiv z c ≤ -1 by omega) (show 0 ≤ c by omega)
  omega
/-! ### Growth -/
end Go.Proofs.Ythnemimpkpkjbaa.R
