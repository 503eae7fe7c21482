/-
  The reference's ellipses: what may be, radii, sums, growth.
-/
import Derived.Test.YtfgnjkjnhakihaaGreatTokR
import Derived.Test.YtfgnjkjnhakihaaGreatGrow
namespace Go.Proofs.YtfgnjkjnhakihaaGreat.R
open Go Go.Ev Go.W32
open Go.Proofs.YtfgnjkjnhakihaaGreat.W (mixed i64_wrap WF signI Sm I64 ell flat_ell ellT flat_ellT pt flat_pt sym within within_iff mayP mayV mayV_iff mayR mayR_iff mayL mayL_iff detI detI_sm signI_pos trI trI_i64 radI upI ballV gsumV gsumR gballV gageV mayG3 errI mdV muV cdiv muV_fits mdV_fits fits64_iff rad_facts str_bounds strA strB sumA sumB r_sq gage_prod tdiv_wrap gsumV_form gballV_form gageV_form ball_may)

/-! ### What may be -/
def win (n m : Int) : Bool := decide (-m ≤ n) && decide (n ≤ m)
theorem win_iff {n m : Int} : win n m = true ↔ -m ≤ n ∧ n ≤ m := by simp [win]
theorem within_win (x y m : Int) : within x y m = (win x m && win y m) := by
  unfold within win
  rw [Bool.and_assoc]
theorem ewithin_pc {n m : Int} (h0 : 0 ≤ m) (h1 : m ≤ 9223372036854775807) : PC Tryz.prog 27 [.int .i64 n, .int .i64 m] (.bool (win n m)) := by
  have e : IntKind.i64.wrap (0 - m) = -m := by rw [i64_wrap (by omega) (by omega)]; omega
  unfold win
  by_cases c1 : -m ≤ n
  · have d1 : n ≥ IntKind.i64.wrap (0 - m) := by rw [e]; exact c1
    rw [decide_eq_true c1, Bool.true_and]
    exact PC.run mixed Tryz.func27 [.tst true] rfl (ts1 (tT d1)) qs0 rfl rfl (by kernel_rfl)
  · have d1 : ¬ n ≥ IntKind.i64.wrap (0 - m) := by rw [e]; exact c1
    rw [decide_eq_false c1, Bool.false_and]
    exact PC.run mixed Tryz.func27 [.tst false] rfl (ts1 (tF d1)) qs0 rfl rfl (by kernel_rfl)
theorem enters_ewithin : ∀ us w, (callFunc 27 us).run Tryz.prog w = .ok (.enter 27 us) w := enters Tryz.func27 rfl (by kernel_rfl)
theorem ewithin_qc (n m : Int) (h0 : 0 ≤ m) (h1 : m ≤ 9223372036854775807) (r : Bool) (h : win n m = r) : QC Tryz.prog 27 [.int .i64 n, .int .i64 m] (.bool r) := h ▸ QC.of_pc enters_ewithin (ewithin_pc h0 h1)
theorem ePoint_pc (x y : Int) : PC Tryz.prog 15 [pt x y] (.bool (mayP x y)) := by
  have hfl : [pt x y].all flat = true := by simp [flat_pt]
  unfold mayP
  rw [within_win]
  cases h : win x 4194304 with
  | true => exact PC.run mixed Tryz.func15 [.res (.bool true), .res (.bool (win y 4194304))] hfl ts0 (qs2 (ewithin_qc x _ (by omega) (by omega) _ h) (ewithin_qc y 4194304 (by omega) (by omega) _ rfl)) rfl rfl (by kernel_rfl)
  | false => exact PC.run mixed Tryz.func15 [.res (.bool false)] hfl ts0 (qs1 (ewithin_qc x _ (by omega) (by omega) _ h)) rfl rfl (by kernel_rfl)
theorem enters_ePoint : ∀ us w, (callFunc 15 us).run Tryz.prog w = .ok (.enter 15 us) w := enters Tryz.func15 rfl (by kernel_rfl)
theorem ePoint_qc (x y : Int) (r : Bool) (h : mayP x y = r) : QC Tryz.prog 15 [pt x y] (.bool r) := h ▸ QC.of_pc enters_ePoint (ePoint_pc x y)
theorem eMay_pc {x y a b d : Int} (ha : I64 a) (hb : I64 b) (hd : I64 d) : PC Tryz.prog 17 [ell x y a b d] (.bool (mayL x y a b d)) := by
  have hfl : [ell x y a b d].all flat = true := by simp [flat_ell]
  unfold mayL mayV
  rw [show (decide (-70368744177664 ≤ b) && (decide (b ≤ 70368744177664) && decide (0 < detI a b d))) = (win b 70368744177664 && decide (0 < detI a b d)) by unfold win; rw [Bool.and_assoc]]
  cases h1 : mayP x y with
  | false => exact PC.run mixed Tryz.func17 [.res (.bool false)] hfl ts0 (qs1 (ePoint_qc x y _ h1)) rfl rfl (by kernel_rfl)
  | true =>
    by_cases c1 : 1 ≤ a
    · rw [decide_eq_true c1]
      by_cases c2 : a ≤ 70368744177664
      · rw [decide_eq_true c2]
        by_cases c3 : 1 ≤ d
        · rw [decide_eq_true c3]
          by_cases c4 : d ≤ 70368744177664
          · rw [decide_eq_true c4]
            cases h5 : win b 70368744177664 with
            | true =>
              exact PC.run mixed Tryz.func17 [.res (.bool true), .auto, .tst true, .tst true, .tst true, .tst true, .res (.bool true), .ab (rz (detI a b d)), .ab (i6 (signI (some (detI a b d))))] (v := .bool (decide (signI (some (detI a b d)) > 0))) hfl (ts4 (tT (p := a ≥ 1) c1) (tT c2) (tT (p := d ≥ 1) c3) (tT c4))
                (qs4 (ePoint_qc x y _ h1) (ewithin_qc b 70368744177664 (by omega) (by omega) _ h5) (rDet ha hb hd) (rsign (detI a b d))) rfl (by simp only [Bool.true_and]; exact congrArg Value.bool (decide_eq_decide.2 signI_pos)) (by kernel_rfl)
            | false => exact PC.run mixed Tryz.func17 [.res (.bool true), .auto, .tst true, .tst true, .tst true, .tst true, .res (.bool false)] hfl (ts4 (tT (p := a ≥ 1) c1) (tT c2) (tT (p := d ≥ 1) c3) (tT c4)) (qs2 (ePoint_qc x y _ h1) (ewithin_qc b 70368744177664 (by omega) (by omega) _ h5)) rfl rfl (by kernel_rfl)
          · rw [decide_eq_false c4]
            exact PC.run mixed Tryz.func17 [.res (.bool true), .auto, .tst true, .tst true, .tst true, .tst false] hfl (ts4 (tT (p := a ≥ 1) c1) (tT c2) (tT (p := d ≥ 1) c3) (tF c4)) (qs1 (ePoint_qc x y _ h1)) rfl rfl (by kernel_rfl)
        · rw [decide_eq_false c3]
          exact PC.run mixed Tryz.func17 [.res (.bool true), .auto, .tst true, .tst true, .tst false] hfl (ts3 (tT (p := a ≥ 1) c1) (tT c2) (tF (p := d ≥ 1) c3)) (qs1 (ePoint_qc x y _ h1)) rfl rfl (by kernel_rfl)
      · rw [decide_eq_false c2]
        exact PC.run mixed Tryz.func17 [.res (.bool true), .auto, .tst true, .tst false] hfl (ts2 (tT (p := a ≥ 1) c1) (tF c2)) (qs1 (ePoint_qc x y _ h1)) rfl rfl (by kernel_rfl)
    · rw [decide_eq_false c1]
      exact PC.run mixed Tryz.func17 [.res (.bool true), .auto, .tst false] hfl (ts1 (tF (p := a ≥ 1) c1)) (qs1 (ePoint_qc x y _ h1)) rfl rfl (by kernel_rfl)
theorem enters_eMay : ∀ us w, (callFunc 17 us).run Tryz.prog w = .ok (.enter 17 us) w := enters Tryz.func17 rfl (by kernel_rfl)
theorem eMay_qc {a b d : Int} (x y : Int) (ha : I64 a) (hb : I64 b) (hd : I64 d) (r : Bool) (h : mayL x y a b d = r) : QC Tryz.prog 17 [ell x y a b d] (.bool r) := h ▸ QC.of_pc enters_eMay (eMay_pc ha hb hd)
/-! ### Traces, radii, balls -/
theorem eTrace_pc {x y a b d : Int} (ha : I64 a) (hb : I64 b) (hd : I64 d) : PC Tryz.prog 21 [ell x y a b d] (.int .i64 (trI x y a b d)) := by
  have hfl : [ell x y a b d].all flat = true := by simp [flat_ell]
  unfold trI
  cases h1 : mayL x y a b d with
  | false => exact PC.run mixed Tryz.func21 [.res (.bool false)] hfl ts0 (qs1 (eMay_qc x y ha hb hd _ h1)) rfl rfl (by kernel_rfl)
  | true =>
    have g1 := mayL_iff.1 h1
    have e1 : IntKind.i64.wrap (a + d) = a + d := i64_wrap (by omega) (by omega)
    have h := PC.run (args := [ell x y a b d]) (v := .int .i64 (IntKind.i64.wrap (a + d))) mixed Tryz.func21 [.res (.bool true)] hfl ts0 (qs1 (eMay_qc x y ha hb hd _ h1)) rfl rfl (by kernel_rfl)
    rw [e1] at h
    exact h
theorem enters_eTrace : ∀ us w, (callFunc 21 us).run Tryz.prog w = .ok (.enter 21 us) w := enters Tryz.func21 rfl (by kernel_rfl)
theorem eTrace_qc {a b d : Int} (x y : Int) (ha : I64 a) (hb : I64 b) (hd : I64 d) : QC Tryz.prog 21 [ell x y a b d] (.int .i64 (trI x y a b d)) := QC.of_pc enters_eTrace (eTrace_pc ha hb hd)
theorem eRadius_pc {x y a b d : Int} (ha : I64 a) (hb : I64 b) (hd : I64 d) : PC Tryz.prog 23 [ell x y a b d] (.int .i64 (radI x y a b d)) :=
  PC.run mixed Tryz.func23 [.res (.int .i64 (trI x y a b d)), .ab (.int .i64 (radI x y a b d))] (by simp [flat_ell]) ts0 (qs2 (eTrace_qc x y ha hb hd) (rUp_t (trI_i64 x y a b d).1)) rfl rfl (by kernel_rfl)
theorem enters_eRadius : ∀ us w, (callFunc 23 us).run Tryz.prog w = .ok (.enter 23 us) w := enters Tryz.func23 rfl (by kernel_rfl)
theorem eRadius_qc {a b d : Int} (x y : Int) (ha : I64 a) (hb : I64 b) (hd : I64 d) : QC Tryz.prog 23 [ell x y a b d] (.int .i64 (radI x y a b d)) := QC.of_pc enters_eRadius (eRadius_pc ha hb hd)
theorem eBall_pc (x y r : Int) : PC Tryz.prog 5 [pt x y, .int .i64 r] (ballV x y r) := by
  have hfl : [pt x y, Value.int .i64 r].all flat = true := by simp [flat_pt]; rfl
  unfold ballV mayR
  cases h1 : mayP x y with
  | false => exact PC.run mixed Tryz.func5 [.res (.bool false)] hfl ts0 (qs1 (ePoint_qc x y _ h1)) (flat_ellT 0 0 0 0 0 1) rfl (by kernel_rfl)
  | true =>
    by_cases c1 : 1 ≤ r
    · rw [decide_eq_true c1]
      by_cases c2 : r ≤ 4194304
      · rw [decide_eq_true c2]
        have g := r_sq (mayR_iff.2 ⟨c1, c2⟩)
        have e : IntKind.i64.wrap (r * r) = r * r := i64_wrap (by omega) (by omega)
        have h := PC.run (args := [pt x y, Value.int .i64 r]) (v := ellT x y (IntKind.i64.wrap (r * r)) 0 (IntKind.i64.wrap (r * r)) 0) mixed Tryz.func5 [.res (.bool true), .auto, .tst false, .tst false] hfl (ts2 (tF (p := r < 1) (by omega)) (tF (p := r > 4194304) (by omega))) (qs1 (ePoint_qc x y _ h1)) (flat_ellT _ _ _ _ _ _) rfl (by kernel_rfl)
        rw [e] at h
        exact h
      · rw [decide_eq_false c2]
        exact PC.run mixed Tryz.func5 [.res (.bool true), .auto, .tst false, .tst true] hfl (ts2 (tF (p := r < 1) (by omega)) (tT (p := r > 4194304) (by omega))) (qs1 (ePoint_qc x y _ h1)) (flat_ellT 0 0 0 0 0 1) rfl (by kernel_rfl)
    · rw [decide_eq_false c1]
      exact PC.run mixed Tryz.func5 [.res (.bool true), .auto, .tst true] hfl (ts1 (tT (p := r < 1) (by omega))) (qs1 (ePoint_qc x y _ h1)) (flat_ellT 0 0 0 0 0 1) rfl (by kernel_rfl)
theorem enters_eBall : ∀ us w, (callFunc 5 us).run Tryz.prog w = .ok (.enter 5 us) w := enters Tryz.func5 rfl (by kernel_rfl)
theorem eBall_qc (x y r : Int) (v : Value) (h : ballV x y r = v) : QC Tryz.prog 5 [pt x y, .int .i64 r] v := h ▸ QC.of_pc enters_eBall (eBall_pc x y r)
/-! ### Sums -/
theorem cdiv_nn {z c : Int} (hc : 0 < c) (hz : 0 ≤ z) : 0 ≤ cdiv z c := by
  have h := (Go.Proofs.YtfgnjkjnhakihaaGreat.W.cdiv_bounds (z := z) hc).1
  refine Int.not_lt.1 fun h2 => ?_
  have := Int.mul_le_mul_of_nonneg_left (show cdiv z c ≤ -1 by omega) (show 0 ≤ c by omega)
  omega
/-! ### Growth -/
end Go.Proofs.YtfgnjkjnhakihaaGreat.R
