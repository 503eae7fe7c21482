/-
  MatPsd: the square form.
-/
import Derived.Test.YtokamlicglibkaaMatM
import Derived.Test.YtokamlicglibkaaEvS
namespace Go.Proofs.Ytokamlicglibkaa.W
open Go Go.Ev Go.Wide

theorem signI_neg {q : Int} : signI (some q) < 0 ↔ q < 0 := by
  simp only [signI]
  split
  · omega
  · split <;> omega
/-- The program's -n. -/
def nA (n : Int) : Int := IntKind.i64.wrap (0 - n)
theorem nA_i64 (n : Int) : I64 (nA n) := by
  unfold nA I64
  rw [IntKind.wrap_i64]
  omega
theorem nA_eq {n : Int} (h : -2305843009213693952 ≤ n ∧ n ≤ 2305843009213693952) : nA n = -n := by
  unfold nA
  rw [i64_wrap (by omega) (by omega)]; omega
theorem quadM_qc {a b d x y : Int} (ha : I64 a) (hb : I64 b) (hd : I64 d) (hx : I64 x) (hy : I64 y) : QC Try.prog 20 [sym a b d, pt x y] (wz (quadI a b d x y)) := QC.of_pc enters_quadM (quadM_pc ha hb hd hx hy)
theorem matPsd_pc {a b d x y : Int} (ha : I64 a) (hb : I64 b) (hd : I64 d) (hx : I64 x) (hy : I64 y) : PC Try.prog 4 [sym a b d, pt x y] (.bool true) := by
  have hfl : [sym a b d, pt x y].all flat = true := by simp [flat_sym, flat_pt]
  cases h1 : psdI a b d with
  | true =>
    exact PC.run mixed Try.func4 [.res (.bool true), .res (wz (quadI a b d x y)), .res (.int .i64 (signI (some (quadI a b d x y)))), .tst true, .res (.bool true)] hfl (ts1 (tT (signI_nonneg.2 (quad_of_psd h1 x y)))) (qs4 (psdM_qc ha hb hd _ h1) (quadM_qc ha hb hd hx hy) (qsign (quadI_sm ha hb hd hx hy)) (awakeM)) (rfl) (rfl) (by kernel_rfl)
  | false =>
    by_cases b0 : a < -2305843009213693952
    ·
      exact PC.run mixed Try.func4 [.res (.bool false), .auto, .tst true, .res (.bool true)] hfl (ts1 (tT b0)) (qs2 (psdM_qc ha hb hd _ h1) (awakeM)) (rfl) (rfl) (by kernel_rfl)
    ·
      by_cases b1 : a > 2305843009213693952
      ·
        exact PC.run mixed Try.func4 [.res (.bool false), .auto, .tst false, .tst true, .res (.bool true)] hfl (ts2 (tF b0) (tT b1)) (qs2 (psdM_qc ha hb hd _ h1) (awakeM)) (rfl) (rfl) (by kernel_rfl)
      ·
        by_cases b2 : b < -2305843009213693952
        ·
          exact PC.run mixed Try.func4 [.res (.bool false), .auto, .tst false, .tst false, .tst true, .res (.bool true)] hfl (ts3 (tF b0) (tF b1) (tT b2)) (qs2 (psdM_qc ha hb hd _ h1) (awakeM)) (rfl) (rfl) (by kernel_rfl)
        ·
          by_cases b3 : b > 2305843009213693952
          ·
            exact PC.run mixed Try.func4 [.res (.bool false), .auto, .tst false, .tst false, .tst false, .tst true, .res (.bool true)] hfl (ts4 (tF b0) (tF b1) (tF b2) (tT b3)) (qs2 (psdM_qc ha hb hd _ h1) (awakeM)) (rfl) (rfl) (by kernel_rfl)
          ·
            by_cases b4 : d < -2305843009213693952
            ·
              exact PC.run mixed Try.func4 [.res (.bool false), .auto, .tst false, .tst false, .tst false, .tst false, .tst true, .res (.bool true)] hfl (ts5 (tF b0) (tF b1) (tF b2) (tF b3) (tT b4)) (qs2 (psdM_qc ha hb hd _ h1) (awakeM)) (rfl) (rfl) (by kernel_rfl)
            ·
              by_cases b5 : d > 2305843009213693952
              ·
                exact PC.run mixed Try.func4 [.res (.bool false), .auto, .tst false, .tst false, .tst false, .tst false, .tst false, .tst true, .res (.bool true)] hfl (ts6 (tF b0) (tF b1) (tF b2) (tF b3) (tF b4) (tT b5)) (qs2 (psdM_qc ha hb hd _ h1) (awakeM)) (rfl) (rfl) (by kernel_rfl)
              ·
                have ha' : -2305843009213693952 ≤ a ∧ a ≤ 2305843009213693952 := ⟨Int.not_lt.1 b0, Int.not_lt.1 b1⟩
                have hb' : -2305843009213693952 ≤ b ∧ b ≤ 2305843009213693952 := ⟨Int.not_lt.1 b2, Int.not_lt.1 b3⟩
                by_cases c0 : quadI a b d 1 0 < 0
                ·
                  exact PC.run mixed Try.func4 [.res (.bool false), .auto, .tst false, .tst false, .tst false, .tst false, .tst false, .tst false, .res (wz (quadI a b d 1 0)), .res (.int .i64 (signI (some (quadI a b d 1 0)))), .tst true, .res (.bool true)] hfl (ts7 (tF b0) (tF b1) (tF b2) (tF b3) (tF b4) (tF b5) (tT (signI_neg.2 c0))) (qs4 (psdM_qc ha hb hd _ h1) (quadM_qc ha hb hd (I64.lit (n := 1)) (I64.lit (n := 0))) (qsign (quadI_sm ha hb hd (I64.lit (n := 1)) (I64.lit (n := 0)))) (awakeM)) (rfl) (rfl) (by kernel_rfl)
                ·
                  by_cases c1 : quadI a b d 0 1 < 0
                  ·
                    exact PC.run mixed Try.func4 [.res (.bool false), .auto, .tst false, .tst false, .tst false, .tst false, .tst false, .tst false, .res (wz (quadI a b d 1 0)), .res (.int .i64 (signI (some (quadI a b d 1 0)))), .tst false, .res (wz (quadI a b d 0 1)), .res (.int .i64 (signI (some (quadI a b d 0 1)))), .tst true, .res (.bool true)] hfl (ts8 (tF b0) (tF b1) (tF b2) (tF b3) (tF b4) (tF b5) (tF (fun h => c0 (signI_neg.1 h))) (tT (signI_neg.2 c1))) (qs6 (psdM_qc ha hb hd _ h1) (quadM_qc ha hb hd (I64.lit (n := 1)) (I64.lit (n := 0))) (qsign (quadI_sm ha hb hd (I64.lit (n := 1)) (I64.lit (n := 0)))) (quadM_qc ha hb hd (I64.lit (n := 0)) (I64.lit (n := 1))) (qsign (quadI_sm ha hb hd (I64.lit (n := 0)) (I64.lit (n := 1)))) (awakeM)) (rfl) (rfl) (by kernel_rfl)
                  ·
                    by_cases c2 : quadI a b d b (nA a) < 0
                    ·
                      exact PC.run mixed Try.func4 [.res (.bool false), .auto, .tst false, .tst false, .tst false, .tst false, .tst false, .tst false, .res (wz (quadI a b d 1 0)), .res (.int .i64 (signI (some (quadI a b d 1 0)))), .tst false, .res (wz (quadI a b d 0 1)), .res (.int .i64 (signI (some (quadI a b d 0 1)))), .tst false, .res (wz (quadI a b d b (nA a))), .res (.int .i64 (signI (some (quadI a b d b (nA a))))), .tst true, .res (.bool true)] hfl (ts9 (tF b0) (tF b1) (tF b2) (tF b3) (tF b4) (tF b5) (tF (fun h => c0 (signI_neg.1 h))) (tF (fun h => c1 (signI_neg.1 h))) (tT (signI_neg.2 c2))) (qs8 (psdM_qc ha hb hd _ h1) (quadM_qc ha hb hd (I64.lit (n := 1)) (I64.lit (n := 0))) (qsign (quadI_sm ha hb hd (I64.lit (n := 1)) (I64.lit (n := 0)))) (quadM_qc ha hb hd (I64.lit (n := 0)) (I64.lit (n := 1))) (qsign (quadI_sm ha hb hd (I64.lit (n := 0)) (I64.lit (n := 1)))) (quadM_qc ha hb hd hb (nA_i64 a)) (qsign (quadI_sm ha hb hd hb (nA_i64 a))) (awakeM)) (rfl) (rfl) (by kernel_rfl)
                    ·
                      by_cases c3 : quadI a b d d (nA b) < 0
                      ·
                        exact PC.run mixed Try.func4 [.res (.bool false), .auto, .tst false, .tst false, .tst false, .tst false, .tst false, .tst false, .res (wz (quadI a b d 1 0)), .res (.int .i64 (signI (some (quadI a b d 1 0)))), .tst false, .res (wz (quadI a b d 0 1)), .res (.int .i64 (signI (some (quadI a b d 0 1)))), .tst false, .res (wz (quadI a b d b (nA a))), .res (.int .i64 (signI (some (quadI a b d b (nA a))))), .tst false, .res (wz (quadI a b d d (nA b))), .res (.int .i64 (signI (some (quadI a b d d (nA b))))), .tst true, .res (.bool true)] hfl (ts10 (tF b0) (tF b1) (tF b2) (tF b3) (tF b4) (tF b5) (tF (fun h => c0 (signI_neg.1 h))) (tF (fun h => c1 (signI_neg.1 h))) (tF (fun h => c2 (signI_neg.1 h))) (tT (signI_neg.2 c3))) (qs10 (psdM_qc ha hb hd _ h1) (quadM_qc ha hb hd (I64.lit (n := 1)) (I64.lit (n := 0))) (qsign (quadI_sm ha hb hd (I64.lit (n := 1)) (I64.lit (n := 0)))) (quadM_qc ha hb hd (I64.lit (n := 0)) (I64.lit (n := 1))) (qsign (quadI_sm ha hb hd (I64.lit (n := 0)) (I64.lit (n := 1)))) (quadM_qc ha hb hd hb (nA_i64 a)) (qsign (quadI_sm ha hb hd hb (nA_i64 a))) (quadM_qc ha hb hd hd (nA_i64 b)) (qsign (quadI_sm ha hb hd hd (nA_i64 b))) (awakeM)) (rfl) (rfl) (by kernel_rfl)
                      ·
                        by_cases c4 : quadI a b d 1 1 < 0
                        ·
                          exact PC.run mixed Try.func4 [.res (.bool false), .auto, .tst false, .tst false, .tst false, .tst false, .tst false, .tst false, .res (wz (quadI a b d 1 0)), .res (.int .i64 (signI (some (quadI a b d 1 0)))), .tst false, .res (wz (quadI a b d 0 1)), .res (.int .i64 (signI (some (quadI a b d 0 1)))), .tst false, .res (wz (quadI a b d b (nA a))), .res (.int .i64 (signI (some (quadI a b d b (nA a))))), .tst false, .res (wz (quadI a b d d (nA b))), .res (.int .i64 (signI (some (quadI a b d d (nA b))))), .tst false, .res (wz (quadI a b d 1 1)), .res (.int .i64 (signI (some (quadI a b d 1 1)))), .tst true, .res (.bool true)] hfl (ts11 (tF b0) (tF b1) (tF b2) (tF b3) (tF b4) (tF b5) (tF (fun h => c0 (signI_neg.1 h))) (tF (fun h => c1 (signI_neg.1 h))) (tF (fun h => c2 (signI_neg.1 h))) (tF (fun h => c3 (signI_neg.1 h))) (tT (signI_neg.2 c4))) (qs12 (psdM_qc ha hb hd _ h1) (quadM_qc ha hb hd (I64.lit (n := 1)) (I64.lit (n := 0))) (qsign (quadI_sm ha hb hd (I64.lit (n := 1)) (I64.lit (n := 0)))) (quadM_qc ha hb hd (I64.lit (n := 0)) (I64.lit (n := 1))) (qsign (quadI_sm ha hb hd (I64.lit (n := 0)) (I64.lit (n := 1)))) (quadM_qc ha hb hd hb (nA_i64 a)) (qsign (quadI_sm ha hb hd hb (nA_i64 a))) (quadM_qc ha hb hd hd (nA_i64 b)) (qsign (quadI_sm ha hb hd hd (nA_i64 b))) (quadM_qc ha hb hd (I64.lit (n := 1)) (I64.lit (n := 1))) (qsign (quadI_sm ha hb hd (I64.lit (n := 1)) (I64.lit (n := 1)))) (awakeM)) (rfl) (rfl) (by kernel_rfl)
                        ·
                          by_cases c5 : quadI a b d 1 (-1) < 0
                          ·
                            exact PC.run mixed Try.func4 [.res (.bool false), .auto, .tst false, .tst false, .tst false, .tst false, .tst false, .tst false, .res (wz (quadI a b d 1 0)), .res (.int .i64 (signI (some (quadI a b d 1 0)))), .tst false, .res (wz (quadI a b d 0 1)), .res (.int .i64 (signI (some (quadI a b d 0 1)))), .tst false, .res (wz (quadI a b d b (nA a))), .res (.int .i64 (signI (some (quadI a b d b (nA a))))), .tst false, .res (wz (quadI a b d d (nA b))), .res (.int .i64 (signI (some (quadI a b d d (nA b))))), .tst false, .res (wz (quadI a b d 1 1)), .res (.int .i64 (signI (some (quadI a b d 1 1)))), .tst false, .res (wz (quadI a b d 1 (-1))), .res (.int .i64 (signI (some (quadI a b d 1 (-1))))), .tst true, .res (.bool true)] hfl (ts12 (tF b0) (tF b1) (tF b2) (tF b3) (tF b4) (tF b5) (tF (fun h => c0 (signI_neg.1 h))) (tF (fun h => c1 (signI_neg.1 h))) (tF (fun h => c2 (signI_neg.1 h))) (tF (fun h => c3 (signI_neg.1 h))) (tF (fun h => c4 (signI_neg.1 h))) (tT (signI_neg.2 c5))) (qs14 (psdM_qc ha hb hd _ h1) (quadM_qc ha hb hd (I64.lit (n := 1)) (I64.lit (n := 0))) (qsign (quadI_sm ha hb hd (I64.lit (n := 1)) (I64.lit (n := 0)))) (quadM_qc ha hb hd (I64.lit (n := 0)) (I64.lit (n := 1))) (qsign (quadI_sm ha hb hd (I64.lit (n := 0)) (I64.lit (n := 1)))) (quadM_qc ha hb hd hb (nA_i64 a)) (qsign (quadI_sm ha hb hd hb (nA_i64 a))) (quadM_qc ha hb hd hd (nA_i64 b)) (qsign (quadI_sm ha hb hd hd (nA_i64 b))) (quadM_qc ha hb hd (I64.lit (n := 1)) (I64.lit (n := 1))) (qsign (quadI_sm ha hb hd (I64.lit (n := 1)) (I64.lit (n := 1)))) (quadM_qc ha hb hd (I64.lit (n := 1)) (I64.lit (n := -1))) (qsign (quadI_sm ha hb hd (I64.lit (n := 1)) (I64.lit (n := -1)))) (awakeM)) (rfl) (rfl) (by kernel_rfl)
                          ·
                            exact absurd (psd_of_six (Int.not_lt.1 c0) (Int.not_lt.1 c1) (nA_eq ha' ▸ Int.not_lt.1 c2) (nA_eq hb' ▸ Int.not_lt.1 c3) (Int.not_lt.1 c4) (Int.not_lt.1 c5)) (by rw [h1]; decide)
theorem enters_matPsd : ∀ us w, (callFunc 4 us).run Try.prog w = .ok (.enter 4 us) w := enters Try.func4 rfl (by kernel_rfl)
end Go.Proofs.Ytokamlicglibkaa.W
