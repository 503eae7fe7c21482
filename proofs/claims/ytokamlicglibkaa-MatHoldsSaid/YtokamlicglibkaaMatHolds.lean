/-
  MatHolds: the points of an ellipse.
-/
import Derived.Test.YtokamlicglibkaaMatM
import Derived.Test.YtokamlicglibkaaEvS
namespace Go.Proofs.Ytokamlicglibkaa.W
open Go Go.Ev Go.Wide

/-- The program's -n. -/
def nB (n : Int) : Int := IntKind.i64.wrap (0 - n)
theorem nB_i64 (n : Int) : I64 (nB n) := by
  unfold nB I64
  rw [IntKind.wrap_i64]
  omega
theorem nB_eq {n : Int} (h : -1048576 ≤ n ∧ n ≤ 1048576) : nB n = -n := by
  unfold nB
  rw [i64_wrap (by omega) (by omega)]; omega
theorem holdsI_eq {a b d x y : Int} : holdsI a b d x y = psdI (a - x * x) (b - x * y) (d - y * y) := rfl
/-- The number that divides. -/
def kOf (k : Int) : Int := IntKind.i64.wrap (IntKind.i64.wrap ((IntKind.u64.wrap k).tmod 5) + 1)
theorem kOf_eq (k : Int) : IntKind.i64.wrap (IntKind.i64.wrap ((IntKind.u64.wrap k).tmod 5) + 1) = kOf k := rfl
theorem kOf_pos (k : Int) : 1 ≤ kOf k ∧ kOf k ≤ 5 := by
  unfold kOf
  have h := u64_wrap k
  have h1 : 0 ≤ IntKind.u64.wrap k := by omega
  have h2 : (IntKind.u64.wrap k).tmod 5 = IntKind.u64.wrap k % 5 := Int.tmod_eq_emod_of_nonneg h1
  have h3 : IntKind.i64.wrap (IntKind.u64.wrap k % 5) = IntKind.u64.wrap k % 5 := i64_wrap (by omega) (by omega)
  rw [h2, h3, i64_wrap (by omega) (by omega)]
  omega
theorem kOf_ne (k : Int) : ¬ kOf k = 0 := by
  have := kOf_pos k
  omega
theorem holds_back {a b d x y : Int} (h : holdsI a b d x y = true) (hx : -1048576 ≤ x ∧ x ≤ 1048576) (hy : -1048576 ≤ y ∧ y ≤ 1048576) : holdsI a b d (nB x) (nB y) = true := by
  rw [nB_eq hx, nB_eq hy, holdsI_eq, Int.neg_mul_neg, Int.neg_mul_neg, Int.neg_mul_neg]; exact h
theorem holds_origin {a b d x y : Int} (h : holdsI a b d x y = true) : holdsI a b d 0 0 = true := by
  have h2 := psd_square 1 x y (by omega)
  have h3 := psd_add h h2
  rw [holdsI_eq]
  rwa [show a - x * x + 1 * (x * x) = a - 0 * 0 by omega, show b - x * y + 1 * (x * y) = b - 0 * 0 by omega, show d - y * y + 1 * (y * y) = d - 0 * 0 by omega] at h3
theorem holds_more {a b d a' b' d' x y : Int} (hl : leastI a' b' d' a b d = true) (h : holdsI a b d x y = true) : holdsI a' b' d' x y = true := by
  obtain ⟨_, _, h1⟩ := leastI_iff.1 hl
  have h3 := psd_add h1 h
  rw [holdsI_eq]
  rwa [show a' - a + (a - x * x) = a' - x * x by omega, show b' - b + (b - x * y) = b' - x * y by omega, show d' - d + (d - y * y) = d' - y * y by omega] at h3
/-- The program's quotient. -/
def qB (x k : Int) : Int := IntKind.i64.wrap (x.tdiv k)
theorem tdiv_abs {x k : Int} (hk : 1 ≤ k ∧ k ≤ 5) : (x.tdiv k).natAbs ≤ x.natAbs := by
  rw [Int.natAbs_tdiv]
  exact Nat.div_le_self _ _
theorem qB_eq {x k : Int} (hx : I64 x) (hk : 1 ≤ k ∧ k ≤ 5) : qB x k = x.tdiv k ∨ (x = -9223372036854775808 ∧ k = 1) := by
  unfold qB
  have h := tdiv_abs (x := x) hk
  unfold I64 at hx
  by_cases hxm : x = -9223372036854775808
  · by_cases hk1 : k = 1
    · exact .inr ⟨hxm, hk1⟩
    · subst hxm
      have : k = 2 ∨ k = 3 ∨ k = 4 ∨ k = 5 := by omega
      rcases this with rfl | rfl | rfl | rfl <;> exact .inl (by decide)
  · exact .inl (i64_wrap (by omega) (by omega))
theorem qB_i64 {x k : Int} (_ : I64 x) (_ : 1 ≤ k ∧ k ≤ 5) : I64 (qB x k) := by
  unfold qB I64
  rw [IntKind.wrap_i64]
  omega
theorem qB_mul {x k : Int} (hx : I64 x) (hk : 1 ≤ k ∧ k ≤ 5) (h : x.tmod k = 0) : x = k * qB x k := by
  rcases qB_eq hx hk with e | ⟨rfl, rfl⟩
  · rw [e]
    have := Int.mul_tdiv_add_tmod x k
    omega
  · decide
theorem holds_part {a b d x y k : Int} (h : holdsI a b d x y = true) (hx : I64 x) (hy : I64 y) (hk : 1 ≤ k ∧ k ≤ 5) (h2 : x.tmod k = 0) (h3 : y.tmod k = 0) : holdsI a b d (qB x k) (qB y k) = true := by
  have ex := qB_mul hx hk h2
  have ey := qB_mul hy hk h3
  have hkk : 0 ≤ k * k - 1 := by
    have := Int.mul_le_mul hk.1 hk.1 (by omega) (by omega)
    omega
  have h4 := psd_add h (psd_square (k * k - 1) (qB x k) (qB y k) hkk)
  rw [holdsI_eq]
  generalize qB x k = u at *
  generalize qB y k = v at *
  subst ex ey
  rwa [show a - k * u * (k * u) + (k * k - 1) * (u * u) = a - u * u by grind, show b - k * u * (k * v) + (k * k - 1) * (u * v) = b - u * v by grind, show d - k * v * (k * v) + (k * k - 1) * (v * v) = d - v * v by grind] at h4
theorem matHolds_pc {a b d a' b' d' x y k : Int} (ha : I64 a) (hb : I64 b) (hd : I64 d) (ha' : I64 a') (hb' : I64 b') (hd' : I64 d') (hx : I64 x) (hy : I64 y) : PC Try.prog 6 [sym a b d, sym a' b' d', pt x y, .int .i64 k] (.bool true) := by
  have hfl : [sym a b d, sym a' b' d', pt x y, .int .i64 k].all flat = true := by simp [flat_sym, flat_pt, show flat (Value.int .i64 k) = true from rfl]
  by_cases b0 : x < -1048576
  ·
    exact PC.run mixed Try.func6 [.tst true, .res (.bool true)] hfl (ts1 (tT b0)) (qs1 (awakeM)) (rfl) (rfl) (by kernel_rfl)
  ·
    by_cases b1 : x > 1048576
    ·
      exact PC.run mixed Try.func6 [.tst false, .tst true, .res (.bool true)] hfl (ts2 (tF b0) (tT b1)) (qs1 (awakeM)) (rfl) (rfl) (by kernel_rfl)
    ·
      by_cases b2 : y < -1048576
      ·
        exact PC.run mixed Try.func6 [.tst false, .tst false, .tst true, .res (.bool true)] hfl (ts3 (tF b0) (tF b1) (tT b2)) (qs1 (awakeM)) (rfl) (rfl) (by kernel_rfl)
      ·
        by_cases b3 : y > 1048576
        ·
          exact PC.run mixed Try.func6 [.tst false, .tst false, .tst false, .tst true, .res (.bool true)] hfl (ts4 (tF b0) (tF b1) (tF b2) (tT b3)) (qs1 (awakeM)) (rfl) (rfl) (by kernel_rfl)
        ·
          have hxs : -1048576 ≤ x ∧ x ≤ 1048576 := ⟨Int.not_lt.1 b0, Int.not_lt.1 b1⟩
          have hys : -1048576 ≤ y ∧ y ≤ 1048576 := ⟨Int.not_lt.1 b2, Int.not_lt.1 b3⟩
          cases h1 : holdsI a b d x y with
          | true =>
            by_cases h2 : x.tmod (kOf k) = 0
            ·
              by_cases h3 : y.tmod (kOf k) = 0
              ·
                cases h5 : leastI a' b' d' a b d with
                | true =>
                  exact PC.run mixed Try.func6 [.tst false, .tst false, .tst false, .tst false, .res (.bool true), .at 7 (.int .i64 (kOf k)), .res (.bool true), .auto, .tst true, .tst true, .res (.bool true), .res (.bool true), .res (.bool true), .res (.bool true), .res (.bool true)] hfl (ts11 (tF b0) (tF b1) (tF b2) (tF b3) (tT (kOf_eq k)) (tF (kOf_ne k)) (tT h2) (tF (kOf_ne k)) (tT h3) (tF (kOf_ne k)) (tF (kOf_ne k))) (qs7 (holdsM_qc ha hb hd hx hy _ h1) (holdsM_qc ha hb hd (nB_i64 x) (nB_i64 y) _ (holds_back h1 hxs hys)) (holdsM_qc ha hb hd (qB_i64 hx (kOf_pos k)) (qB_i64 hy (kOf_pos k)) _ (holds_part h1 hx hy (kOf_pos k) h2 h3)) (holdsM_qc ha hb hd (I64.lit (n := 0)) (I64.lit (n := 0)) _ (holds_origin h1)) (leastM_qc ha' hb' hd' ha hb hd _ h5) (holdsM_qc ha' hb' hd' hx hy _ (holds_more h5 h1)) (awakeM)) (rfl) (rfl) (by kernel_rfl)
                | false =>
                  exact PC.run mixed Try.func6 [.tst false, .tst false, .tst false, .tst false, .res (.bool true), .at 7 (.int .i64 (kOf k)), .res (.bool true), .auto, .tst true, .tst true, .res (.bool true), .res (.bool true), .res (.bool false), .res (.bool true)] hfl (ts11 (tF b0) (tF b1) (tF b2) (tF b3) (tT (kOf_eq k)) (tF (kOf_ne k)) (tT h2) (tF (kOf_ne k)) (tT h3) (tF (kOf_ne k)) (tF (kOf_ne k))) (qs6 (holdsM_qc ha hb hd hx hy _ h1) (holdsM_qc ha hb hd (nB_i64 x) (nB_i64 y) _ (holds_back h1 hxs hys)) (holdsM_qc ha hb hd (qB_i64 hx (kOf_pos k)) (qB_i64 hy (kOf_pos k)) _ (holds_part h1 hx hy (kOf_pos k) h2 h3)) (holdsM_qc ha hb hd (I64.lit (n := 0)) (I64.lit (n := 0)) _ (holds_origin h1)) (leastM_qc ha' hb' hd' ha hb hd _ h5) (awakeM)) (rfl) (rfl) (by kernel_rfl)
              ·
                cases h5 : leastI a' b' d' a b d with
                | true =>
                  exact PC.run mixed Try.func6 [.tst false, .tst false, .tst false, .tst false, .res (.bool true), .at 7 (.int .i64 (kOf k)), .res (.bool true), .auto, .tst true, .tst false, .res (.bool true), .res (.bool true), .res (.bool true), .res (.bool true)] hfl (ts9 (tF b0) (tF b1) (tF b2) (tF b3) (tT (kOf_eq k)) (tF (kOf_ne k)) (tT h2) (tF (kOf_ne k)) (tF h3)) (qs6 (holdsM_qc ha hb hd hx hy _ h1) (holdsM_qc ha hb hd (nB_i64 x) (nB_i64 y) _ (holds_back h1 hxs hys)) (holdsM_qc ha hb hd (I64.lit (n := 0)) (I64.lit (n := 0)) _ (holds_origin h1)) (leastM_qc ha' hb' hd' ha hb hd _ h5) (holdsM_qc ha' hb' hd' hx hy _ (holds_more h5 h1)) (awakeM)) (rfl) (rfl) (by kernel_rfl)
                | false =>
                  exact PC.run mixed Try.func6 [.tst false, .tst false, .tst false, .tst false, .res (.bool true), .at 7 (.int .i64 (kOf k)), .res (.bool true), .auto, .tst true, .tst false, .res (.bool true), .res (.bool false), .res (.bool true)] hfl (ts9 (tF b0) (tF b1) (tF b2) (tF b3) (tT (kOf_eq k)) (tF (kOf_ne k)) (tT h2) (tF (kOf_ne k)) (tF h3)) (qs5 (holdsM_qc ha hb hd hx hy _ h1) (holdsM_qc ha hb hd (nB_i64 x) (nB_i64 y) _ (holds_back h1 hxs hys)) (holdsM_qc ha hb hd (I64.lit (n := 0)) (I64.lit (n := 0)) _ (holds_origin h1)) (leastM_qc ha' hb' hd' ha hb hd _ h5) (awakeM)) (rfl) (rfl) (by kernel_rfl)
            ·
              cases h5 : leastI a' b' d' a b d with
              | true =>
                exact PC.run mixed Try.func6 [.tst false, .tst false, .tst false, .tst false, .res (.bool true), .at 7 (.int .i64 (kOf k)), .res (.bool true), .auto, .tst false, .res (.bool true), .res (.bool true), .res (.bool true), .res (.bool true)] hfl (ts7 (tF b0) (tF b1) (tF b2) (tF b3) (tT (kOf_eq k)) (tF (kOf_ne k)) (tF h2)) (qs6 (holdsM_qc ha hb hd hx hy _ h1) (holdsM_qc ha hb hd (nB_i64 x) (nB_i64 y) _ (holds_back h1 hxs hys)) (holdsM_qc ha hb hd (I64.lit (n := 0)) (I64.lit (n := 0)) _ (holds_origin h1)) (leastM_qc ha' hb' hd' ha hb hd _ h5) (holdsM_qc ha' hb' hd' hx hy _ (holds_more h5 h1)) (awakeM)) (rfl) (rfl) (by kernel_rfl)
              | false =>
                exact PC.run mixed Try.func6 [.tst false, .tst false, .tst false, .tst false, .res (.bool true), .at 7 (.int .i64 (kOf k)), .res (.bool true), .auto, .tst false, .res (.bool true), .res (.bool false), .res (.bool true)] hfl (ts7 (tF b0) (tF b1) (tF b2) (tF b3) (tT (kOf_eq k)) (tF (kOf_ne k)) (tF h2)) (qs5 (holdsM_qc ha hb hd hx hy _ h1) (holdsM_qc ha hb hd (nB_i64 x) (nB_i64 y) _ (holds_back h1 hxs hys)) (holdsM_qc ha hb hd (I64.lit (n := 0)) (I64.lit (n := 0)) _ (holds_origin h1)) (leastM_qc ha' hb' hd' ha hb hd _ h5) (awakeM)) (rfl) (rfl) (by kernel_rfl)
          | false =>
            exact PC.run mixed Try.func6 [.tst false, .tst false, .tst false, .tst false, .res (.bool false), .res (.bool true)] hfl (ts4 (tF b0) (tF b1) (tF b2) (tF b3)) (qs2 (holdsM_qc ha hb hd hx hy _ h1) (awakeM)) (rfl) (rfl) (by kernel_rfl)
theorem enters_matHolds : ∀ us w, (callFunc 6 us).run Try.prog w = .ok (.enter 6 us) w := enters Try.func6 rfl (by kernel_rfl)
end Go.Proofs.Ytokamlicglibkaa.W
