/-
  GrowBalls: grown by a radius.
-/
import Derived.Test.YtjmdppnhpfdhdaaGrowB
import Derived.Test.YtjmdppnhpfdhdaaEvT
namespace Go.Proofs.Ytjmdppnhpfdhdaa.W
open Go Go.Ev Go.Wide

theorem ball_moves {x y a b d p q u v r : Int} (h2 : mayR r = true) (h3 : mayG x y a b d 0 0 (r * r) 0 (r * r) = true) (h4 : inE x y a b d p q = true) (u0 : ¬ u < -4194304) (u1 : ¬ u > 4194304) (v0 : ¬ v < -4194304) (v1 : ¬ v > 4194304) (s : ¬ IntKind.i64.wrap (IntKind.i64.wrap (u * u) + IntKind.i64.wrap (v * v)) > IntKind.i64.wrap (r * r)) :
    inE (x + 0) (y + 0) (gA a d (r * r) (r * r)) (gB a b d (r * r) 0 (r * r)) (gD a d (r * r) (r * r)) (IntKind.i64.wrap (p + u)) (IntKind.i64.wrap (q + v)) = true := by
  have m1 : u * u ≤ 4194304 * 4194304 := sq_le ⟨by omega, by omega⟩
  have m2 : v * v ≤ 4194304 * 4194304 := sq_le ⟨by omega, by omega⟩
  have n1 := sq_nn u
  have n2 := sq_nn v
  have hr := r_sq h2
  rw [wrapS (z := u * u) (by omega), wrapS (z := v * v) (by omega), wrapS (z := r * r) (by omega), wrapS (by omega)] at s
  exact gsum_in_w h3 h4 (ball_in0 h2 (by omega) (by omega) (by omega))
theorem ball_trace {x y a b d r : Int} (h1 : mayL x y a b d = true) (h2 : mayR r = true) (h3 : mayG x y a b d 0 0 (r * r) 0 (r * r) = true) : trI (x + 0) (y + 0) (gA a d (r * r) (r * r)) (gB a b d (r * r) 0 (r * r)) (gD a d (r * r) (r * r)) > trI x y a b d := by
  have := gsum_trace h1 (ball_may0 h2) h3
  have := (trI_i64 0 0 (r * r) 0 (r * r)).2
  omega
theorem pt_eq0 (x y : Int) : (decide (x + 0 = x) && (decide (y + 0 = y) && true)) = true := by simp
theorem growBalls_pc {x y a b d p q u v r : Int} (ha : I64 a) (hb : I64 b) (hd : I64 d) : PC Try.prog 5 [ell x y a b d, pt p q, pt u v, Value.int .i64 r] (.bool true) := by
  have hfl : [ell x y a b d, pt p q, pt u v, Value.int .i64 r].all flat = true := by simp [flat_ell, flat_pt]; rfl --]
  cases h1 : mayL x y a b d with
  | true =>
    by_cases h0 : r = 0
    ·
      cases h4 : inE x y a b d p q with
      | true =>
        by_cases u0 : u < -4194304
        ·
          exact PC.run mixed Try.func5 [.res (ellT x y a b d 0), .res (.bool true), .auto, .tst true, .res (.bool true)] hfl (ts1 (tT u0)) (qs3 (gball_qc x y r ha hb hd _ (gball_0 h1 h0)) (inE_qc x y p q ha hb hd _ h4) (awakeG)) (rfl) (rfl) (by kernel_rfl)
        ·
          by_cases u1 : u > 4194304
          ·
            exact PC.run mixed Try.func5 [.res (ellT x y a b d 0), .res (.bool true), .auto, .tst false, .tst true, .res (.bool true)] hfl (ts2 (tF u0) (tT u1)) (qs3 (gball_qc x y r ha hb hd _ (gball_0 h1 h0)) (inE_qc x y p q ha hb hd _ h4) (awakeG)) (rfl) (rfl) (by kernel_rfl)
          ·
            by_cases v0 : v < -4194304
            ·
              exact PC.run mixed Try.func5 [.res (ellT x y a b d 0), .res (.bool true), .auto, .tst false, .tst false, .tst true, .res (.bool true)] hfl (ts3 (tF u0) (tF u1) (tT v0)) (qs3 (gball_qc x y r ha hb hd _ (gball_0 h1 h0)) (inE_qc x y p q ha hb hd _ h4) (awakeG)) (rfl) (rfl) (by kernel_rfl)
            ·
              by_cases v1 : v > 4194304
              ·
                exact PC.run mixed Try.func5 [.res (ellT x y a b d 0), .res (.bool true), .auto, .tst false, .tst false, .tst false, .tst true, .res (.bool true)] hfl (ts4 (tF u0) (tF u1) (tF v0) (tT v1)) (qs3 (gball_qc x y r ha hb hd _ (gball_0 h1 h0)) (inE_qc x y p q ha hb hd _ h4) (awakeG)) (rfl) (rfl) (by kernel_rfl)
              ·
                by_cases s : IntKind.i64.wrap (IntKind.i64.wrap (u * u) + IntKind.i64.wrap (v * v)) > IntKind.i64.wrap (r * r)
                ·
                  exact PC.run mixed Try.func5 [.res (ellT x y a b d 0), .res (.bool true), .auto, .tst false, .tst false, .tst false, .tst false, .tst true, .res (.bool true)] hfl (ts5 (tF u0) (tF u1) (tF v0) (tF v1) (tT s)) (qs3 (gball_qc x y r ha hb hd _ (gball_0 h1 h0)) (inE_qc x y p q ha hb hd _ h4) (awakeG)) (rfl) (rfl) (by kernel_rfl)
                ·
                  exact PC.run mixed Try.func5 [.res (ellT x y a b d 0), .res (.bool true), .auto, .tst false, .tst false, .tst false, .tst false, .tst false, .tst true, .tst true, .res (.bool true)] hfl (ts7 (tF u0) (tF u1) (tF v0) (tF v1) (tF s) (tT h0) (ell_refl x y a b d)) (qs3 (gball_qc x y r ha hb hd _ (gball_0 h1 h0)) (inE_qc x y p q ha hb hd _ h4) (awakeG)) (rfl) (rfl) (by kernel_rfl)
      | false =>
        exact PC.run mixed Try.func5 [.res (ellT x y a b d 0), .res (.bool false), .res (.bool true)] hfl (ts0 ) (qs3 (gball_qc x y r ha hb hd _ (gball_0 h1 h0)) (inE_qc x y p q ha hb hd _ h4) (awakeG)) (rfl) (rfl) (by kernel_rfl)
    ·
      cases h2 : mayR r with
      | true =>
        cases h3 : mayG x y a b d 0 0 (r * r) 0 (r * r) with
        | true =>
          obtain ⟨iA, iB, iD⟩ := mayG_i64 h3
          cases h4 : inE x y a b d p q with
          | true =>
            by_cases u0 : u < -4194304
            ·
              exact PC.run mixed Try.func5 [.res (sumT5 x y a b d 0 0 (r * r) 0 (r * r)), .res (.bool true), .auto, .tst true, .res (.bool true)] hfl (ts1 (tT u0)) (qs3 (gball_qc x y r ha hb hd _ (gball_ok h1 h0 h2 h3)) (inE_qc x y p q ha hb hd _ h4) (awakeG)) (rfl) (rfl) (by kernel_rfl)
            ·
              by_cases u1 : u > 4194304
              ·
                exact PC.run mixed Try.func5 [.res (sumT5 x y a b d 0 0 (r * r) 0 (r * r)), .res (.bool true), .auto, .tst false, .tst true, .res (.bool true)] hfl (ts2 (tF u0) (tT u1)) (qs3 (gball_qc x y r ha hb hd _ (gball_ok h1 h0 h2 h3)) (inE_qc x y p q ha hb hd _ h4) (awakeG)) (rfl) (rfl) (by kernel_rfl)
              ·
                by_cases v0 : v < -4194304
                ·
                  exact PC.run mixed Try.func5 [.res (sumT5 x y a b d 0 0 (r * r) 0 (r * r)), .res (.bool true), .auto, .tst false, .tst false, .tst true, .res (.bool true)] hfl (ts3 (tF u0) (tF u1) (tT v0)) (qs3 (gball_qc x y r ha hb hd _ (gball_ok h1 h0 h2 h3)) (inE_qc x y p q ha hb hd _ h4) (awakeG)) (rfl) (rfl) (by kernel_rfl)
                ·
                  by_cases v1 : v > 4194304
                  ·
                    exact PC.run mixed Try.func5 [.res (sumT5 x y a b d 0 0 (r * r) 0 (r * r)), .res (.bool true), .auto, .tst false, .tst false, .tst false, .tst true, .res (.bool true)] hfl (ts4 (tF u0) (tF u1) (tF v0) (tT v1)) (qs3 (gball_qc x y r ha hb hd _ (gball_ok h1 h0 h2 h3)) (inE_qc x y p q ha hb hd _ h4) (awakeG)) (rfl) (rfl) (by kernel_rfl)
                  ·
                    by_cases s : IntKind.i64.wrap (IntKind.i64.wrap (u * u) + IntKind.i64.wrap (v * v)) > IntKind.i64.wrap (r * r)
                    ·
                      exact PC.run mixed Try.func5 [.res (sumT5 x y a b d 0 0 (r * r) 0 (r * r)), .res (.bool true), .auto, .tst false, .tst false, .tst false, .tst false, .tst true, .res (.bool true)] hfl (ts5 (tF u0) (tF u1) (tF v0) (tF v1) (tT s)) (qs3 (gball_qc x y r ha hb hd _ (gball_ok h1 h0 h2 h3)) (inE_qc x y p q ha hb hd _ h4) (awakeG)) (rfl) (rfl) (by kernel_rfl)
                    ·
                      exact PC.run mixed Try.func5 [.res (sumT5 x y a b d 0 0 (r * r) 0 (r * r)), .res (.bool true), .auto, .tst false, .tst false, .tst false, .tst false, .tst false, .tst false, .res (.bool true), .auto, .tst true, .res (.int .i64 (trI (x + 0) (y + 0) (gA a d (r * r) (r * r)) (gB a b d (r * r) 0 (r * r)) (gD a d (r * r) (r * r)))), .res (.int .i64 (trI x y a b d)), .tst true, .res (.bool true)] hfl (ts8 (tF u0) (tF u1) (tF v0) (tF v1) (tF s) (tF h0) (pt_eq0 x y) (tT (ball_trace h1 h2 h3))) (qs6 (gball_qc x y r ha hb hd _ (gball_ok h1 h0 h2 h3)) (inE_qc x y p q ha hb hd _ h4) (inE_qc (x + 0) (y + 0) (IntKind.i64.wrap (p + u)) (IntKind.i64.wrap (q + v)) iA iB iD _ (ball_moves h2 h3 h4 u0 u1 v0 v1 s)) (trace_qc (x + 0) (y + 0) iA iB iD) (trace_qc x y ha hb hd) (awakeG)) (rfl) (rfl) (by kernel_rfl)
          | false =>
            exact PC.run mixed Try.func5 [.res (sumT5 x y a b d 0 0 (r * r) 0 (r * r)), .res (.bool false), .res (.bool true)] hfl (ts0 ) (qs3 (gball_qc x y r ha hb hd _ (gball_ok h1 h0 h2 h3)) (inE_qc x y p q ha hb hd _ h4) (awakeG)) (rfl) (rfl) (by kernel_rfl)
        | false =>
          exact PC.run mixed Try.func5 [.res (ellT 0 0 0 0 0 2), .res (.bool true)] hfl (ts0 ) (qs2 (gball_qc x y r ha hb hd _ (gball_over h1 h0 h2 h3)) (awakeG)) (rfl) (rfl) (by kernel_rfl)
      | false =>
        exact PC.run mixed Try.func5 [.res (ellT 0 0 0 0 0 1), .res (.bool true)] hfl (ts0 ) (qs2 (gball_qc x y r ha hb hd _ (gball_rad h1 h0 h2)) (awakeG)) (rfl) (rfl) (by kernel_rfl)
  | false =>
    exact PC.run mixed Try.func5 [.res (ellT 0 0 0 0 0 1), .res (.bool true)] hfl (ts0 ) (qs2 (gball_qc x y r ha hb hd _ (gball_arg h1)) (awakeG)) (rfl) (rfl) (by kernel_rfl)
theorem enters_growBalls : ∀ us w, (callFunc 5 us).run Try.prog w = .ok (.enter 5 us) w := enters Try.func5 rfl (by kernel_rfl)
end Go.Proofs.Ytjmdppnhpfdhdaa.W
