/-
  MatSums: sums of what is at least what is.
-/
import Derived.Test.YtokamlicglibkaaMatM
import Derived.Test.YtokamlicglibkaaEvS
namespace Go.Proofs.Ytokamlicglibkaa.W
open Go Go.Ev Go.Wide

theorem addM_qc (a b d a' b' d' : Int) (v : Value) (h : sumV a b d a' b' d' = v) : QC Try.prog 10 [sym a b d, sym a' b' d'] v := h ▸ QC.of_pc enters_addM (addM_pc a b d a' b' d')
theorem s_i64 {a b d : Int} (h : mayM a b d = true) : I64 a ∧ I64 b ∧ I64 d := by
  have := mayM_iff.1 h
  unfold I64
  omega
theorem least_sums {a1 b1 d1 a2 b2 d2 a3 b3 d3 a4 b4 d4 : Int} (h1 : mayM (a1 + a3) (b1 + b3) (d1 + d3) = true) (h2 : mayM (a2 + a4) (b2 + b4) (d2 + d4) = true) (l1 : leastI a1 b1 d1 a2 b2 d2 = true) (l2 : leastI a3 b3 d3 a4 b4 d4 = true) :
    leastI (a1 + a3) (b1 + b3) (d1 + d3) (a2 + a4) (b2 + b4) (d2 + d4) = true := by
  have p1 := (leastI_iff.1 l1).2.2
  have p2 := (leastI_iff.1 l2).2.2
  refine leastI_iff.2 ⟨h1, h2, ?_⟩
  have h3 := psd_add p1 p2
  rwa [show a1 - a2 + (a3 - a4) = a1 + a3 - (a2 + a4) by omega, show b1 - b2 + (b3 - b4) = b1 + b3 - (b2 + b4) by omega, show d1 - d2 + (d3 - d4) = d1 + d3 - (d2 + d4) by omega] at h3
theorem matSums_pc {a1 b1 d1 a2 b2 d2 a3 b3 d3 a4 b4 d4 : Int} (ha1 : I64 a1) (hb1 : I64 b1) (hd1 : I64 d1) (ha2 : I64 a2) (hb2 : I64 b2) (hd2 : I64 d2) (ha3 : I64 a3) (hb3 : I64 b3) (hd3 : I64 d3) (ha4 : I64 a4) (hb4 : I64 b4) (hd4 : I64 d4) : PC Try.prog 7 [sym a1 b1 d1, sym a2 b2 d2, sym a3 b3 d3, sym a4 b4 d4] (.bool true) := by
  have hfl : [sym a1 b1 d1, sym a2 b2 d2, sym a3 b3 d3, sym a4 b4 d4].all flat = true := by simp [flat_sym]
  cases m1a : mayM a1 b1 d1 with
  | true =>
    cases m1b : mayM a3 b3 d3 with
    | true =>
      cases m1c : mayM (a1 + a3) (b1 + b3) (d1 + d3) with
      | true =>
        cases m2a : mayM a2 b2 d2 with
        | true =>
          cases m2b : mayM a4 b4 d4 with
          | true =>
            cases m2c : mayM (a2 + a4) (b2 + b4) (d2 + d4) with
            | true =>
              cases l1 : leastI a1 b1 d1 a2 b2 d2 with
              | true =>
                cases l2 : leastI a3 b3 d3 a4 b4 d4 with
                | true =>
                  have l3 : leastI (a1 + a3) (b1 + b3) (d1 + d3) (a2 + a4) (b2 + b4) (d2 + d4) = true := least_sums m1c m2c l1 l2
                  exact PC.run mixed Try.func7 [.res (sumT (a1 + a3) (b1 + b3) (d1 + d3)), .res (sumT (a2 + a4) (b2 + b4) (d2 + d4)), .res (.bool true), .res (.bool true), .res (.bool true), .res (.bool true)] hfl (ts0 ) (qs6 (addM_qc a1 b1 d1 a3 b3 d3 (sumT (a1 + a3) (b1 + b3) (d1 + d3)) (by simp [sumV, sumT, m1a, m1b, m1c])) (addM_qc a2 b2 d2 a4 b4 d4 (sumT (a2 + a4) (b2 + b4) (d2 + d4)) (by simp [sumV, sumT, m2a, m2b, m2c])) (leastM_qc ha1 hb1 hd1 ha2 hb2 hd2 _ l1) (leastM_qc ha3 hb3 hd3 ha4 hb4 hd4 _ l2) (leastM_qc (s_i64 m1c).1 (s_i64 m1c).2.1 (s_i64 m1c).2.2 (s_i64 m2c).1 (s_i64 m2c).2.1 (s_i64 m2c).2.2 _ l3) (awakeM)) (rfl) (rfl) (by kernel_rfl)
                | false =>
                  exact PC.run mixed Try.func7 [.res (sumT (a1 + a3) (b1 + b3) (d1 + d3)), .res (sumT (a2 + a4) (b2 + b4) (d2 + d4)), .res (.bool true), .res (.bool false), .res (.bool true)] hfl (ts0 ) (qs5 (addM_qc a1 b1 d1 a3 b3 d3 (sumT (a1 + a3) (b1 + b3) (d1 + d3)) (by simp [sumV, sumT, m1a, m1b, m1c])) (addM_qc a2 b2 d2 a4 b4 d4 (sumT (a2 + a4) (b2 + b4) (d2 + d4)) (by simp [sumV, sumT, m2a, m2b, m2c])) (leastM_qc ha1 hb1 hd1 ha2 hb2 hd2 _ l1) (leastM_qc ha3 hb3 hd3 ha4 hb4 hd4 _ l2) (awakeM)) (rfl) (rfl) (by kernel_rfl)
              | false =>
                exact PC.run mixed Try.func7 [.res (sumT (a1 + a3) (b1 + b3) (d1 + d3)), .res (sumT (a2 + a4) (b2 + b4) (d2 + d4)), .res (.bool false), .res (.bool true)] hfl (ts0 ) (qs4 (addM_qc a1 b1 d1 a3 b3 d3 (sumT (a1 + a3) (b1 + b3) (d1 + d3)) (by simp [sumV, sumT, m1a, m1b, m1c])) (addM_qc a2 b2 d2 a4 b4 d4 (sumT (a2 + a4) (b2 + b4) (d2 + d4)) (by simp [sumV, sumT, m2a, m2b, m2c])) (leastM_qc ha1 hb1 hd1 ha2 hb2 hd2 _ l1) (awakeM)) (rfl) (rfl) (by kernel_rfl)
            | false =>
              exact PC.run mixed Try.func7 [.res (sumT (a1 + a3) (b1 + b3) (d1 + d3)), .res (.tuple #[sym 0 0 0, .int .i64 2]), .res (.bool true)] hfl (ts0 ) (qs3 (addM_qc a1 b1 d1 a3 b3 d3 (sumT (a1 + a3) (b1 + b3) (d1 + d3)) (by simp [sumV, sumT, m1a, m1b, m1c])) (addM_qc a2 b2 d2 a4 b4 d4 (.tuple #[sym 0 0 0, .int .i64 2]) (by simp [sumV, sumT, m2a, m2b, m2c])) (awakeM)) (rfl) (rfl) (by kernel_rfl)
          | false =>
            exact PC.run mixed Try.func7 [.res (sumT (a1 + a3) (b1 + b3) (d1 + d3)), .res (.tuple #[sym 0 0 0, .int .i64 1]), .res (.bool true)] hfl (ts0 ) (qs3 (addM_qc a1 b1 d1 a3 b3 d3 (sumT (a1 + a3) (b1 + b3) (d1 + d3)) (by simp [sumV, sumT, m1a, m1b, m1c])) (addM_qc a2 b2 d2 a4 b4 d4 (.tuple #[sym 0 0 0, .int .i64 1]) (by simp [sumV, sumT, m2a, m2b])) (awakeM)) (rfl) (rfl) (by kernel_rfl)
        | false =>
          exact PC.run mixed Try.func7 [.res (sumT (a1 + a3) (b1 + b3) (d1 + d3)), .res (.tuple #[sym 0 0 0, .int .i64 1]), .res (.bool true)] hfl (ts0 ) (qs3 (addM_qc a1 b1 d1 a3 b3 d3 (sumT (a1 + a3) (b1 + b3) (d1 + d3)) (by simp [sumV, sumT, m1a, m1b, m1c])) (addM_qc a2 b2 d2 a4 b4 d4 (.tuple #[sym 0 0 0, .int .i64 1]) (by simp [sumV, sumT, m2a])) (awakeM)) (rfl) (rfl) (by kernel_rfl)
      | false =>
        cases m2a : mayM a2 b2 d2 with
        | true =>
          cases m2b : mayM a4 b4 d4 with
          | true =>
            cases m2c : mayM (a2 + a4) (b2 + b4) (d2 + d4) with
            | true =>
              exact PC.run mixed Try.func7 [.res (.tuple #[sym 0 0 0, .int .i64 2]), .res (sumT (a2 + a4) (b2 + b4) (d2 + d4)), .res (.bool true)] hfl (ts0 ) (qs3 (addM_qc a1 b1 d1 a3 b3 d3 (.tuple #[sym 0 0 0, .int .i64 2]) (by simp [sumV, sumT, m1a, m1b, m1c])) (addM_qc a2 b2 d2 a4 b4 d4 (sumT (a2 + a4) (b2 + b4) (d2 + d4)) (by simp [sumV, sumT, m2a, m2b, m2c])) (awakeM)) (rfl) (rfl) (by kernel_rfl)
            | false =>
              exact PC.run mixed Try.func7 [.res (.tuple #[sym 0 0 0, .int .i64 2]), .res (.tuple #[sym 0 0 0, .int .i64 2]), .res (.bool true)] hfl (ts0 ) (qs3 (addM_qc a1 b1 d1 a3 b3 d3 (.tuple #[sym 0 0 0, .int .i64 2]) (by simp [sumV, sumT, m1a, m1b, m1c])) (addM_qc a2 b2 d2 a4 b4 d4 (.tuple #[sym 0 0 0, .int .i64 2]) (by simp [sumV, sumT, m2a, m2b, m2c])) (awakeM)) (rfl) (rfl) (by kernel_rfl)
          | false =>
            exact PC.run mixed Try.func7 [.res (.tuple #[sym 0 0 0, .int .i64 2]), .res (.tuple #[sym 0 0 0, .int .i64 1]), .res (.bool true)] hfl (ts0 ) (qs3 (addM_qc a1 b1 d1 a3 b3 d3 (.tuple #[sym 0 0 0, .int .i64 2]) (by simp [sumV, sumT, m1a, m1b, m1c])) (addM_qc a2 b2 d2 a4 b4 d4 (.tuple #[sym 0 0 0, .int .i64 1]) (by simp [sumV, sumT, m2a, m2b])) (awakeM)) (rfl) (rfl) (by kernel_rfl)
        | false =>
          exact PC.run mixed Try.func7 [.res (.tuple #[sym 0 0 0, .int .i64 2]), .res (.tuple #[sym 0 0 0, .int .i64 1]), .res (.bool true)] hfl (ts0 ) (qs3 (addM_qc a1 b1 d1 a3 b3 d3 (.tuple #[sym 0 0 0, .int .i64 2]) (by simp [sumV, sumT, m1a, m1b, m1c])) (addM_qc a2 b2 d2 a4 b4 d4 (.tuple #[sym 0 0 0, .int .i64 1]) (by simp [sumV, sumT, m2a])) (awakeM)) (rfl) (rfl) (by kernel_rfl)
    | false =>
      cases m2a : mayM a2 b2 d2 with
      | true =>
        cases m2b : mayM a4 b4 d4 with
        | true =>
          cases m2c : mayM (a2 + a4) (b2 + b4) (d2 + d4) with
          | true =>
            exact PC.run mixed Try.func7 [.res (.tuple #[sym 0 0 0, .int .i64 1]), .res (sumT (a2 + a4) (b2 + b4) (d2 + d4)), .res (.bool true)] hfl (ts0 ) (qs3 (addM_qc a1 b1 d1 a3 b3 d3 (.tuple #[sym 0 0 0, .int .i64 1]) (by simp [sumV, sumT, m1a, m1b])) (addM_qc a2 b2 d2 a4 b4 d4 (sumT (a2 + a4) (b2 + b4) (d2 + d4)) (by simp [sumV, sumT, m2a, m2b, m2c])) (awakeM)) (rfl) (rfl) (by kernel_rfl)
          | false =>
            exact PC.run mixed Try.func7 [.res (.tuple #[sym 0 0 0, .int .i64 1]), .res (.tuple #[sym 0 0 0, .int .i64 2]), .res (.bool true)] hfl (ts0 ) (qs3 (addM_qc a1 b1 d1 a3 b3 d3 (.tuple #[sym 0 0 0, .int .i64 1]) (by simp [sumV, sumT, m1a, m1b])) (addM_qc a2 b2 d2 a4 b4 d4 (.tuple #[sym 0 0 0, .int .i64 2]) (by simp [sumV, sumT, m2a, m2b, m2c])) (awakeM)) (rfl) (rfl) (by kernel_rfl)
        | false =>
          exact PC.run mixed Try.func7 [.res (.tuple #[sym 0 0 0, .int .i64 1]), .res (.tuple #[sym 0 0 0, .int .i64 1]), .res (.bool true)] hfl (ts0 ) (qs3 (addM_qc a1 b1 d1 a3 b3 d3 (.tuple #[sym 0 0 0, .int .i64 1]) (by simp [sumV, sumT, m1a, m1b])) (addM_qc a2 b2 d2 a4 b4 d4 (.tuple #[sym 0 0 0, .int .i64 1]) (by simp [sumV, sumT, m2a, m2b])) (awakeM)) (rfl) (rfl) (by kernel_rfl)
      | false =>
        exact PC.run mixed Try.func7 [.res (.tuple #[sym 0 0 0, .int .i64 1]), .res (.tuple #[sym 0 0 0, .int .i64 1]), .res (.bool true)] hfl (ts0 ) (qs3 (addM_qc a1 b1 d1 a3 b3 d3 (.tuple #[sym 0 0 0, .int .i64 1]) (by simp [sumV, sumT, m1a, m1b])) (addM_qc a2 b2 d2 a4 b4 d4 (.tuple #[sym 0 0 0, .int .i64 1]) (by simp [sumV, sumT, m2a])) (awakeM)) (rfl) (rfl) (by kernel_rfl)
  | false =>
    cases m2a : mayM a2 b2 d2 with
    | true =>
      cases m2b : mayM a4 b4 d4 with
      | true =>
        cases m2c : mayM (a2 + a4) (b2 + b4) (d2 + d4) with
        | true =>
          exact PC.run mixed Try.func7 [.res (.tuple #[sym 0 0 0, .int .i64 1]), .res (sumT (a2 + a4) (b2 + b4) (d2 + d4)), .res (.bool true)] hfl (ts0 ) (qs3 (addM_qc a1 b1 d1 a3 b3 d3 (.tuple #[sym 0 0 0, .int .i64 1]) (by simp [sumV, sumT, m1a])) (addM_qc a2 b2 d2 a4 b4 d4 (sumT (a2 + a4) (b2 + b4) (d2 + d4)) (by simp [sumV, sumT, m2a, m2b, m2c])) (awakeM)) (rfl) (rfl) (by kernel_rfl)
        | false =>
          exact PC.run mixed Try.func7 [.res (.tuple #[sym 0 0 0, .int .i64 1]), .res (.tuple #[sym 0 0 0, .int .i64 2]), .res (.bool true)] hfl (ts0 ) (qs3 (addM_qc a1 b1 d1 a3 b3 d3 (.tuple #[sym 0 0 0, .int .i64 1]) (by simp [sumV, sumT, m1a])) (addM_qc a2 b2 d2 a4 b4 d4 (.tuple #[sym 0 0 0, .int .i64 2]) (by simp [sumV, sumT, m2a, m2b, m2c])) (awakeM)) (rfl) (rfl) (by kernel_rfl)
      | false =>
        exact PC.run mixed Try.func7 [.res (.tuple #[sym 0 0 0, .int .i64 1]), .res (.tuple #[sym 0 0 0, .int .i64 1]), .res (.bool true)] hfl (ts0 ) (qs3 (addM_qc a1 b1 d1 a3 b3 d3 (.tuple #[sym 0 0 0, .int .i64 1]) (by simp [sumV, sumT, m1a])) (addM_qc a2 b2 d2 a4 b4 d4 (.tuple #[sym 0 0 0, .int .i64 1]) (by simp [sumV, sumT, m2a, m2b])) (awakeM)) (rfl) (rfl) (by kernel_rfl)
    | false =>
      exact PC.run mixed Try.func7 [.res (.tuple #[sym 0 0 0, .int .i64 1]), .res (.tuple #[sym 0 0 0, .int .i64 1]), .res (.bool true)] hfl (ts0 ) (qs3 (addM_qc a1 b1 d1 a3 b3 d3 (.tuple #[sym 0 0 0, .int .i64 1]) (by simp [sumV, sumT, m1a])) (addM_qc a2 b2 d2 a4 b4 d4 (.tuple #[sym 0 0 0, .int .i64 1]) (by simp [sumV, sumT, m2a])) (awakeM)) (rfl) (rfl) (by kernel_rfl)
theorem enters_matSums : ∀ us w, (callFunc 7 us).run Try.prog w = .ok (.enter 7 us) w := enters Try.func7 rfl (by kernel_rfl)
end Go.Proofs.Ytokamlicglibkaa.W
