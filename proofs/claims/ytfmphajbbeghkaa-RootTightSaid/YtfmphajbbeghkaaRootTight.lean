/-
  RootTight: down and up are at most one apart.
-/
import Derived.Test.YtfmphajbbeghkaaRootM
namespace Go.Proofs.Ytfmphajbbeghkaa.W
open Go Go.Ev Go.Wide

def n62 (n : Int) : Int := andK n 4611686018427387903
theorem n62_eq (n : Int) : andK n 4611686018427387903 = n62 n := rfl
theorem n62_range (n : Int) : 0 ≤ n62 n ∧ n62 n < 4611686018427387904 := by
  have h : n62 n = n % ((2 ^ 62 : Nat) : Int) := andK_eq n 4611686018427387903 62 (by decide) (by omega)
  have e : ((2 ^ 62 : Nat) : Int) = 4611686018427387904 := by decide
  rw [h, e]
  omega
theorem ord_zero {x y : Int} : (ordI x y = 0) ↔ x = y := by
  unfold ordI
  split
  · omega
  · split <;> omega
theorem tight_bool {p q z c : Int} (h : p = q ↔ p * c = z) : (p == q) = (ordI (p * c) z == 0) := by
  rw [Bool.eq_iff_iff, beq_iff_eq, beq_iff_eq, ord_zero]
  exact h
theorem rootTight_pc {n a b c : Int} (ha : I64r a) (hb : I64r b) (hc : I64r c) : PC Try.prog 4 [.int .i64 (n), .int .i64 (a), .int .i64 (b), .int .i64 (c)] (.bool true) := by
  have hfl : [.int .i64 (n), .int .i64 (a), .int .i64 (b), .int .i64 (c)].all flat = true := by simp [show flat (Value.int .i64 n) = true from rfl, show flat (Value.int .i64 a) = true from rfl, show flat (Value.int .i64 b) = true from rfl, show flat (Value.int .i64 c) = true from rfl]
  have hm := n62_range n
  obtain ⟨q1, q2, q3, q4, q5, q6, q7⟩ := roots hm.1 (by omega)
  have q0 := sqI_nn (n62 n)
  have r8 := small_sq q0 (by omega)
  have r10 := small_sq (s := upI (n62 n)) (by omega) (by omega)
  have r9 : -9223372036854775808 ≤ upI (n62 n) - sqI (n62 n) ∧ upI (n62 n) - sqI (n62 n) ≤ 9223372036854775807 := by omega
  have r1 : ¬ sqI (n62 n) * sqI (n62 n) > n62 n := by omega
  have r2 : ¬ upI (n62 n) - sqI (n62 n) < 0 := by omega
  have r3 : ¬ upI (n62 n) - sqI (n62 n) > 1 := by omega
  have r4 : (upI (n62 n) == sqI (n62 n)) = (sqI (n62 n) * sqI (n62 n) == n62 n) := by rw [Bool.eq_iff_iff, beq_iff_eq, beq_iff_eq]; exact q4
  have r5 : ¬ upI (n62 n) * upI (n62 n) < n62 n := by omega
  by_cases h0 : c = 0
  ·
    exact PC.run mixed Try.func4 [.at 2 (.int .i64 (n62 n)), .res (.int .i64 (sqI (n62 n))), .res (.int .i64 (upI (n62 n))), .at 5 (.int .i64 (sqI (n62 n) * sqI (n62 n))), .tst false, .at 2 (.int .i64 (upI (n62 n) - sqI (n62 n))), .tst false, .at 2 (.int .i64 (upI (n62 n) - sqI (n62 n))), .tst false, .at 5 (.int .i64 (sqI (n62 n) * sqI (n62 n))), .tst false, .at 2 (.int .i64 (upI (n62 n) * upI (n62 n))), .tst false, .res (errI 0 1), .res (errI 0 1), .auto, .auto, .tst false, .res (.bool true)] hfl (ts12 (tT (n62_eq n)) (tT (wrap_id r8)) (tF r1) (tT (wrap_id r9)) (tF r2) (tT (wrap_id r9)) (tF r3) (tT (wrap_id r8)) (tN r4) (tT (wrap_id r10)) (tF r5) (tN h0)) (qs5 (rsqrt_qc (n := n62 n) (by omega) (by omega)) (up_qc (n := n62 n) (by omega) (by omega)) (mulDiv_qc ha hb hc _ (mdV_arg h0)) (mulDivUp_qc ha hb hc _ (muV_arg h0)) (awakeR)) (rfl) (rfl) (by kernel_rfl)
  ·
    obtain ⟨k1, k2, k3⟩ := fdiv_cdiv_any (z := a * b) h0
    cases f1 : fits64 ((a * b).fdiv c) with
    | true =>
      cases f2 : fits64 (cdiv (a * b) c) with
      | true =>
        have g1 := fits64_iff.1 f1
        have g2 := fits64_iff.1 f2
        have r20 : -9223372036854775808 ≤ cdiv (a * b) c - (a * b).fdiv c ∧ cdiv (a * b) c - (a * b).fdiv c ≤ 9223372036854775807 := by omega
        have o1 : QC Try.prog 17 [wz ((a * b).fdiv c * c), wz (a * b)] (ordV (ordI ((a * b).fdiv c * c) (a * b))) := QC.of_pc enters_cmp (cmp_pc (prod_wf ⟨g1.1, g1.2⟩ hc) (prod_wf ha hb))
        exact PC.run mixed Try.func4 [.at 2 (.int .i64 (n62 n)), .res (.int .i64 (sqI (n62 n))), .res (.int .i64 (upI (n62 n))), .at 5 (.int .i64 (sqI (n62 n) * sqI (n62 n))), .tst false, .at 2 (.int .i64 (upI (n62 n) - sqI (n62 n))), .tst false, .at 2 (.int .i64 (upI (n62 n) - sqI (n62 n))), .tst false, .at 5 (.int .i64 (sqI (n62 n) * sqI (n62 n))), .tst false, .at 2 (.int .i64 (upI (n62 n) * upI (n62 n))), .tst false, .res (errI ((a * b).fdiv c) 0), .res (errI (cdiv (a * b) c) 0), .res (wz ((a * b).fdiv c)), .res (wz (c)), .res (wz ((a * b).fdiv c * c)), .res (wz (a)), .res (wz (b)), .res (wz (a * b)), .res (ordV (ordI ((a * b).fdiv c * c) (a * b))), .at 8 (.int .i64 (cdiv (a * b) c - (a * b).fdiv c)), .tst true, .at 2 (.int .i64 (cdiv (a * b) c - (a * b).fdiv c)), .tst true, .tst true, .res (.bool true)] hfl (tsC (tT (n62_eq n)) (tsC (tT (wrap_id r8)) (tsC (tF r1) (tsC (tT (wrap_id r9)) (tsC (tF r2) (tsC (tT (wrap_id r9)) (tsC (tF r3) (tsC (tT (wrap_id r8)) (tsC (tN r4) (tsC (tT (wrap_id r10)) (tsC (tF r5) (tsC (tT (wrap_id r20)) (tsC (tT (p := cdiv (a * b) c - (a * b).fdiv c ≥ 0) (by omega)) (tsC (tT (wrap_id r20)) (tsC (tT (p := cdiv (a * b) c - (a * b).fdiv c ≤ 1) (by omega)) (tsC (tT (tight_bool k3)) ts0)))))))))))))))) (qs12 (rsqrt_qc (n := n62 n) (by omega) (by omega)) (up_qc (n := n62 n) (by omega) (by omega)) (mulDiv_qc ha hb hc _ (mdV_fits h0 f1)) (mulDivUp_qc ha hb hc _ (muV_fits h0 f2)) (QC.of_pc enters_of (of_wz g1.1 g1.2)) (QC.of_pc enters_of (of_wz hc.1 hc.2)) (QC.of_pc enters_mul (mul_wz (Sm.i64 g1.1 g1.2) (Sm.i64 hc.1 hc.2))) (QC.of_pc enters_of (of_wz ha.1 ha.2)) (QC.of_pc enters_of (of_wz hb.1 hb.2)) (QC.of_pc enters_mul (mul_wz (Sm.i64 ha.1 ha.2) (Sm.i64 hb.1 hb.2))) (o1) (awakeR)) (rfl) (rfl) (by kernel_rfl)
      | false =>
        exact PC.run mixed Try.func4 [.at 2 (.int .i64 (n62 n)), .res (.int .i64 (sqI (n62 n))), .res (.int .i64 (upI (n62 n))), .at 5 (.int .i64 (sqI (n62 n) * sqI (n62 n))), .tst false, .at 2 (.int .i64 (upI (n62 n) - sqI (n62 n))), .tst false, .at 2 (.int .i64 (upI (n62 n) - sqI (n62 n))), .tst false, .at 5 (.int .i64 (sqI (n62 n) * sqI (n62 n))), .tst false, .at 2 (.int .i64 (upI (n62 n) * upI (n62 n))), .tst false, .res (errI ((a * b).fdiv c) 0), .res (errI 0 2), .auto, .auto, .tst true, .res (.bool true)] hfl (ts12 (tT (n62_eq n)) (tT (wrap_id r8)) (tF r1) (tT (wrap_id r9)) (tF r2) (tT (wrap_id r9)) (tF r3) (tT (wrap_id r8)) (tN r4) (tT (wrap_id r10)) (tF r5) (tF h0)) (qs5 (rsqrt_qc (n := n62 n) (by omega) (by omega)) (up_qc (n := n62 n) (by omega) (by omega)) (mulDiv_qc ha hb hc _ (mdV_fits h0 f1)) (mulDivUp_qc ha hb hc _ (muV_over h0 f2)) (awakeR)) (rfl) (rfl) (by kernel_rfl)
    | false =>
      cases f2 : fits64 (cdiv (a * b) c) with
      | true =>
        exact PC.run mixed Try.func4 [.at 2 (.int .i64 (n62 n)), .res (.int .i64 (sqI (n62 n))), .res (.int .i64 (upI (n62 n))), .at 5 (.int .i64 (sqI (n62 n) * sqI (n62 n))), .tst false, .at 2 (.int .i64 (upI (n62 n) - sqI (n62 n))), .tst false, .at 2 (.int .i64 (upI (n62 n) - sqI (n62 n))), .tst false, .at 5 (.int .i64 (sqI (n62 n) * sqI (n62 n))), .tst false, .at 2 (.int .i64 (upI (n62 n) * upI (n62 n))), .tst false, .res (errI 0 2), .res (errI (cdiv (a * b) c) 0), .auto, .auto, .tst true, .res (.bool true)] hfl (ts12 (tT (n62_eq n)) (tT (wrap_id r8)) (tF r1) (tT (wrap_id r9)) (tF r2) (tT (wrap_id r9)) (tF r3) (tT (wrap_id r8)) (tN r4) (tT (wrap_id r10)) (tF r5) (tF h0)) (qs5 (rsqrt_qc (n := n62 n) (by omega) (by omega)) (up_qc (n := n62 n) (by omega) (by omega)) (mulDiv_qc ha hb hc _ (mdV_over h0 f1)) (mulDivUp_qc ha hb hc _ (muV_fits h0 f2)) (awakeR)) (rfl) (rfl) (by kernel_rfl)
      | false =>
        exact PC.run mixed Try.func4 [.at 2 (.int .i64 (n62 n)), .res (.int .i64 (sqI (n62 n))), .res (.int .i64 (upI (n62 n))), .at 5 (.int .i64 (sqI (n62 n) * sqI (n62 n))), .tst false, .at 2 (.int .i64 (upI (n62 n) - sqI (n62 n))), .tst false, .at 2 (.int .i64 (upI (n62 n) - sqI (n62 n))), .tst false, .at 5 (.int .i64 (sqI (n62 n) * sqI (n62 n))), .tst false, .at 2 (.int .i64 (upI (n62 n) * upI (n62 n))), .tst false, .res (errI 0 2), .res (errI 0 2), .auto, .auto, .tst true, .res (.bool true)] hfl (ts12 (tT (n62_eq n)) (tT (wrap_id r8)) (tF r1) (tT (wrap_id r9)) (tF r2) (tT (wrap_id r9)) (tF r3) (tT (wrap_id r8)) (tN r4) (tT (wrap_id r10)) (tF r5) (tF h0)) (qs5 (rsqrt_qc (n := n62 n) (by omega) (by omega)) (up_qc (n := n62 n) (by omega) (by omega)) (mulDiv_qc ha hb hc _ (mdV_over h0 f1)) (mulDivUp_qc ha hb hc _ (muV_over h0 f2)) (awakeR)) (rfl) (rfl) (by kernel_rfl)
theorem enters_rootTight : ∀ us w, (callFunc 4 us).run Try.prog w = .ok (.enter 4 us) w := enters Try.func4 rfl (by kernel_rfl)
end Go.Proofs.Ytfmphajbbeghkaa.W
