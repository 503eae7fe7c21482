/-
  RootRises: roots and quotients rise.
-/
import Derived.Test.YtfmphajbbeghkaaRootM
namespace Go.Proofs.Ytfmphajbbeghkaa.W
open Go Go.Ev Go.Wide

def cR (c : Int) : Int := IntKind.i64.wrap (andK c 1099511627775 + 1)
theorem cR_eq (c : Int) : IntKind.i64.wrap (andK c 1099511627775 + 1) = cR c := rfl
theorem cR_range (c : Int) : 1 ≤ cR c ∧ cR c ≤ 1099511627776 := by
  have h : andK c 1099511627775 = c % ((2 ^ 40 : Nat) : Int) := andK_eq c 1099511627775 40 (by decide) (by omega)
  have e : ((2 ^ 40 : Nat) : Int) = 1099511627776 := by decide
  unfold cR
  rw [h, e, i64_wrap (by omega) (by omega)]
  omega
theorem sqI_mono {m n : Int} (h : m ≤ n) : sqI m ≤ sqI n := by
  have := isq_mono (show m.toNat ≤ n.toNat by omega)
  unfold sqI
  omega
theorem upI_mono {m n : Int} (h : m ≤ n) : upI m ≤ upI n := by
  have := csq_mono (show m.toNat ≤ n.toNat by omega)
  unfold upI
  omega
theorem seven : I64r 7 := ⟨by omega, by omega⟩
theorem rootRises_pc {m n a b c : Int} (hm : I64r m) (hn : I64r n) (ha : I64r a) (hb : I64r b) : PC Try.prog 6 [.int .i64 (m), .int .i64 (n), .int .i64 (a), .int .i64 (b), .int .i64 (c)] (.bool true) := by
  have hfl : [.int .i64 (m), .int .i64 (n), .int .i64 (a), .int .i64 (b), .int .i64 (c)].all flat = true := by simp [show flat (Value.int .i64 m) = true from rfl, show flat (Value.int .i64 n) = true from rfl, show flat (Value.int .i64 a) = true from rfl, show flat (Value.int .i64 b) = true from rfl, show flat (Value.int .i64 c) = true from rfl]
  have hr := cR_range c
  have hc : I64r (cR c) := ⟨by omega, by omega⟩
  have h0 : cR c ≠ 0 := by omega
  by_cases s1 : m > n
  ·
    by_cases s2 : a > b
    ·
      have hMN : n ≤ m := by omega
      have l2 : (b * 7).fdiv (cR c) ≤ (a * 7).fdiv (cR c) := fdiv_mono (by omega) (by omega)
      have l3 : (a * 7).fdiv (cR c) ≤ cdiv (a * 7) (cR c) := (fdiv_cdiv (by omega)).1
      cases f1 : fits64 ((b * 7).fdiv (cR c)) with
      | true =>
        cases f2 : fits64 ((a * 7).fdiv (cR c)) with
        | true =>
          cases f3 : fits64 (cdiv (a * 7) (cR c)) with
          | true =>
            exact PC.run mixed Try.func6 [.tst true, .tst true, .at 6 (.int .i64 (cR c)), .res (errI ((b * 7).fdiv (cR c)) 0), .res (errI ((a * 7).fdiv (cR c)) 0), .res (errI (cdiv (a * 7) (cR c)) 0), .res (.int .i64 (sqI n)), .res (.int .i64 (sqI m)), .tst true, .res (.int .i64 (upI n)), .res (.int .i64 (upI m)), .tst true, .auto, .auto, .tst true, .auto, .auto, .tst true, .res (.bool true)] hfl (ts7 (tT s1) (tT s2) (tT (cR_eq c)) (tT (sqI_mono hMN)) (tT (upI_mono hMN)) (tT l2) (tT l3)) (qs8 (mulDiv_qc hb seven hc _ (mdV_fits h0 f1)) (mulDiv_qc ha seven hc _ (mdV_fits h0 f2)) (mulDivUp_qc ha seven hc _ (muV_fits h0 f3)) (rsqrt_qc hn.1 hn.2) (rsqrt_qc hm.1 hm.2) (up_qc hn.1 hn.2) (up_qc hm.1 hm.2) (awakeR)) (rfl) (rfl) (by kernel_rfl)
          | false =>
            exact PC.run mixed Try.func6 [.tst true, .tst true, .at 6 (.int .i64 (cR c)), .res (errI ((b * 7).fdiv (cR c)) 0), .res (errI ((a * 7).fdiv (cR c)) 0), .res (errI 0 2), .res (.int .i64 (sqI n)), .res (.int .i64 (sqI m)), .tst true, .res (.int .i64 (upI n)), .res (.int .i64 (upI m)), .tst true, .auto, .auto, .tst true, .res (.bool true)] hfl (ts6 (tT s1) (tT s2) (tT (cR_eq c)) (tT (sqI_mono hMN)) (tT (upI_mono hMN)) (tT l2)) (qs8 (mulDiv_qc hb seven hc _ (mdV_fits h0 f1)) (mulDiv_qc ha seven hc _ (mdV_fits h0 f2)) (mulDivUp_qc ha seven hc _ (muV_over h0 f3)) (rsqrt_qc hn.1 hn.2) (rsqrt_qc hm.1 hm.2) (up_qc hn.1 hn.2) (up_qc hm.1 hm.2) (awakeR)) (rfl) (rfl) (by kernel_rfl)
        | false =>
          cases f3 : fits64 (cdiv (a * 7) (cR c)) with
          | true =>
            exact PC.run mixed Try.func6 [.tst true, .tst true, .at 6 (.int .i64 (cR c)), .res (errI ((b * 7).fdiv (cR c)) 0), .res (errI 0 2), .res (errI (cdiv (a * 7) (cR c)) 0), .res (.int .i64 (sqI n)), .res (.int .i64 (sqI m)), .tst true, .res (.int .i64 (upI n)), .res (.int .i64 (upI m)), .tst true, .res (.bool true)] hfl (ts5 (tT s1) (tT s2) (tT (cR_eq c)) (tT (sqI_mono hMN)) (tT (upI_mono hMN))) (qs8 (mulDiv_qc hb seven hc _ (mdV_fits h0 f1)) (mulDiv_qc ha seven hc _ (mdV_over h0 f2)) (mulDivUp_qc ha seven hc _ (muV_fits h0 f3)) (rsqrt_qc hn.1 hn.2) (rsqrt_qc hm.1 hm.2) (up_qc hn.1 hn.2) (up_qc hm.1 hm.2) (awakeR)) (rfl) (rfl) (by kernel_rfl)
          | false =>
            exact PC.run mixed Try.func6 [.tst true, .tst true, .at 6 (.int .i64 (cR c)), .res (errI ((b * 7).fdiv (cR c)) 0), .res (errI 0 2), .res (errI 0 2), .res (.int .i64 (sqI n)), .res (.int .i64 (sqI m)), .tst true, .res (.int .i64 (upI n)), .res (.int .i64 (upI m)), .tst true, .res (.bool true)] hfl (ts5 (tT s1) (tT s2) (tT (cR_eq c)) (tT (sqI_mono hMN)) (tT (upI_mono hMN))) (qs8 (mulDiv_qc hb seven hc _ (mdV_fits h0 f1)) (mulDiv_qc ha seven hc _ (mdV_over h0 f2)) (mulDivUp_qc ha seven hc _ (muV_over h0 f3)) (rsqrt_qc hn.1 hn.2) (rsqrt_qc hm.1 hm.2) (up_qc hn.1 hn.2) (up_qc hm.1 hm.2) (awakeR)) (rfl) (rfl) (by kernel_rfl)
      | false =>
        cases f2 : fits64 ((a * 7).fdiv (cR c)) with
        | true =>
          cases f3 : fits64 (cdiv (a * 7) (cR c)) with
          | true =>
            exact PC.run mixed Try.func6 [.tst true, .tst true, .at 6 (.int .i64 (cR c)), .res (errI 0 2), .res (errI ((a * 7).fdiv (cR c)) 0), .res (errI (cdiv (a * 7) (cR c)) 0), .res (.int .i64 (sqI n)), .res (.int .i64 (sqI m)), .tst true, .res (.int .i64 (upI n)), .res (.int .i64 (upI m)), .tst true, .auto, .auto, .auto, .auto, .auto, .tst true, .res (.bool true)] hfl (ts6 (tT s1) (tT s2) (tT (cR_eq c)) (tT (sqI_mono hMN)) (tT (upI_mono hMN)) (tT l3)) (qs8 (mulDiv_qc hb seven hc _ (mdV_over h0 f1)) (mulDiv_qc ha seven hc _ (mdV_fits h0 f2)) (mulDivUp_qc ha seven hc _ (muV_fits h0 f3)) (rsqrt_qc hn.1 hn.2) (rsqrt_qc hm.1 hm.2) (up_qc hn.1 hn.2) (up_qc hm.1 hm.2) (awakeR)) (rfl) (rfl) (by kernel_rfl)
          | false =>
            exact PC.run mixed Try.func6 [.tst true, .tst true, .at 6 (.int .i64 (cR c)), .res (errI 0 2), .res (errI ((a * 7).fdiv (cR c)) 0), .res (errI 0 2), .res (.int .i64 (sqI n)), .res (.int .i64 (sqI m)), .tst true, .res (.int .i64 (upI n)), .res (.int .i64 (upI m)), .tst true, .res (.bool true)] hfl (ts5 (tT s1) (tT s2) (tT (cR_eq c)) (tT (sqI_mono hMN)) (tT (upI_mono hMN))) (qs8 (mulDiv_qc hb seven hc _ (mdV_over h0 f1)) (mulDiv_qc ha seven hc _ (mdV_fits h0 f2)) (mulDivUp_qc ha seven hc _ (muV_over h0 f3)) (rsqrt_qc hn.1 hn.2) (rsqrt_qc hm.1 hm.2) (up_qc hn.1 hn.2) (up_qc hm.1 hm.2) (awakeR)) (rfl) (rfl) (by kernel_rfl)
        | false =>
          cases f3 : fits64 (cdiv (a * 7) (cR c)) with
          | true =>
            exact PC.run mixed Try.func6 [.tst true, .tst true, .at 6 (.int .i64 (cR c)), .res (errI 0 2), .res (errI 0 2), .res (errI (cdiv (a * 7) (cR c)) 0), .res (.int .i64 (sqI n)), .res (.int .i64 (sqI m)), .tst true, .res (.int .i64 (upI n)), .res (.int .i64 (upI m)), .tst true, .res (.bool true)] hfl (ts5 (tT s1) (tT s2) (tT (cR_eq c)) (tT (sqI_mono hMN)) (tT (upI_mono hMN))) (qs8 (mulDiv_qc hb seven hc _ (mdV_over h0 f1)) (mulDiv_qc ha seven hc _ (mdV_over h0 f2)) (mulDivUp_qc ha seven hc _ (muV_fits h0 f3)) (rsqrt_qc hn.1 hn.2) (rsqrt_qc hm.1 hm.2) (up_qc hn.1 hn.2) (up_qc hm.1 hm.2) (awakeR)) (rfl) (rfl) (by kernel_rfl)
          | false =>
            exact PC.run mixed Try.func6 [.tst true, .tst true, .at 6 (.int .i64 (cR c)), .res (errI 0 2), .res (errI 0 2), .res (errI 0 2), .res (.int .i64 (sqI n)), .res (.int .i64 (sqI m)), .tst true, .res (.int .i64 (upI n)), .res (.int .i64 (upI m)), .tst true, .res (.bool true)] hfl (ts5 (tT s1) (tT s2) (tT (cR_eq c)) (tT (sqI_mono hMN)) (tT (upI_mono hMN))) (qs8 (mulDiv_qc hb seven hc _ (mdV_over h0 f1)) (mulDiv_qc ha seven hc _ (mdV_over h0 f2)) (mulDivUp_qc ha seven hc _ (muV_over h0 f3)) (rsqrt_qc hn.1 hn.2) (rsqrt_qc hm.1 hm.2) (up_qc hn.1 hn.2) (up_qc hm.1 hm.2) (awakeR)) (rfl) (rfl) (by kernel_rfl)
    ·
      have hMN : n ≤ m := by omega
      have l2 : (a * 7).fdiv (cR c) ≤ (b * 7).fdiv (cR c) := fdiv_mono (by omega) (by omega)
      have l3 : (b * 7).fdiv (cR c) ≤ cdiv (b * 7) (cR c) := (fdiv_cdiv (by omega)).1
      cases f1 : fits64 ((a * 7).fdiv (cR c)) with
      | true =>
        cases f2 : fits64 ((b * 7).fdiv (cR c)) with
        | true =>
          cases f3 : fits64 (cdiv (b * 7) (cR c)) with
          | true =>
            exact PC.run mixed Try.func6 [.tst true, .tst false, .at 2 (.int .i64 (cR c)), .res (errI ((a * 7).fdiv (cR c)) 0), .res (errI ((b * 7).fdiv (cR c)) 0), .res (errI (cdiv (b * 7) (cR c)) 0), .res (.int .i64 (sqI n)), .res (.int .i64 (sqI m)), .tst true, .res (.int .i64 (upI n)), .res (.int .i64 (upI m)), .tst true, .auto, .auto, .tst true, .auto, .auto, .tst true, .res (.bool true)] hfl (ts7 (tT s1) (tF s2) (tT (cR_eq c)) (tT (sqI_mono hMN)) (tT (upI_mono hMN)) (tT l2) (tT l3)) (qs8 (mulDiv_qc ha seven hc _ (mdV_fits h0 f1)) (mulDiv_qc hb seven hc _ (mdV_fits h0 f2)) (mulDivUp_qc hb seven hc _ (muV_fits h0 f3)) (rsqrt_qc hn.1 hn.2) (rsqrt_qc hm.1 hm.2) (up_qc hn.1 hn.2) (up_qc hm.1 hm.2) (awakeR)) (rfl) (rfl) (by kernel_rfl)
          | false =>
            exact PC.run mixed Try.func6 [.tst true, .tst false, .at 2 (.int .i64 (cR c)), .res (errI ((a * 7).fdiv (cR c)) 0), .res (errI ((b * 7).fdiv (cR c)) 0), .res (errI 0 2), .res (.int .i64 (sqI n)), .res (.int .i64 (sqI m)), .tst true, .res (.int .i64 (upI n)), .res (.int .i64 (upI m)), .tst true, .auto, .auto, .tst true, .res (.bool true)] hfl (ts6 (tT s1) (tF s2) (tT (cR_eq c)) (tT (sqI_mono hMN)) (tT (upI_mono hMN)) (tT l2)) (qs8 (mulDiv_qc ha seven hc _ (mdV_fits h0 f1)) (mulDiv_qc hb seven hc _ (mdV_fits h0 f2)) (mulDivUp_qc hb seven hc _ (muV_over h0 f3)) (rsqrt_qc hn.1 hn.2) (rsqrt_qc hm.1 hm.2) (up_qc hn.1 hn.2) (up_qc hm.1 hm.2) (awakeR)) (rfl) (rfl) (by kernel_rfl)
        | false =>
          cases f3 : fits64 (cdiv (b * 7) (cR c)) with
          | true =>
            exact PC.run mixed Try.func6 [.tst true, .tst false, .at 2 (.int .i64 (cR c)), .res (errI ((a * 7).fdiv (cR c)) 0), .res (errI 0 2), .res (errI (cdiv (b * 7) (cR c)) 0), .res (.int .i64 (sqI n)), .res (.int .i64 (sqI m)), .tst true, .res (.int .i64 (upI n)), .res (.int .i64 (upI m)), .tst true, .res (.bool true)] hfl (ts5 (tT s1) (tF s2) (tT (cR_eq c)) (tT (sqI_mono hMN)) (tT (upI_mono hMN))) (qs8 (mulDiv_qc ha seven hc _ (mdV_fits h0 f1)) (mulDiv_qc hb seven hc _ (mdV_over h0 f2)) (mulDivUp_qc hb seven hc _ (muV_fits h0 f3)) (rsqrt_qc hn.1 hn.2) (rsqrt_qc hm.1 hm.2) (up_qc hn.1 hn.2) (up_qc hm.1 hm.2) (awakeR)) (rfl) (rfl) (by kernel_rfl)
          | false =>
            exact PC.run mixed Try.func6 [.tst true, .tst false, .at 2 (.int .i64 (cR c)), .res (errI ((a * 7).fdiv (cR c)) 0), .res (errI 0 2), .res (errI 0 2), .res (.int .i64 (sqI n)), .res (.int .i64 (sqI m)), .tst true, .res (.int .i64 (upI n)), .res (.int .i64 (upI m)), .tst true, .res (.bool true)] hfl (ts5 (tT s1) (tF s2) (tT (cR_eq c)) (tT (sqI_mono hMN)) (tT (upI_mono hMN))) (qs8 (mulDiv_qc ha seven hc _ (mdV_fits h0 f1)) (mulDiv_qc hb seven hc _ (mdV_over h0 f2)) (mulDivUp_qc hb seven hc _ (muV_over h0 f3)) (rsqrt_qc hn.1 hn.2) (rsqrt_qc hm.1 hm.2) (up_qc hn.1 hn.2) (up_qc hm.1 hm.2) (awakeR)) (rfl) (rfl) (by kernel_rfl)
      | false =>
        cases f2 : fits64 ((b * 7).fdiv (cR c)) with
        | true =>
          cases f3 : fits64 (cdiv (b * 7) (cR c)) with
          | true =>
            exact PC.run mixed Try.func6 [.tst true, .tst false, .at 2 (.int .i64 (cR c)), .res (errI 0 2), .res (errI ((b * 7).fdiv (cR c)) 0), .res (errI (cdiv (b * 7) (cR c)) 0), .res (.int .i64 (sqI n)), .res (.int .i64 (sqI m)), .tst true, .res (.int .i64 (upI n)), .res (.int .i64 (upI m)), .tst true, .auto, .auto, .auto, .auto, .auto, .tst true, .res (.bool true)] hfl (ts6 (tT s1) (tF s2) (tT (cR_eq c)) (tT (sqI_mono hMN)) (tT (upI_mono hMN)) (tT l3)) (qs8 (mulDiv_qc ha seven hc _ (mdV_over h0 f1)) (mulDiv_qc hb seven hc _ (mdV_fits h0 f2)) (mulDivUp_qc hb seven hc _ (muV_fits h0 f3)) (rsqrt_qc hn.1 hn.2) (rsqrt_qc hm.1 hm.2) (up_qc hn.1 hn.2) (up_qc hm.1 hm.2) (awakeR)) (rfl) (rfl) (by kernel_rfl)
          | false =>
            exact PC.run mixed Try.func6 [.tst true, .tst false, .at 2 (.int .i64 (cR c)), .res (errI 0 2), .res (errI ((b * 7).fdiv (cR c)) 0), .res (errI 0 2), .res (.int .i64 (sqI n)), .res (.int .i64 (sqI m)), .tst true, .res (.int .i64 (upI n)), .res (.int .i64 (upI m)), .tst true, .res (.bool true)] hfl (ts5 (tT s1) (tF s2) (tT (cR_eq c)) (tT (sqI_mono hMN)) (tT (upI_mono hMN))) (qs8 (mulDiv_qc ha seven hc _ (mdV_over h0 f1)) (mulDiv_qc hb seven hc _ (mdV_fits h0 f2)) (mulDivUp_qc hb seven hc _ (muV_over h0 f3)) (rsqrt_qc hn.1 hn.2) (rsqrt_qc hm.1 hm.2) (up_qc hn.1 hn.2) (up_qc hm.1 hm.2) (awakeR)) (rfl) (rfl) (by kernel_rfl)
        | false =>
          cases f3 : fits64 (cdiv (b * 7) (cR c)) with
          | true =>
            exact PC.run mixed Try.func6 [.tst true, .tst false, .at 2 (.int .i64 (cR c)), .res (errI 0 2), .res (errI 0 2), .res (errI (cdiv (b * 7) (cR c)) 0), .res (.int .i64 (sqI n)), .res (.int .i64 (sqI m)), .tst true, .res (.int .i64 (upI n)), .res (.int .i64 (upI m)), .tst true, .res (.bool true)] hfl (ts5 (tT s1) (tF s2) (tT (cR_eq c)) (tT (sqI_mono hMN)) (tT (upI_mono hMN))) (qs8 (mulDiv_qc ha seven hc _ (mdV_over h0 f1)) (mulDiv_qc hb seven hc _ (mdV_over h0 f2)) (mulDivUp_qc hb seven hc _ (muV_fits h0 f3)) (rsqrt_qc hn.1 hn.2) (rsqrt_qc hm.1 hm.2) (up_qc hn.1 hn.2) (up_qc hm.1 hm.2) (awakeR)) (rfl) (rfl) (by kernel_rfl)
          | false =>
            exact PC.run mixed Try.func6 [.tst true, .tst false, .at 2 (.int .i64 (cR c)), .res (errI 0 2), .res (errI 0 2), .res (errI 0 2), .res (.int .i64 (sqI n)), .res (.int .i64 (sqI m)), .tst true, .res (.int .i64 (upI n)), .res (.int .i64 (upI m)), .tst true, .res (.bool true)] hfl (ts5 (tT s1) (tF s2) (tT (cR_eq c)) (tT (sqI_mono hMN)) (tT (upI_mono hMN))) (qs8 (mulDiv_qc ha seven hc _ (mdV_over h0 f1)) (mulDiv_qc hb seven hc _ (mdV_over h0 f2)) (mulDivUp_qc hb seven hc _ (muV_over h0 f3)) (rsqrt_qc hn.1 hn.2) (rsqrt_qc hm.1 hm.2) (up_qc hn.1 hn.2) (up_qc hm.1 hm.2) (awakeR)) (rfl) (rfl) (by kernel_rfl)
  ·
    by_cases s2 : a > b
    ·
      have hMN : m ≤ n := by omega
      have l2 : (b * 7).fdiv (cR c) ≤ (a * 7).fdiv (cR c) := fdiv_mono (by omega) (by omega)
      have l3 : (a * 7).fdiv (cR c) ≤ cdiv (a * 7) (cR c) := (fdiv_cdiv (by omega)).1
      cases f1 : fits64 ((b * 7).fdiv (cR c)) with
      | true =>
        cases f2 : fits64 ((a * 7).fdiv (cR c)) with
        | true =>
          cases f3 : fits64 (cdiv (a * 7) (cR c)) with
          | true =>
            exact PC.run mixed Try.func6 [.tst false, .tst true, .at 6 (.int .i64 (cR c)), .res (errI ((b * 7).fdiv (cR c)) 0), .res (errI ((a * 7).fdiv (cR c)) 0), .res (errI (cdiv (a * 7) (cR c)) 0), .res (.int .i64 (sqI m)), .res (.int .i64 (sqI n)), .tst true, .res (.int .i64 (upI m)), .res (.int .i64 (upI n)), .tst true, .auto, .auto, .tst true, .auto, .auto, .tst true, .res (.bool true)] hfl (ts7 (tF s1) (tT s2) (tT (cR_eq c)) (tT (sqI_mono hMN)) (tT (upI_mono hMN)) (tT l2) (tT l3)) (qs8 (mulDiv_qc hb seven hc _ (mdV_fits h0 f1)) (mulDiv_qc ha seven hc _ (mdV_fits h0 f2)) (mulDivUp_qc ha seven hc _ (muV_fits h0 f3)) (rsqrt_qc hm.1 hm.2) (rsqrt_qc hn.1 hn.2) (up_qc hm.1 hm.2) (up_qc hn.1 hn.2) (awakeR)) (rfl) (rfl) (by kernel_rfl)
          | false =>
            exact PC.run mixed Try.func6 [.tst false, .tst true, .at 6 (.int .i64 (cR c)), .res (errI ((b * 7).fdiv (cR c)) 0), .res (errI ((a * 7).fdiv (cR c)) 0), .res (errI 0 2), .res (.int .i64 (sqI m)), .res (.int .i64 (sqI n)), .tst true, .res (.int .i64 (upI m)), .res (.int .i64 (upI n)), .tst true, .auto, .auto, .tst true, .res (.bool true)] hfl (ts6 (tF s1) (tT s2) (tT (cR_eq c)) (tT (sqI_mono hMN)) (tT (upI_mono hMN)) (tT l2)) (qs8 (mulDiv_qc hb seven hc _ (mdV_fits h0 f1)) (mulDiv_qc ha seven hc _ (mdV_fits h0 f2)) (mulDivUp_qc ha seven hc _ (muV_over h0 f3)) (rsqrt_qc hm.1 hm.2) (rsqrt_qc hn.1 hn.2) (up_qc hm.1 hm.2) (up_qc hn.1 hn.2) (awakeR)) (rfl) (rfl) (by kernel_rfl)
        | false =>
          cases f3 : fits64 (cdiv (a * 7) (cR c)) with
          | true =>
            exact PC.run mixed Try.func6 [.tst false, .tst true, .at 6 (.int .i64 (cR c)), .res (errI ((b * 7).fdiv (cR c)) 0), .res (errI 0 2), .res (errI (cdiv (a * 7) (cR c)) 0), .res (.int .i64 (sqI m)), .res (.int .i64 (sqI n)), .tst true, .res (.int .i64 (upI m)), .res (.int .i64 (upI n)), .tst true, .res (.bool true)] hfl (ts5 (tF s1) (tT s2) (tT (cR_eq c)) (tT (sqI_mono hMN)) (tT (upI_mono hMN))) (qs8 (mulDiv_qc hb seven hc _ (mdV_fits h0 f1)) (mulDiv_qc ha seven hc _ (mdV_over h0 f2)) (mulDivUp_qc ha seven hc _ (muV_fits h0 f3)) (rsqrt_qc hm.1 hm.2) (rsqrt_qc hn.1 hn.2) (up_qc hm.1 hm.2) (up_qc hn.1 hn.2) (awakeR)) (rfl) (rfl) (by kernel_rfl)
          | false =>
            exact PC.run mixed Try.func6 [.tst false, .tst true, .at 6 (.int .i64 (cR c)), .res (errI ((b * 7).fdiv (cR c)) 0), .res (errI 0 2), .res (errI 0 2), .res (.int .i64 (sqI m)), .res (.int .i64 (sqI n)), .tst true, .res (.int .i64 (upI m)), .res (.int .i64 (upI n)), .tst true, .res (.bool true)] hfl (ts5 (tF s1) (tT s2) (tT (cR_eq c)) (tT (sqI_mono hMN)) (tT (upI_mono hMN))) (qs8 (mulDiv_qc hb seven hc _ (mdV_fits h0 f1)) (mulDiv_qc ha seven hc _ (mdV_over h0 f2)) (mulDivUp_qc ha seven hc _ (muV_over h0 f3)) (rsqrt_qc hm.1 hm.2) (rsqrt_qc hn.1 hn.2) (up_qc hm.1 hm.2) (up_qc hn.1 hn.2) (awakeR)) (rfl) (rfl) (by kernel_rfl)
      | false =>
        cases f2 : fits64 ((a * 7).fdiv (cR c)) with
        | true =>
          cases f3 : fits64 (cdiv (a * 7) (cR c)) with
          | true =>
            exact PC.run mixed Try.func6 [.tst false, .tst true, .at 6 (.int .i64 (cR c)), .res (errI 0 2), .res (errI ((a * 7).fdiv (cR c)) 0), .res (errI (cdiv (a * 7) (cR c)) 0), .res (.int .i64 (sqI m)), .res (.int .i64 (sqI n)), .tst true, .res (.int .i64 (upI m)), .res (.int .i64 (upI n)), .tst true, .auto, .auto, .auto, .auto, .auto, .tst true, .res (.bool true)] hfl (ts6 (tF s1) (tT s2) (tT (cR_eq c)) (tT (sqI_mono hMN)) (tT (upI_mono hMN)) (tT l3)) (qs8 (mulDiv_qc hb seven hc _ (mdV_over h0 f1)) (mulDiv_qc ha seven hc _ (mdV_fits h0 f2)) (mulDivUp_qc ha seven hc _ (muV_fits h0 f3)) (rsqrt_qc hm.1 hm.2) (rsqrt_qc hn.1 hn.2) (up_qc hm.1 hm.2) (up_qc hn.1 hn.2) (awakeR)) (rfl) (rfl) (by kernel_rfl)
          | false =>
            exact PC.run mixed Try.func6 [.tst false, .tst true, .at 6 (.int .i64 (cR c)), .res (errI 0 2), .res (errI ((a * 7).fdiv (cR c)) 0), .res (errI 0 2), .res (.int .i64 (sqI m)), .res (.int .i64 (sqI n)), .tst true, .res (.int .i64 (upI m)), .res (.int .i64 (upI n)), .tst true, .res (.bool true)] hfl (ts5 (tF s1) (tT s2) (tT (cR_eq c)) (tT (sqI_mono hMN)) (tT (upI_mono hMN))) (qs8 (mulDiv_qc hb seven hc _ (mdV_over h0 f1)) (mulDiv_qc ha seven hc _ (mdV_fits h0 f2)) (mulDivUp_qc ha seven hc _ (muV_over h0 f3)) (rsqrt_qc hm.1 hm.2) (rsqrt_qc hn.1 hn.2) (up_qc hm.1 hm.2) (up_qc hn.1 hn.2) (awakeR)) (rfl) (rfl) (by kernel_rfl)
        | false =>
          cases f3 : fits64 (cdiv (a * 7) (cR c)) with
          | true =>
            exact PC.run mixed Try.func6 [.tst false, .tst true, .at 6 (.int .i64 (cR c)), .res (errI 0 2), .res (errI 0 2), .res (errI (cdiv (a * 7) (cR c)) 0), .res (.int .i64 (sqI m)), .res (.int .i64 (sqI n)), .tst true, .res (.int .i64 (upI m)), .res (.int .i64 (upI n)), .tst true, .res (.bool true)] hfl (ts5 (tF s1) (tT s2) (tT (cR_eq c)) (tT (sqI_mono hMN)) (tT (upI_mono hMN))) (qs8 (mulDiv_qc hb seven hc _ (mdV_over h0 f1)) (mulDiv_qc ha seven hc _ (mdV_over h0 f2)) (mulDivUp_qc ha seven hc _ (muV_fits h0 f3)) (rsqrt_qc hm.1 hm.2) (rsqrt_qc hn.1 hn.2) (up_qc hm.1 hm.2) (up_qc hn.1 hn.2) (awakeR)) (rfl) (rfl) (by kernel_rfl)
          | false =>
            exact PC.run mixed Try.func6 [.tst false, .tst true, .at 6 (.int .i64 (cR c)), .res (errI 0 2), .res (errI 0 2), .res (errI 0 2), .res (.int .i64 (sqI m)), .res (.int .i64 (sqI n)), .tst true, .res (.int .i64 (upI m)), .res (.int .i64 (upI n)), .tst true, .res (.bool true)] hfl (ts5 (tF s1) (tT s2) (tT (cR_eq c)) (tT (sqI_mono hMN)) (tT (upI_mono hMN))) (qs8 (mulDiv_qc hb seven hc _ (mdV_over h0 f1)) (mulDiv_qc ha seven hc _ (mdV_over h0 f2)) (mulDivUp_qc ha seven hc _ (muV_over h0 f3)) (rsqrt_qc hm.1 hm.2) (rsqrt_qc hn.1 hn.2) (up_qc hm.1 hm.2) (up_qc hn.1 hn.2) (awakeR)) (rfl) (rfl) (by kernel_rfl)
    ·
      have hMN : m ≤ n := by omega
      have l2 : (a * 7).fdiv (cR c) ≤ (b * 7).fdiv (cR c) := fdiv_mono (by omega) (by omega)
      have l3 : (b * 7).fdiv (cR c) ≤ cdiv (b * 7) (cR c) := (fdiv_cdiv (by omega)).1
      cases f1 : fits64 ((a * 7).fdiv (cR c)) with
      | true =>
        cases f2 : fits64 ((b * 7).fdiv (cR c)) with
        | true =>
          cases f3 : fits64 (cdiv (b * 7) (cR c)) with
          | true =>
            exact PC.run mixed Try.func6 [.tst false, .tst false, .at 2 (.int .i64 (cR c)), .res (errI ((a * 7).fdiv (cR c)) 0), .res (errI ((b * 7).fdiv (cR c)) 0), .res (errI (cdiv (b * 7) (cR c)) 0), .res (.int .i64 (sqI m)), .res (.int .i64 (sqI n)), .tst true, .res (.int .i64 (upI m)), .res (.int .i64 (upI n)), .tst true, .auto, .auto, .tst true, .auto, .auto, .tst true, .res (.bool true)] hfl (ts7 (tF s1) (tF s2) (tT (cR_eq c)) (tT (sqI_mono hMN)) (tT (upI_mono hMN)) (tT l2) (tT l3)) (qs8 (mulDiv_qc ha seven hc _ (mdV_fits h0 f1)) (mulDiv_qc hb seven hc _ (mdV_fits h0 f2)) (mulDivUp_qc hb seven hc _ (muV_fits h0 f3)) (rsqrt_qc hm.1 hm.2) (rsqrt_qc hn.1 hn.2) (up_qc hm.1 hm.2) (up_qc hn.1 hn.2) (awakeR)) (rfl) (rfl) (by kernel_rfl)
          | false =>
            exact PC.run mixed Try.func6 [.tst false, .tst false, .at 2 (.int .i64 (cR c)), .res (errI ((a * 7).fdiv (cR c)) 0), .res (errI ((b * 7).fdiv (cR c)) 0), .res (errI 0 2), .res (.int .i64 (sqI m)), .res (.int .i64 (sqI n)), .tst true, .res (.int .i64 (upI m)), .res (.int .i64 (upI n)), .tst true, .auto, .auto, .tst true, .res (.bool true)] hfl (ts6 (tF s1) (tF s2) (tT (cR_eq c)) (tT (sqI_mono hMN)) (tT (upI_mono hMN)) (tT l2)) (qs8 (mulDiv_qc ha seven hc _ (mdV_fits h0 f1)) (mulDiv_qc hb seven hc _ (mdV_fits h0 f2)) (mulDivUp_qc hb seven hc _ (muV_over h0 f3)) (rsqrt_qc hm.1 hm.2) (rsqrt_qc hn.1 hn.2) (up_qc hm.1 hm.2) (up_qc hn.1 hn.2) (awakeR)) (rfl) (rfl) (by kernel_rfl)
        | false =>
          cases f3 : fits64 (cdiv (b * 7) (cR c)) with
          | true =>
            exact PC.run mixed Try.func6 [.tst false, .tst false, .at 2 (.int .i64 (cR c)), .res (errI ((a * 7).fdiv (cR c)) 0), .res (errI 0 2), .res (errI (cdiv (b * 7) (cR c)) 0), .res (.int .i64 (sqI m)), .res (.int .i64 (sqI n)), .tst true, .res (.int .i64 (upI m)), .res (.int .i64 (upI n)), .tst true, .res (.bool true)] hfl (ts5 (tF s1) (tF s2) (tT (cR_eq c)) (tT (sqI_mono hMN)) (tT (upI_mono hMN))) (qs8 (mulDiv_qc ha seven hc _ (mdV_fits h0 f1)) (mulDiv_qc hb seven hc _ (mdV_over h0 f2)) (mulDivUp_qc hb seven hc _ (muV_fits h0 f3)) (rsqrt_qc hm.1 hm.2) (rsqrt_qc hn.1 hn.2) (up_qc hm.1 hm.2) (up_qc hn.1 hn.2) (awakeR)) (rfl) (rfl) (by kernel_rfl)
          | false =>
            exact PC.run mixed Try.func6 [.tst false, .tst false, .at 2 (.int .i64 (cR c)), .res (errI ((a * 7).fdiv (cR c)) 0), .res (errI 0 2), .res (errI 0 2), .res (.int .i64 (sqI m)), .res (.int .i64 (sqI n)), .tst true, .res (.int .i64 (upI m)), .res (.int .i64 (upI n)), .tst true, .res (.bool true)] hfl (ts5 (tF s1) (tF s2) (tT (cR_eq c)) (tT (sqI_mono hMN)) (tT (upI_mono hMN))) (qs8 (mulDiv_qc ha seven hc _ (mdV_fits h0 f1)) (mulDiv_qc hb seven hc _ (mdV_over h0 f2)) (mulDivUp_qc hb seven hc _ (muV_over h0 f3)) (rsqrt_qc hm.1 hm.2) (rsqrt_qc hn.1 hn.2) (up_qc hm.1 hm.2) (up_qc hn.1 hn.2) (awakeR)) (rfl) (rfl) (by kernel_rfl)
      | false =>
        cases f2 : fits64 ((b * 7).fdiv (cR c)) with
        | true =>
          cases f3 : fits64 (cdiv (b * 7) (cR c)) with
          | true =>
            exact PC.run mixed Try.func6 [.tst false, .tst false, .at 2 (.int .i64 (cR c)), .res (errI 0 2), .res (errI ((b * 7).fdiv (cR c)) 0), .res (errI (cdiv (b * 7) (cR c)) 0), .res (.int .i64 (sqI m)), .res (.int .i64 (sqI n)), .tst true, .res (.int .i64 (upI m)), .res (.int .i64 (upI n)), .tst true, .auto, .auto, .auto, .auto, .auto, .tst true, .res (.bool true)] hfl (ts6 (tF s1) (tF s2) (tT (cR_eq c)) (tT (sqI_mono hMN)) (tT (upI_mono hMN)) (tT l3)) (qs8 (mulDiv_qc ha seven hc _ (mdV_over h0 f1)) (mulDiv_qc hb seven hc _ (mdV_fits h0 f2)) (mulDivUp_qc hb seven hc _ (muV_fits h0 f3)) (rsqrt_qc hm.1 hm.2) (rsqrt_qc hn.1 hn.2) (up_qc hm.1 hm.2) (up_qc hn.1 hn.2) (awakeR)) (rfl) (rfl) (by kernel_rfl)
          | false =>
            exact PC.run mixed Try.func6 [.tst false, .tst false, .at 2 (.int .i64 (cR c)), .res (errI 0 2), .res (errI ((b * 7).fdiv (cR c)) 0), .res (errI 0 2), .res (.int .i64 (sqI m)), .res (.int .i64 (sqI n)), .tst true, .res (.int .i64 (upI m)), .res (.int .i64 (upI n)), .tst true, .res (.bool true)] hfl (ts5 (tF s1) (tF s2) (tT (cR_eq c)) (tT (sqI_mono hMN)) (tT (upI_mono hMN))) (qs8 (mulDiv_qc ha seven hc _ (mdV_over h0 f1)) (mulDiv_qc hb seven hc _ (mdV_fits h0 f2)) (mulDivUp_qc hb seven hc _ (muV_over h0 f3)) (rsqrt_qc hm.1 hm.2) (rsqrt_qc hn.1 hn.2) (up_qc hm.1 hm.2) (up_qc hn.1 hn.2) (awakeR)) (rfl) (rfl) (by kernel_rfl)
        | false =>
          cases f3 : fits64 (cdiv (b * 7) (cR c)) with
          | true =>
            exact PC.run mixed Try.func6 [.tst false, .tst false, .at 2 (.int .i64 (cR c)), .res (errI 0 2), .res (errI 0 2), .res (errI (cdiv (b * 7) (cR c)) 0), .res (.int .i64 (sqI m)), .res (.int .i64 (sqI n)), .tst true, .res (.int .i64 (upI m)), .res (.int .i64 (upI n)), .tst true, .res (.bool true)] hfl (ts5 (tF s1) (tF s2) (tT (cR_eq c)) (tT (sqI_mono hMN)) (tT (upI_mono hMN))) (qs8 (mulDiv_qc ha seven hc _ (mdV_over h0 f1)) (mulDiv_qc hb seven hc _ (mdV_over h0 f2)) (mulDivUp_qc hb seven hc _ (muV_fits h0 f3)) (rsqrt_qc hm.1 hm.2) (rsqrt_qc hn.1 hn.2) (up_qc hm.1 hm.2) (up_qc hn.1 hn.2) (awakeR)) (rfl) (rfl) (by kernel_rfl)
          | false =>
            exact PC.run mixed Try.func6 [.tst false, .tst false, .at 2 (.int .i64 (cR c)), .res (errI 0 2), .res (errI 0 2), .res (errI 0 2), .res (.int .i64 (sqI m)), .res (.int .i64 (sqI n)), .tst true, .res (.int .i64 (upI m)), .res (.int .i64 (upI n)), .tst true, .res (.bool true)] hfl (ts5 (tF s1) (tF s2) (tT (cR_eq c)) (tT (sqI_mono hMN)) (tT (upI_mono hMN))) (qs8 (mulDiv_qc ha seven hc _ (mdV_over h0 f1)) (mulDiv_qc hb seven hc _ (mdV_over h0 f2)) (mulDivUp_qc hb seven hc _ (muV_over h0 f3)) (rsqrt_qc hm.1 hm.2) (rsqrt_qc hn.1 hn.2) (up_qc hm.1 hm.2) (up_qc hn.1 hn.2) (awakeR)) (rfl) (rfl) (by kernel_rfl)
theorem enters_rootRises : ∀ us w, (callFunc 6 us).run Try.prog w = .ok (.enter 6 us) w := enters Try.func6 rfl (by kernel_rfl)
end Go.Proofs.Ytfmphajbbeghkaa.W
