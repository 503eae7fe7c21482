/-
  RootPlain: the program's roots and quotients of int64s answer as the reference's.
-/
import Derived.Test.YtfgnjkjnhakihaaTokR
namespace Go.Proofs.Ytfgnjkjnhakihaa.W
open Go Go.Ev Go.Wide
open Go.Proofs.Ytfgnjkjnhakihaa.R (rIsqrt_t rUp_t rMulDiv_t rMulDivUp_t qsC)

theorem rp_run {n a b c p q s u : Int} {e f : Nat} (h1 : QC Try.prog 45 [.int .i64 a, .int .i64 b, .int .i64 c] (errI p e)) (f1 : MC Try.prog 46 [.int .i64 a, .int .i64 b, .int .i64 c] [] (errI p e) []) (h2 : QC Try.prog 47 [.int .i64 a, .int .i64 b, .int .i64 c] (errI q f)) (f2 : MC Try.prog 48 [.int .i64 a, .int .i64 b, .int .i64 c] [] (errI q f) [])
    (h3 : QC Try.prog 49 [.int .i64 n] (.int .i64 s)) (f3 : MC Try.prog 50 [.int .i64 n] [] (.int .i64 s) []) (h4 : QC Try.prog 51 [.int .i64 n] (.int .i64 u)) (f4 : MC Try.prog 52 [.int .i64 n] [] (.int .i64 u) []) :
    PC Try.prog 10 [.int .i64 n, .int .i64 a, .int .i64 b, .int .i64 c] (.bool true) :=
  PC.run mixed Try.func10 [.res (errI p e), .ab (errI p e), .res (errI q f), .ab (errI q f), .res (.int .i64 s), .ab (.int .i64 s), .tst true, .res (.int .i64 u), .ab (.int .i64 u), .tst true, .tst true, .tst true, .tst true, .tst true, .res (.bool true)] rfl
    (Go.Ev.tsC (tT (rfl : s = s)) <| Go.Ev.tsC (tT (rfl : u = u)) <| Go.Ev.tsC (tT (rfl : p = p)) <| Go.Ev.tsC (tT (rfl : (e : Int) = e)) <| Go.Ev.tsC (tT (rfl : q = q)) <| Go.Ev.tsC (tT (rfl : (f : Int) = f)) ts0) (qsC h1 <| qsC f1 <| qsC h2 <| qsC f2 <| qsC h3 <| qsC f3 <| qsC h4 <| qsC f4 <| qsC awakeR qs0) rfl rfl (by kernel_rfl)
theorem rootPlain_pc {n a b c : Int} (hn : I64 n) (ha : I64 a) (hb : I64 b) (hc : I64 c) : PC Try.prog 10 [.int .i64 n, .int .i64 a, .int .i64 b, .int .i64 c] (.bool true) := by
  obtain ⟨p, e, h1⟩ := mdV_form (a * b) c
  obtain ⟨q, f, h2⟩ := muV_form (a * b) c
  have f1 := rMulDiv_t ha hb hc
  have f2 := rMulDivUp_t ha hb hc
  rw [h1] at f1
  rw [h2] at f2
  exact rp_run (mulDiv_qc ha hb hc _ h1) f1 (mulDivUp_qc ha hb hc _ h2) f2 (rsqrt_qc hn.1 hn.2) (rIsqrt_t hn) (up_qc hn.1 hn.2) (rUp_t hn)
theorem enters_rootPlain : ∀ us w, (callFunc 10 us).run Try.prog w = .ok (.enter 10 us) w := enters Try.func10 rfl (by kernel_rfl)
end Go.Proofs.Ytfgnjkjnhakihaa.W
