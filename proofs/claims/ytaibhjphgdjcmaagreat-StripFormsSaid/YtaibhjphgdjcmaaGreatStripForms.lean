/-
  StripForms: the program's rings, updates and acquisitions are the reference's.
-/
import Derived.Test.YtaibhjphgdjcmaaGreatTokV
import Derived.Test.YtaibhjphgdjcmaaGreatStripA
namespace Go.Proofs.YtaibhjphgdjcmaaGreat.W
open Go Go.Ev Go.Wide
open Go.Proofs.YtaibhjphgdjcmaaGreat.R (rRing_qc rUpd_qc rAcq_qc qsC)

theorem sp_refl (ox oy hx hy lo hi : Int) : ((decide (ox = ox) && (decide (oy = oy) && true)) && ((decide (hx = hx) && (decide (hy = hy) && true)) && (decide (lo = lo) && (decide (hi = hi) && true)))) = true := by simp
theorem stripForms_run {e n : El} {lo hi : Int} {a : Sr} {m k : Mk} (h1 : QC Tryz.prog 8 [e.val, n.val, .int .i64 lo, .int .i64 hi] a.val) (h2 : QC Tryz.prog 9 [e.val, n.val, .int .i64 lo, .int .i64 hi] a.val)
    (h3 : QC Tryz.prog 10 [e.val, n.val, .int .i64 lo, .int .i64 hi] m.val) (h4 : QC Tryz.prog 11 [e.val, n.val, .int .i64 lo, .int .i64 hi] m.val) (h5 : QC Tryz.prog 12 [n.val, .int .i64 hi] k.val) (h6 : QC Tryz.prog 13 [n.val, .int .i64 hi] k.val) :
    PC Tryz.prog 3 [e.val, n.val, .int .i64 lo, .int .i64 hi] (.bool true) :=
  PC.run mixed Tryz.func3 [.res a.val, .res a.val, .res m.val, .res m.val, .res k.val, .res k.val, .tst true, .tst true, .tst true, .tst true, .tst true, .tst true, .res (.bool true)] rfl
    (Go.Ev.tsC (sp_refl a.s.ox a.s.oy a.s.hx a.s.hy a.s.lo a.s.hi) <| Go.Ev.tsC (tT (rfl : (a.n : Int) = a.n)) <| Go.Ev.tsC (ell_refl m.e.x m.e.y m.e.a m.e.b m.e.d) <| Go.Ev.tsC (tT (rfl : (m.n : Int) = m.n)) <| Go.Ev.tsC (ell_refl k.e.x k.e.y k.e.a k.e.b k.e.d) <| Go.Ev.tsC (tT (rfl : (k.n : Int) = k.n)) ts0)
    (qs7 h1 h2 h3 h4 h5 h6 awake8) rfl rfl (by kernel_rfl)
theorem stripForms_pc {e n : El} (he : e.Ok) (hn : n.Ok) (lo hi : Int) : PC Tryz.prog 3 [e.val, n.val, .int .i64 lo, .int .i64 hi] (.bool true) :=
  stripForms_run (ring_qc he hn lo hi _ rfl) (rRing_qc he hn lo hi _ rfl) (upd_qc he hn lo hi _ rfl) (rUpd_qc he hn lo hi _ rfl) (acq_qc hn hi _ rfl) (rAcq_qc hn hi _ rfl)
end Go.Proofs.YtaibhjphgdjcmaaGreat.W
