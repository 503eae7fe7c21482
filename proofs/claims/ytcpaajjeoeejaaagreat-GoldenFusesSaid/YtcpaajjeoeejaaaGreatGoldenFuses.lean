/-
  GoldenFuses: the program fuses and cuts as the reference does.
-/
import Derived.Test.YtcpaajjeoeejaaaGreatTokQ
namespace Go.Proofs.YtcpaajjeoeejaaaGreat.W
open Go Go.Ev Go.Wide
open Go.Proofs.YtcpaajjeoeejaaaGreat.R (rFuse_qc rCut_qc)

theorem flat_fuses7 (e f : El) (s : Sp) : [e.val, f.val, s.val].all flat = true := by simp [flat_el, Sp.val, flat_strV]
theorem goldenFuses_run {e f : El} {s : Sp} {m k : Mk} (h1 : QC Tryz.prog 10 [e.val, f.val] m.val) (h2 : QC Tryz.prog 11 [e.val, f.val] m.val) (h3 : QC Tryz.prog 12 [e.val, s.val] k.val) (h4 : QC Tryz.prog 13 [e.val, s.val] k.val) :
    PC Tryz.prog 4 [e.val, f.val, s.val] (.bool true) :=
  PC.run mixed Tryz.func4 [.res m.val, .res m.val, .res k.val, .res k.val, .tst true, .tst true, .tst true, .tst true, .res (.bool true)] (flat_fuses7 e f s)
    (Go.Ev.tsC (ell_refl m.e.x m.e.y m.e.a m.e.b m.e.d) <| Go.Ev.tsC (tT (rfl : (m.n : Int) = m.n)) <| Go.Ev.tsC (ell_refl k.e.x k.e.y k.e.a k.e.b k.e.d) <| Go.Ev.tsC (tT (rfl : (k.n : Int) = k.n)) ts0) (qs5 h1 h2 h3 h4 awake7) rfl rfl (by kernel_rfl)
theorem goldenFuses_pc {e f : El} {s : Sp} (he : e.Ok) (hf : f.Ok) : PC Tryz.prog 4 [e.val, f.val, s.val] (.bool true) :=
  goldenFuses_run (gFuse_qc he hf _ rfl) (rFuse_qc he hf _ rfl) (gCut_qc s he _ rfl) (rCut_qc s he _ rfl)
end Go.Proofs.YtcpaajjeoeejaaaGreat.W
