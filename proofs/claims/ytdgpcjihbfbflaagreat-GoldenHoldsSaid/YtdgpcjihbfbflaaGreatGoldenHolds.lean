/-
  GoldenHolds: what is in both is in what is fused, whose trace is at most each one's.
-/
import Derived.Test.YtdgpcjihbfbflaaGreatGoldM
namespace Go.Proofs.YtdgpcjihbfbflaaGreat.W
open Go Go.Ev Go.Wide

theorem flat_holds7 (e f : El) (p q : Int) : [e.val, f.val, pt p q].all flat = true := by simp [flat_el, flat_pt]
theorem goldenHolds_pc {e f : El} {p q : Int} (he : e.Ok) (hf : f.Ok) : PC Tryz.prog 3 [e.val, f.val, pt p q] (.bool true) := by
  have hfl := flat_holds7 e f p q
  cases h1 : e.may with
  | false =>
    have hg : gFuse e f = ⟨.zero, 1⟩ := by unfold gFuse; rw [h1]; rfl
    exact PC.run mixed Tryz.func3 [.res (Mk.mk .zero 1).val, .res (.bool false), .res (.bool true)] hfl ts0 (qs3 (gFuse_qc he hf _ hg) (emay_qc he _ h1) awake7) rfl rfl (by kernel_rfl)
  | true => cases h2 : f.may with
    | false =>
      have hg : gFuse e f = ⟨.zero, 1⟩ := by unfold gFuse; rw [h1, h2]; rfl
      exact PC.run mixed Tryz.func3 [.res (Mk.mk .zero 1).val, .res (.bool true), .res (.bool false), .res (.bool true)] hfl ts0 (qs4 (gFuse_qc he hf _ hg) (emay_qc he _ h1) (emay_qc hf _ h2) awake7) rfl rfl (by kernel_rfl)
    | true =>
      rcases gFuse_cases h1 h2 with ⟨hg, hno⟩ | ⟨g, hg, hm, t1, t2, hin⟩
      · cases i1 : e.has p q with
        | false => exact PC.run mixed Tryz.func3 [.res (Mk.mk .zero 3).val, .res (.bool true), .res (.bool true), .res (.bool false), .res (.bool true)] hfl ts0 (qs5 (gFuse_qc he hf _ hg) (emay_qc he _ h1) (emay_qc hf _ h2) (has_qc he p q _ i1) awake7) rfl rfl (by kernel_rfl)
        | true => cases i2 : f.has p q with
          | false => exact PC.run mixed Tryz.func3 [.res (Mk.mk .zero 3).val, .res (.bool true), .res (.bool true), .res (.bool true), .res (.bool false), .res (.bool true)] hfl ts0 (qs6 (gFuse_qc he hf _ hg) (emay_qc he _ h1) (emay_qc hf _ h2) (has_qc he p q _ i1) (has_qc hf p q _ i2) awake7) rfl rfl (by kernel_rfl)
          | true => exact absurd ⟨i1, i2⟩ (hno p q)
      · have hgo := may_ok hm
        obtain ⟨h, hh, hho, t3⟩ := gFuse_self h1
        cases i1 : e.has p q with
        | false => exact PC.run mixed Tryz.func3 [.res (Mk.mk g 0).val, .res (.bool true), .res (.bool true), .res (.bool false), .res (Mk.mk h 0).val, .res (.bool true), .res (.int .i64 g.tr), .res (.int .i64 e.tr), .tst true, .res (.int .i64 g.tr), .res (.int .i64 f.tr), .tst true, .res (.int .i64 h.tr), .res (.int .i64 e.tr), .tst true, .res (.bool true)] hfl (ts3 (tT t1) (tT t2) (tT t3)) (qs13 (gFuse_qc he hf _ hg) (emay_qc he _ h1) (emay_qc hf _ h2) (has_qc he p q _ i1) (gFuse_qc he he _ hh) (emay_qc hgo _ hm) (tr_qc hgo) (tr_qc he) (tr_qc hgo) (tr_qc hf) (tr_qc hho) (tr_qc he) awake7) rfl rfl (by kernel_rfl)
        | true => cases i2 : f.has p q with
          | false => exact PC.run mixed Tryz.func3 [.res (Mk.mk g 0).val, .res (.bool true), .res (.bool true), .res (.bool true), .res (.bool false), .res (Mk.mk h 0).val, .res (.bool true), .res (.int .i64 g.tr), .res (.int .i64 e.tr), .tst true, .res (.int .i64 g.tr), .res (.int .i64 f.tr), .tst true, .res (.int .i64 h.tr), .res (.int .i64 e.tr), .tst true, .res (.bool true)] hfl (ts3 (tT t1) (tT t2) (tT t3)) (qs14 (gFuse_qc he hf _ hg) (emay_qc he _ h1) (emay_qc hf _ h2) (has_qc he p q _ i1) (has_qc hf p q _ i2) (gFuse_qc he he _ hh) (emay_qc hgo _ hm) (tr_qc hgo) (tr_qc he) (tr_qc hgo) (tr_qc hf) (tr_qc hho) (tr_qc he) awake7) rfl rfl (by kernel_rfl)
          | true => exact PC.run mixed Tryz.func3 [.res (Mk.mk g 0).val, .res (.bool true), .res (.bool true), .res (.bool true), .res (.bool true), .res (.bool true), .res (Mk.mk h 0).val, .res (.bool true), .res (.int .i64 g.tr), .res (.int .i64 e.tr), .tst true, .res (.int .i64 g.tr), .res (.int .i64 f.tr), .tst true, .res (.int .i64 h.tr), .res (.int .i64 e.tr), .tst true, .res (.bool true)] hfl (ts3 (tT t1) (tT t2) (tT t3)) (qs15 (gFuse_qc he hf _ hg) (emay_qc he _ h1) (emay_qc hf _ h2) (has_qc he p q _ i1) (has_qc hf p q _ i2) (has_qc hgo p q _ (hin p q i1 i2)) (gFuse_qc he he _ hh) (emay_qc hgo _ hm) (tr_qc hgo) (tr_qc he) (tr_qc hgo) (tr_qc hf) (tr_qc hho) (tr_qc he) awake7) rfl rfl (by kernel_rfl)
theorem enters_goldenHolds : ∀ us w, (callFunc 3 us).run Tryz.prog w = .ok (.enter 3 us) w := enters Tryz.func3 rfl (by kernel_rfl)
end Go.Proofs.YtdgpcjihbfbflaaGreat.W
