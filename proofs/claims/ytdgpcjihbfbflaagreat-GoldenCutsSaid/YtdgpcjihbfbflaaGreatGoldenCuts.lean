/-
  GoldenCuts: a cut keeps what is in the strip and makes no trace greater.
-/
import Derived.Test.YtdgpcjihbfbflaaGreatGoldM
namespace Go.Proofs.YtdgpcjihbfbflaaGreat.W
open Go Go.Ev Go.Wide

theorem flat_cuts7 (e : El) (s : Sp) (p q : Int) : [e.val, s.val, pt p q].all flat = true := by simp [flat_el, flat_pt, Sp.val, flat_strV]
theorem smay_qc (s : Sp) (r : Bool) (h : s.may = r) : QC Tryz.prog 11 [s.val] (.bool r) := mayS_qc s.ox s.oy s.hx s.hy s.lo s.hi r h
def Sp.at (s : Sp) (p q : Int) : Int := atW s.ox s.oy s.hx s.hy p q
theorem goldenCuts_pc {e : El} {s : Sp} {p q : Int} (he : e.Ok) : PC Tryz.prog 4 [e.val, s.val, pt p q] (.bool true) := by
  have hfl := flat_cuts7 e s p q
  cases h1 : e.may with
  | false =>
    have hg : gCut e s = ⟨.zero, 1⟩ := by unfold gCut; rw [h1]; rfl
    exact PC.run mixed Tryz.func4 [.res (Mk.mk .zero 1).val, .res (.bool false), .res (.bool true)] hfl ts0 (qs3 (gCut_qc s he _ hg) (emay_qc he _ h1) awake7) rfl rfl (by kernel_rfl)
  | true => cases h2 : s.may with
    | false =>
      have hg : gCut e s = ⟨.zero, 1⟩ := by unfold gCut; rw [h1, h2]; rfl
      exact PC.run mixed Tryz.func4 [.res (Mk.mk .zero 1).val, .res (.bool true), .res (.bool false), .res (.bool true)] hfl ts0 (qs4 (gCut_qc s he _ hg) (emay_qc he _ h1) (smay_qc s _ h2) awake7) rfl rfl (by kernel_rfl)
    | true =>
      rcases gCut_cases h1 h2 with ⟨hg, hno⟩ | ⟨g, hg, hgo, t1, hin⟩
      · cases i1 : e.has p q with
        | false => exact PC.run mixed Tryz.func4 [.res (Mk.mk .zero 3).val, .res (.bool true), .res (.bool true), .res (.bool false), .res (.bool true)] hfl ts0 (qs5 (gCut_qc s he _ hg) (emay_qc he _ h1) (smay_qc s _ h2) (has_qc he p q _ i1) awake7) rfl rfl (by kernel_rfl)
        | true =>
          have hw := within_iff.1 (inE_near i1).2.1
          have hat : s.at p q = atI s.ox s.oy s.hx s.hy p q := atW_eq h2 hw.1 hw.2
          by_cases c1 : s.at p q ≥ s.lo
          · by_cases c2 : s.at p q ≤ s.hi
            · exact absurd ⟨i1, by omega, by omega⟩ (hno p q)
            · exact PC.run mixed Tryz.func4 [.res (Mk.mk .zero 3).val, .res (.bool true), .res (.bool true), .res (.bool true), .auto, .tst true, .tst false, .res (.bool true)] hfl (ts2 (tT c1) (tF c2)) (qs5 (gCut_qc s he _ hg) (emay_qc he _ h1) (smay_qc s _ h2) (has_qc he p q _ i1) awake7) rfl rfl (by kernel_rfl)
          · exact PC.run mixed Tryz.func4 [.res (Mk.mk .zero 3).val, .res (.bool true), .res (.bool true), .res (.bool true), .auto, .tst false, .res (.bool true)] hfl (ts1 (tF c1)) (qs5 (gCut_qc s he _ hg) (emay_qc he _ h1) (smay_qc s _ h2) (has_qc he p q _ i1) awake7) rfl rfl (by kernel_rfl)
      · cases i1 : e.has p q with
        | false => exact PC.run mixed Tryz.func4 [.res (Mk.mk g 0).val, .res (.bool true), .res (.bool true), .res (.bool false), .res (.int .i64 g.tr), .res (.int .i64 e.tr), .tst true, .res (.bool true)] hfl (ts1 (tT t1)) (qs7 (gCut_qc s he _ hg) (emay_qc he _ h1) (smay_qc s _ h2) (has_qc he p q _ i1) (tr_qc hgo) (tr_qc he) awake7) rfl rfl (by kernel_rfl)
        | true =>
          have hw := within_iff.1 (inE_near i1).2.1
          have hat : s.at p q = atI s.ox s.oy s.hx s.hy p q := atW_eq h2 hw.1 hw.2
          by_cases c1 : s.at p q ≥ s.lo
          · by_cases c2 : s.at p q ≤ s.hi
            · exact PC.run mixed Tryz.func4 [.res (Mk.mk g 0).val, .res (.bool true), .res (.bool true), .res (.bool true), .auto, .tst true, .tst true, .res (.bool true), .res (.int .i64 g.tr), .res (.int .i64 e.tr), .tst true, .res (.bool true)] hfl (ts3 (tT c1) (tT c2) (tT t1)) (qs8 (gCut_qc s he _ hg) (emay_qc he _ h1) (smay_qc s _ h2) (has_qc he p q _ i1) (has_qc hgo p q _ (hin p q i1 (by omega) (by omega))) (tr_qc hgo) (tr_qc he) awake7) rfl rfl (by kernel_rfl)
            · exact PC.run mixed Tryz.func4 [.res (Mk.mk g 0).val, .res (.bool true), .res (.bool true), .res (.bool true), .auto, .tst true, .tst false, .res (.int .i64 g.tr), .res (.int .i64 e.tr), .tst true, .res (.bool true)] hfl (ts3 (tT c1) (tF c2) (tT t1)) (qs7 (gCut_qc s he _ hg) (emay_qc he _ h1) (smay_qc s _ h2) (has_qc he p q _ i1) (tr_qc hgo) (tr_qc he) awake7) rfl rfl (by kernel_rfl)
          · exact PC.run mixed Tryz.func4 [.res (Mk.mk g 0).val, .res (.bool true), .res (.bool true), .res (.bool true), .auto, .tst false, .res (.int .i64 g.tr), .res (.int .i64 e.tr), .tst true, .res (.bool true)] hfl (ts2 (tF c1) (tT t1)) (qs7 (gCut_qc s he _ hg) (emay_qc he _ h1) (smay_qc s _ h2) (has_qc he p q _ i1) (tr_qc hgo) (tr_qc he) awake7) rfl rfl (by kernel_rfl)
theorem enters_goldenCuts : ∀ us w, (callFunc 4 us).run Tryz.prog w = .ok (.enter 4 us) w := enters Tryz.func4 rfl (by kernel_rfl)
end Go.Proofs.YtdgpcjihbfbflaaGreat.W
