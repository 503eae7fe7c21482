/-
  StripLess: what is left may be and is never greater; what may not be is refused.
-/
import Derived.Test.YtaibhjphgdjcmaaGreatStripL
import Derived.Test.YtaibhjphgdjcmaaGreatStripA
namespace Go.Proofs.YtaibhjphgdjcmaaGreat.W
open Go Go.Ev Go.Wide

theorem enters_stripLess : ∀ us w, (callFunc 5 us).run Tryz.prog w = .ok (.enter 5 us) w := enters Tryz.func5 rfl (by kernel_rfl)
theorem stripLess_pc {e n : El} (he : e.Ok) (hn : n.Ok) (lo hi : Int) : PC Tryz.prog 5 [e.val, n.val, .int .i64 lo, .int .i64 hi] (.bool true) := by
  have hfl : [e.val, n.val, .int .i64 lo, .int .i64 hi].all flat = true := rfl
  cases hm : measB e n lo hi with
  | false =>
    have hq := upd_qc he hn lo hi ⟨.zero, 1⟩ (by unfold updV; rw [hm])
    cases h1 : e.may with
    | false => exact PC.run mixed Tryz.func5 [.res (Mk.mk .zero 1).val, .res (.bool false), .res (.bool true)] hfl ts0 (qs3 hq (emay_qc he _ h1) awake8) rfl rfl (by kernel_rfl)
    | true =>
      cases h2 : n.may with
      | false => exact PC.run mixed Tryz.func5 [.res (Mk.mk .zero 1).val, .res (.bool true), .res (.bool false), .res (.bool true)] hfl ts0 (qs4 hq (emay_qc he _ h1) (emay_qc hn _ h2) awake8) rfl rfl (by kernel_rfl)
      | true =>
        by_cases c1 : lo < 0
        · exact PC.run mixed Tryz.func5 [.res (Mk.mk .zero 1).val, .res (.bool true), .res (.bool true), .auto, .tst true, .res (.bool true)] hfl (ts1 (tT c1)) (qs4 hq (emay_qc he _ h1) (emay_qc hn _ h2) awake8) rfl rfl (by kernel_rfl)
        · by_cases c2 : lo > hi
          · exact PC.run mixed Tryz.func5 [.res (Mk.mk .zero 1).val, .res (.bool true), .res (.bool true), .auto, .tst false, .tst true, .res (.bool true)] hfl (ts2 (tF c1) (tT c2)) (qs4 hq (emay_qc he _ h1) (emay_qc hn _ h2) awake8) rfl rfl (by kernel_rfl)
          · by_cases c3 : hi > 4194304
            · exact PC.run mixed Tryz.func5 [.res (Mk.mk .zero 1).val, .res (.bool true), .res (.bool true), .auto, .tst false, .tst false, .tst true, .res (.bool true)] hfl (ts3 (tF c1) (tF c2) (tT c3)) (qs4 hq (emay_qc he _ h1) (emay_qc hn _ h2) awake8) rfl rfl (by kernel_rfl)
            · have := (measB_iff (e := e) (n := n) (lo := lo) (hi := hi)).2 ⟨h1, h2, by omega, by omega, by omega⟩
              rw [hm] at this
              cases this
  | true =>
    obtain ⟨h1, h2, b1, b2, b3⟩ := measB_iff.1 hm
    have c1 : ¬ lo < 0 := by omega
    have c2 : ¬ lo > hi := by omega
    have c3 : ¬ hi > 4194304 := by omega
    rcases upd_cases hm with ⟨g1, _⟩ | ⟨g, g1, g2, g3, _⟩
    · exact PC.run mixed Tryz.func5 [.res (Mk.mk .zero 3).val, .res (.bool true), .res (.bool true), .auto, .tst false, .tst false, .tst false, .res (.bool true)] hfl (ts3 (tF c1) (tF c2) (tF c3)) (qs4 (upd_qc he hn lo hi _ g1) (emay_qc he _ h1) (emay_qc hn _ h2) awake8) rfl rfl (by kernel_rfl)
    · have hgo := may_ok g2
      exact PC.run mixed Tryz.func5 [.res (Mk.mk g 0).val, .res (.bool true), .res (.bool true), .auto, .tst false, .tst false, .tst false, .res (.bool true), .res (.int .i64 g.tr), .res (.int .i64 e.tr), .tst true, .res (.bool true)] hfl (ts4 (tF c1) (tF c2) (tF c3) (tT g3)) (qs7 (upd_qc he hn lo hi _ g1) (emay_qc he _ h1) (emay_qc hn _ h2) (emay_qc hgo _ g2) (tr_qc hgo) (tr_qc he) awake8) rfl rfl (by kernel_rfl)
end Go.Proofs.YtaibhjphgdjcmaaGreat.W
