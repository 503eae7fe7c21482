/-
  MatAdj: the adjugate.
-/
import Derived.Test.YtokamlicglibkaaMatM
import Derived.Test.YtokamlicglibkaaEvS
namespace Go.Proofs.Ytokamlicglibkaa.W
open Go Go.Ev Go.Wide

theorem matAdj_pc {a b d x y : Int} (ha : I64 a) (hb : I64 b) (hd : I64 d) : PC Try.prog 8 [sym a b d, pt x y] (.bool true) := by
  have hfl : [sym a b d, pt x y].all flat = true := by simp [flat_sym, flat_pt]
  cases h1 : mayM a b d with
  | true =>
    have g := mayM_iff.1 h1
    have hb' : I64 (-b) := ⟨by omega, by omega⟩
    have h2 : mayM d (-b) a = true := mayM_iff.2 ⟨g.2.2, ⟨by omega, by omega⟩, g.1⟩
    have e1 : adjV a b d = sym d (-b) a := by unfold adjV; rw [h1]
    have e2 : adjV d (-b) a = sym a b d := by unfold adjV; rw [h2, Int.neg_neg]
    have e3 : detI d (-b) a = detI a b d := by unfold detI; rw [Int.neg_mul_neg, Int.mul_comm d a]
    have e4 : psdI d (-b) a = psdI a b d := by unfold psdI; rw [e3]; cases decide (0 ≤ a) <;> cases decide (0 ≤ d) <;> rfl
    have q1 := QC.of_pc enters_adj (adj_pc a b d)
    have q2 := QC.of_pc enters_adj (adj_pc d (-b) a)
    rw [e1] at q1
    rw [e2] at q2
    have d1 := QC.of_pc enters_detM (detM_pc hd hb' ha)
    rw [e3] at d1
    have t1 := text_wz (detI_sm ha.sm hb.sm hd.sm) _ rfl
    cases h5 : psdI a b d with
    | true =>
      exact PC.run mixed Try.func8 [.res (sym d (-b) a), .res (.bool true), .res (wz (detI a b d)), .res (.string (textB (some (detI a b d)))), .res (wz (detI a b d)), .res (.string (textB (some (detI a b d)))), .tst true, .res (sym a b d), .tst true, .res (.bool true), .res (.bool true), .res (.bool true)] hfl (ts2 (str_refl (textB (some (detI a b d)))) (sym_refl a b d)) (qs10 (q1) (may_qc a b d _ h1) (d1) (t1) (QC.of_pc enters_detM (detM_pc ha hb hd)) (t1) (q2) (psdM_qc hd hb' ha _ (e4.trans h5)) (psdM_qc ha hb hd _ h5) (awakeM)) (rfl) (rfl) (by kernel_rfl)
    | false =>
      exact PC.run mixed Try.func8 [.res (sym d (-b) a), .res (.bool true), .res (wz (detI a b d)), .res (.string (textB (some (detI a b d)))), .res (wz (detI a b d)), .res (.string (textB (some (detI a b d)))), .tst true, .res (sym a b d), .tst true, .res (.bool false), .res (.bool false), .res (.bool true)] hfl (ts2 (str_refl (textB (some (detI a b d)))) (sym_refl a b d)) (qs10 (q1) (may_qc a b d _ h1) (d1) (t1) (QC.of_pc enters_detM (detM_pc ha hb hd)) (t1) (q2) (psdM_qc hd hb' ha _ (e4.trans h5)) (psdM_qc ha hb hd _ h5) (awakeM)) (rfl) (rfl) (by kernel_rfl)
  | false =>
    have e1 : adjV a b d = sym 0 0 0 := by unfold adjV; rw [h1]
    have q1 := QC.of_pc enters_adj (adj_pc a b d)
    rw [e1] at q1
    exact PC.run mixed Try.func8 [.res (sym 0 0 0), .res (.bool false), .res (.bool true)] hfl (ts0 ) (qs3 (q1) (may_qc a b d _ h1) (awakeM)) (rfl) (rfl) (by kernel_rfl)
theorem enters_matAdj : ∀ us w, (callFunc 8 us).run Try.prog w = .ok (.enter 8 us) w := enters Try.func8 rfl (by kernel_rfl)
end Go.Proofs.Ytokamlicglibkaa.W
