/-
  Package info: Ellipse, strips, Of, Fuse, Cut, In; awake.
-/
import Derived.Test.YtljolfnpncjklaaGreatInfo2
/-! Package info: Ellipse as a whole. -/
namespace Go.Proofs.YtljolfnpncjklaaGreat.W
open Go Go.Ev Go.Wide

theorem flat1_infoV (a b d u v z n : Int) : [infoV a b d u v z n].all flat = true := by simp only [List.all_cons, List.all_nil, flat_infoV, Bool.and_self]
theorem ellI_arg2 {a b d u v z n k q r x y e f g : Int} (q1 : QC Tryz.prog 21 [infoV a b d u v z n] (exV k q r x y e f g)) (q2 : QC Tryz.prog 23 [wz a] (.int .i64 (signI (some a)))) (h : ¬ signI (some a) ≤ 0)
    (q3 : QC Tryz.prog 23 [wz k] (.int .i64 (signI (some k)))) (h2 : signI (some k) ≤ 0) : PC Tryz.prog 7 [infoV a b d u v z n] (ellT 0 0 0 0 0 1) :=
  PC.run mixed Tryz.func7 [.res (exV k q r x y e f g), .res (.bool false), .auto, .res (.int .i64 (signI (some a))), .tst false, .res (.int .i64 (signI (some k))), .tst true] (flat1_infoV _ _ _ _ _ _ _) (ts2 (tF h) (tT h2)) (qs4 q1 (isOver_qc k q r x y e f g) q2 q3) (flat_ellT _ _ _ _ _ _) rfl (by kernel_rfl)
theorem ellI_empty {a b d u v z n k q r x y e f g : Int} (q1 : QC Tryz.prog 21 [infoV a b d u v z n] (exV k q r x y e f g)) (q2 : QC Tryz.prog 23 [wz a] (.int .i64 (signI (some a)))) (h : ¬ signI (some a) ≤ 0)
    (q3 : QC Tryz.prog 23 [wz k] (.int .i64 (signI (some k)))) (h2 : ¬ signI (some k) ≤ 0) (q4 : QC Tryz.prog 23 [wz r] (.int .i64 (signI (some r)))) (h3 : signI (some r) < 0) : PC Tryz.prog 7 [infoV a b d u v z n] (ellT 0 0 0 0 0 3) :=
  PC.run mixed Tryz.func7 [.res (exV k q r x y e f g), .res (.bool false), .auto, .res (.int .i64 (signI (some a))), .tst false, .res (.int .i64 (signI (some k))), .tst false, .res (.int .i64 (signI (some r))), .tst true] (flat1_infoV _ _ _ _ _ _ _) (ts3 (tF h) (tF h2) (tT h3)) (qs5 q1 (isOver_qc k q r x y e f g) q2 q3 q4) (flat_ellT _ _ _ _ _ _) rfl (by kernel_rfl)
theorem ellI_over {a b d u v z n k q r x y e f g : Int} (q1 : QC Tryz.prog 21 [infoV a b d u v z n] (exV k q r x y e f g)) (q2 : QC Tryz.prog 23 [wz a] (.int .i64 (signI (some a)))) (h : ¬ signI (some a) ≤ 0)
    (q3 : QC Tryz.prog 23 [wz k] (.int .i64 (signI (some k)))) (h2 : ¬ signI (some k) ≤ 0) (q4 : QC Tryz.prog 23 [wz r] (.int .i64 (signI (some r)))) (h3 : ¬ signI (some r) < 0)
    (q5 : QC Tryz.prog 24 [exV k q r x y e f g] (ellT 0 0 0 0 0 2)) : PC Tryz.prog 7 [infoV a b d u v z n] (ellT 0 0 0 0 0 2) :=
  PC.run mixed Tryz.func7 [.res (exV k q r x y e f g), .res (.bool false), .auto, .res (.int .i64 (signI (some a))), .tst false, .res (.int .i64 (signI (some k))), .tst false, .res (.int .i64 (signI (some r))), .tst false, .res (ellT 0 0 0 0 0 2)] (flat1_infoV _ _ _ _ _ _ _) (ts3 (tF h) (tF h2) (tF h3)) (qs6 q1 (isOver_qc k q r x y e f g) q2 q3 q4 q5) (flat_ellT _ _ _ _ _ _) rfl (by kernel_rfl)
theorem ellI_ok {a b d u v z n k q r x y e f g X Y A B D X' Y' A' B' D' : Int} {E : Nat} (q1 : QC Tryz.prog 21 [infoV a b d u v z n] (exV k q r x y e f g)) (q2 : QC Tryz.prog 23 [wz a] (.int .i64 (signI (some a)))) (h : ¬ signI (some a) ≤ 0)
    (q3 : QC Tryz.prog 23 [wz k] (.int .i64 (signI (some k)))) (h2 : ¬ signI (some k) ≤ 0) (q4 : QC Tryz.prog 23 [wz r] (.int .i64 (signI (some r)))) (h3 : ¬ signI (some r) < 0)
    (q5 : QC Tryz.prog 24 [exV k q r x y e f g] (ellT X Y A B D 0)) (q6 : QC Tryz.prog 25 [ell X Y A B D, .int .i64 1] (ellT X' Y' A' B' D' E)) : PC Tryz.prog 7 [infoV a b d u v z n] (ellT X' Y' A' B' D' E) :=
  PC.run mixed Tryz.func7 [.res (exV k q r x y e f g), .res (.bool false), .auto, .res (.int .i64 (signI (some a))), .tst false, .res (.int .i64 (signI (some k))), .tst false, .res (.int .i64 (signI (some r))), .tst false, .res (ellT X Y A B D 0), .res (ellT X' Y' A' B' D' E)] (flat1_infoV _ _ _ _ _ _ _) (ts3 (tF h) (tF h2) (tF h3)) (qs7 q1 (isOver_qc k q r x y e f g) q2 q3 q4 q5 q6) (flat_ellT _ _ _ _ _ _) rfl (by kernel_rfl)
theorem ellI_pc {a b d u v z n : Int} (h : Low a b d u v z n) : PC Tryz.prog 7 [infoV a b d u v z n] (ellI a b d u v z n) := by
  have hk := h.det
  have hr := h.siz hk
  have q1 := exactOf_run h hk hr (show QC Tryz.prog 59 [wz (a * d), wz (b * b)] (wz (detI a b d)) from qsub (h.a.mul h.d) (h.b.mul h.b)) (sizeOf_qc h hk)
  have q2 := qsign h.a
  have q3 := qsign hk
  have q4 := qsign hr
  unfold ellI
  by_cases c1 : a ≤ 0
  · rw [if_pos c1]
    exact ellI_arg1 q1 q2 (signI_le0.2 c1)
  rw [if_neg c1]
  have d1 := mt signI_le0.1 c1
  by_cases c2 : detI a b d ≤ 0
  · rw [if_pos c2]
    exact ellI_arg2 q1 q2 d1 q3 (signI_le0.2 c2)
  rw [if_neg c2]
  have d2 := mt signI_le0.1 c2
  by_cases c3 : sizI a b d u v z n (detI a b d) < 0
  · rw [if_pos c3]
    exact ellI_empty q1 q2 d1 q3 d2 q4 (signI_lt0.2 c3)
  rw [if_neg c3]
  have d3 := mt signI_lt0.1 c3
  have q5 := irounded_qc (m := 800) (k := detI a b d) (q := detI a b d * detI a b d) (r := sizI a b d u v z n (detI a b d)) (x := d * u - b * v) (y := a * v - b * u) (a := sizI a b d u v z n (detI a b d) * d) (b := -(sizI a b d u v z n (detI a b d) * b)) (d := sizI a b d u v z n (detI a b d) * a)
    (hk.mono (by omega)) ((hk.mul hk).mono (by omega)) (((h.d.mul h.u).sub (h.b.mul h.v)).mono (by omega)) (((h.a.mul h.v).sub (h.b.mul h.u)).mono (by omega)) ((hr.mul h.d).mono (by omega)) ((hr.mul h.b).neg.mono (by omega)) ((hr.mul h.a).mono (by omega)) (by omega) (Int.mul_pos (by omega) (by omega))
  unfold ellW
  rcases rdV_form (nearI (d * u - b * v) (detI a b d)) (nearI (a * v - b * u) (detI a b d)) (cdiv (sizI a b d u v z n (detI a b d) * d) (detI a b d * detI a b d)) ((-(sizI a b d u v z n (detI a b d) * b)).fdiv (detI a b d * detI a b d)) (cdiv (sizI a b d u v z n (detI a b d) * a) (detI a b d * detI a b d)) with ⟨e1, e2⟩ | ⟨e1, e2⟩
  · rw [e2] at q5
    rw [e1]
    have g := mayL_iff.1 e1
    obtain ⟨X', Y', A', B', D', E, hE⟩ := gballV_form (nearI (d * u - b * v) (detI a b d)) (nearI (a * v - b * u) (detI a b d)) (cdiv (sizI a b d u v z n (detI a b d) * d) (detI a b d * detI a b d) + 1) ((-(sizI a b d u v z n (detI a b d) * b)).fdiv (detI a b d * detI a b d)) (cdiv (sizI a b d u v z n (detI a b d) * a) (detI a b d * detI a b d) + 1) 1
    simp only
    rw [hE]
    exact ellI_ok q1 q2 d1 q3 d2 q4 d3 q5 (gball_qc _ _ 1 ⟨by omega, by omega⟩ ⟨by omega, by omega⟩ ⟨by omega, by omega⟩ _ hE)
  · rw [e2] at q5
    rw [e1]
    exact ellI_over q1 q2 d1 q3 d2 q4 d3 q5
theorem ellI_qc {a b d u v z n : Int} (h : Low a b d u v z n) : QC Tryz.prog 7 [infoV a b d u v z n] (ellI a b d u v z n) := QC.of_pc enters_ellI (ellI_pc h)
theorem ellI_form (a b d u v z n : Int) : ∃ x y A B D e, ellI a b d u v z n = ellT x y A B D e := by
  unfold ellI ellW
  split
  · exact ⟨_, _, _, _, _, _, rfl⟩
  split
  · exact ⟨_, _, _, _, _, _, rfl⟩
  split
  · exact ⟨_, _, _, _, _, _, rfl⟩
  split
  · exact gballV_form _ _ _ _ _ _
  · exact ⟨_, _, _, _, _, _, rfl⟩

/-! ### Points, strips -/
def strV (ox oy hx hy lo hi : Int) : Value := .agg #[.int .i64 ox, .int .i64 oy, .int .i64 hx, .int .i64 hy, .int .i64 lo, .int .i64 hi]
theorem flat_strV (ox oy hx hy lo hi : Int) : flat (strV ox oy hx hy lo hi) = true := by kernel_rfl
def isO (x y : Int) : Bool := decide (x = 0) && (decide (y = 0) && true)
def mayS (ox oy hx hy lo hi : Int) : Bool := mayP ox oy && (within hx hy 16777216 && (!isO hx hy && (decide (-1125899906842624 ≤ lo) && (decide (lo < hi) && decide (hi ≤ 1125899906842624)))))
theorem mayS_iff {ox oy hx hy lo hi : Int} : mayS ox oy hx hy lo hi = true ↔ ((-4194304 ≤ ox ∧ ox ≤ 4194304) ∧ (-4194304 ≤ oy ∧ oy ≤ 4194304)) ∧ ((-16777216 ≤ hx ∧ hx ≤ 16777216) ∧ (-16777216 ≤ hy ∧ hy ≤ 16777216)) ∧ ¬ (hx = 0 ∧ hy = 0) ∧ -1125899906842624 ≤ lo ∧ lo < hi ∧ hi ≤ 1125899906842624 := by
  simp only [mayS, mayP, isO, Bool.and_eq_true, within_iff, decide_eq_true_eq, Bool.not_eq_true', Bool.and_eq_false_iff, decide_eq_false_iff_not, Bool.true_eq_false, or_false]
  omega
end Go.Proofs.YtljolfnpncjklaaGreat.W
