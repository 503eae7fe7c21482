/-
  EllipForms: the program's ellipses answer as the reference's.
-/
import Derived.Test.YtfgnjkjnhakihaaGreatTokT
namespace Go.Proofs.YtfgnjkjnhakihaaGreat.W
open Go Go.Ev Go.Wide
open Go.Proofs.YtfgnjkjnhakihaaGreat.R (eBall_qc eBox_qc eShift_qc eHull_qc eAlong_pc enters_eAlong ePoint_qc eMay_qc eIn_qc eTrace_qc eRadius_qc qsC)

theorem ell_reflM (x y a b d : Int) : (!(!((decide (x = x) && (decide (y = y) && true)) && ((decide (a = a) && (decide (b = b) && (decide (d = d) && true))) && true)))) = true := by simp
theorem int_reflM (e : Int) : (!(!decide (e = e))) = true := by simp
theorem bool_refl (m : Bool) : decide (m = m) = true := by simp
theorem ballV_form (x y r : Int) : ∃ p q A B D e, ballV x y r = ellT p q A B D e := by
  unfold ballV
  split <;> exact ⟨_, _, _, _, _, _, rfl⟩
theorem boxV_form (x y i j : Int) : ∃ p q A B D e, boxV x y i j = ellT p q A B D e := by
  unfold boxV
  split <;> exact ⟨_, _, _, _, _, _, rfl⟩
theorem shiftV_form (x y a b d u v : Int) : ∃ p q A B D e, shiftV x y a b d u v = ellT p q A B D e := by
  unfold shiftV
  split
  · split <;> exact ⟨_, _, _, _, _, _, rfl⟩
  · exact ⟨_, _, _, _, _, _, rfl⟩
theorem hullV_form (x y a b d : Int) : ∃ p q, hullV x y a b d = twoI p q := by
  unfold hullV
  split <;> exact ⟨_, _, rfl⟩
theorem alongV_form (x y a b d g k : Int) : ∃ p e, alongV x y a b d g k = errI p e := by
  unfold alongV
  split <;> exact ⟨_, _, rfl⟩
theorem ef_run {x y a b d p q u v g k r i j p1 q1 A1 B1 D1 p2 q2 A2 B2 D2 p3 q3 A3 B3 D3 s t l tr ra : Int} {e1 e2 e3 e4 : Nat} {mp ml mi : Bool} (h1 : QC Tryz.prog 4 [pt p q, .int .i64 r] (ellT p1 q1 A1 B1 D1 e1)) (f1 : QC Tryz.prog 5 [pt p q, .int .i64 r] (ellT p1 q1 A1 B1 D1 e1))
    (h2 : QC Tryz.prog 6 [pt p q, .int .i64 i, .int .i64 j] (ellT p2 q2 A2 B2 D2 e2)) (f2 : QC Tryz.prog 7 [pt p q, .int .i64 i, .int .i64 j] (ellT p2 q2 A2 B2 D2 e2)) (h3 : QC Tryz.prog 8 [ell x y a b d, pt u v] (ellT p3 q3 A3 B3 D3 e3)) (f3 : QC Tryz.prog 9 [ell x y a b d, pt u v] (ellT p3 q3 A3 B3 D3 e3))
    (h4 : QC Tryz.prog 10 [ell x y a b d] (twoI s t)) (f4 : QC Tryz.prog 11 [ell x y a b d] (twoI s t)) (h5 : QC Tryz.prog 12 [ell x y a b d, pt g k] (errI l e4)) (f5 : QC Tryz.prog 13 [ell x y a b d, pt g k] (errI l e4))
    (h6 : QC Tryz.prog 14 [pt p q] (.bool mp)) (f6 : QC Tryz.prog 15 [pt p q] (.bool mp)) (h7 : QC Tryz.prog 16 [ell x y a b d] (.bool ml)) (f7 : QC Tryz.prog 17 [ell x y a b d] (.bool ml)) (h8 : QC Tryz.prog 18 [ell x y a b d, pt p q] (.bool mi)) (f8 : QC Tryz.prog 19 [ell x y a b d, pt p q] (.bool mi))
    (h9 : QC Tryz.prog 20 [ell x y a b d] (.int .i64 tr)) (f9 : QC Tryz.prog 21 [ell x y a b d] (.int .i64 tr)) (h10 : QC Tryz.prog 22 [ell x y a b d] (.int .i64 ra)) (f10 : QC Tryz.prog 23 [ell x y a b d] (.int .i64 ra)) :
    PC Tryz.prog 3 [ell x y a b d, pt p q, pt u v, pt g k, .int .i64 r, .int .i64 i, .int .i64 j] (.bool true) :=
  PC.run mixed Tryz.func3 [.res (ellT p1 q1 A1 B1 D1 e1), .res (ellT p1 q1 A1 B1 D1 e1), .res (ellT p2 q2 A2 B2 D2 e2), .res (ellT p2 q2 A2 B2 D2 e2), .res (ellT p3 q3 A3 B3 D3 e3), .res (ellT p3 q3 A3 B3 D3 e3), .tst false, .tst false, .tst false, .tst false, .tst false, .tst false,
    .res (twoI s t), .res (twoI s t), .res (errI l e4), .res (errI l e4), .res (.bool mp), .res (.bool mp), .tst true, .res (.bool ml), .res (.bool ml), .tst true, .res (.bool mi), .res (.bool mi), .tst true, .res (.int .i64 tr), .res (.int .i64 tr), .tst true, .res (.int .i64 ra), .res (.int .i64 ra), .tst true, .tst true, .tst true, .tst true, .tst true, .res (.bool true)] (by simp [flat_ell, flat_pt]; exact ⟨rfl, rfl, rfl⟩)
    (Go.Ev.tsC (ell_reflM p1 q1 A1 B1 D1) <| Go.Ev.tsC (int_reflM e1) <| Go.Ev.tsC (ell_reflM p2 q2 A2 B2 D2) <| Go.Ev.tsC (int_reflM e2) <| Go.Ev.tsC (ell_reflM p3 q3 A3 B3 D3) <| Go.Ev.tsC (int_reflM e3) <| Go.Ev.tsC (bool_refl mp) <| Go.Ev.tsC (bool_refl ml) <| Go.Ev.tsC (bool_refl mi) <| Go.Ev.tsC (tT (rfl : tr = tr)) <| Go.Ev.tsC (tT (rfl : ra = ra)) <| Go.Ev.tsC (tT (rfl : s = s)) <| Go.Ev.tsC (tT (rfl : t = t)) <| Go.Ev.tsC (tT (rfl : l = l)) <| Go.Ev.tsC (tT (rfl : (e4 : Int) = e4)) ts0)
    (qsC h1 <| qsC f1 <| qsC h2 <| qsC f2 <| qsC h3 <| qsC f3 <| qsC h4 <| qsC f4 <| qsC h5 <| qsC f5 <| qsC h6 <| qsC f6 <| qsC h7 <| qsC f7 <| qsC h8 <| qsC f8 <| qsC h9 <| qsC f9 <| qsC h10 <| qsC f10 <| qsC awakeL qs0) rfl rfl (by kernel_rfl)
theorem ellipForms_pc {x y a b d p q u v g k r i j : Int} (ha : I64 a) (hb : I64 b) (hd : I64 d) : PC Tryz.prog 3 [ell x y a b d, pt p q, pt u v, pt g k, .int .i64 r, .int .i64 i, .int .i64 j] (.bool true) := by
  obtain ⟨p1, q1, A1, B1, D1, e1, h1⟩ := ballV_form p q r
  obtain ⟨p2, q2, A2, B2, D2, e2, h2⟩ := boxV_form p q i j
  obtain ⟨p3, q3, A3, B3, D3, e3, h3⟩ := shiftV_form x y a b d u v
  obtain ⟨s, t, h4⟩ := hullV_form x y a b d
  obtain ⟨l, e4, h5⟩ := alongV_form x y a b d g k
  have hq : mayL x y a b d = true → within g k 16777216 = true → 0 ≤ quadI a b d g k ∧ csq (quadI a b d g k).natAbs ≤ 9223372036854775807 := fun m w => by
    have := along_facts m w
    omega
  have g5 := QC.of_pc enters_along (along_pc ha hb hd hq)
  have f5 := QC.of_pc enters_eAlong (eAlong_pc ha hb hd hq)
  rw [h5] at g5 f5
  exact ef_run (ball_qc p q r _ h1) (eBall_qc p q r _ h1) (box_qc p q i j _ h2) (eBox_qc p q i j _ h2) (shiftL_qc x y u v ha hb hd _ h3) (eShift_qc x y u v ha hb hd _ h3) (hull_qc x y ha hb hd _ h4) (eHull_qc x y ha hb hd _ h4) g5 f5 (mayPoint_qc p q _ rfl) (ePoint_qc p q _ rfl) (mayL_qc x y ha hb hd _ rfl) (eMay_qc x y ha hb hd _ rfl) (inE_qc x y p q ha hb hd _ rfl) (eIn_qc x y p q ha hb hd)
    (trace_qc x y ha hb hd) (eTrace_qc x y ha hb hd) (radius_qc x y ha hb hd) (eRadius_qc x y ha hb hd)
theorem enters_ellipForms : ∀ us w, (callFunc 3 us).run Tryz.prog w = .ok (.enter 3 us) w := enters Tryz.func3 rfl (by kernel_rfl)
end Go.Proofs.YtfgnjkjnhakihaaGreat.W
