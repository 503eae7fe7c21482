/-
  GrowForms: the program's sums and growth of ellipses answer as the reference's.
-/
import Derived.Test.YtfgnjkjnhakihaaTokS
namespace Go.Proofs.Ytfgnjkjnhakihaa.W
open Go Go.Ev Go.Wide
open Go.Proofs.Ytfgnjkjnhakihaa.R (eSum_qc eGrow_qc eAge_qc qsC)

theorem gf_run {x y a b d x' y' a' b' d' r s t p1 q1 A1 B1 D1 p2 q2 A2 B2 D2 p3 q3 A3 B3 D3 : Int} {e1 e2 e3 : Nat} (h1 : QC Try.prog 72 [ell x y a b d, ell x' y' a' b' d'] (ellT p1 q1 A1 B1 D1 e1)) (f1 : QC Try.prog 73 [ell x y a b d, ell x' y' a' b' d'] (ellT p1 q1 A1 B1 D1 e1))
    (h2 : QC Try.prog 74 [ell x y a b d, .int .i64 r] (ellT p2 q2 A2 B2 D2 e2)) (f2 : QC Try.prog 75 [ell x y a b d, .int .i64 r] (ellT p2 q2 A2 B2 D2 e2)) (h3 : QC Try.prog 76 [ell x y a b d, .int .i64 s, .int .i64 t] (ellT p3 q3 A3 B3 D3 e3)) (f3 : QC Try.prog 77 [ell x y a b d, .int .i64 s, .int .i64 t] (ellT p3 q3 A3 B3 D3 e3)) :
    PC Try.prog 12 [ell x y a b d, ell x' y' a' b' d', .int .i64 r, .int .i64 s, .int .i64 t] (.bool true) :=
  PC.run mixed Try.func12 [.res (ellT p1 q1 A1 B1 D1 e1), .res (ellT p1 q1 A1 B1 D1 e1), .res (ellT p2 q2 A2 B2 D2 e2), .res (ellT p2 q2 A2 B2 D2 e2), .res (ellT p3 q3 A3 B3 D3 e3), .res (ellT p3 q3 A3 B3 D3 e3), .tst true, .tst true, .tst true, .tst true, .tst true, .tst true, .res (.bool true)] (by simp [flat_ell]; exact ⟨rfl, rfl, rfl⟩)
    (Go.Ev.tsC (ell_refl p1 q1 A1 B1 D1) <| Go.Ev.tsC (tT (rfl : (e1 : Int) = e1)) <| Go.Ev.tsC (ell_refl p2 q2 A2 B2 D2) <| Go.Ev.tsC (tT (rfl : (e2 : Int) = e2)) <| Go.Ev.tsC (ell_refl p3 q3 A3 B3 D3) <| Go.Ev.tsC (tT (rfl : (e3 : Int) = e3)) ts0) (qs7 h1 f1 h2 f2 h3 f3 awakeG) rfl rfl (by kernel_rfl)
theorem growForms_pc {x y a b d x' y' a' b' d' r s t : Int} (ha : I64 a) (hb : I64 b) (hd : I64 d) (ha' : I64 a') (hb' : I64 b') (hd' : I64 d') : PC Try.prog 12 [ell x y a b d, ell x' y' a' b' d', .int .i64 r, .int .i64 s, .int .i64 t] (.bool true) := by
  obtain ⟨p1, q1, A1, B1, D1, e1, h1⟩ := gsumV_form x y a b d x' y' a' b' d'
  obtain ⟨p2, q2, A2, B2, D2, e2, h2⟩ := gballV_form x y a b d r
  obtain ⟨p3, q3, A3, B3, D3, e3, h3⟩ := gageV_form x y a b d s t
  exact gf_run (gsum_qc x y x' y' ha hb hd ha' hb' hd' _ h1) (eSum_qc x y x' y' ha hb hd ha' hb' hd' _ h1) (gball_qc x y r ha hb hd _ h2) (eGrow_qc x y r ha hb hd _ h2) (gage_qc x y s t ha hb hd _ h3) (eAge_qc x y s t ha hb hd _ h3)
theorem enters_growForms : ∀ us w, (callFunc 12 us).run Try.prog w = .ok (.enter 12 us) w := enters Try.func12 rfl (by kernel_rfl)
end Go.Proofs.Ytfgnjkjnhakihaa.W
