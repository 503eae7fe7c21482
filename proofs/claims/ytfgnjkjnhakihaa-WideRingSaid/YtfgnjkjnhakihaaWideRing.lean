/-
  WideRing: sums and products in any order and brackets.
-/
import Derived.Test.YtfgnjkjnhakihaaNum3
namespace Go.Proofs.Ytfgnjkjnhakihaa.R
open Go Go.Ev Go.W32
open Go.Proofs.Ytfgnjkjnhakihaa.W (mixed clamp WF Hi bitLen_Hi clamp_eq clamp_wf wadd wmul wsub wneg wshift I64 wv wR wz textB awakeN over_pc enters_over bits_pc enters_bits add_pc enters_add mul_pc enters_mul sub_pc enters_sub shift_pc enters_shift text_pc enters_text str_refl absN bitLen_lt_iff)

theorem enters_wideRing : ∀ us w, (callFunc 6 us).run Try.prog w = .ok (.enter 6 us) w := enters Try.func6 rfl (by kernel_rfl)
theorem enters_ringEq : ∀ us w, (callFunc 44 us).run Try.prog w = .ok (.enter 44 us) w := enters Try.func44 rfl (by kernel_rfl)
theorem ringEq {z : Int} (h : WF (some z)) : QC Try.prog 44 [wz z, wz z] (.bool true) :=
  QC.of_pc enters_ringEq (PC.run (v := .bool ((textB (some z)).toList == (textB (some z)).toList)) mixed Try.func44 [.res (.string (textB (some z))), .res (.string (textB (some z)))] (by simp [Go.Proofs.Ytfgnjkjnhakihaa.W.flat_wz]) ts0 (qs2 (QC.of_pc enters_text (text_pc h)) (QC.of_pc enters_text (text_pc h))) rfl (by rw [str_refl]) (by kernel_rfl))
section
variable {e0 e1 e2 : Bool} {n0 n1 n2 c0 c1 c2 : Nat} {k0 k1 k2 : Int} {q0 q1 q2 : List Value} {A B C : Option Int} {oa ob oc sa sb sc : Bool} {NA NB NC : Nat}
theorem wr_b0 {ba : Int} (hn0 : q0.all (noNew1 3) = true) (hn1 : q1.all (noNew1 3) = true) (hn2 : q2.all (noNew1 3) = true) (w6 : (q0.all (low1 6) && (q1.all (low1 6) && (q2.all (low1 6) && true))) = true) (w8 : (q0.all (low1 8) && (q1.all (low1 8) && (q2.all (low1 8) && true))) = true) (w10 : (q0.all (low1 10) && (q1.all (low1 10) && (q2.all (low1 10) && true))) = true)
    (g0 : MC Try.prog 13 [numX e0 0 n0 c0 k0] [qB q0, qB q1, qB q2, xB e0 0 n0 c0 k0, xB e1 1 n1 c1 k1, xB e2 2 n2 c2 k2] (.tuple #[uW oa NA sa, rB sa oa NA]) [qB q0, qB q1, qB q2, xB e0 0 n0 c0 k0, xB e1 1 n1 c1 k1, xB e2 2 n2 c2 k2])
    (g1 : MC Try.prog 13 [numX e1 1 n1 c1 k1] [qB q0, qB q1, qB q2, xB e0 0 n0 c0 k0, xB e1 1 n1 c1 k1, xB e2 2 n2 c2 k2, uB oa NA sa, rBB sa oa NA] (.tuple #[uW ob NB sb, rB sb ob NB]) [qB q0, qB q1, qB q2, xB e0 0 n0 c0 k0, xB e1 1 n1 c1 k1, xB e2 2 n2 c2 k2, uB oa NA sa, rBB sa oa NA])
    (g2 : MC Try.prog 13 [numX e2 2 n2 c2 k2] [qB q0, qB q1, qB q2, xB e0 0 n0 c0 k0, xB e1 1 n1 c1 k1, xB e2 2 n2 c2 k2, uB oa NA sa, rBB sa oa NA, uB ob NB sb, rBB sb ob NB] (.tuple #[uW oc NC sc, rB sc oc NC]) [qB q0, qB q1, qB q2, xB e0 0 n0 c0 k0, xB e1 1 n1 c1 k1, xB e2 2 n2 c2 k2, uB oa NA sa, rBB sa oa NA, uB ob NB sb, rBB sb ob NB])
    (hba : QC Try.prog 37 [uW oa NA sa] (i6 ba)) (tba : ba > 300) : MC Try.prog 6 [numX e0 0 n0 c0 k0, numX e1 1 n1 c1 k1, numX e2 2 n2 c2 k2] [qB q0, qB q1, qB q2] (.bool true) [qB q0, qB q1, qB q2] := by
  cases e0 <;> cases e1 <;> cases e2 <;> exact MC.run mixed Try.func6 [.rd (.tuple #[uW oa NA sa, rB sa oa NA]), .rd (.tuple #[uW ob NB sb, rB sb ob NB]), .rd (.tuple #[uW oc NC sc, rB sc oc NC]), .res (i6 ba), .tst true, .res (.bool true)] (ts4 (tsC w6 <| tsC w8 <| tsC w10 <| tsC (tT tba) <| ts0) hn0 hn1 hn2) (qsC g0 <| qsC g1 <| qsC g2 <| qsC hba <| qsC awakeN <| qs0) rfl rfl enters_wideRing (by kernel_rfl)
theorem wr_b1 {ba bb : Int} (hn0 : q0.all (noNew1 3) = true) (hn1 : q1.all (noNew1 3) = true) (hn2 : q2.all (noNew1 3) = true) (w6 : (q0.all (low1 6) && (q1.all (low1 6) && (q2.all (low1 6) && true))) = true) (w8 : (q0.all (low1 8) && (q1.all (low1 8) && (q2.all (low1 8) && true))) = true) (w10 : (q0.all (low1 10) && (q1.all (low1 10) && (q2.all (low1 10) && true))) = true)
    (g0 : MC Try.prog 13 [numX e0 0 n0 c0 k0] [qB q0, qB q1, qB q2, xB e0 0 n0 c0 k0, xB e1 1 n1 c1 k1, xB e2 2 n2 c2 k2] (.tuple #[uW oa NA sa, rB sa oa NA]) [qB q0, qB q1, qB q2, xB e0 0 n0 c0 k0, xB e1 1 n1 c1 k1, xB e2 2 n2 c2 k2])
    (g1 : MC Try.prog 13 [numX e1 1 n1 c1 k1] [qB q0, qB q1, qB q2, xB e0 0 n0 c0 k0, xB e1 1 n1 c1 k1, xB e2 2 n2 c2 k2, uB oa NA sa, rBB sa oa NA] (.tuple #[uW ob NB sb, rB sb ob NB]) [qB q0, qB q1, qB q2, xB e0 0 n0 c0 k0, xB e1 1 n1 c1 k1, xB e2 2 n2 c2 k2, uB oa NA sa, rBB sa oa NA])
    (g2 : MC Try.prog 13 [numX e2 2 n2 c2 k2] [qB q0, qB q1, qB q2, xB e0 0 n0 c0 k0, xB e1 1 n1 c1 k1, xB e2 2 n2 c2 k2, uB oa NA sa, rBB sa oa NA, uB ob NB sb, rBB sb ob NB] (.tuple #[uW oc NC sc, rB sc oc NC]) [qB q0, qB q1, qB q2, xB e0 0 n0 c0 k0, xB e1 1 n1 c1 k1, xB e2 2 n2 c2 k2, uB oa NA sa, rBB sa oa NA, uB ob NB sb, rBB sb ob NB])
    (hba : QC Try.prog 37 [uW oa NA sa] (i6 ba)) (tba : ¬ ba > 300) (hbb : QC Try.prog 37 [uW ob NB sb] (i6 bb)) (tbb : bb > 300) : MC Try.prog 6 [numX e0 0 n0 c0 k0, numX e1 1 n1 c1 k1, numX e2 2 n2 c2 k2] [qB q0, qB q1, qB q2] (.bool true) [qB q0, qB q1, qB q2] := by
  cases e0 <;> cases e1 <;> cases e2 <;> exact MC.run mixed Try.func6 [.rd (.tuple #[uW oa NA sa, rB sa oa NA]), .rd (.tuple #[uW ob NB sb, rB sb ob NB]), .rd (.tuple #[uW oc NC sc, rB sc oc NC]), .res (i6 ba), .tst false, .res (i6 bb), .tst true, .res (.bool true)] (ts4 (tsC w6 <| tsC w8 <| tsC w10 <| tsC (tF tba) <| tsC (tT tbb) <| ts0) hn0 hn1 hn2) (qsC g0 <| qsC g1 <| qsC g2 <| qsC hba <| qsC hbb <| qsC awakeN <| qs0) rfl rfl enters_wideRing (by kernel_rfl)
theorem wr_b2 {ba bb bc : Int} (hn0 : q0.all (noNew1 3) = true) (hn1 : q1.all (noNew1 3) = true) (hn2 : q2.all (noNew1 3) = true) (w6 : (q0.all (low1 6) && (q1.all (low1 6) && (q2.all (low1 6) && true))) = true) (w8 : (q0.all (low1 8) && (q1.all (low1 8) && (q2.all (low1 8) && true))) = true) (w10 : (q0.all (low1 10) && (q1.all (low1 10) && (q2.all (low1 10) && true))) = true)
    (g0 : MC Try.prog 13 [numX e0 0 n0 c0 k0] [qB q0, qB q1, qB q2, xB e0 0 n0 c0 k0, xB e1 1 n1 c1 k1, xB e2 2 n2 c2 k2] (.tuple #[uW oa NA sa, rB sa oa NA]) [qB q0, qB q1, qB q2, xB e0 0 n0 c0 k0, xB e1 1 n1 c1 k1, xB e2 2 n2 c2 k2])
    (g1 : MC Try.prog 13 [numX e1 1 n1 c1 k1] [qB q0, qB q1, qB q2, xB e0 0 n0 c0 k0, xB e1 1 n1 c1 k1, xB e2 2 n2 c2 k2, uB oa NA sa, rBB sa oa NA] (.tuple #[uW ob NB sb, rB sb ob NB]) [qB q0, qB q1, qB q2, xB e0 0 n0 c0 k0, xB e1 1 n1 c1 k1, xB e2 2 n2 c2 k2, uB oa NA sa, rBB sa oa NA])
    (g2 : MC Try.prog 13 [numX e2 2 n2 c2 k2] [qB q0, qB q1, qB q2, xB e0 0 n0 c0 k0, xB e1 1 n1 c1 k1, xB e2 2 n2 c2 k2, uB oa NA sa, rBB sa oa NA, uB ob NB sb, rBB sb ob NB] (.tuple #[uW oc NC sc, rB sc oc NC]) [qB q0, qB q1, qB q2, xB e0 0 n0 c0 k0, xB e1 1 n1 c1 k1, xB e2 2 n2 c2 k2, uB oa NA sa, rBB sa oa NA, uB ob NB sb, rBB sb ob NB])
    (hba : QC Try.prog 37 [uW oa NA sa] (i6 ba)) (tba : ¬ ba > 300) (hbb : QC Try.prog 37 [uW ob NB sb] (i6 bb)) (tbb : ¬ bb > 300) (hbc : QC Try.prog 37 [uW oc NC sc] (i6 bc)) (tbc : bc > 300) : MC Try.prog 6 [numX e0 0 n0 c0 k0, numX e1 1 n1 c1 k1, numX e2 2 n2 c2 k2] [qB q0, qB q1, qB q2] (.bool true) [qB q0, qB q1, qB q2] := by
  cases e0 <;> cases e1 <;> cases e2 <;> exact MC.run mixed Try.func6 [.rd (.tuple #[uW oa NA sa, rB sa oa NA]), .rd (.tuple #[uW ob NB sb, rB sb ob NB]), .rd (.tuple #[uW oc NC sc, rB sc oc NC]), .res (i6 ba), .tst false, .res (i6 bb), .tst false, .res (i6 bc), .tst true, .res (.bool true)] (ts4 (tsC w6 <| tsC w8 <| tsC w10 <| tsC (tF tba) <| tsC (tF tbb) <| tsC (tT tbc) <| ts0) hn0 hn1 hn2) (qsC g0 <| qsC g1 <| qsC g2 <| qsC hba <| qsC hbb <| qsC hbc <| qsC awakeN <| qs0) rfl rfl enters_wideRing (by kernel_rfl)
theorem wr_o0 {ba bb bc : Int} (hn0 : q0.all (noNew1 3) = true) (hn1 : q1.all (noNew1 3) = true) (hn2 : q2.all (noNew1 3) = true) (w6 : (q0.all (low1 6) && (q1.all (low1 6) && (q2.all (low1 6) && true))) = true) (w8 : (q0.all (low1 8) && (q1.all (low1 8) && (q2.all (low1 8) && true))) = true) (w10 : (q0.all (low1 10) && (q1.all (low1 10) && (q2.all (low1 10) && true))) = true)
    (g0 : MC Try.prog 13 [numX e0 0 n0 c0 k0] [qB q0, qB q1, qB q2, xB e0 0 n0 c0 k0, xB e1 1 n1 c1 k1, xB e2 2 n2 c2 k2] (.tuple #[uW oa NA sa, rB sa oa NA]) [qB q0, qB q1, qB q2, xB e0 0 n0 c0 k0, xB e1 1 n1 c1 k1, xB e2 2 n2 c2 k2])
    (g1 : MC Try.prog 13 [numX e1 1 n1 c1 k1] [qB q0, qB q1, qB q2, xB e0 0 n0 c0 k0, xB e1 1 n1 c1 k1, xB e2 2 n2 c2 k2, uB oa NA sa, rBB sa oa NA] (.tuple #[uW ob NB sb, rB sb ob NB]) [qB q0, qB q1, qB q2, xB e0 0 n0 c0 k0, xB e1 1 n1 c1 k1, xB e2 2 n2 c2 k2, uB oa NA sa, rBB sa oa NA])
    (g2 : MC Try.prog 13 [numX e2 2 n2 c2 k2] [qB q0, qB q1, qB q2, xB e0 0 n0 c0 k0, xB e1 1 n1 c1 k1, xB e2 2 n2 c2 k2, uB oa NA sa, rBB sa oa NA, uB ob NB sb, rBB sb ob NB] (.tuple #[uW oc NC sc, rB sc oc NC]) [qB q0, qB q1, qB q2, xB e0 0 n0 c0 k0, xB e1 1 n1 c1 k1, xB e2 2 n2 c2 k2, uB oa NA sa, rBB sa oa NA, uB ob NB sb, rBB sb ob NB])
    (hba : QC Try.prog 37 [uW oa NA sa] (i6 ba)) (tba : ¬ ba > 300) (hbb : QC Try.prog 37 [uW ob NB sb] (i6 bb)) (tbb : ¬ bb > 300) (hbc : QC Try.prog 37 [uW oc NC sc] (i6 bc)) (tbc : ¬ bc > 300) (hoa : QC Try.prog 43 [uW oa NA sa] (.bool true)) : MC Try.prog 6 [numX e0 0 n0 c0 k0, numX e1 1 n1 c1 k1, numX e2 2 n2 c2 k2] [qB q0, qB q1, qB q2] (.bool true) [qB q0, qB q1, qB q2] := by
  cases e0 <;> cases e1 <;> cases e2 <;> exact MC.run mixed Try.func6 [.rd (.tuple #[uW oa NA sa, rB sa oa NA]), .rd (.tuple #[uW ob NB sb, rB sb ob NB]), .rd (.tuple #[uW oc NC sc, rB sc oc NC]), .res (i6 ba), .tst false, .res (i6 bb), .tst false, .res (i6 bc), .tst false, .res (.bool true), .res (.bool true)] (ts4 (tsC w6 <| tsC w8 <| tsC w10 <| tsC (tF tba) <| tsC (tF tbb) <| tsC (tF tbc) <| ts0) hn0 hn1 hn2) (qsC g0 <| qsC g1 <| qsC g2 <| qsC hba <| qsC hbb <| qsC hbc <| qsC hoa <| qsC awakeN <| qs0) rfl rfl enters_wideRing (by kernel_rfl)
theorem wr_o1 {ba bb bc : Int} (hn0 : q0.all (noNew1 3) = true) (hn1 : q1.all (noNew1 3) = true) (hn2 : q2.all (noNew1 3) = true) (w6 : (q0.all (low1 6) && (q1.all (low1 6) && (q2.all (low1 6) && true))) = true) (w8 : (q0.all (low1 8) && (q1.all (low1 8) && (q2.all (low1 8) && true))) = true) (w10 : (q0.all (low1 10) && (q1.all (low1 10) && (q2.all (low1 10) && true))) = true)
    (g0 : MC Try.prog 13 [numX e0 0 n0 c0 k0] [qB q0, qB q1, qB q2, xB e0 0 n0 c0 k0, xB e1 1 n1 c1 k1, xB e2 2 n2 c2 k2] (.tuple #[uW oa NA sa, rB sa oa NA]) [qB q0, qB q1, qB q2, xB e0 0 n0 c0 k0, xB e1 1 n1 c1 k1, xB e2 2 n2 c2 k2])
    (g1 : MC Try.prog 13 [numX e1 1 n1 c1 k1] [qB q0, qB q1, qB q2, xB e0 0 n0 c0 k0, xB e1 1 n1 c1 k1, xB e2 2 n2 c2 k2, uB oa NA sa, rBB sa oa NA] (.tuple #[uW ob NB sb, rB sb ob NB]) [qB q0, qB q1, qB q2, xB e0 0 n0 c0 k0, xB e1 1 n1 c1 k1, xB e2 2 n2 c2 k2, uB oa NA sa, rBB sa oa NA])
    (g2 : MC Try.prog 13 [numX e2 2 n2 c2 k2] [qB q0, qB q1, qB q2, xB e0 0 n0 c0 k0, xB e1 1 n1 c1 k1, xB e2 2 n2 c2 k2, uB oa NA sa, rBB sa oa NA, uB ob NB sb, rBB sb ob NB] (.tuple #[uW oc NC sc, rB sc oc NC]) [qB q0, qB q1, qB q2, xB e0 0 n0 c0 k0, xB e1 1 n1 c1 k1, xB e2 2 n2 c2 k2, uB oa NA sa, rBB sa oa NA, uB ob NB sb, rBB sb ob NB])
    (hba : QC Try.prog 37 [uW oa NA sa] (i6 ba)) (tba : ¬ ba > 300) (hbb : QC Try.prog 37 [uW ob NB sb] (i6 bb)) (tbb : ¬ bb > 300) (hbc : QC Try.prog 37 [uW oc NC sc] (i6 bc)) (tbc : ¬ bc > 300) (hoa : QC Try.prog 43 [uW oa NA sa] (.bool false)) (hob : QC Try.prog 43 [uW ob NB sb] (.bool true)) : MC Try.prog 6 [numX e0 0 n0 c0 k0, numX e1 1 n1 c1 k1, numX e2 2 n2 c2 k2] [qB q0, qB q1, qB q2] (.bool true) [qB q0, qB q1, qB q2] := by
  cases e0 <;> cases e1 <;> cases e2 <;> exact MC.run mixed Try.func6 [.rd (.tuple #[uW oa NA sa, rB sa oa NA]), .rd (.tuple #[uW ob NB sb, rB sb ob NB]), .rd (.tuple #[uW oc NC sc, rB sc oc NC]), .res (i6 ba), .tst false, .res (i6 bb), .tst false, .res (i6 bc), .tst false, .res (.bool false), .res (.bool true), .res (.bool true)] (ts4 (tsC w6 <| tsC w8 <| tsC w10 <| tsC (tF tba) <| tsC (tF tbb) <| tsC (tF tbc) <| ts0) hn0 hn1 hn2) (qsC g0 <| qsC g1 <| qsC g2 <| qsC hba <| qsC hbb <| qsC hbc <| qsC hoa <| qsC hob <| qsC awakeN <| qs0) rfl rfl enters_wideRing (by kernel_rfl)
theorem wr_o2 {ba bb bc : Int} (hn0 : q0.all (noNew1 3) = true) (hn1 : q1.all (noNew1 3) = true) (hn2 : q2.all (noNew1 3) = true) (w6 : (q0.all (low1 6) && (q1.all (low1 6) && (q2.all (low1 6) && true))) = true) (w8 : (q0.all (low1 8) && (q1.all (low1 8) && (q2.all (low1 8) && true))) = true) (w10 : (q0.all (low1 10) && (q1.all (low1 10) && (q2.all (low1 10) && true))) = true)
    (g0 : MC Try.prog 13 [numX e0 0 n0 c0 k0] [qB q0, qB q1, qB q2, xB e0 0 n0 c0 k0, xB e1 1 n1 c1 k1, xB e2 2 n2 c2 k2] (.tuple #[uW oa NA sa, rB sa oa NA]) [qB q0, qB q1, qB q2, xB e0 0 n0 c0 k0, xB e1 1 n1 c1 k1, xB e2 2 n2 c2 k2])
    (g1 : MC Try.prog 13 [numX e1 1 n1 c1 k1] [qB q0, qB q1, qB q2, xB e0 0 n0 c0 k0, xB e1 1 n1 c1 k1, xB e2 2 n2 c2 k2, uB oa NA sa, rBB sa oa NA] (.tuple #[uW ob NB sb, rB sb ob NB]) [qB q0, qB q1, qB q2, xB e0 0 n0 c0 k0, xB e1 1 n1 c1 k1, xB e2 2 n2 c2 k2, uB oa NA sa, rBB sa oa NA])
    (g2 : MC Try.prog 13 [numX e2 2 n2 c2 k2] [qB q0, qB q1, qB q2, xB e0 0 n0 c0 k0, xB e1 1 n1 c1 k1, xB e2 2 n2 c2 k2, uB oa NA sa, rBB sa oa NA, uB ob NB sb, rBB sb ob NB] (.tuple #[uW oc NC sc, rB sc oc NC]) [qB q0, qB q1, qB q2, xB e0 0 n0 c0 k0, xB e1 1 n1 c1 k1, xB e2 2 n2 c2 k2, uB oa NA sa, rBB sa oa NA, uB ob NB sb, rBB sb ob NB])
    (hba : QC Try.prog 37 [uW oa NA sa] (i6 ba)) (tba : ¬ ba > 300) (hbb : QC Try.prog 37 [uW ob NB sb] (i6 bb)) (tbb : ¬ bb > 300) (hbc : QC Try.prog 37 [uW oc NC sc] (i6 bc)) (tbc : ¬ bc > 300) (hoa : QC Try.prog 43 [uW oa NA sa] (.bool false)) (hob : QC Try.prog 43 [uW ob NB sb] (.bool false)) (hoc : QC Try.prog 43 [uW oc NC sc] (.bool true)) : MC Try.prog 6 [numX e0 0 n0 c0 k0, numX e1 1 n1 c1 k1, numX e2 2 n2 c2 k2] [qB q0, qB q1, qB q2] (.bool true) [qB q0, qB q1, qB q2] := by
  cases e0 <;> cases e1 <;> cases e2 <;> exact MC.run mixed Try.func6 [.rd (.tuple #[uW oa NA sa, rB sa oa NA]), .rd (.tuple #[uW ob NB sb, rB sb ob NB]), .rd (.tuple #[uW oc NC sc, rB sc oc NC]), .res (i6 ba), .tst false, .res (i6 bb), .tst false, .res (i6 bc), .tst false, .res (.bool false), .res (.bool false), .res (.bool true), .res (.bool true)] (ts4 (tsC w6 <| tsC w8 <| tsC w10 <| tsC (tF tba) <| tsC (tF tbb) <| tsC (tF tbc) <| ts0) hn0 hn1 hn2) (qsC g0 <| qsC g1 <| qsC g2 <| qsC hba <| qsC hbb <| qsC hbc <| qsC hoa <| qsC hob <| qsC hoc <| qsC awakeN <| qs0) rfl rfl enters_wideRing (by kernel_rfl)
theorem wr_all {a b c ba bb bc ab pab bc2 abc pbc pabc d pac f : Int} (hn0 : q0.all (noNew1 3) = true) (hn1 : q1.all (noNew1 3) = true) (hn2 : q2.all (noNew1 3) = true) (w6 : (q0.all (low1 6) && (q1.all (low1 6) && (q2.all (low1 6) && true))) = true) (w8 : (q0.all (low1 8) && (q1.all (low1 8) && (q2.all (low1 8) && true))) = true) (w10 : (q0.all (low1 10) && (q1.all (low1 10) && (q2.all (low1 10) && true))) = true)
    (g0 : MC Try.prog 13 [numX e0 0 n0 c0 k0] [qB q0, qB q1, qB q2, xB e0 0 n0 c0 k0, xB e1 1 n1 c1 k1, xB e2 2 n2 c2 k2] (numOut (some a)) [qB q0, qB q1, qB q2, xB e0 0 n0 c0 k0, xB e1 1 n1 c1 k1, xB e2 2 n2 c2 k2])
    (g1 : MC Try.prog 13 [numX e1 1 n1 c1 k1] [qB q0, qB q1, qB q2, xB e0 0 n0 c0 k0, xB e1 1 n1 c1 k1, xB e2 2 n2 c2 k2, wBA (some a), rBA (some a)] (numOut (some b)) [qB q0, qB q1, qB q2, xB e0 0 n0 c0 k0, xB e1 1 n1 c1 k1, xB e2 2 n2 c2 k2, wBA (some a), rBA (some a)])
    (g2 : MC Try.prog 13 [numX e2 2 n2 c2 k2] [qB q0, qB q1, qB q2, xB e0 0 n0 c0 k0, xB e1 1 n1 c1 k1, xB e2 2 n2 c2 k2, wBA (some a), rBA (some a), wBA (some b), rBA (some b)] (numOut (some c)) [qB q0, qB q1, qB q2, xB e0 0 n0 c0 k0, xB e1 1 n1 c1 k1, xB e2 2 n2 c2 k2, wBA (some a), rBA (some a), wBA (some b), rBA (some b)])
    (hba : QC Try.prog 37 [wz a] (i6 ba)) (hbb : QC Try.prog 37 [wz b] (i6 bb)) (hbc : QC Try.prog 37 [wz c] (i6 bc)) (tba : ¬ ba > 300) (tbb : ¬ bb > 300) (tbc : ¬ bc > 300) (hoa : QC Try.prog 43 [wz a] (.bool false)) (hob : QC Try.prog 43 [wz b] (.bool false)) (hoc : QC Try.prog 43 [wz c] (.bool false)) (p0 : QC Try.prog 25 [wz a, wz b] (wz ab)) (p1 : QC Try.prog 25 [wz b, wz a] (wz ab)) (p2 : QC Try.prog 44 [wz ab, wz ab] (.bool true)) (p3 : QC Try.prog 29 [wz a, wz b] (wz pab)) (p4 : QC Try.prog 29 [wz b, wz a] (wz pab)) (p5 : QC Try.prog 44 [wz pab, wz pab] (.bool true)) (p6 : QC Try.prog 25 [wz b, wz c] (wz bc2)) (p7 : QC Try.prog 25 [wz a, wz bc2] (wz abc)) (p8 : QC Try.prog 25 [wz ab, wz c] (wz abc)) (p9 : QC Try.prog 44 [wz abc, wz abc] (.bool true)) (p10 : QC Try.prog 29 [wz b, wz c] (wz pbc)) (p11 : QC Try.prog 29 [wz a, wz pbc] (wz pabc)) (p12 : QC Try.prog 29 [wz pab, wz c] (wz pabc)) (p13 : QC Try.prog 44 [wz pabc, wz pabc] (.bool true)) (p14 : QC Try.prog 29 [wz a, wz bc2] (wz d)) (p15 : QC Try.prog 29 [wz a, wz c] (wz pac)) (p16 : QC Try.prog 25 [wz pab, wz pac] (wz d)) (p17 : QC Try.prog 44 [wz d, wz d] (.bool true)) (p18 : QC Try.prog 27 [wz ab, wz b] (wz a)) (p19 : QC Try.prog 44 [wz a, wz a] (.bool true)) (p20 : QC Try.prog 33 [wz a, i6 77] (wz f)) (p21 : QC Try.prog 33 [wz f, i6 (-77)] (wz a)) : MC Try.prog 6 [numX e0 0 n0 c0 k0, numX e1 1 n1 c1 k1, numX e2 2 n2 c2 k2] [qB q0, qB q1, qB q2] (.bool true) [qB q0, qB q1, qB q2] := by
  cases e0 <;> cases e1 <;> cases e2 <;> exact MC.run mixed Try.func6 [.rd (numOut (some a)), .rd (numOut (some b)), .rd (numOut (some c)), .res (i6 ba), .tst false, .res (i6 bb), .tst false, .res (i6 bc), .tst false, .res (.bool false), .res (.bool false), .res (.bool false), .res (wz ab), .res (wz ab), .res (.bool true), .res (wz pab), .res (wz pab), .res (.bool true), .res (wz bc2), .res (wz abc), .res (wz ab), .res (wz abc), .res (.bool true), .res (wz pbc), .res (wz pabc), .res (wz pab), .res (wz pabc), .res (.bool true), .res (wz bc2), .res (wz d), .res (wz pab), .res (wz pac), .res (wz d), .res (.bool true), .res (wz ab), .res (wz a), .res (.bool true), .res (wz f), .res (wz a), .res (.bool true), .res (.bool true)] (ts4 (tsC w6 <| tsC w8 <| tsC w10 <| tsC (tF tba) <| tsC (tF tbb) <| tsC (tF tbc) ts0) hn0 hn1 hn2) (qsC g0 <| qsC g1 <| qsC g2 <| qsC hba <| qsC hbb <| qsC hbc <| qsC hoa <| qsC hob <| qsC hoc <| qsC p0 <| qsC p1 <| qsC p2 <| qsC p3 <| qsC p4 <| qsC p5 <| qsC p6 <| qsC p7 <| qsC p0 <| qsC p8 <| qsC p9 <| qsC p10 <| qsC p11 <| qsC p3 <| qsC p12 <| qsC p13 <| qsC p6 <| qsC p14 <| qsC p3 <| qsC p15 <| qsC p16 <| qsC p17 <| qsC p0 <| qsC p18 <| qsC p19 <| qsC p20 <| qsC p21 <| qsC p19 <| qsC awakeN <| qs0) rfl rfl enters_wideRing (by kernel_rfl)
theorem small_sum {a b : Int} {j k : Nat} (h1 : bitLen a.natAbs ≤ j) (h2 : bitLen b.natAbs ≤ k) (hj : j ≤ 1000) (hk : k ≤ 1000) : wadd (some a) (some b) = some (a + b) ∧ bitLen (a + b).natAbs ≤ max j k + 1 ∧ WF (some (a + b)) := by
  have l1 := bitLen_lt_iff.1 (Nat.le_trans h1 (Nat.le_max_left j k))
  have l2 := bitLen_lt_iff.1 (Nat.le_trans h2 (Nat.le_max_right j k))
  have hm : max j k ≤ 1000 := by omega
  generalize max j k = m at *
  have hb : bitLen (a + b).natAbs ≤ m + 1 := bitLen_lt_iff.2 (by rw [Nat.pow_succ]; omega)
  have hw : WF (some (a + b)) := fun z e => by cases e; exact bitLen_Hi.1 (by omega)
  exact ⟨clamp_eq (hw _ rfl), hb, hw⟩
theorem small_prod {a b : Int} {j k : Nat} (h1 : bitLen a.natAbs ≤ j) (h2 : bitLen b.natAbs ≤ k) (hj : j + k ≤ 1023) : wmul (some a) (some b) = some (a * b) ∧ bitLen (a * b).natAbs ≤ j + k ∧ WF (some (a * b)) := by
  have l1 := bitLen_lt_iff.1 h1
  have l2 := bitLen_lt_iff.1 h2
  have hb : bitLen (a * b).natAbs ≤ j + k := bitLen_lt_iff.2 (by rw [Int.natAbs_mul, Nat.pow_add]; exact Nat.mul_lt_mul'' l1 l2)
  have hw : WF (some (a * b)) := fun z e => by cases e; exact bitLen_Hi.1 (by omega)
  exact ⟨clamp_eq (hw _ rfl), hb, hw⟩
theorem wideRing_mc {l0 l1 l2 : List Int} (hl0 : ∀ x ∈ l0, I64 x) (hk0 : I64 k0) (hl1 : ∀ x ∈ l1, I64 x) (hk1 : I64 k1) (hl2 : ∀ x ∈ l2, I64 x) (hk2 : I64 k2) :
    MC Try.prog 6 [numV 0 l0 c0 k0, numV 1 l1 c1 k1, numV 2 l2 c2 k2] [iB l0, iB l1, iB l2] (.bool true) [iB l0, iB l1, iB l2] := by
  show MC _ _ [numX l0.isEmpty 0 l0.length c0 k0, numX l1.isEmpty 1 l1.length c1 k1, numX l2.isEmpty 2 l2.length c2 k2] [qB (l0.map (Value.int .i64)), qB (l1.map (Value.int .i64)), qB (l2.map (Value.int .i64))] _ [qB (l0.map (Value.int .i64)), qB (l1.map (Value.int .i64)), qB (l2.map (Value.int .i64))]
  have x6 := lw3 (ints_low 6 l0) (ints_low 6 l1) (ints_low 6 l2)
  have x8 := lw3 (ints_low 8 l0) (ints_low 8 l1) (ints_low 8 l2)
  have x10 := lw3 (ints_low 10 l0) (ints_low 10 l1) (ints_low 10 l2)
  have wA := numA_wf l0 k0
  have wB := numA_wf l1 k1
  have wC := numA_wf l2 k2
  have qb : ∀ {A : Option Int}, WF A → QC Try.prog 37 [uW A.isNone (absN A) (sgA A)] (i6 ((bitLen (absN A) : Nat) : Int)) := fun {A} h => by rw [← uW_eq]; exact QC.of_pc enters_bits (bits_pc h)
  have qo : ∀ {A : Option Int} {b : Bool}, A.isNone = b → QC Try.prog 43 [uW A.isNone (absN A) (sgA A)] (.bool b) := fun {A b} h => by rw [← uW_eq, ← h]; exact QC.of_pc enters_over (over_pc A)
  have qu : ∀ {l : List Int} {j cap : Nat} {k : Int} {mem : Mem}, (∀ x ∈ l, I64 x) → I64 k → mem[j]? = some (qB (l.map (Value.int .i64))) → MC Try.prog 13 [numX l.isEmpty j l.length cap k] mem (.tuple #[uW (numA l k).isNone (absN (numA l k)) (sgA (numA l k)), rB (sgA (numA l k)) (numA l k).isNone (absN (numA l k))]) mem := fun {l j cap k mem} hl hk hC => by
    have := nOf_in (cap := cap) hl hk rfl hC
    unfold numOut at this
    rw [uW_eq, rU_eq] at this
    exact this
  by_cases t0 : ((bitLen (absN (numA l0 k0)) : Nat) : Int) > 300
  · exact wr_b0 (ints_no 3 l0) (ints_no 3 l1) (ints_no 3 l2) x6 x8 x10 (qu hl0 hk0 rfl) (qu hl1 hk1 rfl) (qu hl2 hk2 rfl) (qb wA) t0
  by_cases t1 : ((bitLen (absN (numA l1 k1)) : Nat) : Int) > 300
  · exact wr_b1 (ints_no 3 l0) (ints_no 3 l1) (ints_no 3 l2) x6 x8 x10 (qu hl0 hk0 rfl) (qu hl1 hk1 rfl) (qu hl2 hk2 rfl) (qb wA) t0 (qb wB) t1
  by_cases t2 : ((bitLen (absN (numA l2 k2)) : Nat) : Int) > 300
  · exact wr_b2 (ints_no 3 l0) (ints_no 3 l1) (ints_no 3 l2) x6 x8 x10 (qu hl0 hk0 rfl) (qu hl1 hk1 rfl) (qu hl2 hk2 rfl) (qb wA) t0 (qb wB) t1 (qb wC) t2
  cases hA : numA l0 k0 with
  | none => exact wr_o0 (ints_no 3 l0) (ints_no 3 l1) (ints_no 3 l2) x6 x8 x10 (qu hl0 hk0 rfl) (qu hl1 hk1 rfl) (qu hl2 hk2 rfl) (qb wA) t0 (qb wB) t1 (qb wC) t2 (qo (by rw [hA]; rfl))
  | some a =>
    cases hB : numA l1 k1 with
    | none => exact wr_o1 (ints_no 3 l0) (ints_no 3 l1) (ints_no 3 l2) x6 x8 x10 (qu hl0 hk0 rfl) (qu hl1 hk1 rfl) (qu hl2 hk2 rfl) (qb wA) t0 (qb wB) t1 (qb wC) t2 (qo (by rw [hA]; rfl)) (qo (by rw [hB]; rfl))
    | some b =>
      cases hC : numA l2 k2 with
      | none => exact wr_o2 (ints_no 3 l0) (ints_no 3 l1) (ints_no 3 l2) x6 x8 x10 (qu hl0 hk0 rfl) (qu hl1 hk1 rfl) (qu hl2 hk2 rfl) (qb wA) t0 (qb wB) t1 (qb wC) t2 (qo (by rw [hA]; rfl)) (qo (by rw [hB]; rfl)) (qo (by rw [hC]; rfl))
      | some c =>
        rw [hA] at wA t0
        rw [hB] at wB t1
        rw [hC] at wC t2
        have ba : bitLen a.natAbs ≤ 300 := by have h : ¬ ((bitLen a.natAbs : Nat) : Int) > 300 := t0; omega
        have bb : bitLen b.natAbs ≤ 300 := by have h : ¬ ((bitLen b.natAbs : Nat) : Int) > 300 := t1; omega
        have bc : bitLen c.natAbs ≤ 300 := by have h : ¬ ((bitLen c.natAbs : Nat) : Int) > 300 := t2; omega
        have add : ∀ {x y z : Int}, WF (some x) → WF (some y) → wadd (some x) (some y) = some z → QC Try.prog 25 [wz x, wz y] (wz z) := fun hx hy h => by
          have := QC.of_pc enters_add (add_pc hx hy)
          rw [h] at this
          exact this
        have mul : ∀ {x y z : Int}, WF (some x) → WF (some y) → wmul (some x) (some y) = some z → QC Try.prog 29 [wz x, wz y] (wz z) := fun hx hy h => by
          have := QC.of_pc enters_mul (mul_pc hx hy)
          rw [h] at this
          exact this
        obtain ⟨s1, sb1, sw1⟩ := small_sum ba bb (by omega) (by omega)
        obtain ⟨s2, sb2, sw2⟩ := small_sum bb bc (by omega) (by omega)
        obtain ⟨s3, sb3, sw3⟩ := small_sum ba sb2 (by omega) (by omega)
        obtain ⟨s4, sb4, sw4⟩ := small_sum sb1 bc (by omega) (by omega)
        obtain ⟨p1, pb1, pw1⟩ := small_prod ba bb (by omega)
        obtain ⟨p2, pb2, pw2⟩ := small_prod bb bc (by omega)
        obtain ⟨p3, pb3, pw3⟩ := small_prod ba pb2 (by omega)
        obtain ⟨p4, pb4, pw4⟩ := small_prod pb1 bc (by omega)
        obtain ⟨p5, pb5, pw5⟩ := small_prod ba sb2 (by omega)
        obtain ⟨p6, pb6, pw6⟩ := small_prod ba bc (by omega)
        obtain ⟨s5, sb5, sw5⟩ := small_sum pb1 pb6 (by omega) (by omega)
        obtain ⟨s1', _, _⟩ := small_sum bb ba (by omega) (by omega)
        obtain ⟨p1', _, _⟩ := small_prod bb ba (by omega)
        rw [Int.add_comm b a] at s1'
        rw [Int.mul_comm b a] at p1'
        rw [Int.add_assoc] at s4
        rw [Int.mul_assoc] at p4
        rw [Int.mul_add] at p5
        have hsub := QC.of_pc enters_sub (sub_pc sw1 wB)
        rw [show wsub (some (a + b)) (some b) = some a from by
          show clamp (a + b + -b) = some a
          rw [Int.add_neg_cancel_right]
          exact clamp_eq (wA a rfl)] at hsub
        obtain ⟨e1, wf, _⟩ := wshift_up (a := a) (r := 77) (by omega) (by omega)
        have hf := QC.of_pc enters_shift (shift_pc (k := 77) wA (by omega) (by omega))
        rw [show wshift (some a) 77 = some (a * 2 ^ 77) from e1] at hf
        have hg := QC.of_pc enters_shift (shift_pc (k := -77) wf (by omega) (by omega))
        rw [show wshift (some (a * 2 ^ 77)) (-77) = some a from wshift_down (r := 77) wA] at hg
        exact wr_all (ints_no 3 l0) (ints_no 3 l1) (ints_no 3 l2) x6 x8 x10 (nOf_in hl0 hk0 hA rfl) (nOf_in hl1 hk1 hB rfl) (nOf_in hl2 hk2 hC rfl) (QC.of_pc enters_bits (bits_pc wA)) (QC.of_pc enters_bits (bits_pc wB)) (QC.of_pc enters_bits (bits_pc wC)) t0 t1 t2 (QC.of_pc enters_over (over_pc (some a))) (QC.of_pc enters_over (over_pc (some b))) (QC.of_pc enters_over (over_pc (some c)))
          (add wA wB s1) (add wB wA s1') (ringEq sw1) (mul wA wB p1) (mul wB wA p1') (ringEq pw1) (add wB wC s2) (add wA sw2 s3) (add sw1 wC s4) (ringEq sw3) (mul wB wC p2) (mul wA pw2 p3) (mul pw1 wC p4) (ringEq pw3) (mul wA sw2 p5) (mul wA wC p6) (add pw1 pw6 s5) (ringEq sw5) hsub (ringEq wA) hf hg
end
end Go.Proofs.Ytfgnjkjnhakihaa.R
