/-
  WideSigns: signs of products, of what is turned.
-/
import Derived.Test.YtfgnjkjnhakihaaNum3
namespace Go.Proofs.Ytfgnjkjnhakihaa.R
open Go Go.Ev Go.W32
open Go.Proofs.Ytfgnjkjnhakihaa.W (mixed clamp WF Hi clamp_eq wadd wmul wsub wneg wshift signI I64 wv wR wz flat_wR textB txt0_eq awakeN over_pc enters_over sign_pc enters_sign mul_pc enters_mul add_pc enters_add text_pc enters_text bits_pc enters_bits neg_pc wmul_wf wneg_wf absN)

theorem enters_wideSigns : ∀ us w, (callFunc 9 us).run Try.prog w = .ok (.enter 9 us) w := enters Try.func9 rfl (by kernel_rfl)
section
variable {e0 e1 : Bool} {n0 n1 c0 c1 : Nat} {k0 k1 : Int} {q0 q1 : List Value}
theorem ws_none1 (hn0 : q0.all (noNew1 2) = true) (hn1 : q1.all (noNew1 2) = true) (w4 : (q0.all (low1 4) && (q1.all (low1 4) && true)) = true) (w6 : (q0.all (low1 6) && (q1.all (low1 6) && true)) = true)
    (g0 : MC Try.prog 13 [numX e0 0 n0 c0 k0] [qB q0, qB q1, xB e0 0 n0 c0 k0, xB e1 1 n1 c1 k1] (numOut none) [qB q0, qB q1, xB e0 0 n0 c0 k0, xB e1 1 n1 c1 k1])
    {B : Option Int} (g1 : MC Try.prog 13 [numX e1 1 n1 c1 k1] [qB q0, qB q1, xB e0 0 n0 c0 k0, xB e1 1 n1 c1 k1, wBA none, rBA none] (numOut B) [qB q0, qB q1, xB e0 0 n0 c0 k0, xB e1 1 n1 c1 k1, wBA none, rBA none])
    (h1 : QC Try.prog 43 [wv none] (.bool true)) : MC Try.prog 9 [numX e0 0 n0 c0 k0, numX e1 1 n1 c1 k1] [qB q0, qB q1] (.bool true) [qB q0, qB q1] := by
  cases B with
  | none => cases e0 <;> cases e1 <;> exact MC.run mixed Try.func9 [.rd (numOut none), .rd (numOut none), .res (.bool true), .res (.bool true)] (ts3 (tsC w4 <| tsC w6 ts0) hn0 hn1) (qs4 g0 g1 h1 awakeN) rfl rfl enters_wideSigns (by kernel_rfl)
  | some b => cases e0 <;> cases e1 <;> exact MC.run mixed Try.func9 [.rd (numOut none), .rd (numOut (some b)), .res (.bool true), .res (.bool true)] (ts3 (tsC w4 <| tsC w6 ts0) hn0 hn1) (qs4 g0 g1 h1 awakeN) rfl rfl enters_wideSigns (by kernel_rfl)
theorem ws_none2 {a : Int} (hn0 : q0.all (noNew1 2) = true) (hn1 : q1.all (noNew1 2) = true) (w4 : (q0.all (low1 4) && (q1.all (low1 4) && true)) = true) (w6 : (q0.all (low1 6) && (q1.all (low1 6) && true)) = true)
    (g0 : MC Try.prog 13 [numX e0 0 n0 c0 k0] [qB q0, qB q1, xB e0 0 n0 c0 k0, xB e1 1 n1 c1 k1] (numOut (some a)) [qB q0, qB q1, xB e0 0 n0 c0 k0, xB e1 1 n1 c1 k1])
    (g1 : MC Try.prog 13 [numX e1 1 n1 c1 k1] [qB q0, qB q1, xB e0 0 n0 c0 k0, xB e1 1 n1 c1 k1, wBA (some a), rBA (some a)] (numOut none) [qB q0, qB q1, xB e0 0 n0 c0 k0, xB e1 1 n1 c1 k1, wBA (some a), rBA (some a)])
    (h1 : QC Try.prog 43 [wz a] (.bool false)) (h2 : QC Try.prog 43 [wv none] (.bool true)) : MC Try.prog 9 [numX e0 0 n0 c0 k0, numX e1 1 n1 c1 k1] [qB q0, qB q1] (.bool true) [qB q0, qB q1] := by
  cases e0 <;> cases e1 <;> exact MC.run mixed Try.func9 [.rd (numOut (some a)), .rd (numOut none), .res (.bool false), .res (.bool true), .res (.bool true)] (ts3 (tsC w4 <| tsC w6 ts0) hn0 hn1) (qs5 g0 g1 h1 h2 awakeN) rfl rfl enters_wideSigns (by kernel_rfl)
theorem ws_over {a b : Int} {sa sn : Int} {bt : Nat} (hn0 : q0.all (noNew1 2) = true) (hn1 : q1.all (noNew1 2) = true) (w4 : (q0.all (low1 4) && (q1.all (low1 4) && true)) = true) (w6 : (q0.all (low1 6) && (q1.all (low1 6) && true)) = true)
    (g0 : MC Try.prog 13 [numX e0 0 n0 c0 k0] [qB q0, qB q1, xB e0 0 n0 c0 k0, xB e1 1 n1 c1 k1] (numOut (some a)) [qB q0, qB q1, xB e0 0 n0 c0 k0, xB e1 1 n1 c1 k1])
    (g1 : MC Try.prog 13 [numX e1 1 n1 c1 k1] [qB q0, qB q1, xB e0 0 n0 c0 k0, xB e1 1 n1 c1 k1, wBA (some a), rBA (some a)] (numOut (some b)) [qB q0, qB q1, xB e0 0 n0 c0 k0, xB e1 1 n1 c1 k1, wBA (some a), rBA (some a)])
    (h1 : QC Try.prog 43 [wz a] (.bool false)) (h2 : QC Try.prog 43 [wz b] (.bool false)) (h3 : QC Try.prog 29 [wz a, wz b] (wv none)) (h4 : QC Try.prog 43 [wv none] (.bool true))
    (h5 : QC Try.prog 31 [wz a] (wz (-a))) (h6 : QC Try.prog 35 [wz (-a)] (i6 sn)) (h7 : QC Try.prog 35 [wz a] (i6 sa)) (t1 : sn = IntKind.i64.wrap (0 - sa)) (h8 : QC Try.prog 25 [wz a, wz (-a)] (wz 0)) (h9 : QC Try.prog 17 [wz 0] (.string ⟨#[48]⟩))
    (h10 : QC Try.prog 37 [wz a] (.int .i64 bt)) (h11 : QC Try.prog 37 [wz (-a)] (.int .i64 bt)) : MC Try.prog 9 [numX e0 0 n0 c0 k0, numX e1 1 n1 c1 k1] [qB q0, qB q1] (.bool true) [qB q0, qB q1] := by
  have ht : conj [(q0.all (low1 4) && (q1.all (low1 4) && true)), (q0.all (low1 6) && (q1.all (low1 6) && true)), decide (sn = IntKind.i64.wrap (0 - sa)), decide ((bt : Int) = (bt : Int))] = true := tsC w4 <| tsC w6 <| tsC (tT t1) <| tsC (tT rfl) ts0
  cases e0 <;> cases e1 <;> exact MC.run mixed Try.func9 [.rd (numOut (some a)), .rd (numOut (some b)), .res (.bool false), .res (.bool false), .res (wv none), .res (.bool true), .res (wz (-a)), .res (i6 sn), .res (i6 sa), .tst true, .res (wz (-a)), .res (wz 0), .res (.string ⟨#[48]⟩), .res (.int .i64 bt), .res (wz (-a)), .res (.int .i64 bt), .tst true, .res (.bool true)] (ts3 ht hn0 hn1)
    (qsC g0 <| qsC g1 <| qsC h1 <| qsC h2 <| qsC h3 <| qsC h4 <| qsC h5 <| qsC h6 <| qsC h7 <| qsC h5 <| qsC h8 <| qsC h9 <| qsC h10 <| qsC h5 <| qsC h11 <| qsC awakeN qs0) rfl rfl enters_wideSigns (by kernel_rfl)
theorem ws_all {a b z : Int} {sa sb sn sz : Int} {bt : Nat} (hn0 : q0.all (noNew1 2) = true) (hn1 : q1.all (noNew1 2) = true) (w4 : (q0.all (low1 4) && (q1.all (low1 4) && true)) = true) (w6 : (q0.all (low1 6) && (q1.all (low1 6) && true)) = true)
    (g0 : MC Try.prog 13 [numX e0 0 n0 c0 k0] [qB q0, qB q1, xB e0 0 n0 c0 k0, xB e1 1 n1 c1 k1] (numOut (some a)) [qB q0, qB q1, xB e0 0 n0 c0 k0, xB e1 1 n1 c1 k1])
    (g1 : MC Try.prog 13 [numX e1 1 n1 c1 k1] [qB q0, qB q1, xB e0 0 n0 c0 k0, xB e1 1 n1 c1 k1, wBA (some a), rBA (some a)] (numOut (some b)) [qB q0, qB q1, xB e0 0 n0 c0 k0, xB e1 1 n1 c1 k1, wBA (some a), rBA (some a)])
    (h1 : QC Try.prog 43 [wz a] (.bool false)) (h2 : QC Try.prog 43 [wz b] (.bool false)) (h3 : QC Try.prog 29 [wz a, wz b] (wz z)) (h4 : QC Try.prog 43 [wz z] (.bool false))
    (f1 : QC Try.prog 35 [wz z] (i6 sz)) (f2 : QC Try.prog 35 [wz b] (i6 sb)) (t0 : sz = IntKind.i64.wrap (sa * sb))
    (h5 : QC Try.prog 31 [wz a] (wz (-a))) (h6 : QC Try.prog 35 [wz (-a)] (i6 sn)) (h7 : QC Try.prog 35 [wz a] (i6 sa)) (t1 : sn = IntKind.i64.wrap (0 - sa)) (h8 : QC Try.prog 25 [wz a, wz (-a)] (wz 0)) (h9 : QC Try.prog 17 [wz 0] (.string ⟨#[48]⟩))
    (h10 : QC Try.prog 37 [wz a] (.int .i64 bt)) (h11 : QC Try.prog 37 [wz (-a)] (.int .i64 bt)) : MC Try.prog 9 [numX e0 0 n0 c0 k0, numX e1 1 n1 c1 k1] [qB q0, qB q1] (.bool true) [qB q0, qB q1] := by
  have ht : conj [(q0.all (low1 4) && (q1.all (low1 4) && true)), (q0.all (low1 6) && (q1.all (low1 6) && true)), decide (sz = IntKind.i64.wrap (sa * sb)), decide (sn = IntKind.i64.wrap (0 - sa)), decide ((bt : Int) = (bt : Int))] = true := tsC w4 <| tsC w6 <| tsC (tT t0) <| tsC (tT t1) <| tsC (tT rfl) ts0
  cases e0 <;> cases e1 <;> exact MC.run mixed Try.func9 [.rd (numOut (some a)), .rd (numOut (some b)), .res (.bool false), .res (.bool false), .res (wz z), .res (.bool false), .res (i6 sz), .res (i6 sa), .res (i6 sb), .tst true, .res (wz (-a)), .res (i6 sn), .res (i6 sa), .tst true, .res (wz (-a)), .res (wz 0), .res (.string ⟨#[48]⟩), .res (.int .i64 bt), .res (wz (-a)), .res (.int .i64 bt), .tst true, .res (.bool true)] (ts3 ht hn0 hn1)
    (qsC g0 <| qsC g1 <| qsC h1 <| qsC h2 <| qsC h3 <| qsC h4 <| qsC f1 <| qsC h7 <| qsC f2 <| qsC h5 <| qsC h6 <| qsC h7 <| qsC h5 <| qsC h8 <| qsC h9 <| qsC h10 <| qsC h5 <| qsC h11 <| qsC awakeN qs0) rfl rfl enters_wideSigns (by kernel_rfl)
theorem wideSigns_mc {l0 l1 : List Int} (hl0 : ∀ x ∈ l0, I64 x) (hk0 : I64 k0) (hl1 : ∀ x ∈ l1, I64 x) (hk1 : I64 k1) : MC Try.prog 9 [numV 0 l0 c0 k0, numV 1 l1 c1 k1] [iB l0, iB l1] (.bool true) [iB l0, iB l1] := by
  show MC _ _ [numX l0.isEmpty 0 l0.length c0 k0, numX l1.isEmpty 1 l1.length c1 k1] [qB (l0.map (Value.int .i64)), qB (l1.map (Value.int .i64))] _ [qB (l0.map (Value.int .i64)), qB (l1.map (Value.int .i64))]
  have x4 := lw2 (ints_low 4 l0) (ints_low 4 l1)
  have x6 := lw2 (ints_low 6 l0) (ints_low 6 l1)
  have w0 := numA_wf l0 k0
  have w1 := numA_wf l1 k1
  have ov : ∀ A, QC Try.prog 43 [wv A] (.bool A.isNone) := fun A => QC.of_pc enters_over (over_pc A)
  cases hA : numA l0 k0 with
  | none => exact ws_none1 (ints_no 2 l0) (ints_no 2 l1) x4 x6 (nOf_in hl0 hk0 hA rfl) (nOf_in hl1 hk1 rfl rfl) (ov none)
  | some a =>
    rw [hA] at w0
    cases hB : numA l1 k1 with
    | none => exact ws_none2 (ints_no 2 l0) (ints_no 2 l1) x4 x6 (nOf_in hl0 hk0 hA rfl) (nOf_in hl1 hk1 hB rfl) (ov (some a)) (ov none)
    | some b =>
      rw [hB] at w1
      have wn : WF (some (-a)) := wneg_wf w0
      have h5 := QC.of_pc Go.Proofs.Ytfgnjkjnhakihaa.W.enters_neg (neg_pc w0)
      have h8 := QC.of_pc enters_add (add_pc w0 wn)
      rw [show wadd (some a) (some (-a)) = some 0 from by
        show clamp (a + -a) = some 0
        rw [Int.add_right_neg]
        exact clamp_eq Go.Proofs.Ytfgnjkjnhakihaa.W.Hi_pos] at h8
      have h9 := QC.of_pc enters_text (text_pc zero_wf)
      rw [txt0_eq] at h9
      have h10 := QC.of_pc enters_bits (bits_pc w0)
      have h11 := QC.of_pc enters_bits (bits_pc wn)
      have e11 : absN (some (-a)) = absN (some a) := Int.natAbs_neg a
      rw [e11] at h11
      have h3 := QC.of_pc enters_mul (mul_pc w0 w1)
      have wm := wmul_wf (some a) (some b)
      cases hM : wmul (some a) (some b) with
      | none =>
        rw [hM] at h3
        exact ws_over (ints_no 2 l0) (ints_no 2 l1) x4 x6 (nOf_in hl0 hk0 hA rfl) (nOf_in hl1 hk1 hB rfl) (ov (some a)) (ov (some b)) h3 (ov none) h5 (QC.of_pc enters_sign (sign_pc wn)) (QC.of_pc enters_sign (sign_pc w0)) (sign_neg a) h8 h9 h10 h11
      | some z =>
        rw [hM] at h3 wm
        have hz : z = a * b := by
          have hM' : clamp (a * b) = some z := hM
          unfold clamp at hM'
          split at hM'
          · exact (Option.some.inj hM').symm
          · cases hM'
        subst hz
        exact ws_all (ints_no 2 l0) (ints_no 2 l1) x4 x6 (nOf_in hl0 hk0 hA rfl) (nOf_in hl1 hk1 hB rfl) (ov (some a)) (ov (some b)) h3 (ov _) (QC.of_pc enters_sign (sign_pc wm)) (QC.of_pc enters_sign (sign_pc w1)) (sign_mul a b) h5 (QC.of_pc enters_sign (sign_pc wn)) (QC.of_pc enters_sign (sign_pc w0)) (sign_neg a) h8 h9 h10 h11
end
end Go.Proofs.Ytfgnjkjnhakihaa.R
