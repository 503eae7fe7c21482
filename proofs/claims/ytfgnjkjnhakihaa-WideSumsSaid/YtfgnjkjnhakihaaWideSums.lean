/-
  WideSums: sums, differences, products, shifts, comparisons of the program are the document's.
-/
import Derived.Test.YtfgnjkjnhakihaaNum4
import Derived.Test.YtfgnjkjnhakihaaTokG
namespace Go.Proofs.Ytfgnjkjnhakihaa.R
open Go Go.Ev Go.W32
open Go.Proofs.Ytfgnjkjnhakihaa.W (mixed WF Hi wadd wmul wsub wneg wshift wcmp wint signI I64 wv awakeN sign_pc enters_sign add_pc enters_add mul_pc enters_mul sub_pc enters_sub shift_pc enters_shift cmp_pc enters_cmp int64_pc enters_int64 bits_pc enters_bits neg_pc absN wadd_wf wmul_wf wneg_wf wshift_wf fits64)

theorem enters_wideSums : ∀ us w, (callFunc 4 us).run Try.prog w = .ok (.enter 4 us) w := enters Try.func4 rfl (by kernel_rfl)
section
variable {e0 e1 : Bool} {n0 n1 c0 c1 : Nat} {k0 k1 kk : Int} {q0 q1 : List Value} {oa ob od of' om on os sa sb sd sf sm sn ss : Bool} {NA NB ND NF NM NN NS : Nat}
theorem ws_run {c i sg bt : Int} {ok fits : Bool} (hn0 : q0.all (noNew1 2) = true) (hn1 : q1.all (noNew1 2) = true) (w4 : (q0.all (low1 4) && (q1.all (low1 4) && true)) = true) (w6 : (q0.all (low1 6) && (q1.all (low1 6) && true)) = true)
    (g0 : MC Try.prog 13 [numX e0 0 n0 c0 k0] [qB q0, qB q1, xB e0 0 n0 c0 k0, xB e1 1 n1 c1 k1] (.tuple #[uW oa NA sa, rB sa oa NA]) [qB q0, qB q1, xB e0 0 n0 c0 k0, xB e1 1 n1 c1 k1])
    (g1 : MC Try.prog 13 [numX e1 1 n1 c1 k1] [qB q0, qB q1, xB e0 0 n0 c0 k0, xB e1 1 n1 c1 k1, uB oa NA sa, rBB sa oa NA] (.tuple #[uW ob NB sb, rB sb ob NB]) [qB q0, qB q1, xB e0 0 n0 c0 k0, xB e1 1 n1 c1 k1, uB oa NA sa, rBB sa oa NA])
    (h1 : QC Try.prog 21 [uW oa NA sa, uW ob NB sb] (.tuple #[.int .i64 c, .bool ok])) (f1 : MC Try.prog 22 [rB sa oa NA, rB sb ob NB] [] (.tuple #[.int .i64 c, .bool ok]) []) (h2 : QC Try.prog 23 [uW oa NA sa] (.tuple #[.int .i64 i, .bool fits])) (f2 : MC Try.prog 24 [rB sa oa NA] [] (.tuple #[.int .i64 i, .bool fits]) []) (h3 : QC Try.prog 25 [uW oa NA sa, uW ob NB sb] (uW od ND sd)) (f3 : MC Try.prog 26 [rB sa oa NA, rB sb ob NB] [] (rB sd od ND) []) (g3 : MC Try.prog 16 [uW od ND sd, rB sd od ND] [] (.bool true) []) (h4 : QC Try.prog 27 [uW oa NA sa, uW ob NB sb] (uW of' NF sf)) (f4 : MC Try.prog 28 [rB sa oa NA, rB sb ob NB] [] (rB sf of' NF) []) (g4 : MC Try.prog 16 [uW of' NF sf, rB sf of' NF] [] (.bool true) []) (h5 : QC Try.prog 29 [uW oa NA sa, uW ob NB sb] (uW om NM sm)) (f5 : MC Try.prog 30 [rB sa oa NA, rB sb ob NB] [] (rB sm om NM) []) (g5 : MC Try.prog 16 [uW om NM sm, rB sm om NM] [] (.bool true) []) (h6 : QC Try.prog 31 [uW oa NA sa] (uW on NN sn)) (f6 : MC Try.prog 32 [rB sa oa NA] [] (rB sn on NN) []) (g6 : MC Try.prog 16 [uW on NN sn, rB sn on NN] [] (.bool true) []) (h7 : QC Try.prog 33 [uW oa NA sa, .int .i64 kk] (uW os NS ss)) (f7 : MC Try.prog 34 [rB sa oa NA, .int .i64 kk] [] (rB ss os NS) []) (g7 : MC Try.prog 16 [uW os NS ss, rB ss os NS] [] (.bool true) []) (h8 : QC Try.prog 35 [uW oa NA sa] (i6 sg)) (f8 : MC Try.prog 36 [rB sa oa NA] [] (i6 sg) []) (h9 : QC Try.prog 37 [uW oa NA sa] (i6 bt)) (f9 : MC Try.prog 38 [rB sa oa NA] [] (i6 bt) []) : MC Try.prog 4 [numX e0 0 n0 c0 k0, numX e1 1 n1 c1 k1, .int .i64 kk] [qB q0, qB q1] (.bool true) [qB q0, qB q1] := by
  cases e0 <;> cases e1 <;> exact MC.run mixed Try.func4 [.rd (.tuple #[uW oa NA sa, rB sa oa NA]), .rd (.tuple #[uW ob NB sb, rB sb ob NB]), .res (.tuple #[.int .i64 c, .bool ok]), .ab (.tuple #[.int .i64 c, .bool ok]), .res (.tuple #[.int .i64 i, .bool fits]), .ab (.tuple #[.int .i64 i, .bool fits]), .res (uW od ND sd), .ab (rB sd od ND), .ab (.bool true), .res (uW of' NF sf), .ab (rB sf of' NF), .ab (.bool true), .res (uW om NM sm), .ab (rB sm om NM), .ab (.bool true), .res (uW on NN sn), .ab (rB sn on NN), .ab (.bool true), .res (uW os NS ss), .ab (rB ss os NS), .ab (.bool true), .auto, .tst true, .tst true, .tst true, .tst true, .res (i6 sg), .ab (i6 sg), .tst true, .res (i6 bt), .ab (i6 bt), .tst true, .res (.bool true)] (ts3 (tsC w4 <| tsC w6 <| tsC (tT (rfl : c = c)) <| tsC (tT (rfl : ok = ok)) <| tsC (tT (rfl : i = i)) <| tsC (tT (rfl : fits = fits)) <| tsC (tT (rfl : sg = sg)) <| tsC (tT (rfl : bt = bt)) ts0) hn0 hn1) (qsC g0 <| qsC g1 <| qsC h1 <| qsC f1 <| qsC h2 <| qsC f2 <| qsC h3 <| qsC f3 <| qsC g3 <| qsC h4 <| qsC f4 <| qsC g4 <| qsC h5 <| qsC f5 <| qsC g5 <| qsC h6 <| qsC f6 <| qsC g6 <| qsC h7 <| qsC f7 <| qsC g7 <| qsC h8 <| qsC f8 <| qsC h9 <| qsC f9 <| qsC awakeN <| qs0) rfl rfl enters_wideSums (by kernel_rfl)
theorem wint_form (A : Option Int) : ∃ i b, wint A = .tuple #[.int .i64 i, .bool b] := by
  cases A with
  | none => exact ⟨0, false, rfl⟩
  | some z =>
    show ∃ i b, (match fits64 z with | true => Value.tuple #[.int .i64 z, .bool true] | false => .tuple #[.int .i64 0, .bool false]) = _
    split
    · exact ⟨_, _, rfl⟩
    · exact ⟨_, _, rfl⟩
theorem wideSums_mc {l0 l1 : List Int} (hl0 : ∀ x ∈ l0, I64 x) (hk0 : I64 k0) (hl1 : ∀ x ∈ l1, I64 x) (hk1 : I64 k1) (hkk : I64 kk) :
    MC Try.prog 4 [numV 0 l0 c0 k0, numV 1 l1 c1 k1, .int .i64 kk] [iB l0, iB l1] (.bool true) [iB l0, iB l1] := by
  show MC _ _ [numX l0.isEmpty 0 l0.length c0 k0, numX l1.isEmpty 1 l1.length c1 k1, .int .i64 kk] [qB (l0.map (Value.int .i64)), qB (l1.map (Value.int .i64))] _ [qB (l0.map (Value.int .i64)), qB (l1.map (Value.int .i64))]
  have u0 := fun (mem : Mem) (h : mem[0]? = some (qB (l0.map (Value.int .i64)))) => nOf_u (cap := c0) hl0 hk0 h
  have u1 := fun (mem : Mem) (h : mem[1]? = some (qB (l1.map (Value.int .i64)))) => nOf_u (cap := c1) hl1 hk1 h
  have wA := numA_wf l0 k0
  have wB := numA_wf l1 k1
  generalize numA l0 k0 = A at *
  generalize numA l1 k1 = B at *
  obtain ⟨i, b, ei⟩ := wint_form A
  have h1 := ucmp wA wB
  have f1 := rCmp_t wA wB
  rw [wcmp_form] at h1 f1
  have h2 := QC.of_pc enters_int64 (int64_pc wA)
  have f2 := rInt64_t wA
  rw [ei] at h2 f2
  have h3 := uadd wA wB
  have f3 := rAdd_t wA wB
  have h4 := QC.of_pc enters_sub (sub_pc wA wB)
  have f4 := rSub_t wA wB
  have h5 := QC.of_pc enters_mul (mul_pc wA wB)
  have f5 := rMul_t wA wB
  have h6 := QC.of_pc Go.Proofs.Ytfgnjkjnhakihaa.W.enters_neg (neg_pc wA)
  have f6 := rNeg_t wA
  have h7 := QC.of_pc enters_shift (shift_pc wA hkk.1 hkk.2)
  have f7 := rShift_t wA hkk.1 hkk.2
  have h8 := QC.of_pc enters_sign (sign_pc wA)
  have f8 := rSign_t (A := A)
  have h9 := QC.of_pc enters_bits (bits_pc wA)
  have f9 := rBits_t wA
  have wD := wadd_wf A B
  have wS : WF (wsub A B) := wadd_wf A (wneg B)
  have wM := wmul_wf A B
  have wN := wneg_wf wA
  have wH := wshift_wf A kk
  have g3 := same_t wD
  have g4 := same_t wS
  have g5 := same_t wM
  have g6 := same_t wN
  have g7 := same_t wH
  rw [uW_eq, uW_eq, uW_eq] at h4 h5
  rw [uW_eq, uW_eq] at h6 h7
  rw [uW_eq] at h2 h8 h9
  rw [rU_eq, rU_eq, rU_eq] at f3 f4 f5
  rw [rU_eq, rU_eq] at f1 f6 f7
  rw [rU_eq] at f2 f8 f9
  exact ws_run (ints_no 2 l0) (ints_no 2 l1) (lw2 (ints_low 4 l0) (ints_low 4 l1)) (lw2 (ints_low 6 l0) (ints_low 6 l1)) (u0 _ rfl) (u1 _ rfl) h1 f1 h2 f2 h3 f3 g3 h4 f4 g4 h5 f5 g5 h6 f6 g6 h7 f7 g7 h8 f8 h9 f9
end
end Go.Proofs.Ytfgnjkjnhakihaa.R
