/-
  WideParts: quotients and roots of the program are the document's.
-/
import Derived.Test.YtfgnjkjnhakihaaNum4
import Derived.Test.YtfgnjkjnhakihaaTokN
namespace Go.Proofs.Ytfgnjkjnhakihaa.R
open Go Go.Ev Go.W32
open Go.Proofs.Ytfgnjkjnhakihaa.W (mixed WF Hi I64 wv awakeN div_pc enters_div sqrt_pc enters_sqrt absN errV wdivV wsqrtV isq isq_self fdiv_signs)

theorem enters_wideParts : ∀ us w, (callFunc 5 us).run Try.prog w = .ok (.enter 5 us) w := enters Try.func5 rfl (by kernel_rfl)
/-- What both divisions say. -/
theorem div_both {A B : Option Int} (hA : WF A) : ∃ X e, WF X ∧ wdivV A B = errV (wv X) e ∧ rdivV A B = errV (rV X) e := by
  cases A with
  | none => exact ⟨some 0, 2, zero_wf, rfl, rfl⟩
  | some a =>
    cases B with
    | none => exact ⟨some 0, 2, zero_wf, rfl, rfl⟩
    | some b =>
      by_cases h : b = 0
      · exact ⟨some 0, 1, zero_wf, if_pos h, if_pos h⟩
      · refine ⟨some (a.fdiv b), 0, fun z e => ?_, if_neg h, if_neg h⟩
        cases e
        have := hA a rfl
        have := (fdiv_signs a b h).2
        omega
/-- What both roots say. -/
theorem sqrt_both {A : Option Int} (hA : WF A) : ∃ X e, WF X ∧ wsqrtV A = errV (wv X) e ∧ rsqrtV A = errV (rV X) e := by
  cases A with
  | none => exact ⟨some 0, 2, zero_wf, rfl, rfl⟩
  | some a =>
    by_cases h : a < 0
    · exact ⟨some 0, 1, zero_wf, if_pos h, if_pos h⟩
    · refine ⟨some (isq a.natAbs : Nat), 0, fun z e => ?_, if_neg h, if_neg h⟩
      cases e
      have h1 := hA a rfl
      have h2 := isq_self a.natAbs
      omega
section
variable {e0 e1 : Bool} {n0 n1 c0 c1 : Nat} {k0 k1 : Int} {q0 q1 : List Value} {oa ob od of' sa sb sd sf : Bool} {NA NB ND NF : Nat}
theorem wp_run {e f : Nat} (hn0 : q0.all (noNew1 2) = true) (hn1 : q1.all (noNew1 2) = true) (w4 : (q0.all (low1 4) && (q1.all (low1 4) && true)) = true) (w6 : (q0.all (low1 6) && (q1.all (low1 6) && true)) = true)
    (g0 : MC Try.prog 13 [numX e0 0 n0 c0 k0] [qB q0, qB q1, xB e0 0 n0 c0 k0, xB e1 1 n1 c1 k1] (.tuple #[uW oa NA sa, rB sa oa NA]) [qB q0, qB q1, xB e0 0 n0 c0 k0, xB e1 1 n1 c1 k1])
    (g1 : MC Try.prog 13 [numX e1 1 n1 c1 k1] [qB q0, qB q1, xB e0 0 n0 c0 k0, xB e1 1 n1 c1 k1, uB oa NA sa, rBB sa oa NA] (.tuple #[uW ob NB sb, rB sb ob NB]) [qB q0, qB q1, xB e0 0 n0 c0 k0, xB e1 1 n1 c1 k1, uB oa NA sa, rBB sa oa NA])
    (h1 : QC Try.prog 39 [uW oa NA sa, uW ob NB sb] (errV (uW od ND sd) e)) (f1 : MC Try.prog 40 [rB sa oa NA, rB sb ob NB] [] (errV (rB sd od ND) e) []) (h2 : QC Try.prog 41 [uW oa NA sa] (errV (uW of' NF sf) f)) (f2 : MC Try.prog 42 [rB sa oa NA] [] (errV (rB sf of' NF) f) []) (g3 : MC Try.prog 16 [uW od ND sd, rB sd od ND] [] (.bool true) []) (g4 : MC Try.prog 16 [uW of' NF sf, rB sf of' NF] [] (.bool true) []) : MC Try.prog 5 [numX e0 0 n0 c0 k0, numX e1 1 n1 c1 k1] [qB q0, qB q1] (.bool true) [qB q0, qB q1] := by
  cases e0 <;> cases e1 <;> exact MC.run mixed Try.func5 [.rd (.tuple #[uW oa NA sa, rB sa oa NA]), .rd (.tuple #[uW ob NB sb, rB sb ob NB]), .res (errV (uW od ND sd) e), .ab (errV (rB sd od ND) e), .res (errV (uW of' NF sf) f), .ab (errV (rB sf of' NF) f), .tst true, .ab (.bool true), .auto, .tst true, .ab (.bool true), .res (.bool true)] (ts3 (tsC w4 <| tsC w6 <| tsC (tT (rfl : (e : Int) = e)) <| tsC (tT (rfl : (f : Int) = f)) ts0) hn0 hn1) (qsC g0 <| qsC g1 <| qsC h1 <| qsC f1 <| qsC h2 <| qsC f2 <| qsC g3 <| qsC g4 <| qsC awakeN <| qs0) rfl rfl enters_wideParts (by kernel_rfl)
theorem wideParts_mc {l0 l1 : List Int} (hl0 : ∀ x ∈ l0, I64 x) (hk0 : I64 k0) (hl1 : ∀ x ∈ l1, I64 x) (hk1 : I64 k1) :
    MC Try.prog 5 [numV 0 l0 c0 k0, numV 1 l1 c1 k1] [iB l0, iB l1] (.bool true) [iB l0, iB l1] := by
  show MC _ _ [numX l0.isEmpty 0 l0.length c0 k0, numX l1.isEmpty 1 l1.length c1 k1] [qB (l0.map (Value.int .i64)), qB (l1.map (Value.int .i64))] _ [qB (l0.map (Value.int .i64)), qB (l1.map (Value.int .i64))]
  have u0 := fun (mem : Mem) (h : mem[0]? = some (qB (l0.map (Value.int .i64)))) => nOf_u (cap := c0) hl0 hk0 h
  have u1 := fun (mem : Mem) (h : mem[1]? = some (qB (l1.map (Value.int .i64)))) => nOf_u (cap := c1) hl1 hk1 h
  have wA := numA_wf l0 k0
  have wB := numA_wf l1 k1
  generalize numA l0 k0 = A at *
  generalize numA l1 k1 = B at *
  obtain ⟨X, e, wX, e1, e2⟩ := div_both (B := B) wA
  obtain ⟨Y, f, wY, e3, e4⟩ := sqrt_both wA
  have h1 := QC.of_pc enters_div (div_pc wA wB)
  have f1 := rDiv_t wA wB
  have h2 := QC.of_pc enters_sqrt (sqrt_pc wA)
  have f2 := rSqrt_t wA
  rw [e1, uW_eq, uW_eq, uW_eq] at h1
  rw [e3, uW_eq, uW_eq] at h2
  rw [e2, rU_eq, rU_eq, rU_eq] at f1
  rw [e4, rU_eq, rU_eq] at f2
  exact wp_run (ints_no 2 l0) (ints_no 2 l1) (lw2 (ints_low 4 l0) (ints_low 4 l1)) (lw2 (ints_low 6 l0) (ints_low 6 l1)) (u0 _ rfl) (u1 _ rfl) h1 f1 h2 f2 (same_t wX) (same_t wY)
end
end Go.Proofs.Ytfgnjkjnhakihaa.R
