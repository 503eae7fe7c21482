/-
  Numbers as laws are given them, the parts as a row: Of, the program's and the reference's.
-/
import Derived.Test.YtljolfnpncjklaaGreatNum2
import Derived.Test.YtljolfnpncjklaaGreatRow
namespace Go.Proofs.YtljolfnpncjklaaGreat.R
open Go Go.Ev Go.W32
open Go.Proofs.YtljolfnpncjklaaGreat.W (mixed i64_wrap clamp WF Hi clamp_eq wadd wmul wshift Sm I64 wv wR flat_wR wv_form wadd_wf wmul_wf wshift_wf of_pc add_pc mul_pc shift_pc enters_of enters_add enters_mul enters_shift)

theorem ilL_getI {l : List Int} {i : Nat} {x : Int} (h : l[i]? = some x) : (ilL .i64 l).getD (((i : Nat) : Int).toNat * 1) undef = i6 x := by
  rw [Int.toNat_natCast, Nat.mul_one, List.getD_eq_getElem?_getD]
  unfold ilL
  rw [List.getElem?_map, h]
  rfl
theorem ilL_lt {l : List Int} {i : Nat} (h : i < l.length) : decide (((i : Nat) : Int).toNat * 1 < (ilL .i64 l).length) = true := decide_eq_true (by unfold ilL; rw [Int.toNat_natCast, List.length_map]; omega)
def nST (l : List Int) (n : Nat) (k : Int) (i : Nat) (o : Bool) (N : Nat) (s : Bool) (s' o' : Bool) (N' : Nat) : St :=
  ⟨slots 41 [(1, pB 0), (2, pB 1), (3, pB 2), (4, pB 3), (5, pB 4), (11, rowTok n (ilL .i64 l)), (12, i6 n), (13, i6 i)], [⟨[rowTok n (ilL .i64 l), i6 k], 24, true⟩, zW, zB, wB o N s, rBB s' o' N']⟩
theorem n_roundT {l : List Int} {n : Nat} {k x : Int} {i : Nat} {o1 o2 o3 : Bool} {N1 N2 N3 : Nat} {s1 s2 s3 : Bool} {p1 q1 p2 q2 p3 q3 : Bool} {M1 M2 M3 : Nat} (hi : i < n) (hl : i < l.length) (h17 : i < 17) (hx : l[i]? = some x)
    (h1 : QC Tryz.prog 9 [.int .i64 4611686018427387904] (wR false 4611686018427387904 false)) (h2 : QC Tryz.prog 12 [wR o1 N1 s1, wR false 4611686018427387904 false] (wR o2 N2 s2)) (h3 : QC Tryz.prog 9 [.int .i64 x] (wR false x.natAbs (decide (x < 0)))) (h4 : QC Tryz.prog 11 [wR o2 N2 s2, wR false x.natAbs (decide (x < 0))] (wR o3 N3 s3))
    (g1 : MC Tryz.prog 10 [.int .i64 4611686018427387904] [] (rB false false 4611686018427387904) []) (g2 : MC Tryz.prog 14 [rB p1 q1 M1, rB false false 4611686018427387904] [] (rB p2 q2 M2) []) (g3 : MC Tryz.prog 10 [.int .i64 x] [] (rB (decide (x < 0)) false x.natAbs) []) (g4 : MC Tryz.prog 13 [rB p2 q2 M2, rB (decide (x < 0)) false x.natAbs] [] (rB p3 q3 M3) []) :
    Tri Tryz.prog (loopN Tryz.f4 0) (nST l n k i o1 N1 s1 p1 q1 M1) (to .normal (nST l n k (i + 1) o3 N3 s3 p3 q3 M3)) := by
  have t0 := tsC (ltI hi) <| tsC (ltI hi) <| tsC (ilL_lt hl) <| tsC (tF (p := (i : Int) ≥ 17) (by omega)) <| tsC (wrapN (n := (i : Int) + 1) (m := i + 1) (by omega) (by omega)) ts0
  have t1 := qsC (ilL_getI hx) <| qsC h1 <| qsC h2 <| qsC h3 <| qsC h4 <| qsC g1 <| qsC g2 <| qsC g3 <| qsC g4 qs0
  cases o1 with
  | false => cases o2 with
    | false => cases o3 with
      | false => exact Tri.go mixed nL [.tst true, .is 2 (i6 x), .tst false, .res (wR false 4611686018427387904 false), .res (wR false N2 s2), .res (wR false x.natAbs (decide (x < 0))), .res (wR false N3 s3), .ab (rB false false 4611686018427387904), .ab (rB p2 q2 M2), .ab (rB (decide (x < 0)) false x.natAbs), .ab (rB p3 q3 M3), .at 2 (i6 ((i + 1 : Nat) : Int))] t0 t1 (by kernel_rfl)
      | true => exact Tri.go mixed nL [.tst true, .is 2 (i6 x), .tst false, .res (wR false 4611686018427387904 false), .res (wR false N2 s2), .res (wR false x.natAbs (decide (x < 0))), .res (wR true N3 s3), .ab (rB false false 4611686018427387904), .ab (rB p2 q2 M2), .ab (rB (decide (x < 0)) false x.natAbs), .ab (rB p3 q3 M3), .at 2 (i6 ((i + 1 : Nat) : Int))] t0 t1 (by kernel_rfl)
    | true => cases o3 with
      | false => exact Tri.go mixed nL [.tst true, .is 2 (i6 x), .tst false, .res (wR false 4611686018427387904 false), .res (wR true N2 s2), .res (wR false x.natAbs (decide (x < 0))), .res (wR false N3 s3), .ab (rB false false 4611686018427387904), .ab (rB p2 q2 M2), .ab (rB (decide (x < 0)) false x.natAbs), .ab (rB p3 q3 M3), .at 2 (i6 ((i + 1 : Nat) : Int))] t0 t1 (by kernel_rfl)
      | true => exact Tri.go mixed nL [.tst true, .is 2 (i6 x), .tst false, .res (wR false 4611686018427387904 false), .res (wR true N2 s2), .res (wR false x.natAbs (decide (x < 0))), .res (wR true N3 s3), .ab (rB false false 4611686018427387904), .ab (rB p2 q2 M2), .ab (rB (decide (x < 0)) false x.natAbs), .ab (rB p3 q3 M3), .at 2 (i6 ((i + 1 : Nat) : Int))] t0 t1 (by kernel_rfl)
  | true => cases o2 with
    | false => cases o3 with
      | false => exact Tri.go mixed nL [.tst true, .is 2 (i6 x), .tst false, .res (wR false 4611686018427387904 false), .res (wR false N2 s2), .res (wR false x.natAbs (decide (x < 0))), .res (wR false N3 s3), .ab (rB false false 4611686018427387904), .ab (rB p2 q2 M2), .ab (rB (decide (x < 0)) false x.natAbs), .ab (rB p3 q3 M3), .at 2 (i6 ((i + 1 : Nat) : Int))] t0 t1 (by kernel_rfl)
      | true => exact Tri.go mixed nL [.tst true, .is 2 (i6 x), .tst false, .res (wR false 4611686018427387904 false), .res (wR false N2 s2), .res (wR false x.natAbs (decide (x < 0))), .res (wR true N3 s3), .ab (rB false false 4611686018427387904), .ab (rB p2 q2 M2), .ab (rB (decide (x < 0)) false x.natAbs), .ab (rB p3 q3 M3), .at 2 (i6 ((i + 1 : Nat) : Int))] t0 t1 (by kernel_rfl)
    | true => cases o3 with
      | false => exact Tri.go mixed nL [.tst true, .is 2 (i6 x), .tst false, .res (wR false 4611686018427387904 false), .res (wR true N2 s2), .res (wR false x.natAbs (decide (x < 0))), .res (wR false N3 s3), .ab (rB false false 4611686018427387904), .ab (rB p2 q2 M2), .ab (rB (decide (x < 0)) false x.natAbs), .ab (rB p3 q3 M3), .at 2 (i6 ((i + 1 : Nat) : Int))] t0 t1 (by kernel_rfl)
      | true => exact Tri.go mixed nL [.tst true, .is 2 (i6 x), .tst false, .res (wR false 4611686018427387904 false), .res (wR true N2 s2), .res (wR false x.natAbs (decide (x < 0))), .res (wR true N3 s3), .ab (rB false false 4611686018427387904), .ab (rB p2 q2 M2), .ab (rB (decide (x < 0)) false x.natAbs), .ab (rB p3 q3 M3), .at 2 (i6 ((i + 1 : Nat) : Int))] t0 t1 (by kernel_rfl)
theorem n_endT {l : List Int} {n : Nat} {k : Int} {o : Bool} {N : Nat} {s p q : Bool} {M : Nat} : Tri Tryz.prog (loopN Tryz.f4 0) (nST l n k n o N s p q M) (to (.exit 0) (nST l n k n o N s p q M)) := by
  cases o <;> exact Tri.go mixed nL [.tst false] (tsC (tF (p := (n : Int) < (n : Int)) (by omega)) ts0) qs0 (by kernel_rfl)
theorem n_end17T {l : List Int} {n : Nat} {k x : Int} {o : Bool} {N : Nat} {s p q : Bool} {M : Nat} (hi : 17 < n) (hl : 17 < l.length) (hx : l[17]? = some x) : Tri Tryz.prog (loopN Tryz.f4 0) (nST l n k 17 o N s p q M) (to (.exit 0) (nST l n k 17 o N s p q M)) := by
  cases o <;> exact Tri.go mixed nL [.tst true, .is 2 (i6 x)] (tsC (ltI hi) <| tsC (ltI hi) <| tsC (ilL_lt hl) ts0) (qsC (ilL_getI hx) qs0) (by kernel_rfl)
/-- One part more. -/
theorem n_stepT {l : List Int} {n : Nat} {k x : Int} {i : Nat} {A : Option Int} (hA : WF A) (hi : i < n) (hl : i < l.length) (h17 : i < 17) (hx : l[i]? = some x) (hr : I64 x) {o N s p q M o3 N3 s3 p3 q3 M3} (e1 : wv A = wR o N s) (e2 : rV A = rB p q M)
    (e3 : wv (wadd (wmul A (some 4611686018427387904)) (some x)) = wR o3 N3 s3) (e4 : rV (wadd (wmul A (some 4611686018427387904)) (some x)) = rB p3 q3 M3) :
    Tri Tryz.prog (loopN Tryz.f4 0) (nST l n k i o N s p q M) (to .normal (nST l n k (i + 1) o3 N3 s3 p3 q3 M3)) := by
  have xw : WF (some x) := small_WF (by have := hr.1; have := hr.2; omega)
  obtain ⟨o2, N2, s2, e5⟩ := wv_form (wmul A (some 4611686018427387904))
  obtain ⟨p2, q2, M2, e6⟩ := rV_form (wmul A (some 4611686018427387904))
  have h1 := QC.of_pc Go.Proofs.YtljolfnpncjklaaGreat.W.enters_of (of_pc (n := 4611686018427387904) (by omega) (by omega))
  have h2 := QC.of_pc enters_mul (mul_pc hA c62_wf)
  have h3 := QC.of_pc Go.Proofs.YtljolfnpncjklaaGreat.W.enters_of (of_pc hr.1 hr.2)
  have h4 := QC.of_pc enters_add (add_pc (wmul_wf A (some 4611686018427387904)) xw)
  have g1 := rOf_t (n := 4611686018427387904) (by omega) (by omega)
  have g2 := rMul_t hA c62_wf
  have g3 := rOf_t hr.1 hr.2
  have g4 := rAdd_t (wmul_wf A (some 4611686018427387904)) xw
  rw [e1, e5] at h2
  rw [e5, e3] at h4
  rw [e2, e6] at g2
  rw [e6, e4] at g4
  exact n_roundT hi hl h17 hx h1 h2 h3 h4 g1 g2 g3 g4
theorem n_loopT {l : List Int}  {k : Int} (hl : ∀ x ∈ l, I64 x) {o N s p q M} (e1 : wv (accN (l.take 17) (some 0)) = wR o N s) (e2 : rV (accN (l.take 17) (some 0)) = rB p q M) :
    TriL Tryz.prog (loopN Tryz.f4 0) (nST l l.length k 0 false 0 false false false 0) (to (.exit 0) (nST l l.length k (min l.length 17) o N s p q M)) := by
  have hz : ∀ i, WF (accN (l.take i) (some 0)) := fun i => accN_wf _ zero_wf
  have hw : ∀ A, ∃ o N s, wv A = wR o N s := wv_form
  -- the two forms of each number
  let wo : Option Int → Bool := fun A => A.isNone
  let wn : Option Int → Nat := fun A => match A with | none => 0 | some z => z.natAbs
  let ws : Option Int → Bool := fun A => match A with | none => false | some z => decide (z < 0)
  have hwv : ∀ A, wv A = wR (wo A) (wn A) (ws A) := fun A => by cases A <;> rfl
  have hrv : ∀ A, rV A = rB (ws A) (wo A) (wn A) := fun A => by cases A <;> rfl
  have h := TriL.count (P := Tryz.prog) (c := loopN Tryz.f4 0) (e := .exit 0) (S' := nST l l.length k (min l.length 17) o N s p q M)
    (fun i => nST l l.length k i (wo (accN (l.take i) (some 0))) (wn (accN (l.take i) (some 0))) (ws (accN (l.take i) (some 0))) (ws (accN (l.take i) (some 0))) (wo (accN (l.take i) (some 0))) (wn (accN (l.take i) (some 0)))) (by simp) (min l.length 17) (fun i hi => ?_) ?_
  · exact h
  · have hil : i < l.length := by omega
    have hx : l[i]? = some l[i] := List.getElem?_eq_getElem hil
    refine n_stepT (hz i) hil hil (by omega) hx (hl _ (List.getElem_mem hil)) (hwv _) (hrv _) ?_ ?_
    · rw [accN_take hx]; exact hwv _
    · rw [accN_take hx]; exact hrv _
  · have et : l.take (min l.length 17) = l.take 17 := by
      rcases Nat.le_total l.length 17 with h | h
      · rw [Nat.min_eq_left h, List.take_of_length_le (Nat.le_refl _), List.take_of_length_le h]
      · rw [Nat.min_eq_right h]
    have f1 : wR (wo (accN (l.take 17) (some 0))) (wn (accN (l.take 17) (some 0))) (ws (accN (l.take 17) (some 0))) = wR o N s := (hwv _).symm.trans e1
    have f2 : rB (ws (accN (l.take 17) (some 0))) (wo (accN (l.take 17) (some 0))) (wn (accN (l.take 17) (some 0))) = rB p q M := (hrv _).symm.trans e2
    have eS : nST l l.length k (min l.length 17) (wo (accN (l.take (min l.length 17)) (some 0))) (wn (accN (l.take (min l.length 17)) (some 0))) (ws (accN (l.take (min l.length 17)) (some 0))) (ws (accN (l.take (min l.length 17)) (some 0))) (wo (accN (l.take (min l.length 17)) (some 0))) (wn (accN (l.take (min l.length 17)) (some 0))) = nST l l.length k (min l.length 17) o N s p q M := by
      rw [et]
      unfold nST wB
      rw [f1]
      have f3 : ∀ a b c, rBB a b c = ⟨(rB a b c).cells.toList, 36, true⟩ := fun _ _ _ => rfl
      rw [f3, f3, f2]
    rw [eS]
    rcases Nat.lt_or_ge 17 l.length with h | h
    · rw [Nat.min_eq_right (by omega)]
      exact n_end17T h h (List.getElem?_eq_getElem h)
    · rw [Nat.min_eq_left h]
      exact n_endT
theorem nOf_runT {l : List Int} {n m : Nat} {k : Int} {o1 o2 : Bool} {N1 N2 : Nat} {s1 s2 p1 q1 p2 q2 : Bool} {M1 M2 : Nat} (h0 : QC Tryz.prog 9 [.int .i64 0] (wR false 0 false)) (g0 : MC Tryz.prog 10 [.int .i64 0] [] (rB false false 0) [])
    (hl : TriL Tryz.prog (loopN Tryz.f4 0) (nST l n k 0 false 0 false false false 0) (to (.exit 0) (nST l n k m o1 N1 s1 p1 q1 M1))) (h1 : QC Tryz.prog 15 [wR o1 N1 s1, .int .i64 k] (wR o2 N2 s2)) (g1 : MC Tryz.prog 16 [rB p1 q1 M1, .int .i64 k] [] (rB p2 q2 M2) []) :
    MC Tryz.prog 4 [.agg #[rowTok n (ilL .i64 l), i6 k]] [] (numR o2 N2 s2 p2 q2 M2) [] := by
  cases o1 with
  | false => cases o2 with
    | false => exact AC.runA mixed Tryz.func4 [.res (wR false 0 false), .ab (rB false false 0), .cut nL (.exit 0) (nST l n k m false N1 s1 p1 q1 M1), .res (wR false N2 s2), .ab (rB p2 q2 M2)] ts0 (qsC h0 <| qsC g0 <| qsC hl <| qsC h1 <| qsC g1 qs0) rfl enters_nOf (by kernel_rfl)
    | true => exact AC.runA mixed Tryz.func4 [.res (wR false 0 false), .ab (rB false false 0), .cut nL (.exit 0) (nST l n k m false N1 s1 p1 q1 M1), .res (wR true N2 s2), .ab (rB p2 q2 M2)] ts0 (qsC h0 <| qsC g0 <| qsC hl <| qsC h1 <| qsC g1 qs0) rfl enters_nOf (by kernel_rfl)
  | true => cases o2 with
    | false => exact AC.runA mixed Tryz.func4 [.res (wR false 0 false), .ab (rB false false 0), .cut nL (.exit 0) (nST l n k m true N1 s1 p1 q1 M1), .res (wR false N2 s2), .ab (rB p2 q2 M2)] ts0 (qsC h0 <| qsC g0 <| qsC hl <| qsC h1 <| qsC g1 qs0) rfl enters_nOf (by kernel_rfl)
    | true => exact AC.runA mixed Tryz.func4 [.res (wR false 0 false), .ab (rB false false 0), .cut nL (.exit 0) (nST l n k m true N1 s1 p1 q1 M1), .res (wR true N2 s2), .ab (rB p2 q2 M2)] ts0 (qsC h0 <| qsC g0 <| qsC hl <| qsC h1 <| qsC g1 qs0) rfl enters_nOf (by kernel_rfl)
/-- A number made out of a row of parts. -/
theorem nOf_T {l : List Int} {k : Int} (hl : ∀ x ∈ l, I64 x) (hk : I64 k) : MC Tryz.prog 4 [numT l k] [] (numOut (numA l k)) [] := by
  obtain ⟨o1, N1, s1, e1⟩ := wv_form (accN (l.take 17) (some 0))
  obtain ⟨p1, q1, M1, e2⟩ := rV_form (accN (l.take 17) (some 0))
  obtain ⟨o2, N2, s2, e3⟩ := wv_form (numA l k)
  obtain ⟨p2, q2, M2, e4⟩ := rV_form (numA l k)
  have hw := accN_wf (l.take 17) zero_wf
  have h0 := QC.of_pc Go.Proofs.YtljolfnpncjklaaGreat.W.enters_of (of_pc (n := 0) (by omega) (by omega))
  have g0 := rOf_t (n := 0) (by omega) (by omega)
  have h1 := QC.of_pc enters_shift (shift_pc hw hk.1 hk.2)
  have g1 := rShift_t hw hk.1 hk.2
  unfold numOut
  have e5 : wshift (accN (l.take 17) (some 0)) k = numA l k := rfl
  rw [e5] at h1 g1
  rw [e1, e3] at h1
  rw [e2, e4] at g1
  rw [e3, e4]
  exact nOf_runT h0 g0 (n_loopT hl e1 e2) h1 g1
end Go.Proofs.YtljolfnpncjklaaGreat.R
