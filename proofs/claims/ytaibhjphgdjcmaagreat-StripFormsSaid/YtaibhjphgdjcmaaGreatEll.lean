/-
  Package ellip: what may be, what is in, balls, boxes, shifts, traces.
  Ellipses: what is in, opposite and between, within which bounds.
  Ellipses: balls, boxes, hulls: the bounds in numbers.
-/
import Derived.Test.YtaibhjphgdjcmaaGreatMat
import Derived.Test.YtaibhjphgdjcmaaGreatRoot
/-! Package ellip: what may be, what is in, balls, boxes, shifts, traces. -/
namespace Go.Proofs.YtaibhjphgdjcmaaGreat.W
open Go Go.Ev Go.Wide

def ell (x y a b d : Int) : Value := .agg #[.int .i64 x, .int .i64 y, .int .i64 a, .int .i64 b, .int .i64 d]
theorem flat_ell (x y a b d : Int) : flat (ell x y a b d) = true := by kernel_rfl
def ellT (x y a b d : Int) (e : Nat) : Value := .tuple #[ell x y a b d, .int .i64 e]
theorem flat_ellT (x y a b d : Int) (e : Nat) : flat (ellT x y a b d e) = true := by kernel_rfl
def within (x y m : Int) : Bool := decide (-m ≤ x) && (decide (x ≤ m) && (decide (-m ≤ y) && decide (y ≤ m)))
theorem within_iff {x y m : Int} : within x y m = true ↔ (-m ≤ x ∧ x ≤ m) ∧ (-m ≤ y ∧ y ≤ m) := by
  simp only [within, Bool.and_eq_true, decide_eq_true_eq]
  omega
theorem within_pc {x y m : Int} (h0 : 0 ≤ m) (h1 : m ≤ 9223372036854775807) : PC Tryz.prog 41 [pt x y, .int .i64 m] (.bool (within x y m)) := by
  have hfl : [pt x y, Value.int .i64 m].all flat = true := by simp [flat_pt]; rfl
  have e : IntKind.i64.wrap (0 - m) = -m := by rw [i64_wrap (by omega) (by omega)]; omega
  unfold within
  by_cases c1 : -m ≤ x
  · have d1 : IntKind.i64.wrap (0 - m) ≤ x := by rw [e]; exact c1
    rw [decide_eq_true c1]
    by_cases c2 : x ≤ m
    · rw [decide_eq_true c2]
      by_cases c3 : -m ≤ y
      · have d3 : IntKind.i64.wrap (0 - m) ≤ y := by rw [e]; exact c3
        rw [decide_eq_true c3]
        exact PC.run mixed Tryz.func41 [.tst true, .tst true, .tst true] hfl (ts3 (tT d1) (tT c2) (tT d3)) qs0 rfl rfl (by kernel_rfl)
      · have d3 : ¬ IntKind.i64.wrap (0 - m) ≤ y := by rw [e]; exact c3
        rw [decide_eq_false c3]
        exact PC.run mixed Tryz.func41 [.tst true, .tst true, .tst false] hfl (ts3 (tT d1) (tT c2) (tF d3)) qs0 rfl rfl (by kernel_rfl)
    · rw [decide_eq_false c2]
      exact PC.run mixed Tryz.func41 [.tst true, .tst false] hfl (ts2 (tT d1) (tF c2)) qs0 rfl rfl (by kernel_rfl)
  · have d1 : ¬ IntKind.i64.wrap (0 - m) ≤ x := by rw [e]; exact c1
    rw [decide_eq_false c1]
    exact PC.run mixed Tryz.func41 [.tst false] hfl (ts1 (tF d1)) qs0 rfl rfl (by kernel_rfl)
theorem enters_within : ∀ us w, (callFunc 41 us).run Tryz.prog w = .ok (.enter 41 us) w := enters Tryz.func41 rfl (by kernel_rfl)
theorem within_qc (x y m : Int) (h0 : 0 ≤ m) (h1 : m ≤ 9223372036854775807) (r : Bool) (h : within x y m = r) : QC Tryz.prog 41 [pt x y, .int .i64 m] (.bool r) := h ▸ QC.of_pc enters_within (within_pc h0 h1)
def mayP (x y : Int) : Bool := within x y 4194304
theorem mayPoint_pc (x y : Int) : PC Tryz.prog 44 [pt x y] (.bool (mayP x y)) :=
  PC.run mixed Tryz.func44 [.res (.bool (mayP x y))] (by simp [flat_pt]) ts0 (qs1 (within_qc x y 4194304 (by omega) (by omega) _ rfl)) rfl rfl (by kernel_rfl)
theorem enters_mayPoint : ∀ us w, (callFunc 44 us).run Tryz.prog w = .ok (.enter 44 us) w := enters Tryz.func44 rfl (by kernel_rfl)
theorem mayPoint_qc (x y : Int) (r : Bool) (h : mayP x y = r) : QC Tryz.prog 44 [pt x y] (.bool r) := h ▸ QC.of_pc enters_mayPoint (mayPoint_pc x y)
def mayV (n : Int) : Bool := decide (1 ≤ n) && decide (n ≤ 70368744177664)
theorem mayV_iff {n : Int} : mayV n = true ↔ 1 ≤ n ∧ n ≤ 70368744177664 := by simp [mayV]
theorem mayV_pc (n : Int) : PC Tryz.prog 45 [.int .i64 n] (.bool (mayV n)) := by
  by_cases h : 1 ≤ n
  · exact PC.run mixed Tryz.func45 [.tst true] (rfl) (ts1 (tT h)) (trivial) (rfl) (by unfold mayV; rw [decide_eq_true h, Bool.true_and]) (by kernel_rfl)
  · exact PC.run mixed Tryz.func45 [.tst false] (rfl) (ts1 (tF h)) (trivial) (rfl) (by unfold mayV; rw [decide_eq_false h, Bool.false_and]) (by kernel_rfl)
theorem enters_mayV : ∀ us w, (callFunc 45 us).run Tryz.prog w = .ok (.enter 45 us) w := enters Tryz.func45 rfl (by kernel_rfl)
theorem mayV_qc (n : Int) (r : Bool) (h : mayV n = r) : QC Tryz.prog 45 [.int .i64 n] (.bool r) := h ▸ QC.of_pc enters_mayV (mayV_pc n)
def mayR (n : Int) : Bool := decide (1 ≤ n) && decide (n ≤ 4194304)
theorem mayR_iff {n : Int} : mayR n = true ↔ 1 ≤ n ∧ n ≤ 4194304 := by simp [mayR]
theorem mayR_pc (n : Int) : PC Tryz.prog 48 [.int .i64 n] (.bool (mayR n)) := by
  by_cases h : 1 ≤ n
  · exact PC.run mixed Tryz.func48 [.tst true] (rfl) (ts1 (tT h)) (trivial) (rfl) (by unfold mayR; rw [decide_eq_true h, Bool.true_and]) (by kernel_rfl)
  · exact PC.run mixed Tryz.func48 [.tst false] (rfl) (ts1 (tF h)) (trivial) (rfl) (by unfold mayR; rw [decide_eq_false h, Bool.false_and]) (by kernel_rfl)
theorem enters_mayR : ∀ us w, (callFunc 48 us).run Tryz.prog w = .ok (.enter 48 us) w := enters Tryz.func48 rfl (by kernel_rfl)
theorem mayR_qc (n : Int) (r : Bool) (h : mayR n = r) : QC Tryz.prog 48 [.int .i64 n] (.bool r) := h ▸ QC.of_pc enters_mayR (mayR_pc n)

/-! ### May -/
def mayL (x y a b d : Int) : Bool := mayP x y && (mayV a && (mayV d && (decide (-70368744177664 ≤ b) && (decide (b ≤ 70368744177664) && decide (0 < detI a b d)))))
theorem mayL_iff {x y a b d : Int} : mayL x y a b d = true ↔ ((-4194304 ≤ x ∧ x ≤ 4194304) ∧ (-4194304 ≤ y ∧ y ≤ 4194304)) ∧ (1 ≤ a ∧ a ≤ 70368744177664) ∧ (1 ≤ d ∧ d ≤ 70368744177664) ∧ (-70368744177664 ≤ b ∧ b ≤ 70368744177664) ∧ 0 < detI a b d := by
  simp only [mayL, mayP, Bool.and_eq_true, within_iff, mayV_iff, decide_eq_true_eq]
  omega
theorem signI_pos {q : Int} : (signI (some q) > 0) ↔ 0 < q := by
  simp only [signI]
  split
  · omega
  · split <;> omega
theorem mayL_pc {x y a b d : Int} (ha : I64 a) (hb : I64 b) (hd : I64 d) : PC Tryz.prog 17 [ell x y a b d] (.bool (mayL x y a b d)) := by
  have hfl : [ell x y a b d].all flat = true := by simp [flat_ell]
  unfold mayL
  cases h1 : mayP x y with
  | false => exact PC.run mixed Tryz.func17 [.res (.bool false)] hfl ts0 (qs1 (mayPoint_qc x y _ h1)) rfl rfl (by kernel_rfl)
  | true =>
    cases h2 : mayV a with
    | false => exact PC.run mixed Tryz.func17 [.res (.bool true), .res (.bool false)] hfl ts0 (qs2 (mayPoint_qc x y _ h1) (mayV_qc a _ h2)) rfl rfl (by kernel_rfl)
    | true =>
      cases h3 : mayV d with
      | false => exact PC.run mixed Tryz.func17 [.res (.bool true), .res (.bool true), .res (.bool false)] hfl ts0 (qs3 (mayPoint_qc x y _ h1) (mayV_qc a _ h2) (mayV_qc d _ h3)) rfl rfl (by kernel_rfl)
      | true =>
        by_cases c1 : -70368744177664 ≤ b
        · rw [decide_eq_true c1]
          by_cases c2 : b ≤ 70368744177664
          · rw [decide_eq_true c2]
            have hdet := QC.of_pc enters_detM (detM_pc ha hb hd)
            have hs := qsign (detI_sm ha.sm hb.sm hd.sm)
            exact PC.run mixed Tryz.func17 [.res (.bool true), .res (.bool true), .res (.bool true), .auto, .tst true, .tst true, .res (wz (detI a b d)), .res (.int .i64 (signI (some (detI a b d))))] (v := .bool (decide (signI (some (detI a b d)) > 0))) hfl (ts2 (tT c1) (tT c2))
              (qs5 (mayPoint_qc x y _ h1) (mayV_qc a _ h2) (mayV_qc d _ h3) hdet hs) rfl (by simp only [Bool.true_and]; exact congrArg Value.bool (decide_eq_decide.2 signI_pos)) (by kernel_rfl)
          · rw [decide_eq_false c2]
            exact PC.run mixed Tryz.func17 [.res (.bool true), .res (.bool true), .res (.bool true), .auto, .tst true, .tst false] hfl (ts2 (tT c1) (tF c2)) (qs3 (mayPoint_qc x y _ h1) (mayV_qc a _ h2) (mayV_qc d _ h3)) rfl rfl (by kernel_rfl)
        · rw [decide_eq_false c1]
          exact PC.run mixed Tryz.func17 [.res (.bool true), .res (.bool true), .res (.bool true), .auto, .tst false] hfl (ts1 (tF c1)) (qs3 (mayPoint_qc x y _ h1) (mayV_qc a _ h2) (mayV_qc d _ h3)) rfl rfl (by kernel_rfl)
theorem enters_mayL : ∀ us w, (callFunc 17 us).run Tryz.prog w = .ok (.enter 17 us) w := enters Tryz.func17 rfl (by kernel_rfl)
theorem mayL_qc {a b d : Int} (x y : Int) (ha : I64 a) (hb : I64 b) (hd : I64 d) (r : Bool) (h : mayL x y a b d = r) : QC Tryz.prog 17 [ell x y a b d] (.bool r) := h ▸ QC.of_pc enters_mayL (mayL_pc ha hb hd)

/-! ### In -/
def inE (x y a b d p q : Int) : Bool := mayL x y a b d && (within p q 1073741824 && holdsI a b d (p - x) (q - y))
theorem inE_pc {x y a b d p q : Int} (ha : I64 a) (hb : I64 b) (hd : I64 d) : PC Tryz.prog 15 [ell x y a b d, pt p q] (.bool (inE x y a b d p q)) := by
  have hfl : [ell x y a b d, pt p q].all flat = true := by simp [flat_ell, flat_pt]
  unfold inE
  cases h1 : mayL x y a b d with
  | false => exact PC.run mixed Tryz.func15 [.res (.bool false)] hfl ts0 (qs1 (mayL_qc x y ha hb hd _ h1)) rfl rfl (by kernel_rfl)
  | true =>
    cases h2 : within p q 1073741824 with
    | false => exact PC.run mixed Tryz.func15 [.res (.bool true), .res (.bool false)] hfl ts0 (qs2 (mayL_qc x y ha hb hd _ h1) (within_qc p q 1073741824 (by omega) (by omega) _ h2)) rfl rfl (by kernel_rfl)
    | true =>
      have g1 := mayL_iff.1 h1
      have g2 := within_iff.1 h2
      have e1 : IntKind.i64.wrap (p - x) = p - x := i64_wrap (by omega) (by omega)
      have e2 : IntKind.i64.wrap (q - y) = q - y := i64_wrap (by omega) (by omega)
      have hh : QC Tryz.prog 42 [sym a b d, pt (IntKind.i64.wrap (p - x)) (IntKind.i64.wrap (q - y))] (.bool (holdsI a b d (p - x) (q - y))) := by
        rw [e1, e2]
        exact holdsM_qc ha hb hd ⟨by omega, by omega⟩ ⟨by omega, by omega⟩ _ rfl
      exact PC.run mixed Tryz.func15 [.res (.bool true), .res (.bool true), .res (.bool (holdsI a b d (p - x) (q - y)))] hfl ts0 (qs3 (mayL_qc x y ha hb hd _ h1) (within_qc p q 1073741824 (by omega) (by omega) _ h2) hh) rfl rfl (by kernel_rfl)
theorem enters_inE : ∀ us w, (callFunc 15 us).run Tryz.prog w = .ok (.enter 15 us) w := enters Tryz.func15 rfl (by kernel_rfl)
theorem inE_qc {a b d : Int} (x y p q : Int) (ha : I64 a) (hb : I64 b) (hd : I64 d) (r : Bool) (h : inE x y a b d p q = r) : QC Tryz.prog 15 [ell x y a b d, pt p q] (.bool r) := h ▸ QC.of_pc enters_inE (inE_pc ha hb hd)

/-! ### Ball, Box, Shift -/
def ballV (x y r : Int) : Value := match mayP x y && mayR r with | true => ellT x y (r * r) 0 (r * r) 0 | false => ellT 0 0 0 0 0 1
theorem ball_pc (x y r : Int) : PC Tryz.prog 20 [pt x y, .int .i64 r] (ballV x y r) := by
  have hfl : [pt x y, Value.int .i64 r].all flat = true := by simp [flat_pt]; rfl
  unfold ballV
  cases h1 : mayP x y with
  | false => exact PC.run mixed Tryz.func20 [.res (.bool false)] hfl ts0 (qs1 (mayPoint_qc x y _ h1)) (flat_ellT 0 0 0 0 0 1) rfl (by kernel_rfl)
  | true =>
    cases h2 : mayR r with
    | false => exact PC.run mixed Tryz.func20 [.res (.bool true), .res (.bool false)] hfl ts0 (qs2 (mayPoint_qc x y _ h1) (mayR_qc r _ h2)) (flat_ellT 0 0 0 0 0 1) rfl (by kernel_rfl)
    | true =>
      have g := mayR_iff.1 h2
      have b1 : r * r ≤ 4194304 * 4194304 := Int.mul_le_mul g.2 g.2 (by omega) (by omega)
      have b0 : 0 ≤ r * r := Int.mul_nonneg (by omega) (by omega)
      have e : IntKind.i64.wrap (r * r) = r * r := i64_wrap (by omega) (by omega)
      have h := PC.run (args := [pt x y, Value.int .i64 r]) (v := ellT x y (IntKind.i64.wrap (r * r)) 0 (IntKind.i64.wrap (r * r)) 0) mixed Tryz.func20 [.res (.bool true), .res (.bool true)] hfl ts0 (qs2 (mayPoint_qc x y _ h1) (mayR_qc r _ h2)) (flat_ellT _ _ _ _ _ _) rfl (by kernel_rfl)
      rw [e] at h
      exact h
theorem enters_ball : ∀ us w, (callFunc 20 us).run Tryz.prog w = .ok (.enter 20 us) w := enters Tryz.func20 rfl (by kernel_rfl)
theorem ball_qc (x y r : Int) (v : Value) (h : ballV x y r = v) : QC Tryz.prog 20 [pt x y, .int .i64 r] v := h ▸ QC.of_pc enters_ball (ball_pc x y r)
def boxV (x y p q : Int) : Value := match mayP x y && (mayR p && mayR q) with | true => ellT x y (2 * p * p) 0 (2 * q * q) 0 | false => ellT 0 0 0 0 0 1
def shiftV (x y a b d p q : Int) : Value := match mayL x y a b d && within p q 4194304 with
  | true => match mayP (x + p) (y + q) with | true => ellT (x + p) (y + q) a b d 0 | false => ellT 0 0 0 0 0 2
  | false => ellT 0 0 0 0 0 1
/-! ### Trace, Radius, Hull, Along -/
def trI (x y a b d : Int) : Int := match mayL x y a b d with | true => a + d | false => 0
theorem trI_i64 (x y a b d : Int) : I64 (trI x y a b d) ∧ 0 ≤ trI x y a b d ∧ trI x y a b d ≤ 140737488355328 := by
  unfold trI I64
  cases h : mayL x y a b d with
  | false => simp only; omega
  | true =>
    have := mayL_iff.1 h
    simp only
    omega
theorem trace_pc {x y a b d : Int} (ha : I64 a) (hb : I64 b) (hd : I64 d) : PC Tryz.prog 18 [ell x y a b d] (.int .i64 (trI x y a b d)) := by
  have hfl : [ell x y a b d].all flat = true := by simp [flat_ell]
  unfold trI
  cases h1 : mayL x y a b d with
  | false => exact PC.run mixed Tryz.func18 [.res (.bool false)] hfl ts0 (qs1 (mayL_qc x y ha hb hd _ h1)) rfl rfl (by kernel_rfl)
  | true =>
    have g1 := mayL_iff.1 h1
    have e1 : IntKind.i64.wrap (a + d) = a + d := i64_wrap (by omega) (by omega)
    have h := PC.run (args := [ell x y a b d]) (v := .int .i64 (IntKind.i64.wrap (a + d))) mixed Tryz.func18 [.res (.bool true)] hfl ts0 (qs1 (mayL_qc x y ha hb hd _ h1)) rfl rfl (by kernel_rfl)
    rw [e1] at h
    exact h
theorem enters_trace : ∀ us w, (callFunc 18 us).run Tryz.prog w = .ok (.enter 18 us) w := enters Tryz.func18 rfl (by kernel_rfl)
theorem trace_qc {a b d : Int} (x y : Int) (ha : I64 a) (hb : I64 b) (hd : I64 d) : QC Tryz.prog 18 [ell x y a b d] (.int .i64 (trI x y a b d)) := QC.of_pc enters_trace (trace_pc ha hb hd)
def radI (x y a b d : Int) : Int := upI (trI x y a b d)
theorem radius_pc {x y a b d : Int} (ha : I64 a) (hb : I64 b) (hd : I64 d) : PC Tryz.prog 23 [ell x y a b d] (.int .i64 (radI x y a b d)) :=
  PC.run mixed Tryz.func23 [.res (.int .i64 (trI x y a b d)), .res (.int .i64 (radI x y a b d))] (by simp [flat_ell]) ts0 (qs2 (trace_qc x y ha hb hd) (up_qc (trI_i64 x y a b d).1.1 (trI_i64 x y a b d).1.2)) rfl rfl (by kernel_rfl)
theorem enters_radius : ∀ us w, (callFunc 23 us).run Tryz.prog w = .ok (.enter 23 us) w := enters Tryz.func23 rfl (by kernel_rfl)
theorem radius_qc {a b d : Int} (x y : Int) (ha : I64 a) (hb : I64 b) (hd : I64 d) : QC Tryz.prog 23 [ell x y a b d] (.int .i64 (radI x y a b d)) := QC.of_pc enters_radius (radius_pc ha hb hd)
def twoI (p q : Int) : Value := .tuple #[.int .i64 p, .int .i64 q]
def hullV (x y a b d : Int) : Value := match mayL x y a b d with | true => twoI (upI a) (upI d) | false => twoI 0 0
def alongV (x y a b d p q : Int) : Value := match mayL x y a b d && within p q 16777216 with | true => errI (csq (quadI a b d p q).natAbs : Nat) 0 | false => errI 0 1
theorem along_pc {x y a b d p q : Int} (ha : I64 a) (hb : I64 b) (hd : I64 d) (hq : mayL x y a b d = true → within p q 16777216 = true → 0 ≤ quadI a b d p q ∧ csq (quadI a b d p q).natAbs ≤ 9223372036854775807) :
    PC Tryz.prog 49 [ell x y a b d, pt p q] (alongV x y a b d p q) := by
  have hfl : [ell x y a b d, pt p q].all flat = true := by simp [flat_ell, flat_pt]
  unfold alongV
  cases h1 : mayL x y a b d with
  | false => exact PC.run mixed Tryz.func49 [.res (.bool false)] hfl ts0 (qs1 (mayL_qc x y ha hb hd _ h1)) rfl rfl (by kernel_rfl)
  | true =>
    cases h2 : within p q 16777216 with
    | false => exact PC.run mixed Tryz.func49 [.res (.bool true), .res (.bool false)] hfl ts0 (qs2 (mayL_qc x y ha hb hd _ h1) (within_qc p q 16777216 (by omega) (by omega) _ h2)) rfl rfl (by kernel_rfl)
    | true =>
      have g2 := within_iff.1 h2
      obtain ⟨q0, q1⟩ := hq h1 h2
      have hp : I64 p := ⟨by omega, by omega⟩
      have hq' : I64 q := ⟨by omega, by omega⟩
      have hquad := QC.of_pc enters_quadM (quadM_pc ha hb hd hp hq')
      have hup := wideUp_qc q0 ((quadI_sm ha hb hd hp hq').wf (by omega)) q1
      exact PC.run mixed Tryz.func49 [.res (.bool true), .res (.bool true), .res (wz (quadI a b d p q)), .res (errI (csq (quadI a b d p q).natAbs : Nat) 0)] hfl ts0 (qs4 (mayL_qc x y ha hb hd _ h1) (within_qc p q 16777216 (by omega) (by omega) _ h2) hquad hup) rfl rfl (by kernel_rfl)
theorem enters_along : ∀ us w, (callFunc 49 us).run Tryz.prog w = .ok (.enter 49 us) w := enters Tryz.func49 rfl (by kernel_rfl)
end Go.Proofs.YtaibhjphgdjcmaaGreat.W
/-! Ellipses: what is in, opposite and between, within which bounds. -/
namespace Go.Proofs.YtaibhjphgdjcmaaGreat.W
open Go Go.Ev Go.Wide

theorem sq_abs {x n : Int} (hn : 0 ≤ n) (h : x * x ≤ n * n) : -n ≤ x ∧ x ≤ n := by
  constructor
  · rcases Int.lt_or_le x (-n) with h1 | h1
    · have := Int.mul_le_mul (show n + 1 ≤ -x by omega) (show n + 1 ≤ -x by omega) (by omega) (by omega)
      rw [Int.neg_mul_neg] at this
      have e : (n + 1) * (n + 1) = n * n + 2 * n + 1 := by grind
      omega
    · exact h1
  · rcases Int.lt_or_le n x with h1 | h1
    · have := Int.mul_le_mul (show n + 1 ≤ x by omega) (show n + 1 ≤ x by omega) (by omega) (by omega)
      have e : (n + 1) * (n + 1) = n * n + 2 * n + 1 := by grind
      omega
    · exact h1
theorem ell_refl (x y a b d : Int) : ((decide (x = x) && (decide (y = y) && true)) && ((decide (a = a) && (decide (b = b) && (decide (d = d) && true))) && true)) = true := by simp
end Go.Proofs.YtaibhjphgdjcmaaGreat.W
/-! Ellipses: balls, boxes, hulls: the bounds in numbers. -/
namespace Go.Proofs.YtaibhjphgdjcmaaGreat.W
open Go Go.Ev Go.Wide

/-! ### Balls and boxes -/
theorem r_sq {r : Int} (h : mayR r = true) : 1 ≤ r * r ∧ r * r ≤ 17592186044416 := by
  have g := mayR_iff.1 h
  have b1 : r * r ≤ 4194304 * 4194304 := Int.mul_le_mul g.2 g.2 (by omega) (by omega)
  have b0 : 1 * 1 ≤ r * r := Int.mul_le_mul g.1 g.1 (by omega) (by omega)
  omega
theorem ball_may {x y r : Int} (hp : mayP x y = true) (h : mayR r = true) : mayL x y (r * r) 0 (r * r) = true := by
  have g := r_sq h
  have hp' := within_iff.1 hp
  have := Int.mul_pos (show 0 < r * r by omega) (show 0 < r * r by omega)
  exact mayL_iff.2 ⟨by omega, by omega, by omega, by omega, by unfold detI; omega⟩
theorem box_sq {i : Int} (h : mayR i = true) : 1 ≤ 2 * i * i ∧ 2 * i * i ≤ 35184372088832 := by
  have g := r_sq h
  rw [Int.mul_assoc]
  omega
def wa (e i : Int) : Int := IntKind.i64.wrap (e + i)
def nH (i : Int) : Int := IntKind.i64.wrap (0 - i)
/-! ### Bounds of an ellipse -/
theorem csq_min {n a : Nat} (h : n ≤ a * a) : csq n ≤ a := by
  have s := isq_spec n
  unfold csq
  split
  · rcases Nat.lt_or_ge (isq n) a with h1 | h1
    · omega
    · have := sq_le_of_le h1
      omega
  · rcases Nat.lt_or_ge a (isq n) with h1 | h1
    · have := sq_lt_of_lt h1
      omega
    · omega
theorem upI_bounds {m K : Int} (h0 : 0 ≤ m) (hK : 0 ≤ K) (h : m ≤ K * K) : 0 ≤ upI m ∧ upI m ≤ K ∧ m ≤ upI m * upI m := by
  unfold upI
  obtain ⟨k, rfl⟩ : ∃ k : Nat, m = k := ⟨m.toNat, by omega⟩
  obtain ⟨l, rfl⟩ : ∃ l : Nat, K = l := ⟨K.toNat, by omega⟩
  rw [Int.toNat_natCast, ← Int.natCast_mul]
  rw [← Int.natCast_mul] at h
  have h1 := csq_min (n := k) (a := l) (by omega)
  have h2 := csq_sq k
  omega
theorem may_psd {x y a b d : Int} (h : mayL x y a b d = true) : psdI a b d = true := by
  have g := mayL_iff.1 h
  exact psdI_iff.2 ⟨by omega, by omega, by have := g.2.2.2.2; unfold detI at this; omega⟩
/-- The square form in a direction, and what it bounds. -/
theorem along_facts {x y a b d g k : Int} (h : mayL x y a b d = true) (hw : within g k 16777216 = true) : 0 ≤ quadI a b d g k ∧ csq (quadI a b d g k).natAbs ≤ 281474976710656 := by
  have h0 := quad_of_psd (may_psd h) g k
  refine ⟨h0, csq_min ?_⟩
  have m := mayL_iff.1 h
  have w := within_iff.1 hw
  have gg : g * g ≤ 16777216 * 16777216 := by
    have := sq_nn g
    rcases Int.le_total 0 g with hg | hg
    · exact Int.mul_le_mul w.1.2 w.1.2 hg (by omega)
    · have := Int.mul_le_mul (show -g ≤ 16777216 by omega) (show -g ≤ 16777216 by omega) (by omega) (by omega)
      rwa [Int.neg_mul_neg] at this
  have kk : k * k ≤ 16777216 * 16777216 := by
    rcases Int.le_total 0 k with hk | hk
    · exact Int.mul_le_mul w.2.2 w.2.2 hk (by omega)
    · have := Int.mul_le_mul (show -k ≤ 16777216 by omega) (show -k ≤ 16777216 by omega) (by omega) (by omega)
      rwa [Int.neg_mul_neg] at this
  have p1 := sq_nn (g - k)
  have p2 := sq_nn (g + k)
  have e1 : (g - k) * (g - k) = g * g + k * k - 2 * (g * k) := by grind
  have e2 : (g + k) * (g + k) = g * g + k * k + 2 * (g * k) := by grind
  have n1 := sq_nn g
  have n2 := sq_nn k
  have ta : a * (g * g) ≤ 70368744177664 * 281474976710656 := Int.mul_le_mul (by omega) (by omega) n1 (by omega)
  have td : d * (k * k) ≤ 70368744177664 * 281474976710656 := Int.mul_le_mul (by omega) (by omega) n2 (by omega)
  have tb : b * (g * k) ≤ 70368744177664 * 281474976710656 := by
    rcases Int.le_total 0 (g * k) with hg | hg
    · exact Int.mul_le_mul (by omega) (by omega) hg (by omega)
    · have := Int.mul_le_mul (show -b ≤ 70368744177664 by omega) (show -(g * k) ≤ 281474976710656 by omega) (by omega) (by omega)
      rwa [Int.neg_mul_neg] at this
  rw [quadI_eq] at *
  have e3 : (281474976710656 * 281474976710656 : Nat) = 79228162514264337593543950336 := by decide
  rw [e3]
  omega
theorem wrapS {z : Int} (h : -4611686018427387904 ≤ z ∧ z ≤ 4611686018427387904) : IntKind.i64.wrap z = z := i64_wrap (by omega) (by omega)
theorem sq_le {z n : Int} (h : -n ≤ z ∧ z ≤ n) : z * z ≤ n * n := by
  rcases Int.le_total 0 z with hz | hz
  · exact Int.mul_le_mul h.2 h.2 hz (by omega)
  · have := Int.mul_le_mul (show -z ≤ n by omega) (show -z ≤ n by omega) (by omega) (by omega)
    rwa [Int.neg_mul_neg] at this
end Go.Proofs.YtaibhjphgdjcmaaGreat.W
