/-
  Package ellip: what may be, what is in, balls, boxes, shifts, traces.
  Ellipses: what is in, opposite and between, within which bounds.
  Ellipses: balls, boxes, hulls: the bounds in numbers.
-/
import Derived.Test.YtljolfnpncjklaaGreatMat
import Derived.Test.YtljolfnpncjklaaGreatRoot
/-! Package ellip: what may be, what is in, balls, boxes, shifts, traces. -/
namespace Go.Proofs.YtljolfnpncjklaaGreat.W
open Go Go.Ev Go.Wide

def ell (x y a b d : Int) : Value := .agg #[.int .i64 x, .int .i64 y, .int .i64 a, .int .i64 b, .int .i64 d]
theorem flat_ell (x y a b d : Int) : flat (ell x y a b d) = true := by kernel_rfl
def ellT (x y a b d : Int) (e : Nat) : Value := .tuple #[ell x y a b d, .int .i64 e]
theorem flat_ellT (x y a b d : Int) (e : Nat) : flat (ellT x y a b d e) = true := by kernel_rfl
def within (x y m : Int) : Bool := decide (-m ≤ x) && (decide (x ≤ m) && (decide (-m ≤ y) && decide (y ≤ m)))
theorem within_iff {x y m : Int} : within x y m = true ↔ (-m ≤ x ∧ x ≤ m) ∧ (-m ≤ y ∧ y ≤ m) := by
  simp only [within, Bool.and_eq_true, decide_eq_true_eq]
  omega
theorem within_pc {x y m : Int} (h0 : 0 ≤ m) (h1 : m ≤ 9223372036854775807) : PC Tryz.prog 57 [pt x y, .int .i64 m] (.bool (within x y m)) := by
  have hfl : [pt x y, Value.int .i64 m].all flat = true := by simp [flat_pt]; rfl
  have e : IntKind.i64.wrap (0 - m) = -m := by rw [i64_wrap (by omega) (by omega)]; omega
  unfold within
  by_cases c1 : -m ≤ x
  · have d1 : IntKind.i64.wrap (0 - m) ≤ x := by rw [e]; exact c1
    rw [decide_eq_true c1]
    by_cases c2 : x ≤ m
    · rw [decide_eq_true c2]
      by_cases c3 : -m ≤ y
      · have d3 : IntKind.i64.wrap (0 - m) ≤ y := by rw [e]; exact c3
        rw [decide_eq_true c3]
        exact PC.run mixed Tryz.func57 [.tst true, .tst true, .tst true] hfl (ts3 (tT d1) (tT c2) (tT d3)) qs0 rfl rfl (by kernel_rfl)
      · have d3 : ¬ IntKind.i64.wrap (0 - m) ≤ y := by rw [e]; exact c3
        rw [decide_eq_false c3]
        exact PC.run mixed Tryz.func57 [.tst true, .tst true, .tst false] hfl (ts3 (tT d1) (tT c2) (tF d3)) qs0 rfl rfl (by kernel_rfl)
    · rw [decide_eq_false c2]
      exact PC.run mixed Tryz.func57 [.tst true, .tst false] hfl (ts2 (tT d1) (tF c2)) qs0 rfl rfl (by kernel_rfl)
  · have d1 : ¬ IntKind.i64.wrap (0 - m) ≤ x := by rw [e]; exact c1
    rw [decide_eq_false c1]
    exact PC.run mixed Tryz.func57 [.tst false] hfl (ts1 (tF d1)) qs0 rfl rfl (by kernel_rfl)
theorem enters_within : ∀ us w, (callFunc 57 us).run Tryz.prog w = .ok (.enter 57 us) w := enters Tryz.func57 rfl (by kernel_rfl)
theorem within_qc (x y m : Int) (h0 : 0 ≤ m) (h1 : m ≤ 9223372036854775807) (r : Bool) (h : within x y m = r) : QC Tryz.prog 57 [pt x y, .int .i64 m] (.bool r) := h ▸ QC.of_pc enters_within (within_pc h0 h1)
def mayP (x y : Int) : Bool := within x y 4194304
theorem mayPoint_pc (x y : Int) : PC Tryz.prog 51 [pt x y] (.bool (mayP x y)) :=
  PC.run mixed Tryz.func51 [.res (.bool (mayP x y))] (by simp [flat_pt]) ts0 (qs1 (within_qc x y 4194304 (by omega) (by omega) _ rfl)) rfl rfl (by kernel_rfl)
theorem enters_mayPoint : ∀ us w, (callFunc 51 us).run Tryz.prog w = .ok (.enter 51 us) w := enters Tryz.func51 rfl (by kernel_rfl)
theorem mayPoint_qc (x y : Int) (r : Bool) (h : mayP x y = r) : QC Tryz.prog 51 [pt x y] (.bool r) := h ▸ QC.of_pc enters_mayPoint (mayPoint_pc x y)
def mayV (n : Int) : Bool := decide (1 ≤ n) && decide (n ≤ 70368744177664)
theorem mayV_iff {n : Int} : mayV n = true ↔ 1 ≤ n ∧ n ≤ 70368744177664 := by simp [mayV]
theorem mayV_pc (n : Int) : PC Tryz.prog 90 [.int .i64 n] (.bool (mayV n)) := by
  by_cases h : 1 ≤ n
  · exact PC.run mixed Tryz.func90 [.tst true] (rfl) (ts1 (tT h)) (trivial) (rfl) (by unfold mayV; rw [decide_eq_true h, Bool.true_and]) (by kernel_rfl)
  · exact PC.run mixed Tryz.func90 [.tst false] (rfl) (ts1 (tF h)) (trivial) (rfl) (by unfold mayV; rw [decide_eq_false h, Bool.false_and]) (by kernel_rfl)
theorem enters_mayV : ∀ us w, (callFunc 90 us).run Tryz.prog w = .ok (.enter 90 us) w := enters Tryz.func90 rfl (by kernel_rfl)
theorem mayV_qc (n : Int) (r : Bool) (h : mayV n = r) : QC Tryz.prog 90 [.int .i64 n] (.bool r) := h ▸ QC.of_pc enters_mayV (mayV_pc n)
def mayR (n : Int) : Bool := decide (1 ≤ n) && decide (n ≤ 4194304)
theorem mayR_iff {n : Int} : mayR n = true ↔ 1 ≤ n ∧ n ≤ 4194304 := by simp [mayR]
theorem mayR_pc (n : Int) : PC Tryz.prog 52 [.int .i64 n] (.bool (mayR n)) := by
  by_cases h : 1 ≤ n
  · exact PC.run mixed Tryz.func52 [.tst true] (rfl) (ts1 (tT h)) (trivial) (rfl) (by unfold mayR; rw [decide_eq_true h, Bool.true_and]) (by kernel_rfl)
  · exact PC.run mixed Tryz.func52 [.tst false] (rfl) (ts1 (tF h)) (trivial) (rfl) (by unfold mayR; rw [decide_eq_false h, Bool.false_and]) (by kernel_rfl)
theorem enters_mayR : ∀ us w, (callFunc 52 us).run Tryz.prog w = .ok (.enter 52 us) w := enters Tryz.func52 rfl (by kernel_rfl)
theorem mayR_qc (n : Int) (r : Bool) (h : mayR n = r) : QC Tryz.prog 52 [.int .i64 n] (.bool r) := h ▸ QC.of_pc enters_mayR (mayR_pc n)

/-! ### May -/
def mayL (x y a b d : Int) : Bool := mayP x y && (mayV a && (mayV d && (decide (-70368744177664 ≤ b) && (decide (b ≤ 70368744177664) && decide (0 < detI a b d)))))
theorem mayL_iff {x y a b d : Int} : mayL x y a b d = true ↔ ((-4194304 ≤ x ∧ x ≤ 4194304) ∧ (-4194304 ≤ y ∧ y ≤ 4194304)) ∧ (1 ≤ a ∧ a ≤ 70368744177664) ∧ (1 ≤ d ∧ d ≤ 70368744177664) ∧ (-70368744177664 ≤ b ∧ b ≤ 70368744177664) ∧ 0 < detI a b d := by
  simp only [mayL, mayP, Bool.and_eq_true, within_iff, mayV_iff, decide_eq_true_eq]
  omega
theorem signI_pos {q : Int} : (signI (some q) > 0) ↔ 0 < q := by
  simp only [signI]
  split
  · omega
  · split <;> omega
theorem mayL_pc {x y a b d : Int} (ha : I64 a) (hb : I64 b) (hd : I64 d) : PC Tryz.prog 56 [ell x y a b d] (.bool (mayL x y a b d)) := by
  have hfl : [ell x y a b d].all flat = true := by simp [flat_ell]
  unfold mayL
  cases h1 : mayP x y with
  | false => exact PC.run mixed Tryz.func56 [.res (.bool false)] hfl ts0 (qs1 (mayPoint_qc x y _ h1)) rfl rfl (by kernel_rfl)
  | true =>
    cases h2 : mayV a with
    | false => exact PC.run mixed Tryz.func56 [.res (.bool true), .res (.bool false)] hfl ts0 (qs2 (mayPoint_qc x y _ h1) (mayV_qc a _ h2)) rfl rfl (by kernel_rfl)
    | true =>
      cases h3 : mayV d with
      | false => exact PC.run mixed Tryz.func56 [.res (.bool true), .res (.bool true), .res (.bool false)] hfl ts0 (qs3 (mayPoint_qc x y _ h1) (mayV_qc a _ h2) (mayV_qc d _ h3)) rfl rfl (by kernel_rfl)
      | true =>
        by_cases c1 : -70368744177664 ≤ b
        · rw [decide_eq_true c1]
          by_cases c2 : b ≤ 70368744177664
          · rw [decide_eq_true c2]
            have hdet := QC.of_pc enters_detM (detM_pc ha hb hd)
            have hs := qsign (detI_sm ha.sm hb.sm hd.sm)
            exact PC.run mixed Tryz.func56 [.res (.bool true), .res (.bool true), .res (.bool true), .auto, .tst true, .tst true, .res (wz (detI a b d)), .res (.int .i64 (signI (some (detI a b d))))] (v := .bool (decide (signI (some (detI a b d)) > 0))) hfl (ts2 (tT c1) (tT c2))
              (qs5 (mayPoint_qc x y _ h1) (mayV_qc a _ h2) (mayV_qc d _ h3) hdet hs) rfl (by simp only [Bool.true_and]; exact congrArg Value.bool (decide_eq_decide.2 signI_pos)) (by kernel_rfl)
          · rw [decide_eq_false c2]
            exact PC.run mixed Tryz.func56 [.res (.bool true), .res (.bool true), .res (.bool true), .auto, .tst true, .tst false] hfl (ts2 (tT c1) (tF c2)) (qs3 (mayPoint_qc x y _ h1) (mayV_qc a _ h2) (mayV_qc d _ h3)) rfl rfl (by kernel_rfl)
        · rw [decide_eq_false c1]
          exact PC.run mixed Tryz.func56 [.res (.bool true), .res (.bool true), .res (.bool true), .auto, .tst false] hfl (ts1 (tF c1)) (qs3 (mayPoint_qc x y _ h1) (mayV_qc a _ h2) (mayV_qc d _ h3)) rfl rfl (by kernel_rfl)
theorem enters_mayL : ∀ us w, (callFunc 56 us).run Tryz.prog w = .ok (.enter 56 us) w := enters Tryz.func56 rfl (by kernel_rfl)
theorem mayL_qc {a b d : Int} (x y : Int) (ha : I64 a) (hb : I64 b) (hd : I64 d) (r : Bool) (h : mayL x y a b d = r) : QC Tryz.prog 56 [ell x y a b d] (.bool r) := h ▸ QC.of_pc enters_mayL (mayL_pc ha hb hd)

/-! ### In -/
def inE (x y a b d p q : Int) : Bool := mayL x y a b d && (within p q 1073741824 && holdsI a b d (p - x) (q - y))
theorem inE_pc {x y a b d p q : Int} (ha : I64 a) (hb : I64 b) (hd : I64 d) : PC Tryz.prog 20 [ell x y a b d, pt p q] (.bool (inE x y a b d p q)) := by
  have hfl : [ell x y a b d, pt p q].all flat = true := by simp [flat_ell, flat_pt]
  unfold inE
  cases h1 : mayL x y a b d with
  | false => exact PC.run mixed Tryz.func20 [.res (.bool false)] hfl ts0 (qs1 (mayL_qc x y ha hb hd _ h1)) rfl rfl (by kernel_rfl)
  | true =>
    cases h2 : within p q 1073741824 with
    | false => exact PC.run mixed Tryz.func20 [.res (.bool true), .res (.bool false)] hfl ts0 (qs2 (mayL_qc x y ha hb hd _ h1) (within_qc p q 1073741824 (by omega) (by omega) _ h2)) rfl rfl (by kernel_rfl)
    | true =>
      have g1 := mayL_iff.1 h1
      have g2 := within_iff.1 h2
      have e1 : IntKind.i64.wrap (p - x) = p - x := i64_wrap (by omega) (by omega)
      have e2 : IntKind.i64.wrap (q - y) = q - y := i64_wrap (by omega) (by omega)
      have hh : QC Tryz.prog 58 [sym a b d, pt (IntKind.i64.wrap (p - x)) (IntKind.i64.wrap (q - y))] (.bool (holdsI a b d (p - x) (q - y))) := by
        rw [e1, e2]
        exact holdsM_qc ha hb hd ⟨by omega, by omega⟩ ⟨by omega, by omega⟩ _ rfl
      exact PC.run mixed Tryz.func20 [.res (.bool true), .res (.bool true), .res (.bool (holdsI a b d (p - x) (q - y)))] hfl ts0 (qs3 (mayL_qc x y ha hb hd _ h1) (within_qc p q 1073741824 (by omega) (by omega) _ h2) hh) rfl rfl (by kernel_rfl)
theorem enters_inE : ∀ us w, (callFunc 20 us).run Tryz.prog w = .ok (.enter 20 us) w := enters Tryz.func20 rfl (by kernel_rfl)
theorem inE_qc {a b d : Int} (x y p q : Int) (ha : I64 a) (hb : I64 b) (hd : I64 d) (r : Bool) (h : inE x y a b d p q = r) : QC Tryz.prog 20 [ell x y a b d, pt p q] (.bool r) := h ▸ QC.of_pc enters_inE (inE_pc ha hb hd)

/-! ### Ball, Box, Shift -/
def ballV (x y r : Int) : Value := match mayP x y && mayR r with | true => ellT x y (r * r) 0 (r * r) 0 | false => ellT 0 0 0 0 0 1
theorem ball_pc (x y r : Int) : PC Tryz.prog 18 [pt x y, .int .i64 r] (ballV x y r) := by
  have hfl : [pt x y, Value.int .i64 r].all flat = true := by simp [flat_pt]; rfl
  unfold ballV
  cases h1 : mayP x y with
  | false => exact PC.run mixed Tryz.func18 [.res (.bool false)] hfl ts0 (qs1 (mayPoint_qc x y _ h1)) (flat_ellT 0 0 0 0 0 1) rfl (by kernel_rfl)
  | true =>
    cases h2 : mayR r with
    | false => exact PC.run mixed Tryz.func18 [.res (.bool true), .res (.bool false)] hfl ts0 (qs2 (mayPoint_qc x y _ h1) (mayR_qc r _ h2)) (flat_ellT 0 0 0 0 0 1) rfl (by kernel_rfl)
    | true =>
      have g := mayR_iff.1 h2
      have b1 : r * r ≤ 4194304 * 4194304 := Int.mul_le_mul g.2 g.2 (by omega) (by omega)
      have b0 : 0 ≤ r * r := Int.mul_nonneg (by omega) (by omega)
      have e : IntKind.i64.wrap (r * r) = r * r := i64_wrap (by omega) (by omega)
      have h := PC.run (args := [pt x y, Value.int .i64 r]) (v := ellT x y (IntKind.i64.wrap (r * r)) 0 (IntKind.i64.wrap (r * r)) 0) mixed Tryz.func18 [.res (.bool true), .res (.bool true)] hfl ts0 (qs2 (mayPoint_qc x y _ h1) (mayR_qc r _ h2)) (flat_ellT _ _ _ _ _ _) rfl (by kernel_rfl)
      rw [e] at h
      exact h
theorem enters_ball : ∀ us w, (callFunc 18 us).run Tryz.prog w = .ok (.enter 18 us) w := enters Tryz.func18 rfl (by kernel_rfl)
theorem ball_qc (x y r : Int) (v : Value) (h : ballV x y r = v) : QC Tryz.prog 18 [pt x y, .int .i64 r] v := h ▸ QC.of_pc enters_ball (ball_pc x y r)
def boxV (x y p q : Int) : Value := match mayP x y && (mayR p && mayR q) with | true => ellT x y (2 * p * p) 0 (2 * q * q) 0 | false => ellT 0 0 0 0 0 1
def shiftV (x y a b d p q : Int) : Value := match mayL x y a b d && within p q 4194304 with
  | true => match mayP (x + p) (y + q) with | true => ellT (x + p) (y + q) a b d 0 | false => ellT 0 0 0 0 0 2
  | false => ellT 0 0 0 0 0 1
/-! ### Trace, Radius, Hull, Along -/
def trI (x y a b d : Int) : Int := match mayL x y a b d with | true => a + d | false => 0
theorem trI_i64 (x y a b d : Int) : I64 (trI x y a b d) ∧ 0 ≤ trI x y a b d ∧ trI x y a b d ≤ 140737488355328 := by
  unfold trI I64
  cases h : mayL x y a b d with
  | false => simp only; omega
  | true =>
    have := mayL_iff.1 h
    simp only
    omega
theorem trace_pc {x y a b d : Int} (ha : I64 a) (hb : I64 b) (hd : I64 d) : PC Tryz.prog 116 [ell x y a b d] (.int .i64 (trI x y a b d)) := by
  have hfl : [ell x y a b d].all flat = true := by simp [flat_ell]
  unfold trI
  cases h1 : mayL x y a b d with
  | false => exact PC.run mixed Tryz.func116 [.res (.bool false)] hfl ts0 (qs1 (mayL_qc x y ha hb hd _ h1)) rfl rfl (by kernel_rfl)
  | true =>
    have g1 := mayL_iff.1 h1
    have e1 : IntKind.i64.wrap (a + d) = a + d := i64_wrap (by omega) (by omega)
    have h := PC.run (args := [ell x y a b d]) (v := .int .i64 (IntKind.i64.wrap (a + d))) mixed Tryz.func116 [.res (.bool true)] hfl ts0 (qs1 (mayL_qc x y ha hb hd _ h1)) rfl rfl (by kernel_rfl)
    rw [e1] at h
    exact h
theorem enters_trace : ∀ us w, (callFunc 116 us).run Tryz.prog w = .ok (.enter 116 us) w := enters Tryz.func116 rfl (by kernel_rfl)
theorem trace_qc {a b d : Int} (x y : Int) (ha : I64 a) (hb : I64 b) (hd : I64 d) : QC Tryz.prog 116 [ell x y a b d] (.int .i64 (trI x y a b d)) := QC.of_pc enters_trace (trace_pc ha hb hd)
def radI (x y a b d : Int) : Int := upI (trI x y a b d)
theorem radius_pc {x y a b d : Int} (ha : I64 a) (hb : I64 b) (hd : I64 d) : PC Tryz.prog 100 [ell x y a b d] (.int .i64 (radI x y a b d)) :=
  PC.run mixed Tryz.func100 [.res (.int .i64 (trI x y a b d)), .res (.int .i64 (radI x y a b d))] (by simp [flat_ell]) ts0 (qs2 (trace_qc x y ha hb hd) (up_qc (trI_i64 x y a b d).1.1 (trI_i64 x y a b d).1.2)) rfl rfl (by kernel_rfl)
theorem enters_radius : ∀ us w, (callFunc 100 us).run Tryz.prog w = .ok (.enter 100 us) w := enters Tryz.func100 rfl (by kernel_rfl)
theorem radius_qc {a b d : Int} (x y : Int) (ha : I64 a) (hb : I64 b) (hd : I64 d) : QC Tryz.prog 100 [ell x y a b d] (.int .i64 (radI x y a b d)) := QC.of_pc enters_radius (radius_pc ha hb hd)
def twoI (p q : Int) : Value := .tuple #[.int .i64 p, .int .i64 q]
def hullV (x y a b d : Int) : Value := match mayL x y a b d with | true => twoI (upI a) (upI d) | false => twoI 0 0
def alongV (x y a b d p q : Int) : Value := match mayL x y a b d && within p q 16777216 with | true => errI (csq (quadI a b d p q).natAbs : Nat) 0 | false => errI 0 1
end Go.Proofs.YtljolfnpncjklaaGreat.W
/-! Ellipses: what is in, opposite and between, within which bounds. -/
namespace Go.Proofs.YtljolfnpncjklaaGreat.W
open Go Go.Ev Go.Wide

theorem holdsE_eq {a b d x y : Int} : holdsI a b d x y = psdI (a - x * x) (b - x * y) (d - y * y) := rfl
theorem sq_abs {x n : Int} (hn : 0 ≤ n) (h : x * x ≤ n * n) : -n ≤ x ∧ x ≤ n := by
  constructor
  · rcases Int.lt_or_le x (-n) with h1 | h1
    · have := Int.mul_le_mul (show n + 1 ≤ -x by omega) (show n + 1 ≤ -x by omega) (by omega) (by omega)
      rw [Int.neg_mul_neg] at this
      have e : (n + 1) * (n + 1) = n * n + 2 * n + 1 := by grind
      omega
    · exact h1
  · rcases Int.lt_or_le n x with h1 | h1
    · have := Int.mul_le_mul (show n + 1 ≤ x by omega) (show n + 1 ≤ x by omega) (by omega) (by omega)
      have e : (n + 1) * (n + 1) = n * n + 2 * n + 1 := by grind
      omega
    · exact h1
theorem holds_sq {a b d x y : Int} (h : holdsI a b d x y = true) : x * x ≤ a ∧ y * y ≤ d := by
  have := psdI_iff.1 h
  omega
/-- What a valid ellipse holds is not far from its centre. -/
theorem inE_near {x y a b d p q : Int} (h : inE x y a b d p q = true) : mayL x y a b d = true ∧ within p q 1073741824 = true ∧ holdsI a b d (p - x) (q - y) = true ∧ (-8388608 ≤ p - x ∧ p - x ≤ 8388608) ∧ (-8388608 ≤ q - y ∧ q - y ≤ 8388608) := by
  simp only [inE, Bool.and_eq_true] at h
  obtain ⟨h1, h2, h3⟩ := h
  have g := mayL_iff.1 h1
  obtain ⟨s1, s2⟩ := holds_sq h3
  exact ⟨h1, h2, h3, sq_abs (by omega) (by omega), sq_abs (by omega) (by omega)⟩
theorem inE_mk {x y a b d p q : Int} (h1 : mayL x y a b d = true) (h2 : (-1073741824 ≤ p ∧ p ≤ 1073741824) ∧ (-1073741824 ≤ q ∧ q ≤ 1073741824)) (h3 : holdsI a b d (p - x) (q - y) = true) : inE x y a b d p q = true := by
  unfold inE
  rw [h1, within_iff.2 h2, h3]
  rfl
theorem holds_neg {a b d x y : Int} (h : holdsI a b d x y = true) : holdsI a b d (-x) (-y) = true := by
  rw [holdsE_eq, Int.neg_mul_neg, Int.neg_mul_neg, Int.neg_mul_neg]; exact h
theorem inE_other {x y a b d p q : Int} (h : inE x y a b d p q = true) : inE x y a b d (2 * x - p) (2 * y - q) = true := by
  obtain ⟨h1, h2, h3, h4, h5⟩ := inE_near h
  have g := mayL_iff.1 h1
  refine inE_mk h1 (by omega) ?_
  have := holds_neg h3
  rwa [show -(p - x) = 2 * x - p - x by omega, show -(q - y) = 2 * y - q - y by omega] at this
theorem holds_mid {a b d u1 u2 v1 v2 m1 m2 : Int} (e1 : u1 + v1 = 2 * m1) (e2 : u2 + v2 = 2 * m2) (h : holdsI a b d u1 u2 = true) (h' : holdsI a b d v1 v2 = true) : holdsI a b d m1 m2 = true := by
  rw [holdsE_eq] at *
  refine psd_iff_quad.2 fun s t => ?_
  have p1 := psd_iff_quad.1 h s t
  have p2 := psd_iff_quad.1 h' s t
  have p3 := sq_nn ((u1 - v1) * s + (u2 - v2) * t)
  have f1 : v1 = 2 * m1 - u1 := by omega
  have f2 : v2 = 2 * m2 - u2 := by omega
  subst f1 f2
  have e : 4 * quadI (a - m1 * m1) (b - m1 * m2) (d - m2 * m2) s t = 2 * quadI (a - u1 * u1) (b - u1 * u2) (d - u2 * u2) s t + 2 * quadI (a - (2 * m1 - u1) * (2 * m1 - u1)) (b - (2 * m1 - u1) * (2 * m2 - u2)) (d - (2 * m2 - u2) * (2 * m2 - u2)) s t + ((u1 - (2 * m1 - u1)) * s + (u2 - (2 * m2 - u2)) * t) * ((u1 - (2 * m1 - u1)) * s + (u2 - (2 * m2 - u2)) * t) := by
    simp only [quadI_eq]
    grind
  omega
theorem inE_mid {x y a b d p q u v m n : Int} (e1 : p + u = 2 * m) (e2 : q + v = 2 * n) (h : inE x y a b d p q = true) (h' : inE x y a b d u v = true) : inE x y a b d m n = true := by
  obtain ⟨h1, h2, h3, _, _⟩ := inE_near h
  obtain ⟨_, h2', h3', _, _⟩ := inE_near h'
  have g := within_iff.1 h2
  have g' := within_iff.1 h2'
  exact inE_mk h1 (by omega) (holds_mid (by omega) (by omega) h3 h3')
theorem inE_wider {x y a b d a' b' d' p q : Int} (hm : mayL x y a' b' d' = true) (hl : leastI a' b' d' a b d = true) (h : inE x y a b d p q = true) : inE x y a' b' d' p q = true := by
  obtain ⟨h1, h2, h3, _, _⟩ := inE_near h
  obtain ⟨_, _, h4⟩ := leastI_iff.1 hl
  refine inE_mk hm (within_iff.1 h2) ?_
  have h5 := psd_add h4 h3
  rw [holdsE_eq]
  generalize p - x = s at *
  generalize q - y = t at *
  rwa [show a' - a + (a - s * s) = a' - s * s by omega, show b' - b + (b - s * t) = b' - s * t by omega, show d' - d + (d - t * t) = d' - t * t by omega] at h5
theorem trI_wider {x y a b d a' b' d' : Int} (h1 : mayL x y a b d = true) (h2 : mayL x y a' b' d' = true) (hl : leastI a' b' d' a b d = true) : trI x y a' b' d' ≥ trI x y a b d := by
  obtain ⟨_, _, h4⟩ := leastI_iff.1 hl
  have := psdI_iff.1 h4
  unfold trI
  rw [h1, h2]
  simp only
  omega
theorem ell_refl (x y a b d : Int) : ((decide (x = x) && (decide (y = y) && true)) && ((decide (a = a) && (decide (b = b) && (decide (d = d) && true))) && true)) = true := by simp
theorem mayL_move {x y a b d p q : Int} (h : mayL x y a b d = true) (hp : mayP p q = true) : mayL p q a b d = true := by
  simp only [mayL, Bool.and_eq_true] at h ⊢
  exact ⟨hp, h.2⟩
theorem trI_move {x y a b d p q : Int} (h : mayL x y a b d = true) (h' : mayL p q a b d = true) : trI p q a b d = trI x y a b d := by
  unfold trI
  rw [h, h']
end Go.Proofs.YtljolfnpncjklaaGreat.W
/-! Ellipses: balls, boxes, hulls: the bounds in numbers. -/
namespace Go.Proofs.YtljolfnpncjklaaGreat.W
open Go Go.Ev Go.Wide

/-! ### Balls and boxes -/
theorem r_sq {r : Int} (h : mayR r = true) : 1 ≤ r * r ∧ r * r ≤ 17592186044416 := by
  have g := mayR_iff.1 h
  have b1 : r * r ≤ 4194304 * 4194304 := Int.mul_le_mul g.2 g.2 (by omega) (by omega)
  have b0 : 1 * 1 ≤ r * r := Int.mul_le_mul g.1 g.1 (by omega) (by omega)
  omega
theorem ball_may {x y r : Int} (hp : mayP x y = true) (h : mayR r = true) : mayL x y (r * r) 0 (r * r) = true := by
  have g := r_sq h
  have hp' := within_iff.1 hp
  have := Int.mul_pos (show 0 < r * r by omega) (show 0 < r * r by omega)
  exact mayL_iff.2 ⟨by omega, by omega, by omega, by omega, by unfold detI; omega⟩
theorem ball_holds {r x y : Int} (h : 1 ≤ r * r) : holdsI (r * r) 0 (r * r) x y = decide (x * x + y * y ≤ r * r) := by
  have hx := sq_nn x
  have hy := sq_nn y
  rw [Bool.eq_iff_iff, decide_eq_true_eq, holdsE_eq, psdI_iff]
  have e : (r * r - x * x) * (r * r - y * y) - (0 - x * y) * (0 - x * y) = r * r * (r * r - (x * x + y * y)) := by grind
  rw [e]
  constructor
  · rintro ⟨_, _, h3⟩
    have := nn_of_mul (show 0 < r * r by omega) h3
    omega
  · intro h1
    exact ⟨by omega, by omega, Int.mul_nonneg (by omega) (by omega)⟩
/-- A ball holds its points, and no others. -/
theorem ball_in {e f r p q : Int} (hp : mayP e f = true) (h : mayR r = true) (hw : (-1073741824 ≤ p ∧ p ≤ 1073741824) ∧ (-1073741824 ≤ q ∧ q ≤ 1073741824)) :
    inE e f (r * r) 0 (r * r) p q = decide ((p - e) * (p - e) + (q - f) * (q - f) ≤ r * r) := by
  unfold inE
  rw [ball_may hp h, within_iff.2 hw, ball_holds (r_sq h).1]
  rfl
theorem box_sq {i : Int} (h : mayR i = true) : 1 ≤ 2 * i * i ∧ 2 * i * i ≤ 35184372088832 := by
  have g := r_sq h
  rw [Int.mul_assoc]
  omega
theorem box_may {x y i j : Int} (hp : mayP x y = true) (h : mayR i = true) (h' : mayR j = true) : mayL x y (2 * i * i) 0 (2 * j * j) = true := by
  have g := box_sq h
  have g' := box_sq h'
  have hp' := within_iff.1 hp
  have := Int.mul_pos (show 0 < 2 * i * i by omega) (show 0 < 2 * j * j by omega)
  exact mayL_iff.2 ⟨by omega, by omega, by omega, by omega, by unfold detI; omega⟩
theorem box_holds {i j x y : Int} (h1 : x * x = i * i) (h2 : y * y = j * j) : holdsI (2 * i * i) 0 (2 * j * j) x y = true := by
  have hi := sq_nn i
  have hj := sq_nn j
  rw [holdsE_eq, psdI_iff, h1, h2]
  have e : (0 - x * y) * (0 - x * y) = i * i * (j * j) := by rw [← h1, ← h2]; grind
  have e2 : (2 * i * i - i * i) * (2 * j * j - j * j) = i * i * (j * j) := by grind
  have e3 : 2 * i * i = 2 * (i * i) := Int.mul_assoc _ _ _
  have e4 : 2 * j * j = 2 * (j * j) := Int.mul_assoc _ _ _
  rw [e, e2]
  omega
theorem box_holds0 {i j : Int} : holdsI (2 * i * i) 0 (2 * j * j) 0 0 = true := by
  have hi := sq_nn i
  have hj := sq_nn j
  have e3 : 2 * i * i = 2 * (i * i) := Int.mul_assoc _ _ _
  have e4 : 2 * j * j = 2 * (j * j) := Int.mul_assoc _ _ _
  rw [holdsE_eq, psdI_iff, e3, e4]
  have := Int.mul_nonneg (show 0 ≤ 2 * (i * i) by omega) (show 0 ≤ 2 * (j * j) by omega)
  simp only [Int.mul_zero, Int.sub_zero]
  omega
def wa (e i : Int) : Int := IntKind.i64.wrap (e + i)
def nH (i : Int) : Int := IntKind.i64.wrap (0 - i)
theorem wa_eq {e i : Int} (he : -4194304 ≤ e ∧ e ≤ 4194304) (hi : -4194304 ≤ i ∧ i ≤ 4194304) : wa e i = e + i := i64_wrap (by omega) (by omega)
theorem nH_eq {i : Int} (hi : -4194304 ≤ i ∧ i ≤ 4194304) : nH i = -i := by
  unfold nH
  rw [i64_wrap (by omega) (by omega)]
  omega
theorem box_in {e f i j s t : Int} (hp : mayP e f = true) (h : mayR i = true) (h' : mayR j = true) (hs : s = i ∨ s = nH i) (ht : t = j ∨ t = nH j) : inE e f (2 * i * i) 0 (2 * j * j) (wa e s) (wa f t) = true := by
  have g := mayR_iff.1 h
  have g' := mayR_iff.1 h'
  have hp' := within_iff.1 hp
  rw [nH_eq (by omega)] at hs ht
  rw [wa_eq (by omega) (by omega), wa_eq (by omega) (by omega)]
  refine inE_mk (box_may hp h h') (by omega) (box_holds ?_ ?_)
  · rw [show e + s - e = s by omega]
    rcases hs with rfl | rfl
    · rfl
    · exact Int.neg_mul_neg _ _
  · rw [show f + t - f = t by omega]
    rcases ht with rfl | rfl
    · rfl
    · exact Int.neg_mul_neg _ _
theorem box_in0 {e f i j : Int} (hp : mayP e f = true) (h : mayR i = true) (h' : mayR j = true) : inE e f (2 * i * i) 0 (2 * j * j) (wa e 0) (wa f 0) = true := by
  have hp' := within_iff.1 hp
  rw [wa_eq (by omega) (by omega), wa_eq (by omega) (by omega)]
  refine inE_mk (box_may hp h h') (by omega) ?_
  rw [show e + 0 - e = 0 by omega, show f + 0 - f = 0 by omega]
  exact box_holds0

/-! ### Bounds of an ellipse -/
theorem csq_min {n a : Nat} (h : n ≤ a * a) : csq n ≤ a := by
  have s := isq_spec n
  unfold csq
  split
  · rcases Nat.lt_or_ge (isq n) a with h1 | h1
    · omega
    · have := sq_le_of_le h1
      omega
  · rcases Nat.lt_or_ge a (isq n) with h1 | h1
    · have := sq_lt_of_lt h1
      omega
    · omega
theorem upI_bounds {m K : Int} (h0 : 0 ≤ m) (hK : 0 ≤ K) (h : m ≤ K * K) : 0 ≤ upI m ∧ upI m ≤ K ∧ m ≤ upI m * upI m := by
  unfold upI
  obtain ⟨k, rfl⟩ : ∃ k : Nat, m = k := ⟨m.toNat, by omega⟩
  obtain ⟨l, rfl⟩ : ∃ l : Nat, K = l := ⟨K.toNat, by omega⟩
  rw [Int.toNat_natCast, ← Int.natCast_mul]
  rw [← Int.natCast_mul] at h
  have h1 := csq_min (n := k) (a := l) (by omega)
  have h2 := csq_sq k
  omega
theorem may_psd {x y a b d : Int} (h : mayL x y a b d = true) : psdI a b d = true := by
  have g := mayL_iff.1 h
  exact psdI_iff.2 ⟨by omega, by omega, by have := g.2.2.2.2; unfold detI at this; omega⟩
/-- The square form in a direction, and what it bounds. -/
theorem along_facts {x y a b d g k : Int} (h : mayL x y a b d = true) (hw : within g k 16777216 = true) : 0 ≤ quadI a b d g k ∧ csq (quadI a b d g k).natAbs ≤ 281474976710656 := by
  have h0 := quad_of_psd (may_psd h) g k
  refine ⟨h0, csq_min ?_⟩
  have m := mayL_iff.1 h
  have w := within_iff.1 hw
  have gg : g * g ≤ 16777216 * 16777216 := by
    have := sq_nn g
    rcases Int.le_total 0 g with hg | hg
    · exact Int.mul_le_mul w.1.2 w.1.2 hg (by omega)
    · have := Int.mul_le_mul (show -g ≤ 16777216 by omega) (show -g ≤ 16777216 by omega) (by omega) (by omega)
      rwa [Int.neg_mul_neg] at this
  have kk : k * k ≤ 16777216 * 16777216 := by
    rcases Int.le_total 0 k with hk | hk
    · exact Int.mul_le_mul w.2.2 w.2.2 hk (by omega)
    · have := Int.mul_le_mul (show -k ≤ 16777216 by omega) (show -k ≤ 16777216 by omega) (by omega) (by omega)
      rwa [Int.neg_mul_neg] at this
  have p1 := sq_nn (g - k)
  have p2 := sq_nn (g + k)
  have e1 : (g - k) * (g - k) = g * g + k * k - 2 * (g * k) := by grind
  have e2 : (g + k) * (g + k) = g * g + k * k + 2 * (g * k) := by grind
  have n1 := sq_nn g
  have n2 := sq_nn k
  have ta : a * (g * g) ≤ 70368744177664 * 281474976710656 := Int.mul_le_mul (by omega) (by omega) n1 (by omega)
  have td : d * (k * k) ≤ 70368744177664 * 281474976710656 := Int.mul_le_mul (by omega) (by omega) n2 (by omega)
  have tb : b * (g * k) ≤ 70368744177664 * 281474976710656 := by
    rcases Int.le_total 0 (g * k) with hg | hg
    · exact Int.mul_le_mul (by omega) (by omega) hg (by omega)
    · have := Int.mul_le_mul (show -b ≤ 70368744177664 by omega) (show -(g * k) ≤ 281474976710656 by omega) (by omega) (by omega)
      rwa [Int.neg_mul_neg] at this
  rw [quadI_eq] at *
  have e3 : (281474976710656 * 281474976710656 : Nat) = 79228162514264337593543950336 := by decide
  rw [e3]
  omega
theorem along_holds {a b d g k s t : Int} (h : holdsI a b d s t = true) (h0 : 0 ≤ quadI a b d g k) : -((csq (quadI a b d g k).natAbs : Nat) : Int) ≤ g * s + k * t ∧ g * s + k * t ≤ ((csq (quadI a b d g k).natAbs : Nat) : Int) := by
  have h1 := psd_iff_quad.1 (holdsE_eq ▸ h) g k
  have e : quadI (a - s * s) (b - s * t) (d - t * t) g k = quadI a b d g k - (g * s + k * t) * (g * s + k * t) := by
    simp only [quadI_eq]
    grind
  rw [e] at h1
  have h2 := csq_sq (quadI a b d g k).natAbs
  have h3 : ((csq (quadI a b d g k).natAbs * csq (quadI a b d g k).natAbs : Nat) : Int) = ((csq (quadI a b d g k).natAbs : Nat) : Int) * ((csq (quadI a b d g k).natAbs : Nat) : Int) := Int.natCast_mul _ _
  exact sq_abs (by omega) (by omega)
theorem inE_shift {x y a b d p q u v : Int} (h : inE x y a b d p q = true) (hw : within u v 4194304 = true) (hp : mayP (x + u) (y + v) = true) : inE (x + u) (y + v) a b d (IntKind.i64.wrap (p + u)) (IntKind.i64.wrap (q + v)) = true := by
  obtain ⟨h1, h2, h3, h4, h5⟩ := inE_near h
  have g := mayL_iff.1 h1
  have w := within_iff.1 hw
  have e1 : IntKind.i64.wrap (p + u) = p + u := i64_wrap (by omega) (by omega)
  have e2 : IntKind.i64.wrap (q + v) = q + v := i64_wrap (by omega) (by omega)
  rw [e1, e2]
  refine inE_mk (mayL_move h1 hp) (by omega) ?_
  rwa [show p + u - (x + u) = p - x by omega, show q + v - (y + v) = q - y by omega]
theorem inE_centre {x y a b d : Int} (h : mayL x y a b d = true) : inE x y a b d x y = true := by
  have g := mayL_iff.1 h
  refine inE_mk h (by omega) ?_
  rw [Int.sub_self, Int.sub_self, holdsE_eq]
  simpa using may_psd h
theorem wrapS {z : Int} (h : -4611686018427387904 ≤ z ∧ z ≤ 4611686018427387904) : IntKind.i64.wrap z = z := i64_wrap (by omega) (by omega)
theorem sq_le {z n : Int} (h : -n ≤ z ∧ z ≤ n) : z * z ≤ n * n := by
  rcases Int.le_total 0 z with hz | hz
  · exact Int.mul_le_mul h.2 h.2 hz (by omega)
  · have := Int.mul_le_mul (show -z ≤ n by omega) (show -z ≤ n by omega) (by omega) (by omega)
    rwa [Int.neg_mul_neg] at this
theorem mul_abs {g s n m : Int} (hg : -n ≤ g ∧ g ≤ n) (hs : -m ≤ s ∧ s ≤ m) : -(n * m) ≤ g * s ∧ g * s ≤ n * m := by
  have a1 : g * s ≤ n * m := by
    rcases Int.le_total 0 g with h1 | h1
    · rcases Int.le_total 0 s with h2 | h2
      · exact Int.mul_le_mul hg.2 hs.2 h2 (by omega)
      · have t1 := Int.mul_nonneg h1 (show 0 ≤ -s by omega)
        have t2 := Int.mul_nonneg (show 0 ≤ n by omega) (show 0 ≤ m by omega)
        rw [Int.mul_neg] at t1
        omega
    · rcases Int.le_total 0 s with h2 | h2
      · have t1 := Int.mul_nonneg (show 0 ≤ -g by omega) h2
        have t2 := Int.mul_nonneg (show 0 ≤ n by omega) (show 0 ≤ m by omega)
        rw [Int.neg_mul] at t1
        omega
      · have := Int.mul_le_mul (show -g ≤ n by omega) (show -s ≤ m by omega) (by omega) (by omega)
        rwa [Int.neg_mul_neg] at this
  have a2 : -(g * s) ≤ n * m := by
    rw [← Int.neg_mul]
    rcases Int.le_total 0 (-g) with h1 | h1
    · rcases Int.le_total 0 s with h2 | h2
      · exact Int.mul_le_mul (by omega) hs.2 h2 (by omega)
      · have t1 := Int.mul_nonneg h1 (show 0 ≤ -s by omega)
        have t2 := Int.mul_nonneg (show 0 ≤ n by omega) (show 0 ≤ m by omega)
        rw [Int.mul_neg] at t1
        omega
    · rcases Int.le_total 0 s with h2 | h2
      · have t1 := Int.mul_nonneg (show 0 ≤ g by omega) h2
        have t2 := Int.mul_nonneg (show 0 ≤ n by omega) (show 0 ≤ m by omega)
        rw [Int.neg_mul]
        omega
      · have := Int.mul_le_mul (show g ≤ n by omega) (show -s ≤ m by omega) (by omega) (by omega)
        rw [Int.mul_neg, ← Int.neg_mul] at this
        exact this
  omega
end Go.Proofs.YtljolfnpncjklaaGreat.W
