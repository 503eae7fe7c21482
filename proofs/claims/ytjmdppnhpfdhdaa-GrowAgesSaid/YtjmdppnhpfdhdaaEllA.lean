/-
  Package ellip: what may be, what is in, balls, boxes, shifts, traces.
-/
import Derived.Test.YtjmdppnhpfdhdaaMatC
import Derived.Test.YtjmdppnhpfdhdaaRootA
namespace Go.Proofs.Ytjmdppnhpfdhdaa.W
open Go Go.Ev Go.Wide

def ell (x y a b d : Int) : Value := .agg #[.int .i64 x, .int .i64 y, .int .i64 a, .int .i64 b, .int .i64 d]
theorem flat_ell (x y a b d : Int) : flat (ell x y a b d) = true := by kernel_rfl
def ellT (x y a b d : Int) (e : Nat) : Value := .tuple #[ell x y a b d, .int .i64 e]
theorem flat_ellT (x y a b d : Int) (e : Nat) : flat (ellT x y a b d e) = true := by kernel_rfl
def within (x y m : Int) : Bool := decide (-m ≤ x) && (decide (x ≤ m) && (decide (-m ≤ y) && decide (y ≤ m)))
theorem within_iff {x y m : Int} : within x y m = true ↔ (-m ≤ x ∧ x ≤ m) ∧ (-m ≤ y ∧ y ≤ m) := by
  simp only [within, Bool.and_eq_true, decide_eq_true_eq]
  omega
theorem within_pc {x y m : Int} (h0 : 0 ≤ m) (h1 : m ≤ 9223372036854775807) : PC Try.prog 30 [pt x y, .int .i64 m] (.bool (within x y m)) := by
  have hfl : [pt x y, Value.int .i64 m].all flat = true := by simp [flat_pt]; rfl
  have e : IntKind.i64.wrap (0 - m) = -m := by rw [i64_wrap (by omega) (by omega)]; omega
  unfold within
  by_cases c1 : -m ≤ x
  · have d1 : IntKind.i64.wrap (0 - m) ≤ x := by rw [e]; exact c1
    rw [decide_eq_true c1]
    by_cases c2 : x ≤ m
    · rw [decide_eq_true c2]
      by_cases c3 : -m ≤ y
      · have d3 : IntKind.i64.wrap (0 - m) ≤ y := by rw [e]; exact c3
        rw [decide_eq_true c3]
        exact PC.run mixed Try.func30 [.tst true, .tst true, .tst true] hfl (ts3 (tT d1) (tT c2) (tT d3)) qs0 rfl rfl (by kernel_rfl)
      · have d3 : ¬ IntKind.i64.wrap (0 - m) ≤ y := by rw [e]; exact c3
        rw [decide_eq_false c3]
        exact PC.run mixed Try.func30 [.tst true, .tst true, .tst false] hfl (ts3 (tT d1) (tT c2) (tF d3)) qs0 rfl rfl (by kernel_rfl)
    · rw [decide_eq_false c2]
      exact PC.run mixed Try.func30 [.tst true, .tst false] hfl (ts2 (tT d1) (tF c2)) qs0 rfl rfl (by kernel_rfl)
  · have d1 : ¬ IntKind.i64.wrap (0 - m) ≤ x := by rw [e]; exact c1
    rw [decide_eq_false c1]
    exact PC.run mixed Try.func30 [.tst false] hfl (ts1 (tF d1)) qs0 rfl rfl (by kernel_rfl)
theorem enters_within : ∀ us w, (callFunc 30 us).run Try.prog w = .ok (.enter 30 us) w := enters Try.func30 rfl (by kernel_rfl)
theorem within_qc (x y m : Int) (h0 : 0 ≤ m) (h1 : m ≤ 9223372036854775807) (r : Bool) (h : within x y m = r) : QC Try.prog 30 [pt x y, .int .i64 m] (.bool r) := h ▸ QC.of_pc enters_within (within_pc h0 h1)
def mayP (x y : Int) : Bool := within x y 4194304
theorem mayPoint_pc (x y : Int) : PC Try.prog 32 [pt x y] (.bool (mayP x y)) :=
  PC.run mixed Try.func32 [.res (.bool (mayP x y))] (by simp [flat_pt]) ts0 (qs1 (within_qc x y 4194304 (by omega) (by omega) _ rfl)) rfl rfl (by kernel_rfl)
theorem enters_mayPoint : ∀ us w, (callFunc 32 us).run Try.prog w = .ok (.enter 32 us) w := enters Try.func32 rfl (by kernel_rfl)
theorem mayPoint_qc (x y : Int) (r : Bool) (h : mayP x y = r) : QC Try.prog 32 [pt x y] (.bool r) := h ▸ QC.of_pc enters_mayPoint (mayPoint_pc x y)
def mayV (n : Int) : Bool := decide (1 ≤ n) && decide (n ≤ 70368744177664)
theorem mayV_iff {n : Int} : mayV n = true ↔ 1 ≤ n ∧ n ≤ 70368744177664 := by simp [mayV]
theorem mayV_pc (n : Int) : PC Try.prog 33 [.int .i64 n] (.bool (mayV n)) := by
  by_cases h : 1 ≤ n
  · exact PC.run mixed Try.func33 [.tst true] (rfl) (ts1 (tT h)) (trivial) (rfl) (by unfold mayV; rw [decide_eq_true h, Bool.true_and]) (by kernel_rfl)
  · exact PC.run mixed Try.func33 [.tst false] (rfl) (ts1 (tF h)) (trivial) (rfl) (by unfold mayV; rw [decide_eq_false h, Bool.false_and]) (by kernel_rfl)
theorem enters_mayV : ∀ us w, (callFunc 33 us).run Try.prog w = .ok (.enter 33 us) w := enters Try.func33 rfl (by kernel_rfl)
theorem mayV_qc (n : Int) (r : Bool) (h : mayV n = r) : QC Try.prog 33 [.int .i64 n] (.bool r) := h ▸ QC.of_pc enters_mayV (mayV_pc n)
def mayR (n : Int) : Bool := decide (1 ≤ n) && decide (n ≤ 4194304)
theorem mayR_iff {n : Int} : mayR n = true ↔ 1 ≤ n ∧ n ≤ 4194304 := by simp [mayR]
theorem mayR_pc (n : Int) : PC Try.prog 54 [.int .i64 n] (.bool (mayR n)) := by
  by_cases h : 1 ≤ n
  · exact PC.run mixed Try.func54 [.tst true] (rfl) (ts1 (tT h)) (trivial) (rfl) (by unfold mayR; rw [decide_eq_true h, Bool.true_and]) (by kernel_rfl)
  · exact PC.run mixed Try.func54 [.tst false] (rfl) (ts1 (tF h)) (trivial) (rfl) (by unfold mayR; rw [decide_eq_false h, Bool.false_and]) (by kernel_rfl)
theorem enters_mayR : ∀ us w, (callFunc 54 us).run Try.prog w = .ok (.enter 54 us) w := enters Try.func54 rfl (by kernel_rfl)
theorem mayR_qc (n : Int) (r : Bool) (h : mayR n = r) : QC Try.prog 54 [.int .i64 n] (.bool r) := h ▸ QC.of_pc enters_mayR (mayR_pc n)

/-! ### May -/
def mayL (x y a b d : Int) : Bool := mayP x y && (mayV a && (mayV d && (decide (-70368744177664 ≤ b) && (decide (b ≤ 70368744177664) && decide (0 < detI a b d)))))
theorem mayL_iff {x y a b d : Int} : mayL x y a b d = true ↔ ((-4194304 ≤ x ∧ x ≤ 4194304) ∧ (-4194304 ≤ y ∧ y ≤ 4194304)) ∧ (1 ≤ a ∧ a ≤ 70368744177664) ∧ (1 ≤ d ∧ d ≤ 70368744177664) ∧ (-70368744177664 ≤ b ∧ b ≤ 70368744177664) ∧ 0 < detI a b d := by
  simp only [mayL, mayP, Bool.and_eq_true, within_iff, mayV_iff, decide_eq_true_eq]
  omega
theorem signI_pos {q : Int} : (signI (some q) > 0) ↔ 0 < q := by
  simp only [signI]
  split
  · omega
  · split <;> omega
theorem mayL_pc {x y a b d : Int} (ha : I64 a) (hb : I64 b) (hd : I64 d) : PC Try.prog 18 [ell x y a b d] (.bool (mayL x y a b d)) := by
  have hfl : [ell x y a b d].all flat = true := by simp [flat_ell]
  unfold mayL
  cases h1 : mayP x y with
  | false => exact PC.run mixed Try.func18 [.res (.bool false)] hfl ts0 (qs1 (mayPoint_qc x y _ h1)) rfl rfl (by kernel_rfl)
  | true =>
    cases h2 : mayV a with
    | false => exact PC.run mixed Try.func18 [.res (.bool true), .res (.bool false)] hfl ts0 (qs2 (mayPoint_qc x y _ h1) (mayV_qc a _ h2)) rfl rfl (by kernel_rfl)
    | true =>
      cases h3 : mayV d with
      | false => exact PC.run mixed Try.func18 [.res (.bool true), .res (.bool true), .res (.bool false)] hfl ts0 (qs3 (mayPoint_qc x y _ h1) (mayV_qc a _ h2) (mayV_qc d _ h3)) rfl rfl (by kernel_rfl)
      | true =>
        by_cases c1 : -70368744177664 ≤ b
        · rw [decide_eq_true c1]
          by_cases c2 : b ≤ 70368744177664
          · rw [decide_eq_true c2]
            have hdet := QC.of_pc enters_detM (detM_pc ha hb hd)
            have hs := qsign (detI_sm ha.sm hb.sm hd.sm)
            exact PC.run mixed Try.func18 [.res (.bool true), .res (.bool true), .res (.bool true), .auto, .tst true, .tst true, .res (wz (detI a b d)), .res (.int .i64 (signI (some (detI a b d))))] (v := .bool (decide (signI (some (detI a b d)) > 0))) hfl (ts2 (tT c1) (tT c2))
              (qs5 (mayPoint_qc x y _ h1) (mayV_qc a _ h2) (mayV_qc d _ h3) hdet hs) rfl (by simp only [Bool.true_and]; exact congrArg Value.bool (decide_eq_decide.2 signI_pos)) (by kernel_rfl)
          · rw [decide_eq_false c2]
            exact PC.run mixed Try.func18 [.res (.bool true), .res (.bool true), .res (.bool true), .auto, .tst true, .tst false] hfl (ts2 (tT c1) (tF c2)) (qs3 (mayPoint_qc x y _ h1) (mayV_qc a _ h2) (mayV_qc d _ h3)) rfl rfl (by kernel_rfl)
        · rw [decide_eq_false c1]
          exact PC.run mixed Try.func18 [.res (.bool true), .res (.bool true), .res (.bool true), .auto, .tst false] hfl (ts1 (tF c1)) (qs3 (mayPoint_qc x y _ h1) (mayV_qc a _ h2) (mayV_qc d _ h3)) rfl rfl (by kernel_rfl)
theorem enters_mayL : ∀ us w, (callFunc 18 us).run Try.prog w = .ok (.enter 18 us) w := enters Try.func18 rfl (by kernel_rfl)
theorem mayL_qc {a b d : Int} (x y : Int) (ha : I64 a) (hb : I64 b) (hd : I64 d) (r : Bool) (h : mayL x y a b d = r) : QC Try.prog 18 [ell x y a b d] (.bool r) := h ▸ QC.of_pc enters_mayL (mayL_pc ha hb hd)

/-! ### In -/
def inE (x y a b d p q : Int) : Bool := mayL x y a b d && (within p q 1073741824 && holdsI a b d (p - x) (q - y))
theorem inE_pc {x y a b d p q : Int} (ha : I64 a) (hb : I64 b) (hd : I64 d) : PC Try.prog 17 [ell x y a b d, pt p q] (.bool (inE x y a b d p q)) := by
  have hfl : [ell x y a b d, pt p q].all flat = true := by simp [flat_ell, flat_pt]
  unfold inE
  cases h1 : mayL x y a b d with
  | false => exact PC.run mixed Try.func17 [.res (.bool false)] hfl ts0 (qs1 (mayL_qc x y ha hb hd _ h1)) rfl rfl (by kernel_rfl)
  | true =>
    cases h2 : within p q 1073741824 with
    | false => exact PC.run mixed Try.func17 [.res (.bool true), .res (.bool false)] hfl ts0 (qs2 (mayL_qc x y ha hb hd _ h1) (within_qc p q 1073741824 (by omega) (by omega) _ h2)) rfl rfl (by kernel_rfl)
    | true =>
      have g1 := mayL_iff.1 h1
      have g2 := within_iff.1 h2
      have e1 : IntKind.i64.wrap (p - x) = p - x := i64_wrap (by omega) (by omega)
      have e2 : IntKind.i64.wrap (q - y) = q - y := i64_wrap (by omega) (by omega)
      have hh : QC Try.prog 31 [sym a b d, pt (IntKind.i64.wrap (p - x)) (IntKind.i64.wrap (q - y))] (.bool (holdsI a b d (p - x) (q - y))) := by
        rw [e1, e2]
        exact holdsM_qc ha hb hd ⟨by omega, by omega⟩ ⟨by omega, by omega⟩ _ rfl
      exact PC.run mixed Try.func17 [.res (.bool true), .res (.bool true), .res (.bool (holdsI a b d (p - x) (q - y)))] hfl ts0 (qs3 (mayL_qc x y ha hb hd _ h1) (within_qc p q 1073741824 (by omega) (by omega) _ h2) hh) rfl rfl (by kernel_rfl)
theorem enters_inE : ∀ us w, (callFunc 17 us).run Try.prog w = .ok (.enter 17 us) w := enters Try.func17 rfl (by kernel_rfl)
theorem inE_qc {a b d : Int} (x y p q : Int) (ha : I64 a) (hb : I64 b) (hd : I64 d) (r : Bool) (h : inE x y a b d p q = r) : QC Try.prog 17 [ell x y a b d, pt p q] (.bool r) := h ▸ QC.of_pc enters_inE (inE_pc ha hb hd)

/-! ### Ball, Box, Shift -/
def ballV (x y r : Int) : Value := match mayP x y && mayR r with | true => ellT x y (r * r) 0 (r * r) 0 | false => ellT 0 0 0 0 0 1
theorem ball_pc (x y r : Int) : PC Try.prog 28 [pt x y, .int .i64 r] (ballV x y r) := by
  have hfl : [pt x y, Value.int .i64 r].all flat = true := by simp [flat_pt]; rfl
  unfold ballV
  cases h1 : mayP x y with
  | false => exact PC.run mixed Try.func28 [.res (.bool false)] hfl ts0 (qs1 (mayPoint_qc x y _ h1)) (flat_ellT 0 0 0 0 0 1) rfl (by kernel_rfl)
  | true =>
    cases h2 : mayR r with
    | false => exact PC.run mixed Try.func28 [.res (.bool true), .res (.bool false)] hfl ts0 (qs2 (mayPoint_qc x y _ h1) (mayR_qc r _ h2)) (flat_ellT 0 0 0 0 0 1) rfl (by kernel_rfl)
    | true =>
      have g := mayR_iff.1 h2
      have b1 : r * r ≤ 4194304 * 4194304 := Int.mul_le_mul g.2 g.2 (by omega) (by omega)
      have b0 : 0 ≤ r * r := Int.mul_nonneg (by omega) (by omega)
      have e : IntKind.i64.wrap (r * r) = r * r := i64_wrap (by omega) (by omega)
      have h := PC.run (args := [pt x y, Value.int .i64 r]) (v := ellT x y (IntKind.i64.wrap (r * r)) 0 (IntKind.i64.wrap (r * r)) 0) mixed Try.func28 [.res (.bool true), .res (.bool true)] hfl ts0 (qs2 (mayPoint_qc x y _ h1) (mayR_qc r _ h2)) (flat_ellT _ _ _ _ _ _) rfl (by kernel_rfl)
      rw [e] at h
      exact h
theorem enters_ball : ∀ us w, (callFunc 28 us).run Try.prog w = .ok (.enter 28 us) w := enters Try.func28 rfl (by kernel_rfl)
theorem ball_qc (x y r : Int) (v : Value) (h : ballV x y r = v) : QC Try.prog 28 [pt x y, .int .i64 r] v := h ▸ QC.of_pc enters_ball (ball_pc x y r)
def boxV (x y p q : Int) : Value := match mayP x y && (mayR p && mayR q) with | true => ellT x y (2 * p * p) 0 (2 * q * q) 0 | false => ellT 0 0 0 0 0 1
def shiftV (x y a b d p q : Int) : Value := match mayL x y a b d && within p q 4194304 with
  | true => match mayP (x + p) (y + q) with | true => ellT (x + p) (y + q) a b d 0 | false => ellT 0 0 0 0 0 2
  | false => ellT 0 0 0 0 0 1
/-! ### Trace, Radius, Hull, Along -/
def trI (x y a b d : Int) : Int := match mayL x y a b d with | true => a + d | false => 0
theorem trI_i64 (x y a b d : Int) : I64 (trI x y a b d) ∧ 0 ≤ trI x y a b d ∧ trI x y a b d ≤ 140737488355328 := by
  unfold trI I64
  cases h : mayL x y a b d with
  | false => simp only; omega
  | true =>
    have := mayL_iff.1 h
    simp only
    omega
theorem trace_pc {x y a b d : Int} (ha : I64 a) (hb : I64 b) (hd : I64 d) : PC Try.prog 19 [ell x y a b d] (.int .i64 (trI x y a b d)) := by
  have hfl : [ell x y a b d].all flat = true := by simp [flat_ell]
  unfold trI
  cases h1 : mayL x y a b d with
  | false => exact PC.run mixed Try.func19 [.res (.bool false)] hfl ts0 (qs1 (mayL_qc x y ha hb hd _ h1)) rfl rfl (by kernel_rfl)
  | true =>
    have g1 := mayL_iff.1 h1
    have e1 : IntKind.i64.wrap (a + d) = a + d := i64_wrap (by omega) (by omega)
    have h := PC.run (args := [ell x y a b d]) (v := .int .i64 (IntKind.i64.wrap (a + d))) mixed Try.func19 [.res (.bool true)] hfl ts0 (qs1 (mayL_qc x y ha hb hd _ h1)) rfl rfl (by kernel_rfl)
    rw [e1] at h
    exact h
theorem enters_trace : ∀ us w, (callFunc 19 us).run Try.prog w = .ok (.enter 19 us) w := enters Try.func19 rfl (by kernel_rfl)
theorem trace_qc {a b d : Int} (x y : Int) (ha : I64 a) (hb : I64 b) (hd : I64 d) : QC Try.prog 19 [ell x y a b d] (.int .i64 (trI x y a b d)) := QC.of_pc enters_trace (trace_pc ha hb hd)
def radI (x y a b d : Int) : Int := upI (trI x y a b d)
theorem radius_pc {x y a b d : Int} (ha : I64 a) (hb : I64 b) (hd : I64 d) : PC Try.prog 21 [ell x y a b d] (.int .i64 (radI x y a b d)) :=
  PC.run mixed Try.func21 [.res (.int .i64 (trI x y a b d)), .res (.int .i64 (radI x y a b d))] (by simp [flat_ell]) ts0 (qs2 (trace_qc x y ha hb hd) (up_qc (trI_i64 x y a b d).1.1 (trI_i64 x y a b d).1.2)) rfl rfl (by kernel_rfl)
theorem enters_radius : ∀ us w, (callFunc 21 us).run Try.prog w = .ok (.enter 21 us) w := enters Try.func21 rfl (by kernel_rfl)
theorem radius_qc {a b d : Int} (x y : Int) (ha : I64 a) (hb : I64 b) (hd : I64 d) : QC Try.prog 21 [ell x y a b d] (.int .i64 (radI x y a b d)) := QC.of_pc enters_radius (radius_pc ha hb hd)
def twoI (p q : Int) : Value := .tuple #[.int .i64 p, .int .i64 q]
def hullV (x y a b d : Int) : Value := match mayL x y a b d with | true => twoI (upI a) (upI d) | false => twoI 0 0
def alongV (x y a b d p q : Int) : Value := match mayL x y a b d && within p q 16777216 with | true => errI (csq (quadI a b d p q).natAbs : Nat) 0 | false => errI 0 1
end Go.Proofs.Ytjmdppnhpfdhdaa.W
