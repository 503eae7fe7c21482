/-
  The reference's ellipses: points, boxes, shifts, hulls, how far along.
-/
import Derived.Test.YtfgnjkjnhakihaaGreatTokS
namespace Go.Proofs.YtfgnjkjnhakihaaGreat.R
open Go Go.Ev Go.W32
open Go.Proofs.YtfgnjkjnhakihaaGreat.W (mixed i64_wrap clamp clamp_eq WF signI Sm I64 ell flat_ell ellT flat_ellT pt flat_pt sym within within_iff mayP mayR mayR_iff mayL mayL_iff upI errI inE holdsI boxV shiftV hullV alongV twoI quadI quadI_sm csq csq_le isq isq_self isq_spec ordI wcmp wnar wadd wmul small_Hi fits64_iff box_sq)

/-! ### The root of a number, up -/
theorem enters_rWideUp : ∀ us w, (callFunc 32 us).run Tryz.prog w = .ok (.enter 32 us) w := enters Tryz.func32 rfl (by kernel_rfl)
theorem rwu_1 {z s q o : Int} (ho : ¬ o < 0) (h1 : MC Tryz.prog 51 [rz z] [] (.tuple #[rz s, .int .i64 ((0 : Nat) : Int)]) []) (h2 : MC Tryz.prog 53 [rz s, rz s] [] (rz q) []) (h3 : MC Tryz.prog 52 [rz q, rz z] [] (.tuple #[.int .i64 o, .bool true]) [])
    (h4 : MC Tryz.prog 56 [rz s] [] (.tuple #[.int .i64 s, .bool true]) []) : MC Tryz.prog 32 [rz z] [] (errI s 0) [] :=
  AC.runA mixed Tryz.func32 [.ab (.tuple #[rz s, .int .i64 ((0 : Nat) : Int)]), .ab (rz q), .ab (.tuple #[.int .i64 o, .bool true]), .tst false, .ab (.tuple #[.int .i64 s, .bool true])] (ts1 (tF ho)) (qs4 h1 h2 h3 h4) rfl enters_rWideUp (by kernel_rfl)
theorem rwu_2 {z s q o t : Int} (ho : o < 0) (h1 : MC Tryz.prog 51 [rz z] [] (.tuple #[rz s, .int .i64 ((0 : Nat) : Int)]) []) (h2 : MC Tryz.prog 53 [rz s, rz s] [] (rz q) []) (h3 : MC Tryz.prog 52 [rz q, rz z] [] (.tuple #[.int .i64 o, .bool true]) [])
    (h5 : MC Tryz.prog 55 [.int .i64 1] [] (rz 1) []) (h6 : MC Tryz.prog 54 [rz s, rz 1] [] (rz t) []) (h4 : MC Tryz.prog 56 [rz t] [] (.tuple #[.int .i64 t, .bool true]) []) : MC Tryz.prog 32 [rz z] [] (errI t 0) [] :=
  AC.runA mixed Tryz.func32 [.ab (.tuple #[rz s, .int .i64 ((0 : Nat) : Int)]), .ab (rz q), .ab (.tuple #[.int .i64 o, .bool true]), .tst true, .ab (rz 1), .ab (rz t), .ab (.tuple #[.int .i64 t, .bool true])] (ts1 (tT ho)) (qs6 h1 h2 h3 h5 h6 h4) rfl enters_rWideUp (by kernel_rfl)
theorem rWideUp_t {z : Int} (h0 : 0 ≤ z) (hz : WF (some z)) (hc : csq z.natAbs ≤ 9223372036854775807) : MC Tryz.prog 32 [rz z] [] (errI (csq z.natAbs : Nat) 0) [] := by
  have hH := hz z rfl
  have hs := isq_self z.natAbs
  have hcl := csq_le z.natAbs
  have hsq := (isq_spec z.natAbs).1
  have hw : WF (some ((isq z.natAbs : Nat) : Int)) := fun y e => by cases e; omega
  have hwc : WF (some ((csq z.natAbs : Nat) : Int)) := fun y e => by cases e; omega
  have hm := rMul_t hw hw
  have em : wmul (some ((isq z.natAbs : Nat) : Int)) (some ((isq z.natAbs : Nat) : Int)) = some ((isq z.natAbs * isq z.natAbs : Nat) : Int) := by
    show clamp _ = _
    rw [← Int.natCast_mul, clamp_eq (by omega)]
  rw [em] at hm
  have hwq : WF (some ((isq z.natAbs * isq z.natAbs : Nat) : Int)) := fun y e => by cases e; omega
  have hcmp := rCmp_t hwq hz
  have hn := rint_fits (fits64_iff.2 (by omega)) hwc
  by_cases h : isq z.natAbs * isq z.natAbs < z.natAbs
  · have ec : csq z.natAbs = isq z.natAbs + 1 := if_pos h
    rw [ec] at hn ⊢
    have ho : ordI ((isq z.natAbs * isq z.natAbs : Nat) : Int) z < 0 := by
      unfold ordI
      rw [if_pos (by omega)]
      omega
    have hw1 : WF (some 1) := fun y e => by cases e; have := small_Hi (x := 1) (n := 1) (by omega) (by omega); omega
    have ha := rAdd_t hw hw1
    have ea : wadd (some ((isq z.natAbs : Nat) : Int)) (some 1) = some ((isq z.natAbs + 1 : Nat) : Int) := by
      show clamp _ = _
      rw [show ((isq z.natAbs : Nat) : Int) + 1 = ((isq z.natAbs + 1 : Nat) : Int) by omega, clamp_eq (by omega)]
    rw [ea] at ha
    exact rwu_2 ho (rsqrt h0 hz) hm hcmp (rOf_t (n := 1) (by omega) (by omega)) ha hn
  · have ec : csq z.natAbs = isq z.natAbs := if_neg h
    rw [ec] at hn ⊢
    have ho : ¬ ordI ((isq z.natAbs * isq z.natAbs : Nat) : Int) z < 0 := by
      unfold ordI
      rw [if_neg (by omega)]
      split <;> omega
    exact rwu_1 ho (rsqrt h0 hz) hm hcmp hn
/-! ### In -/
theorem eIn_pc {x y a b d p q : Int} (ha : I64 a) (hb : I64 b) (hd : I64 d) : PC Tryz.prog 19 [ell x y a b d, pt p q] (.bool (inE x y a b d p q)) := by
  have hfl : [ell x y a b d, pt p q].all flat = true := by simp [flat_ell, flat_pt]
  unfold inE
  cases h1 : mayL x y a b d with
  | false => exact PC.run mixed Tryz.func19 [.res (.bool false)] hfl ts0 (qs1 (eMay_qc x y ha hb hd _ h1)) rfl rfl (by kernel_rfl)
  | true =>
    rw [within_win]
    cases h2 : win p 1073741824 with
    | false => exact PC.run mixed Tryz.func19 [.res (.bool true), .res (.bool false)] hfl ts0 (qs2 (eMay_qc x y ha hb hd _ h1) (ewithin_qc p 1073741824 (by omega) (by omega) _ h2)) rfl rfl (by kernel_rfl)
    | true =>
      cases h3 : win q 1073741824 with
      | false => exact PC.run mixed Tryz.func19 [.res (.bool true), .res (.bool true), .res (.bool false)] hfl ts0 (qs3 (eMay_qc x y ha hb hd _ h1) (ewithin_qc p 1073741824 (by omega) (by omega) _ h2) (ewithin_qc q 1073741824 (by omega) (by omega) _ h3)) rfl rfl (by kernel_rfl)
      | true =>
        have g1 := mayL_iff.1 h1
        have g2 := win_iff.1 h2
        have g3 := win_iff.1 h3
        have e1 : IntKind.i64.wrap (p - x) = p - x := i64_wrap (by omega) (by omega)
        have e2 : IntKind.i64.wrap (q - y) = q - y := i64_wrap (by omega) (by omega)
        have hh : MC Tryz.prog 40 [sym a b d, pt (IntKind.i64.wrap (p - x)) (IntKind.i64.wrap (q - y))] [] (.bool (holdsI a b d (p - x) (q - y))) [] := by
          rw [e1, e2]
          exact rHolds ha hb hd ⟨by omega, by omega⟩ ⟨by omega, by omega⟩
        exact PC.run mixed Tryz.func19 [.res (.bool true), .res (.bool true), .res (.bool true), .ab (.bool (holdsI a b d (p - x) (q - y)))] hfl ts0 (qs4 (eMay_qc x y ha hb hd _ h1) (ewithin_qc p 1073741824 (by omega) (by omega) _ h2) (ewithin_qc q 1073741824 (by omega) (by omega) _ h3) hh) rfl rfl (by kernel_rfl)
theorem enters_eIn : ∀ us w, (callFunc 19 us).run Tryz.prog w = .ok (.enter 19 us) w := enters Tryz.func19 rfl (by kernel_rfl)
theorem eIn_qc {a b d : Int} (x y p q : Int) (ha : I64 a) (hb : I64 b) (hd : I64 d) : QC Tryz.prog 19 [ell x y a b d, pt p q] (.bool (inE x y a b d p q)) := QC.of_pc enters_eIn (eIn_pc ha hb hd)
/-! ### Boxes, shifts -/
theorem eBox_pc (x y p q : Int) : PC Tryz.prog 7 [pt x y, .int .i64 p, .int .i64 q] (boxV x y p q) := by
  have hfl : [pt x y, Value.int .i64 p, Value.int .i64 q].all flat = true := by simp [flat_pt]; exact ⟨rfl, rfl⟩
  unfold boxV mayR
  cases h1 : mayP x y with
  | false => exact PC.run mixed Tryz.func7 [.res (.bool false)] hfl ts0 (qs1 (ePoint_qc x y _ h1)) (flat_ellT 0 0 0 0 0 1) rfl (by kernel_rfl)
  | true =>
    by_cases c1 : p < 1
    · rw [decide_eq_false (show ¬ 1 ≤ p by omega)]
      exact PC.run mixed Tryz.func7 [.res (.bool true), .auto, .tst true] hfl (ts1 (tT c1)) (qs1 (ePoint_qc x y _ h1)) (flat_ellT 0 0 0 0 0 1) rfl (by kernel_rfl)
    rw [decide_eq_true (show 1 ≤ p by omega)]
    by_cases c2 : p > 4194304
    · rw [decide_eq_false (show ¬ p ≤ 4194304 by omega)]
      exact PC.run mixed Tryz.func7 [.res (.bool true), .auto, .tst false, .tst true] hfl (ts2 (tF c1) (tT c2)) (qs1 (ePoint_qc x y _ h1)) (flat_ellT 0 0 0 0 0 1) rfl (by kernel_rfl)
    rw [decide_eq_true (show p ≤ 4194304 by omega)]
    by_cases c3 : q < 1
    · rw [decide_eq_false (show ¬ 1 ≤ q by omega)]
      exact PC.run mixed Tryz.func7 [.res (.bool true), .auto, .tst false, .tst false, .tst true] hfl (ts3 (tF c1) (tF c2) (tT c3)) (qs1 (ePoint_qc x y _ h1)) (flat_ellT 0 0 0 0 0 1) rfl (by kernel_rfl)
    rw [decide_eq_true (show 1 ≤ q by omega)]
    by_cases c4 : q > 4194304
    · rw [decide_eq_false (show ¬ q ≤ 4194304 by omega)]
      exact PC.run mixed Tryz.func7 [.res (.bool true), .auto, .tst false, .tst false, .tst false, .tst true] hfl (ts4 (tF c1) (tF c2) (tF c3) (tT c4)) (qs1 (ePoint_qc x y _ h1)) (flat_ellT 0 0 0 0 0 1) rfl (by kernel_rfl)
    rw [decide_eq_true (show q ≤ 4194304 by omega)]
    have e1 : ∀ r : Int, 1 ≤ r ∧ r ≤ 4194304 → IntKind.i64.wrap (IntKind.i64.wrap (2 * r) * r) = 2 * r * r := fun r hr => by
      have b1 : 2 * r * r ≤ 8388608 * 4194304 := Int.mul_le_mul (by omega) hr.2 (by omega) (by omega)
      have b0 : 0 ≤ 2 * r * r := Int.mul_nonneg (by omega) (by omega)
      have w : IntKind.i64.wrap (2 * r) = 2 * r := i64_wrap (by omega) (by omega)
      rw [w, i64_wrap (by omega) (by omega)]
    have h := PC.run (args := [pt x y, Value.int .i64 p, Value.int .i64 q]) (v := ellT x y (IntKind.i64.wrap (IntKind.i64.wrap (2 * p) * p)) 0 (IntKind.i64.wrap (IntKind.i64.wrap (2 * q) * q)) 0) mixed Tryz.func7 [.res (.bool true), .auto, .tst false, .tst false, .tst false, .tst false] hfl (ts4 (tF c1) (tF c2) (tF c3) (tF c4)) (qs1 (ePoint_qc x y _ h1)) (flat_ellT _ _ _ _ _ _) rfl (by kernel_rfl)
    rw [e1 p (by omega), e1 q (by omega)] at h
    exact h
theorem enters_eBox : ∀ us w, (callFunc 7 us).run Tryz.prog w = .ok (.enter 7 us) w := enters Tryz.func7 rfl (by kernel_rfl)
theorem eBox_qc (x y p q : Int) (v : Value) (h : boxV x y p q = v) : QC Tryz.prog 7 [pt x y, .int .i64 p, .int .i64 q] v := h ▸ QC.of_pc enters_eBox (eBox_pc x y p q)
theorem eShift_pc {x y a b d p q : Int} (ha : I64 a) (hb : I64 b) (hd : I64 d) : PC Tryz.prog 9 [ell x y a b d, pt p q] (shiftV x y a b d p q) := by
  have hfl : [ell x y a b d, pt p q].all flat = true := by simp [flat_ell, flat_pt]
  unfold shiftV
  cases h1 : mayL x y a b d with
  | false => exact PC.run mixed Tryz.func9 [.res (.bool false)] hfl ts0 (qs1 (eMay_qc x y ha hb hd _ h1)) (flat_ellT 0 0 0 0 0 1) rfl (by kernel_rfl)
  | true =>
    rw [within_win]
    cases h2 : win p 4194304 with
    | false => exact PC.run mixed Tryz.func9 [.res (.bool true), .res (.bool false)] hfl ts0 (qs2 (eMay_qc x y ha hb hd _ h1) (ewithin_qc p 4194304 (by omega) (by omega) _ h2)) (flat_ellT 0 0 0 0 0 1) rfl (by kernel_rfl)
    | true =>
      cases h4 : win q 4194304 with
      | false => exact PC.run mixed Tryz.func9 [.res (.bool true), .res (.bool true), .res (.bool false)] hfl ts0 (qs3 (eMay_qc x y ha hb hd _ h1) (ewithin_qc p 4194304 (by omega) (by omega) _ h2) (ewithin_qc q 4194304 (by omega) (by omega) _ h4)) (flat_ellT 0 0 0 0 0 1) rfl (by kernel_rfl)
      | true =>
        have g1 := mayL_iff.1 h1
        have g2 := win_iff.1 h2
        have g3 := win_iff.1 h4
        have e1 : IntKind.i64.wrap (x + p) = x + p := i64_wrap (by omega) (by omega)
        have e2 : IntKind.i64.wrap (y + q) = y + q := i64_wrap (by omega) (by omega)
        have hp : ∀ r, mayP (x + p) (y + q) = r → QC Tryz.prog 15 [pt (IntKind.i64.wrap (x + p)) (IntKind.i64.wrap (y + q))] (.bool r) := fun r h => by
          rw [e1, e2]
          exact ePoint_qc _ _ r h
        simp only [Bool.and_self]
        cases h3 : mayP (x + p) (y + q) with
        | false => exact PC.run mixed Tryz.func9 [.res (.bool true), .res (.bool true), .res (.bool true), .res (.bool false)] hfl ts0 (qs4 (eMay_qc x y ha hb hd _ h1) (ewithin_qc p 4194304 (by omega) (by omega) _ h2) (ewithin_qc q 4194304 (by omega) (by omega) _ h4) (hp _ h3)) (flat_ellT 0 0 0 0 0 2) rfl (by kernel_rfl)
        | true =>
          have h := PC.run (args := [ell x y a b d, pt p q]) (v := ellT (IntKind.i64.wrap (x + p)) (IntKind.i64.wrap (y + q)) a b d 0) mixed Tryz.func9 [.res (.bool true), .res (.bool true), .res (.bool true), .res (.bool true)] hfl ts0 (qs4 (eMay_qc x y ha hb hd _ h1) (ewithin_qc p 4194304 (by omega) (by omega) _ h2) (ewithin_qc q 4194304 (by omega) (by omega) _ h4) (hp _ h3)) (flat_ellT _ _ _ _ _ _) rfl (by kernel_rfl)
          rw [e1, e2] at h
          exact h
theorem enters_eShift : ∀ us w, (callFunc 9 us).run Tryz.prog w = .ok (.enter 9 us) w := enters Tryz.func9 rfl (by kernel_rfl)
theorem eShift_qc {a b d : Int} (x y p q : Int) (ha : I64 a) (hb : I64 b) (hd : I64 d) (v : Value) (h : shiftV x y a b d p q = v) : QC Tryz.prog 9 [ell x y a b d, pt p q] v := h ▸ QC.of_pc enters_eShift (eShift_pc ha hb hd)
/-! ### Hull, Along -/
theorem eHull_pc {x y a b d : Int} (ha : I64 a) (hb : I64 b) (hd : I64 d) : PC Tryz.prog 11 [ell x y a b d] (hullV x y a b d) := by
  have hfl : [ell x y a b d].all flat = true := by simp [flat_ell]
  unfold hullV
  cases h1 : mayL x y a b d with
  | false => exact PC.run mixed Tryz.func11 [.res (.bool false)] hfl ts0 (qs1 (eMay_qc x y ha hb hd _ h1)) rfl rfl (by kernel_rfl)
  | true => exact PC.run mixed Tryz.func11 [.res (.bool true), .ab (.int .i64 (upI a)), .ab (.int .i64 (upI d))] hfl ts0 (qs3 (eMay_qc x y ha hb hd _ h1) (rUp_t ha) (rUp_t hd)) rfl rfl (by kernel_rfl)
theorem enters_eHull : ∀ us w, (callFunc 11 us).run Tryz.prog w = .ok (.enter 11 us) w := enters Tryz.func11 rfl (by kernel_rfl)
theorem eHull_qc {a b d : Int} (x y : Int) (ha : I64 a) (hb : I64 b) (hd : I64 d) (v : Value) (h : hullV x y a b d = v) : QC Tryz.prog 11 [ell x y a b d] v := h ▸ QC.of_pc enters_eHull (eHull_pc ha hb hd)
theorem eAlong_pc {x y a b d p q : Int} (ha : I64 a) (hb : I64 b) (hd : I64 d) (hq : mayL x y a b d = true → within p q 16777216 = true → 0 ≤ quadI a b d p q ∧ csq (quadI a b d p q).natAbs ≤ 9223372036854775807) :
    PC Tryz.prog 13 [ell x y a b d, pt p q] (alongV x y a b d p q) := by
  have hfl : [ell x y a b d, pt p q].all flat = true := by simp [flat_ell, flat_pt]
  unfold alongV
  cases h1 : mayL x y a b d with
  | false => exact PC.run mixed Tryz.func13 [.res (.bool false)] hfl ts0 (qs1 (eMay_qc x y ha hb hd _ h1)) rfl rfl (by kernel_rfl)
  | true =>
    rw [within_win] at hq ⊢
    cases h2 : win p 16777216 with
    | false => exact PC.run mixed Tryz.func13 [.res (.bool true), .res (.bool false)] hfl ts0 (qs2 (eMay_qc x y ha hb hd _ h1) (ewithin_qc p 16777216 (by omega) (by omega) _ h2)) rfl rfl (by kernel_rfl)
    | true =>
      cases h3 : win q 16777216 with
      | false => exact PC.run mixed Tryz.func13 [.res (.bool true), .res (.bool true), .res (.bool false)] hfl ts0 (qs3 (eMay_qc x y ha hb hd _ h1) (ewithin_qc p 16777216 (by omega) (by omega) _ h2) (ewithin_qc q 16777216 (by omega) (by omega) _ h3)) rfl rfl (by kernel_rfl)
      | true =>
        have g2 := win_iff.1 h2
        have g3 := win_iff.1 h3
        obtain ⟨q0, q1⟩ := hq h1 (by rw [h2, h3]; rfl)
        have hp : I64 p := ⟨by omega, by omega⟩
        have hq' : I64 q := ⟨by omega, by omega⟩
        have hup := rWideUp_t q0 ((quadI_sm ha hb hd hp hq').wf (by omega)) q1
        exact PC.run mixed Tryz.func13 [.res (.bool true), .res (.bool true), .res (.bool true), .ab (rz (quadI a b d p q)), .ab (errI (csq (quadI a b d p q).natAbs : Nat) 0)] hfl ts0 (qs5 (eMay_qc x y ha hb hd _ h1) (ewithin_qc p 16777216 (by omega) (by omega) _ h2) (ewithin_qc q 16777216 (by omega) (by omega) _ h3) (rQuad ha hb hd hp hq') hup) rfl rfl (by kernel_rfl)
theorem enters_eAlong : ∀ us w, (callFunc 13 us).run Tryz.prog w = .ok (.enter 13 us) w := enters Tryz.func13 rfl (by kernel_rfl)
end Go.Proofs.YtfgnjkjnhakihaaGreat.R
