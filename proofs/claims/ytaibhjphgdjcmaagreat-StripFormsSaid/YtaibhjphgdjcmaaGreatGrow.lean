/-
  Package grow: sums, balls, age.
  Sums of ellipses: the rounding outweighed, what a sum holds, how it compares; awake.
  Package grow: age.
-/
import Derived.Test.YtaibhjphgdjcmaaGreatEll
import Derived.Test.YtaibhjphgdjcmaaGreatRoot
/-! Package grow: sums, balls, age. -/
namespace Go.Proofs.YtaibhjphgdjcmaaGreat.W
open Go Go.Ev Go.Wide

/-! ### Stretched matrices -/
def strA (w n p : Int) : Int := cdiv (w * n) p + 1
def strB (w n p : Int) : Int := (w * n).fdiv p
theorem str_bounds {w n p : Int} (hp : 0 < p) (hp2 : p ≤ 16777216) (hw : 0 ≤ w) (hw2 : w ≤ 33554432) (h0 : -(p * p) ≤ n) (h1 : n ≤ p * p) :
    (-562949953421312 ≤ cdiv (w * n) p ∧ cdiv (w * n) p ≤ 562949953421312) ∧ (-562949953421312 ≤ (w * n).fdiv p ∧ (w * n).fdiv p ≤ 562949953421312) := by
  obtain ⟨c1, c2⟩ := cdiv_bounds (z := w * n) hp
  obtain ⟨f1, f2⟩ := fdiv_bounds (z := w * n) hp
  have wp : w * p ≤ 33554432 * 16777216 := Int.mul_le_mul hw2 hp2 (by omega) (by omega)
  have wp0 : 0 ≤ w * p := Int.mul_nonneg hw (by omega)
  have u1 : w * n ≤ w * (p * p) := Int.mul_le_mul_of_nonneg_left h1 hw
  have u0 : w * -(p * p) ≤ w * n := Int.mul_le_mul_of_nonneg_left h0 hw
  have e1 : p * (w * p) = w * (p * p) := by grind
  have e2 : p * (-(w * p)) = w * -(p * p) := by grind
  have e3 : p * (w * p + 1) = w * (p * p) + p := by grind
  have e4 : p * (-(w * p) - 1) = w * -(p * p) - p := by grind
  generalize cdiv (w * n) p = c at *
  generalize (w * n).fdiv p = f at *
  have k1 : c < w * p + 1 := mul_lt_cancel hp (by omega)
  have k2 : -(w * p) - 1 < c := mul_lt_cancel hp (by omega)
  have k3 : f < w * p + 1 := mul_lt_cancel hp (by omega)
  have k4 : -(w * p) < f + 1 := mul_lt_cancel hp (by rw [Int.mul_add, Int.mul_one]; omega)
  omega
theorem stretched_run {a b d w p A B D : Int} (hA : QC Tryz.prog 187 [.int .i64 w, .int .i64 a, .int .i64 p] (errI A 0)) (hB : QC Tryz.prog 188 [.int .i64 w, .int .i64 b, .int .i64 p] (errI B 0)) (hD : QC Tryz.prog 187 [.int .i64 w, .int .i64 d, .int .i64 p] (errI D 0)) :
    PC Tryz.prog 183 [sym a b d, .int .i64 w, .int .i64 p] (sym (IntKind.i64.wrap (A + 1)) B (IntKind.i64.wrap (D + 1))) :=
  PC.run mixed Tryz.func183 [.res (errI A 0), .res (errI B 0), .res (errI D 0)] (by simp [flat_sym]; exact ⟨rfl, rfl⟩) ts0 (qs3 hA hB hD) (flat_sym _ _ _) rfl (by kernel_rfl)
theorem enters_stretched : ∀ us w, (callFunc 183 us).run Tryz.prog w = .ok (.enter 183 us) w := enters Tryz.func183 rfl (by kernel_rfl)
theorem stretched_qc {a b d w p : Int} (hp : 0 < p) (hp2 : p ≤ 16777216) (hw : 0 ≤ w) (hw2 : w ≤ 33554432) (ha : -(p * p) ≤ a ∧ a ≤ p * p) (hb : -(p * p) ≤ b ∧ b ≤ p * p) (hd : -(p * p) ≤ d ∧ d ≤ p * p) :
    QC Tryz.prog 183 [sym a b d, .int .i64 w, .int .i64 p] (sym (strA w a p) (strB w b p) (strA w d p)) := by
  have pp : p * p ≤ 16777216 * 16777216 := Int.mul_le_mul hp2 hp2 (by omega) (by omega)
  have ga := str_bounds hp hp2 hw hw2 ha.1 ha.2
  have gb := str_bounds hp hp2 hw hw2 hb.1 hb.2
  have gd := str_bounds hp hp2 hw hw2 hd.1 hd.2
  have hwI : I64r w := ⟨by omega, by omega⟩
  have hpI : I64r p := ⟨by omega, by omega⟩
  have h := stretched_run (mulDivUp_qc hwI (b := a) ⟨by omega, by omega⟩ hpI _ (muV_fits (by omega) (fits64_iff.2 ⟨by omega, by omega⟩))) (mulDiv_qc hwI (b := b) ⟨by omega, by omega⟩ hpI _ (mdV_fits (by omega) (fits64_iff.2 ⟨by omega, by omega⟩))) (mulDivUp_qc hwI (b := d) ⟨by omega, by omega⟩ hpI _ (muV_fits (by omega) (fits64_iff.2 ⟨by omega, by omega⟩)))
  have e1 : IntKind.i64.wrap (cdiv (w * a) p + 1) = strA w a p := i64_wrap (by omega) (by omega)
  have e2 : IntKind.i64.wrap (cdiv (w * d) p + 1) = strA w d p := i64_wrap (by omega) (by omega)
  rw [e1, e2] at h
  exact QC.of_pc enters_stretched h
theorem rad_facts {x y a b d : Int} (h : mayL x y a b d = true) : 0 < upI (a + d) ∧ upI (a + d) ≤ 16777216 ∧ (-(upI (a + d) * upI (a + d)) ≤ a ∧ a ≤ upI (a + d) * upI (a + d)) ∧ (-(upI (a + d) * upI (a + d)) ≤ b ∧ b ≤ upI (a + d) * upI (a + d)) ∧ (-(upI (a + d) * upI (a + d)) ≤ d ∧ d ≤ upI (a + d) * upI (a + d)) ∧ radI x y a b d = upI (a + d) := by
  have g := mayL_iff.1 h
  obtain ⟨u0, u1, u2⟩ := upI_bounds (m := a + d) (K := 16777216) (by omega) (by omega) (by omega)
  have hdet := g.2.2.2.2
  unfold detI at hdet
  have hbb : b * b ≤ (a + d) * (a + d) := by
    have e : (a + d) * (a + d) = a * a + d * d + 2 * (a * d) := by grind
    have := sq_nn a
    have := sq_nn d
    have := Int.mul_nonneg (show 0 ≤ a by omega) (show 0 ≤ d by omega)
    omega
  have hb := sq_abs (x := b) (n := a + d) (by omega) hbb
  have hr : radI x y a b d = upI (a + d) := by unfold radI trI; rw [h]
  generalize upI (a + d) = s at *
  have hs : s ≠ 0 := fun e => by subst e; omega
  exact ⟨by omega, u1, by omega, by omega, by omega, hr⟩

/-! ### Sums -/
def sumA (s t n m : Int) : Int := strA (s + t) n s + strA (s + t) m t
def sumB (s t n m : Int) : Int := strB (s + t) n s + strB (s + t) m t
def gsumR (x y a b d x' y' a' b' d' s t : Int) : Value :=
  match mayL (x + x') (y + y') (sumA s t a a') (sumB s t b b') (sumA s t d d') with
  | true => ellT (x + x') (y + y') (sumA s t a a') (sumB s t b b') (sumA s t d d') 0
  | false => ellT 0 0 0 0 0 2
def gsumV (x y a b d x' y' a' b' d' : Int) : Value := match mayL x y a b d && mayL x' y' a' b' d' with
  | true => gsumR x y a b d x' y' a' b' d' (upI (a + d)) (upI (a' + d'))
  | false => ellT 0 0 0 0 0 1
theorem gsum_run1 {x y a b d x' y' a' b' d' s t A B D A' B' D' A2 B2 D2 : Int} (h1 : QC Tryz.prog 17 [ell x y a b d] (.bool true)) (h2 : QC Tryz.prog 17 [ell x' y' a' b' d'] (.bool true))
    (h3 : QC Tryz.prog 23 [ell x y a b d] (.int .i64 s)) (h4 : QC Tryz.prog 23 [ell x' y' a' b' d'] (.int .i64 t)) (h5 : QC Tryz.prog 183 [sym a b d, .int .i64 (IntKind.i64.wrap (s + t)), .int .i64 s] (sym A B D)) (h6 : QC Tryz.prog 183 [sym a' b' d', .int .i64 (IntKind.i64.wrap (s + t)), .int .i64 t] (sym A' B' D'))
    (h7 : QC Tryz.prog 174 [sym A B D, sym A' B' D'] (sumT A2 B2 D2)) (h8 : QC Tryz.prog 17 [ell (IntKind.i64.wrap (x + x')) (IntKind.i64.wrap (y + y')) A2 B2 D2] (.bool true)) :
    PC Tryz.prog 175 [ell x y a b d, ell x' y' a' b' d'] (ellT (IntKind.i64.wrap (x + x')) (IntKind.i64.wrap (y + y')) A2 B2 D2 0) :=
  PC.run mixed Tryz.func175 [.res (.bool true), .res (.bool true), .res (.int .i64 s), .res (.int .i64 t), .res (sym A B D), .res (sym A' B' D'), .res (sumT A2 B2 D2), .res (.bool true)] (by simp [flat_ell]) ts0 (qs8 h1 h2 h3 h4 h5 h6 h7 h8) (flat_ellT _ _ _ _ _ _) rfl (by kernel_rfl)
theorem gsum_run2 {x y a b d x' y' a' b' d' s t A B D A' B' D' A2 B2 D2 : Int} (h1 : QC Tryz.prog 17 [ell x y a b d] (.bool true)) (h2 : QC Tryz.prog 17 [ell x' y' a' b' d'] (.bool true))
    (h3 : QC Tryz.prog 23 [ell x y a b d] (.int .i64 s)) (h4 : QC Tryz.prog 23 [ell x' y' a' b' d'] (.int .i64 t)) (h5 : QC Tryz.prog 183 [sym a b d, .int .i64 (IntKind.i64.wrap (s + t)), .int .i64 s] (sym A B D)) (h6 : QC Tryz.prog 183 [sym a' b' d', .int .i64 (IntKind.i64.wrap (s + t)), .int .i64 t] (sym A' B' D'))
    (h7 : QC Tryz.prog 174 [sym A B D, sym A' B' D'] (sumT A2 B2 D2)) (h8 : QC Tryz.prog 17 [ell (IntKind.i64.wrap (x + x')) (IntKind.i64.wrap (y + y')) A2 B2 D2] (.bool false)) :
    PC Tryz.prog 175 [ell x y a b d, ell x' y' a' b' d'] (ellT 0 0 0 0 0 2) :=
  PC.run mixed Tryz.func175 [.res (.bool true), .res (.bool true), .res (.int .i64 s), .res (.int .i64 t), .res (sym A B D), .res (sym A' B' D'), .res (sumT A2 B2 D2), .res (.bool false)] (by simp [flat_ell]) ts0 (qs8 h1 h2 h3 h4 h5 h6 h7 h8) (flat_ellT _ _ _ _ _ _) rfl (by kernel_rfl)
theorem gsum_pc {x y a b d x' y' a' b' d' : Int} (ha : I64 a) (hb : I64 b) (hd : I64 d) (ha' : I64 a') (hb' : I64 b') (hd' : I64 d') : PC Tryz.prog 175 [ell x y a b d, ell x' y' a' b' d'] (gsumV x y a b d x' y' a' b' d') := by
  have hfl : [ell x y a b d, ell x' y' a' b' d'].all flat = true := by simp [flat_ell]
  unfold gsumV
  cases h1 : mayL x y a b d with
  | false => exact PC.run mixed Tryz.func175 [.res (.bool false)] hfl ts0 (qs1 (mayL_qc x y ha hb hd _ h1)) (flat_ellT 0 0 0 0 0 1) rfl (by kernel_rfl)
  | true =>
    cases h2 : mayL x' y' a' b' d' with
    | false => exact PC.run mixed Tryz.func175 [.res (.bool true), .res (.bool false)] hfl ts0 (qs2 (mayL_qc x y ha hb hd _ h1) (mayL_qc x' y' ha' hb' hd' _ h2)) (flat_ellT 0 0 0 0 0 1) rfl (by kernel_rfl)
    | true =>
      have g := mayL_iff.1 h1
      have g' := mayL_iff.1 h2
      obtain ⟨s0, s1, sa, sb, sd, sr⟩ := rad_facts h1
      obtain ⟨t0, t1, ta, tb, td, tr⟩ := rad_facts h2
      have h3 := radius_qc (a := a) (b := b) (d := d) x y ha hb hd
      have h4 := radius_qc (a := a') (b := b') (d := d') x' y' ha' hb' hd'
      rw [sr] at h3
      rw [tr] at h4
      simp only [Bool.and_self]
      unfold gsumR
      generalize upI (a + d) = s at *
      generalize upI (a' + d') = t at *
      have ew : IntKind.i64.wrap (s + t) = s + t := i64_wrap (by omega) (by omega)
      have ex : IntKind.i64.wrap (x + x') = x + x' := i64_wrap (by omega) (by omega)
      have ey : IntKind.i64.wrap (y + y') = y + y' := i64_wrap (by omega) (by omega)
      have h5 := stretched_qc s0 s1 (w := s + t) (by omega) (by omega) sa sb sd
      have h6 := stretched_qc t0 t1 (w := s + t) (by omega) (by omega) ta tb td
      have b1 := str_bounds s0 s1 (w := s + t) (by omega) (by omega) sa.1 sa.2
      have b2 := str_bounds s0 s1 (w := s + t) (by omega) (by omega) sb.1 sb.2
      have b3 := str_bounds s0 s1 (w := s + t) (by omega) (by omega) sd.1 sd.2
      have b4 := str_bounds t0 t1 (w := s + t) (by omega) (by omega) ta.1 ta.2
      have b5 := str_bounds t0 t1 (w := s + t) (by omega) (by omega) tb.1 tb.2
      have b6 := str_bounds t0 t1 (w := s + t) (by omega) (by omega) td.1 td.2
      have m1 : mayM (strA (s + t) a s) (strB (s + t) b s) (strA (s + t) d s) = true := mayM_iff.2 (by unfold strA strB; omega)
      have m2 : mayM (strA (s + t) a' t) (strB (s + t) b' t) (strA (s + t) d' t) = true := mayM_iff.2 (by unfold strA strB; omega)
      have m3 : mayM (strA (s + t) a s + strA (s + t) a' t) (strB (s + t) b s + strB (s + t) b' t) (strA (s + t) d s + strA (s + t) d' t) = true := mayM_iff.2 (by unfold strA strB; omega)
      have h7 := addM_pc (strA (s + t) a s) (strB (s + t) b s) (strA (s + t) d s) (strA (s + t) a' t) (strB (s + t) b' t) (strA (s + t) d' t)
      unfold sumV at h7
      rw [m1, m2, m3] at h7
      have i1 : I64 (sumA s t a a') := ⟨by unfold sumA strA; omega, by unfold sumA strA; omega⟩
      have i2 : I64 (sumB s t b b') := ⟨by unfold sumB strB; omega, by unfold sumB strB; omega⟩
      have i3 : I64 (sumA s t d d') := ⟨by unfold sumA strA; omega, by unfold sumA strA; omega⟩
      rw [← ew] at h5 h6
      have h8 : ∀ r, mayL (x + x') (y + y') (sumA s t a a') (sumB s t b b') (sumA s t d d') = r → QC Tryz.prog 17 [ell (IntKind.i64.wrap (x + x')) (IntKind.i64.wrap (y + y')) (sumA s t a a') (sumB s t b b') (sumA s t d d')] (.bool r) := fun r hr => by
        rw [ex, ey]
        exact mayL_qc _ _ i1 i2 i3 r hr
      rw [ew] at h5 h6
      cases hm : mayL (x + x') (y + y') (sumA s t a a') (sumB s t b b') (sumA s t d d') with
      | true =>
        have hr := gsum_run1 (mayL_qc x y ha hb hd _ h1) (mayL_qc x' y' ha' hb' hd' _ h2) h3 h4 (by rw [ew]; exact h5) (by rw [ew]; exact h6) (QC.of_pc enters_addM h7) (h8 _ hm)
        rw [ex, ey] at hr
        exact hr
      | false => exact gsum_run2 (mayL_qc x y ha hb hd _ h1) (mayL_qc x' y' ha' hb' hd' _ h2) h3 h4 (by rw [ew]; exact h5) (by rw [ew]; exact h6) (QC.of_pc enters_addM h7) (h8 _ hm)
theorem enters_gsum : ∀ us w, (callFunc 175 us).run Tryz.prog w = .ok (.enter 175 us) w := enters Tryz.func175 rfl (by kernel_rfl)
theorem gsum_qc {a b d a' b' d' : Int} (x y x' y' : Int) (ha : I64 a) (hb : I64 b) (hd : I64 d) (ha' : I64 a') (hb' : I64 b') (hd' : I64 d') (v : Value) (h : gsumV x y a b d x' y' a' b' d' = v) : QC Tryz.prog 175 [ell x y a b d, ell x' y' a' b' d'] v := h ▸ QC.of_pc enters_gsum (gsum_pc ha hb hd ha' hb' hd')
theorem gsumV_form (x y a b d x' y' a' b' d' : Int) : ∃ p q A B D e, gsumV x y a b d x' y' a' b' d' = ellT p q A B D e := by
  unfold gsumV gsumR
  split
  · split <;> exact ⟨_, _, _, _, _, _, rfl⟩
  · exact ⟨_, _, _, _, _, _, rfl⟩

/-! ### Balls, age -/
def gballV (x y a b d r : Int) : Value := match mayL x y a b d with
  | true => if r = 0 then ellT x y a b d 0 else match mayR r with
    | true => gsumV x y a b d 0 0 (r * r) 0 (r * r)
    | false => ellT 0 0 0 0 0 1
  | false => ellT 0 0 0 0 0 1
theorem gball_run {x y a b d r p q A B D : Int} {e : Nat} (h0 : ¬ r = 0) (h1 : QC Tryz.prog 17 [ell x y a b d] (.bool true)) (h2 : QC Tryz.prog 20 [pt 0 0, .int .i64 r] (ellT 0 0 (r * r) 0 (r * r) 0)) (h3 : QC Tryz.prog 175 [ell x y a b d, ell 0 0 (r * r) 0 (r * r)] (ellT p q A B D e)) :
    PC Tryz.prog 156 [ell x y a b d, .int .i64 r] (ellT p q A B D e) :=
  PC.run mixed Tryz.func156 [.res (.bool true), .auto, .tst false, .res (ellT 0 0 (r * r) 0 (r * r) 0), .res (ellT p q A B D e)] (by simp [flat_ell]; rfl) (ts1 (tF h0)) (qs3 h1 h2 h3) (flat_ellT _ _ _ _ _ _) rfl (by kernel_rfl)
theorem gball_pc {x y a b d r : Int} (ha : I64 a) (hb : I64 b) (hd : I64 d) : PC Tryz.prog 156 [ell x y a b d, .int .i64 r] (gballV x y a b d r) := by
  have hfl : [ell x y a b d, Value.int .i64 r].all flat = true := by simp [flat_ell]; rfl
  unfold gballV
  cases h1 : mayL x y a b d with
  | false => exact PC.run mixed Tryz.func156 [.res (.bool false)] hfl ts0 (qs1 (mayL_qc x y ha hb hd _ h1)) (flat_ellT 0 0 0 0 0 1) rfl (by kernel_rfl)
  | true =>
    simp only
    by_cases h0 : r = 0
    · rw [if_pos h0]
      exact PC.run mixed Tryz.func156 [.res (.bool true), .auto, .tst true] hfl (ts1 (tT h0)) (qs1 (mayL_qc x y ha hb hd _ h1)) (flat_ellT _ _ _ _ _ _) rfl (by kernel_rfl)
    · rw [if_neg h0]
      cases h2 : mayR r with
      | false =>
        have hb2 : ballV 0 0 r = ellT 0 0 0 0 0 1 := by unfold ballV; rw [h2, Bool.and_false]
        exact PC.run mixed Tryz.func156 [.res (.bool true), .auto, .tst false, .res (ellT 0 0 0 0 0 1)] hfl (ts1 (tF h0)) (qs2 (mayL_qc x y ha hb hd _ h1) (ball_qc 0 0 r _ hb2)) (flat_ellT _ _ _ _ _ _) rfl (by kernel_rfl)
      | true =>
        have hp : mayP 0 0 = true := by decide
        have hb2 : ballV 0 0 r = ellT 0 0 (r * r) 0 (r * r) 0 := by unfold ballV; rw [h2, hp]; rfl
        have hr := r_sq h2
        have i1 : I64 (r * r) := ⟨by omega, by omega⟩
        obtain ⟨p, q, A, B, D, e, he⟩ := gsumV_form x y a b d 0 0 (r * r) 0 (r * r)
        simp only
        rw [he]
        exact gball_run h0 (mayL_qc x y ha hb hd _ h1) (ball_qc 0 0 r _ hb2) (gsum_qc x y 0 0 ha hb hd i1 .lit i1 _ he)
theorem enters_gball : ∀ us w, (callFunc 156 us).run Tryz.prog w = .ok (.enter 156 us) w := enters Tryz.func156 rfl (by kernel_rfl)
theorem gball_qc {a b d : Int} (x y r : Int) (ha : I64 a) (hb : I64 b) (hd : I64 d) (v : Value) (h : gballV x y a b d r = v) : QC Tryz.prog 156 [ell x y a b d, .int .i64 r] v := h ▸ QC.of_pc enters_gball (gball_pc ha hb hd)
theorem gballV_form (x y a b d r : Int) : ∃ p q A B D e, gballV x y a b d r = ellT p q A B D e := by
  unfold gballV
  split
  · split
    · exact ⟨_, _, _, _, _, _, rfl⟩
    · split
      · exact gsumV_form _ _ _ _ _ _ _ _ _ _
      · exact ⟨_, _, _, _, _, _, rfl⟩
  · exact ⟨_, _, _, _, _, _, rfl⟩
end Go.Proofs.YtaibhjphgdjcmaaGreat.W
/-! Sums of ellipses: the rounding outweighed, what a sum holds, how it compares; awake. -/
namespace Go.Proofs.YtaibhjphgdjcmaaGreat.W
open Go Go.Ev Go.Wide

/-! ### The sum of two valid ellipses -/
def gA (a d A D : Int) : Int := sumA (upI (a + d)) (upI (A + D)) a A
def gB (a b d A B D : Int) : Int := sumB (upI (a + d)) (upI (A + D)) b B
def gD (a d A D : Int) : Int := sumA (upI (a + d)) (upI (A + D)) d D
def mayG (x y a b d X Y A B D : Int) : Bool := mayL (x + X) (y + Y) (gA a d A D) (gB a b d A B D) (gD a d A D)
def sumT5 (x y a b d X Y A B D : Int) : Value := ellT (x + X) (y + Y) (gA a d A D) (gB a b d A B D) (gD a d A D) 0
/-! ### Balls -/
/-! ### awake -/
end Go.Proofs.YtaibhjphgdjcmaaGreat.W
/-! Package grow: age. -/
namespace Go.Proofs.YtaibhjphgdjcmaaGreat.W
open Go Go.Ev Go.Wide

def mayG3 (x y a b d s t : Int) : Bool := mayL x y a b d && (decide (0 ≤ s) && decide (0 ≤ t))
def gageV (x y a b d s t : Int) : Value := match mayG3 x y a b d s t with
  | true => if 0 < s ∧ (4194304 : Int).tdiv s < t then ellT 0 0 0 0 0 2 else gballV x y a b d (s * t)
  | false => ellT 0 0 0 0 0 1
theorem gage_prod {s t : Int} (hs : 0 < s) (ht : 0 ≤ t) (h : t ≤ (4194304 : Int).tdiv s) : 0 ≤ s * t ∧ s * t ≤ 4194304 := by
  have h1 := Int.mul_le_mul_of_nonneg_left h (show 0 ≤ s by omega)
  have h2 := Int.mul_tdiv_add_tmod 4194304 s
  have h3 := Int.tmod_nonneg s (show (0 : Int) ≤ 4194304 by omega)
  have h4 := Int.mul_nonneg (show 0 ≤ s by omega) ht
  omega
theorem tdiv_wrap {s : Int} (hs : 0 < s) : IntKind.i64.wrap ((4194304 : Int).tdiv s) = (4194304 : Int).tdiv s := by
  have h2 := Int.mul_tdiv_add_tmod 4194304 s
  have h3 := Int.tmod_nonneg s (show (0 : Int) ≤ 4194304 by omega)
  have h0 : 0 ≤ (4194304 : Int).tdiv s := Int.tdiv_nonneg (by omega) (by omega)
  have h4 := Int.mul_le_mul_of_nonneg_right (show 1 ≤ s by omega) h0
  exact i64_wrap (by omega) (by omega)
theorem gageV_form (x y a b d s t : Int) : ∃ p q A B D e, gageV x y a b d s t = ellT p q A B D e := by
  unfold gageV
  split
  · split
    · exact ⟨_, _, _, _, _, _, rfl⟩
    · exact gballV_form _ _ _ _ _ _
  · exact ⟨_, _, _, _, _, _, rfl⟩
end Go.Proofs.YtaibhjphgdjcmaaGreat.W
