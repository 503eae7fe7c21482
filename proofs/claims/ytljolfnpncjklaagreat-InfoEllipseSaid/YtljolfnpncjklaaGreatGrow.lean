/-
  Package grow: sums, balls, age.
  Sums of ellipses: the rounding outweighed, what a sum holds, how it compares; awake.
  Package grow: age.
-/
import Derived.Test.YtljolfnpncjklaaGreatEll
import Derived.Test.YtljolfnpncjklaaGreatRoot
/-! Package grow: sums, balls, age. -/
namespace Go.Proofs.YtljolfnpncjklaaGreat.W
open Go Go.Ev Go.Wide

/-! ### Stretched matrices -/
def strA (w n p : Int) : Int := cdiv (w * n) p + 1
def strB (w n p : Int) : Int := (w * n).fdiv p
theorem str_bounds {w n p : Int} (hp : 0 < p) (hp2 : p ≤ 16777216) (hw : 0 ≤ w) (hw2 : w ≤ 33554432) (h0 : -(p * p) ≤ n) (h1 : n ≤ p * p) :
    (-562949953421312 ≤ cdiv (w * n) p ∧ cdiv (w * n) p ≤ 562949953421312) ∧ (-562949953421312 ≤ (w * n).fdiv p ∧ (w * n).fdiv p ≤ 562949953421312) := by
  obtain ⟨c1, c2⟩ := cdiv_bounds (z := w * n) hp
  obtain ⟨f1, f2⟩ := fdiv_bounds (z := w * n) hp
  have wp : w * p ≤ 33554432 * 16777216 := Int.mul_le_mul hw2 hp2 (by omega) (by omega)
  have wp0 : 0 ≤ w * p := Int.mul_nonneg hw (by omega)
  have u1 : w * n ≤ w * (p * p) := Int.mul_le_mul_of_nonneg_left h1 hw
  have u0 : w * -(p * p) ≤ w * n := Int.mul_le_mul_of_nonneg_left h0 hw
  have e1 : p * (w * p) = w * (p * p) := by grind
  have e2 : p * (-(w * p)) = w * -(p * p) := by grind
  have e3 : p * (w * p + 1) = w * (p * p) + p := by grind
  have e4 : p * (-(w * p) - 1) = w * -(p * p) - p := by grind
  generalize cdiv (w * n) p = c at *
  generalize (w * n).fdiv p = f at *
  have k1 : c < w * p + 1 := mul_lt_cancel hp (by omega)
  have k2 : -(w * p) - 1 < c := mul_lt_cancel hp (by omega)
  have k3 : f < w * p + 1 := mul_lt_cancel hp (by omega)
  have k4 : -(w * p) < f + 1 := mul_lt_cancel hp (by rw [Int.mul_add, Int.mul_one]; omega)
  omega
theorem stretched_run {a b d w p A B D : Int} (hA : QC Tryz.prog 117 [.int .i64 w, .int .i64 a, .int .i64 p] (errI A 0)) (hB : QC Tryz.prog 118 [.int .i64 w, .int .i64 b, .int .i64 p] (errI B 0)) (hD : QC Tryz.prog 117 [.int .i64 w, .int .i64 d, .int .i64 p] (errI D 0)) :
    PC Tryz.prog 101 [sym a b d, .int .i64 w, .int .i64 p] (sym (IntKind.i64.wrap (A + 1)) B (IntKind.i64.wrap (D + 1))) :=
  PC.run mixed Tryz.func101 [.res (errI A 0), .res (errI B 0), .res (errI D 0)] (by simp [flat_sym]; exact ⟨rfl, rfl⟩) ts0 (qs3 hA hB hD) (flat_sym _ _ _) rfl (by kernel_rfl)
theorem enters_stretched : ∀ us w, (callFunc 101 us).run Tryz.prog w = .ok (.enter 101 us) w := enters Tryz.func101 rfl (by kernel_rfl)
theorem stretched_qc {a b d w p : Int} (hp : 0 < p) (hp2 : p ≤ 16777216) (hw : 0 ≤ w) (hw2 : w ≤ 33554432) (ha : -(p * p) ≤ a ∧ a ≤ p * p) (hb : -(p * p) ≤ b ∧ b ≤ p * p) (hd : -(p * p) ≤ d ∧ d ≤ p * p) :
    QC Tryz.prog 101 [sym a b d, .int .i64 w, .int .i64 p] (sym (strA w a p) (strB w b p) (strA w d p)) := by
  have pp : p * p ≤ 16777216 * 16777216 := Int.mul_le_mul hp2 hp2 (by omega) (by omega)
  have ga := str_bounds hp hp2 hw hw2 ha.1 ha.2
  have gb := str_bounds hp hp2 hw hw2 hb.1 hb.2
  have gd := str_bounds hp hp2 hw hw2 hd.1 hd.2
  have hwI : I64r w := ⟨by omega, by omega⟩
  have hpI : I64r p := ⟨by omega, by omega⟩
  have h := stretched_run (mulDivUp_qc hwI (b := a) ⟨by omega, by omega⟩ hpI _ (muV_fits (by omega) (fits64_iff.2 ⟨by omega, by omega⟩))) (mulDiv_qc hwI (b := b) ⟨by omega, by omega⟩ hpI _ (mdV_fits (by omega) (fits64_iff.2 ⟨by omega, by omega⟩))) (mulDivUp_qc hwI (b := d) ⟨by omega, by omega⟩ hpI _ (muV_fits (by omega) (fits64_iff.2 ⟨by omega, by omega⟩)))
  have e1 : IntKind.i64.wrap (cdiv (w * a) p + 1) = strA w a p := i64_wrap (by omega) (by omega)
  have e2 : IntKind.i64.wrap (cdiv (w * d) p + 1) = strA w d p := i64_wrap (by omega) (by omega)
  rw [e1, e2] at h
  exact QC.of_pc enters_stretched h
theorem rad_facts {x y a b d : Int} (h : mayL x y a b d = true) : 0 < upI (a + d) ∧ upI (a + d) ≤ 16777216 ∧ (-(upI (a + d) * upI (a + d)) ≤ a ∧ a ≤ upI (a + d) * upI (a + d)) ∧ (-(upI (a + d) * upI (a + d)) ≤ b ∧ b ≤ upI (a + d) * upI (a + d)) ∧ (-(upI (a + d) * upI (a + d)) ≤ d ∧ d ≤ upI (a + d) * upI (a + d)) ∧ radI x y a b d = upI (a + d) := by
  have g := mayL_iff.1 h
  obtain ⟨u0, u1, u2⟩ := upI_bounds (m := a + d) (K := 16777216) (by omega) (by omega) (by omega)
  have hdet := g.2.2.2.2
  unfold detI at hdet
  have hbb : b * b ≤ (a + d) * (a + d) := by
    have e : (a + d) * (a + d) = a * a + d * d + 2 * (a * d) := by grind
    have := sq_nn a
    have := sq_nn d
    have := Int.mul_nonneg (show 0 ≤ a by omega) (show 0 ≤ d by omega)
    omega
  have hb := sq_abs (x := b) (n := a + d) (by omega) hbb
  have hr : radI x y a b d = upI (a + d) := by unfold radI trI; rw [h]
  generalize upI (a + d) = s at *
  have hs : s ≠ 0 := fun e => by subst e; omega
  exact ⟨by omega, u1, by omega, by omega, by omega, hr⟩

/-! ### Sums -/
def sumA (s t n m : Int) : Int := strA (s + t) n s + strA (s + t) m t
def sumB (s t n m : Int) : Int := strB (s + t) n s + strB (s + t) m t
def gsumR (x y a b d x' y' a' b' d' s t : Int) : Value :=
  match mayL (x + x') (y + y') (sumA s t a a') (sumB s t b b') (sumA s t d d') with
  | true => ellT (x + x') (y + y') (sumA s t a a') (sumB s t b b') (sumA s t d d') 0
  | false => ellT 0 0 0 0 0 2
def gsumV (x y a b d x' y' a' b' d' : Int) : Value := match mayL x y a b d && mayL x' y' a' b' d' with
  | true => gsumR x y a b d x' y' a' b' d' (upI (a + d)) (upI (a' + d'))
  | false => ellT 0 0 0 0 0 1
theorem gsum_run1 {x y a b d x' y' a' b' d' s t A B D A' B' D' A2 B2 D2 : Int} (h1 : QC Tryz.prog 56 [ell x y a b d] (.bool true)) (h2 : QC Tryz.prog 56 [ell x' y' a' b' d'] (.bool true))
    (h3 : QC Tryz.prog 100 [ell x y a b d] (.int .i64 s)) (h4 : QC Tryz.prog 100 [ell x' y' a' b' d'] (.int .i64 t)) (h5 : QC Tryz.prog 101 [sym a b d, .int .i64 (IntKind.i64.wrap (s + t)), .int .i64 s] (sym A B D)) (h6 : QC Tryz.prog 101 [sym a' b' d', .int .i64 (IntKind.i64.wrap (s + t)), .int .i64 t] (sym A' B' D'))
    (h7 : QC Tryz.prog 68 [sym A B D, sym A' B' D'] (sumT A2 B2 D2)) (h8 : QC Tryz.prog 56 [ell (IntKind.i64.wrap (x + x')) (IntKind.i64.wrap (y + y')) A2 B2 D2] (.bool true)) :
    PC Tryz.prog 69 [ell x y a b d, ell x' y' a' b' d'] (ellT (IntKind.i64.wrap (x + x')) (IntKind.i64.wrap (y + y')) A2 B2 D2 0) :=
  PC.run mixed Tryz.func69 [.res (.bool true), .res (.bool true), .res (.int .i64 s), .res (.int .i64 t), .res (sym A B D), .res (sym A' B' D'), .res (sumT A2 B2 D2), .res (.bool true)] (by simp [flat_ell]) ts0 (qs8 h1 h2 h3 h4 h5 h6 h7 h8) (flat_ellT _ _ _ _ _ _) rfl (by kernel_rfl)
theorem gsum_run2 {x y a b d x' y' a' b' d' s t A B D A' B' D' A2 B2 D2 : Int} (h1 : QC Tryz.prog 56 [ell x y a b d] (.bool true)) (h2 : QC Tryz.prog 56 [ell x' y' a' b' d'] (.bool true))
    (h3 : QC Tryz.prog 100 [ell x y a b d] (.int .i64 s)) (h4 : QC Tryz.prog 100 [ell x' y' a' b' d'] (.int .i64 t)) (h5 : QC Tryz.prog 101 [sym a b d, .int .i64 (IntKind.i64.wrap (s + t)), .int .i64 s] (sym A B D)) (h6 : QC Tryz.prog 101 [sym a' b' d', .int .i64 (IntKind.i64.wrap (s + t)), .int .i64 t] (sym A' B' D'))
    (h7 : QC Tryz.prog 68 [sym A B D, sym A' B' D'] (sumT A2 B2 D2)) (h8 : QC Tryz.prog 56 [ell (IntKind.i64.wrap (x + x')) (IntKind.i64.wrap (y + y')) A2 B2 D2] (.bool false)) :
    PC Tryz.prog 69 [ell x y a b d, ell x' y' a' b' d'] (ellT 0 0 0 0 0 2) :=
  PC.run mixed Tryz.func69 [.res (.bool true), .res (.bool true), .res (.int .i64 s), .res (.int .i64 t), .res (sym A B D), .res (sym A' B' D'), .res (sumT A2 B2 D2), .res (.bool false)] (by simp [flat_ell]) ts0 (qs8 h1 h2 h3 h4 h5 h6 h7 h8) (flat_ellT _ _ _ _ _ _) rfl (by kernel_rfl)
theorem gsum_pc {x y a b d x' y' a' b' d' : Int} (ha : I64 a) (hb : I64 b) (hd : I64 d) (ha' : I64 a') (hb' : I64 b') (hd' : I64 d') : PC Tryz.prog 69 [ell x y a b d, ell x' y' a' b' d'] (gsumV x y a b d x' y' a' b' d') := by
  have hfl : [ell x y a b d, ell x' y' a' b' d'].all flat = true := by simp [flat_ell]
  unfold gsumV
  cases h1 : mayL x y a b d with
  | false => exact PC.run mixed Tryz.func69 [.res (.bool false)] hfl ts0 (qs1 (mayL_qc x y ha hb hd _ h1)) (flat_ellT 0 0 0 0 0 1) rfl (by kernel_rfl)
  | true =>
    cases h2 : mayL x' y' a' b' d' with
    | false => exact PC.run mixed Tryz.func69 [.res (.bool true), .res (.bool false)] hfl ts0 (qs2 (mayL_qc x y ha hb hd _ h1) (mayL_qc x' y' ha' hb' hd' _ h2)) (flat_ellT 0 0 0 0 0 1) rfl (by kernel_rfl)
    | true =>
      have g := mayL_iff.1 h1
      have g' := mayL_iff.1 h2
      obtain ⟨s0, s1, sa, sb, sd, sr⟩ := rad_facts h1
      obtain ⟨t0, t1, ta, tb, td, tr⟩ := rad_facts h2
      have h3 := radius_qc (a := a) (b := b) (d := d) x y ha hb hd
      have h4 := radius_qc (a := a') (b := b') (d := d') x' y' ha' hb' hd'
      rw [sr] at h3
      rw [tr] at h4
      simp only [Bool.and_self]
      unfold gsumR
      generalize upI (a + d) = s at *
      generalize upI (a' + d') = t at *
      have ew : IntKind.i64.wrap (s + t) = s + t := i64_wrap (by omega) (by omega)
      have ex : IntKind.i64.wrap (x + x') = x + x' := i64_wrap (by omega) (by omega)
      have ey : IntKind.i64.wrap (y + y') = y + y' := i64_wrap (by omega) (by omega)
      have h5 := stretched_qc s0 s1 (w := s + t) (by omega) (by omega) sa sb sd
      have h6 := stretched_qc t0 t1 (w := s + t) (by omega) (by omega) ta tb td
      have b1 := str_bounds s0 s1 (w := s + t) (by omega) (by omega) sa.1 sa.2
      have b2 := str_bounds s0 s1 (w := s + t) (by omega) (by omega) sb.1 sb.2
      have b3 := str_bounds s0 s1 (w := s + t) (by omega) (by omega) sd.1 sd.2
      have b4 := str_bounds t0 t1 (w := s + t) (by omega) (by omega) ta.1 ta.2
      have b5 := str_bounds t0 t1 (w := s + t) (by omega) (by omega) tb.1 tb.2
      have b6 := str_bounds t0 t1 (w := s + t) (by omega) (by omega) td.1 td.2
      have m1 : mayM (strA (s + t) a s) (strB (s + t) b s) (strA (s + t) d s) = true := mayM_iff.2 (by unfold strA strB; omega)
      have m2 : mayM (strA (s + t) a' t) (strB (s + t) b' t) (strA (s + t) d' t) = true := mayM_iff.2 (by unfold strA strB; omega)
      have m3 : mayM (strA (s + t) a s + strA (s + t) a' t) (strB (s + t) b s + strB (s + t) b' t) (strA (s + t) d s + strA (s + t) d' t) = true := mayM_iff.2 (by unfold strA strB; omega)
      have h7 := addM_pc (strA (s + t) a s) (strB (s + t) b s) (strA (s + t) d s) (strA (s + t) a' t) (strB (s + t) b' t) (strA (s + t) d' t)
      unfold sumV at h7
      rw [m1, m2, m3] at h7
      have i1 : I64 (sumA s t a a') := ⟨by unfold sumA strA; omega, by unfold sumA strA; omega⟩
      have i2 : I64 (sumB s t b b') := ⟨by unfold sumB strB; omega, by unfold sumB strB; omega⟩
      have i3 : I64 (sumA s t d d') := ⟨by unfold sumA strA; omega, by unfold sumA strA; omega⟩
      rw [← ew] at h5 h6
      have h8 : ∀ r, mayL (x + x') (y + y') (sumA s t a a') (sumB s t b b') (sumA s t d d') = r → QC Tryz.prog 56 [ell (IntKind.i64.wrap (x + x')) (IntKind.i64.wrap (y + y')) (sumA s t a a') (sumB s t b b') (sumA s t d d')] (.bool r) := fun r hr => by
        rw [ex, ey]
        exact mayL_qc _ _ i1 i2 i3 r hr
      rw [ew] at h5 h6
      cases hm : mayL (x + x') (y + y') (sumA s t a a') (sumB s t b b') (sumA s t d d') with
      | true =>
        have hr := gsum_run1 (mayL_qc x y ha hb hd _ h1) (mayL_qc x' y' ha' hb' hd' _ h2) h3 h4 (by rw [ew]; exact h5) (by rw [ew]; exact h6) (QC.of_pc enters_addM h7) (h8 _ hm)
        rw [ex, ey] at hr
        exact hr
      | false => exact gsum_run2 (mayL_qc x y ha hb hd _ h1) (mayL_qc x' y' ha' hb' hd' _ h2) h3 h4 (by rw [ew]; exact h5) (by rw [ew]; exact h6) (QC.of_pc enters_addM h7) (h8 _ hm)
theorem enters_gsum : ∀ us w, (callFunc 69 us).run Tryz.prog w = .ok (.enter 69 us) w := enters Tryz.func69 rfl (by kernel_rfl)
theorem gsum_qc {a b d a' b' d' : Int} (x y x' y' : Int) (ha : I64 a) (hb : I64 b) (hd : I64 d) (ha' : I64 a') (hb' : I64 b') (hd' : I64 d') (v : Value) (h : gsumV x y a b d x' y' a' b' d' = v) : QC Tryz.prog 69 [ell x y a b d, ell x' y' a' b' d'] v := h ▸ QC.of_pc enters_gsum (gsum_pc ha hb hd ha' hb' hd')
theorem gsumV_form (x y a b d x' y' a' b' d' : Int) : ∃ p q A B D e, gsumV x y a b d x' y' a' b' d' = ellT p q A B D e := by
  unfold gsumV gsumR
  split
  · split <;> exact ⟨_, _, _, _, _, _, rfl⟩
  · exact ⟨_, _, _, _, _, _, rfl⟩

/-! ### Balls, age -/
def gballV (x y a b d r : Int) : Value := match mayL x y a b d with
  | true => if r = 0 then ellT x y a b d 0 else match mayR r with
    | true => gsumV x y a b d 0 0 (r * r) 0 (r * r)
    | false => ellT 0 0 0 0 0 1
  | false => ellT 0 0 0 0 0 1
theorem gball_run {x y a b d r p q A B D : Int} {e : Nat} (h0 : ¬ r = 0) (h1 : QC Tryz.prog 56 [ell x y a b d] (.bool true)) (h2 : QC Tryz.prog 18 [pt 0 0, .int .i64 r] (ellT 0 0 (r * r) 0 (r * r) 0)) (h3 : QC Tryz.prog 69 [ell x y a b d, ell 0 0 (r * r) 0 (r * r)] (ellT p q A B D e)) :
    PC Tryz.prog 25 [ell x y a b d, .int .i64 r] (ellT p q A B D e) :=
  PC.run mixed Tryz.func25 [.res (.bool true), .auto, .tst false, .res (ellT 0 0 (r * r) 0 (r * r) 0), .res (ellT p q A B D e)] (by simp [flat_ell]; rfl) (ts1 (tF h0)) (qs3 h1 h2 h3) (flat_ellT _ _ _ _ _ _) rfl (by kernel_rfl)
theorem gball_pc {x y a b d r : Int} (ha : I64 a) (hb : I64 b) (hd : I64 d) : PC Tryz.prog 25 [ell x y a b d, .int .i64 r] (gballV x y a b d r) := by
  have hfl : [ell x y a b d, Value.int .i64 r].all flat = true := by simp [flat_ell]; rfl
  unfold gballV
  cases h1 : mayL x y a b d with
  | false => exact PC.run mixed Tryz.func25 [.res (.bool false)] hfl ts0 (qs1 (mayL_qc x y ha hb hd _ h1)) (flat_ellT 0 0 0 0 0 1) rfl (by kernel_rfl)
  | true =>
    simp only
    by_cases h0 : r = 0
    · rw [if_pos h0]
      exact PC.run mixed Tryz.func25 [.res (.bool true), .auto, .tst true] hfl (ts1 (tT h0)) (qs1 (mayL_qc x y ha hb hd _ h1)) (flat_ellT _ _ _ _ _ _) rfl (by kernel_rfl)
    · rw [if_neg h0]
      cases h2 : mayR r with
      | false =>
        have hb2 : ballV 0 0 r = ellT 0 0 0 0 0 1 := by unfold ballV; rw [h2, Bool.and_false]
        exact PC.run mixed Tryz.func25 [.res (.bool true), .auto, .tst false, .res (ellT 0 0 0 0 0 1)] hfl (ts1 (tF h0)) (qs2 (mayL_qc x y ha hb hd _ h1) (ball_qc 0 0 r _ hb2)) (flat_ellT _ _ _ _ _ _) rfl (by kernel_rfl)
      | true =>
        have hp : mayP 0 0 = true := by decide
        have hb2 : ballV 0 0 r = ellT 0 0 (r * r) 0 (r * r) 0 := by unfold ballV; rw [h2, hp]; rfl
        have hr := r_sq h2
        have i1 : I64 (r * r) := ⟨by omega, by omega⟩
        obtain ⟨p, q, A, B, D, e, he⟩ := gsumV_form x y a b d 0 0 (r * r) 0 (r * r)
        simp only
        rw [he]
        exact gball_run h0 (mayL_qc x y ha hb hd _ h1) (ball_qc 0 0 r _ hb2) (gsum_qc x y 0 0 ha hb hd i1 .lit i1 _ he)
theorem enters_gball : ∀ us w, (callFunc 25 us).run Tryz.prog w = .ok (.enter 25 us) w := enters Tryz.func25 rfl (by kernel_rfl)
theorem gball_qc {a b d : Int} (x y r : Int) (ha : I64 a) (hb : I64 b) (hd : I64 d) (v : Value) (h : gballV x y a b d r = v) : QC Tryz.prog 25 [ell x y a b d, .int .i64 r] v := h ▸ QC.of_pc enters_gball (gball_pc ha hb hd)
theorem gballV_form (x y a b d r : Int) : ∃ p q A B D e, gballV x y a b d r = ellT p q A B D e := by
  unfold gballV
  split
  · split
    · exact ⟨_, _, _, _, _, _, rfl⟩
    · split
      · exact gsumV_form _ _ _ _ _ _ _ _ _ _
      · exact ⟨_, _, _, _, _, _, rfl⟩
  · exact ⟨_, _, _, _, _, _, rfl⟩
end Go.Proofs.YtljolfnpncjklaaGreat.W
/-! Sums of ellipses: the rounding outweighed, what a sum holds, how it compares; awake. -/
namespace Go.Proofs.YtljolfnpncjklaaGreat.W
open Go Go.Ev Go.Wide

theorem quad_sub_sq (a b d x y g k : Int) : quadI (a - x * x) (b - x * y) (d - y * y) g k = quadI a b d g k - (g * x + k * y) * (g * x + k * y) := by
  simp only [quadI_eq]
  grind
theorem quad_sub (a b d a' b' d' g k : Int) : quadI (a - a') (b - b') (d - d') g k = quadI a b d g k - quadI a' b' d' g k := by
  simp only [quadI_eq]
  grind
/-- Stretched, it is at least w / p of what it was, whatever the rounding does. -/
theorem stretch_quad {w a b d p : Int} (g k : Int) (hp : 0 < p) : w * quadI a b d g k ≤ p * quadI (strA w a p) (strB w b p) (strA w d p) g k := by
  unfold strA strB
  obtain ⟨c1, c2⟩ := cdiv_bounds (z := w * a) hp
  obtain ⟨d1, d2⟩ := cdiv_bounds (z := w * d) hp
  obtain ⟨f1, f2⟩ := fdiv_bounds (z := w * b) hp
  generalize cdiv (w * a) p = A at *
  generalize cdiv (w * d) p = D at *
  generalize (w * b).fdiv p = B at *
  have n1 := Int.mul_nonneg (show 0 ≤ p * A - w * a by omega) (sq_nn g)
  have n2 := Int.mul_nonneg (show 0 ≤ p * D - w * d by omega) (sq_nn k)
  have n3 := Int.mul_nonneg (show 0 ≤ p - (w * b - p * B) by omega) (sq_nn g)
  have n4 := Int.mul_nonneg (show 0 ≤ p - (w * b - p * B) by omega) (sq_nn k)
  have n5 := Int.mul_nonneg (show 0 ≤ w * b - p * B by omega) (sq_nn (g - k))
  have e : p * quadI (A + 1) B (D + 1) g k - w * quadI a b d g k = (p * A - w * a) * (g * g) + (p * D - w * d) * (k * k) + (p - (w * b - p * B)) * (g * g) + (p - (w * b - p * B)) * (k * k) + (w * b - p * B) * ((g - k) * (g - k)) := by
    simp only [quadI_eq]
    grind
  omega
theorem sum_quad {s t a b d a' b' d' : Int} (g k : Int) (hs : 0 < s) (ht : 0 < t) :
    t * (s + t) * quadI a b d g k + s * (s + t) * quadI a' b' d' g k ≤ s * t * quadI (sumA s t a a') (sumB s t b b') (sumA s t d d') g k := by
  unfold sumA sumB
  rw [quad_add]
  have h1 := stretch_quad (w := s + t) (a := a) (b := b) (d := d) g k hs
  have h2 := stretch_quad (w := s + t) (a := a') (b := b') (d := d') g k ht
  have n1 := Int.mul_le_mul_of_nonneg_left h1 (show 0 ≤ t by omega)
  have n2 := Int.mul_le_mul_of_nonneg_left h2 (show 0 ≤ s by omega)
  generalize quadI (strA (s + t) a s) _ _ g k = U at *
  generalize quadI (strA (s + t) a' t) _ _ g k = V at *
  generalize quadI a b d g k = P at *
  generalize quadI a' b' d' g k = Q at *
  have e1 : t * ((s + t) * P) = t * (s + t) * P := by grind
  have e2 : s * ((s + t) * Q) = s * (s + t) * Q := by grind
  have e3 : t * (s * U) + s * (t * V) = s * t * (U + V) := by grind
  omega
theorem two_sides {s t P Q S α β : Int} (hs : 0 < s) (ht : 0 < t) (h1 : 0 ≤ P - α * α) (h2 : 0 ≤ Q - β * β) (h : t * (s + t) * P + s * (s + t) * Q ≤ s * t * S) : 0 ≤ S - (α + β) * (α + β) := by
  refine nn_of_mul (Int.mul_pos hs ht) ?_
  have m1 := Int.mul_nonneg (Int.mul_nonneg (show 0 ≤ t by omega) (show 0 ≤ s + t by omega)) h1
  have m2 := Int.mul_nonneg (Int.mul_nonneg (show 0 ≤ s by omega) (show 0 ≤ s + t by omega)) h2
  have m3 := sq_nn (t * α - s * β)
  have e : s * t * (S - (α + β) * (α + β)) = (s * t * S - (t * (s + t) * P + s * (s + t) * Q)) + t * (s + t) * (P - α * α) + s * (s + t) * (Q - β * β) + (t * α - s * β) * (t * α - s * β) := by grind
  omega
theorem sum_holds {s t a b d a' b' d' u1 u2 v1 v2 : Int} (hs : 0 < s) (ht : 0 < t) (h : holdsI a b d u1 u2 = true) (h' : holdsI a' b' d' v1 v2 = true) : holdsI (sumA s t a a') (sumB s t b b') (sumA s t d d') (u1 + v1) (u2 + v2) = true := by
  rw [holdsE_eq] at *
  refine psd_iff_quad.2 fun g k => ?_
  have p1 := psd_iff_quad.1 h g k
  have p2 := psd_iff_quad.1 h' g k
  have p3 := sum_quad (s := s) (t := t) (a := a) (b := b) (d := d) (a' := a') (b' := b') (d' := d') g k hs ht
  rw [quad_sub_sq] at *
  have := two_sides hs ht p1 p2 p3
  have e : g * (u1 + v1) + k * (u2 + v2) = g * u1 + k * u2 + (g * v1 + k * v2) := by grind
  rw [e]
  exact this
theorem sum_least {s t a b d a' b' d' : Int} (hs : 0 < s) (ht : 0 < t) (h : psdI a b d = true) (h' : psdI a' b' d' = true) : psdI (sumA s t a a' - a) (sumB s t b b' - b) (sumA s t d d' - d) = true := by
  refine psd_iff_quad.2 fun g k => ?_
  have p1 := psd_iff_quad.1 h g k
  have p2 := psd_iff_quad.1 h' g k
  have p3 := sum_quad (s := s) (t := t) (a := a) (b := b) (d := d) (a' := a') (b' := b') (d' := d') g k hs ht
  rw [quad_sub]
  refine nn_of_mul (Int.mul_pos hs ht) ?_
  generalize quadI (sumA s t a a') _ _ g k = S at *
  generalize quadI a b d g k = P at *
  generalize quadI a' b' d' g k = Q at *
  have m1 := Int.mul_nonneg (Int.mul_nonneg (show 0 ≤ t by omega) (show 0 ≤ t by omega)) p1
  have m2 := Int.mul_nonneg (Int.mul_nonneg (show 0 ≤ s by omega) (show 0 ≤ s + t by omega)) p2
  have e : s * t * (S - P) = (s * t * S - (t * (s + t) * P + s * (s + t) * Q)) + t * t * P + s * (s + t) * Q := by grind
  omega
theorem sumA_comm (s t n m : Int) : sumA s t n m = sumA t s m n := by
  unfold sumA
  rw [Int.add_comm s t, Int.add_comm (strA _ _ _)]
theorem sumB_comm (s t n m : Int) : sumB s t n m = sumB t s m n := by
  unfold sumB
  rw [Int.add_comm s t, Int.add_comm (strB _ _ _)]
theorem strA_ge {w n p : Int} (hp : 0 < p) (hw : p ≤ w) (hn : 0 ≤ n) : n + 1 ≤ strA w n p := by
  unfold strA
  obtain ⟨c1, _⟩ := cdiv_bounds (z := w * n) hp
  have m := Int.mul_le_mul_of_nonneg_right hw hn
  have e : p * (cdiv (w * n) p + 1) = p * cdiv (w * n) p + p := by rw [Int.mul_add, Int.mul_one]
  have : n < cdiv (w * n) p + 1 := mul_lt_cancel hp (by omega)
  omega
theorem sumA_ge {s t n m : Int} (hs : 0 < s) (ht : 0 < t) (hn : 0 ≤ n) (hm : 0 ≤ m) : n + m + 2 ≤ sumA s t n m := by
  unfold sumA
  have h1 := strA_ge (w := s + t) hs (by omega) hn
  have h2 := strA_ge (w := s + t) ht (by omega) hm
  omega

/-! ### The sum of two valid ellipses -/
def gA (a d A D : Int) : Int := sumA (upI (a + d)) (upI (A + D)) a A
def gB (a b d A B D : Int) : Int := sumB (upI (a + d)) (upI (A + D)) b B
def gD (a d A D : Int) : Int := sumA (upI (a + d)) (upI (A + D)) d D
def mayG (x y a b d X Y A B D : Int) : Bool := mayL (x + X) (y + Y) (gA a d A D) (gB a b d A B D) (gD a d A D)
def sumT5 (x y a b d X Y A B D : Int) : Value := ellT (x + X) (y + Y) (gA a d A D) (gB a b d A B D) (gD a d A D) 0
theorem gsum_ok {x y a b d X Y A B D : Int} (h1 : mayL x y a b d = true) (h2 : mayL X Y A B D = true) (h3 : mayG x y a b d X Y A B D = true) : gsumV x y a b d X Y A B D = sumT5 x y a b d X Y A B D := by
  unfold gsumV gsumR
  unfold mayG gA gB gD at h3
  rw [h1, h2]
  simp only [Bool.and_self]
  rw [h3]
  rfl
theorem gsum_over {x y a b d X Y A B D : Int} (h1 : mayL x y a b d = true) (h2 : mayL X Y A B D = true) (h3 : mayG x y a b d X Y A B D = false) : gsumV x y a b d X Y A B D = ellT 0 0 0 0 0 2 := by
  unfold gsumV gsumR
  unfold mayG gA gB gD at h3
  rw [h1, h2]
  simp only [Bool.and_self]
  rw [h3]
theorem gsum_arg1 {x y a b d X Y A B D : Int} (h1 : mayL x y a b d = false) : gsumV x y a b d X Y A B D = ellT 0 0 0 0 0 1 := by
  unfold gsumV
  rw [h1]
  rfl
theorem gsum_arg2 {x y a b d X Y A B D : Int} (h2 : mayL X Y A B D = false) : gsumV x y a b d X Y A B D = ellT 0 0 0 0 0 1 := by
  unfold gsumV
  rw [h2, Bool.and_false]
theorem mayG_i64 {x y a b d X Y A B D : Int} (h3 : mayG x y a b d X Y A B D = true) : I64 (gA a d A D) ∧ I64 (gB a b d A B D) ∧ I64 (gD a d A D) := by
  have g := mayL_iff.1 h3
  exact ⟨⟨by omega, by omega⟩, ⟨by omega, by omega⟩, by omega, by omega⟩
theorem gsum_in {x y a b d X Y A B D p q P Q : Int} (h3 : mayG x y a b d X Y A B D = true) (h4 : inE x y a b d p q = true) (h5 : inE X Y A B D P Q = true) : inE (x + X) (y + Y) (gA a d A D) (gB a b d A B D) (gD a d A D) (p + P) (q + Q) = true := by
  obtain ⟨h1, _, i1, _, _⟩ := inE_near h4
  obtain ⟨h2, _, i2, _, _⟩ := inE_near h5
  have g1 := mayL_iff.1 h1
  have g2 := mayL_iff.1 h2
  refine inE_mk h3 (by omega) ?_
  have := sum_holds (rad_facts h1).1 (rad_facts h2).1 i1 i2
  rwa [show p - x + (P - X) = p + P - (x + X) by omega, show q - y + (Q - Y) = q + Q - (y + Y) by omega] at this
theorem gsum_in_w {x y a b d X Y A B D p q P Q : Int} (h3 : mayG x y a b d X Y A B D = true) (h4 : inE x y a b d p q = true) (h5 : inE X Y A B D P Q = true) : inE (x + X) (y + Y) (gA a d A D) (gB a b d A B D) (gD a d A D) (IntKind.i64.wrap (p + P)) (IntKind.i64.wrap (q + Q)) = true := by
  have k1 := within_iff.1 (inE_near h4).2.1
  have k2 := within_iff.1 (inE_near h5).2.1
  rw [wrapS (by omega), wrapS (by omega)]
  exact gsum_in h3 h4 h5
theorem gsum_trace {x y a b d X Y A B D : Int} (h1 : mayL x y a b d = true) (h2 : mayL X Y A B D = true) (h3 : mayG x y a b d X Y A B D = true) : trI x y a b d + trI X Y A B D + 4 ≤ trI (x + X) (y + Y) (gA a d A D) (gB a b d A B D) (gD a d A D) := by
  have g1 := mayL_iff.1 h1
  have g2 := mayL_iff.1 h2
  have s0 := (rad_facts h1).1
  have t0 := (rad_facts h2).1
  have k1 := sumA_ge (n := a) (m := A) s0 t0 (by omega) (by omega)
  have k2 := sumA_ge (n := d) (m := D) s0 t0 (by omega) (by omega)
  unfold mayG at h3
  unfold trI
  rw [h1, h2, h3]
  simp only
  unfold gA gD
  omega
theorem gsum_least {x y a b d X Y A B D : Int} (h1 : mayL x y a b d = true) (h2 : mayL X Y A B D = true) (h3 : mayG x y a b d X Y A B D = true) : leastI (gA a d A D) (gB a b d A B D) (gD a d A D) a b d = true := by
  have g1 := mayL_iff.1 h1
  have g3 := mayL_iff.1 h3
  exact leastI_iff.2 ⟨mayM_iff.2 (by omega), mayM_iff.2 (by omega), sum_least (rad_facts h1).1 (rad_facts h2).1 (may_psd h1) (may_psd h2)⟩
theorem gA_comm (a d A D : Int) : gA a d A D = gA A D a d := sumA_comm _ _ _ _
theorem gD_comm (a d A D : Int) : gD a d A D = gD A D a d := sumA_comm _ _ _ _
theorem gB_comm (a b d A B D : Int) : gB a b d A B D = gB A B D a b d := sumB_comm _ _ _ _
theorem mayG_comm (x y a b d X Y A B D : Int) : mayG x y a b d X Y A B D = mayG X Y A B D x y a b d := by
  unfold mayG
  rw [gA_comm, gB_comm, gD_comm, Int.add_comm x X, Int.add_comm y Y]
theorem gsumV_comm (x y a b d X Y A B D : Int) : gsumV x y a b d X Y A B D = gsumV X Y A B D x y a b d := by
  cases h1 : mayL x y a b d with
  | false => rw [gsum_arg1 h1, gsum_arg2 h1]
  | true =>
    cases h2 : mayL X Y A B D with
    | false => rw [gsum_arg1 h2, gsum_arg2 h2]
    | true =>
      cases h3 : mayG x y a b d X Y A B D with
      | false => rw [gsum_over h1 h2 h3, gsum_over h2 h1 (by rw [← mayG_comm]; exact h3)]
      | true =>
        rw [gsum_ok h1 h2 h3, gsum_ok h2 h1 (by rw [← mayG_comm]; exact h3)]
        unfold sumT5
        rw [gA_comm, gB_comm, gD_comm, Int.add_comm x X, Int.add_comm y Y]
theorem gsum_least' {x y a b d X Y A B D : Int} (h1 : mayL x y a b d = true) (h2 : mayL X Y A B D = true) (h3 : mayG x y a b d X Y A B D = true) : leastI (gA a d A D) (gB a b d A B D) (gD a d A D) A B D = true := by
  rw [gA_comm, gB_comm, gD_comm]
  exact gsum_least h2 h1 (by rw [← mayG_comm]; exact h3)

/-! ### Balls -/
theorem gball_arg {x y a b d r : Int} (h1 : mayL x y a b d = false) : gballV x y a b d r = ellT 0 0 0 0 0 1 := by
  unfold gballV
  rw [h1]
theorem gball_0 {x y a b d r : Int} (h1 : mayL x y a b d = true) (h0 : r = 0) : gballV x y a b d r = ellT x y a b d 0 := by
  unfold gballV
  rw [h1]
  simp only
  rw [if_pos h0]
theorem gball_rad {x y a b d r : Int} (h1 : mayL x y a b d = true) (h0 : ¬ r = 0) (h2 : mayR r = false) : gballV x y a b d r = ellT 0 0 0 0 0 1 := by
  unfold gballV
  rw [h1, h2]
  simp only
  rw [if_neg h0]
theorem gball_sum {x y a b d r : Int} (h1 : mayL x y a b d = true) (h0 : ¬ r = 0) (h2 : mayR r = true) : gballV x y a b d r = gsumV x y a b d 0 0 (r * r) 0 (r * r) := by
  unfold gballV
  rw [h1, h2]
  simp only
  rw [if_neg h0]
theorem ball_may0 {r : Int} (h : mayR r = true) : mayL 0 0 (r * r) 0 (r * r) = true := ball_may (by decide) h
theorem gball_ok {x y a b d r : Int} (h1 : mayL x y a b d = true) (h0 : ¬ r = 0) (h2 : mayR r = true) (h3 : mayG x y a b d 0 0 (r * r) 0 (r * r) = true) : gballV x y a b d r = sumT5 x y a b d 0 0 (r * r) 0 (r * r) := by
  rw [gball_sum h1 h0 h2, gsum_ok h1 (ball_may0 h2) h3]
theorem gball_over {x y a b d r : Int} (h1 : mayL x y a b d = true) (h0 : ¬ r = 0) (h2 : mayR r = true) (h3 : mayG x y a b d 0 0 (r * r) 0 (r * r) = false) : gballV x y a b d r = ellT 0 0 0 0 0 2 := by
  rw [gball_sum h1 h0 h2, gsum_over h1 (ball_may0 h2) h3]
theorem ball_in0 {r u v : Int} (h : mayR r = true) (hu : -4194304 ≤ u ∧ u ≤ 4194304) (hv : -4194304 ≤ v ∧ v ≤ 4194304) (hh : u * u + v * v ≤ r * r) : inE 0 0 (r * r) 0 (r * r) u v = true := by
  rw [ball_in (by decide) h (by omega), Int.sub_zero, Int.sub_zero]
  exact decide_eq_true hh

/-! ### awake -/
theorem awakeG_r : upI (100 + 100) = 15 := upI_of (m := 15) (by kernel_rfl)
theorem awakeG_s : gsumV 0 0 100 0 100 0 0 100 0 100 = ellT 0 0 402 0 402 0 := by
  unfold gsumV gsumR
  rw [awakeG_r]
  kernel_rfl
end Go.Proofs.YtljolfnpncjklaaGreat.W
/-! Package grow: age. -/
namespace Go.Proofs.YtljolfnpncjklaaGreat.W
open Go Go.Ev Go.Wide

theorem u64_mod (s : Int) {m : Int} (h0 : 0 < m) (h1 : m ≤ 9223372036854775807) : 0 ≤ IntKind.i64.wrap ((IntKind.u64.wrap s).tmod m) ∧ IntKind.i64.wrap ((IntKind.u64.wrap s).tmod m) < m := by
  have hw : 0 ≤ IntKind.u64.wrap s := by
    show 0 ≤ s % 18446744073709551616
    omega
  have h2 := Int.tmod_nonneg m hw
  have h3 := Int.tmod_lt_of_pos (IntKind.u64.wrap s) h0
  rw [i64_wrap (by omega) (by omega)]
  exact ⟨h2, h3⟩
def mayG3 (x y a b d s t : Int) : Bool := mayL x y a b d && (decide (0 ≤ s) && decide (0 ≤ t))
def gageV (x y a b d s t : Int) : Value := match mayG3 x y a b d s t with
  | true => if 0 < s ∧ (4194304 : Int).tdiv s < t then ellT 0 0 0 0 0 2 else gballV x y a b d (s * t)
  | false => ellT 0 0 0 0 0 1
theorem gage_prod {s t : Int} (hs : 0 < s) (ht : 0 ≤ t) (h : t ≤ (4194304 : Int).tdiv s) : 0 ≤ s * t ∧ s * t ≤ 4194304 := by
  have h1 := Int.mul_le_mul_of_nonneg_left h (show 0 ≤ s by omega)
  have h2 := Int.mul_tdiv_add_tmod 4194304 s
  have h3 := Int.tmod_nonneg s (show (0 : Int) ≤ 4194304 by omega)
  have h4 := Int.mul_nonneg (show 0 ≤ s by omega) ht
  omega
theorem tdiv_wrap {s : Int} (hs : 0 < s) : IntKind.i64.wrap ((4194304 : Int).tdiv s) = (4194304 : Int).tdiv s := by
  have h2 := Int.mul_tdiv_add_tmod 4194304 s
  have h3 := Int.tmod_nonneg s (show (0 : Int) ≤ 4194304 by omega)
  have h0 : 0 ≤ (4194304 : Int).tdiv s := Int.tdiv_nonneg (by omega) (by omega)
  have h4 := Int.mul_le_mul_of_nonneg_right (show 1 ≤ s by omega) h0
  exact i64_wrap (by omega) (by omega)
theorem gageV_form (x y a b d s t : Int) : ∃ p q A B D e, gageV x y a b d s t = ellT p q A B D e := by
  unfold gageV
  split
  · split
    · exact ⟨_, _, _, _, _, _, rfl⟩
    · exact gballV_form _ _ _ _ _ _
  · exact ⟨_, _, _, _, _, _, rfl⟩
end Go.Proofs.YtljolfnpncjklaaGreat.W
