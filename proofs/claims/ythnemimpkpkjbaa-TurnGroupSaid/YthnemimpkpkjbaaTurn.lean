/-
  Package turn: vectors as complex numbers, turned by right angles.
-/
import Derived.Test.YthnemimpkpkjbaaFloB
import Derived.Test.YthnemimpkpkjbaaEll
import Derived.Laws.Externs
namespace Go.Proofs.Ythnemimpkpkjbaa.W
open Go Go.Ev Go.Wide Go.Flo

theorem twithin_pc {x y m : Int} (h0 : 0 ≤ m) (h1 : m ≤ 9223372036854775807) : PC Try.prog 24 [pt x y, .int .i64 m] (.bool (within x y m)) := by
  have hfl : [pt x y, Value.int .i64 m].all flat = true := by simp [flat_pt]; rfl
  have e : IntKind.i64.wrap (0 - m) = -m := by rw [i64_wrap (by omega) (by omega)]; omega
  unfold within
  by_cases c1 : -m ≤ x
  · have d1 : IntKind.i64.wrap (0 - m) ≤ x := by rw [e]; exact c1
    rw [decide_eq_true c1]
    by_cases c2 : x ≤ m
    · rw [decide_eq_true c2]
      by_cases c3 : -m ≤ y
      · have d3 : IntKind.i64.wrap (0 - m) ≤ y := by rw [e]; exact c3
        rw [decide_eq_true c3]
        exact PC.run mixed Try.func24 [.tst true, .tst true, .tst true] hfl (ts3 (tT d1) (tT c2) (tT d3)) qs0 rfl rfl (by kernel_rfl)
      · have d3 : ¬ IntKind.i64.wrap (0 - m) ≤ y := by rw [e]; exact c3
        rw [decide_eq_false c3]
        exact PC.run mixed Try.func24 [.tst true, .tst true, .tst false] hfl (ts3 (tT d1) (tT c2) (tF d3)) qs0 rfl rfl (by kernel_rfl)
    · rw [decide_eq_false c2]
      exact PC.run mixed Try.func24 [.tst true, .tst false] hfl (ts2 (tT d1) (tF c2)) qs0 rfl rfl (by kernel_rfl)
  · have d1 : ¬ IntKind.i64.wrap (0 - m) ≤ x := by rw [e]; exact c1
    rw [decide_eq_false c1]
    exact PC.run mixed Try.func24 [.tst false] hfl (ts1 (tF d1)) qs0 rfl rfl (by kernel_rfl)
theorem enters_twithin : ∀ us w, (callFunc 24 us).run Try.prog w = .ok (.enter 24 us) w := enters Try.func24 rfl (by kernel_rfl)
theorem twithin_qc (x y m : Int) (h0 : 0 ≤ m) (h1 : m ≤ 9223372036854775807) (r : Bool) (h : within x y m = r) : QC Try.prog 24 [pt x y, .int .i64 m] (.bool r) := h ▸ QC.of_pc enters_twithin (twithin_pc h0 h1)
/-- A complex number. -/
def cx (p q : Nat) : Value := .complex .f64 p q
theorem flat_cx (p q : Nat) : flat (cx p q) = true := rfl
theorem complexOf_pc (x y : Int) : PC Try.prog 25 [pt x y] (cx (floatOfInt .f64 x) (floatOfInt .f64 y)) :=
  PC.run mixed Try.func25 [] (by simp [flat_pt]) ts0 qs0 rfl rfl (by kernel_rfl)
theorem enters_complexOf : ∀ us w, (callFunc 25 us).run Try.prog w = .ok (.enter 25 us) w := enters Try.func25 rfl (by kernel_rfl)
theorem complexOf_qc (x y : Int) : QC Try.prog 25 [pt x y] (cx (floatOfInt .f64 x) (floatOfInt .f64 y)) := QC.of_pc enters_complexOf (complexOf_pc x y)
/-- A step's coordinates; 0 of what is no step. -/
def stx (x y : Int) : Int := match mayP x y with | true => x | false => 0
def sty (x y : Int) : Int := match mayP x y with | true => y | false => 0
theorem stx_t {x y : Int} (h : mayP x y = true) : stx x y = x := by unfold stx; rw [h]
theorem sty_t {x y : Int} (h : mayP x y = true) : sty x y = y := by unfold sty; rw [h]
theorem stx_f {x y : Int} (h : mayP x y = false) : stx x y = 0 := by unfold stx; rw [h]
theorem sty_f {x y : Int} (h : mayP x y = false) : sty x y = 0 := by unfold sty; rw [h]
theorem mayP_iff {x y : Int} : mayP x y = true ↔ (-4194304 ≤ x ∧ x ≤ 4194304) ∧ (-4194304 ≤ y ∧ y ≤ 4194304) := within_iff
theorem st_bd (x y : Int) : (stx x y).natAbs ≤ 4194304 ∧ (sty x y).natAbs ≤ 4194304 := by
  cases h : mayP x y
  · rw [stx_f h, sty_f h]; omega
  · rw [stx_t h, sty_t h]
    have := mayP_iff.1 h
    omega
def ofC (x y : Int) : Value := cx (floatOfInt .f64 (stx x y)) (floatOfInt .f64 (sty x y))
theorem fo_zero : floatOfInt .f64 0 = 0 := by decide +kernel
theorem tOf_pc (x y : Int) : PC Try.prog 21 [pt x y] (ofC x y) := by
  have hfl : [pt x y].all flat = true := by simp [flat_pt]
  unfold ofC
  cases h : mayP x y
  · rw [stx_f h, sty_f h, fo_zero]
    exact PC.run mixed Try.func21 [.res (.bool false)] hfl ts0 (qs1 (twithin_qc x y 4194304 (by omega) (by omega) _ h)) rfl rfl (by kernel_rfl)
  · rw [stx_t h, sty_t h]
    exact PC.run mixed Try.func21 [.res (.bool true), .res (cx (floatOfInt .f64 x) (floatOfInt .f64 y))] hfl ts0 (qs2 (twithin_qc x y 4194304 (by omega) (by omega) _ h) (complexOf_qc x y)) rfl rfl (by kernel_rfl)
theorem enters_tOf : ∀ us w, (callFunc 21 us).run Try.prog w = .ok (.enter 21 us) w := enters Try.func21 rfl (by kernel_rfl)
theorem tOf_qc (x y : Int) : QC Try.prog 21 [pt x y] (ofC x y) := QC.of_pc enters_tOf (tOf_pc x y)
theorem sm {a : Option Int} {x : Int} (h : a = some x) : a.isSome = true := by rw [h]; rfl
theorem gd {a : Option Int} {x : Int} (h : a = some x) : Value.int .i64 (a.getD 0) = .int .i64 x := by rw [h]; rfl
/-- A complex number whose parts, cut towards 0, are X and Y. -/
theorem pointOf_pc {p q : Nat} {X Y : Int} (hp : floatToIntVal .f64 p .i64 = some X) (hq : floatToIntVal .f64 q .i64 = some Y) : PC Try.prog 26 [cx p q] (pt X Y) :=
  PC.run mixed Try.func26 [.is 3 (.int .i64 X), .is 2 (.int .i64 Y)] rfl (ts2 (sm hp) (sm hq)) (qs2 (gd hp) (gd hq)) rfl rfl (by kernel_rfl)
theorem enters_pointOf : ∀ us w, (callFunc 26 us).run Try.prog w = .ok (.enter 26 us) w := enters Try.func26 rfl (by kernel_rfl)
theorem pointOf_qc {p q : Nat} {X Y : Int} (hp : floatToIntVal .f64 p .i64 = some X) (hq : floatToIntVal .f64 q .i64 = some Y) : QC Try.prog 26 [cx p q] (pt X Y) := QC.of_pc enters_pointOf (pointOf_pc hp hq)
theorem pointOf_rep {p q : Nat} {X Y : Int} (hp : Rep p X) (hq : Rep q Y) (h1 : X.natAbs < 9007199254740992) (h2 : Y.natAbs < 9007199254740992) : QC Try.prog 26 [cx p q] (pt X Y) := pointOf_qc (rep_toInt hp h1) (rep_toInt hq h2)
/-- The powers of i. -/
def piX : Nat → Int
  | 0 => 1 | 1 => 0 | 2 => -1 | _ => 0
def piY : Nat → Int
  | 0 => 0 | 1 => 1 | 2 => 0 | _ => -1
def k4 (k : Int) : Nat := (k % 4).toNat
theorem k4_lt (k : Int) : k4 k < 4 := by unfold k4; omega
theorem tand3 (k : Int) : andK k 3 = (k4 k : Nat) := by
  have h := andK_eq k 3 2 (by decide) (by decide)
  have e : ((2 ^ 2 : Nat) : Int) = 4 := by decide
  rw [e] at h
  unfold k4
  rw [show ((3 : Nat) : Int) = 3 from rfl] at h
  rw [h]; omega
theorem power_pc (k : Int) : ∃ p q, Rep p (piX (k4 k)) ∧ Rep q (piY (k4 k)) ∧ PC Try.prog 23 [.int .i64 k] (cx p q) := by
  have ha := tand3 k
  have hl := k4_lt k
  obtain ⟨j, hj⟩ : ∃ j, j = k4 k := ⟨_, rfl⟩
  rw [← hj] at ha hl ⊢
  match j, hl with
  | 0, _ => exact ⟨4607182418800017408, 0, ⟨false, by decide +kernel, by decide⟩, ⟨false, by decide +kernel, by decide⟩, PC.run mixed Try.func23 [.at 3 (.int .i64 0)] rfl (ts1 (tT ha)) qs0 rfl rfl (by kernel_rfl)⟩
  | 1, _ => exact ⟨0, 4607182418800017408, ⟨false, by decide +kernel, by decide⟩, ⟨false, by decide +kernel, by decide⟩, PC.run mixed Try.func23 [.at 3 (.int .i64 1)] rfl (ts1 (tT ha)) qs0 rfl rfl (by kernel_rfl)⟩
  | 2, _ => exact ⟨13830554455654793216, 0, ⟨true, by decide +kernel, by decide⟩, ⟨false, by decide +kernel, by decide⟩, PC.run mixed Try.func23 [.at 3 (.int .i64 2)] rfl (ts1 (tT ha)) qs0 rfl rfl (by kernel_rfl)⟩
  | 3, _ => exact ⟨0, 13830554455654793216, ⟨false, by decide +kernel, by decide⟩, ⟨true, by decide +kernel, by decide⟩, PC.run mixed Try.func23 [.at 3 (.int .i64 3)] rfl (ts1 (tT ha)) qs0 rfl rfl (by kernel_rfl)⟩
theorem enters_power : ∀ us w, (callFunc 23 us).run Try.prog w = .ok (.enter 23 us) w := enters Try.func23 rfl (by kernel_rfl)
theorem smN {a : Option Nat} {x : Nat} (h : a = some x) : a.isSome = true := by rw [h]; rfl
theorem gdN {a : Option Nat} {x : Nat} (h : a = some x) : Value.float .f64 (a.getD 0) = .float .f64 x := by rw [h]; rfl
theorem smC {a : Option (Nat × Nat)} {p q : Nat} (h : a = some (p, q)) : a.isSome = true := by rw [h]; rfl
theorem gdC {a : Option (Nat × Nat)} {p q : Nat} (h : a = some (p, q)) : Value.complex .f64 (a.getD (0, 0)).1 (a.getD (0, 0)).2 = cx p q := by rw [h]; rfl
theorem pi_bd (j : Nat) : (piX j).natAbs ≤ 4194304 ∧ (piY j).natAbs ≤ 4194304 := by
  unfold piX piY
  split <;> decide
theorem mulA_bd {a b : Int} {m n k : Nat} (ha : a.natAbs ≤ m) (hb : b.natAbs ≤ n) (hk : m * n ≤ k) : (a * b).natAbs ≤ k := by
  rw [Int.natAbs_mul]
  exact Nat.le_trans (Nat.mul_le_mul ha hb) hk
/-- A vector turned by k right angles. -/
def turX (k x y : Int) : Int := x * piX (k4 k) - y * piY (k4 k)
def turY (k x y : Int) : Int := x * piY (k4 k) + y * piX (k4 k)
theorem quarter_pc (x y k : Int) : PC Try.prog 11 [pt x y, .int .i64 k] (pt (turX k (stx x y) (sty x y)) (turY k (stx x y) (sty x y))) := by
  have hfl : [pt x y, Value.int .i64 k].all flat = true := by simp [flat_pt]; rfl
  obtain ⟨c, d, hc, hd, hpw⟩ := power_pc k
  have hb := st_bd x y
  have hpi := pi_bd (k4 k)
  obtain ⟨p, q, e, hp, hq⟩ := rep_cmul (rep_int (stx x y)) (rep_int (sty x y)) hc hd (by omega) (by omega) hpi.1 hpi.2
  have b1 := mulA_bd hb.1 hpi.1 (Nat.le_refl _)
  have b2 := mulA_bd hb.2 hpi.2 (Nat.le_refl _)
  have b3 := mulA_bd hb.1 hpi.2 (Nat.le_refl _)
  have b4 := mulA_bd hb.2 hpi.1 (Nat.le_refl _)
  exact PC.run mixed Try.func11 [.res (ofC x y), .res (cx c d), .is 1 (cx p q), .res (pt (turX k (stx x y) (sty x y)) (turY k (stx x y) (sty x y)))] hfl (ts1 (smC e))
    (qs4 (tOf_qc x y) (QC.of_pc enters_power hpw) (gdC e) (pointOf_rep (X := turX k (stx x y) (sty x y)) (Y := turY k (stx x y) (sty x y)) hp hq (by unfold turX; omega) (by unfold turY; omega))) rfl rfl (by kernel_rfl)
theorem enters_quarter : ∀ us w, (callFunc 11 us).run Try.prog w = .ok (.enter 11 us) w := enters Try.func11 rfl (by kernel_rfl)
theorem quarter_qc (x y k : Int) {X Y : Int} (h1 : turX k (stx x y) (sty x y) = X) (h2 : turY k (stx x y) (sty x y) = Y) : QC Try.prog 11 [pt x y, .int .i64 k] (pt X Y) := by
  subst h1 h2
  exact QC.of_pc enters_quarter (quarter_pc x y k)
theorem tmul_pc (x y u v : Int) : PC Try.prog 13 [pt x y, pt u v] (pt (stx x y * stx u v - sty x y * sty u v) (stx x y * sty u v + sty x y * stx u v)) := by
  have hfl : [pt x y, pt u v].all flat = true := by simp [flat_pt]
  have hb := st_bd x y
  have hpi := st_bd u v
  obtain ⟨p, q, e, hp, hq⟩ := rep_cmul (rep_int (stx x y)) (rep_int (sty x y)) (rep_int (stx u v)) (rep_int (sty u v)) (by omega) (by omega) hpi.1 hpi.2
  have b1 := mulA_bd hb.1 hpi.1 (Nat.le_refl _)
  have b2 := mulA_bd hb.2 hpi.2 (Nat.le_refl _)
  have b3 := mulA_bd hb.1 hpi.2 (Nat.le_refl _)
  have b4 := mulA_bd hb.2 hpi.1 (Nat.le_refl _)
  exact PC.run mixed Try.func13 [.res (ofC x y), .res (ofC u v), .is 1 (cx p q), .res (pt (stx x y * stx u v - sty x y * sty u v) (stx x y * sty u v + sty x y * stx u v))] hfl (ts1 (smC e))
    (qs4 (tOf_qc x y) (tOf_qc u v) (gdC e) (pointOf_rep hp hq (by omega) (by omega))) rfl rfl (by kernel_rfl)
theorem enters_tmul : ∀ us w, (callFunc 13 us).run Try.prog w = .ok (.enter 13 us) w := enters Try.func13 rfl (by kernel_rfl)
theorem tmul_qc (x y u v : Int) {X Y : Int} (h1 : stx x y * stx u v - sty x y * sty u v = X) (h2 : stx x y * sty u v + sty x y * stx u v = Y) : QC Try.prog 13 [pt x y, pt u v] (pt X Y) := by
  subst h1 h2
  exact QC.of_pc enters_tmul (tmul_pc x y u v)
theorem tsquare_pc {p q : Nat} {X Y : Int} (hp : Rep p X) (hq : Rep q Y) (h1 : X.natAbs ≤ 8388608) (h2 : Y.natAbs ≤ 8388608) : ∃ w, Rep w (X * X + Y * Y) ∧ PC Try.prog 27 [cx p q] (.float .f64 w) := by
  have b1 := mulA_bd h1 h1 (Nat.le_refl _)
  have b2 := mulA_bd h2 h2 (Nat.le_refl _)
  obtain ⟨r1, e1, q1⟩ := rep_mul hp hp (by omega) (by omega) (by omega)
  obtain ⟨r2, e2, q2⟩ := rep_mul hq hq (by omega) (by omega) (by omega)
  obtain ⟨r, e3, q3⟩ := rep_add q1 q2 (by omega) (by omega) (by omega)
  have f1 : floatBits .mul .f64 p p = some r1 := e1
  have f2 : floatBits .mul .f64 q q = some r2 := e2
  have f3 : floatBits .add .f64 r1 r2 = some r := e3
  exact ⟨r, q3, PC.run mixed Try.func27 [.is 5 (.float .f64 r1), .is 4 (.float .f64 r2), .is 0 (.float .f64 r)] rfl (ts3 (smN f1) (smN f2) (smN f3)) (qs3 (gdN f1) (gdN f2) (gdN f3)) rfl rfl (by kernel_rfl)⟩
theorem enters_tsquare : ∀ us w, (callFunc 27 us).run Try.prog w = .ok (.enter 27 us) w := enters Try.func27 rfl (by kernel_rfl)
theorem norm_pc (x y : Int) : PC Try.prog 15 [pt x y] (.int .i64 (stx x y * stx x y + sty x y * sty x y)) := by
  have hb := st_bd x y
  obtain ⟨w, hw, hpc⟩ := tsquare_pc (rep_int (stx x y)) (rep_int (sty x y)) (by omega) (by omega)
  have b1 := mulA_bd hb.1 hb.1 (Nat.le_refl _)
  have b2 := mulA_bd hb.2 hb.2 (Nat.le_refl _)
  have e := rep_toInt hw (by omega)
  exact PC.run mixed Try.func15 [.res (ofC x y), .res (.float .f64 w), .is 1 (.int .i64 (stx x y * stx x y + sty x y * sty x y))] (by simp [flat_pt]) (ts1 (sm e)) (qs3 (tOf_qc x y) (QC.of_pc enters_tsquare hpc) (gd e)) rfl rfl (by kernel_rfl)
theorem enters_norm : ∀ us w, (callFunc 15 us).run Try.prog w = .ok (.enter 15 us) w := enters Try.func15 rfl (by kernel_rfl)
theorem norm_qc (x y : Int) {r : Int} (h : stx x y * stx x y + sty x y * sty x y = r) : QC Try.prog 15 [pt x y] (.int .i64 r) := h ▸ QC.of_pc enters_norm (norm_pc x y)
theorem sqrtE_qc {b r : Nat} (h : Ieee.double.sqrt b = some r) : QC Try.prog 32 [.float .f64 b] (.float .f64 r) := .inl fun w => by
  rw [run_callFunc_extern Try.func32 (by kernel_rfl) (by kernel_rfl) (by kernel_rfl) (e := Extern.MathSqrt.sqrt) (by kernel_rfl)]
  have h' : FloatKind.f64.format.sqrt b = some r := h
  have e : Extern.MathSqrt.sqrt #[.float .f64 b] = pure (.float .f64 r) := by
    unfold Extern.MathSqrt.sqrt
    conv => lhs; whnf
    rw [h']
  rw [e]
  rfl
theorem mSqrt_pc {b r : Nat} (h : Ieee.double.sqrt b = some r) : PC Try.prog 28 [.float .f64 b] (.float .f64 r) :=
  PC.run mixed Try.func28 [.res (.float .f64 r)] rfl ts0 (qs1 (sqrtE_qc h)) rfl rfl (by kernel_rfl)
theorem enters_mSqrt : ∀ us w, (callFunc 28 us).run Try.prog w = .ok (.enter 28 us) w := enters Try.func28 rfl (by kernel_rfl)
theorem rep_nat {w n : Nat} (h : Rep w (n : Int)) (h0 : n ≠ 0) : w = wd false n := by
  obtain ⟨s, e1, e2⟩ := h
  rw [Int.natAbs_natCast] at e1 e2
  cases s
  · exact e1
  · unfold sI at e2
    rw [if_pos rfl] at e2
    omega
/-- The distance of two points. -/
def distI (x y u v : Int) : Int := match mayP x y && mayP u v with | true => ((isq ((x - u) * (x - u) + (y - v) * (y - v)).toNat : Nat) : Int) | false => 0
theorem sqrt_rep {w : Nat} {z : Int} (h : Rep w z) (h0 : 0 ≤ z) (h1 : z < 281474976710656) : ∃ r, Ieee.double.sqrt w = some r ∧ floatToIntVal .f64 r .i64 = some ((isq z.toNat : Nat) : Int) := by
  obtain ⟨n, rfl⟩ : ∃ n : Nat, z = n := ⟨z.toNat, by omega⟩
  rw [Int.toNat_natCast]
  have hs := isq_spec n
  by_cases hn : n = 0
  · subst hn
    obtain ⟨s, e1, e2⟩ := h
    have ei : isq 0 = 0 := by decide
    rw [ei]
    cases s
    · have : w = wd false 0 := e1
      rw [this]
      exact ⟨wd false 0, fsqrt_zero, rep_toInt (x := 0) ⟨false, rfl, rfl⟩ (by decide)⟩
    · have : w = wd true 0 := e1
      rw [this]
      exact ⟨wd true 0, by kernel_rfl, rep_toInt (x := 0) ⟨true, rfl, rfl⟩ (by decide)⟩
  · rw [rep_nat h hn]
    exact sqrt_floor (by omega) hs.1 hs.2
theorem mul_self_nonneg' (a : Int) : 0 ≤ a * a := by
  rcases Int.le_total 0 a with h | h
  · exact Int.mul_nonneg h h
  · exact Int.mul_nonneg_of_nonpos_of_nonpos h h
theorem dist_pc (x y u v : Int) : PC Try.prog 17 [pt x y, pt u v] (.int .i64 (distI x y u v)) := by
  have hfl : [pt x y, pt u v].all flat = true := by simp [flat_pt]
  unfold distI
  cases h1 : mayP x y
  · exact PC.run mixed Try.func17 [.res (.bool false)] hfl ts0 (qs1 (twithin_qc x y 4194304 (by omega) (by omega) _ h1)) rfl rfl (by kernel_rfl)
  · cases h2 : mayP u v
    · exact PC.run mixed Try.func17 [.res (.bool true), .res (.bool false)] hfl ts0 (qs2 (twithin_qc x y 4194304 (by omega) (by omega) _ h1) (twithin_qc u v 4194304 (by omega) (by omega) _ h2)) rfl rfl (by kernel_rfl)
    · have m1 := mayP_iff.1 h1
      have m2 := mayP_iff.1 h2
      obtain ⟨p, q, e, hp, hq⟩ := rep_csub (rep_int x) (rep_int y) (rep_int u) (rep_int v) (by omega) (by omega) (by omega) (by omega)
      have k1 : (x - u).natAbs ≤ 8388608 := by omega
      have k2 : (y - v).natAbs ≤ 8388608 := by omega
      obtain ⟨w, hw, hpc⟩ := tsquare_pc hp hq k1 k2
      have b1 := mulA_bd k1 k1 (Nat.le_refl _)
      have b2 := mulA_bd k2 k2 (Nat.le_refl _)
      have n1 := mul_self_nonneg' (x - u)
      have n2 := mul_self_nonneg' (y - v)
      obtain ⟨r, e2, e3⟩ := sqrt_rep hw (by omega) (by omega)
      exact PC.run mixed Try.func17 [.res (.bool true), .res (.bool true), .res (cx (floatOfInt .f64 x) (floatOfInt .f64 y)), .res (cx (floatOfInt .f64 u) (floatOfInt .f64 v)), .is 1 (cx p q), .res (.float .f64 w), .res (.float .f64 r), .is 1 (.int .i64 ((isq ((x - u) * (x - u) + (y - v) * (y - v)).toNat : Nat) : Int))] hfl (ts2 (smC e) (sm e3))
        (qs8 (twithin_qc x y 4194304 (by omega) (by omega) _ h1) (twithin_qc u v 4194304 (by omega) (by omega) _ h2) (complexOf_qc x y) (complexOf_qc u v) (gdC e) (QC.of_pc enters_tsquare hpc) (QC.of_pc enters_mSqrt (mSqrt_pc e2)) (gd e3)) rfl rfl (by kernel_rfl)
theorem enters_dist : ∀ us w, (callFunc 17 us).run Try.prog w = .ok (.enter 17 us) w := enters Try.func17 rfl (by kernel_rfl)
theorem dist_qc (x y u v : Int) {r : Int} (h : distI x y u v = r) : QC Try.prog 17 [pt x y, pt u v] (.int .i64 r) := h ▸ QC.of_pc enters_dist (dist_pc x y u v)
theorem awakeT_pc : PC Try.prog 19 [] (.bool true) :=
  PC.run mixed Try.func19 [.res (pt (-2) 1), .res (.int .i64 25)] rfl ts0 (qs2 (quarter_qc 1 2 1 (X := -2) (Y := 1) (by decide +kernel) (by decide +kernel)) (norm_qc 3 4 (r := 25) (by decide +kernel))) rfl rfl (by kernel_rfl)
theorem enters_awakeT : ∀ us w, (callFunc 19 us).run Try.prog w = .ok (.enter 19 us) w := enters Try.func19 rfl (by kernel_rfl)
theorem awakeT : QC Try.prog 19 [] (.bool true) := QC.of_pc enters_awakeT awakeT_pc
end Go.Proofs.Ythnemimpkpkjbaa.W
