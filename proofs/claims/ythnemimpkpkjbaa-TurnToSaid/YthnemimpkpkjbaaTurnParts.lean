/-
  TurnParts: products of sums are sums of products.
-/
import Derived.Test.YthnemimpkpkjbaaTurn
namespace Go.Proofs.Ythnemimpkpkjbaa.W
open Go Go.Ev Go.Wide Go.Flo

theorem mayStep_pc (x y : Int) : PC Try.prog 22 [pt x y] (.bool (mayP x y)) := by
  have hfl : [pt x y].all flat = true := by simp [flat_pt]
  unfold mayP within
  by_cases c1 : -4194304 ≤ x
  · rw [decide_eq_true c1]
    by_cases c2 : x ≤ 4194304
    · rw [decide_eq_true c2]
      by_cases c3 : -4194304 ≤ y
      · rw [decide_eq_true c3]
        exact PC.run mixed Try.func22 [.tst true, .tst true, .tst true] hfl (ts3 (tT (p := x ≥ -4194304) c1) (tT c2) (tT (p := y ≥ -4194304) c3)) qs0 rfl rfl (by kernel_rfl)
      · rw [decide_eq_false c3]
        exact PC.run mixed Try.func22 [.tst true, .tst true, .tst false] hfl (ts3 (tT (p := x ≥ -4194304) c1) (tT c2) (tF (p := y ≥ -4194304) c3)) qs0 rfl rfl (by kernel_rfl)
    · rw [decide_eq_false c2]
      exact PC.run mixed Try.func22 [.tst true, .tst false] hfl (ts2 (tT (p := x ≥ -4194304) c1) (tF c2)) qs0 rfl rfl (by kernel_rfl)
  · rw [decide_eq_false c1]
    exact PC.run mixed Try.func22 [.tst false] hfl (ts1 (tF (p := x ≥ -4194304) c1)) qs0 rfl rfl (by kernel_rfl)
theorem enters_mayStep : ∀ us w, (callFunc 22 us).run Try.prog w = .ok (.enter 22 us) w := enters Try.func22 rfl (by kernel_rfl)
theorem mayStep_qc (x y : Int) {r : Bool} (h : mayP x y = r) : QC Try.prog 22 [pt x y] (.bool r) := h ▸ QC.of_pc enters_mayStep (mayStep_pc x y)
theorem pt_eqT {a b c d : Int} (h1 : a = b) (h2 : c = d) : (decide (a = b) && (decide (c = d) && true)) = true := by subst h1 h2; simp
theorem pt_eqN {a b c d : Int} (h1 : a = b) (h2 : c = d) : (!(!(decide (a = b) && (decide (c = d) && true)))) = true := by subst h1 h2; simp
def m21 (x : Int) : Int := x.tmod 2097152
theorem m21_lt (x : Int) : -2097152 < m21 x ∧ m21 x < 2097152 := by
  unfold m21
  have h1 := Int.tmod_lt_of_pos x (show (0 : Int) < 2097152 by omega)
  have h2 := Int.lt_tmod_of_pos x (show (0 : Int) < 2097152 by omega)
  omega
theorem mul_may {x y u v : Int} (h1 : mayP x y = true) (h2 : mayP u v = true) {X Y : Int} (e1 : x * u - y * v = X) (e2 : x * v + y * u = Y) : QC Try.prog 13 [pt x y, pt u v] (pt X Y) :=
  tmul_qc x y u v (by rw [stx_t h1, sty_t h1, stx_t h2, sty_t h2]; exact e1) (by rw [stx_t h1, sty_t h1, stx_t h2, sty_t h2]; exact e2)
theorem quarter_may {x y : Int} (k : Int) (h1 : mayP x y = true) {X Y : Int} (e1 : turX k x y = X) (e2 : turY k x y = Y) : QC Try.prog 11 [pt x y, .int .i64 k] (pt X Y) :=
  quarter_qc x y k (by rw [stx_t h1, sty_t h1]; exact e1) (by rw [stx_t h1, sty_t h1]; exact e2)
theorem norm_may {x y : Int} (h1 : mayP x y = true) {r : Int} (e : x * x + y * y = r) : QC Try.prog 15 [pt x y] (.int .i64 r) :=
  norm_qc x y (by rw [stx_t h1, sty_t h1]; exact e)
theorem prod_bd {x y u v : Int} (h1 : mayP x y = true) (h2 : mayP u v = true) : (x * u - y * v).natAbs ≤ 35184372088832 ∧ (x * v + y * u).natAbs ≤ 35184372088832 := by
  have m1 := mayP_iff.1 h1
  have m2 := mayP_iff.1 h2
  have b1 := mulA_bd (a := x) (b := u) (m := 4194304) (n := 4194304) (by omega) (by omega) (Nat.le_refl _)
  have b2 := mulA_bd (a := y) (b := v) (m := 4194304) (n := 4194304) (by omega) (by omega) (Nat.le_refl _)
  have b3 := mulA_bd (a := x) (b := v) (m := 4194304) (n := 4194304) (by omega) (by omega) (Nat.le_refl _)
  have b4 := mulA_bd (a := y) (b := u) (m := 4194304) (n := 4194304) (by omega) (by omega) (Nat.le_refl _)
  omega
theorem prod_sum (x y u v s t : Int) : x * (u + s) - y * (v + t) = (x * u - y * v) + (x * s - y * t) ∧ x * (v + t) + y * (u + s) = (x * v + y * u) + (x * t + y * s) := by
  constructor <;> grind
theorem tur1 (x y : Int) : turX 1 x y = -y ∧ turY 1 x y = x := by
  unfold turX turY
  rw [show k4 1 = 1 from rfl, show piX 1 = 0 from rfl, show piY 1 = 1 from rfl]
  omega
theorem turnParts_pc (x y u v s t : Int) : PC Try.prog 8 [pt x y, pt u v, pt s t] (.bool true) := by
  have hfl : [pt x y, pt u v, pt s t].all flat = true := by simp [flat_pt]
  have hx := m21_lt x
  have hy := m21_lt y
  have hu := m21_lt u
  have hv := m21_lt v
  have hs := m21_lt s
  have ht := m21_lt t
  have p1 : mayP (m21 x) (m21 y) = true := mayP_iff.2 (by omega)
  have p2 : mayP (m21 u) (m21 v) = true := mayP_iff.2 (by omega)
  have p3 : mayP (m21 s) (m21 t) = true := mayP_iff.2 (by omega)
  have p4 : mayP (m21 u + m21 s) (m21 v + m21 t) = true := mayP_iff.2 (by omega)
  have p5 : mayP 1 0 = true := mayP_iff.2 (by omega)
  have p6 : mayP 0 1 = true := mayP_iff.2 (by omega)
  have c1 := prod_bd p1 p2
  have c2 := prod_bd p1 p3
  have w1 : IntKind.i64.wrap (m21 u + m21 s) = m21 u + m21 s := wrap_id (by omega)
  have w2 : IntKind.i64.wrap (m21 v + m21 t) = m21 v + m21 t := wrap_id (by omega)
  have w3 : IntKind.i64.wrap ((m21 x * m21 u - m21 y * m21 v) + (m21 x * m21 s - m21 y * m21 t)) = (m21 x * m21 u - m21 y * m21 v) + (m21 x * m21 s - m21 y * m21 t) := wrap_id (by omega)
  have w4 : IntKind.i64.wrap ((m21 x * m21 v + m21 y * m21 u) + (m21 x * m21 t + m21 y * m21 s)) = (m21 x * m21 v + m21 y * m21 u) + (m21 x * m21 t + m21 y * m21 s) := wrap_id (by omega)
  exact PC.run mixed Try.func8 [.at 33 (.int .i64 (m21 u + m21 s)), .at 4 (.int .i64 (m21 v + m21 t)), .res (pt (m21 x * (m21 u + m21 s) - m21 y * (m21 v + m21 t)) (m21 x * (m21 v + m21 t) + m21 y * (m21 u + m21 s))),
      .res (pt (m21 x * m21 u - m21 y * m21 v) (m21 x * m21 v + m21 y * m21 u)), .res (pt (m21 x * m21 s - m21 y * m21 t) (m21 x * m21 t + m21 y * m21 s)),
      .at 10 (.int .i64 ((m21 x * m21 u - m21 y * m21 v) + (m21 x * m21 s - m21 y * m21 t))), .at 4 (.int .i64 ((m21 x * m21 v + m21 y * m21 u) + (m21 x * m21 t + m21 y * m21 s))), .tst true,
      .res (pt (m21 x) (m21 y)), .tst true, .res (pt (-m21 y) (m21 x)), .res (pt (-m21 y) (m21 x)), .tst true, .res (.bool true), .res (.bool true)] hfl
    (tsC (tT w1) (tsC (tT w2) (tsC (tT w3) (tsC (tT w4) (tsC (pt_eqT (prod_sum (m21 x) (m21 y) (m21 u) (m21 v) (m21 s) (m21 t)).1 (prod_sum (m21 x) (m21 y) (m21 u) (m21 v) (m21 s) (m21 t)).2) (tsC (pt_eqT (a := m21 x) rfl (rfl : m21 y = m21 y)) (tsC (pt_eqT (a := -m21 y) rfl (rfl : m21 x = m21 x)) ts0)))))))
    (qs8 (mul_may p1 p4 rfl rfl) (mul_may p1 p2 rfl rfl) (mul_may p1 p3 rfl rfl) (mul_may p1 p5 (X := m21 x) (Y := m21 y) (by omega) (by omega)) (mul_may p1 p6 (X := -m21 y) (Y := m21 x) (by omega) (by omega)) (quarter_may 1 p1 (X := -m21 y) (Y := m21 x) (tur1 _ _).1 (tur1 _ _).2) (mayStep_qc _ _ p1) awakeT) rfl rfl (by kernel_rfl)
theorem enters_turnParts : ∀ us w, (callFunc 8 us).run Try.prog w = .ok (.enter 8 us) w := enters Try.func8 rfl (by kernel_rfl)
end Go.Proofs.Ythnemimpkpkjbaa.W
