/-
  TurnGroup: four quarters are none, two turns are one, a turn keeps lengths, and turns products.
-/
import Derived.Test.YthnemimpkpkjbaaTurnParts
namespace Go.Proofs.Ythnemimpkpkjbaa.W
open Go Go.Ev Go.Wide Go.Flo

theorem pi_vals : piX 0 = 1 ∧ piX 1 = 0 ∧ piX 2 = -1 ∧ piX 3 = 0 ∧ piY 0 = 0 ∧ piY 1 = 1 ∧ piY 2 = 0 ∧ piY 3 = -1 := ⟨rfl, rfl, rfl, rfl, rfl, rfl, rfl, rfl⟩
theorem k4_add (j k : Int) : k4 (j + k) = (k4 j + k4 k) % 4 := by unfold k4; omega
theorem pi_add : ∀ a : Fin 4, ∀ b : Fin 4, piX ((a.1 + b.1) % 4) = piX a.1 * piX b.1 - piY a.1 * piY b.1 ∧ piY ((a.1 + b.1) % 4) = piX a.1 * piY b.1 + piY a.1 * piX b.1 := by decide
theorem pi_one : ∀ a : Fin 4, piX a.1 * piX a.1 + piY a.1 * piY a.1 = 1 := by decide
theorem tur_add (j k x y : Int) : turX k (turX j x y) (turY j x y) = turX (j + k) x y ∧ turY k (turX j x y) (turY j x y) = turY (j + k) x y := by
  have h := pi_add ⟨k4 j, k4_lt j⟩ ⟨k4 k, k4_lt k⟩
  simp only at h
  unfold turX turY
  rw [k4_add, h.1, h.2]
  constructor <;> grind
theorem tur_norm (k x y : Int) : turX k x y * turX k x y + turY k x y * turY k x y = x * x + y * y := by
  have h := pi_one ⟨k4 k, k4_lt k⟩
  simp only at h
  have e : turX k x y * turX k x y + turY k x y * turY k x y = (x * x + y * y) * (piX (k4 k) * piX (k4 k) + piY (k4 k) * piY (k4 k)) := by
    unfold turX turY
    grind
  rw [e, h, Int.mul_one]
theorem tur_cases (k x y : Int) : (turX k x y = x ∧ turY k x y = y) ∨ (turX k x y = -y ∧ turY k x y = x) ∨ (turX k x y = -x ∧ turY k x y = -y) ∨ (turX k x y = y ∧ turY k x y = -x) := by
  have hl := k4_lt k
  unfold turX turY
  generalize k4 k = j at *
  obtain ⟨p0, p1, p2, p3, p4, p5, p6, p7⟩ := pi_vals
  match j, hl with
  | 0, _ => exact .inl (by rw [p0, p4]; omega)
  | 1, _ => exact .inr (.inl (by rw [p1, p5]; omega))
  | 2, _ => exact .inr (.inr (.inl (by rw [p2, p6]; omega)))
  | 3, _ => exact .inr (.inr (.inr (by rw [p3, p7]; omega)))
theorem tur_may (k : Int) {x y : Int} (h : mayP x y = true) : mayP (turX k x y) (turY k x y) = true := by
  have m := mayP_iff.1 h
  apply mayP_iff.2
  rcases tur_cases k x y with ⟨h1, h2⟩ | ⟨h1, h2⟩ | ⟨h1, h2⟩ | ⟨h1, h2⟩ <;> rw [h1, h2] <;> omega
theorem tur0 (x y : Int) : turX 0 x y = x ∧ turY 0 x y = y := by
  unfold turX turY
  obtain ⟨p0, p1, p2, p3, p4, p5, p6, p7⟩ := pi_vals
  rw [show k4 0 = 0 from rfl, p0, p4]
  omega
theorem tur4 (x y : Int) : turX 4 x y = x ∧ turY 4 x y = y := by
  unfold turX turY
  obtain ⟨p0, p1, p2, p3, p4, p5, p6, p7⟩ := pi_vals
  rw [show k4 4 = 0 from rfl, p0, p4]
  omega
theorem tur2 (x y : Int) : turX 2 x y = -x ∧ turY 2 x y = -y := by
  unfold turX turY
  obtain ⟨p0, p1, p2, p3, p4, p5, p6, p7⟩ := pi_vals
  rw [show k4 2 = 2 from rfl, p2, p6]
  omega
theorem may_st (x y : Int) : mayP (stx x y) (sty x y) = true := by
  have := st_bd x y
  exact mayP_iff.2 (by omega)
theorem dist0 {x y : Int} (h : mayP x y = true) : distI x y 0 0 = ((isq (x * x + y * y).toNat : Nat) : Int) := by
  unfold distI
  rw [h, show mayP 0 0 = true from mayP_iff.2 (by omega), Int.sub_zero, Int.sub_zero]
  rfl
def mt1000 (x : Int) : Int := x.tmod 1000
theorem mt1000_lt (x : Int) : -1000 < mt1000 x ∧ mt1000 x < 1000 := by
  unfold mt1000
  have h1 := Int.tmod_lt_of_pos x (show (0 : Int) < 1000 by omega)
  have h2 := Int.lt_tmod_of_pos x (show (0 : Int) < 1000 by omega)
  omega
theorem norm_mul (x y u v : Int) : (x * u - y * v) * (x * u - y * v) + (x * v + y * u) * (x * v + y * u) = (x * x + y * y) * (u * u + v * v) := by grind
theorem prod_comm (x y u v : Int) : u * x - v * y = x * u - y * v ∧ u * y + v * x = x * v + y * u := by
  constructor <;> grind
theorem prod_tur (k x y u v : Int) : turX k (x * u - y * v) (x * v + y * u) = turX k x y * u - turY k x y * v ∧ turY k (x * u - y * v) (x * v + y * u) = turX k x y * v + turY k x y * u := by
  unfold turX turY
  constructor <;> grind
theorem turnGroup_pc (x y u v j k : Int) : PC Try.prog 5 [pt x y, pt u v, .int .i64 j, .int .i64 k] (.bool true) := by
  have hfl : [pt x y, pt u v, Value.int .i64 j, Value.int .i64 k].all flat = true := by simp [flat_pt]; exact ⟨rfl, rfl⟩
  have q0 : QC Try.prog 11 [pt x y, .int .i64 0] (pt (stx x y) (sty x y)) := quarter_qc x y 0 (tur0 _ _).1 (tur0 _ _).2
  have q4 : QC Try.prog 11 [pt (stx x y) (sty x y), .int .i64 4] (pt (stx x y) (sty x y)) := quarter_may 4 (may_st x y) (tur4 _ _).1 (tur4 _ _).2
  cases h1 : mayP x y
  · exact PC.run mixed Try.func5 [.res (.bool false), .res (pt (stx x y) (sty x y)), .res (pt (stx x y) (sty x y)), .res (pt (stx x y) (sty x y)), .tst true, .res (.bool true)] hfl
      (ts1 (pt_eqT (a := stx x y) rfl (rfl : sty x y = sty x y))) (qs5 (mayStep_qc _ _ h1) q0 q0 q4 awakeT) rfl rfl (by kernel_rfl)
  · cases h2 : mayP u v
    · exact PC.run mixed Try.func5 [.res (.bool true), .res (.bool false), .res (pt (stx x y) (sty x y)), .res (pt (stx x y) (sty x y)), .res (pt (stx x y) (sty x y)), .tst true, .res (.bool true)] hfl
        (ts1 (pt_eqT (a := stx x y) rfl (rfl : sty x y = sty x y))) (qs6 (mayStep_qc _ _ h1) (mayStep_qc _ _ h2) q0 q0 q4 awakeT) rfl rfl (by kernel_rfl)
    · have hj := mt1000_lt j
      have hk := mt1000_lt k
      have w1 : IntKind.i64.wrap (mt1000 j + mt1000 k) = mt1000 j + mt1000 k := wrap_id (by omega)
      have m1 := mayP_iff.1 h1
      have n1 : -x = IntKind.i64.wrap (0 - x) := by rw [wrap_id (by omega)]; omega
      have n2 : -y = IntKind.i64.wrap (0 - y) := by rw [wrap_id (by omega)]; omega
      have ta := tur_add (mt1000 j) (mt1000 k) x y
      have ma := tur_may (mt1000 j + mt1000 k) h1
      have na := tur_norm (mt1000 j + mt1000 k) x y
      obtain ⟨X, hX⟩ : ∃ X, X = turX (mt1000 j + mt1000 k) x y := ⟨_, rfl⟩
      obtain ⟨Y, hY⟩ : ∃ Y, Y = turY (mt1000 j + mt1000 k) x y := ⟨_, rfl⟩
      rw [← hX, ← hY] at ta ma na
      have a1 : QC Try.prog 11 [pt x y, .int .i64 (mt1000 j)] (pt (turX (mt1000 j) x y) (turY (mt1000 j) x y)) := quarter_may _ h1 rfl rfl
      have a2 : QC Try.prog 11 [pt (turX (mt1000 j) x y) (turY (mt1000 j) x y), .int .i64 (mt1000 k)] (pt X Y) := quarter_may _ (tur_may _ h1) ta.1 ta.2
      have a3 : QC Try.prog 11 [pt x y, .int .i64 (mt1000 j + mt1000 k)] (pt X Y) := quarter_may _ h1 hX.symm hY.symm
      have a4 : QC Try.prog 11 [pt x y, .int .i64 4] (pt x y) := quarter_may 4 h1 (tur4 _ _).1 (tur4 _ _).2
      have a5 : QC Try.prog 11 [pt x y, .int .i64 2] (pt (-x) (-y)) := quarter_may 2 h1 (tur2 _ _).1 (tur2 _ _).2
      have a6 : QC Try.prog 15 [pt X Y] (.int .i64 (x * x + y * y)) := norm_may ma na
      have a7 : QC Try.prog 15 [pt x y] (.int .i64 (x * x + y * y)) := norm_may h1 rfl
      have a8 : QC Try.prog 17 [pt X Y, pt 0 0] (.int .i64 ((isq (x * x + y * y).toNat : Nat) : Int)) := dist_qc _ _ _ _ (by rw [dist0 ma, na])
      have a9 : QC Try.prog 17 [pt x y, pt 0 0] (.int .i64 ((isq (x * x + y * y).toNat : Nat) : Int)) := dist_qc _ _ _ _ (dist0 h1)
      have b1 : QC Try.prog 13 [pt x y, pt u v] (pt (x * u - y * v) (x * v + y * u)) := mul_may h1 h2 rfl rfl
      have b2 : QC Try.prog 13 [pt u v, pt x y] (pt (x * u - y * v) (x * v + y * u)) := mul_may h2 h1 (prod_comm x y u v).1 (prod_comm x y u v).2
      have s1 : (!(!decide (x * x + y * y = x * x + y * y))) = true := by simp
      have s2 : (!(!decide (((isq (x * x + y * y).toNat : Nat) : Int) = ((isq (x * x + y * y).toNat : Nat) : Int)))) = true := by simp
      have hpr := norm_mul x y u v
      have hpt : turX (mt1000 k) (x * u - y * v) (x * v + y * u) = turX (mt1000 k) x y * u - turY (mt1000 k) x y * v ∧ turY (mt1000 k) (x * u - y * v) (x * v + y * u) = turX (mt1000 k) x y * v + turY (mt1000 k) x y * u := prod_tur _ _ _ _ _
      obtain ⟨M, hM⟩ : ∃ M, M = x * u - y * v := ⟨_, rfl⟩
      obtain ⟨N, hN⟩ : ∃ N, N = x * v + y * u := ⟨_, rfl⟩
      rw [← hM, ← hN] at b1 b2 hpr hpt
      cases h3 : mayP M N
      · exact PC.run mixed Try.func5 [.res (.bool true), .res (.bool true), .res (pt (turX (mt1000 j) x y) (turY (mt1000 j) x y)), .res (pt X Y), .at 7 (.int .i64 (mt1000 j + mt1000 k)), .res (pt X Y), .tst false, .res (pt x y), .tst false, .res (pt (-x) (-y)), .tst false,
            .res (.int .i64 (x * x + y * y)), .res (.int .i64 (x * x + y * y)), .tst false, .res (.int .i64 ((isq (x * x + y * y).toNat : Nat) : Int)), .res (.int .i64 ((isq (x * x + y * y).toNat : Nat) : Int)), .tst false,
            .res (pt M N), .res (pt M N), .tst false, .res (.bool false), .res (.bool false), .res (.bool true)] hfl
          (tsC (tT w1) (tsC (pt_eqN (a := X) rfl (rfl : Y = Y)) (tsC (pt_eqN (a := x) rfl (rfl : y = y)) (tsC (pt_eqN n1 n2) (tsC s1 (tsC s2 (tsC (pt_eqN (a := M) rfl (rfl : N = N)) ts0)))))))
          (qs16 (mayStep_qc _ _ h1) (mayStep_qc _ _ h2) a1 a2 a3 a4 a5 a6 a7 a8 a9 b1 b2 (mayStep_qc _ _ h3) (mayStep_qc _ _ h3) awakeT) rfl rfl (by kernel_rfl)
      · have m3 := mayP_iff.1 h3
        have k1 := mulA_bd (a := M) (b := M) (m := 4194304) (n := 4194304) (by omega) (by omega) (Nat.le_refl _)
        have k2 := mulA_bd (a := N) (b := N) (m := 4194304) (n := 4194304) (by omega) (by omega) (Nat.le_refl _)
        have b3 : QC Try.prog 15 [pt M N] (.int .i64 (M * M + N * N)) := norm_may h3 rfl
        have b4 : QC Try.prog 15 [pt u v] (.int .i64 (u * u + v * v)) := norm_may h2 rfl
        have w2 : IntKind.i64.wrap ((x * x + y * y) * (u * u + v * v)) = M * M + N * N := by rw [← hpr]; exact wrap_id (by omega)
        have s3 : (!(!decide (M * M + N * N = M * M + N * N))) = true := by simp
        have c1 : QC Try.prog 11 [pt M N, .int .i64 (mt1000 k)] (pt (turX (mt1000 k) M N) (turY (mt1000 k) M N)) := quarter_may _ h3 rfl rfl
        have c2 : QC Try.prog 11 [pt x y, .int .i64 (mt1000 k)] (pt (turX (mt1000 k) x y) (turY (mt1000 k) x y)) := quarter_may _ h1 rfl rfl
        have c3 : QC Try.prog 13 [pt (turX (mt1000 k) x y) (turY (mt1000 k) x y), pt u v] (pt (turX (mt1000 k) M N) (turY (mt1000 k) M N)) := mul_may (tur_may _ h1) h2 hpt.1.symm hpt.2.symm
        exact PC.run mixed Try.func5 [.res (.bool true), .res (.bool true), .res (pt (turX (mt1000 j) x y) (turY (mt1000 j) x y)), .res (pt X Y), .at 7 (.int .i64 (mt1000 j + mt1000 k)), .res (pt X Y), .tst false, .res (pt x y), .tst false, .res (pt (-x) (-y)), .tst false,
            .res (.int .i64 (x * x + y * y)), .res (.int .i64 (x * x + y * y)), .tst false, .res (.int .i64 ((isq (x * x + y * y).toNat : Nat) : Int)), .res (.int .i64 ((isq (x * x + y * y).toNat : Nat) : Int)), .tst false,
            .res (pt M N), .res (pt M N), .tst false, .res (.bool true), .res (.int .i64 (M * M + N * N)), .res (.int .i64 (x * x + y * y)), .res (.int .i64 (u * u + v * v)), .at 1 (.int .i64 (M * M + N * N)), .tst false,
            .res (.bool true), .res (pt (turX (mt1000 k) M N) (turY (mt1000 k) M N)), .res (pt (turX (mt1000 k) x y) (turY (mt1000 k) x y)), .res (pt (turX (mt1000 k) M N) (turY (mt1000 k) M N)), .tst true, .res (.bool true)] hfl
          (tsC (tT w1) (tsC (pt_eqN (a := X) rfl (rfl : Y = Y)) (tsC (pt_eqN (a := x) rfl (rfl : y = y)) (tsC (pt_eqN n1 n2) (tsC s1 (tsC s2 (tsC (pt_eqN (a := M) rfl (rfl : N = N)) (tsC (tT w2) (tsC s3 (tsC (pt_eqT (a := turX (mt1000 k) M N) rfl (rfl : turY (mt1000 k) M N = turY (mt1000 k) M N)) ts0))))))))))
          (qs22 (mayStep_qc _ _ h1) (mayStep_qc _ _ h2) a1 a2 a3 a4 a5 a6 a7 a8 a9 b1 b2 (mayStep_qc _ _ h3) b3 a7 b4 (mayStep_qc _ _ h3) c1 c2 c3 awakeT) rfl rfl (by kernel_rfl)
theorem enters_turnGroup : ∀ us w, (callFunc 5 us).run Try.prog w = .ok (.enter 5 us) w := enters Try.func5 rfl (by kernel_rfl)
end Go.Proofs.Ythnemimpkpkjbaa.W
