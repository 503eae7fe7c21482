/-
  StripHolds: a distance that is true takes nothing away that is.
-/
import Derived.Test.YtaibhjphgdjcmaaGreatStripL
import Derived.Test.YtaibhjphgdjcmaaGreatStripA
import Derived.Test.YtaibhjphgdjcmaaGreatTokR
namespace Go.Proofs.YtaibhjphgdjcmaaGreat.W
open Go Go.Ev Go.Wide

theorem enters_stripHolds : ∀ us w, (callFunc 4 us).run Tryz.prog w = .ok (.enter 4 us) w := enters Tryz.func4 rfl (by kernel_rfl)
theorem enters_rRoot : ∀ us w, (callFunc 16 us).run Tryz.prog w = .ok (.enter 16 us) w := enters Tryz.func16 rfl (by kernel_rfl)
theorem rRoot_run {n s : Int} (h : MC Tryz.prog 43 [.int .i64 n] [] (.int .i64 s) []) : MC Tryz.prog 16 [.int .i64 n] [] (.int .i64 s) [] :=
  AC.runA mixed Tryz.func16 [.ab (.int .i64 s)] ts0 (qs1 h) rfl enters_rRoot (by kernel_rfl)
theorem rRoot_t {n : Int} (hn : I64 n) : MC Tryz.prog 16 [.int .i64 n] [] (.int .i64 (sqI n)) [] := rRoot_run (Go.Proofs.YtaibhjphgdjcmaaGreat.R.rIsqrt_t hn)
/-- A number below a thousand, of any int64. -/
def m1000 (s : Int) : Int := IntKind.i64.wrap ((IntKind.u64.wrap s).tmod 1000)
theorem sqI_spec {n : Int} (h : 0 ≤ n) : 0 ≤ sqI n ∧ sqI n * sqI n ≤ n ∧ n < (sqI n + 1) * (sqI n + 1) := by
  obtain ⟨k, rfl⟩ : ∃ k : Nat, n = k := ⟨n.toNat, by omega⟩
  unfold sqI
  rw [Int.toNat_natCast]
  obtain ⟨h1, h2⟩ := isq_spec k
  have e1 : ((isq k * isq k : Nat) : Int) = (isq k : Int) * (isq k : Int) := Int.natCast_mul _ _
  have e2 : (((isq k + 1) * (isq k + 1) : Nat) : Int) = ((isq k : Int) + 1) * ((isq k : Int) + 1) := by rw [Int.natCast_mul]; rfl
  omega
theorem Qc {p q : Prop} (h : p) (t : q) : p ∧ q := ⟨h, t⟩
section
variable {e n u : El} {p q s t bel abv dx dy xx yy d D lo hi : Int}
  (q1 : QC Tryz.prog 15 [e.val, pt p q] (.bool true)) (q2 : QC Tryz.prog 15 [n.val, pt s t] (.bool true)) (ex : IntKind.i64.wrap (p - s) = dx) (ey : IntKind.i64.wrap (q - t) = dy)
  (c1 : ¬ dx < -1073741824) (c2 : ¬ dx > 1073741824) (c3 : ¬ dy < -1073741824) (c4 : ¬ dy > 1073741824) (xe : IntKind.i64.wrap (dx * dx) = xx) (ye : IntKind.i64.wrap (dy * dy) = yy) (de : IntKind.i64.wrap (xx + yy) = d)
  (q3 : MC Tryz.prog 16 [.int .i64 d] [] (.int .i64 D) []) (le : (if IntKind.i64.wrap (D - m1000 bel) > 0 then IntKind.i64.wrap (D - m1000 bel) else 0) = lo) (he' : IntKind.i64.wrap (IntKind.i64.wrap (D + 1) + m1000 abv) = hi)
include q1 q2 ex ey c1 c2 c3 c4 xe ye de q3 le he'
theorem holds8_far (c5 : hi > 4194304) : PC Tryz.prog 4 [e.val, n.val, pt p q, pt s t, .int .i64 bel, .int .i64 abv] (.bool true) :=
  PC.run mixed Tryz.func4 [.res (.bool true), .res (.bool true), .is 7 (.int .i64 dx), .is 4 (.int .i64 dy), .tst false, .tst false, .tst false, .tst false, .is 2 (.int .i64 xx), .is 2 (.int .i64 yy), .is 0 (.int .i64 d), .ab (.int .i64 D), .is 8 (.int .i64 lo), .is 6 (.int .i64 hi), .tst true, .res (.bool true)]
    rfl (ts5 (tF c1) (tF c2) (tF c3) (tF c4) (tT c5)) (Qc q1 <| Qc q2 <| Qc (congrArg (Value.int .i64) ex) <| Qc (congrArg (Value.int .i64) ey) <| Qc (congrArg (Value.int .i64) xe) <| Qc (congrArg (Value.int .i64) ye) <| Qc (congrArg (Value.int .i64) de) <| Qc q3 <| Qc (congrArg (Value.int .i64) le) <| Qc (congrArg (Value.int .i64) he') <| Qc awake8 qs0) rfl rfl (by kernel_rfl)
theorem holds8_none_over (c5 : ¬ hi > 4194304) (q4 : QC Tryz.prog 8 [e.val, n.val, .int .i64 lo, .int .i64 hi] (srT .zero 7)) (q5 : QC Tryz.prog 10 [e.val, n.val, .int .i64 lo, .int .i64 hi] (Mk.mk u 0).val) (q6 : QC Tryz.prog 12 [n.val, .int .i64 hi] (Mk.mk .zero 2).val) (q7 : QC Tryz.prog 15 [u.val, pt p q] (.bool true)) : PC Tryz.prog 4 [e.val, n.val, pt p q, pt s t, .int .i64 bel, .int .i64 abv] (.bool true) :=
  PC.run mixed Tryz.func4 [.res (.bool true), .res (.bool true), .is 7 (.int .i64 dx), .is 4 (.int .i64 dy), .tst false, .tst false, .tst false, .tst false, .is 2 (.int .i64 xx), .is 2 (.int .i64 yy), .is 0 (.int .i64 d), .ab (.int .i64 D), .is 8 (.int .i64 lo), .is 6 (.int .i64 hi), .tst false, .res (srT .zero 7), .res (Mk.mk u 0).val, .res (Mk.mk .zero 2).val, .res (.bool true), .res (.bool true)]
    rfl (ts5 (tF c1) (tF c2) (tF c3) (tF c4) (tF c5)) (Qc q1 <| Qc q2 <| Qc (congrArg (Value.int .i64) ex) <| Qc (congrArg (Value.int .i64) ey) <| Qc (congrArg (Value.int .i64) xe) <| Qc (congrArg (Value.int .i64) ye) <| Qc (congrArg (Value.int .i64) de) <| Qc q3 <| Qc (congrArg (Value.int .i64) le) <| Qc (congrArg (Value.int .i64) he') <| Qc q4 <| Qc q5 <| Qc q6 <| Qc q7 <| Qc awake8 qs0) rfl rfl (by kernel_rfl)
theorem holds8_none_ok (c5 : ¬ hi > 4194304) (q4 : QC Tryz.prog 8 [e.val, n.val, .int .i64 lo, .int .i64 hi] (srT .zero 7)) (q5 : QC Tryz.prog 10 [e.val, n.val, .int .i64 lo, .int .i64 hi] (Mk.mk u 0).val) {a : El} (q6 : QC Tryz.prog 12 [n.val, .int .i64 hi] (Mk.mk a 0).val) (q7 : QC Tryz.prog 15 [u.val, pt p q] (.bool true)) (q8 : QC Tryz.prog 15 [a.val, pt p q] (.bool true)) : PC Tryz.prog 4 [e.val, n.val, pt p q, pt s t, .int .i64 bel, .int .i64 abv] (.bool true) :=
  PC.run mixed Tryz.func4 [.res (.bool true), .res (.bool true), .is 7 (.int .i64 dx), .is 4 (.int .i64 dy), .tst false, .tst false, .tst false, .tst false, .is 2 (.int .i64 xx), .is 2 (.int .i64 yy), .is 0 (.int .i64 d), .ab (.int .i64 D), .is 8 (.int .i64 lo), .is 6 (.int .i64 hi), .tst false, .res (srT .zero 7), .res (Mk.mk u 0).val, .res (Mk.mk a 0).val, .res (.bool true), .res (.bool true), .res (.bool true)]
    rfl (ts5 (tF c1) (tF c2) (tF c3) (tF c4) (tF c5)) (Qc q1 <| Qc q2 <| Qc (congrArg (Value.int .i64) ex) <| Qc (congrArg (Value.int .i64) ey) <| Qc (congrArg (Value.int .i64) xe) <| Qc (congrArg (Value.int .i64) ye) <| Qc (congrArg (Value.int .i64) de) <| Qc q3 <| Qc (congrArg (Value.int .i64) le) <| Qc (congrArg (Value.int .i64) he') <| Qc q4 <| Qc q5 <| Qc q6 <| Qc q7 <| Qc q8 <| Qc awake8 qs0) rfl rfl (by kernel_rfl)
theorem holds8_ok_over (c5 : ¬ hi > 4194304) {S : Sp} {at_ : Int} (q4 : QC Tryz.prog 8 [e.val, n.val, .int .i64 lo, .int .i64 hi] (srT S 0)) (ea : atW S.ox S.oy S.hx S.hy p q = at_) (a1 : ¬ at_ < S.lo) (a2 : ¬ at_ > S.hi) (q5 : QC Tryz.prog 10 [e.val, n.val, .int .i64 lo, .int .i64 hi] (Mk.mk u 0).val) (q6 : QC Tryz.prog 12 [n.val, .int .i64 hi] (Mk.mk .zero 2).val) (q7 : QC Tryz.prog 15 [u.val, pt p q] (.bool true)) : PC Tryz.prog 4 [e.val, n.val, pt p q, pt s t, .int .i64 bel, .int .i64 abv] (.bool true) :=
  PC.run mixed Tryz.func4 [.res (.bool true), .res (.bool true), .is 7 (.int .i64 dx), .is 4 (.int .i64 dy), .tst false, .tst false, .tst false, .tst false, .is 2 (.int .i64 xx), .is 2 (.int .i64 yy), .is 0 (.int .i64 d), .ab (.int .i64 D), .is 8 (.int .i64 lo), .is 6 (.int .i64 hi), .tst false, .res (srT S 0), .is 29 (.int .i64 at_), .tst false, .tst false, .res (Mk.mk u 0).val, .res (Mk.mk .zero 2).val, .res (.bool true), .res (.bool true)]
    rfl (Go.Ev.tsC (tF c1) <| Go.Ev.tsC (tF c2) <| Go.Ev.tsC (tF c3) <| Go.Ev.tsC (tF c4) <| Go.Ev.tsC (tF c5) <| Go.Ev.tsC (tF a1) <| Go.Ev.tsC (tF a2) ts0) (Qc q1 <| Qc q2 <| Qc (congrArg (Value.int .i64) ex) <| Qc (congrArg (Value.int .i64) ey) <| Qc (congrArg (Value.int .i64) xe) <| Qc (congrArg (Value.int .i64) ye) <| Qc (congrArg (Value.int .i64) de) <| Qc q3 <| Qc (congrArg (Value.int .i64) le) <| Qc (congrArg (Value.int .i64) he') <| Qc q4 <| Qc (congrArg (Value.int .i64) ea) <| Qc q5 <| Qc q6 <| Qc q7 <| Qc awake8 qs0) rfl rfl (by kernel_rfl)
theorem holds8_ok_ok (c5 : ¬ hi > 4194304) {S : Sp} {at_ : Int} (q4 : QC Tryz.prog 8 [e.val, n.val, .int .i64 lo, .int .i64 hi] (srT S 0)) (ea : atW S.ox S.oy S.hx S.hy p q = at_) (a1 : ¬ at_ < S.lo) (a2 : ¬ at_ > S.hi) (q5 : QC Tryz.prog 10 [e.val, n.val, .int .i64 lo, .int .i64 hi] (Mk.mk u 0).val) {a : El} (q6 : QC Tryz.prog 12 [n.val, .int .i64 hi] (Mk.mk a 0).val) (q7 : QC Tryz.prog 15 [u.val, pt p q] (.bool true)) (q8 : QC Tryz.prog 15 [a.val, pt p q] (.bool true)) : PC Tryz.prog 4 [e.val, n.val, pt p q, pt s t, .int .i64 bel, .int .i64 abv] (.bool true) :=
  PC.run mixed Tryz.func4 [.res (.bool true), .res (.bool true), .is 7 (.int .i64 dx), .is 4 (.int .i64 dy), .tst false, .tst false, .tst false, .tst false, .is 2 (.int .i64 xx), .is 2 (.int .i64 yy), .is 0 (.int .i64 d), .ab (.int .i64 D), .is 8 (.int .i64 lo), .is 6 (.int .i64 hi), .tst false, .res (srT S 0), .is 29 (.int .i64 at_), .tst false, .tst false, .res (Mk.mk u 0).val, .res (Mk.mk a 0).val, .res (.bool true), .res (.bool true), .res (.bool true)]
    rfl (Go.Ev.tsC (tF c1) <| Go.Ev.tsC (tF c2) <| Go.Ev.tsC (tF c3) <| Go.Ev.tsC (tF c4) <| Go.Ev.tsC (tF c5) <| Go.Ev.tsC (tF a1) <| Go.Ev.tsC (tF a2) ts0) (Qc q1 <| Qc q2 <| Qc (congrArg (Value.int .i64) ex) <| Qc (congrArg (Value.int .i64) ey) <| Qc (congrArg (Value.int .i64) xe) <| Qc (congrArg (Value.int .i64) ye) <| Qc (congrArg (Value.int .i64) de) <| Qc q3 <| Qc (congrArg (Value.int .i64) le) <| Qc (congrArg (Value.int .i64) he') <| Qc q4 <| Qc (congrArg (Value.int .i64) ea) <| Qc q5 <| Qc q6 <| Qc q7 <| Qc q8 <| Qc awake8 qs0) rfl rfl (by kernel_rfl)
end
theorem stripHolds_pc {e n : El} (he : e.Ok) (hn : n.Ok) (p q s t bel abv : Int) : PC Tryz.prog 4 [e.val, n.val, pt p q, pt s t, .int .i64 bel, .int .i64 abv] (.bool true) := by
  have hfl : [e.val, n.val, pt p q, pt s t, .int .i64 bel, .int .i64 abv].all flat = true := rfl
  cases h1 : e.has p q with
  | false => exact PC.run mixed Tryz.func4 [.res (.bool false), .res (.bool true)] hfl ts0 (qs2 (has_qc he p q _ h1) awake8) rfl rfl (by kernel_rfl)
  | true =>
    cases h2 : n.has s t with
    | false => exact PC.run mixed Tryz.func4 [.res (.bool true), .res (.bool false), .res (.bool true)] hfl ts0 (qs3 (has_qc he p q _ h1) (has_qc hn s t _ h2) awake8) rfl rfl (by kernel_rfl)
    | true =>
      obtain ⟨m1, _, _, b1, b2⟩ := inE_near h1
      obtain ⟨m2, _, _, b3, b4⟩ := inE_near h2
      have g1 := mayL_iff.1 m1
      have g2 := mayL_iff.1 m2
      have bx : -33554432 ≤ p - s ∧ p - s ≤ 33554432 := by omega
      have by' : -33554432 ≤ q - t ∧ q - t ≤ 33554432 := by omega
      have sx := sq_le bx
      have sy := sq_le by'
      have nx := sq_nn (p - s)
      have ny := sq_nn (q - t)
      have sp := sqI_spec (n := (p - s) * (p - s) + (q - t) * (q - t)) (by omega)
      have sb : sqI ((p - s) * (p - s) + (q - t) * (q - t)) ≤ 67108864 := (sq_abs (x := sqI ((p - s) * (p - s) + (q - t) * (q - t))) (n := 67108864) (by omega) (by omega)).2
      have q3 := rRoot_t (n := (p - s) * (p - s) + (q - t) * (q - t)) ⟨by omega, by omega⟩
      have mb : 0 ≤ m1000 bel ∧ m1000 bel < 1000 := u64_mod bel (by omega) (by omega)
      have ma : 0 ≤ m1000 abv ∧ m1000 abv < 1000 := u64_mod abv (by omega) (by omega)
      have hd2 : d2 p q s t = (p - s) * (p - s) + (q - t) * (q - t) := rfl
      have f1 := has_qc he p q _ h1
      have f2 := has_qc hn s t _ h2
      have ex : IntKind.i64.wrap (p - s) = p - s := wrapS (by omega)
      have ey : IntKind.i64.wrap (q - t) = q - t := wrapS (by omega)
      have xe : IntKind.i64.wrap ((p - s) * (p - s)) = (p - s) * (p - s) := wrapS (by omega)
      have ye : IntKind.i64.wrap ((q - t) * (q - t)) = (q - t) * (q - t) := wrapS (by omega)
      have de : IntKind.i64.wrap ((p - s) * (p - s) + (q - t) * (q - t)) = (p - s) * (p - s) + (q - t) * (q - t) := wrapS (by omega)
      obtain ⟨D, hD⟩ : ∃ D, sqI ((p - s) * (p - s) + (q - t) * (q - t)) = D := ⟨_, rfl⟩
      rw [hD] at q3 sp sb
      have e1 : IntKind.i64.wrap (D - m1000 bel) = D - m1000 bel := wrapS (by omega)
      have e2 : IntKind.i64.wrap (IntKind.i64.wrap (D + 1) + m1000 abv) = D + 1 + m1000 abv := by rw [wrapS (z := D + 1) (by omega)]; exact wrapS (by omega)
      have le : (if IntKind.i64.wrap (D - m1000 bel) > 0 then IntKind.i64.wrap (D - m1000 bel) else 0) = max (D - m1000 bel) 0 := by rw [e1]; split <;> omega
      by_cases c5 : D + 1 + m1000 abv > 4194304
      · exact holds8_far f1 f2 ex ey (by omega) (by omega) (by omega) (by omega) xe ye de q3 le e2 c5
      · have hl : max (D - m1000 bel) 0 * max (D - m1000 bel) 0 ≤ D * D := sq_le (n := D) (by omega)
        have hh : (D + 1) * (D + 1) ≤ (D + 1 + m1000 abv) * (D + 1 + m1000 abv) := Int.mul_le_mul (by omega) (by omega) (by omega) (by omega)
        have hF : Far e n (max (D - m1000 bel) 0) (D + 1 + m1000 abv) p q s t := ⟨h1, h2, by rw [hd2]; omega, by rw [hd2]; omega⟩
        have hm : measB e n (max (D - m1000 bel) 0) (D + 1 + m1000 abv) = true := measB_iff.2 ⟨m1, m2, by omega, by omega, by omega⟩
        obtain ⟨u, u1, u2, u3, u4⟩ : ∃ u : El, updV e n (max (D - m1000 bel) 0) (D + 1 + m1000 abv) = ⟨u, 0⟩ ∧ u.may = true ∧ u.tr ≤ e.tr ∧ u.has p q = true := by
          rcases upd_cases hm with ⟨_, g2⟩ | ⟨g, g1, g2, g3, g4⟩
          · exact absurd hF (g2 _ _ _ _)
          · exact ⟨g, g1, g2, g3, g4 _ _ _ _ hF⟩
        have q5 := upd_qc he hn _ _ _ u1
        have q7 := has_qc (may_ok u2) p q _ u4
        have hR := ring_qc he hn (max (D - m1000 bel) 0) (D + 1 + m1000 abv) _ rfl
        unfold ringV at hR
        rw [hm] at hR
        have hat := far_at hF (by omega)
        have c1 : ¬ p - s < -1073741824 := by omega
        have c2 : ¬ p - s > 1073741824 := by omega
        have c3 : ¬ q - t < -1073741824 := by omega
        have c4 : ¬ q - t > 1073741824 := by omega
        rcases acqV_cases n (D + 1 + m1000 abv) with ha | ha | ⟨_, _, _, k4, ha, hb⟩
        · exfalso
          unfold acqV at ha
          rw [show n.may = true from m2, decide_eq_true (show 0 ≤ D + 1 + m1000 abv by omega), decide_eq_true (show D + 1 + m1000 abv ≤ 4194304 by omega)] at ha
          simp only [Bool.and_self] at ha
          split at ha <;> exact absurd (congrArg Mk.n ha) (show ¬ _ by simp)
        · have q6 := acq_qc hn _ _ ha
          cases ho : isO (rgX e n) (rgY e n) with
          | true =>
            rw [ho] at hR
            exact holds8_none_over f1 f2 ex ey c1 c2 c3 c4 xe ye de q3 le e2 c5 hR q5 q6 q7
          | false =>
            have h3 : ¬ rgU e n (D + 1 + m1000 abv) < rgL e n (max (D - m1000 bel) 0) := by omega
            rw [ho, decide_eq_false h3] at hR
            have hS := rgS_may hm ho h3
            have hw := within_iff.1 (inE_near h1).2.1
            have ea := atW_eq hS hw.1 hw.2
            exact holds8_ok_over f1 f2 ex ey c1 c2 c3 c4 xe ye de q3 le e2 c5 hR ea (by show ¬ atI n.x n.y (rgX e n) (rgY e n) p q < rgL e n (max (D - m1000 bel) 0); omega) (by show ¬ atI n.x n.y (rgX e n) (rgY e n) p q > (if rgU e n (D + 1 + m1000 abv) = rgL e n (max (D - m1000 bel) 0) then rgU e n (D + 1 + m1000 abv) + 1 else rgU e n (D + 1 + m1000 abv)); split <;> omega) q5 q6 q7
        · have q6 := acq_qc hn _ _ ha
          have q8 := has_qc (may_ok hb) p q _ (far_ball hF (by omega) k4)
          cases ho : isO (rgX e n) (rgY e n) with
          | true =>
            rw [ho] at hR
            exact holds8_none_ok f1 f2 ex ey c1 c2 c3 c4 xe ye de q3 le e2 c5 hR q5 q6 q7 q8
          | false =>
            have h3 : ¬ rgU e n (D + 1 + m1000 abv) < rgL e n (max (D - m1000 bel) 0) := by omega
            rw [ho, decide_eq_false h3] at hR
            have hS := rgS_may hm ho h3
            have hw := within_iff.1 (inE_near h1).2.1
            have ea := atW_eq hS hw.1 hw.2
            exact holds8_ok_ok f1 f2 ex ey c1 c2 c3 c4 xe ye de q3 le e2 c5 hR ea (by show ¬ atI n.x n.y (rgX e n) (rgY e n) p q < rgL e n (max (D - m1000 bel) 0); omega) (by show ¬ atI n.x n.y (rgX e n) (rgY e n) p q > (if rgU e n (D + 1 + m1000 abv) = rgL e n (max (D - m1000 bel) 0) then rgU e n (D + 1 + m1000 abv) + 1 else rgU e n (D + 1 + m1000 abv)); split <;> omega) q5 q6 q7 q8
end Go.Proofs.YtaibhjphgdjcmaaGreat.W
