/-
  RootNear: the nearest integer.
-/
import Derived.Test.YtfmphajbbeghkaaRootM
namespace Go.Proofs.Ytfmphajbbeghkaa.W
open Go Go.Ev Go.Wide

def rN (b : Int) : Int := IntKind.i64.wrap (andK b 2305843009213693951 + 1)
theorem rN_eq (b : Int) : IntKind.i64.wrap (andK b 2305843009213693951 + 1) = rN b := rfl
theorem rN_range (b : Int) : 1 ≤ rN b ∧ rN b ≤ 2305843009213693952 := by
  have h : andK b 2305843009213693951 = b % ((2 ^ 61 : Nat) : Int) := andK_eq b 2305843009213693951 61 (by decide) (by omega)
  have e : ((2 ^ 61 : Nat) : Int) = 2305843009213693952 := by decide
  unfold rN
  rw [h, e, i64_wrap (by omega) (by omega)]
  omega
def tA (a : Int) : Int := a.tmod 4611686018427387904
theorem tA_eq (a : Int) : a.tmod 4611686018427387904 = tA a := rfl
theorem tA_range (a : Int) : -4611686018427387904 < tA a ∧ tA a < 4611686018427387904 := by
  unfold tA
  have h1 := Int.tmod_lt_of_pos a (show (0 : Int) < 4611686018427387904 by omega)
  have h2 := Int.lt_tmod_of_pos a (show (0 : Int) < 4611686018427387904 by omega)
  omega
theorem quot_small {z c : Int} (hc : 0 < c) (h : -4611686018427387904 < z ∧ z < 4611686018427387904) : (-9223372036854775808 ≤ z.fdiv c ∧ z.fdiv c ≤ 9223372036854775807) ∧ (-9223372036854775808 ≤ cdiv z c ∧ cdiv z c ≤ 9223372036854775807) := by
  have h1 := (fdiv_signs z c (by omega)).2
  have h2 := (fdiv_signs (-z) c (by omega)).2
  unfold cdiv
  omega
/-- The nearest integer. -/
def nearI (a b : Int) : Int := (2 * a + b).fdiv (2 * b)
theorem near_facts {a b : Int} (hb : 0 < b) : (nearI a b = a.fdiv b ∨ nearI a b = cdiv a b) ∧ -b < 2 * (nearI a b * b - a) ∧ 2 * (nearI a b * b - a) ≤ b := by
  unfold nearI
  obtain ⟨p1, p2⟩ := fdiv_bounds (z := a) hb
  obtain ⟨q1, q2⟩ := cdiv_bounds (z := a) hb
  obtain ⟨n1, n2⟩ := fdiv_bounds (z := 2 * a + b) (c := 2 * b) (by omega)
  obtain ⟨l1, l2, _⟩ := fdiv_cdiv (z := a) hb
  generalize a.fdiv b = p at *
  generalize cdiv a b = q at *
  generalize (2 * a + b).fdiv (2 * b) = n at *
  rw [Int.mul_assoc] at n1 n2
  have e1 : b * (n + 1) = b * n + b := by rw [Int.mul_add, Int.mul_one]
  have e2 : b * (q + 1) = b * q + b := by rw [Int.mul_add, Int.mul_one]
  have m1 : p < n + 1 := mul_lt_cancel hb (by omega)
  have m2 : n < q + 1 := mul_lt_cancel hb (by omega)
  rw [Int.mul_comm n b]
  omega
theorem floor_qc {a b r : Int} (ha : WF (some a)) (hb : WF (some b)) (h0 : 0 < b) (hr : a.fdiv b = r) (h1 : -9223372036854775808 ≤ a.fdiv b ∧ a.fdiv b ≤ 9223372036854775807) : QC Try.prog 20 [wz a, wz b] (errI r 0) := by
  subst hr
  have hq := qdown_pc ha hb
  rw [mdV_fits (by omega) (fits64_iff.2 h1)] at hq
  exact QC.of_pc enters_floor (floor_run (QC.of_pc enters_check (check_pc hb h0)) (QC.of_pc enters_qdown hq))
theorem ceil_qc {a b : Int} (ha : WF (some a)) (hb : WF (some b)) (h0 : 0 < b) (h1 : -9223372036854775808 ≤ cdiv a b ∧ cdiv a b ≤ 9223372036854775807) : QC Try.prog 21 [wz a, wz b] (errI (cdiv a b) 0) := by
  have hq := qup_pc ha hb
  rw [muV_fits (by omega) (fits64_iff.2 h1)] at hq
  exact QC.of_pc enters_ceil (ceil_run (QC.of_pc enters_check (check_pc hb h0)) (QC.of_pc enters_qup hq))
theorem near_qc {a b : Int} (ha : I64r a) (hb : I64r b) (h0 : 0 < b) (h1 : -9223372036854775808 ≤ nearI a b ∧ nearI a b ≤ 9223372036854775807) : QC Try.prog 22 [wz a, wz b] (errI (nearI a b) 0) := by
  have sa := Sm.i64 ha.1 ha.2
  have sb := Sm.i64 hb.1 hb.2
  have s2a : Sm 65 (2 * a) := by have := sa.add sa; rwa [show a + a = 2 * a by omega] at this
  have s2b : Sm 65 (2 * b) := by have := sb.add sb; rwa [show b + b = 2 * b by omega] at this
  have sy := s2a.add (sb.mono (k := 65) (by omega))
  have hq := qdown_pc (sy.wf (by omega)) (s2b.wf (by omega))
  rw [mdV_fits (by omega) (fits64_iff.2 h1)] at hq
  exact QC.of_pc enters_near (near_run (QC.of_pc enters_check (check_pc (sb.wf (by omega)) h0)) (QC.of_pc enters_shift (shl_wz sa)) (QC.of_pc enters_add (add_wz s2a (sb.mono (k := 65) (by omega)))) (QC.of_pc enters_shift (shl_wz sb)) (QC.of_pc enters_qdown hq))
theorem signI_neg {q : Int} : signI (some q) < 0 ↔ q < 0 := by
  simp only [signI]
  split
  · omega
  · split <;> omega
theorem ord_le {x y : Int} (h : x ≤ y) : ordI x y ≤ 0 := by
  unfold ordI
  split
  · omega
  · rw [if_neg (by omega)]
    omega
theorem rootNear_pc {a b : Int} : PC Try.prog 5 [.int .i64 (a), .int .i64 (b)] (.bool true) := by
  have hfl : [.int .i64 (a), .int .i64 (b)].all flat = true := by simp [show flat (Value.int .i64 a) = true from rfl, show flat (Value.int .i64 b) = true from rfl]
  have ra := tA_range a
  have rb := rN_range b
  have ha : I64r (tA a) := ⟨by omega, by omega⟩
  have hb : I64r (rN b) := ⟨by omega, by omega⟩
  have sa := Sm.i64 ha.1 ha.2
  have sb := Sm.i64 hb.1 hb.2
  obtain ⟨hp, hq⟩ := quot_small (z := tA a) (c := rN b) (by omega) ra
  obtain ⟨f1, f2, f3⟩ := near_facts (a := tA a) (b := rN b) (by omega)
  have hn : -9223372036854775808 ≤ nearI (tA a) (rN b) ∧ nearI (tA a) (rN b) ≤ 9223372036854775807 := by
    rcases f1 with h | h <;> rw [h] <;> omega
  have sn := Sm.i64 hn.1 hn.2
  have snb := sn.mul sb
  have sd := snb.sub (sa.mono (k := 128) (by omega))
  have op : QC Try.prog 17 [wz (nearI (tA a) (rN b) * rN b - tA a + (nearI (tA a) (rN b) * rN b - tA a)), wz (rN b)] (ordV (ordI (nearI (tA a) (rN b) * rN b - tA a + (nearI (tA a) (rN b) * rN b - tA a)) (rN b))) := QC.of_pc enters_cmp (cmp_pc ((sd.add sd).wf (by omega)) (sb.wf (by omega)))
  have on : QC Try.prog 17 [wz (-(nearI (tA a) (rN b) * rN b - tA a) + -(nearI (tA a) (rN b) * rN b - tA a)), wz (rN b)] (ordV (ordI (-(nearI (tA a) (rN b) * rN b - tA a) + -(nearI (tA a) (rN b) * rN b - tA a)) (rN b))) := QC.of_pc enters_cmp (cmp_pc ((sd.neg.add sd.neg).wf (by omega)) (sb.wf (by omega)))
  by_cases hs : nearI (tA a) (rN b) = (tA a).fdiv (rN b)
  ·
    by_cases hd : nearI (tA a) (rN b) * rN b - tA a < 0
    ·
      exact PC.run mixed Try.func5 [.at 3 (.int .i64 (rN b)), .at 2 (.int .i64 (tA a)), .res (wz (tA a)), .res (wz (rN b)), .res (errI ((tA a).fdiv (rN b)) 0), .res (errI (cdiv (tA a) (rN b)) 0), .res (errI (nearI (tA a) (rN b)) 0), .auto, .auto, .auto, .tst false, .res (wz (nearI (tA a) (rN b))), .res (wz (nearI (tA a) (rN b) * rN b)), .res (wz (nearI (tA a) (rN b) * rN b - tA a)), .res (.int .i64 (signI (some (nearI (tA a) (rN b) * rN b - tA a)))), .tst true, .res (wz (-(nearI (tA a) (rN b) * rN b - tA a))), .res (wz ((-(nearI (tA a) (rN b) * rN b - tA a)) + (-(nearI (tA a) (rN b) * rN b - tA a)))), .res (ordV (ordI ((-(nearI (tA a) (rN b) * rN b - tA a)) + (-(nearI (tA a) (rN b) * rN b - tA a))) (rN b))), .auto, .tst true, .res (.bool true)] hfl (ts5 (tT (rN_eq b)) (tT (tA_eq a)) (tN hs) (tT (signI_neg.2 hd)) (tT (ord_le (x := (-(nearI (tA a) (rN b) * rN b - tA a)) + (-(nearI (tA a) (rN b) * rN b - tA a))) (y := rN b) (by omega)))) (qs13 (QC.of_pc enters_of (of_wz ha.1 ha.2)) (QC.of_pc enters_of (of_wz hb.1 hb.2)) (floor_qc (sa.wf (by omega)) (sb.wf (by omega)) (by omega) rfl hp) (ceil_qc (sa.wf (by omega)) (sb.wf (by omega)) (by omega) hq) (near_qc ha hb (by omega) hn) (QC.of_pc enters_of (of_wz hn.1 hn.2)) (QC.of_pc enters_mul (mul_wz sn sb)) (QC.of_pc enters_sub (sub_wz snb (sa.mono (k := 128) (by omega)))) (QC.of_pc enters_sign (sign_wz sd)) (neg_qc (sd.wf (by omega))) (QC.of_pc enters_add (add_wz sd.neg sd.neg)) (on) (awakeR)) (rfl) (rfl) (by kernel_rfl)
    ·
      exact PC.run mixed Try.func5 [.at 3 (.int .i64 (rN b)), .at 2 (.int .i64 (tA a)), .res (wz (tA a)), .res (wz (rN b)), .res (errI ((tA a).fdiv (rN b)) 0), .res (errI (cdiv (tA a) (rN b)) 0), .res (errI (nearI (tA a) (rN b)) 0), .auto, .auto, .auto, .tst false, .res (wz (nearI (tA a) (rN b))), .res (wz (nearI (tA a) (rN b) * rN b)), .res (wz (nearI (tA a) (rN b) * rN b - tA a)), .res (.int .i64 (signI (some (nearI (tA a) (rN b) * rN b - tA a)))), .tst false, .res (wz ((nearI (tA a) (rN b) * rN b - tA a) + (nearI (tA a) (rN b) * rN b - tA a))), .res (ordV (ordI ((nearI (tA a) (rN b) * rN b - tA a) + (nearI (tA a) (rN b) * rN b - tA a)) (rN b))), .auto, .tst true, .res (.bool true)] hfl (ts5 (tT (rN_eq b)) (tT (tA_eq a)) (tN hs) (tF (fun h => hd (signI_neg.1 h))) (tT (ord_le (x := (nearI (tA a) (rN b) * rN b - tA a) + (nearI (tA a) (rN b) * rN b - tA a)) (y := rN b) (by omega)))) (qs12 (QC.of_pc enters_of (of_wz ha.1 ha.2)) (QC.of_pc enters_of (of_wz hb.1 hb.2)) (floor_qc (sa.wf (by omega)) (sb.wf (by omega)) (by omega) rfl hp) (ceil_qc (sa.wf (by omega)) (sb.wf (by omega)) (by omega) hq) (near_qc ha hb (by omega) hn) (QC.of_pc enters_of (of_wz hn.1 hn.2)) (QC.of_pc enters_mul (mul_wz sn sb)) (QC.of_pc enters_sub (sub_wz snb (sa.mono (k := 128) (by omega)))) (QC.of_pc enters_sign (sign_wz sd)) (QC.of_pc enters_add (add_wz sd sd)) (op) (awakeR)) (rfl) (rfl) (by kernel_rfl)
  ·
    have ht : nearI (tA a) (rN b) = cdiv (tA a) (rN b) := f1.resolve_left hs
    by_cases hd : nearI (tA a) (rN b) * rN b - tA a < 0
    ·
      exact PC.run mixed Try.func5 [.at 3 (.int .i64 (rN b)), .at 2 (.int .i64 (tA a)), .res (wz (tA a)), .res (wz (rN b)), .res (errI ((tA a).fdiv (rN b)) 0), .res (errI (cdiv (tA a) (rN b)) 0), .res (errI (nearI (tA a) (rN b)) 0), .auto, .auto, .auto, .tst true, .tst false, .res (wz (nearI (tA a) (rN b))), .res (wz (nearI (tA a) (rN b) * rN b)), .res (wz (nearI (tA a) (rN b) * rN b - tA a)), .res (.int .i64 (signI (some (nearI (tA a) (rN b) * rN b - tA a)))), .tst true, .res (wz (-(nearI (tA a) (rN b) * rN b - tA a))), .res (wz ((-(nearI (tA a) (rN b) * rN b - tA a)) + (-(nearI (tA a) (rN b) * rN b - tA a)))), .res (ordV (ordI ((-(nearI (tA a) (rN b) * rN b - tA a)) + (-(nearI (tA a) (rN b) * rN b - tA a))) (rN b))), .auto, .tst true, .res (.bool true)] hfl (ts6 (tT (rN_eq b)) (tT (tA_eq a)) (tF hs) (tN ht) (tT (signI_neg.2 hd)) (tT (ord_le (x := (-(nearI (tA a) (rN b) * rN b - tA a)) + (-(nearI (tA a) (rN b) * rN b - tA a))) (y := rN b) (by omega)))) (qs13 (QC.of_pc enters_of (of_wz ha.1 ha.2)) (QC.of_pc enters_of (of_wz hb.1 hb.2)) (floor_qc (sa.wf (by omega)) (sb.wf (by omega)) (by omega) rfl hp) (ceil_qc (sa.wf (by omega)) (sb.wf (by omega)) (by omega) hq) (near_qc ha hb (by omega) hn) (QC.of_pc enters_of (of_wz hn.1 hn.2)) (QC.of_pc enters_mul (mul_wz sn sb)) (QC.of_pc enters_sub (sub_wz snb (sa.mono (k := 128) (by omega)))) (QC.of_pc enters_sign (sign_wz sd)) (neg_qc (sd.wf (by omega))) (QC.of_pc enters_add (add_wz sd.neg sd.neg)) (on) (awakeR)) (rfl) (rfl) (by kernel_rfl)
    ·
      exact PC.run mixed Try.func5 [.at 3 (.int .i64 (rN b)), .at 2 (.int .i64 (tA a)), .res (wz (tA a)), .res (wz (rN b)), .res (errI ((tA a).fdiv (rN b)) 0), .res (errI (cdiv (tA a) (rN b)) 0), .res (errI (nearI (tA a) (rN b)) 0), .auto, .auto, .auto, .tst true, .tst false, .res (wz (nearI (tA a) (rN b))), .res (wz (nearI (tA a) (rN b) * rN b)), .res (wz (nearI (tA a) (rN b) * rN b - tA a)), .res (.int .i64 (signI (some (nearI (tA a) (rN b) * rN b - tA a)))), .tst false, .res (wz ((nearI (tA a) (rN b) * rN b - tA a) + (nearI (tA a) (rN b) * rN b - tA a))), .res (ordV (ordI ((nearI (tA a) (rN b) * rN b - tA a) + (nearI (tA a) (rN b) * rN b - tA a)) (rN b))), .auto, .tst true, .res (.bool true)] hfl (ts6 (tT (rN_eq b)) (tT (tA_eq a)) (tF hs) (tN ht) (tF (fun h => hd (signI_neg.1 h))) (tT (ord_le (x := (nearI (tA a) (rN b) * rN b - tA a) + (nearI (tA a) (rN b) * rN b - tA a)) (y := rN b) (by omega)))) (qs12 (QC.of_pc enters_of (of_wz ha.1 ha.2)) (QC.of_pc enters_of (of_wz hb.1 hb.2)) (floor_qc (sa.wf (by omega)) (sb.wf (by omega)) (by omega) rfl hp) (ceil_qc (sa.wf (by omega)) (sb.wf (by omega)) (by omega) hq) (near_qc ha hb (by omega) hn) (QC.of_pc enters_of (of_wz hn.1 hn.2)) (QC.of_pc enters_mul (mul_wz sn sb)) (QC.of_pc enters_sub (sub_wz snb (sa.mono (k := 128) (by omega)))) (QC.of_pc enters_sign (sign_wz sd)) (QC.of_pc enters_add (add_wz sd sd)) (op) (awakeR)) (rfl) (rfl) (by kernel_rfl)
theorem enters_rootNear : ∀ us w, (callFunc 5 us).run Try.prog w = .ok (.enter 5 us) w := enters Try.func5 rfl (by kernel_rfl)
end Go.Proofs.Ytfmphajbbeghkaa.W
