/-
  The reference's roots and quotients of int64s.
-/
import Derived.Test.YthnemimpkpkjbaaTokN
import Derived.Test.YthnemimpkpkjbaaTokM
import Derived.Test.YthnemimpkpkjbaaRoot
namespace Go.Proofs.Ythnemimpkpkjbaa.R
open Go Go.Ev Go.W32
open Go.Proofs.Ythnemimpkpkjbaa.W (mixed i64_wrap clamp WF signI Hi clamp_eq Sm I64 isq isq_self isq_spec csq errI errV wnar fits64 fits64_iff sqI upI mdV muV cdiv fdiv_wf neg_wf wint wneg wneg_wf mdV_form muV_form isq_zero csq_zero)

theorem rsqrt {z : Int} (h0 : 0 ≤ z) (hz : WF (some z)) : MC Try.prog 34 [rz z] [] (.tuple #[rz (isq z.natAbs : Nat), .int .i64 ((0 : Nat) : Int)]) [] := by
  have h := rSqrt_t hz
  rw [show rsqrtV (some z) = errV (rV (some (isq z.natAbs : Nat))) 0 from if_neg (by omega)] at h
  exact h
theorem rint {z : Int} (hz : WF (some z)) : MC Try.prog 36 [rz z] [] (wint (some z)) [] := rInt64_t hz
theorem rint_fits {z : Int} (h : fits64 z = true) (hz : WF (some z)) : MC Try.prog 36 [rz z] [] (.tuple #[.int .i64 z, .bool true]) [] := by
  have h1 := rint hz
  unfold wint at h1
  simp only [h] at h1
  exact h1
theorem rint_over {z : Int} (h : fits64 z = false) (hz : WF (some z)) : MC Try.prog 36 [rz z] [] (.tuple #[.int .i64 0, .bool false]) [] := by
  have h1 := rint hz
  unfold wint at h1
  simp only [h] at h1
  exact h1
theorem enters_rIsqrt : ∀ us w, (callFunc 30 us).run Try.prog w = .ok (.enter 30 us) w := enters Try.func30 rfl (by kernel_rfl)
theorem rIsqrt_run {n s : Int} (h0 : ¬ n < 1) (h1 : MC Try.prog 35 [.int .i64 n] [] (rz n) []) (h2 : MC Try.prog 34 [rz n] [] (.tuple #[rz s, .int .i64 ((0 : Nat) : Int)]) []) (h3 : MC Try.prog 36 [rz s] [] (.tuple #[.int .i64 s, .bool true]) []) :
    MC Try.prog 30 [.int .i64 n] [] (.int .i64 s) [] :=
  AC.runA mixed Try.func30 [.tst false, .ab (rz n), .ab (.tuple #[rz s, .int .i64 ((0 : Nat) : Int)]), .ab (.tuple #[.int .i64 s, .bool true])] (ts1 (tF (p := n < 1) h0)) (qs3 h1 h2 h3) rfl enters_rIsqrt (by kernel_rfl)
theorem rIsqrt_low {n : Int} (h0 : n < 1) : MC Try.prog 30 [.int .i64 n] [] (.int .i64 0) [] :=
  AC.runA mixed Try.func30 [.tst true] (ts1 (tT (p := n < 1) h0)) qs0 rfl enters_rIsqrt (by kernel_rfl)
theorem isq_le63 {n : Nat} (h : n ≤ 9223372036854775807) : isq n ≤ 3037000499 := by
  have h1 := (isq_spec n).1
  rcases Nat.lt_or_ge 3037000499 (isq n) with h2 | h2
  · exfalso
    have : 3037000500 * 3037000500 ≤ isq n * isq n := Nat.mul_le_mul h2 h2
    omega
  · exact h2
theorem rIsqrt_t {n : Int} (hn : I64 n) : MC Try.prog 30 [.int .i64 n] [] (.int .i64 (sqI n)) [] := by
  have hlo := hn.1
  have hhi := hn.2
  unfold sqI
  by_cases h : n < 1
  · rw [show n.toNat = 0 by omega, isq_zero]
    exact rIsqrt_low h
  · have e : n.natAbs = n.toNat := by omega
    have h2 := rsqrt (z := n) (by omega) (hn.sm.wf (by omega))
    rw [e] at h2
    have hb := isq_le63 (n := n.toNat) (by omega)
    exact rIsqrt_run h (rof hn) h2 (rint_fits (fits64_iff.2 (by omega)) ((Sm.i64 (by omega) (by omega)).wf (by omega)))
theorem wnar_fits {z : Int} (h : fits64 z = true) : wnar (some z) = errI z 0 := by
  unfold wnar
  simp only [h]
theorem wnar_over {z : Int} (h : fits64 z = false) : wnar (some z) = errI 0 2 := by
  unfold wnar
  simp only [h]
end Go.Proofs.Ythnemimpkpkjbaa.R
