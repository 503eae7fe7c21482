/-
  Package root: roots and quotients of numbers.
-/
import Derived.Test.YtjmdppnhpfdhdaaDivH
import Derived.Test.YtjmdppnhpfdhdaaWideS
import Derived.Test.YtjmdppnhpfdhdaaWideO
import Derived.Test.YtjmdppnhpfdhdaaEvS
namespace Go.Proofs.Ytjmdppnhpfdhdaa.W
open Go Go.Ev Go.Wide

def errI (n : Int) (e : Nat) : Value := .tuple #[.int .i64 n, .int .i64 e]
theorem flat_errI (n : Int) (e : Nat) : flat (errI n e) = true := by kernel_rfl
/-- A number as an int64. -/
def wnar : Option Int → Value
  | none => errI 0 2
  | some z => match fits64 z with | true => errI z 0 | false => errI 0 2
theorem flat_wnar (A : Option Int) : flat (wnar A) = true := by
  unfold wnar
  split
  · exact flat_errI _ _
  · split <;> exact flat_errI _ _
theorem narrow_over : PC Try.prog 76 [wv none] (errI 0 2) :=
  PC.run mixed Try.func76 [.res (.tuple #[.int .i64 0, .bool false])] (by simp [flat_wv]) ts0 (qs1 (QC.of_pc enters_int64 (int64_pc (A := none) (fun z h => by cases h)))) rfl rfl (by kernel_rfl)
theorem narrow_pc {z : Int} (hz : WF (some z)) : PC Try.prog 76 [wz z] (wnar (some z)) := by
  have h := int64_pc hz
  unfold wnar
  unfold wint at h
  simp only at h ⊢
  cases hf : fits64 z with
  | true =>
    rw [hf] at h
    exact PC.run mixed Try.func76 [.res (.tuple #[.int .i64 z, .bool true])] (by simp [flat_wz]) ts0 (qs1 (QC.of_pc enters_int64 h)) rfl rfl (by kernel_rfl)
  | false =>
    rw [hf] at h
    exact PC.run mixed Try.func76 [.res (.tuple #[.int .i64 0, .bool false])] (by simp [flat_wz]) ts0 (qs1 (QC.of_pc enters_int64 h)) rfl rfl (by kernel_rfl)
theorem enters_narrow : ∀ us w, (callFunc 76 us).run Try.prog w = .ok (.enter 76 us) w := enters Try.func76 rfl (by kernel_rfl)
theorem fits64_iff {z : Int} : fits64 z = true ↔ -9223372036854775808 ≤ z ∧ z ≤ 9223372036854775807 := by simp [fits64]
theorem narrow_fits {z : Int} (h0 : -9223372036854775808 ≤ z) (h1 : z ≤ 9223372036854775807) : QC Try.prog 76 [wz z] (errI z 0) := by
  have h := narrow_pc ((Sm.i64 h0 h1).wf (by omega))
  unfold wnar at h
  simp only at h
  rw [fits64_iff.2 ⟨h0, h1⟩] at h
  exact QC.of_pc enters_narrow h

/-! ### Roots -/
/-- The root, rounded up. -/
def csq (n : Nat) : Nat := if isq n * isq n < n then isq n + 1 else isq n
theorem csq_le (n : Nat) : csq n ≤ n := by
  unfold csq
  have := isq_self n
  split
  · rename_i h
    rcases Nat.lt_or_ge (isq n) n with h1 | h1
    · omega
    · have e : isq n = n := by omega
      rw [e] at h
      have := Nat.le_mul_self n
      omega
  · exact this
theorem csq_sq (n : Nat) : n ≤ csq n * csq n := by
  unfold csq
  have := isq_spec n
  split <;> omega
theorem tN {p : Prop} [Decidable p] (h : p) : (!(!decide p)) = true := by rw [decide_eq_true h]; rfl
theorem sqrt_qc {z : Int} (h0 : 0 ≤ z) (hz : WF (some z)) : QC Try.prog 74 [wz z] (errV (wz (isq z.natAbs : Nat)) 0) := by
  have h := sqrt_pc hz
  unfold wsqrtV at h
  simp only at h
  rw [if_neg (by omega)] at h
  exact QC.of_pc enters_sqrt h
theorem sqrt_neg {z : Int} (h0 : z < 0) (hz : WF (some z)) : QC Try.prog 74 [wz z] (errV (wz 0) 1) := by
  have h := sqrt_pc hz
  unfold wsqrtV at h
  simp only at h
  rw [if_pos h0] at h
  exact QC.of_pc enters_sqrt h
theorem wideUp_neg {z : Int} (h0 : z < 0) (hz : WF (some z)) : PC Try.prog 61 [wz z] (errI 0 1) :=
  PC.run mixed Try.func61 [.res (errV (wz 0) 1)] (by simp [flat_wz]) ts0 (qs1 (sqrt_neg h0 hz)) rfl rfl (by kernel_rfl)
def ordV (o : Int) : Value := .tuple #[.int .i64 o, .bool true]
theorem wideUp_run1 {z s q : Int} {o r : Int} {e : Nat} (ho : ¬ o < 0) (h1 : QC Try.prog 74 [wz z] (errV (wz s) 0)) (h2 : QC Try.prog 71 [wz s, wz s] (wz q)) (h3 : QC Try.prog 75 [wz q, wz z] (ordV o))
    (h4 : QC Try.prog 76 [wz s] (errI r e)) : PC Try.prog 61 [wz z] (errI r e) :=
  PC.run mixed Try.func61 [.res (errV (wz s) 0), .res (wz q), .res (ordV o), .tst false, .res (errI r e)] (by simp [flat_wz]) (ts1 (tF ho)) (qs4 h1 h2 h3 h4) rfl rfl (by kernel_rfl)
theorem wideUp_run2 {z s q t : Int} {o r : Int} {e : Nat} (ho : o < 0) (h1 : QC Try.prog 74 [wz z] (errV (wz s) 0)) (h2 : QC Try.prog 71 [wz s, wz s] (wz q)) (h3 : QC Try.prog 75 [wz q, wz z] (ordV o))
    (h5 : QC Try.prog 59 [.int .i64 1] (wz 1)) (h6 : QC Try.prog 72 [wz s, wz 1] (wz t)) (h4 : QC Try.prog 76 [wz t] (errI r e)) : PC Try.prog 61 [wz z] (errI r e) :=
  PC.run mixed Try.func61 [.res (errV (wz s) 0), .res (wz q), .res (ordV o), .tst true, .res (wz 1), .res (wz t), .res (errI r e)] (by simp [flat_wz]) (ts1 (tT ho)) (qs6 h1 h2 h3 h5 h6 h4) rfl rfl (by kernel_rfl)
theorem wnar_form (A : Option Int) : ∃ r e, wnar A = errI r e := by
  unfold wnar
  split
  · exact ⟨_, _, rfl⟩
  · split <;> exact ⟨_, _, rfl⟩
theorem wideUp_pc {z : Int} (h0 : 0 ≤ z) (hz : WF (some z)) : PC Try.prog 61 [wz z] (wnar (some (csq z.natAbs : Nat))) := by
  have hH := hz z rfl
  have hs := isq_self z.natAbs
  have hc := csq_le z.natAbs
  have hsq := (isq_spec z.natAbs).1
  have hw : WF (some ((isq z.natAbs : Nat) : Int)) := fun y e => by cases e; omega
  have hwc : WF (some ((csq z.natAbs : Nat) : Int)) := fun y e => by cases e; omega
  have hm := mul_pc hw hw
  have em : wmul (some ((isq z.natAbs : Nat) : Int)) (some ((isq z.natAbs : Nat) : Int)) = some ((isq z.natAbs * isq z.natAbs : Nat) : Int) := by
    show clamp _ = _
    rw [← Int.natCast_mul, clamp_eq (by omega)]
  rw [em] at hm
  have hwq : WF (some ((isq z.natAbs * isq z.natAbs : Nat) : Int)) := fun y e => by cases e; omega
  have hcmp := cmp_pc hwq hz
  have hn := narrow_pc hwc
  obtain ⟨r, e, he⟩ := wnar_form (some (csq z.natAbs : Nat))
  rw [he] at hn ⊢
  by_cases h : isq z.natAbs * isq z.natAbs < z.natAbs
  · have ec : csq z.natAbs = isq z.natAbs + 1 := if_pos h
    rw [ec] at hn
    have ho : ordI ((isq z.natAbs * isq z.natAbs : Nat) : Int) z < 0 := by
      unfold ordI
      rw [if_pos (by omega)]
      omega
    have h1 := of_pc (n := 1) (by omega) (by omega)
    have hw1 : WF (some 1) := fun y e => by cases e; have := small_Hi (x := 1) (n := 1) (by omega) (by omega); omega
    have ha := add_pc hw hw1
    have ea : wadd (some ((isq z.natAbs : Nat) : Int)) (some 1) = some ((isq z.natAbs + 1 : Nat) : Int) := by
      show clamp _ = _
      rw [show ((isq z.natAbs : Nat) : Int) + 1 = ((isq z.natAbs + 1 : Nat) : Int) by omega, clamp_eq (by omega)]
    rw [ea] at ha
    exact wideUp_run2 ho (sqrt_qc h0 hz) (QC.of_pc enters_mul hm) (QC.of_pc enters_cmp hcmp) (QC.of_pc enters_of h1) (QC.of_pc enters_add ha) (QC.of_pc enters_narrow hn)
  · have ec : csq z.natAbs = isq z.natAbs := if_neg h
    rw [ec] at hn
    have ho : ¬ ordI ((isq z.natAbs * isq z.natAbs : Nat) : Int) z < 0 := by
      unfold ordI
      rw [if_neg (by omega)]
      split <;> omega
    exact wideUp_run1 ho (sqrt_qc h0 hz) (QC.of_pc enters_mul hm) (QC.of_pc enters_cmp hcmp) (QC.of_pc enters_narrow hn)
theorem enters_wideUp : ∀ us w, (callFunc 61 us).run Try.prog w = .ok (.enter 61 us) w := enters Try.func61 rfl (by kernel_rfl)
theorem wideUp_qc {z : Int} (h0 : 0 ≤ z) (hz : WF (some z)) (hc : csq z.natAbs ≤ 9223372036854775807) : QC Try.prog 61 [wz z] (errI (csq z.natAbs : Nat) 0) := by
  have h := wideUp_pc h0 hz
  unfold wnar at h
  simp only at h
  rw [fits64_iff.2 ⟨by omega, by omega⟩] at h
  exact QC.of_pc enters_wideUp h
/-- Roots of int64s, 0 below 1. -/
def upI (n : Int) : Int := (csq n.toNat : Nat)
def sqI (n : Int) : Int := (isq n.toNat : Nat)
theorem csq_zero : csq 0 = 0 := by
  have := csq_le 0
  omega
theorem up_run {n r : Int} {e : Nat} (h1 : QC Try.prog 59 [.int .i64 n] (wz n)) (h2 : QC Try.prog 61 [wz n] (errI r e)) : PC Try.prog 40 [.int .i64 n] (.int .i64 r) :=
  PC.run mixed Try.func40 [.res (wz n), .res (errI r e)] rfl ts0 (qs2 h1 h2) rfl rfl (by kernel_rfl)
theorem up_pc {n : Int} (h0 : -9223372036854775808 ≤ n) (h1 : n ≤ 9223372036854775807) : PC Try.prog 40 [.int .i64 n] (.int .i64 (upI n)) := by
  have hof := QC.of_pc enters_of (of_wz h0 h1)
  have hwf : WF (some n) := (Sm.i64 h0 h1).wf (by omega)
  unfold upI
  by_cases h : n < 0
  · rw [show n.toNat = 0 by omega, csq_zero]
    exact up_run hof (QC.of_pc enters_wideUp (wideUp_neg h hwf))
  · have e : n.toNat = n.natAbs := by omega
    have hc := csq_le n.natAbs
    rw [e]
    exact up_run hof (wideUp_qc (by omega) hwf (by omega))
theorem enters_up : ∀ us w, (callFunc 40 us).run Try.prog w = .ok (.enter 40 us) w := enters Try.func40 rfl (by kernel_rfl)
theorem up_qc {n : Int} (h0 : -9223372036854775808 ≤ n) (h1 : n ≤ 9223372036854775807) : QC Try.prog 40 [.int .i64 n] (.int .i64 (upI n)) := QC.of_pc enters_up (up_pc h0 h1)
theorem isq_zero : isq 0 = 0 := rfl
end Go.Proofs.Ytjmdppnhpfdhdaa.W
