/-
  Package root: roots and quotients of numbers.
  Package root: quotients.
  Package root: what the laws share.
-/
import Derived.Test.YtaibhjphgdjcmaaGreatDiv
import Derived.Test.YtaibhjphgdjcmaaGreatWide2
import Derived.Test.YtaibhjphgdjcmaaGreatEv3
/-! Package root: roots and quotients of numbers. -/
namespace Go.Proofs.YtaibhjphgdjcmaaGreat.W
open Go Go.Ev Go.Wide

def errI (n : Int) (e : Nat) : Value := .tuple #[.int .i64 n, .int .i64 e]
/-- A number as an int64. -/
def wnar : Option Int → Value
  | none => errI 0 2
  | some z => match fits64 z with | true => errI z 0 | false => errI 0 2
theorem narrow_pc {z : Int} (hz : WF (some z)) : PC Tryz.prog 81 [wz z] (wnar (some z)) := by
  have h := int64_pc hz
  unfold wnar
  unfold wint at h
  simp only at h ⊢
  cases hf : fits64 z with
  | true =>
    rw [hf] at h
    exact PC.run mixed Tryz.func81 [.res (.tuple #[.int .i64 z, .bool true])] (by simp [flat_wz]) ts0 (qs1 (QC.of_pc enters_int64 h)) rfl rfl (by kernel_rfl)
  | false =>
    rw [hf] at h
    exact PC.run mixed Tryz.func81 [.res (.tuple #[.int .i64 0, .bool false])] (by simp [flat_wz]) ts0 (qs1 (QC.of_pc enters_int64 h)) rfl rfl (by kernel_rfl)
theorem enters_narrow : ∀ us w, (callFunc 81 us).run Tryz.prog w = .ok (.enter 81 us) w := enters Tryz.func81 rfl (by kernel_rfl)
theorem fits64_iff {z : Int} : fits64 z = true ↔ -9223372036854775808 ≤ z ∧ z ≤ 9223372036854775807 := by simp [fits64]
theorem narrow_fits {z : Int} (h0 : -9223372036854775808 ≤ z) (h1 : z ≤ 9223372036854775807) : QC Tryz.prog 81 [wz z] (errI z 0) := by
  have h := narrow_pc ((Sm.i64 h0 h1).wf (by omega))
  unfold wnar at h
  simp only at h
  rw [fits64_iff.2 ⟨h0, h1⟩] at h
  exact QC.of_pc enters_narrow h

/-! ### Roots -/
/-- The root, rounded up. -/
def csq (n : Nat) : Nat := if isq n * isq n < n then isq n + 1 else isq n
theorem csq_le (n : Nat) : csq n ≤ n := by
  unfold csq
  have := isq_self n
  split
  · rename_i h
    rcases Nat.lt_or_ge (isq n) n with h1 | h1
    · omega
    · have e : isq n = n := by omega
      rw [e] at h
      have := Nat.le_mul_self n
      omega
  · exact this
theorem csq_sq (n : Nat) : n ≤ csq n * csq n := by
  unfold csq
  have := isq_spec n
  split <;> omega
theorem tN {p : Prop} [Decidable p] (h : p) : (!(!decide p)) = true := by rw [decide_eq_true h]; rfl
theorem sqrt_qc {z : Int} (h0 : 0 ≤ z) (hz : WF (some z)) : QC Tryz.prog 80 [wz z] (errV (wz (isq z.natAbs : Nat)) 0) := by
  have h := sqrt_pc hz
  unfold wsqrtV at h
  simp only at h
  rw [if_neg (by omega)] at h
  exact QC.of_pc enters_sqrt h
theorem sqrt_neg {z : Int} (h0 : z < 0) (hz : WF (some z)) : QC Tryz.prog 80 [wz z] (errV (wz 0) 1) := by
  have h := sqrt_pc hz
  unfold wsqrtV at h
  simp only at h
  rw [if_pos h0] at h
  exact QC.of_pc enters_sqrt h
theorem wideDown_neg {z : Int} (h0 : z < 0) (hz : WF (some z)) : PC Tryz.prog 52 [wz z] (errI 0 1) :=
  PC.run mixed Tryz.func52 [.res (errV (wz 0) 1)] (by simp [flat_wz]) ts0 (qs1 (sqrt_neg h0 hz)) rfl rfl (by kernel_rfl)
theorem wideDown_pc {z : Int} (h0 : 0 ≤ z) (hz : WF (some z)) : PC Tryz.prog 52 [wz z] (wnar (some (isq z.natAbs : Nat))) := by
  have hs := isq_self z.natAbs
  have hw : WF (some ((isq z.natAbs : Nat) : Int)) := fun y e => by cases e; have := hz z rfl; omega
  have h := narrow_pc hw
  unfold wnar at h ⊢
  simp only at h ⊢
  cases hf : fits64 (isq z.natAbs : Nat) with
  | true =>
    rw [hf] at h
    exact PC.run mixed Tryz.func52 [.res (errV (wz (isq z.natAbs : Nat)) 0), .res (errI (isq z.natAbs : Nat) 0)] (by simp [flat_wz]) ts0 (qs2 (sqrt_qc h0 hz) (QC.of_pc enters_narrow h)) rfl rfl (by kernel_rfl)
  | false =>
    rw [hf] at h
    exact PC.run mixed Tryz.func52 [.res (errV (wz (isq z.natAbs : Nat)) 0), .res (errI 0 2)] (by simp [flat_wz]) ts0 (qs2 (sqrt_qc h0 hz) (QC.of_pc enters_narrow h)) rfl rfl (by kernel_rfl)
theorem enters_wideDown : ∀ us w, (callFunc 52 us).run Tryz.prog w = .ok (.enter 52 us) w := enters Tryz.func52 rfl (by kernel_rfl)
theorem wideUp_neg {z : Int} (h0 : z < 0) (hz : WF (some z)) : PC Tryz.prog 53 [wz z] (errI 0 1) :=
  PC.run mixed Tryz.func53 [.res (errV (wz 0) 1)] (by simp [flat_wz]) ts0 (qs1 (sqrt_neg h0 hz)) rfl rfl (by kernel_rfl)
def ordV (o : Int) : Value := .tuple #[.int .i64 o, .bool true]
theorem wideUp_run1 {z s q : Int} {o r : Int} {e : Nat} (ho : ¬ o < 0) (h1 : QC Tryz.prog 80 [wz z] (errV (wz s) 0)) (h2 : QC Tryz.prog 83 [wz s, wz s] (wz q)) (h3 : QC Tryz.prog 82 [wz q, wz z] (ordV o))
    (h4 : QC Tryz.prog 81 [wz s] (errI r e)) : PC Tryz.prog 53 [wz z] (errI r e) :=
  PC.run mixed Tryz.func53 [.res (errV (wz s) 0), .res (wz q), .res (ordV o), .tst false, .res (errI r e)] (by simp [flat_wz]) (ts1 (tF ho)) (qs4 h1 h2 h3 h4) rfl rfl (by kernel_rfl)
theorem wideUp_run2 {z s q t : Int} {o r : Int} {e : Nat} (ho : o < 0) (h1 : QC Tryz.prog 80 [wz z] (errV (wz s) 0)) (h2 : QC Tryz.prog 83 [wz s, wz s] (wz q)) (h3 : QC Tryz.prog 82 [wz q, wz z] (ordV o))
    (h5 : QC Tryz.prog 78 [.int .i64 1] (wz 1)) (h6 : QC Tryz.prog 84 [wz s, wz 1] (wz t)) (h4 : QC Tryz.prog 81 [wz t] (errI r e)) : PC Tryz.prog 53 [wz z] (errI r e) :=
  PC.run mixed Tryz.func53 [.res (errV (wz s) 0), .res (wz q), .res (ordV o), .tst true, .res (wz 1), .res (wz t), .res (errI r e)] (by simp [flat_wz]) (ts1 (tT ho)) (qs6 h1 h2 h3 h5 h6 h4) rfl rfl (by kernel_rfl)
theorem wnar_form (A : Option Int) : ∃ r e, wnar A = errI r e := by
  unfold wnar
  split
  · exact ⟨_, _, rfl⟩
  · split <;> exact ⟨_, _, rfl⟩
theorem wideUp_pc {z : Int} (h0 : 0 ≤ z) (hz : WF (some z)) : PC Tryz.prog 53 [wz z] (wnar (some (csq z.natAbs : Nat))) := by
  have hH := hz z rfl
  have hs := isq_self z.natAbs
  have hc := csq_le z.natAbs
  have hsq := (isq_spec z.natAbs).1
  have hw : WF (some ((isq z.natAbs : Nat) : Int)) := fun y e => by cases e; omega
  have hwc : WF (some ((csq z.natAbs : Nat) : Int)) := fun y e => by cases e; omega
  have hm := mul_pc hw hw
  have em : wmul (some ((isq z.natAbs : Nat) : Int)) (some ((isq z.natAbs : Nat) : Int)) = some ((isq z.natAbs * isq z.natAbs : Nat) : Int) := by
    show clamp _ = _
    rw [← Int.natCast_mul, clamp_eq (by omega)]
  rw [em] at hm
  have hwq : WF (some ((isq z.natAbs * isq z.natAbs : Nat) : Int)) := fun y e => by cases e; omega
  have hcmp := cmp_pc hwq hz
  have hn := narrow_pc hwc
  obtain ⟨r, e, he⟩ := wnar_form (some (csq z.natAbs : Nat))
  rw [he] at hn ⊢
  by_cases h : isq z.natAbs * isq z.natAbs < z.natAbs
  · have ec : csq z.natAbs = isq z.natAbs + 1 := if_pos h
    rw [ec] at hn
    have ho : ordI ((isq z.natAbs * isq z.natAbs : Nat) : Int) z < 0 := by
      unfold ordI
      rw [if_pos (by omega)]
      omega
    have h1 := of_pc (n := 1) (by omega) (by omega)
    have hw1 : WF (some 1) := fun y e => by cases e; have := small_Hi (x := 1) (n := 1) (by omega) (by omega); omega
    have ha := add_pc hw hw1
    have ea : wadd (some ((isq z.natAbs : Nat) : Int)) (some 1) = some ((isq z.natAbs + 1 : Nat) : Int) := by
      show clamp _ = _
      rw [show ((isq z.natAbs : Nat) : Int) + 1 = ((isq z.natAbs + 1 : Nat) : Int) by omega, clamp_eq (by omega)]
    rw [ea] at ha
    exact wideUp_run2 ho (sqrt_qc h0 hz) (QC.of_pc enters_mul hm) (QC.of_pc enters_cmp hcmp) (QC.of_pc enters_of h1) (QC.of_pc enters_add ha) (QC.of_pc enters_narrow hn)
  · have ec : csq z.natAbs = isq z.natAbs := if_neg h
    rw [ec] at hn
    have ho : ¬ ordI ((isq z.natAbs * isq z.natAbs : Nat) : Int) z < 0 := by
      unfold ordI
      rw [if_neg (by omega)]
      split <;> omega
    exact wideUp_run1 ho (sqrt_qc h0 hz) (QC.of_pc enters_mul hm) (QC.of_pc enters_cmp hcmp) (QC.of_pc enters_narrow hn)
theorem enters_wideUp : ∀ us w, (callFunc 53 us).run Tryz.prog w = .ok (.enter 53 us) w := enters Tryz.func53 rfl (by kernel_rfl)
theorem wideUp_qc {z : Int} (h0 : 0 ≤ z) (hz : WF (some z)) (hc : csq z.natAbs ≤ 9223372036854775807) : QC Tryz.prog 53 [wz z] (errI (csq z.natAbs : Nat) 0) := by
  have h := wideUp_pc h0 hz
  unfold wnar at h
  simp only at h
  rw [fits64_iff.2 ⟨by omega, by omega⟩] at h
  exact QC.of_pc enters_wideUp h
theorem wideDown_qc {z : Int} (h0 : 0 ≤ z) (hz : WF (some z)) (hc : isq z.natAbs ≤ 9223372036854775807) : QC Tryz.prog 52 [wz z] (errI (isq z.natAbs : Nat) 0) := by
  have h := wideDown_pc h0 hz
  unfold wnar at h
  simp only at h
  rw [fits64_iff.2 ⟨by omega, by omega⟩] at h
  exact QC.of_pc enters_wideDown h
/-- Roots of int64s, 0 below 1. -/
def upI (n : Int) : Int := (csq n.toNat : Nat)
def sqI (n : Int) : Int := (isq n.toNat : Nat)
theorem csq_zero : csq 0 = 0 := by
  have := csq_le 0
  omega
theorem up_run {n r : Int} {e : Nat} (h1 : QC Tryz.prog 78 [.int .i64 n] (wz n)) (h2 : QC Tryz.prog 53 [wz n] (errI r e)) : PC Tryz.prog 50 [.int .i64 n] (.int .i64 r) :=
  PC.run mixed Tryz.func50 [.res (wz n), .res (errI r e)] rfl ts0 (qs2 h1 h2) rfl rfl (by kernel_rfl)
theorem up_pc {n : Int} (h0 : -9223372036854775808 ≤ n) (h1 : n ≤ 9223372036854775807) : PC Tryz.prog 50 [.int .i64 n] (.int .i64 (upI n)) := by
  have hof := QC.of_pc enters_of (of_wz h0 h1)
  have hwf : WF (some n) := (Sm.i64 h0 h1).wf (by omega)
  unfold upI
  by_cases h : n < 0
  · rw [show n.toNat = 0 by omega, csq_zero]
    exact up_run hof (QC.of_pc enters_wideUp (wideUp_neg h hwf))
  · have e : n.toNat = n.natAbs := by omega
    have hc := csq_le n.natAbs
    rw [e]
    exact up_run hof (wideUp_qc (by omega) hwf (by omega))
theorem enters_up : ∀ us w, (callFunc 50 us).run Tryz.prog w = .ok (.enter 50 us) w := enters Tryz.func50 rfl (by kernel_rfl)
theorem up_qc {n : Int} (h0 : -9223372036854775808 ≤ n) (h1 : n ≤ 9223372036854775807) : QC Tryz.prog 50 [.int .i64 n] (.int .i64 (upI n)) := QC.of_pc enters_up (up_pc h0 h1)
theorem isq_zero : isq 0 = 0 := rfl
end Go.Proofs.YtaibhjphgdjcmaaGreat.W
/-! Package root: quotients. -/
namespace Go.Proofs.YtaibhjphgdjcmaaGreat.W
open Go Go.Ev Go.Wide

def I64r (n : Int) : Prop := -9223372036854775808 ≤ n ∧ n ≤ 9223372036854775807
theorem div_qc {a b : Int} (ha : WF (some a)) (hb : WF (some b)) (h0 : b ≠ 0) : QC Tryz.prog 186 [wz a, wz b] (errV (wz (a.fdiv b)) 0) := by
  have h := div_pc ha hb
  unfold wdivV at h
  simp only at h
  rw [if_neg h0] at h
  exact QC.of_pc enters_div h
theorem div_zero {a : Int} (ha : WF (some a)) : QC Tryz.prog 186 [wz a, wz 0] (errV (wz 0) 1) := by
  have h := div_pc ha (B := some 0) (fun z e => by cases e; have := Hi_pos; omega)
  unfold wdivV at h
  simp only at h
  rw [if_pos trivial] at h
  exact QC.of_pc enters_div h
theorem fdiv_wf {a b : Int} (ha : WF (some a)) (h0 : b ≠ 0) : WF (some (a.fdiv b)) := fun z e => by
  cases e
  have := (fdiv_signs a b h0).2
  have := ha a rfl
  omega
theorem neg_wf {a : Int} (ha : WF (some a)) : WF (some (-a)) := fun z e => by
  cases e
  have := ha a rfl
  omega
theorem neg_qc {a : Int} (ha : WF (some a)) : QC Tryz.prog 122 [wz a] (wz (-a)) := QC.of_pc enters_neg (neg_pc ha)
theorem product_pc {a b : Int} (ha : I64r a) (hb : I64r b) : PC Tryz.prog 189 [.int .i64 a, .int .i64 b] (wz (a * b)) :=
  PC.run mixed Tryz.func189 [.res (wz a), .res (wz b), .res (wz (a * b))] rfl ts0 (qs3 (QC.of_pc enters_of (of_wz ha.1 ha.2)) (QC.of_pc enters_of (of_wz hb.1 hb.2)) (QC.of_pc enters_mul (mul_wz (Sm.i64 ha.1 ha.2) (Sm.i64 hb.1 hb.2)))) (flat_wz _) rfl (by kernel_rfl)
theorem enters_product : ∀ us w, (callFunc 189 us).run Tryz.prog w = .ok (.enter 189 us) w := enters Tryz.func189 rfl (by kernel_rfl)
theorem product_qc {a b : Int} (ha : I64r a) (hb : I64r b) : QC Tryz.prog 189 [.int .i64 a, .int .i64 b] (wz (a * b)) := QC.of_pc enters_product (product_pc ha hb)
theorem prod_wf {a b : Int} (ha : I64r a) (hb : I64r b) : WF (some (a * b)) := ((Sm.i64 ha.1 ha.2).mul (Sm.i64 hb.1 hb.2)).wf (by omega)
/-- Down and up, as int64s. -/
def mdV (z c : Int) : Value := if c = 0 then errI 0 1 else wnar (some (z.fdiv c))
def cdiv (z c : Int) : Int := -((-z).fdiv c)
def muV (z c : Int) : Value := if c = 0 then errI 0 1 else wnar (some (cdiv z c))
theorem qdown_zero {a : Int} (h : QC Tryz.prog 186 [wz a, wz 0] (errV (wz 0) 1)) : PC Tryz.prog 181 [wz a, wz 0] (errI 0 1) :=
  PC.run mixed Tryz.func181 [.res (errV (wz 0) 1)] (by simp [flat_wz]) ts0 (qs1 h) rfl rfl (by kernel_rfl)
theorem qdown_run {a b q r : Int} {e : Nat} (h : QC Tryz.prog 186 [wz a, wz b] (errV (wz q) 0)) (h2 : QC Tryz.prog 81 [wz q] (errI r e)) : PC Tryz.prog 181 [wz a, wz b] (errI r e) :=
  PC.run mixed Tryz.func181 [.res (errV (wz q) 0), .res (errI r e)] (by simp [flat_wz]) ts0 (qs2 h h2) rfl rfl (by kernel_rfl)
theorem qdown_pc {a b : Int} (ha : WF (some a)) (hb : WF (some b)) : PC Tryz.prog 181 [wz a, wz b] (mdV a b) := by
  unfold mdV
  by_cases h0 : b = 0
  · subst h0
    rw [if_pos rfl]
    exact qdown_zero (div_zero ha)
  · rw [if_neg h0]
    have hn := narrow_pc (fdiv_wf ha h0)
    obtain ⟨r, e, he⟩ := wnar_form (some (a.fdiv b))
    rw [he] at hn ⊢
    exact qdown_run (div_qc ha hb h0) (QC.of_pc enters_narrow hn)
theorem enters_qdown : ∀ us w, (callFunc 181 us).run Tryz.prog w = .ok (.enter 181 us) w := enters Tryz.func181 rfl (by kernel_rfl)
theorem qup_zero {a m : Int} (h0 : QC Tryz.prog 122 [wz a] (wz m)) (h : QC Tryz.prog 186 [wz m, wz 0] (errV (wz 0) 1)) : PC Tryz.prog 182 [wz a, wz 0] (errI 0 1) :=
  PC.run mixed Tryz.func182 [.res (wz m), .res (errV (wz 0) 1)] (by simp [flat_wz]) ts0 (qs2 h0 h) rfl rfl (by kernel_rfl)
theorem qup_run {a b m q n r : Int} {e : Nat} (h0 : QC Tryz.prog 122 [wz a] (wz m)) (h : QC Tryz.prog 186 [wz m, wz b] (errV (wz q) 0)) (h1 : QC Tryz.prog 122 [wz q] (wz n)) (h2 : QC Tryz.prog 81 [wz n] (errI r e)) : PC Tryz.prog 182 [wz a, wz b] (errI r e) :=
  PC.run mixed Tryz.func182 [.res (wz m), .res (errV (wz q) 0), .res (wz n), .res (errI r e)] (by simp [flat_wz]) ts0 (qs4 h0 h h1 h2) rfl rfl (by kernel_rfl)
theorem qup_pc {a b : Int} (ha : WF (some a)) (hb : WF (some b)) : PC Tryz.prog 182 [wz a, wz b] (muV a b) := by
  unfold muV cdiv
  by_cases h0 : b = 0
  · subst h0
    rw [if_pos rfl]
    exact qup_zero (neg_qc ha) (div_zero (neg_wf ha))
  · rw [if_neg h0]
    have hw := fdiv_wf (neg_wf ha) h0
    have hn := narrow_pc (neg_wf hw)
    obtain ⟨r, e, he⟩ := wnar_form (some (-((-a).fdiv b)))
    rw [he] at hn ⊢
    exact qup_run (neg_qc ha) (div_qc (neg_wf ha) hb h0) (neg_qc hw) (QC.of_pc enters_narrow hn)
theorem enters_qup : ∀ us w, (callFunc 182 us).run Tryz.prog w = .ok (.enter 182 us) w := enters Tryz.func182 rfl (by kernel_rfl)
theorem mdV_form (z c : Int) : ∃ r e, mdV z c = errI r e := by
  unfold mdV
  split
  · exact ⟨_, _, rfl⟩
  · exact wnar_form _
theorem muV_form (z c : Int) : ∃ r e, muV z c = errI r e := by
  unfold muV
  split
  · exact ⟨_, _, rfl⟩
  · exact wnar_form _
theorem md_run {a b c r : Int} {e : Nat} (h1 : QC Tryz.prog 189 [.int .i64 a, .int .i64 b] (wz (a * b))) (h2 : QC Tryz.prog 78 [.int .i64 c] (wz c)) (h3 : QC Tryz.prog 181 [wz (a * b), wz c] (errI r e)) :
    PC Tryz.prog 188 [.int .i64 a, .int .i64 b, .int .i64 c] (errI r e) :=
  PC.run mixed Tryz.func188 [.res (wz (a * b)), .res (wz c), .res (errI r e)] rfl ts0 (qs3 h1 h2 h3) rfl rfl (by kernel_rfl)
theorem mulDiv_pc {a b c : Int} (ha : I64r a) (hb : I64r b) (hc : I64r c) : PC Tryz.prog 188 [.int .i64 a, .int .i64 b, .int .i64 c] (mdV (a * b) c) := by
  have hq := qdown_pc (prod_wf ha hb) ((Sm.i64 hc.1 hc.2).wf (by omega))
  obtain ⟨r, e, he⟩ := mdV_form (a * b) c
  rw [he] at hq ⊢
  exact md_run (product_qc ha hb) (QC.of_pc enters_of (of_wz hc.1 hc.2)) (QC.of_pc enters_qdown hq)
theorem enters_mulDiv : ∀ us w, (callFunc 188 us).run Tryz.prog w = .ok (.enter 188 us) w := enters Tryz.func188 rfl (by kernel_rfl)
theorem mulDiv_qc {a b c : Int} (ha : I64r a) (hb : I64r b) (hc : I64r c) (v : Value) (h : mdV (a * b) c = v) : QC Tryz.prog 188 [.int .i64 a, .int .i64 b, .int .i64 c] v := h ▸ QC.of_pc enters_mulDiv (mulDiv_pc ha hb hc)
theorem mu_run {a b c r : Int} {e : Nat} (h1 : QC Tryz.prog 189 [.int .i64 a, .int .i64 b] (wz (a * b))) (h2 : QC Tryz.prog 78 [.int .i64 c] (wz c)) (h3 : QC Tryz.prog 182 [wz (a * b), wz c] (errI r e)) :
    PC Tryz.prog 187 [.int .i64 a, .int .i64 b, .int .i64 c] (errI r e) :=
  PC.run mixed Tryz.func187 [.res (wz (a * b)), .res (wz c), .res (errI r e)] rfl ts0 (qs3 h1 h2 h3) rfl rfl (by kernel_rfl)
theorem mulDivUp_pc {a b c : Int} (ha : I64r a) (hb : I64r b) (hc : I64r c) : PC Tryz.prog 187 [.int .i64 a, .int .i64 b, .int .i64 c] (muV (a * b) c) := by
  have hq := qup_pc (prod_wf ha hb) ((Sm.i64 hc.1 hc.2).wf (by omega))
  obtain ⟨r, e, he⟩ := muV_form (a * b) c
  rw [he] at hq ⊢
  exact mu_run (product_qc ha hb) (QC.of_pc enters_of (of_wz hc.1 hc.2)) (QC.of_pc enters_qup hq)
theorem enters_mulDivUp : ∀ us w, (callFunc 187 us).run Tryz.prog w = .ok (.enter 187 us) w := enters Tryz.func187 rfl (by kernel_rfl)
theorem mulDivUp_qc {a b c : Int} (ha : I64r a) (hb : I64r b) (hc : I64r c) (v : Value) (h : muV (a * b) c = v) : QC Tryz.prog 187 [.int .i64 a, .int .i64 b, .int .i64 c] v := h ▸ QC.of_pc enters_mulDivUp (mulDivUp_pc ha hb hc)

/-! ### Floor, Ceil, Near, for a divisor that is positive -/
theorem over_qc (a : Int) : QC Tryz.prog 169 [wz a] (.bool false) := QC.of_pc enters_over (over_pc (some a))
theorem signI_le {q : Int} (h : 0 < q) : ¬ signI (some q) ≤ 0 := by
  simp only [signI]
  split
  · omega
  · split <;> omega
theorem check_pc {a b : Int} (hb : WF (some b)) (h0 : 0 < b) : PC Tryz.prog 180 [wz a, wz b] (.int .i64 0) :=
  PC.run mixed Tryz.func180 [.res (.bool false), .res (.bool false), .res (.int .i64 (signI (some b))), .tst false] (by simp [flat_wz]) (ts1 (tF (signI_le h0))) (qs3 (over_qc a) (over_qc b) (QC.of_pc enters_sign (sign_pc hb))) rfl rfl (by kernel_rfl)
theorem enters_check : ∀ us w, (callFunc 180 us).run Tryz.prog w = .ok (.enter 180 us) w := enters Tryz.func180 rfl (by kernel_rfl)
theorem floor_run {a b r : Int} {e : Nat} (h1 : QC Tryz.prog 180 [wz a, wz b] (.int .i64 0)) (h2 : QC Tryz.prog 181 [wz a, wz b] (errI r e)) : PC Tryz.prog 173 [wz a, wz b] (errI r e) :=
  PC.run mixed Tryz.func173 [.res (.int .i64 0), .res (errI r e)] (by simp [flat_wz]) ts0 (qs2 h1 h2) rfl rfl (by kernel_rfl)
theorem enters_floor : ∀ us w, (callFunc 173 us).run Tryz.prog w = .ok (.enter 173 us) w := enters Tryz.func173 rfl (by kernel_rfl)
theorem ceil_run {a b r : Int} {e : Nat} (h1 : QC Tryz.prog 180 [wz a, wz b] (.int .i64 0)) (h2 : QC Tryz.prog 182 [wz a, wz b] (errI r e)) : PC Tryz.prog 172 [wz a, wz b] (errI r e) :=
  PC.run mixed Tryz.func172 [.res (.int .i64 0), .res (errI r e)] (by simp [flat_wz]) ts0 (qs2 h1 h2) rfl rfl (by kernel_rfl)
theorem enters_ceil : ∀ us w, (callFunc 172 us).run Tryz.prog w = .ok (.enter 172 us) w := enters Tryz.func172 rfl (by kernel_rfl)
theorem near_run {a b x y z r : Int} {e : Nat} (h1 : QC Tryz.prog 180 [wz a, wz b] (.int .i64 0)) (h3 : QC Tryz.prog 105 [wz a, .int .i64 1] (wz x)) (h4 : QC Tryz.prog 84 [wz x, wz b] (wz y)) (h5 : QC Tryz.prog 105 [wz b, .int .i64 1] (wz z)) (h2 : QC Tryz.prog 181 [wz y, wz z] (errI r e)) : PC Tryz.prog 171 [wz a, wz b] (errI r e) :=
  PC.run mixed Tryz.func171 [.res (.int .i64 0), .res (wz x), .res (wz y), .res (wz z), .res (errI r e)] (by simp [flat_wz]) ts0 (qs5 h1 h3 h4 h5 h2) rfl rfl (by kernel_rfl)
theorem enters_near : ∀ us w, (callFunc 171 us).run Tryz.prog w = .ok (.enter 171 us) w := enters Tryz.func171 rfl (by kernel_rfl)

/-! ### Floors and ceilings of integers -/
theorem fdiv_bounds {z c : Int} (hc : 0 < c) : c * z.fdiv c ≤ z ∧ z < c * z.fdiv c + c := by
  rw [Int.fdiv_eq_ediv_of_nonneg _ (by omega)]
  have h1 := Int.mul_ediv_add_emod z c
  have h2 := Int.emod_nonneg z (show c ≠ 0 by omega)
  have h3 := Int.emod_lt_of_pos z hc
  omega
theorem cdiv_bounds {z c : Int} (hc : 0 < c) : z ≤ c * cdiv z c ∧ c * cdiv z c < z + c := by
  unfold cdiv
  obtain ⟨h1, h2⟩ := fdiv_bounds (z := -z) hc
  rw [Int.mul_neg]
  omega
theorem mul_lt_cancel {c p q : Int} (hc : 0 < c) (h : c * p < c * q) : p < q := Int.lt_of_mul_lt_mul_left h (by omega)
theorem csq_isq (n : Nat) : isq n ≤ csq n ∧ csq n ≤ isq n + 1 ∧ (csq n = isq n ↔ isq n * isq n = n) := by
  unfold csq
  have := isq_spec n
  split
  · exact ⟨by omega, by omega, by omega⟩
  · exact ⟨by omega, by omega, by omega⟩

/-! ### awake, masks -/
/-- A number's lowest bits. -/
def andK (n m : Int) : Int := IntKind.i64.wrap (BitVec.ofInt 64 n &&& BitVec.ofInt 64 m).toNat
end Go.Proofs.YtaibhjphgdjcmaaGreat.W
/-! Package root: what the laws share. -/
namespace Go.Proofs.YtaibhjphgdjcmaaGreat.W
open Go Go.Ev Go.Wide

theorem mdV_fits {z c : Int} (h0 : c ≠ 0) (h : fits64 (z.fdiv c) = true) : mdV z c = errI (z.fdiv c) 0 := by
  unfold mdV wnar
  rw [if_neg h0]
  simp only
  rw [h]
theorem muV_fits {z c : Int} (h0 : c ≠ 0) (h : fits64 (cdiv z c) = true) : muV z c = errI (cdiv z c) 0 := by
  unfold muV wnar
  rw [if_neg h0]
  simp only
  rw [h]
/-- Roots of a number that is not negative. -/
theorem roots {m : Int} (h0 : 0 ≤ m) (h1 : m ≤ 4611686018427387904) : sqI m * sqI m ≤ m ∧ 0 ≤ upI m - sqI m ∧ upI m - sqI m ≤ 1 ∧ (upI m = sqI m ↔ sqI m * sqI m = m) ∧ m ≤ upI m * upI m ∧ sqI m ≤ 2147483648 ∧ upI m ≤ 2147483649 := by
  unfold upI sqI
  obtain ⟨k, rfl⟩ : ∃ k : Nat, m = k := ⟨m.toNat, by omega⟩
  rw [Int.toNat_natCast, ← Int.natCast_mul, ← Int.natCast_mul]
  obtain ⟨s1, s2⟩ := isq_spec k
  obtain ⟨c1, c2, c3⟩ := csq_isq k
  have c4 := csq_sq k
  have hs : isq k ≤ 2147483648 := by
    rcases Nat.lt_or_ge 2147483648 (isq k) with h | h
    · have := sq_lt_of_lt h
      omega
    · exact h
  refine ⟨by omega, by omega, by omega, ?_, by omega, by omega, by omega⟩
  constructor
  · intro h
    have := c3.1 (by omega)
    omega
  · intro h
    have := c3.2 (by omega)
    omega
end Go.Proofs.YtaibhjphgdjcmaaGreat.W
