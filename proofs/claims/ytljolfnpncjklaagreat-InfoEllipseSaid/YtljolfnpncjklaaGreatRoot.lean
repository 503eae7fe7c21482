/-
  Package root: roots and quotients of numbers.
  Package root: quotients.
  Package root: what the laws share.
-/
import Derived.Test.YtljolfnpncjklaaGreatDiv
import Derived.Test.YtljolfnpncjklaaGreatWide2
import Derived.Test.YtljolfnpncjklaaGreatEv3
/-! Package root: roots and quotients of numbers. -/
namespace Go.Proofs.YtljolfnpncjklaaGreat.W
open Go Go.Ev Go.Wide

def errI (n : Int) (e : Nat) : Value := .tuple #[.int .i64 n, .int .i64 e]
theorem flat_errI (n : Int) (e : Nat) : flat (errI n e) = true := by kernel_rfl
/-- A number as an int64. -/
def wnar : Option Int → Value
  | none => errI 0 2
  | some z => match fits64 z with | true => errI z 0 | false => errI 0 2
theorem flat_wnar (A : Option Int) : flat (wnar A) = true := by
  unfold wnar
  split
  · exact flat_errI _ _
  · split <;> exact flat_errI _ _
theorem narrow_over : PC Tryz.prog 113 [wv none] (errI 0 2) :=
  PC.run mixed Tryz.func113 [.res (.tuple #[.int .i64 0, .bool false])] (by simp [flat_wv]) ts0 (qs1 (QC.of_pc enters_int64 (int64_pc (A := none) (fun z h => by cases h)))) rfl rfl (by kernel_rfl)
theorem narrow_pc {z : Int} (hz : WF (some z)) : PC Tryz.prog 113 [wz z] (wnar (some z)) := by
  have h := int64_pc hz
  unfold wnar
  unfold wint at h
  simp only at h ⊢
  cases hf : fits64 z with
  | true =>
    rw [hf] at h
    exact PC.run mixed Tryz.func113 [.res (.tuple #[.int .i64 z, .bool true])] (by simp [flat_wz]) ts0 (qs1 (QC.of_pc enters_int64 h)) rfl rfl (by kernel_rfl)
  | false =>
    rw [hf] at h
    exact PC.run mixed Tryz.func113 [.res (.tuple #[.int .i64 0, .bool false])] (by simp [flat_wz]) ts0 (qs1 (QC.of_pc enters_int64 h)) rfl rfl (by kernel_rfl)
theorem enters_narrow : ∀ us w, (callFunc 113 us).run Tryz.prog w = .ok (.enter 113 us) w := enters Tryz.func113 rfl (by kernel_rfl)
theorem fits64_iff {z : Int} : fits64 z = true ↔ -9223372036854775808 ≤ z ∧ z ≤ 9223372036854775807 := by simp [fits64]
theorem narrow_fits {z : Int} (h0 : -9223372036854775808 ≤ z) (h1 : z ≤ 9223372036854775807) : QC Tryz.prog 113 [wz z] (errI z 0) := by
  have h := narrow_pc ((Sm.i64 h0 h1).wf (by omega))
  unfold wnar at h
  simp only at h
  rw [fits64_iff.2 ⟨h0, h1⟩] at h
  exact QC.of_pc enters_narrow h

/-! ### Roots -/
/-- The root, rounded up. -/
def csq (n : Nat) : Nat := if isq n * isq n < n then isq n + 1 else isq n
theorem csq_le (n : Nat) : csq n ≤ n := by
  unfold csq
  have := isq_self n
  split
  · rename_i h
    rcases Nat.lt_or_ge (isq n) n with h1 | h1
    · omega
    · have e : isq n = n := by omega
      rw [e] at h
      have := Nat.le_mul_self n
      omega
  · exact this
theorem csq_sq (n : Nat) : n ≤ csq n * csq n := by
  unfold csq
  have := isq_spec n
  split <;> omega
theorem tN {p : Prop} [Decidable p] (h : p) : (!(!decide p)) = true := by rw [decide_eq_true h]; rfl
theorem sqrt_qc {z : Int} (h0 : 0 ≤ z) (hz : WF (some z)) : QC Tryz.prog 129 [wz z] (errV (wz (isq z.natAbs : Nat)) 0) := by
  have h := sqrt_pc hz
  unfold wsqrtV at h
  simp only at h
  rw [if_neg (by omega)] at h
  exact QC.of_pc enters_sqrt h
theorem sqrt_neg {z : Int} (h0 : z < 0) (hz : WF (some z)) : QC Tryz.prog 129 [wz z] (errV (wz 0) 1) := by
  have h := sqrt_pc hz
  unfold wsqrtV at h
  simp only at h
  rw [if_pos h0] at h
  exact QC.of_pc enters_sqrt h
theorem wideUp_neg {z : Int} (h0 : z < 0) (hz : WF (some z)) : PC Tryz.prog 123 [wz z] (errI 0 1) :=
  PC.run mixed Tryz.func123 [.res (errV (wz 0) 1)] (by simp [flat_wz]) ts0 (qs1 (sqrt_neg h0 hz)) rfl rfl (by kernel_rfl)
def ordV (o : Int) : Value := .tuple #[.int .i64 o, .bool true]
theorem wideUp_run1 {z s q : Int} {o r : Int} {e : Nat} (ho : ¬ o < 0) (h1 : QC Tryz.prog 129 [wz z] (errV (wz s) 0)) (h2 : QC Tryz.prog 12 [wz s, wz s] (wz q)) (h3 : QC Tryz.prog 130 [wz q, wz z] (ordV o))
    (h4 : QC Tryz.prog 113 [wz s] (errI r e)) : PC Tryz.prog 123 [wz z] (errI r e) :=
  PC.run mixed Tryz.func123 [.res (errV (wz s) 0), .res (wz q), .res (ordV o), .tst false, .res (errI r e)] (by simp [flat_wz]) (ts1 (tF ho)) (qs4 h1 h2 h3 h4) rfl rfl (by kernel_rfl)
theorem wideUp_run2 {z s q t : Int} {o r : Int} {e : Nat} (ho : o < 0) (h1 : QC Tryz.prog 129 [wz z] (errV (wz s) 0)) (h2 : QC Tryz.prog 12 [wz s, wz s] (wz q)) (h3 : QC Tryz.prog 130 [wz q, wz z] (ordV o))
    (h5 : QC Tryz.prog 9 [.int .i64 1] (wz 1)) (h6 : QC Tryz.prog 11 [wz s, wz 1] (wz t)) (h4 : QC Tryz.prog 113 [wz t] (errI r e)) : PC Tryz.prog 123 [wz z] (errI r e) :=
  PC.run mixed Tryz.func123 [.res (errV (wz s) 0), .res (wz q), .res (ordV o), .tst true, .res (wz 1), .res (wz t), .res (errI r e)] (by simp [flat_wz]) (ts1 (tT ho)) (qs6 h1 h2 h3 h5 h6 h4) rfl rfl (by kernel_rfl)
theorem wnar_form (A : Option Int) : ∃ r e, wnar A = errI r e := by
  unfold wnar
  split
  · exact ⟨_, _, rfl⟩
  · split <;> exact ⟨_, _, rfl⟩
theorem wideUp_pc {z : Int} (h0 : 0 ≤ z) (hz : WF (some z)) : PC Tryz.prog 123 [wz z] (wnar (some (csq z.natAbs : Nat))) := by
  have hH := hz z rfl
  have hs := isq_self z.natAbs
  have hc := csq_le z.natAbs
  have hsq := (isq_spec z.natAbs).1
  have hw : WF (some ((isq z.natAbs : Nat) : Int)) := fun y e => by cases e; omega
  have hwc : WF (some ((csq z.natAbs : Nat) : Int)) := fun y e => by cases e; omega
  have hm := mul_pc hw hw
  have em : wmul (some ((isq z.natAbs : Nat) : Int)) (some ((isq z.natAbs : Nat) : Int)) = some ((isq z.natAbs * isq z.natAbs : Nat) : Int) := by
    show clamp _ = _
    rw [← Int.natCast_mul, clamp_eq (by omega)]
  rw [em] at hm
  have hwq : WF (some ((isq z.natAbs * isq z.natAbs : Nat) : Int)) := fun y e => by cases e; omega
  have hcmp := cmp_pc hwq hz
  have hn := narrow_pc hwc
  obtain ⟨r, e, he⟩ := wnar_form (some (csq z.natAbs : Nat))
  rw [he] at hn ⊢
  by_cases h : isq z.natAbs * isq z.natAbs < z.natAbs
  · have ec : csq z.natAbs = isq z.natAbs + 1 := if_pos h
    rw [ec] at hn
    have ho : ordI ((isq z.natAbs * isq z.natAbs : Nat) : Int) z < 0 := by
      unfold ordI
      rw [if_pos (by omega)]
      omega
    have h1 := of_pc (n := 1) (by omega) (by omega)
    have hw1 : WF (some 1) := fun y e => by cases e; have := small_Hi (x := 1) (n := 1) (by omega) (by omega); omega
    have ha := add_pc hw hw1
    have ea : wadd (some ((isq z.natAbs : Nat) : Int)) (some 1) = some ((isq z.natAbs + 1 : Nat) : Int) := by
      show clamp _ = _
      rw [show ((isq z.natAbs : Nat) : Int) + 1 = ((isq z.natAbs + 1 : Nat) : Int) by omega, clamp_eq (by omega)]
    rw [ea] at ha
    exact wideUp_run2 ho (sqrt_qc h0 hz) (QC.of_pc enters_mul hm) (QC.of_pc enters_cmp hcmp) (QC.of_pc enters_of h1) (QC.of_pc enters_add ha) (QC.of_pc enters_narrow hn)
  · have ec : csq z.natAbs = isq z.natAbs := if_neg h
    rw [ec] at hn
    have ho : ¬ ordI ((isq z.natAbs * isq z.natAbs : Nat) : Int) z < 0 := by
      unfold ordI
      rw [if_neg (by omega)]
      split <;> omega
    exact wideUp_run1 ho (sqrt_qc h0 hz) (QC.of_pc enters_mul hm) (QC.of_pc enters_cmp hcmp) (QC.of_pc enters_narrow hn)
theorem enters_wideUp : ∀ us w, (callFunc 123 us).run Tryz.prog w = .ok (.enter 123 us) w := enters Tryz.func123 rfl (by kernel_rfl)
theorem wideUp_qc {z : Int} (h0 : 0 ≤ z) (hz : WF (some z)) (hc : csq z.natAbs ≤ 9223372036854775807) : QC Tryz.prog 123 [wz z] (errI (csq z.natAbs : Nat) 0) := by
  have h := wideUp_pc h0 hz
  unfold wnar at h
  simp only at h
  rw [fits64_iff.2 ⟨by omega, by omega⟩] at h
  exact QC.of_pc enters_wideUp h
/-- Roots of int64s, 0 below 1. -/
def upI (n : Int) : Int := (csq n.toNat : Nat)
def sqI (n : Int) : Int := (isq n.toNat : Nat)
theorem csq_zero : csq 0 = 0 := by
  have := csq_le 0
  omega
theorem up_run {n r : Int} {e : Nat} (h1 : QC Tryz.prog 9 [.int .i64 n] (wz n)) (h2 : QC Tryz.prog 123 [wz n] (errI r e)) : PC Tryz.prog 115 [.int .i64 n] (.int .i64 r) :=
  PC.run mixed Tryz.func115 [.res (wz n), .res (errI r e)] rfl ts0 (qs2 h1 h2) rfl rfl (by kernel_rfl)
theorem up_pc {n : Int} (h0 : -9223372036854775808 ≤ n) (h1 : n ≤ 9223372036854775807) : PC Tryz.prog 115 [.int .i64 n] (.int .i64 (upI n)) := by
  have hof := QC.of_pc enters_of (of_wz h0 h1)
  have hwf : WF (some n) := (Sm.i64 h0 h1).wf (by omega)
  unfold upI
  by_cases h : n < 0
  · rw [show n.toNat = 0 by omega, csq_zero]
    exact up_run hof (QC.of_pc enters_wideUp (wideUp_neg h hwf))
  · have e : n.toNat = n.natAbs := by omega
    have hc := csq_le n.natAbs
    rw [e]
    exact up_run hof (wideUp_qc (by omega) hwf (by omega))
theorem enters_up : ∀ us w, (callFunc 115 us).run Tryz.prog w = .ok (.enter 115 us) w := enters Tryz.func115 rfl (by kernel_rfl)
theorem up_qc {n : Int} (h0 : -9223372036854775808 ≤ n) (h1 : n ≤ 9223372036854775807) : QC Tryz.prog 115 [.int .i64 n] (.int .i64 (upI n)) := QC.of_pc enters_up (up_pc h0 h1)
theorem isq_zero : isq 0 = 0 := rfl
end Go.Proofs.YtljolfnpncjklaaGreat.W
/-! Package root: quotients. -/
namespace Go.Proofs.YtljolfnpncjklaaGreat.W
open Go Go.Ev Go.Wide

def I64r (n : Int) : Prop := -9223372036854775808 ≤ n ∧ n ≤ 9223372036854775807
theorem div_qc {a b : Int} (ha : WF (some a)) (hb : WF (some b)) (h0 : b ≠ 0) : QC Tryz.prog 112 [wz a, wz b] (errV (wz (a.fdiv b)) 0) := by
  have h := div_pc ha hb
  unfold wdivV at h
  simp only at h
  rw [if_neg h0] at h
  exact QC.of_pc enters_div h
theorem div_zero {a : Int} (ha : WF (some a)) : QC Tryz.prog 112 [wz a, wz 0] (errV (wz 0) 1) := by
  have h := div_pc ha (B := some 0) (fun z e => by cases e; have := Hi_pos; omega)
  unfold wdivV at h
  simp only at h
  rw [if_pos trivial] at h
  exact QC.of_pc enters_div h
theorem fdiv_wf {a b : Int} (ha : WF (some a)) (h0 : b ≠ 0) : WF (some (a.fdiv b)) := fun z e => by
  cases e
  have := (fdiv_signs a b h0).2
  have := ha a rfl
  omega
theorem neg_wf {a : Int} (ha : WF (some a)) : WF (some (-a)) := fun z e => by
  cases e
  have := ha a rfl
  omega
theorem neg_qc {a : Int} (ha : WF (some a)) : QC Tryz.prog 61 [wz a] (wz (-a)) := QC.of_pc enters_neg (neg_pc ha)
theorem product_pc {a b : Int} (ha : I64r a) (hb : I64r b) : PC Tryz.prog 124 [.int .i64 a, .int .i64 b] (wz (a * b)) :=
  PC.run mixed Tryz.func124 [.res (wz a), .res (wz b), .res (wz (a * b))] rfl ts0 (qs3 (QC.of_pc enters_of (of_wz ha.1 ha.2)) (QC.of_pc enters_of (of_wz hb.1 hb.2)) (QC.of_pc enters_mul (mul_wz (Sm.i64 ha.1 ha.2) (Sm.i64 hb.1 hb.2)))) (flat_wz _) rfl (by kernel_rfl)
theorem enters_product : ∀ us w, (callFunc 124 us).run Tryz.prog w = .ok (.enter 124 us) w := enters Tryz.func124 rfl (by kernel_rfl)
theorem product_qc {a b : Int} (ha : I64r a) (hb : I64r b) : QC Tryz.prog 124 [.int .i64 a, .int .i64 b] (wz (a * b)) := QC.of_pc enters_product (product_pc ha hb)
theorem prod_wf {a b : Int} (ha : I64r a) (hb : I64r b) : WF (some (a * b)) := ((Sm.i64 ha.1 ha.2).mul (Sm.i64 hb.1 hb.2)).wf (by omega)
/-- Down and up, as int64s. -/
def mdV (z c : Int) : Value := if c = 0 then errI 0 1 else wnar (some (z.fdiv c))
def cdiv (z c : Int) : Int := -((-z).fdiv c)
def muV (z c : Int) : Value := if c = 0 then errI 0 1 else wnar (some (cdiv z c))
theorem qdown_zero {a : Int} (h : QC Tryz.prog 112 [wz a, wz 0] (errV (wz 0) 1)) : PC Tryz.prog 97 [wz a, wz 0] (errI 0 1) :=
  PC.run mixed Tryz.func97 [.res (errV (wz 0) 1)] (by simp [flat_wz]) ts0 (qs1 h) rfl rfl (by kernel_rfl)
theorem qdown_run {a b q r : Int} {e : Nat} (h : QC Tryz.prog 112 [wz a, wz b] (errV (wz q) 0)) (h2 : QC Tryz.prog 113 [wz q] (errI r e)) : PC Tryz.prog 97 [wz a, wz b] (errI r e) :=
  PC.run mixed Tryz.func97 [.res (errV (wz q) 0), .res (errI r e)] (by simp [flat_wz]) ts0 (qs2 h h2) rfl rfl (by kernel_rfl)
theorem qdown_pc {a b : Int} (ha : WF (some a)) (hb : WF (some b)) : PC Tryz.prog 97 [wz a, wz b] (mdV a b) := by
  unfold mdV
  by_cases h0 : b = 0
  · subst h0
    rw [if_pos rfl]
    exact qdown_zero (div_zero ha)
  · rw [if_neg h0]
    have hn := narrow_pc (fdiv_wf ha h0)
    obtain ⟨r, e, he⟩ := wnar_form (some (a.fdiv b))
    rw [he] at hn ⊢
    exact qdown_run (div_qc ha hb h0) (QC.of_pc enters_narrow hn)
theorem enters_qdown : ∀ us w, (callFunc 97 us).run Tryz.prog w = .ok (.enter 97 us) w := enters Tryz.func97 rfl (by kernel_rfl)
theorem qup_zero {a m : Int} (h0 : QC Tryz.prog 61 [wz a] (wz m)) (h : QC Tryz.prog 112 [wz m, wz 0] (errV (wz 0) 1)) : PC Tryz.prog 98 [wz a, wz 0] (errI 0 1) :=
  PC.run mixed Tryz.func98 [.res (wz m), .res (errV (wz 0) 1)] (by simp [flat_wz]) ts0 (qs2 h0 h) rfl rfl (by kernel_rfl)
theorem qup_run {a b m q n r : Int} {e : Nat} (h0 : QC Tryz.prog 61 [wz a] (wz m)) (h : QC Tryz.prog 112 [wz m, wz b] (errV (wz q) 0)) (h1 : QC Tryz.prog 61 [wz q] (wz n)) (h2 : QC Tryz.prog 113 [wz n] (errI r e)) : PC Tryz.prog 98 [wz a, wz b] (errI r e) :=
  PC.run mixed Tryz.func98 [.res (wz m), .res (errV (wz q) 0), .res (wz n), .res (errI r e)] (by simp [flat_wz]) ts0 (qs4 h0 h h1 h2) rfl rfl (by kernel_rfl)
theorem qup_pc {a b : Int} (ha : WF (some a)) (hb : WF (some b)) : PC Tryz.prog 98 [wz a, wz b] (muV a b) := by
  unfold muV cdiv
  by_cases h0 : b = 0
  · subst h0
    rw [if_pos rfl]
    exact qup_zero (neg_qc ha) (div_zero (neg_wf ha))
  · rw [if_neg h0]
    have hw := fdiv_wf (neg_wf ha) h0
    have hn := narrow_pc (neg_wf hw)
    obtain ⟨r, e, he⟩ := wnar_form (some (-((-a).fdiv b)))
    rw [he] at hn ⊢
    exact qup_run (neg_qc ha) (div_qc (neg_wf ha) hb h0) (neg_qc hw) (QC.of_pc enters_narrow hn)
theorem enters_qup : ∀ us w, (callFunc 98 us).run Tryz.prog w = .ok (.enter 98 us) w := enters Tryz.func98 rfl (by kernel_rfl)
theorem mdV_form (z c : Int) : ∃ r e, mdV z c = errI r e := by
  unfold mdV
  split
  · exact ⟨_, _, rfl⟩
  · exact wnar_form _
theorem muV_form (z c : Int) : ∃ r e, muV z c = errI r e := by
  unfold muV
  split
  · exact ⟨_, _, rfl⟩
  · exact wnar_form _
theorem md_run {a b c r : Int} {e : Nat} (h1 : QC Tryz.prog 124 [.int .i64 a, .int .i64 b] (wz (a * b))) (h2 : QC Tryz.prog 9 [.int .i64 c] (wz c)) (h3 : QC Tryz.prog 97 [wz (a * b), wz c] (errI r e)) :
    PC Tryz.prog 118 [.int .i64 a, .int .i64 b, .int .i64 c] (errI r e) :=
  PC.run mixed Tryz.func118 [.res (wz (a * b)), .res (wz c), .res (errI r e)] rfl ts0 (qs3 h1 h2 h3) rfl rfl (by kernel_rfl)
theorem mulDiv_pc {a b c : Int} (ha : I64r a) (hb : I64r b) (hc : I64r c) : PC Tryz.prog 118 [.int .i64 a, .int .i64 b, .int .i64 c] (mdV (a * b) c) := by
  have hq := qdown_pc (prod_wf ha hb) ((Sm.i64 hc.1 hc.2).wf (by omega))
  obtain ⟨r, e, he⟩ := mdV_form (a * b) c
  rw [he] at hq ⊢
  exact md_run (product_qc ha hb) (QC.of_pc enters_of (of_wz hc.1 hc.2)) (QC.of_pc enters_qdown hq)
theorem enters_mulDiv : ∀ us w, (callFunc 118 us).run Tryz.prog w = .ok (.enter 118 us) w := enters Tryz.func118 rfl (by kernel_rfl)
theorem mulDiv_qc {a b c : Int} (ha : I64r a) (hb : I64r b) (hc : I64r c) (v : Value) (h : mdV (a * b) c = v) : QC Tryz.prog 118 [.int .i64 a, .int .i64 b, .int .i64 c] v := h ▸ QC.of_pc enters_mulDiv (mulDiv_pc ha hb hc)
theorem mu_run {a b c r : Int} {e : Nat} (h1 : QC Tryz.prog 124 [.int .i64 a, .int .i64 b] (wz (a * b))) (h2 : QC Tryz.prog 9 [.int .i64 c] (wz c)) (h3 : QC Tryz.prog 98 [wz (a * b), wz c] (errI r e)) :
    PC Tryz.prog 117 [.int .i64 a, .int .i64 b, .int .i64 c] (errI r e) :=
  PC.run mixed Tryz.func117 [.res (wz (a * b)), .res (wz c), .res (errI r e)] rfl ts0 (qs3 h1 h2 h3) rfl rfl (by kernel_rfl)
theorem mulDivUp_pc {a b c : Int} (ha : I64r a) (hb : I64r b) (hc : I64r c) : PC Tryz.prog 117 [.int .i64 a, .int .i64 b, .int .i64 c] (muV (a * b) c) := by
  have hq := qup_pc (prod_wf ha hb) ((Sm.i64 hc.1 hc.2).wf (by omega))
  obtain ⟨r, e, he⟩ := muV_form (a * b) c
  rw [he] at hq ⊢
  exact mu_run (product_qc ha hb) (QC.of_pc enters_of (of_wz hc.1 hc.2)) (QC.of_pc enters_qup hq)
theorem enters_mulDivUp : ∀ us w, (callFunc 117 us).run Tryz.prog w = .ok (.enter 117 us) w := enters Tryz.func117 rfl (by kernel_rfl)
theorem mulDivUp_qc {a b c : Int} (ha : I64r a) (hb : I64r b) (hc : I64r c) (v : Value) (h : muV (a * b) c = v) : QC Tryz.prog 117 [.int .i64 a, .int .i64 b, .int .i64 c] v := h ▸ QC.of_pc enters_mulDivUp (mulDivUp_pc ha hb hc)

/-! ### Floor, Ceil, Near, for a divisor that is positive -/
theorem over_qc (a : Int) : QC Tryz.prog 62 [wz a] (.bool false) := QC.of_pc enters_over (over_pc (some a))
theorem signI_le {q : Int} (h : 0 < q) : ¬ signI (some q) ≤ 0 := by
  simp only [signI]
  split
  · omega
  · split <;> omega
theorem check_pc {a b : Int} (hb : WF (some b)) (h0 : 0 < b) : PC Tryz.prog 96 [wz a, wz b] (.int .i64 0) :=
  PC.run mixed Tryz.func96 [.res (.bool false), .res (.bool false), .res (.int .i64 (signI (some b))), .tst false] (by simp [flat_wz]) (ts1 (tF (signI_le h0))) (qs3 (over_qc a) (over_qc b) (QC.of_pc enters_sign (sign_pc hb))) rfl rfl (by kernel_rfl)
theorem enters_check : ∀ us w, (callFunc 96 us).run Tryz.prog w = .ok (.enter 96 us) w := enters Tryz.func96 rfl (by kernel_rfl)
theorem floor_run {a b r : Int} {e : Nat} (h1 : QC Tryz.prog 96 [wz a, wz b] (.int .i64 0)) (h2 : QC Tryz.prog 97 [wz a, wz b] (errI r e)) : PC Tryz.prog 67 [wz a, wz b] (errI r e) :=
  PC.run mixed Tryz.func67 [.res (.int .i64 0), .res (errI r e)] (by simp [flat_wz]) ts0 (qs2 h1 h2) rfl rfl (by kernel_rfl)
theorem enters_floor : ∀ us w, (callFunc 67 us).run Tryz.prog w = .ok (.enter 67 us) w := enters Tryz.func67 rfl (by kernel_rfl)
theorem ceil_run {a b r : Int} {e : Nat} (h1 : QC Tryz.prog 96 [wz a, wz b] (.int .i64 0)) (h2 : QC Tryz.prog 98 [wz a, wz b] (errI r e)) : PC Tryz.prog 66 [wz a, wz b] (errI r e) :=
  PC.run mixed Tryz.func66 [.res (.int .i64 0), .res (errI r e)] (by simp [flat_wz]) ts0 (qs2 h1 h2) rfl rfl (by kernel_rfl)
theorem enters_ceil : ∀ us w, (callFunc 66 us).run Tryz.prog w = .ok (.enter 66 us) w := enters Tryz.func66 rfl (by kernel_rfl)
theorem near_run {a b x y z r : Int} {e : Nat} (h1 : QC Tryz.prog 96 [wz a, wz b] (.int .i64 0)) (h3 : QC Tryz.prog 15 [wz a, .int .i64 1] (wz x)) (h4 : QC Tryz.prog 11 [wz x, wz b] (wz y)) (h5 : QC Tryz.prog 15 [wz b, .int .i64 1] (wz z)) (h2 : QC Tryz.prog 97 [wz y, wz z] (errI r e)) : PC Tryz.prog 65 [wz a, wz b] (errI r e) :=
  PC.run mixed Tryz.func65 [.res (.int .i64 0), .res (wz x), .res (wz y), .res (wz z), .res (errI r e)] (by simp [flat_wz]) ts0 (qs5 h1 h3 h4 h5 h2) rfl rfl (by kernel_rfl)
theorem enters_near : ∀ us w, (callFunc 65 us).run Tryz.prog w = .ok (.enter 65 us) w := enters Tryz.func65 rfl (by kernel_rfl)

/-! ### Floors and ceilings of integers -/
theorem fdiv_bounds {z c : Int} (hc : 0 < c) : c * z.fdiv c ≤ z ∧ z < c * z.fdiv c + c := by
  rw [Int.fdiv_eq_ediv_of_nonneg _ (by omega)]
  have h1 := Int.mul_ediv_add_emod z c
  have h2 := Int.emod_nonneg z (show c ≠ 0 by omega)
  have h3 := Int.emod_lt_of_pos z hc
  omega
theorem cdiv_bounds {z c : Int} (hc : 0 < c) : z ≤ c * cdiv z c ∧ c * cdiv z c < z + c := by
  unfold cdiv
  obtain ⟨h1, h2⟩ := fdiv_bounds (z := -z) hc
  rw [Int.mul_neg]
  omega
theorem mul_lt_cancel {c p q : Int} (hc : 0 < c) (h : c * p < c * q) : p < q := Int.lt_of_mul_lt_mul_left h (by omega)
theorem fdiv_cdiv {z c : Int} (hc : 0 < c) : z.fdiv c ≤ cdiv z c ∧ cdiv z c ≤ z.fdiv c + 1 ∧ (z.fdiv c = cdiv z c ↔ z.fdiv c * c = z) := by
  obtain ⟨h1, h2⟩ := fdiv_bounds (z := z) hc
  obtain ⟨h3, h4⟩ := cdiv_bounds (z := z) hc
  generalize z.fdiv c = p at *
  generalize cdiv z c = q at *
  have e1 : c * (q + 1) = c * q + c := by rw [Int.mul_add, Int.mul_one]
  have e2 : c * (p + 2) = c * p + c + c := by rw [Int.mul_add]; omega
  have e3 : c * (p + 1) = c * p + c := by rw [Int.mul_add, Int.mul_one]
  have l1 : p < q + 1 := mul_lt_cancel hc (by omega)
  have l2 : q < p + 2 := mul_lt_cancel hc (by omega)
  refine ⟨by omega, by omega, fun h => ?_, fun h => ?_⟩
  · subst h
    rw [Int.mul_comm]
    omega
  · rw [Int.mul_comm] at h
    have : q < p + 1 := mul_lt_cancel hc (by omega)
    omega
/-- Whatever the divisor's sign. -/
theorem fdiv_cdiv_any {z c : Int} (hc : c ≠ 0) : z.fdiv c ≤ cdiv z c ∧ cdiv z c ≤ z.fdiv c + 1 ∧ (z.fdiv c = cdiv z c ↔ z.fdiv c * c = z) := by
  rcases Int.lt_or_gt_of_ne hc with h | h
  · have e1 : z.fdiv c = (-z).fdiv (-c) := (Int.neg_fdiv_neg z c).symm
    have e2 : cdiv z c = cdiv (-z) (-c) := by
      unfold cdiv
      rw [Int.neg_fdiv_neg]
    have key := fdiv_cdiv (z := -z) (c := -c) (by omega)
    rw [← e1, ← e2] at key
    refine ⟨key.1, key.2.1, key.2.2.trans ?_⟩
    rw [Int.mul_neg]
    omega
  · exact fdiv_cdiv h
theorem fdiv_mono {y z c : Int} (hc : 0 < c) (h : y ≤ z) : y.fdiv c ≤ z.fdiv c := by
  obtain ⟨h1, h2⟩ := fdiv_bounds (z := y) hc
  obtain ⟨h3, h4⟩ := fdiv_bounds (z := z) hc
  have e : c * (z.fdiv c + 1) = c * z.fdiv c + c := by rw [Int.mul_add, Int.mul_one]
  have : y.fdiv c < z.fdiv c + 1 := mul_lt_cancel hc (by omega)
  omega
theorem csq_mono {m n : Nat} (h : m ≤ n) : csq m ≤ csq n := by
  have h1 := isq_mono h
  unfold csq
  have s1 := isq_spec m
  have s2 := isq_spec n
  split <;> split
  · omega
  · rename_i h3 h4
    rcases Nat.lt_or_ge (isq m) (isq n) with h5 | h5
    · omega
    · have e : isq m = isq n := by omega
      rw [e] at h3
      omega
  · omega
  · omega
theorem csq_isq (n : Nat) : isq n ≤ csq n ∧ csq n ≤ isq n + 1 ∧ (csq n = isq n ↔ isq n * isq n = n) := by
  unfold csq
  have := isq_spec n
  split
  · exact ⟨by omega, by omega, by omega⟩
  · exact ⟨by omega, by omega, by omega⟩

/-! ### awake, masks -/
theorem upI_of {n : Int} {m : Nat} (h : csq n.toNat = m) : upI n = m := by unfold upI; rw [h]
theorem sqI_of {n : Int} {m : Nat} (h : isq n.toNat = m) : sqI n = m := by unfold sqI; rw [h]
theorem up_is {n r : Int} (h : upI n = r) (h0 : -9223372036854775808 ≤ n) (h1 : n ≤ 9223372036854775807) : QC Tryz.prog 115 [.int .i64 n] (.int .i64 r) := h ▸ up_qc h0 h1
/-- A number's lowest bits. -/
def andK (n m : Int) : Int := IntKind.i64.wrap (BitVec.ofInt 64 n &&& BitVec.ofInt 64 m).toNat
theorem andK_eq (n : Int) (m k : Nat) (hm : m + 1 = 2 ^ k) (hk : k ≤ 62) : andK n m = n % ((2 ^ k : Nat) : Int) := by
  unfold andK
  have hmm : m = 2 ^ k - 1 := by omega
  have hp : 2 ^ k ≤ 2 ^ 62 := Nat.pow_le_pow_right (by omega) hk
  have hp0 : 0 < 2 ^ k := Nat.two_pow_pos k
  have e62 : (2 : Nat) ^ 62 = 4611686018427387904 := by decide
  have e2 : (BitVec.ofInt 64 (m : Int)).toNat = m := by rw [BitVec.toNat_ofInt]; omega
  have e1 : (BitVec.ofInt 64 n).toNat = (n % 18446744073709551616).toNat := by rw [BitVec.toNat_ofInt]; rfl
  rw [BitVec.toNat_and, e1, e2, hmm, Nat.and_two_pow_sub_one_eq_mod]
  have e64 : (18446744073709551616 : Int) = ((2 ^ k : Nat) : Int) * ((2 ^ (64 - k) : Nat) : Int) := by
    rw [← Int.natCast_mul, ← Nat.pow_add, show k + (64 - k) = 64 by omega]
    rfl
  have hnn : 0 ≤ n % 18446744073709551616 := by omega
  have e3 : (((n % 18446744073709551616).toNat % 2 ^ k : Nat) : Int) = n % ((2 ^ k : Nat) : Int) := by
    rw [Int.natCast_emod, Int.toNat_of_nonneg hnn, e64, Int.emod_emod_of_dvd _ ⟨_, rfl⟩]
  rw [e3]
  have h1 := Int.emod_nonneg n (show ((2 ^ k : Nat) : Int) ≠ 0 by omega)
  have h2 := Int.emod_lt_of_pos n (show (0 : Int) < ((2 ^ k : Nat) : Int) by omega)
  exact i64_wrap (by omega) (by omega)
end Go.Proofs.YtljolfnpncjklaaGreat.W
/-! Package root: what the laws share. -/
namespace Go.Proofs.YtljolfnpncjklaaGreat.W
open Go Go.Ev Go.Wide

theorem mdV_fits {z c : Int} (h0 : c ≠ 0) (h : fits64 (z.fdiv c) = true) : mdV z c = errI (z.fdiv c) 0 := by
  unfold mdV wnar
  rw [if_neg h0]
  simp only
  rw [h]
theorem mdV_over {z c : Int} (h0 : c ≠ 0) (h : fits64 (z.fdiv c) = false) : mdV z c = errI 0 2 := by
  unfold mdV wnar
  rw [if_neg h0]
  simp only
  rw [h]
theorem mdV_arg {z c : Int} (h0 : c = 0) : mdV z c = errI 0 1 := if_pos h0
theorem muV_fits {z c : Int} (h0 : c ≠ 0) (h : fits64 (cdiv z c) = true) : muV z c = errI (cdiv z c) 0 := by
  unfold muV wnar
  rw [if_neg h0]
  simp only
  rw [h]
theorem muV_over {z c : Int} (h0 : c ≠ 0) (h : fits64 (cdiv z c) = false) : muV z c = errI 0 2 := by
  unfold muV wnar
  rw [if_neg h0]
  simp only
  rw [h]
theorem muV_arg {z c : Int} (h0 : c = 0) : muV z c = errI 0 1 := if_pos h0
theorem sqI_nn (m : Int) : 0 ≤ sqI m := by unfold sqI; omega
/-- Roots of a number that is not negative. -/
theorem roots {m : Int} (h0 : 0 ≤ m) (h1 : m ≤ 4611686018427387904) : sqI m * sqI m ≤ m ∧ 0 ≤ upI m - sqI m ∧ upI m - sqI m ≤ 1 ∧ (upI m = sqI m ↔ sqI m * sqI m = m) ∧ m ≤ upI m * upI m ∧ sqI m ≤ 2147483648 ∧ upI m ≤ 2147483649 := by
  unfold upI sqI
  obtain ⟨k, rfl⟩ : ∃ k : Nat, m = k := ⟨m.toNat, by omega⟩
  rw [Int.toNat_natCast, ← Int.natCast_mul, ← Int.natCast_mul]
  obtain ⟨s1, s2⟩ := isq_spec k
  obtain ⟨c1, c2, c3⟩ := csq_isq k
  have c4 := csq_sq k
  have hs : isq k ≤ 2147483648 := by
    rcases Nat.lt_or_ge 2147483648 (isq k) with h | h
    · have := sq_lt_of_lt h
      omega
    · exact h
  refine ⟨by omega, by omega, by omega, ?_, by omega, by omega, by omega⟩
  constructor
  · intro h
    have := c3.1 (by omega)
    omega
  · intro h
    have := c3.2 (by omega)
    omega
theorem small_sq {s : Int} (h0 : 0 ≤ s) (h1 : s ≤ 2147483649) : -9223372036854775808 ≤ s * s ∧ s * s ≤ 9223372036854775807 := by
  have a := Int.mul_nonneg h0 h0
  have b := Int.mul_le_mul h1 h1 h0 (by omega)
  omega
theorem wrap_id {z : Int} (h : -9223372036854775808 ≤ z ∧ z ≤ 9223372036854775807) : IntKind.i64.wrap z = z := i64_wrap h.1 h.2
end Go.Proofs.YtljolfnpncjklaaGreat.W
