/-
  The program's Div.
-/
import Derived.Test.YtjmdppnhpfdhdaaDivG
namespace Go.Proofs.Ytjmdppnhpfdhdaa.W
open Go Go.Ev Go.Wide

theorem enters_div : ∀ us w, (callFunc 77 us).run Try.prog w = .ok (.enter 77 us) w := enters Try.func77 rfl (by kernel_rfl)
theorem divO1 {K : Nat} {o s : Bool} : PC Try.prog 77 [wR true 0 false, wR o K s] (errV (wR false 0 false) 2) := by
  cases o <;> exact PC.run mixed Try.func77 [] (by simp [flat_wR]) ts0 qs0 (by kernel_rfl) rfl (by kernel_rfl)
theorem divO2 {M : Nat} {s : Bool} : PC Try.prog 77 [wR false M s, wR true 0 false] (errV (wR false 0 false) 2) :=
  PC.run mixed Try.func77 [] (by simp [flat_wR]) ts0 qs0 (by kernel_rfl) rfl (by kernel_rfl)
theorem divZ {M N : Nat} {s t : Bool} (h : QC Try.prog 56 [mag N] (.bool true)) : PC Try.prog 77 [wR false M s, wR false N t] (errV (wR false 0 false) 1) :=
  PC.run mixed Try.func77 [.res (.bool true)] (by simp [flat_wR]) ts0 (qs1 h) (by kernel_rfl) rfl (by kernel_rfl)
theorem divN {M N Q L : Nat} {s t x o q : Bool} (h : QC Try.prog 56 [mag N] (.bool false)) (h1 : QC Try.prog 92 [mag M, mag N] (.tuple #[mag Q, .bool x]))
    (h2 : QC Try.prog 93 [mag Q, .bool x, .bool (!(s == t))] (wR o L q)) : PC Try.prog 77 [wR false M s, wR false N t] (errV (wR o L q) 0) := by
  cases o
  · cases s <;> cases t <;> exact PC.run mixed Try.func77 [.res (.bool false), .res (.tuple #[mag Q, .bool x]), .res (wR false L q)] (by simp [flat_wR]) ts0 (qs3 h h1 h2) (by kernel_rfl) rfl (by kernel_rfl)
  · cases s <;> cases t <;> exact PC.run mixed Try.func77 [.res (.bool false), .res (.tuple #[mag Q, .bool x]), .res (wR true L q)] (by simp [flat_wR]) ts0 (qs3 h h1 h2) (by kernel_rfl) rfl (by kernel_rfl)
/-- The quotient, rounded down. -/
def wdivV : Option Int → Option Int → Value
  | none, _ => errV (wv (some 0)) 2
  | some _, none => errV (wv (some 0)) 2
  | some a, some b => if b = 0 then errV (wv (some 0)) 1 else errV (wv (some (a.fdiv b))) 0
theorem fdiv_signs (a b : Int) (hb : b ≠ 0) : sg (downK (a.natAbs / b.natAbs) (decide (a.natAbs % b.natAbs = 0)) (!(decide (a < 0) == decide (b < 0)))) (!(decide (a < 0) == decide (b < 0))) = a.fdiv b ∧ (a.fdiv b).natAbs ≤ a.natAbs := by
  have hle : a.natAbs / b.natAbs ≤ a.natAbs := Nat.div_le_self _ _
  have hdm := Nat.div_add_mod a.natAbs b.natAbs
  have hlt := Nat.mod_lt a.natAbs (show 0 < b.natAbs by omega)
  -- the floor, by its remainder
  have key : ∀ (q : Int) (r : Int), a = b * q + r → (0 < b → 0 ≤ r ∧ r < b) → (b < 0 → b < r ∧ r ≤ 0) → a.fdiv b = q := by
    intro q r h1 h2 h3
    by_cases hp : 0 < b
    · obtain ⟨r0, r1⟩ := h2 hp
      rw [Int.fdiv_eq_ediv_of_nonneg _ (by omega), h1, Int.add_comm, Int.add_mul_ediv_left _ _ hb, Int.ediv_eq_zero_of_lt r0 r1]
      omega
    · obtain ⟨r0, r1⟩ := h3 (by omega)
      have e : a.fdiv b = (-a).fdiv (-b) := (Int.neg_fdiv_neg a b).symm
      rw [e, Int.fdiv_eq_ediv_of_nonneg _ (by omega), h1, show -(b * q + r) = -r + -b * q by rw [Int.neg_mul]; omega, Int.add_mul_ediv_left _ _ (by omega), Int.ediv_eq_zero_of_lt (by omega) (by omega)]
      omega
  generalize hQ : a.natAbs / b.natAbs = Q at *
  generalize hR : a.natAbs % b.natAbs = R at *
  have hmul : ((b.natAbs * Q : Nat) : Int) = (b.natAbs : Int) * (Q : Int) := Int.natCast_mul _ _
  have hbig : R ≠ 0 → Q + 1 ≤ a.natAbs := fun h => by
    have h2 : 2 ≤ b.natAbs := by omega
    have := Nat.mul_le_mul_right Q h2
    omega
  by_cases ha : a < 0 <;> by_cases hb2 : b < 0
  · rw [decide_eq_true ha, decide_eq_true hb2]
    have e : a.fdiv b = Q := key Q (-R) (by rw [show b = -(b.natAbs : Int) by omega, Int.neg_mul]; omega) (by omega) (by omega)
    rw [e]
    exact ⟨by cases decide (R = 0) <;> rfl, by omega⟩
  · rw [decide_eq_true ha, decide_eq_false hb2]
    by_cases hr : R = 0
    · have e : a.fdiv b = -Q := key (-Q) 0 (by rw [Int.mul_neg, show b = (b.natAbs : Int) by omega]; omega) (by omega) (by omega)
      rw [e, decide_eq_true hr]
      exact ⟨rfl, by omega⟩
    · have e : a.fdiv b = -((Q + 1 : Nat) : Int) := key (-((Q + 1 : Nat) : Int)) (b - R) (by rw [Int.mul_neg, Int.natCast_add, Int.mul_add, show b = (b.natAbs : Int) by omega]; omega) (by omega) (by omega)
      rw [e, decide_eq_false hr]
      exact ⟨rfl, by have := hbig hr; omega⟩
  · rw [decide_eq_false ha, decide_eq_true hb2]
    by_cases hr : R = 0
    · have e : a.fdiv b = -Q := key (-Q) 0 (by rw [Int.mul_neg, show b = -(b.natAbs : Int) by omega, Int.neg_mul]; omega) (by omega) (by omega)
      rw [e, decide_eq_true hr]
      exact ⟨rfl, by omega⟩
    · have e : a.fdiv b = -((Q + 1 : Nat) : Int) := key (-((Q + 1 : Nat) : Int)) (b + R) (by rw [Int.mul_neg, Int.natCast_add, Int.mul_add, show b = -(b.natAbs : Int) by omega, Int.neg_mul]; omega) (by omega) (by omega)
      rw [e, decide_eq_false hr]
      exact ⟨rfl, by have := hbig hr; omega⟩
  · rw [decide_eq_false ha, decide_eq_false hb2]
    have e : a.fdiv b = Q := key Q R (by rw [show b = (b.natAbs : Int) by omega]; omega) (by omega) (by omega)
    rw [e]
    exact ⟨by cases decide (R = 0) <;> rfl, by omega⟩
theorem div_pc {A B : Option Int} (hA : WF A) (hB : WF B) : PC Try.prog 77 [wv A, wv B] (wdivV A B) := by
  cases A with
  | none =>
    obtain ⟨o, K, s, e⟩ := wv_form B
    unfold wdivV
    rw [e, wv_zero, wv_none]
    exact divO1
  | some a =>
    cases B with
    | none =>
      unfold wdivV
      rw [wv_zero, wv_none, wv_some (z := a)]
      exact divO2
    | some b =>
      have ha := hA a rfl
      have hb := hB b rfl
      have hT := Hi_T16
      have hz := isZero_pc (N := b.natAbs) (by omega)
      unfold wdivV
      simp only
      rw [wv_some (z := a), wv_some (z := b)]
      by_cases h0 : b = 0
      · rw [if_pos h0]
        rw [decide_eq_true (by omega)] at hz
        rw [wv_zero]
        exact divZ (QC.of_pc enters_isZero hz)
      · rw [if_neg h0]
        rw [decide_eq_false (by omega)] at hz
        obtain ⟨f1, f2⟩ := fdiv_signs a b h0
        have hd := dividedBy_pc (M := a.natAbs) (N := b.natAbs) (by omega) (by omega) (by omega)
        have hq : a.natAbs / b.natAbs ≤ a.natAbs := Nat.div_le_self _ _
        have hr := rounded_pc (M := a.natAbs / b.natAbs) (by have := Hi_pos; omega) (decide (a.natAbs % b.natAbs = 0)) (!(decide (a < 0) == decide (b < 0)))
        unfold sgn at hr
        rw [f1, clamp_eq (by omega)] at hr
        obtain ⟨o, L, q, e⟩ := wv_form (some (a.fdiv b))
        rw [e] at hr ⊢
        exact divN (QC.of_pc enters_isZero hz) (QC.of_pc enters_divided hd) (QC.of_pc enters_rounded hr)
end Go.Proofs.Ytjmdppnhpfdhdaa.W
