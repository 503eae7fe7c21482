/-
  The program's Div.
-/
import Derived.Test.YtpbkkechkcalgaaDivG
namespace Go.Proofs.Ytpbkkechkcalgaa.W
open Go Go.Ev Go.Wide

/-- The quotient, rounded down. -/
def wdivV : Option Int → Option Int → Value
  | none, _ => errV (wv (some 0)) 2
  | some _, none => errV (wv (some 0)) 2
  | some a, some b => if b = 0 then errV (wv (some 0)) 1 else errV (wv (some (a.fdiv b))) 0
theorem fdiv_signs (a b : Int) (hb : b ≠ 0) : sg (downK (a.natAbs / b.natAbs) (decide (a.natAbs % b.natAbs = 0)) (!(decide (a < 0) == decide (b < 0)))) (!(decide (a < 0) == decide (b < 0))) = a.fdiv b ∧ (a.fdiv b).natAbs ≤ a.natAbs := by
  have hle : a.natAbs / b.natAbs ≤ a.natAbs := Nat.div_le_self _ _
  have hdm := Nat.div_add_mod a.natAbs b.natAbs
  have hlt := Nat.mod_lt a.natAbs (show 0 < b.natAbs by omega)
  -- the floor, by its remainder
  have key : ∀ (q : Int) (r : Int), a = b * q + r → (0 < b → 0 ≤ r ∧ r < b) → (b < 0 → b < r ∧ r ≤ 0) → a.fdiv b = q := by
    intro q r h1 h2 h3
    by_cases hp : 0 < b
    · obtain ⟨r0, r1⟩ := h2 hp
      rw [Int.fdiv_eq_ediv_of_nonneg _ (by omega), h1, Int.add_comm, Int.add_mul_ediv_left _ _ hb, Int.ediv_eq_zero_of_lt r0 r1]
      omega
    · obtain ⟨r0, r1⟩ := h3 (by omega)
      have e : a.fdiv b = (-a).fdiv (-b) := (Int.neg_fdiv_neg a b).symm
      rw [e, Int.fdiv_eq_ediv_of_nonneg _ (by omega), h1, show -(b * q + r) = -r + -b * q by rw [Int.neg_mul]; omega, Int.add_mul_ediv_left _ _ (by omega), Int.ediv_eq_zero_of_lt (by omega) (by omega)]
      omega
  generalize hQ : a.natAbs / b.natAbs = Q at *
  generalize hR : a.natAbs % b.natAbs = R at *
  have hmul : ((b.natAbs * Q : Nat) : Int) = (b.natAbs : Int) * (Q : Int) := Int.natCast_mul _ _
  have hbig : R ≠ 0 → Q + 1 ≤ a.natAbs := fun h => by
    have h2 : 2 ≤ b.natAbs := by omega
    have := Nat.mul_le_mul_right Q h2
    omega
  by_cases ha : a < 0 <;> by_cases hb2 : b < 0
  · rw [decide_eq_true ha, decide_eq_true hb2]
    have e : a.fdiv b = Q := key Q (-R) (by rw [show b = -(b.natAbs : Int) by omega, Int.neg_mul]; omega) (by omega) (by omega)
    rw [e]
    exact ⟨by cases decide (R = 0) <;> rfl, by omega⟩
  · rw [decide_eq_true ha, decide_eq_false hb2]
    by_cases hr : R = 0
    · have e : a.fdiv b = -Q := key (-Q) 0 (by rw [Int.mul_neg, show b = (b.natAbs : Int) by omega]; omega) (by omega) (by omega)
      rw [e, decide_eq_true hr]
      exact ⟨rfl, by omega⟩
    · have e : a.fdiv b = -((Q + 1 : Nat) : Int) := key (-((Q + 1 : Nat) : Int)) (b - R) (by rw [Int.mul_neg, Int.natCast_add, Int.mul_add, show b = (b.natAbs : Int) by omega]; omega) (by omega) (by omega)
      rw [e, decide_eq_false hr]
      exact ⟨rfl, by have := hbig hr; omega⟩
  · rw [decide_eq_false ha, decide_eq_true hb2]
    by_cases hr : R = 0
    · have e : a.fdiv b = -Q := key (-Q) 0 (by rw [Int.mul_neg, show b = -(b.natAbs : Int) by omega, Int.neg_mul]; omega) (by omega) (by omega)
      rw [e, decide_eq_true hr]
      exact ⟨rfl, by omega⟩
    · have e : a.fdiv b = -((Q + 1 : Nat) : Int) := key (-((Q + 1 : Nat) : Int)) (b + R) (by rw [Int.mul_neg, Int.natCast_add, Int.mul_add, show b = -(b.natAbs : Int) by omega, Int.neg_mul]; omega) (by omega) (by omega)
      rw [e, decide_eq_false hr]
      exact ⟨rfl, by have := hbig hr; omega⟩
  · rw [decide_eq_false ha, decide_eq_false hb2]
    have e : a.fdiv b = Q := key Q R (by rw [show b = (b.natAbs : Int) by omega]; omega) (by omega) (by omega)
    rw [e]
    exact ⟨by cases decide (R = 0) <;> rfl, by omega⟩
end Go.Proofs.Ytpbkkechkcalgaa.W
