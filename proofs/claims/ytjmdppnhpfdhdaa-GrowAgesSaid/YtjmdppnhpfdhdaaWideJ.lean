/-
  The program's Shift.
-/
import Derived.Test.YtjmdppnhpfdhdaaWideI
namespace Go.Proofs.Ytjmdppnhpfdhdaa.W
open Go Go.Ev Go.Wide

theorem bitLen_shift {M : Nat} (h : M ≠ 0) (k : Nat) : bitLen (M * 2 ^ k) = bitLen M + k := by
  have hs := bitLen_spec M
  have h1 : bitLen (M * 2 ^ k) ≤ bitLen M + k := bitLen_lt_iff.2 (by rw [Nat.pow_add]; exact Nat.mul_lt_mul_of_pos_right hs.1 (Nat.two_pow_pos _))
  have h0 : bitLen M ≠ 0 := fun e => by
    have := hs.1
    rw [e] at this
    simp at this
    exact h this
  by_cases h2 : bitLen (M * 2 ^ k) ≤ bitLen M - 1 + k
  · have := bitLen_lt_iff.1 h2
    rw [Nat.pow_add] at this
    have := Nat.lt_of_mul_lt_mul_right this
    have := hs.2 h
    omega
  · omega
theorem sg_natAbs (z : Int) : sg z.natAbs (decide (z < 0)) = z := by
  by_cases h : z < 0
  · rw [decide_eq_true h]; simp only [sg]; omega
  · rw [decide_eq_false h]; simp only [sg]; omega
theorem sg_up (M n : Nat) (s : Bool) : sg (M * 2 ^ n) s = sg M s * 2 ^ n := by
  have e : ((M * 2 ^ n : Nat) : Int) = (M : Int) * 2 ^ n := by push_cast; rfl
  cases s
  · exact e
  · simp only [sg]
    rw [e, Int.neg_mul]
theorem sg_down (M n : Nat) (s : Bool) : sg (downK (M / 2 ^ n) (decide (M / 2 ^ n * 2 ^ n = M)) s) s = sg M s / 2 ^ n := by
  have e : ((2 : Int) ^ n) = ((2 ^ n : Nat) : Int) := by push_cast; rfl
  rw [e]
  have hp : 0 < 2 ^ n := Nat.two_pow_pos n
  generalize 2 ^ n = D at *
  cases s
  · rw [show downK (M / D) (decide (M / D * D = M)) false = M / D from rfl]
    exact Int.natCast_ediv M D
  · have hM := Nat.div_add_mod M D
    have hr := Nat.mod_lt M hp
    have hcast : (M : Int) = (D : Int) * ((M / D : Nat) : Int) + ((M % D : Nat) : Int) := by
      conv => lhs; rw [← hM]
      push_cast; rfl
    have hD : (0 : Int) < (D : Int) := by omega
    generalize hq : M / D = q at *
    generalize hm : M % D = r at *
    rw [Nat.mul_comm] at hM
    by_cases h0 : r = 0
    · have h1 : q * D = M := by omega
      rw [decide_eq_true h1]
      show -((q : Nat) : Int) = -(M : Int) / D
      have := ((Int.ediv_emod_unique (a := -(M : Int)) (b := D) (r := 0) (q := -(q : Int)) hD).2 ⟨by rw [hcast, h0, Int.mul_neg]; omega, by omega, by omega⟩).1
      exact this.symm
    · have h1 : ¬ (q * D = M) := by omega
      rw [decide_eq_false h1]
      show -((q + 1 : Nat) : Int) = -(M : Int) / D
      have := ((Int.ediv_emod_unique (a := -(M : Int)) (b := D) (r := (D : Int) - r) (q := -((q + 1 : Nat) : Int)) hD).2 ⟨by
        have e2 : (D : Int) * -((q + 1 : Nat) : Int) = -((D : Int) * q) - D := by
          rw [Int.mul_neg, Int.natCast_add, Int.mul_add]
          show -((D : Int) * q + D * 1) = _
          omega
        rw [e2, hcast]; omega, by omega, by omega⟩).1
      exact this.symm

def wshift : Option Int → Int → Option Int
  | none, _ => none
  | some z, k => match decide (k < 0) with
    | true => clamp (z / 2 ^ (-k).toNat)
    | false => clamp (z * 2 ^ k.toNat)
theorem wshift_wf (A : Option Int) (k : Int) : WF (wshift A k) := by
  unfold wshift
  split
  · intro z h; cases h
  · split <;> exact clamp_wf _

def eqL (x y : Nat → Nat) : List Nat → Bool
  | [] => true
  | i :: l => ((x i : Int) == (y i : Int)) && eqL x y l
theorem eqL_iff {x y : Nat → Nat} : ∀ {l : List Nat}, eqL x y l = true ↔ ∀ i ∈ l, x i = y i
  | [] => by simp [eqL]
  | i :: l => by
    simp only [eqL, Bool.and_eq_true, eqL_iff, List.mem_cons, forall_eq_or_imp, beq_iff_eq, Int.natCast_inj]
theorem eqL_eq {M N : Nat} (hM : M < T16) (hN : N < T16) : eqL (wd M) (wd N) (List.range 16) = decide (M = N) := by
  rw [Bool.eq_iff_iff, eqL_iff, decide_eq_true_eq]
  constructor
  · intro h
    have := div_eq_of_words hM hN 16 0 rfl (fun i _ hi => h i (List.mem_range.2 hi))
    simpa using this
  · rintro rfl i _; rfl
def downC (k : Int) : Int := IntKind.i64.wrap (0 - if -1023 > k then -1023 else k)
theorem downC_eq {k : Int} (h0 : k < 0) (h1 : -9223372036854775808 ≤ k) : ∃ c : Nat, downC k = c ∧ c ≤ 1023 ∧ (c = (-k).toNat ∨ (c = 1023 ∧ 1023 ≤ (-k).toNat)) := by
  unfold downC
  by_cases h : -1023 > k
  · rw [if_pos h]
    exact ⟨1023, i64_wrap (by omega) (by omega), by omega, .inr ⟨rfl, by omega⟩⟩
  · rw [if_neg h]
    exact ⟨(-k).toNat, by rw [i64_wrap (by omega) (by omega)]; omega, by omega, .inl rfl⟩
theorem lt_Hi_pow {M c : Nat} (h : M < Hi) (hc : 1023 ≤ c) : M < 2 ^ c := bitLen_lt_iff.1 (Nat.le_trans (bitLen_Hi.2 h) hc)
end Go.Proofs.Ytjmdppnhpfdhdaa.W
