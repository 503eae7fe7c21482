/-
  The program's Int64.
-/
import Derived.Test.YtjmdppnhpfdhdaaWideJ
namespace Go.Proofs.Ytjmdppnhpfdhdaa.W
open Go Go.Ev Go.Wide

def fits64 (z : Int) : Bool := decide (-9223372036854775808 ≤ z) && decide (z ≤ 9223372036854775807)
def wint : Option Int → Value
  | none => .tuple #[.int .i64 0, .bool false]
  | some z => match fits64 z with
    | true => .tuple #[.int .i64 z, .bool true]
    | false => .tuple #[.int .i64 0, .bool false]
def lim (s : Bool) : Int := match s with | true => 9223372036854775808 | false => 9223372036854775807
theorem int64O_key : evFn3 Try.prog Try.f91 400 [wR true 0 false] [] = some (true, [], .tuple #[.int .i64 0, .bool false]) := by kernel_rfl
theorem int64A_key (M n : Nat) (s : Bool) : evFn3 Try.prog Try.f91 400 [wR false M s] [.res (.int .i64 n), .tst true] =
    some (conj [decide ((n : Int) > 1)], [QC Try.prog 95 [mag M] (.int .i64 n)], .tuple #[.int .i64 0, .bool false]) := by cases s <;> kernel_rfl
theorem int64B_key (M n : Nat) (s : Bool) : evFn3 Try.prog Try.f91 400 [wR false M s] [.res (.int .i64 n), .tst false, .tst true] =
    some (conj [!decide ((n : Int) > 1), decide ((wd M 0 : Int) > lim s)], [QC Try.prog 95 [mag M] (.int .i64 n)], .tuple #[.int .i64 0, .bool false]) := by cases s <;> kernel_rfl
theorem int64C_key (M n : Nat) (s : Bool) : evFn3 Try.prog Try.f91 400 [wR false M s] [.res (.int .i64 n), .tst false, .tst false] =
    some (conj [!decide ((n : Int) > 1), !decide ((wd M 0 : Int) > lim s)], [QC Try.prog 95 [mag M] (.int .i64 n)],
      .tuple #[.int .i64 (match s with | true => IntKind.i64.wrap (IntKind.u64.wrap (0 - (wd M 0 : Int))) | false => IntKind.i64.wrap (wd M 0)), .bool true]) := by cases s <;> kernel_rfl
theorem i64_wrap_back (x : Int) (h0 : 0 ≤ x) (h1 : x ≤ 9223372036854775808) : IntKind.i64.wrap (IntKind.u64.wrap (0 - x)) = -x := by
  rw [u64_wrap]
  by_cases hz : x = 0
  · subst hz; rfl
  · have e : (0 - x) % 18446744073709551616 = 18446744073709551616 - x := by omega
    rw [e]
    rw [IntKind.wrap_i64]; omega
theorem int64_pc {A : Option Int} (hA : WF A) : PC Try.prog 91 [wv A] (wint A) := by
  cases A with
  | none => exact PC.of_ev3 mixed Try.func91 400 [] int64O_key (by simp [flat_wv]) rfl trivial rfl rfl
  | some z =>
    have hz := hA z rfl
    have hT := Hi_T16
    have hw := wordLen_pc (N := z.natAbs) (by omega)
    have hfl : [wv (some z)].all flat = true := by simp [flat_wv]
    have hlim : lim (decide (z < 0)) = if z < 0 then 9223372036854775808 else 9223372036854775807 := by
      by_cases h : z < 0
      · rw [decide_eq_true h, if_pos h]; rfl
      · rw [decide_eq_false h, if_neg h]; rfl
    by_cases h1 : nw z.natAbs > 1
    · refine PC.of_ev3 mixed Try.func91 400 _ (int64A_key z.natAbs (nw z.natAbs) (decide (z < 0))) hfl (by rw [conj_cons, conj_nil, decide_eq_true (by omega)]; rfl) ⟨QC.of_pc enters_wordLen hw, trivial⟩ rfl ?_
      have hb : ¬ z.natAbs < 18446744073709551616 := fun h => by
        have := nw_le (N := z.natAbs) (k := 1) h
        omega
      have : fits64 z = false := by
        unfold fits64
        by_cases h : z < 0
        · rw [decide_eq_false (show ¬ -9223372036854775808 ≤ z by omega)]; rfl
        · rw [decide_eq_false (show ¬ z ≤ 9223372036854775807 by omega), Bool.and_false]
      simp only [wint, this]
    · have hlt : z.natAbs < 18446744073709551616 := by
        have h2 := lt_nw z.natAbs
        exact Nat.lt_of_lt_of_le h2 (show 2 ^ (64 * nw z.natAbs) ≤ 2 ^ 64 from Nat.pow_le_pow_right (by omega) (by omega))
      have h0 : wd z.natAbs 0 = z.natAbs := by
        unfold wd
        rw [Nat.mul_zero, Nat.pow_zero, Nat.div_one, Nat.mod_eq_of_lt hlt]
      by_cases h3 : (z.natAbs : Int) > lim (decide (z < 0))
      · refine PC.of_ev3 mixed Try.func91 400 _ (int64B_key z.natAbs (nw z.natAbs) (decide (z < 0))) hfl (by rw [conj_cons, conj_cons, conj_nil, h0, decide_eq_false (by omega), decide_eq_true h3]; rfl) ⟨QC.of_pc enters_wordLen hw, trivial⟩ rfl ?_
        have : fits64 z = false := by
          rw [hlim] at h3
          unfold fits64
          by_cases h : z < 0
          · rw [if_pos h] at h3
            rw [decide_eq_false (show ¬ -9223372036854775808 ≤ z by omega)]; rfl
          · rw [if_neg h] at h3
            rw [decide_eq_false (show ¬ z ≤ 9223372036854775807 by omega), Bool.and_false]
        simp only [wint, this]
      · refine PC.of_ev3 mixed Try.func91 400 _ (int64C_key z.natAbs (nw z.natAbs) (decide (z < 0))) hfl (by rw [conj_cons, conj_cons, conj_nil, h0, decide_eq_false (by omega), decide_eq_false h3]; rfl) ⟨QC.of_pc enters_wordLen hw, trivial⟩ rfl ?_
        rw [hlim] at h3
        rw [h0]
        by_cases h : z < 0
        · rw [if_pos h] at h3
          have : fits64 z = true := by
            unfold fits64
            rw [decide_eq_true (show -9223372036854775808 ≤ z by omega), decide_eq_true (show z ≤ 9223372036854775807 by omega)]; rfl
          simp only [wint, this]
          rw [decide_eq_true h]
          simp only
          rw [i64_wrap_back _ (by omega) (by omega), show -(z.natAbs : Int) = z by omega]
        · rw [if_neg h] at h3
          have : fits64 z = true := by
            unfold fits64
            rw [decide_eq_true (show -9223372036854775808 ≤ z by omega), decide_eq_true (show z ≤ 9223372036854775807 by omega)]; rfl
          simp only [wint, this]
          rw [decide_eq_false h]
          simp only
          rw [i64_wrap (by omega) (by omega), show (z.natAbs : Int) = z by omega]
theorem enters_int64 : ∀ us w, (callFunc 91 us).run Try.prog w = .ok (.enter 91 us) w := enters Try.func91 rfl (by kernel_rfl)
end Go.Proofs.Ytjmdppnhpfdhdaa.W
