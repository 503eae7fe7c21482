/-
  The program's shiftedDown.
-/
import Derived.Test.YtjmdppnhpfdhdaaWideF
namespace Go.Proofs.Ytjmdppnhpfdhdaa.W
open Go Go.Ev Go.Wide

/-! ### shiftedDown -/
def downWord (r : Int) (x : Nat → Nat) (i : Nat) : Int := match decide (i + 1 < 16) with | true => orI (shrI (x i) r) (shlI (x (i + 1)) (restI r)) | false => shrI (x i) r
def downV (s : Nat) (r : Int) (x : Nat → Nat) : Value := .agg ((List.range 16).map fun i => Value.int .u64 (match decide (i + s < 16) with | true => downWord r x (i + s) | false => 0)).toArray
def downSteps (f : Nat) : Nat → Nat → List Ans
  | 0, _ => []
  | 1, i => [.at (f + 17) (.int .i64 ((i : Nat) : Int))]
  | n + 2, i => .at (f + 32) (.int .i64 ((i : Nat) : Int)) :: downSteps 0 (n + 1) (i + 1)
def downAns (s : Nat) (r : Int) : List Ans := .at 4 (.int .i64 (s : Int)) :: .at 1 (.int .i64 r) :: downSteps 3 (16 - s) (s + 1)
def downOk : Nat → Int → List Bool
  | 0, r => [!decide (r < 0)]
  | n + 1, r => (!decide (r < 0)) :: (!decide (restI r < 0)) :: downOk n r
theorem down_key {s : Nat} (h : s ≤ 15) (c r : Int) (x : Nat → Nat) : evFn3 Try.prog Try.f101 400 [magL 16 x, .int .i64 c] (downAns s r) =
    some (conj (decide (IntKind.i64.wrap (c.tdiv 64) = (s : Int)) :: decide (c.tmod 64 = r) :: downOk (15 - s) r), [], downV s r x) := by
  rcases le15 h with rfl | rfl | rfl | rfl | rfl | rfl | rfl | rfl | rfl | rfl | rfl | rfl | rfl | rfl | rfl | rfl <;> kernel_rfl
theorem downOk_true {r : Nat} (h : r < 64) : ∀ n, conj (downOk n r) = true
  | 0 => by
    have h1 : (!decide ((r : Int) < 0)) = true := by rw [decide_eq_false (by omega)]; rfl
    rw [downOk, conj_cons, h1]; rfl
  | n + 1 => by
    have h1 : (!decide ((r : Int) < 0)) = true := by rw [decide_eq_false (by omega)]; rfl
    have h2 : (!decide (restI (r : Int) < 0)) = true := by rw [restI_eq (by omega), decide_eq_false (by omega)]; rfl
    rw [downOk, conj_cons, conj_cons, downOk_true h n, h1, h2]; rfl
theorem shiftedDown_pc {N c : Nat} (hN : N < T16) (hc : c < 1024) : PC Try.prog 101 [mag N, .int .i64 c] (mag (N / 2 ^ c)) := by
  have hr : c % 64 < 64 := Nat.mod_lt _ (by omega)
  have key := down_key (s := c / 64) (by omega) (c : Int) ((c % 64 : Nat) : Int) (wd N)
  rw [← mag_eq_magL16] at key
  have hbig : ∀ i, 16 ≤ i → wd N i = 0 := fun i hi => by
    obtain ⟨d, rfl⟩ : ∃ d, i = d + 16 := ⟨i - 16, by omega⟩
    unfold wd
    rw [Nat.div_eq_of_lt (Nat.lt_of_lt_of_le hN (T16_le d))]
  refine PC.of_ev3 mixed Try.func101 400 _ key (by simp [flat_mag]; rfl) ?_ trivial rfl ?_
  · have e1 : (c : Int).tdiv 64 = ((c / 64 : Nat) : Int) := by rw [Int.tdiv_eq_ediv_of_nonneg (by omega)]; rfl
    have e2 : (c : Int).tmod 64 = ((c % 64 : Nat) : Int) := by rw [Int.tmod_eq_emod_of_nonneg (by omega)]; rfl
    rw [conj_cons, conj_cons, downOk_true hr, e1, e2, i64_wrap (by omega) (by omega), decide_eq_true rfl, decide_eq_true rfl]; rfl
  · have hcc : c = 64 * (c / 64) + c % 64 := (Nat.div_add_mod c 64).symm
    unfold downV mag words
    refine congrArg (fun l : List Value => Value.agg l.toArray) (List.map_congr_left fun i _ => congrArg (Value.int .u64) ?_)
    have hd := wd_down N (c / 64) (c % 64) i (by omega)
    rw [← hcc] at hd
    rw [hd]
    by_cases hi : i + c / 64 < 16
    · rw [decide_eq_true hi]
      simp only [downWord]
      by_cases hi2 : i + c / 64 + 1 < 16
      · rw [decide_eq_true hi2]
        simp only
        rw [restI_eq (by omega), shlI_eq _ _ (by omega), shrI_eq _ _ (by omega)]
        have hlt : wd N (i + c / 64) / 2 ^ (c % 64) < 2 ^ (64 - c % 64) := by
          rw [Nat.div_lt_iff_lt_mul (Nat.two_pow_pos _), ← Nat.pow_add, Nat.sub_add_cancel (by omega)]
          exact wd_lt N _
        have hmul : ∃ z, wd N (i + c / 64 + 1) * 2 ^ (64 - c % 64) % 18446744073709551616 = 2 ^ (64 - c % 64) * z := by
          refine ⟨wd N (i + c / 64 + 1) % 2 ^ (c % 64), ?_⟩
          have hB : (18446744073709551616 : Nat) = 2 ^ (c % 64) * 2 ^ (64 - c % 64) := by rw [← Nat.pow_add, Nat.add_sub_cancel' (by omega)]
          rw [hB, Nat.mul_mod_mul_right, Nat.mul_comm]
        obtain ⟨z, hz⟩ := hmul
        have hm := Nat.mod_lt (wd N (i + c / 64 + 1) * 2 ^ (64 - c % 64)) (show 0 < 18446744073709551616 by omega)
        rw [orI_eq (Nat.lt_of_le_of_lt (Nat.div_le_self _ _) (wd_lt N _)) hm, hz, Nat.or_comm, or_add hlt, Nat.add_comm]
      · rw [decide_eq_false hi2, hbig (i + c / 64 + 1) (by omega)]
        simp only
        rw [shrI_eq _ _ (by omega), Nat.zero_mul, Nat.zero_mod, Nat.add_zero]
    · rw [decide_eq_false hi, hbig (i + c / 64) (by omega), hbig (i + c / 64 + 1) (by omega), Nat.zero_div, Nat.zero_mul, Nat.zero_mod]
      rfl
theorem enters_shiftedDown : ∀ us w, (callFunc 101 us).run Try.prog w = .ok (.enter 101 us) w := enters Try.func101 rfl (by kernel_rfl)
end Go.Proofs.Ytjmdppnhpfdhdaa.W

