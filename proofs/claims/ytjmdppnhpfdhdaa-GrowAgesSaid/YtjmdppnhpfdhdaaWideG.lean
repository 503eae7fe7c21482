/-
  The program's shiftedUp.
-/
import Derived.Test.YtjmdppnhpfdhdaaWideF
namespace Go.Proofs.Ytjmdppnhpfdhdaa.W
open Go Go.Ev Go.Wide

/-! ### shiftedUp -/
def upWord (r : Int) (x : Nat → Nat) : Nat → Int
  | 0 => shlI (x 0) r
  | d + 1 => orI (shlI (x (d + 1)) r) (shrI (x d) (restI r))
def upV (s : Nat) (r : Int) (x : Nat → Nat) : Value := .agg ((List.range 16).map fun i => Value.int .u64 (match decide (i < s) with | true => 0 | false => upWord r x (i - s))).toArray
def upSteps : Nat → Nat → List Ans
  | 0, _ => []
  | n + 1, i => .at 32 (.int .i64 ((i : Nat) : Int)) :: upSteps n (i + 1)
def upAns (s : Nat) (r : Int) : List Ans := .at 4 (.int .i64 (s : Int)) :: .at 1 (.int .i64 r) :: .at 20 (.int .i64 ((s + 1 : Nat) : Int)) :: upSteps (15 - s) (s + 2)
def upOk : Nat → Int → List Bool
  | 0, _ => []
  | n + 1, r => (!decide (r < 0)) :: (!decide (restI r < 0)) :: upOk n r
theorem up_key {s : Nat} (h : s ≤ 15) (c r : Int) (x : Nat → Nat) : evFn3 Try.prog Try.f100 400 [magL 16 x, .int .i64 c] (upAns s r) =
    some (conj (decide (IntKind.i64.wrap (c.tdiv 64) = (s : Int)) :: decide (c.tmod 64 = r) :: (!decide (r < 0)) :: upOk (15 - s) r), [], upV s r x) := by
  rcases le15 h with rfl | rfl | rfl | rfl | rfl | rfl | rfl | rfl | rfl | rfl | rfl | rfl | rfl | rfl | rfl | rfl <;> kernel_rfl
theorem upOk_true {r : Nat} (h : r < 64) : ∀ n, conj (upOk n r) = true
  | 0 => rfl
  | n + 1 => by
    have h1 : (!decide ((r : Int) < 0)) = true := by rw [decide_eq_false (by omega)]; rfl
    have h2 : (!decide (restI (r : Int) < 0)) = true := by rw [restI_eq (by omega), decide_eq_false (by omega)]; rfl
    rw [upOk, conj_cons, conj_cons, upOk_true h n, h1, h2]; rfl
theorem shiftedUp_pc {N c : Nat} (_ : N < T16) (hc : c < 1024) : PC Try.prog 100 [mag N, .int .i64 c] (mag (N * 2 ^ c)) := by
  have hr : c % 64 < 64 := Nat.mod_lt _ (by omega)
  have key := up_key (s := c / 64) (by omega) (c : Int) ((c % 64 : Nat) : Int) (wd N)
  rw [← mag_eq_magL16] at key
  refine PC.of_ev3 mixed Try.func100 400 _ key (by simp [flat_mag]; rfl) ?_ trivial rfl ?_
  · have e1 : (c : Int).tdiv 64 = ((c / 64 : Nat) : Int) := by rw [Int.tdiv_eq_ediv_of_nonneg (by omega)]; rfl
    have e2 : (c : Int).tmod 64 = ((c % 64 : Nat) : Int) := by rw [Int.tmod_eq_emod_of_nonneg (by omega)]; rfl
    have h1 : (!decide (((c % 64 : Nat) : Int) < 0)) = true := by rw [decide_eq_false (by omega)]; rfl
    rw [conj_cons, conj_cons, conj_cons, upOk_true hr, e1, e2, i64_wrap (by omega) (by omega), decide_eq_true rfl, decide_eq_true rfl, h1]; rfl
  · have hcc : c = 64 * (c / 64) + c % 64 := (Nat.div_add_mod c 64).symm
    unfold upV mag words
    refine congrArg (fun l : List Value => Value.agg l.toArray) (List.map_congr_left fun i _ => congrArg (Value.int .u64) ?_)
    by_cases hi : i < c / 64
    · rw [decide_eq_true hi]
      have := wd_up_low N (c / 64) (c % 64) i hi
      rw [← hcc] at this
      rw [this]; rfl
    · rw [decide_eq_false hi]
      have := wd_up N (c / 64) (c % 64) (i - c / 64) hr
      rw [← hcc, Nat.sub_add_cancel (by omega)] at this
      rw [this]
      cases hd : i - c / 64 with
      | zero => simp only [upWord]; rw [shlI_eq _ _ (by omega)]; simp
      | succ d =>
        simp only [upWord]
        rw [restI_eq (by omega), shlI_eq _ _ (by omega), shrI_eq _ _ (by omega)]
        have hlt : wd N d / 2 ^ (64 - c % 64) < 2 ^ (c % 64) := by
          rw [Nat.div_lt_iff_lt_mul (Nat.two_pow_pos _), ← Nat.pow_add, Nat.add_sub_cancel' (by omega)]
          exact wd_lt N d
        have hmul : ∃ z, wd N (d + 1) * 2 ^ (c % 64) % 18446744073709551616 = 2 ^ (c % 64) * z := by
          refine ⟨wd N (d + 1) % 2 ^ (64 - c % 64), ?_⟩
          have hB : (18446744073709551616 : Nat) = 2 ^ (64 - c % 64) * 2 ^ (c % 64) := by rw [← Nat.pow_add, Nat.sub_add_cancel (by omega)]
          rw [hB, Nat.mul_mod_mul_right, Nat.mul_comm]
        obtain ⟨z, hz⟩ := hmul
        have hm := Nat.mod_lt (wd N (d + 1) * 2 ^ (c % 64)) (show 0 < 18446744073709551616 by omega)
        rw [orI_eq hm (Nat.lt_of_le_of_lt (Nat.div_le_self _ _) (wd_lt N d)), hz, or_add hlt]
theorem enters_shiftedUp : ∀ us w, (callFunc 100 us).run Try.prog w = .ok (.enter 100 us) w := enters Try.func100 rfl (by kernel_rfl)
end Go.Proofs.Ytjmdppnhpfdhdaa.W
