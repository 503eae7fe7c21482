/-
  The program's Cmp, roundedDown, shiftUp, shiftDown, Shift.
-/
import Derived.Test.YtokamlicglibkaaWideG
import Derived.Test.YtokamlicglibkaaWideH
namespace Go.Proofs.Ytokamlicglibkaa.W
open Go Go.Ev Go.Wide

/-! ### Cmp -/
/-- -1, 0 or 1. -/
def ordI (a b : Int) : Int := if a < b then -1 else if b < a then 1 else 0
def wcmp : Option Int → Option Int → Value
  | some a, some b => .tuple #[.int .i64 (ordI a b), .bool true]
  | _, _ => .tuple #[.int .i64 0, .bool false]
/-! ### roundedDown -/
def mag1 : Value := .agg (Value.int .u64 1 :: List.replicate 15 (Value.int .u64 0)).toArray
theorem mag1_eq : mag1 = mag 1 := by
  unfold mag1 mag words
  rw [words_small (N := 1) (by omega)]
  rfl
theorem rounded_up_key (M K L : Nat) (o t : Bool) : evFn3 Try.prog Try.f75 400 [mag M, .bool false, .bool true] [.res (mag K), .res (wR o L t)] =
    some (true, [QC Try.prog 48 [mag M, mag1] (mag K), QC Try.prog 47 [mag K, .bool true] (wR o L t)], wR o L t) := by cases o <;> kernel_rfl
theorem rounded_key (M L : Nat) (x s o t : Bool) (h : (s && !x) = false) : evFn3 Try.prog Try.f75 400 [mag M, .bool x, .bool s] [.res (wR o L t)] =
    some (true, [QC Try.prog 47 [mag M, .bool s] (wR o L t)], wR o L t) := by
  cases x <;> cases s
  · cases o <;> kernel_rfl
  · cases h
  · cases o <;> kernel_rfl
  · cases o <;> kernel_rfl
/-- The quotient's magnitude, rounded toward minus infinity. -/
def downK (M : Nat) (x s : Bool) : Nat := match s && !x with | true => M + 1 | false => M
theorem rounded_pc {M : Nat} (hM : M + 1 < T16) (x s : Bool) : PC Try.prog 75 [mag M, .bool x, .bool s] (wv (sgn (downK M x s) s)) := by
  have hfl : [mag M, .bool x, .bool s].all flat = true := by simp [flat_mag]; exact ⟨rfl, rfl⟩
  obtain ⟨o, L, t, e⟩ := wv_form (sgn (downK M x s) s)
  have hs := signed_pc (K := downK M x s) (by unfold downK; split <;> omega) s
  rw [e] at hs ⊢
  cases h : s && !x with
  | false =>
    rw [show downK M x s = M by unfold downK; rw [h]] at hs
    exact PC.of_ev3 mixed Try.func75 400 _ (rounded_key M L x s o t h) hfl rfl ⟨QC.of_pc enters_signed hs, trivial⟩ (flat_wR _ _ _) rfl
  | true =>
    rw [show downK M x s = M + 1 by unfold downK; rw [h]] at hs
    have hp := plus_pc M 1
    rw [← mag1_eq] at hp
    cases x <;> cases s <;> first | cases h | skip
    exact PC.of_ev3 mixed Try.func75 400 _ (rounded_up_key M (M + 1) L o t) hfl rfl ⟨QC.of_pc enters_plus hp, QC.of_pc enters_signed hs, trivial⟩ (flat_wR _ _ _) rfl
theorem enters_rounded : ∀ us w, (callFunc 75 us).run Try.prog w = .ok (.enter 75 us) w := enters Try.func75 rfl (by kernel_rfl)

/-! ### shiftUp, shiftDown, Shift -/
theorem up0_key (M : Nat) (s : Bool) (k : Int) : evFn3 Try.prog Try.f71 400 [wR false M s, .int .i64 k] [.res (.int .i64 0)] =
    some (true, [QC Try.prog 32 [mag M] (.int .i64 0)], wR false M s) := by kernel_rfl
theorem upO_key (M : Nat) (s : Bool) (k : Int) (b : Int) : evFn3 Try.prog Try.f71 400 [wR false M s, .int .i64 k] [.res (.int .i64 b), .tst false, .tst true] =
    some (conj [!(b == 0), decide (k > IntKind.i64.wrap (1023 - b))], [QC Try.prog 32 [mag M] (.int .i64 b)], wR true 0 false) := by kernel_rfl
theorem upS_key (M K L : Nat) (s o t : Bool) (k : Int) (b : Int) : evFn3 Try.prog Try.f71 400 [wR false M s, .int .i64 k] [.res (.int .i64 b), .tst false, .tst false, .res (mag K), .res (wR o L t)] =
    some (conj [!(b == 0), !decide (k > IntKind.i64.wrap (1023 - b))], [QC Try.prog 32 [mag M] (.int .i64 b), QC Try.prog 74 [mag M, .int .i64 k] (mag K), QC Try.prog 47 [mag K, .bool s] (wR o L t)], wR o L t) := by cases o <;> kernel_rfl
end Go.Proofs.Ytokamlicglibkaa.W
