/-
  The program's magnitudes: sums, differences.
-/
import Derived.Test.YtjmdppnhpfdhdaaWideA
import Derived.Test.YtjmdppnhpfdhdaaProg
import Derived.Shelf.Spec.BitsCarry
namespace Go.Proofs.Ytjmdppnhpfdhdaa.W
open Go Go.Ev Go.Wide

theorem mixed : Try.prog.follows .mixedOrders = true := by kernel_rfl

theorem add64_qc (x y c : Nat) (hc : c ≤ 1) : QC Try.prog 98 [.int .u64 x, .int .u64 y, .int .u64 c]
    (.tuple #[.int .u64 (((x + y + c) % 18446744073709551616 : Nat) : Int), .int .u64 (((x + y + c) / 18446744073709551616 : Nat) : Int)]) := .inl fun w => by
  rw [run_callFunc_extern Try.func98 (by kernel_rfl) (by kernel_rfl) (by kernel_rfl) (e := add64Entry) (by kernel_rfl), run_add64 x y c (by omega) (by omega) (by omega) (by omega)]
  simp only [Result.andThen]
  congr 5 <;> omega

theorem sub64_qc (x y b : Nat) (hb : b ≤ 1) : QC Try.prog 99 [.int .u64 x, .int .u64 y, .int .u64 b]
    (.tuple #[.int .u64 (((x + 18446744073709551616 - y - b) % 18446744073709551616 : Nat) : Int), .int .u64 ((if x < y + b then 1 else 0 : Nat) : Int)]) := .inl fun w => by
  rw [run_callFunc_extern Try.func99 (by kernel_rfl) (by kernel_rfl) (by kernel_rfl) (e := sub64Entry) (by kernel_rfl), run_sub64 x y b hb]
  rfl

/-! ### plus -/
def carV (M N : Nat) : Nat → Int
  | 0 => 0
  | i + 1 => (car M N (i + 1) : Nat)
theorem carV_eq (M N i : Nat) : carV M N i = (car M N i : Nat) := by cases i <;> simp [carV, car_zero]
def plusAns (M N : Nat) : List Ans := (List.range 16).map fun i => .res (.tuple #[.int .u64 (wd (M + N) i : Nat), .int .u64 (car M N (i + 1) : Nat)])
def plusOb (M N i : Nat) : Prop := QC Try.prog 98 [.int .u64 (wd M i : Nat), .int .u64 (wd N i : Nat), .int .u64 (carV M N i)] (.tuple #[.int .u64 (wd (M + N) i : Nat), .int .u64 (car M N (i + 1) : Nat)])
theorem plus_pc (M N : Nat) : PC Try.prog 87 [mag M, mag N] (mag (M + N)) := by
  refine PC.of_ev3 mixed Try.func87 400 (plusAns M N) (ok := true) (obs := (List.range 16).map (plusOb M N)) (v := mag (M + N)) (by kernel_rfl) (by kernel_rfl) rfl (allP_map fun i _ => ?_) (by kernel_rfl) rfl
  unfold plusOb
  rw [carV_eq, wd_add, car_succ]
  exact add64_qc _ _ _ (car_le M N i)

/-! ### minus -/
def borV (M N : Nat) : Nat → Int
  | 0 => 0
  | i + 1 => (bor M N (i + 1) : Nat)
theorem borV_eq (M N i : Nat) : borV M N i = (bor M N i : Nat) := by cases i <;> simp [borV, bor_zero]
def minusAns (M N : Nat) : List Ans := (List.range 16).map fun i => .res (.tuple #[.int .u64 (wd (M - N) i : Nat), .int .u64 (bor M N (i + 1) : Nat)])
def minusOb (M N i : Nat) : Prop := QC Try.prog 99 [.int .u64 (wd M i : Nat), .int .u64 (wd N i : Nat), .int .u64 (borV M N i)] (.tuple #[.int .u64 (wd (M - N) i : Nat), .int .u64 (bor M N (i + 1) : Nat)])
theorem minus_pc {M N : Nat} (h : N ≤ M) : PC Try.prog 89 [mag M, mag N] (mag (M - N)) := by
  refine PC.of_ev3 mixed Try.func89 400 (minusAns M N) (ok := true) (obs := (List.range 16).map (minusOb M N)) (v := mag (M - N)) (by kernel_rfl) (by kernel_rfl) rfl (allP_map fun i _ => ?_) (by kernel_rfl) rfl
  unfold minusOb
  have h1 := wd_sub h i
  have h2 := wd_lt M i
  have h3 := wd_lt N i
  have h4 := bor_le M N i
  have h5 : (wd (M - N) i : Nat) = (wd M i + 18446744073709551616 - wd N i - bor M N i) % 18446744073709551616 := by omega
  rw [borV_eq, h5, bor_succ h]
  exact sub64_qc _ _ _ (bor_le M N i)
end Go.Proofs.Ytjmdppnhpfdhdaa.W
