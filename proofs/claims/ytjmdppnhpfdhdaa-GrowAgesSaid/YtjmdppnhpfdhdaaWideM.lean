/-
  The program's digit and Text.
-/
import Derived.Test.YtjmdppnhpfdhdaaWideL
namespace Go.Proofs.Ytjmdppnhpfdhdaa.W
open Go Go.Ev Go.Wide

/-! ### digit -/
def andI (x y : Int) : Int := IntKind.u64.wrap (BitVec.ofInt 64 x &&& BitVec.ofInt 64 y).toNat
theorem andI_15 {x : Nat} (hx : x < 18446744073709551616) : andI x 15 = ((x % 16 : Nat) : Int) := by
  unfold andI
  have e1 : (BitVec.ofInt 64 (x : Int)).toNat = x := by rw [BitVec.toNat_ofInt]; omega
  have e2 : (BitVec.ofInt 64 (15 : Int)).toNat = 15 := rfl
  rw [BitVec.toNat_and, e1, e2, u64_wrap]
  have : x &&& 15 = x % 16 := Nat.and_two_pow_sub_one_eq_mod x 4
  rw [this]
  omega
/-- The hexadecimal digit at a place. -/
def hexd (N p : Nat) : Nat := N / 2 ^ (4 * p) % 16
theorem wd_hexd (N p : Nat) : wd N (p / 16) / 2 ^ (4 * (p % 16)) % 16 = hexd N p := by
  unfold wd hexd
  have e : N / 2 ^ (4 * p) = N / 2 ^ (64 * (p / 16)) / 2 ^ (4 * (p % 16)) := by
    rw [Nat.div_div_eq_div_mul, ← Nat.pow_add, show 64 * (p / 16) + 4 * (p % 16) = 4 * p by omega]
  rw [e]
  generalize N / 2 ^ (64 * (p / 16)) = Q
  have h : 4 * (p % 16) ≤ 60 := by omega
  generalize 4 * (p % 16) = k at *
  have e2 : (18446744073709551616 : Nat) = 2 ^ k * (16 * 2 ^ (60 - k)) := by
    have : (16 : Nat) = 2 ^ 4 := rfl
    rw [this, ← Nat.pow_add, ← Nat.pow_add, show k + (4 + (60 - k)) = 64 by omega]
  rw [e2, Nat.mod_mul_right_div_self, Nat.mod_mul_right_mod]
/-! ### Text -/
def hexS : ByteArray := ⟨#[48, 49, 50, 51, 52, 53, 54, 55, 56, 57, 97, 98, 99, 100, 101, 102]⟩
def chr (d : Nat) : Int := (hexS.data.getD ((d : Nat) : Int).toNat 0).toNat
def wordsB (M : Nat) (s : Bool) : List Value := (List.range 16).map (fun i => Value.int .u64 (wd M i)) ++ [Value.bool s, Value.bool false]
def txM (M : Nat) (s : Bool) (q : List Value) : Mem := ⟨wordsB M s, 60, true⟩ :: ⟨q, 5, true⟩ :: (match s with | true => [⟨[.int .u8 45], 5, true⟩] | false => [])
def txS (M : Nat) (s : Bool) (len cap : Nat) (pl : Int) (q : List Value) : St := ⟨slots 39 [(1, ptr 0), (4, .slice (some ⟨1, 0, none⟩) len cap), (5, .int .i64 pl)], txM M s q⟩
def txL : List Nat := [1, 4, 5]
def txN (s : Bool) : Nat := match s with | true => 3 | false => 2
def txQ (L : Nat) (s : Bool) : List Value := match s with | true => (List.replicate ((L + 1 : Nat) : Int).toNat (Value.int .u8 0)).set (0 + 0 * 1) (.int .u8 45) | false => List.replicate ((L + 1 : Nat) : Int).toNat (Value.int .u8 0)
def sLen (s : Bool) : Nat := match s with | true => 1 | false => 0
def lenI (b : Int) : Int := if IntKind.i64.wrap ((IntKind.i64.wrap (IntKind.i64.wrap (b + 4) - 1)).tdiv 4) > 1 then IntKind.i64.wrap ((IntKind.i64.wrap (IntKind.i64.wrap (b + 4) - 1)).tdiv 4) else 1
/-- The character at place t of a text: a sign, then L digits. -/
def tc (M L : Nat) (s : Bool) (t : Nat) : Int := match decide (t < sLen s) with | true => 45 | false => chr (hexd M (L - 1 - (t - sLen s)))
def txq (M L : Nat) (s : Bool) (i : Nat) : List Value := (List.range (L + 1)).map fun t => Value.int .u8 (match decide (t < sLen s + i) with | true => tc M L s t | false => 0)
theorem txq_zero (M L : Nat) (s : Bool) : txQ L s = txq M L s 0 := by
  have hrep : List.replicate ((L + 1 : Nat) : Int).toNat (Value.int .u8 0) = (List.range (L + 1)).map fun _ => Value.int .u8 0 := by
    rw [Int.toNat_natCast, List.map_const', List.length_range]
  cases s with
  | false =>
    show List.replicate _ _ = _
    rw [hrep]
    unfold txq
    refine List.map_congr_left fun t _ => ?_
    rw [decide_eq_false (show ¬ t < sLen false + 0 from Nat.not_lt_zero t)]
  | true =>
    show (List.replicate _ _).set (0 + 0 * 1) _ = _
    rw [hrep, map_set]
    unfold txq
    refine List.map_congr_left fun t _ => ?_
    by_cases h : t = 0 + 0 * 1
    · rw [if_pos h]
      subst h
      rfl
    · rw [if_neg h, decide_eq_false (show ¬ t < sLen true + 0 by simp only [sLen]; omega)]
theorem txq_succ (M L : Nat) (s : Bool) (i : Nat) : (txq M L s i).set (0 + (sLen s + i) * 1) (.int .u8 (chr (hexd M (L - 1 - i)))) = txq M L s (i + 1) := by
  unfold txq
  rw [map_set]
  refine List.map_congr_left fun t _ => ?_
  by_cases h : t = 0 + (sLen s + i) * 1
  · rw [if_pos h, decide_eq_true (by omega)]
    unfold tc
    rw [decide_eq_false (by omega), show t - sLen s = i by omega]
  · rw [if_neg h]
    by_cases h1 : t < sLen s + i
    · rw [decide_eq_true h1, decide_eq_true (by omega)]
    · rw [decide_eq_false h1, decide_eq_false (by omega)]
theorem all_ints {α : Type} (p : Value → Bool) (f : α → Int) (h : ∀ x, p (Value.int .u8 x) = true) (l : List α) : (l.map fun t => Value.int .u8 (f t)).all p = true := by
  rw [List.all_map, List.all_eq_true]
  intro t _
  exact h _
theorem txq_all (M L : Nat) (s : Bool) (i n : Nat) : (txq M L s i).all (noNew1 n) = true := all_ints _ _ (fun _ => rfl) _
theorem txq_length (M L : Nat) (s : Bool) (i : Nat) : (txq M L s i).length = L + 1 := by unfold txq; simp
theorem sLen_le (s : Bool) : sLen s ≤ 1 := by cases s <;> simp [sLen]
/-- How many hexadecimal digits a number has. -/
def hexLen (M : Nat) : Nat := if (bitLen M + 3) / 4 ≤ 1 then 1 else (bitLen M + 3) / 4
def textB : Option Int → ByteArray
  | none => ⟨#[111, 118, 101, 114]⟩
  | some z => strOf ((List.range (sLen (decide (z < 0)) + hexLen z.natAbs)).map (tc z.natAbs (hexLen z.natAbs) (decide (z < 0))))
theorem lenI_eq {b : Nat} (h : b ≤ 1023) : lenI b = ((if (b + 3) / 4 ≤ 1 then 1 else (b + 3) / 4 : Nat) : Int) := by
  unfold lenI
  have w1 : IntKind.i64.wrap ((b : Int) + 4) = b + 4 := i64_wrap (by omega) (by omega)
  have w2 : IntKind.i64.wrap ((b : Int) + 4 - 1) = b + 3 := by rw [i64_wrap (by omega) (by omega)]; omega
  have w3 : ((b : Int) + 3).tdiv 4 = (((b + 3) / 4 : Nat) : Int) := by rw [Int.tdiv_eq_ediv_of_nonneg (by omega)]; omega
  have w4 : IntKind.i64.wrap (((b + 3) / 4 : Nat) : Int) = (((b + 3) / 4 : Nat) : Int) := i64_wrap (by omega) (by omega)
  rw [w1, w2, w3, w4]
  split <;> split <;> omega
end Go.Proofs.Ytjmdppnhpfdhdaa.W
