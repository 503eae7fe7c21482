/-
  The reference's numbers: Cmp, Int64.
-/
import Derived.Test.YtljolfnpncjklaaGreatTokF
/-! The reference: Cmp, Int64. -/
namespace Go.Proofs.YtljolfnpncjklaaGreat.R
open Go Go.Ev Go.W32
open Go.Proofs.YtljolfnpncjklaaGreat.W (mixed rsl i64_wrap u64_wrap u32_wrap bitLen_lt_iff clamp WF signI wcmp ordI wint fits64 Hi bitLen_Hi)

/-! ### Sub2, Cmp -/
theorem ord_sign (a b : Int) : ordI a b = signI (some (a - b)) := by
  show (if a < b then -1 else if b < a then 1 else 0) = (if a - b < 0 then -1 else if a - b = 0 then 0 else (1 : Int))
  rcases Int.lt_trichotomy a b with h | h | h
  · rw [if_pos h, if_pos (show a - b < 0 by omega)]
  · rw [if_neg (show ¬ a < b by omega), if_neg (show ¬ b < a by omega), if_neg (show ¬ a - b < 0 by omega), if_pos (show a - b = 0 by omega)]
  · rw [if_neg (show ¬ a < b by omega), if_pos h, if_neg (show ¬ a - b < 0 by omega), if_neg (show ¬ a - b = 0 by omega)]
/-! ### Int64 -/
theorem enters_rInt64 : ∀ us w, (callFunc 71 us).run Tryz.prog w = .ok (.enter 71 us) w := enters Tryz.func71 rfl (by kernel_rfl)
/-- A number of n words. -/
def rBn (s : Bool) (N n : Nat) : Value := .agg #[.bool s, .bool false, tk N n]
def noI : Value := .tuple #[i6 0, .bool false]
theorem int_O : MC Tryz.prog 71 [rB false true 0] [] noI [] :=
  AC.runA mixed Tryz.func71 [] ts0 qs0 rfl enters_rInt64 (by kernel_rfl)
theorem int_big {s : Bool} {N n : Nat} (h : n > 2) : MC Tryz.prog 71 [rBn s N n] [] noI [] :=
  AC.runA mixed Tryz.func71 [.auto, .tst true] (ts1 (tT (show (n : Int) > 2 by omega))) qs0 rfl enters_rInt64 (by kernel_rfl)
theorem int_0 {N : Nat} : MC Tryz.prog 71 [rBn false N 0] [] (.tuple #[i6 0, .bool true]) [] :=
  AC.runA mixed Tryz.func71 [] ts0 qs0 rfl enters_rInt64 (by kernel_rfl)
theorem shl0 {x : Nat} (h : x < 18446744073709551616) : Value.int .u64 (IntKind.u64.wrap ((x : Int) * 2 ^ (min (Int.toNat 0) 64))) = u6 x := shlV (x := x) (r := 0) (by omega) (by omega) h
theorem or0 {x : Nat} (h : x < 18446744073709551616) : Value.int .u64 (IntKind.u64.wrap ((BitVec.ofInt 64 ((0 : Nat) : Int) ||| BitVec.ofInt 64 (x : Int)).toNat : Int)) = u6 x := or64 (h := 0) (lo := x) (by omega) h (Nat.zero_or x)
theorem int_1f {N x : Nat} (hx : wd N 0 = x) (h2 : x < 4294967296) : MC Tryz.prog 71 [rBn false N 1] [] (.tuple #[i6 x, .bool true]) [] := by
  have o1 : word32 N ((0 : Nat) : Int).toNat = u3 x := by rw [tk_get, hx]
  exact AC.runA mixed Tryz.func71 [.is 19 (u3 x), .at 4 (u6 x), .is 3 (u6 x), .is 0 (u6 x), .auto, .auto, .tst false, .at 1 (i6 x)]
    (tsC (wrapU (n := (x : Int)) (m := x) rfl (by omega)) <| tsC (tF (p := (x : Int) ≥ 9223372036854775808) (by omega)) <| tsC (wrapI (n := (x : Int)) (z := x) rfl (by omega) (by omega)) ts0) (qsC o1 <| qsC (shl0 (x := x) (by omega)) <| qsC (or0 (x := x) (by omega)) qs0) rfl enters_rInt64 (by kernel_rfl)
theorem int_1t {N x y : Nat} {z : Int} (hx : wd N 0 = x) (h2 : x < 4294967296) (hy : IntKind.u64.wrap (0 - (x : Int)) = y) (hz : IntKind.i64.wrap (y : Int) = z) : MC Tryz.prog 71 [rBn true N 1] [] (.tuple #[i6 z, .bool true]) [] := by
  have o1 : word32 N ((0 : Nat) : Int).toNat = u3 x := by rw [tk_get, hx]
  exact AC.runA mixed Tryz.func71 [.is 19 (u3 x), .at 4 (u6 x), .is 3 (u6 x), .is 0 (u6 x), .auto, .auto, .tst false, .at 1 (u6 y), .at 0 (i6 z)]
    (tsC (wrapU (n := (x : Int)) (m := x) rfl (by omega)) <| tsC (tF (p := (x : Int) > 9223372036854775808) (by omega)) <| tsC (tT hy) <| tsC (tT hz) ts0) (qsC o1 <| qsC (shl0 (x := x) (by omega)) <| qsC (or0 (x := x) (by omega)) qs0) rfl enters_rInt64 (by kernel_rfl)
theorem int_2 {s : Bool} {N x0 x1 y1 u : Nat} {ans : List Ans} {tests : List Bool} {v : Value} (h0 : wd N 0 = x0) (h1 : wd N 1 = x1) (l0 : x0 < 4294967296) (l1 : x1 < 4294967296) (hy : x1 * 4294967296 = y1) (hu : x0 ||| y1 = u) (ht : conj tests = true) (hv : absV v = true)
    (e : evFnA3 Tryz.prog Tryz.f71 400 [rBn s N 2] ([.is 19 (u3 x0), .at 4 (u6 x0), .is 3 (u6 x0), .is 0 (u6 x0), .is 6 (u3 x1), .at 4 (u6 x1), .is 3 (u6 y1), .is 0 (u6 u), .auto, .auto] ++ ans) =
      some (conj (decide (IntKind.u64.wrap (x0 : Int) = (x0 : Int)) :: decide (IntKind.u64.wrap (x1 : Int) = (x1 : Int)) :: tests), word32 N ((0 : Nat) : Int).toNat = u3 x0 ∧ Value.int .u64 (IntKind.u64.wrap ((x0 : Int) * 2 ^ (min (Int.toNat 0) 64))) = u6 x0 ∧ Value.int .u64 (IntKind.u64.wrap ((BitVec.ofInt 64 ((0 : Nat) : Int) ||| BitVec.ofInt 64 (x0 : Int)).toNat : Int)) = u6 x0 ∧
        word32 N ((1 : Nat) : Int).toNat = u3 x1 ∧ Value.int .u64 (IntKind.u64.wrap ((x1 : Int) * 2 ^ (min (Int.toNat 32) 64))) = u6 y1 ∧ Value.int .u64 (IntKind.u64.wrap ((BitVec.ofInt 64 (x0 : Int) ||| BitVec.ofInt 64 (y1 : Int)).toNat : Int)) = u6 u ∧ True, v)) :
    MC Tryz.prog 71 [rBn s N 2] [] v [] := by
  have o1 : word32 N ((0 : Nat) : Int).toNat = u3 x0 := by rw [tk_get, h0]
  have o2 : word32 N ((1 : Nat) : Int).toNat = u3 x1 := by rw [tk_get, h1]
  exact AC.runA mixed Tryz.func71 _ (tsC (wrapU (n := (x0 : Int)) (m := x0) rfl (by omega)) <| tsC (wrapU (n := (x1 : Int)) (m := x1) rfl (by omega)) ht)
    (qsC o1 <| qsC (shl0 (x := x0) (by omega)) <| qsC (or0 (x := x0) (by omega)) <| qsC o2 <| qsC (shl32 hy (by omega)) <| qsC (or64 (h := x0) (lo := y1) (by omega) (by omega) hu) qs0) hv enters_rInt64 e
/-- Does a number fit. -/
theorem rInt64_t {A : Option Int} (hA : WF A) : MC Tryz.prog 71 [rV A] [] (wint A) [] := by
  cases A with
  | none => exact int_O
  | some z =>
    show MC _ _ [rBn (decide (z < 0)) z.natAbs (nw z.natAbs)] [] (match fits64 z with | true => .tuple #[.int .i64 z, .bool true] | false => .tuple #[.int .i64 0, .bool false]) []
    have hlt := lt_nw z.natAbs
    have hp := nw_pos (N := z.natAbs)
    have hfit : ∀ b, (b = true ↔ -9223372036854775808 ≤ z ∧ z ≤ 9223372036854775807) → fits64 z = b := fun b h => by
      rw [Bool.eq_iff_iff, h]
      unfold fits64
      rw [Bool.and_eq_true, decide_eq_true_eq, decide_eq_true_eq]
    by_cases h2 : nw z.natAbs > 2
    · have hbig : ¬ z.natAbs < 2 ^ (32 * 2) := fun h => by have := nw_le h; omega
      rw [hfit false (by
        have : (2 : Nat) ^ (32 * 2) = 18446744073709551616 := by decide
        constructor
        · intro h; cases h
        · intro h; omega)]
      exact int_big h2
    · have hcs : nw z.natAbs = 0 ∨ nw z.natAbs = 1 ∨ nw z.natAbs = 2 := by omega
      rcases hcs with h | h | h
      · have hz : z = 0 := by
          have : ¬ z.natAbs ≠ 0 := fun h0 => by have := hp.2 h0; omega
          omega
        subst hz
        exact int_0
      · rw [h] at hlt ⊢
        have hlt' : z.natAbs < 4294967296 := hlt
        have hx : wd z.natAbs 0 = z.natAbs := by unfold wd; rw [Nat.mul_zero, Nat.pow_zero, Nat.div_one]; exact Nat.mod_eq_of_lt hlt'
        rw [hfit true (by constructor; (intro _; omega); (intro _; rfl))]
        by_cases hz : z < 0
        · rw [decide_eq_true hz]
          exact int_1t (y := 18446744073709551616 - z.natAbs) hx hlt' (by rw [u64_wrap]; omega) (by
            rw [IntKind.wrap_i64]; omega)
        · rw [decide_eq_false hz]
          have key := int_1f hx hlt'
          rw [show ((z.natAbs : Nat) : Int) = z by omega] at key
          exact key
      · rw [h] at hlt ⊢
        have hlt' : z.natAbs < 18446744073709551616 := hlt
        have h0 : wd z.natAbs 0 = z.natAbs % 4294967296 := by unfold wd; rw [Nat.mul_zero, Nat.pow_zero, Nat.div_one]
        have h1 : wd z.natAbs 1 = z.natAbs / 4294967296 := by unfold wd; exact Nat.mod_eq_of_lt (by omega)
        have hu : z.natAbs % 4294967296 ||| z.natAbs / 4294967296 * 4294967296 = z.natAbs := by
          rw [Nat.or_comm, Nat.mul_comm]
          have := or_add (a := z.natAbs / 4294967296) (b := z.natAbs % 4294967296) (k := 32) (Nat.mod_lt _ (by omega))
          rw [show (2 : Nat) ^ 32 = 4294967296 from rfl] at this
          rw [this]
          exact Nat.div_add_mod _ _
        have l0 : z.natAbs % 4294967296 < 4294967296 := Nat.mod_lt _ (by omega)
        have l1 : z.natAbs / 4294967296 < 4294967296 := by omega
        by_cases hz : z < 0
        · rw [decide_eq_true hz]
          by_cases hb : z.natAbs > 9223372036854775808
          · rw [hfit false (by constructor; (intro h; cases h); (intro _; omega))]
            exact int_2 (ans := [.tst true]) (tests := [decide (((z.natAbs : Nat) : Int) > 9223372036854775808)]) h0 h1 l0 l1 rfl hu (tsC (decide_eq_true (by omega)) ts0) rfl (by kernel_rfl)
          · rw [hfit true (by constructor; (intro _; omega); (intro _; rfl))]
            have hw : IntKind.i64.wrap ((18446744073709551616 - z.natAbs : Nat) : Int) = z := by
              rw [IntKind.wrap_i64]; omega
            exact int_2 (ans := [.tst false, .at 1 (u6 (18446744073709551616 - z.natAbs)), .at 0 (i6 z)]) (tests := [!decide (((z.natAbs : Nat) : Int) > 9223372036854775808), decide (IntKind.u64.wrap (0 - ((z.natAbs : Nat) : Int)) = ((18446744073709551616 - z.natAbs : Nat) : Int)), decide (IntKind.i64.wrap ((18446744073709551616 - z.natAbs : Nat) : Int) = z)]) h0 h1 l0 l1 rfl hu
              (tsC (by rw [decide_eq_false (by omega)]; rfl) <| tsC (decide_eq_true (by rw [u64_wrap]; omega)) <| tsC (decide_eq_true hw) ts0) rfl (by kernel_rfl)
        · rw [decide_eq_false hz]
          by_cases hb : z.natAbs ≥ 9223372036854775808
          · rw [hfit false (by constructor; (intro h; cases h); (intro _; omega))]
            exact int_2 (ans := [.tst true]) (tests := [decide (((z.natAbs : Nat) : Int) ≥ 9223372036854775808)]) h0 h1 l0 l1 rfl hu (tsC (decide_eq_true (by omega)) ts0) rfl (by kernel_rfl)
          · rw [hfit true (by constructor; (intro _; omega); (intro _; rfl))]
            have hzz : ((z.natAbs : Nat) : Int) = z := by omega
            have key := int_2 (s := false) (N := z.natAbs) (ans := [.tst false, .at 1 (i6 ((z.natAbs : Nat) : Int))]) (tests := [!decide (((z.natAbs : Nat) : Int) ≥ 9223372036854775808), decide (IntKind.i64.wrap ((z.natAbs : Nat) : Int) = ((z.natAbs : Nat) : Int))]) (v := .tuple #[i6 ((z.natAbs : Nat) : Int), .bool true]) h0 h1 l0 l1 rfl hu
              (tsC (by rw [decide_eq_false (by omega)]; rfl) <| tsC (decide_eq_true (i64_wrap (by omega) (by omega))) ts0) rfl (by kernel_rfl)
            rw [hzz] at key
            exact key
end Go.Proofs.YtljolfnpncjklaaGreat.R
