/-
  The reference: bits.
-/
import Derived.Test.YtljolfnpncjklaaGreatRefA
namespace Go.Proofs.YtljolfnpncjklaaGreat.W
open Go Go.Ev Go.Wide

def biS (v : Int) (y : Nat) (q : List Value) : St := ⟨slots 25 [(2, .int .i64 0), (3, .int .i64 v), (4, .int .u32 y)], [⟨q, 77, false⟩]⟩
def biL : List Nat := [2, 3, 4]
theorem bi_key (v : Int) (y : Nat) (q : List Value) : evM Tryz.prog (loopN Tryz.f17 0) 400 biL (biS v y q) [.tst true, .at 1 (.int .i64 (v + 1)), .at 2 (.int .u32 ((y / 2 : Nat) : Int))] =
    some (conj [decide ((y : Int) > 0), decide (IntKind.i64.wrap (v + 1) = v + 1), decide (Int.fdiv (y : Int) 2 = ((y / 2 : Nat) : Int))], [], .normal, biS (v + 1) (y / 2) q) := by kernel_rfl
theorem bi_end (v : Int) (y : Nat) (q : List Value) : evM Tryz.prog (loopN Tryz.f17 0) 400 biL (biS v y q) [.tst false] =
    some (conj [!decide ((y : Int) > 0)], [], .exit 0, biS v y q) := by kernel_rfl
theorem rbits0_key (c : Nat) (q : List Value) : evFnM Tryz.prog Tryz.f17 400 [rsl 0 0 c] [⟨q, 77, false⟩] [] = some (conj [q.all (noNew1 1)], [], .int .i64 0, [⟨q, 77, false⟩]) := by kernel_rfl
theorem rbits_key (n c x : Nat) (b : Int) (q : List Value) : evFnM Tryz.prog Tryz.f17 400 [rsl 0 (n + 1) c] [⟨q, 77, false⟩] [.at 6 (.int .i64 n), .at 0 (.int .i64 ((32 * n : Nat) : Int)), .at 4 (.int .i64 n), .is 1 (.int .u32 x), .cut biL (.exit 0) (biS b 0 q)] =
    some (conj [conj [decide (IntKind.i64.wrap (((n + 1 : Nat) : Int) - 1) = (n : Int)), decide (IntKind.i64.wrap (32 * (n : Int)) = ((32 * n : Nat) : Int)), decide (IntKind.i64.wrap (((n + 1 : Nat) : Int) - 1) = (n : Int)), decide ((n : Int) < ((n + 1 : Nat) : Int)), decide (0 + ((n : Nat) : Int).toNat * 1 < q.length)], q.all (noNew1 1)],
      [q.getD (0 + ((n : Nat) : Int).toNat * 1) undef = .int .u32 x, TriL Tryz.prog (loopN Tryz.f17 0) (biS ((32 * n : Nat) : Int) x q) (to (.exit 0) (biS b 0 q))], .int .i64 b, [⟨q, 77, false⟩]) := by kernel_rfl
theorem enters_rbits : ∀ us w, (callFunc 17 us).run Tryz.prog w = .ok (.enter 17 us) w := enters Tryz.func17 rfl (by kernel_rfl)
theorem rbits_mc {n c x : Nat} {q : List Value} (hq : q.getD (0 + ((n : Nat) : Int).toNat * 1) undef = .int .u32 x) (hlen : n + 1 ≤ q.length) (hflat : q.all (noNew1 1) = true) (hn : n < 1000000) (hx : x < 4294967296) :
    MC Tryz.prog 17 [rsl 0 (n + 1) c] [⟨q, 77, false⟩] (.int .i64 ((32 * n + bitLen x : Nat) : Int)) [⟨q, 77, false⟩] := by
  have hb : bitLen x ≤ 32 := bitLen_lt_iff.2 (show x < 2 ^ 32 from hx)
  have hloop : TriL Tryz.prog (loopN Tryz.f17 0) (biS ((32 * n : Nat) : Int) x q) (to (.exit 0) (biS ((32 * n + bitLen x : Nat) : Int) 0 q)) := by
    have h := TriL.count (P := Tryz.prog) (c := loopN Tryz.f17 0) (e := .exit 0) (S' := biS ((32 * n + bitLen x : Nat) : Int) 0 q) (fun i => biS ((32 * n + i : Nat) : Int) (x / 2 ^ i) q) (by simp) (bitLen x) (fun i hi => ?_) (by
      have e : x / 2 ^ bitLen x = 0 := Nat.div_eq_of_lt (bitLen_lt_iff.1 (Nat.le_refl _))
      show Tri _ _ (biS _ (x / 2 ^ bitLen x) q) _
      rw [e]
      exact Tri.of_ev mixed 400 biL [.tst false] (bi_end _ 0 q) rfl trivial)
    · have e : x / 2 ^ 0 = x := by rw [Nat.pow_zero, Nat.div_one]
      simp only [e, Nat.add_zero] at h
      exact h
    · have hpos : 0 < x / 2 ^ i := by
        rw [Nat.div_pos_iff]
        refine ⟨Nat.two_pow_pos i, Nat.le_of_not_lt fun h => ?_⟩
        have := bitLen_lt_iff.2 h
        omega
      have key := bi_key ((32 * n + i : Nat) : Int) (x / 2 ^ i) q
      rw [Nat.div_div_eq_div_mul, ← Nat.pow_succ, show ((32 * n + i : Nat) : Int) + 1 = ((32 * n + (i + 1) : Nat) : Int) by omega] at key
      refine Tri.of_ev mixed 400 biL _ key ?_ trivial
      have w1 : IntKind.i64.wrap ((32 * n + (i + 1) : Nat) : Int) = ((32 * n + (i + 1) : Nat) : Int) := i64_wrap (by omega) (by omega)
      have w2 : Int.fdiv ((x / 2 ^ i : Nat) : Int) 2 = ((x / 2 ^ (i + 1) : Nat) : Int) := by
        have := fdiv_lit ((x / 2 ^ i : Nat) : Int) 2
        rw [show ((2 : Nat) : Int) = 2 from rfl] at this
        rw [this, Nat.pow_succ, ← Nat.div_div_eq_div_mul]
        omega
      rw [w1, w2, conj_cons, conj_cons, conj_cons, conj_nil, decide_eq_true rfl, decide_eq_true rfl, decide_eq_true (show ((x / 2 ^ i : Nat) : Int) > 0 by omega)]
      rfl
  have w1 : IntKind.i64.wrap (((n + 1 : Nat) : Int) - 1) = (n : Int) := by rw [i64_wrap (by omega) (by omega)]; omega
  have w2 : IntKind.i64.wrap (32 * (n : Int)) = ((32 * n : Nat) : Int) := by rw [i64_wrap (by omega) (by omega)]; omega
  refine MC.of_ev mixed Tryz.func17 400 _ (rbits_key n c x ((32 * n + bitLen x : Nat) : Int) q) ?_ ⟨hq, hloop, trivial⟩ enters_rbits
  rw [w1, w2, hflat, decide_eq_true rfl, decide_eq_true rfl, decide_eq_true (show (n : Int) < ((n + 1 : Nat) : Int) by omega), decide_eq_true (show 0 + ((n : Nat) : Int).toNat * 1 < q.length by omega)]
  rfl
end Go.Proofs.YtljolfnpncjklaaGreat.W
