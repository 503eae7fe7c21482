/-
  The reference, on numbers whose words nobody writes any more: trim, bits, made, Of, Neg.
-/
import Derived.Test.YtljolfnpncjklaaGreatRefC
/-! The reference: trim, bits, made. -/
namespace Go.Ev
section
variable {P : Program}
/-- A result that hangs on no block. -/
theorem AC.runN (hm : P.follows .mixedOrders = true) {f : FuncId} {fn : Func} (hf : P.funcs[f]? = some fn) {args : List Value} (ans : List Ans) {X : Bool} {A : Prop} {x v : Value}
    (hx : X = true) (ha : A) (hz : ∀ mem, Frz mem x v) (he : ∀ us w, (callFunc f us).run P w = .ok (.enter f us) w) (e : evFnA3 P fn 400 args ans = some (X, A, x)) : MC P f args [] v [] := by
  unfold evFnA3 at e
  split at e
  · rename_i r hr
    cases e
    exact AC.of_ev hm hf hr hx (allP_iff ha) (hz _) he
  · cases e
end
end Go.Ev
namespace Go.Proofs.YtljolfnpncjklaaGreat.R
open Go Go.Ev Go.W32
open Go.Proofs.YtljolfnpncjklaaGreat.W (mixed rsl i64_wrap u64_wrap u32_wrap bitLen_lt_iff enters_trim enters_rbits fdiv_lit)

def u6 (n : Nat) : Value := .int .u64 n
def u3 (n : Nat) : Value := .int .u32 n
theorem tk_get (N i : Nat) : word32 N ((i : Nat) : Int).toNat = u3 (wd N i) := by
  unfold word32 wd u3
  rw [Int.toNat_natCast]
theorem tk_slice (N n : Nat) : sliceTok (N / 2 ^ (32 * 0)) (((n : Nat) : Int).toNat - 0) = sliceTok N n := by
  rw [Int.toNat_natCast, Nat.mul_zero, Nat.pow_zero, Nat.div_one, Nat.sub_zero]
theorem wrap32 {x lo : Nat} (h : x % 4294967296 = lo) : decide (IntKind.u32.wrap (x : Int) = (lo : Int)) = true := decide_eq_true (by rw [u32_wrap]; omega)
theorem shr32 {x hi : Nat} (h : x / 4294967296 = hi) : decide ((x : Int).fdiv (2 ^ (min (Int.toNat 32) 64)) = (hi : Int)) = true := decide_eq_true (by
  have e : ((2 : Int) ^ (min (Int.toNat 32) 64)) = ((4294967296 : Nat) : Int) := by decide
  rw [e, Int.fdiv_eq_ediv_of_nonneg _ (by omega)]
  omega)
theorem ltL {m j : Nat} {f : Nat → Nat} (h : j < m) : decide (0 + ((j : Nat) : Int).toNat * 1 < (cells m f).length) = true := decide_eq_true (by rw [cells_len, Int.toNat_natCast]; omega)
theorem mkOk {n : Nat} (h : n < 1000000) : (decide (((n : Nat) : Int) ≤ ((n : Nat) : Int)) && Nat.ble (4 * ((n : Nat) : Int).toNat) 281474976710656 && Nat.ble ((n : Nat) : Int).toNat 281474976710656) = true := by
  rw [decide_eq_true (by omega), Int.toNat_natCast, Nat.ble_eq_true_of_le (by omega), Nat.ble_eq_true_of_le (by omega)]
  rfl
/-- A slice of the n lowest words of N. -/
abbrev tk (N n : Nat) : Value := sliceTok N n

/-! ### trim -/
def ttS (N n : Nat) : St := ⟨slots 21 [(0, tk N n), (2, .slice none 0 0)], []⟩
theorem tt_round {N n : Nat} (hn : n < 1000000) (hz : wd N n = 0) : Tri Tryz.prog (loopN Tryz.f77 0) (ttS N (n + 1)) (to .normal (ttS N n)) := by
  have w1 : IntKind.i64.wrap (((n + 1 : Nat) : Int) - 1) = (n : Int) := by rw [i64_wrap (by omega) (by omega)]; omega
  have o1 : word32 N ((n : Nat) : Int).toNat = u3 0 := by rw [tk_get, hz]
  exact Tri.go mixed [0, 2] [.tst true, .at 3 (.int .i64 n), .is 1 (u3 0), .at 5 (.int .i64 n), .is 0 (tk N n)] (tsC (tT (show ((n + 1 : Nat) : Int) > 0 by omega)) <| tsC (tT w1) <| tsC (ltI (j := n) (n := n + 1) (by omega)) <| tsC (tT w1) <| tsC (show (decide (((n : Nat) : Int) ≤ ((n + 1 : Nat) : Int)) && true) = true by rw [decide_eq_true (by omega)]; rfl) ts0) (qs2 o1 (tk_slice N n)) (by kernel_rfl)
theorem tt_end0 (N : Nat) : Tri Tryz.prog (loopN Tryz.f77 0) (ttS N 0) (to (.exit 0) (ttS N 0)) := Tri.go mixed [0, 2] [] ts0 qs0 (by kernel_rfl)
theorem tt_end {N n : Nat} (hn : n < 1000000) (hz : wd N n ≠ 0) : Tri Tryz.prog (loopN Tryz.f77 0) (ttS N (n + 1)) (to (.exit 0) (ttS N (n + 1))) := by
  have w1 : IntKind.i64.wrap (((n + 1 : Nat) : Int) - 1) = (n : Int) := by rw [i64_wrap (by omega) (by omega)]; omega
  have o1 : word32 N ((n : Nat) : Int).toNat = u3 (wd N n) := tk_get N n
  exact Tri.go mixed [0, 2] [.tst true, .at 3 (.int .i64 n), .is 1 (u3 (wd N n)), .tst false] (tsC (tT (show ((n + 1 : Nat) : Int) > 0 by omega)) <| tsC (tT w1) <| tsC (ltI (j := n) (n := n + 1) (by omega)) <| tsC (show (!(((wd N n : Nat) : Int) == 0)) = true by rw [show (((wd N n : Nat) : Int) == 0) = false by rw [beq_eq_false_iff_ne]; omega]; rfl) ts0) (qs1 o1) (by kernel_rfl)
theorem trim_t {N n : Nat} (hN : N < 2 ^ (32 * n)) (hn : n < 1000000) : MC Tryz.prog 77 [tk N n] [] (tk N (nw N)) [] := by
  have hle := nw_le hN
  have hend : Tri Tryz.prog (loopN Tryz.f77 0) (ttS N (nw N)) (to (.exit 0) (ttS N (nw N))) := by
    by_cases h0 : nw N = 0
    · rw [h0]; exact tt_end0 N
    · obtain ⟨k, hk⟩ : ∃ k, nw N = k + 1 := ⟨nw N - 1, by omega⟩
      have ht := wd_top h0
      have hp := (nw_top h0).1
      rw [hk] at ht hp ⊢
      rw [Nat.add_sub_cancel] at ht hp
      exact tt_end (by omega) (by rw [ht]; exact hp)
  have h := TriL.count (P := Tryz.prog) (c := loopN Tryz.f77 0) (e := .exit 0) (S' := ttS N (nw N)) (fun i => ttS N (n - i)) (by simp) (n - nw N) (fun i hi => ?_) (by
    show Tri _ _ (ttS N (n - (n - nw N))) _
    rw [show n - (n - nw N) = nw N by omega]; exact hend)
  · exact AC.runA mixed Tryz.func77 [.cut [0, 2] (.exit 0) (ttS N (nw N))] ts0 (qs1 (show TriL Tryz.prog (loopN Tryz.f77 0) (ttS N n) (to (.exit 0) (ttS N (nw N))) from h)) rfl enters_trim (by kernel_rfl)
  · show Tri _ _ (ttS N (n - i)) (to _ (ttS N (n - (i + 1))))
    rw [show n - i = (n - (i + 1)) + 1 by omega]
    exact tt_round (by omega) (nw_lt (N := N) (n := n) _ (by omega) (by omega))

/-! ### bits -/
def btS (v : Int) (y : Nat) : St := ⟨slots 25 [(2, .int .i64 0), (3, .int .i64 v), (4, .int .u32 y)], []⟩
theorem bt_round {v : Int} {y z : Nat} (h0 : (y : Int) > 0) (h1 : IntKind.i64.wrap (v + 1) = v + 1) (h2 : Int.fdiv (y : Int) 2 = (z : Int)) : Tri Tryz.prog (loopN Tryz.f17 0) (btS v y) (to .normal (btS (v + 1) z)) :=
  Tri.go mixed [2, 3, 4] [.tst true, .at 1 (.int .i64 (v + 1)), .at 2 (.int .u32 (z : Nat))] (ts3 (tT h0) (tT h1) (tT h2)) qs0 (by kernel_rfl)
theorem bt_end {v : Int} : Tri Tryz.prog (loopN Tryz.f17 0) (btS v 0) (to (.exit 0) (btS v 0)) :=
  Tri.go mixed [2, 3, 4] [] ts0 qs0 (by kernel_rfl)
theorem bits_t {N : Nat} (hn : nw N < 1000000) : MC Tryz.prog 17 [tk N (nw N)] [] (.int .i64 (bitLen N)) [] := by
  by_cases h0 : nw N = 0
  · have hN : N = 0 := by have := lt_nw N; rw [h0] at this; simpa using this
    subst hN
    rw [h0]
    exact AC.runA mixed Tryz.func17 [] ts0 qs0 rfl enters_rbits (by kernel_rfl)
  · obtain ⟨n, hk⟩ : ∃ k, nw N = k + 1 := ⟨nw N - 1, by omega⟩
    have hbl := bitLen_nw h0
    rw [hk, Nat.add_sub_cancel] at hbl
    rw [hbl, hk]
    have hx := wd_lt N n
    have o1 : word32 N ((n : Nat) : Int).toNat = u3 (wd N n) := tk_get N n
    generalize wd N n = x at *
    have hb : bitLen x ≤ 32 := bitLen_lt_iff.2 (show x < 2 ^ 32 from hx)
    have hloop : TriL Tryz.prog (loopN Tryz.f17 0) (btS ((32 * n : Nat) : Int) x) (to (.exit 0) (btS ((32 * n + bitLen x : Nat) : Int) 0)) := by
      have h := TriL.count (P := Tryz.prog) (c := loopN Tryz.f17 0) (e := .exit 0) (S' := btS ((32 * n + bitLen x : Nat) : Int) 0) (fun i => btS ((32 * n + i : Nat) : Int) (x / 2 ^ i)) (by simp) (bitLen x) (fun i hi => ?_) (by
        have e : x / 2 ^ bitLen x = 0 := Nat.div_eq_of_lt (bitLen_lt_iff.1 (Nat.le_refl _))
        show Tri _ _ (btS _ (x / 2 ^ bitLen x)) _
        rw [e]
        exact bt_end)
      · have e : x / 2 ^ 0 = x := by rw [Nat.pow_zero, Nat.div_one]
        simp only [e, Nat.add_zero] at h
        exact h
      · have hpos : 0 < x / 2 ^ i := by
          rw [Nat.div_pos_iff]
          refine ⟨Nat.two_pow_pos i, Nat.le_of_not_lt fun h => ?_⟩
          have := bitLen_lt_iff.2 h
          omega
        have w2 : Int.fdiv ((x / 2 ^ i : Nat) : Int) 2 = ((x / 2 ^ (i + 1) : Nat) : Int) := by
          have := fdiv_lit ((x / 2 ^ i : Nat) : Int) 2
          rw [show ((2 : Nat) : Int) = 2 from rfl] at this
          rw [this, Nat.pow_succ, ← Nat.div_div_eq_div_mul]
          omega
        have key := bt_round (v := ((32 * n + i : Nat) : Int)) (y := x / 2 ^ i) (z := x / 2 ^ (i + 1)) (by omega) (i64_wrap (by omega) (by omega)) w2
        rw [show ((32 * n + i : Nat) : Int) + 1 = ((32 * n + (i + 1) : Nat) : Int) by omega] at key
        exact key
    have w1 : IntKind.i64.wrap (((n + 1 : Nat) : Int) - 1) = (n : Int) := by rw [i64_wrap (by omega) (by omega)]; omega
    have w2 : IntKind.i64.wrap (32 * (n : Int)) = ((32 * n : Nat) : Int) := by rw [i64_wrap (by omega) (by omega)]; omega
    exact AC.runA mixed Tryz.func17 [.at 6 (.int .i64 n), .at 0 (.int .i64 ((32 * n : Nat) : Int)), .at 4 (.int .i64 n), .is 1 (u3 x), .cut [2, 3, 4] (.exit 0) (btS ((32 * n + bitLen x : Nat) : Int) 0)]
      ((tsC (tT w1) <| tsC (tT w2) <| tsC (tT w1) <| tsC (ltI (j := n) (n := n + 1) (by omega)) ts0)) (qs2 o1 hloop) rfl enters_rbits (by kernel_rfl)

/-! ### made -/
theorem nw_zero : nw 0 = 0 := rfl
/-- A number of the reference: its sign, is it over, its words. -/
def rB (s o : Bool) (N : Nat) : Value := .agg #[.bool s, .bool o, tk N (nw N)]
theorem Frz1.nil {mem : Mem} (N : Nat) : Frz1 mem (.slice none 0 0) (tk N 0) := .inr (.inr (.inl ⟨N, 0, rfl, rfl⟩))
theorem Frz.nil {mem : Mem} (N : Nat) : Frz mem (.slice none 0 0) (tk N 0) := .inr (.inr (Frz1.nil N))
theorem Frz2.none {mem : Mem} {s o : Bool} : Frz2 mem (.agg #[.bool s, .bool o, .slice none 0 0]) (rB s o 0) :=
  .inl ⟨_, _, rfl, rfl, PW.cons (Frz1.ofAbs rfl) (PW.cons (Frz1.ofAbs rfl) (PW.cons (Frz1.nil 0) PW.nil))⟩
theorem Frz.none {s o : Bool} (mem : Mem) : Frz mem (.agg #[.bool s, .bool o, .slice none 0 0]) (rB s o 0) := .inr Frz2.none
def mV (s : Bool) (N : Nat) : Value := match decide (bitLen N > 1023) with | true => rB false true 0 | false => rB (s && decide (N ≠ 0)) false N
theorem made_t {s : Bool} {N n : Nat} (hN : N < 2 ^ (32 * n)) (hn : n < 1000000) : MC Tryz.prog 37 [.bool s, tk N n] [] (mV s N) [] := by
  have h1 := trim_t hN hn
  have h2 := bits_t (N := N) (by have := nw_le hN; omega)
  unfold mV
  by_cases h : bitLen N > 1023
  · rw [decide_eq_true h]
    exact AC.runN mixed Tryz.func37 [.ab (tk N (nw N)), .ab (.int .i64 (bitLen N)), .tst true] (ts1 (tT (show ((bitLen N : Nat) : Int) > 1023 by omega))) (qs2 h1 h2) Frz.none enters_made (by kernel_rfl)
  · rw [decide_eq_false h]
    cases s with
    | false => exact AC.runA mixed Tryz.func37 [.ab (tk N (nw N)), .ab (.int .i64 (bitLen N)), .tst false] (ts1 (tF (show ¬ ((bitLen N : Nat) : Int) > 1023 by omega))) (qs2 h1 h2) rfl enters_made (by kernel_rfl)
    | true =>
      have e : decide (((nw N : Nat) : Int) > 0) = (true && decide (N ≠ 0)) := by
        rw [Bool.true_and]
        exact decide_eq_decide.2 (by rw [← nw_pos]; omega)
      rw [← e]
      exact AC.runA mixed Tryz.func37 [.ab (tk N (nw N)), .ab (.int .i64 (bitLen N)), .tst false] (ts1 (tF (show ¬ ((bitLen N : Nat) : Int) > 1023 by omega))) (qs2 h1 h2) rfl enters_made (by kernel_rfl)
end Go.Proofs.YtljolfnpncjklaaGreat.R
