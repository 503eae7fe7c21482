/-
  StripAgain: true distances to two others, each used twice.
-/
import Derived.Test.YtaibhjphgdjcmaaGreatStripL
import Derived.Test.YtaibhjphgdjcmaaGreatStripA
namespace Go.Proofs.YtaibhjphgdjcmaaGreat.W
open Go Go.Ev Go.Wide

/-! ### dist: a root by halving -/
def half : Nat → Nat
  | 0 => 0
  | k + 1 => 2 ^ k
def pB (p q : Int) : Blk := ⟨[.int .i64 p, .int .i64 q], 23, true⟩
def diS (p q s t : Int) (n d b : Nat) : St := ⟨slots 44 [(7, .int .i64 (n : Int)), (8, .int .i64 (d : Int)), (9, .int .i64 (b : Int))], [pB p q, pB s t]⟩
def diL : List Nat := [7, 8, 9]
theorem di_up {p q s t : Int} {n d b b' d' x : Nat} (h0 : (b : Int) > 0) (h1 : IntKind.i64.wrap ((d : Int) + (b : Int)) = (d' : Int)) (h2 : IntKind.i64.wrap ((d' : Int) * (d' : Int)) = (x : Int)) (h3 : (x : Int) ≤ (n : Int)) (h4 : ((b : Int)).fdiv (2 ^ (min (Int.toNat 1) 64)) = (b' : Int)) :
    Tri Tryz.prog (loopN Tryz.f19 0) (diS p q s t n d b) (to .normal (diS p q s t n d' b')) :=
  Tri.runK mixed diL 2 [.tst true, .is 2 (.int .i64 (d' : Int)), .is 2 (.int .i64 (d' : Int)), .is 0 (.int .i64 (x : Int)), .tst true, .is 2 (.int .i64 (d' : Int)), .is 2 (.int .i64 (b' : Int))] (ts2 (tT h0) (tT h3))
    (qs5 (congrArg (Value.int .i64) h1) (congrArg (Value.int .i64) h1) (congrArg (Value.int .i64) h2) (congrArg (Value.int .i64) h1) (congrArg (Value.int .i64) h4)) (by kernel_rfl)
theorem di_down {p q s t : Int} {n d b b' d' x : Nat} (h0 : (b : Int) > 0) (h1 : IntKind.i64.wrap ((d : Int) + (b : Int)) = (d' : Int)) (h2 : IntKind.i64.wrap ((d' : Int) * (d' : Int)) = (x : Int)) (h3 : ¬ (x : Int) ≤ (n : Int)) (h4 : ((b : Int)).fdiv (2 ^ (min (Int.toNat 1) 64)) = (b' : Int)) :
    Tri Tryz.prog (loopN Tryz.f19 0) (diS p q s t n d b) (to .normal (diS p q s t n d b')) :=
  Tri.runK mixed diL 2 [.tst true, .is 2 (.int .i64 (d' : Int)), .is 2 (.int .i64 (d' : Int)), .is 0 (.int .i64 (x : Int)), .tst false, .is 1 (.int .i64 (b' : Int))] (ts2 (tT h0) (tF h3))
    (qs4 (congrArg (Value.int .i64) h1) (congrArg (Value.int .i64) h1) (congrArg (Value.int .i64) h2) (congrArg (Value.int .i64) h4)) (by kernel_rfl)
theorem di_end {p q s t : Int} {n d b : Nat} (h0 : ¬ (b : Int) > 0) : Tri Tryz.prog (loopN Tryz.f19 0) (diS p q s t n d b) (to (.exit 0) (diS p q s t n d b)) :=
  Tri.runK mixed diL 2 [.tst false] (ts1 (tF h0)) qs0 (by kernel_rfl)
theorem half_next (k : Nat) : ((half (k + 1) : Nat) : Int).fdiv (2 ^ (min (Int.toNat 1) 64)) = ((half k : Nat) : Int) := by
  have e : ((2 : Int) ^ (min (Int.toNat 1) 64)) = ((2 : Nat) : Int) := by decide
  rw [e, Int.fdiv_eq_ediv_of_nonneg _ (by omega), ← Int.natCast_ediv]
  congr 1
  cases k with
  | zero => rfl
  | succ k =>
    show 2 ^ (k + 1) / 2 = 2 ^ k
    rw [Nat.pow_succ]
    omega
theorem di_loop {p q s t : Int} {n : Nat} : ∀ (k r : Nat), r + 2 ^ k ≤ 2147483648 → TriL Tryz.prog (loopN Tryz.f19 0) (diS p q s t n r (half k)) (to (.exit 0) (diS p q s t n (hlv k n r) 0))
  | 0, r, _ => TriL.out (by simp) (di_end (by simp [half]))
  | k + 1, r, h => by
    have hp : 2 ^ (k + 1) = 2 ^ k * 2 := Nat.pow_succ 2 k
    have h0 : 0 < 2 ^ k := Nat.two_pow_pos k
    have hb : ((half (k + 1) : Nat) : Int) > 0 := by show ((2 ^ k : Nat) : Int) > 0; omega
    have w1 : IntKind.i64.wrap ((r : Int) + ((half (k + 1) : Nat) : Int)) = ((r + 2 ^ k : Nat) : Int) := by
      show IntKind.i64.wrap ((r : Int) + ((2 ^ k : Nat) : Int)) = _
      rw [wrapS (by omega)]
      omega
    have hq : (r + 2 ^ k) * (r + 2 ^ k) ≤ 2147483648 * 2147483648 := Nat.mul_le_mul (by omega) (by omega)
    have w2 : IntKind.i64.wrap (((r + 2 ^ k : Nat) : Int) * ((r + 2 ^ k : Nat) : Int)) = (((r + 2 ^ k) * (r + 2 ^ k) : Nat) : Int) := by
      rw [← Int.natCast_mul, wrapS (by omega)]
    unfold hlv
    by_cases c : (r + 2 ^ k) * (r + 2 ^ k) ≤ n
    · rw [if_pos c]
      exact TriL.next (di_up hb w1 w2 (by omega) (half_next k)) (di_loop k _ (by omega))
    · rw [if_neg c]
      exact TriL.next (di_down hb w1 w2 (by omega) (half_next k)) (di_loop k _ (by omega))
theorem enters_dist8 : ∀ us w, (callFunc 19 us).run Tryz.prog w = .ok (.enter 19 us) w := enters Tryz.func19 rfl (by kernel_rfl)
theorem dist8_run {p q s t dx dy xx yy : Int} {n D : Nat} (ex : IntKind.i64.wrap (p - s) = dx) (ey : IntKind.i64.wrap (q - t) = dy) (xe : IntKind.i64.wrap (dx * dx) = xx) (ye : IntKind.i64.wrap (dy * dy) = yy) (de : IntKind.i64.wrap (xx + yy) = (n : Int))
    (hl : TriL Tryz.prog (loopN Tryz.f19 0) (diS p q s t n ((0 : Nat)) 1073741824) (to (.exit 0) (diS p q s t n D 0))) : PC Tryz.prog 19 [pt p q, pt s t] (.int .i64 (D : Int)) :=
  PC.run mixed Tryz.func19 [.is 7 (.int .i64 dx), .is 4 (.int .i64 dy), .is 4 (.int .i64 xx), .is 2 (.int .i64 yy), .is 0 (.int .i64 (n : Int)), .cut diL (.exit 0) (diS p q s t n D 0)] rfl ts0
    (qs6 (congrArg (Value.int .i64) ex) (congrArg (Value.int .i64) ey) (congrArg (Value.int .i64) xe) (congrArg (Value.int .i64) ye) (congrArg (Value.int .i64) de) hl) rfl rfl (by kernel_rfl)
theorem hlv_isq {k n : Nat} (h : n < 2 ^ k * 2 ^ k) : hlv k n 0 = isq n := by
  have hs := hlv_spec k n 0 (by omega) (by rw [Nat.zero_add]; exact h)
  exact (isq_eq hs.1 hs.2).symm
theorem dist8_qc {p q s t : Int} (bx : -33554432 ≤ p - s ∧ p - s ≤ 33554432) (by' : -33554432 ≤ q - t ∧ q - t ≤ 33554432) : QC Tryz.prog 19 [pt p q, pt s t] (.int .i64 (isq (d2 p q s t).natAbs : Nat)) := by
  have sx := sq_le bx
  have sy := sq_le by'
  have nx := sq_nn (p - s)
  have ny := sq_nn (q - t)
  have hn : (((d2 p q s t).natAbs : Nat) : Int) = (p - s) * (p - s) + (q - t) * (q - t) := by unfold d2; omega
  have hlt : (d2 p q s t).natAbs < 2 ^ 31 * 2 ^ 31 := by
    have e : (2 ^ 31 * 2 ^ 31 : Nat) = 4611686018427387904 := by decide
    omega
  rw [← hlv_isq hlt]
  refine QC.of_pc enters_dist8 (dist8_run (wrapS (by omega)) (wrapS (by omega)) (wrapS (by omega)) (wrapS (by omega)) ?_ (di_loop 31 0 (by decide)))
  rw [wrapS (by omega)]
  omega

/-! ### Four steps -/
theorem enters_stripAgain : ∀ us w, (callFunc 6 us).run Tryz.prog w = .ok (.enter 6 us) w := enters Tryz.func6 rfl (by kernel_rfl)
def m100 (s : Int) : Int := IntKind.i64.wrap ((IntKind.u64.wrap s).tmod 100)
/-- What a step needs of the distance D, and what bounds it makes. -/
structure Stp (D w lo hi : Int) : Prop where
  hi : IntKind.i64.wrap (IntKind.i64.wrap (D + 1) + w) = hi
  lo : (if IntKind.i64.wrap (D - w) > 0 then IntKind.i64.wrap (D - w) else 0) = lo
/-- What a step answers. -/
structure Stq (e x f : El) (p q lo hi : Int) : Prop where
  may : ¬ hi > 4194304
  up : QC Tryz.prog 10 [e.val, x.val, .int .i64 lo, .int .i64 hi] (Mk.mk f 0).val
  has : QC Tryz.prog 15 [f.val, pt p q] (.bool true)
  tr : QC Tryz.prog 18 [f.val] (.int .i64 f.tr)
  le : ¬ f.tr > e.tr
theorem Qc8 {p q : Prop} (h : p) (t : q) : p ∧ q := ⟨h, t⟩
section
variable {e n m f1 f2 f3 f4 : El} {p q u v s t wd w D E lo hi Lo Hi : Int}
  (i1 : QC Tryz.prog 15 [e.val, pt p q] (.bool true)) (i2 : QC Tryz.prog 15 [n.val, pt u v] (.bool true)) (i3 : QC Tryz.prog 15 [m.val, pt s t] (.bool true)) (hw : IntKind.i64.wrap ((IntKind.u64.wrap wd).tmod 100) = w)
  (ht : QC Tryz.prog 18 [e.val] (.int .i64 e.tr)) (dD : QC Tryz.prog 19 [pt p q, pt u v] (.int .i64 D)) (dE : QC Tryz.prog 19 [pt p q, pt s t] (.int .i64 E)) (sD : Stp D w lo hi) (sE : Stp E w Lo Hi)
include i1 i2 i3 hw ht dD dE sD sE
omit dE sE in
theorem again8_0 (c : hi > 4194304) : PC Tryz.prog 6 [e.val, n.val, m.val, pt p q, pt u v, pt s t, .int .i64 wd] (.bool true) :=
  PC.run mixed Tryz.func6 [.res (.bool true), .res (.bool true), .res (.bool true), .is 6 (.int .i64 w), .res (.int .i64 e.tr), .res (.int .i64 D), .is 5 (.int .i64 hi), .tst true, .res (.bool true)]
    rfl (tsC (tT c) <| ts0) (Qc8 i1 <| Qc8 i2 <| Qc8 i3 <| Qc8 (congrArg (Value.int .i64) hw) <| Qc8 ht <| Qc8 dD <| Qc8 (congrArg (Value.int .i64) sD.hi) <| Qc8 awake8 <| qs0) rfl rfl (by kernel_rfl)
theorem again8_1 (s0 : Stq e n f1 p q lo hi) (c : Hi > 4194304) : PC Tryz.prog 6 [e.val, n.val, m.val, pt p q, pt u v, pt s t, .int .i64 wd] (.bool true) :=
  PC.run mixed Tryz.func6 [.res (.bool true), .res (.bool true), .res (.bool true), .is 6 (.int .i64 w), .res (.int .i64 e.tr), .res (.int .i64 D), .is 5 (.int .i64 hi), .tst false, .is 5 (.int .i64 lo), .is 3 (.int .i64 hi), .res (Mk.mk f1 0).val, .res (.bool true), .res (.int .i64 f1.tr), .tst false, .res (.int .i64 f1.tr), .res (.int .i64 E), .is 5 (.int .i64 Hi), .tst true, .res (.bool true)]
    rfl (tsC (tF s0.may) <| tsC (tF s0.le) <| tsC (tT c) <| ts0) (Qc8 i1 <| Qc8 i2 <| Qc8 i3 <| Qc8 (congrArg (Value.int .i64) hw) <| Qc8 ht <| Qc8 dD <| Qc8 (congrArg (Value.int .i64) sD.hi) <| Qc8 (congrArg (Value.int .i64) sD.lo) <| Qc8 (congrArg (Value.int .i64) sD.hi) <| Qc8 s0.up <| Qc8 s0.has <| Qc8 s0.tr <| Qc8 s0.tr <| Qc8 dE <| Qc8 (congrArg (Value.int .i64) sE.hi) <| Qc8 awake8 <| qs0) rfl rfl (by kernel_rfl)
theorem again8_4 (s0 : Stq e n f1 p q lo hi) (s1 : Stq f1 m f2 p q Lo Hi) (s2 : Stq f2 n f3 p q lo hi) (s3 : Stq f3 m f4 p q Lo Hi) : PC Tryz.prog 6 [e.val, n.val, m.val, pt p q, pt u v, pt s t, .int .i64 wd] (.bool true) :=
  PC.run mixed Tryz.func6 [.res (.bool true), .res (.bool true), .res (.bool true), .is 6 (.int .i64 w), .res (.int .i64 e.tr), .res (.int .i64 D), .is 5 (.int .i64 hi), .tst false, .is 5 (.int .i64 lo), .is 3 (.int .i64 hi), .res (Mk.mk f1 0).val, .res (.bool true), .res (.int .i64 f1.tr), .tst false, .res (.int .i64 f1.tr), .res (.int .i64 E), .is 5 (.int .i64 Hi), .tst false, .is 5 (.int .i64 Lo), .is 3 (.int .i64 Hi), .res (Mk.mk f2 0).val, .res (.bool true), .res (.int .i64 f2.tr), .tst false, .res (.int .i64 f2.tr), .res (.int .i64 D), .is 5 (.int .i64 hi), .tst false, .is 5 (.int .i64 lo), .is 3 (.int .i64 hi), .res (Mk.mk f3 0).val, .res (.bool true), .res (.int .i64 f3.tr), .tst false, .res (.int .i64 f3.tr), .res (.int .i64 E), .is 5 (.int .i64 Hi), .tst false, .is 5 (.int .i64 Lo), .is 3 (.int .i64 Hi), .res (Mk.mk f4 0).val, .res (.bool true), .res (.int .i64 f4.tr), .tst false, .res (.int .i64 f4.tr), .res (.bool true)]
    rfl (tsC (tF s0.may) <| tsC (tF s0.le) <| tsC (tF s1.may) <| tsC (tF s1.le) <| tsC (tF s2.may) <| tsC (tF s2.le) <| tsC (tF s3.may) <| tsC (tF s3.le) <| ts0) (Qc8 i1 <| Qc8 i2 <| Qc8 i3 <| Qc8 (congrArg (Value.int .i64) hw) <| Qc8 ht <| Qc8 dD <| Qc8 (congrArg (Value.int .i64) sD.hi) <| Qc8 (congrArg (Value.int .i64) sD.lo) <| Qc8 (congrArg (Value.int .i64) sD.hi) <| Qc8 s0.up <| Qc8 s0.has <| Qc8 s0.tr <| Qc8 s0.tr <| Qc8 dE <| Qc8 (congrArg (Value.int .i64) sE.hi) <| Qc8 (congrArg (Value.int .i64) sE.lo) <| Qc8 (congrArg (Value.int .i64) sE.hi) <| Qc8 s1.up <| Qc8 s1.has <| Qc8 s1.tr <| Qc8 s1.tr <| Qc8 dD <| Qc8 (congrArg (Value.int .i64) sD.hi) <| Qc8 (congrArg (Value.int .i64) sD.lo) <| Qc8 (congrArg (Value.int .i64) sD.hi) <| Qc8 s2.up <| Qc8 s2.has <| Qc8 s2.tr <| Qc8 s2.tr <| Qc8 dE <| Qc8 (congrArg (Value.int .i64) sE.hi) <| Qc8 (congrArg (Value.int .i64) sE.lo) <| Qc8 (congrArg (Value.int .i64) sE.hi) <| Qc8 s3.up <| Qc8 s3.has <| Qc8 s3.tr <| Qc8 s3.tr <| Qc8 awake8 <| qs0) rfl rfl (by kernel_rfl)
end
theorem step8 {e x : El} {p q u v w : Int} (he : e.has p q = true) (hx : x.has u v = true) (hw : 0 ≤ w ∧ w < 100) : ∃ lo hi, QC Tryz.prog 19 [pt p q, pt u v] (.int .i64 (isq (d2 p q u v).natAbs : Nat)) ∧ Stp ((isq (d2 p q u v).natAbs : Nat) : Int) w lo hi ∧
    ∀ e' : El, e'.has p q = true → ¬ hi > 4194304 → ∃ f : El, Stq e' x f p q lo hi ∧ f.has p q = true := by
  obtain ⟨m1, _, _, b1, b2⟩ := inE_near he
  obtain ⟨m2, _, _, b3, b4⟩ := inE_near hx
  have g1 := mayL_iff.1 m1
  have g2 := mayL_iff.1 m2
  have bx : -33554432 ≤ p - u ∧ p - u ≤ 33554432 := by omega
  have by' : -33554432 ≤ q - v ∧ q - v ≤ 33554432 := by omega
  have sx := sq_le bx
  have sy := sq_le by'
  have nx := sq_nn (p - u)
  have ny := sq_nn (q - v)
  have hd2 : d2 p q u v = (p - u) * (p - u) + (q - v) * (q - v) := rfl
  have hd0 : 0 ≤ d2 p q u v := by omega
  have hs := isq_spec (d2 p q u v).natAbs
  have c1 : ((isq (d2 p q u v).natAbs * isq (d2 p q u v).natAbs : Nat) : Int) = ((isq (d2 p q u v).natAbs : Nat) : Int) * ((isq (d2 p q u v).natAbs : Nat) : Int) := Int.natCast_mul _ _
  have c2 : (((isq (d2 p q u v).natAbs + 1) * (isq (d2 p q u v).natAbs + 1) : Nat) : Int) = (((isq (d2 p q u v).natAbs : Nat) : Int) + 1) * (((isq (d2 p q u v).natAbs : Nat) : Int) + 1) := by rw [Int.natCast_mul]; rfl
  have hq := dist8_qc bx by'
  have hb := isq_of (n := d2 p q u v) (z := 67108864) hd0 (by omega) (by omega)
  obtain ⟨D, hD⟩ : ∃ D : Nat, isq (d2 p q u v).natAbs = D := ⟨_, rfl⟩
  rw [hD] at hs c1 c2 hq hb ⊢
  have e1 : IntKind.i64.wrap ((D : Int) - w) = (D : Int) - w := wrapS (by omega)
  have e2 : IntKind.i64.wrap (IntKind.i64.wrap ((D : Int) + 1) + w) = (D : Int) + 1 + w := by rw [wrapS (z := (D : Int) + 1) (by omega)]; exact wrapS (by omega)
  have le : (if IntKind.i64.wrap ((D : Int) - w) > 0 then IntKind.i64.wrap ((D : Int) - w) else 0) = max ((D : Int) - w) 0 := by rw [e1]; split <;> omega
  refine ⟨max ((D : Int) - w) 0, (D : Int) + 1 + w, hq, ⟨e2, le⟩, fun e' h' hi => ?_⟩
  have hl : max ((D : Int) - w) 0 * max ((D : Int) - w) 0 ≤ (D : Int) * (D : Int) := sq_le (n := (D : Int)) (by omega)
  have hh : ((D : Int) + 1) * ((D : Int) + 1) ≤ ((D : Int) + 1 + w) * ((D : Int) + 1 + w) := Int.mul_le_mul (by omega) (by omega) (by omega) (by omega)
  have hF : Far e' x (max ((D : Int) - w) 0) ((D : Int) + 1 + w) p q u v := ⟨h', hx, by omega, by omega⟩
  have m3 : e'.may = true := (inE_near h').1
  have hm : measB e' x (max ((D : Int) - w) 0) ((D : Int) + 1 + w) = true := measB_iff.2 ⟨m3, m2, by omega, by omega, by omega⟩
  rcases upd_cases hm with ⟨_, k2⟩ | ⟨g, k1, k2, k3, k4⟩
  · exact absurd hF (k2 _ _ _ _)
  · exact ⟨g, ⟨hi, upd_qc (may_ok m3) (may_ok m2) _ _ _ k1, has_qc (may_ok k2) p q _ (k4 _ _ _ _ hF), tr_qc (may_ok k2), by omega⟩, k4 _ _ _ _ hF⟩
theorem stripAgain_pc {e n m : El} (he : e.Ok) (hn : n.Ok) (hm : m.Ok) (p q u v s t wd : Int) : PC Tryz.prog 6 [e.val, n.val, m.val, pt p q, pt u v, pt s t, .int .i64 wd] (.bool true) := by
  have hfl : [e.val, n.val, m.val, pt p q, pt u v, pt s t, .int .i64 wd].all flat = true := rfl
  cases h1 : e.has p q with
  | false => exact PC.run mixed Tryz.func6 [.res (.bool false), .res (.bool true)] hfl ts0 (qs2 (has_qc he p q _ h1) awake8) rfl rfl (by kernel_rfl)
  | true =>
    cases h2 : n.has u v with
    | false => exact PC.run mixed Tryz.func6 [.res (.bool true), .res (.bool false), .res (.bool true)] hfl ts0 (qs3 (has_qc he p q _ h1) (has_qc hn u v _ h2) awake8) rfl rfl (by kernel_rfl)
    | true =>
      cases h3 : m.has s t with
      | false => exact PC.run mixed Tryz.func6 [.res (.bool true), .res (.bool true), .res (.bool false), .res (.bool true)] hfl ts0 (qs4 (has_qc he p q _ h1) (has_qc hn u v _ h2) (has_qc hm s t _ h3) awake8) rfl rfl (by kernel_rfl)
      | true =>
        have hw : 0 ≤ m100 wd ∧ m100 wd < 100 := u64_mod wd (by omega) (by omega)
        have i1 := has_qc he p q _ h1
        have i2 := has_qc hn u v _ h2
        have i3 := has_qc hm s t _ h3
        have ht := tr_qc he
        obtain ⟨lo, hi, dD, sD, kD⟩ := step8 h1 h2 hw
        obtain ⟨Lo, Hi, dE, sE, kE⟩ := step8 h1 h3 hw
        by_cases c0 : hi > 4194304
        · exact again8_0 i1 i2 i3 rfl ht dD sD c0
        · obtain ⟨f1, s0, k1⟩ := kD e h1 c0
          by_cases c1 : Hi > 4194304
          · exact again8_1 i1 i2 i3 rfl ht dD dE sD sE s0 c1
          · obtain ⟨f2, s1, k2⟩ := kE f1 k1 c1
            obtain ⟨f3, s2, k3⟩ := kD f2 k2 c0
            obtain ⟨f4, s3, _⟩ := kE f3 k3 c1
            exact again8_4 i1 i2 i3 rfl ht dD dE sD sE s0 s1 s2 s3
end Go.Proofs.YtaibhjphgdjcmaaGreat.W
