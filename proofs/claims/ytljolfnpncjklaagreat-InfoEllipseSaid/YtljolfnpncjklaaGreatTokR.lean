/-
  The reference's roots and quotients of int64s.
-/
import Derived.Test.YtljolfnpncjklaaGreatTokN
import Derived.Test.YtljolfnpncjklaaGreatTokM
import Derived.Test.YtljolfnpncjklaaGreatRoot
namespace Go.Proofs.YtljolfnpncjklaaGreat.R
open Go Go.Ev Go.W32
open Go.Proofs.YtljolfnpncjklaaGreat.W (mixed i64_wrap clamp WF signI Hi clamp_eq Sm I64 isq isq_self isq_spec csq errI errV wnar fits64 fits64_iff sqI upI mdV muV cdiv fdiv_wf neg_wf wint wneg wneg_wf mdV_form muV_form isq_zero csq_zero)

theorem rneg {a : Int} (ha : WF (some a)) : MC Tryz.prog 28 [rz a] [] (rz (-a)) [] := rNeg_t ha
theorem rdiv {a b : Int} (ha : WF (some a)) (hb : WF (some b)) (h0 : b ≠ 0) : MC Tryz.prog 70 [rz a, rz b] [] (.tuple #[rz (a.fdiv b), .int .i64 ((0 : Nat) : Int)]) [] := by
  have h := rDiv_t ha hb
  rw [show rdivV (some a) (some b) = errV (rV (some (a.fdiv b))) 0 from if_neg h0] at h
  exact h
theorem rsqrt {z : Int} (h0 : 0 ≤ z) (hz : WF (some z)) : MC Tryz.prog 131 [rz z] [] (.tuple #[rz (isq z.natAbs : Nat), .int .i64 ((0 : Nat) : Int)]) [] := by
  have h := rSqrt_t hz
  rw [show rsqrtV (some z) = errV (rV (some (isq z.natAbs : Nat))) 0 from if_neg (by omega)] at h
  exact h
theorem rint {z : Int} (hz : WF (some z)) : MC Tryz.prog 71 [rz z] [] (wint (some z)) [] := rInt64_t hz
theorem rint_fits {z : Int} (h : fits64 z = true) (hz : WF (some z)) : MC Tryz.prog 71 [rz z] [] (.tuple #[.int .i64 z, .bool true]) [] := by
  have h1 := rint hz
  unfold wint at h1
  simp only [h] at h1
  exact h1
theorem rint_over {z : Int} (h : fits64 z = false) (hz : WF (some z)) : MC Tryz.prog 71 [rz z] [] (.tuple #[.int .i64 0, .bool false]) [] := by
  have h1 := rint hz
  unfold wint at h1
  simp only [h] at h1
  exact h1
theorem enters_rIsqrt : ∀ us w, (callFunc 125 us).run Tryz.prog w = .ok (.enter 125 us) w := enters Tryz.func125 rfl (by kernel_rfl)
theorem enters_rUp : ∀ us w, (callFunc 119 us).run Tryz.prog w = .ok (.enter 119 us) w := enters Tryz.func119 rfl (by kernel_rfl)
theorem enters_rMulDiv : ∀ us w, (callFunc 106 us).run Tryz.prog w = .ok (.enter 106 us) w := enters Tryz.func106 rfl (by kernel_rfl)
theorem enters_rMulDivUp : ∀ us w, (callFunc 105 us).run Tryz.prog w = .ok (.enter 105 us) w := enters Tryz.func105 rfl (by kernel_rfl)
theorem rIsqrt_run {n s : Int} (h0 : ¬ n < 1) (h1 : MC Tryz.prog 10 [.int .i64 n] [] (rz n) []) (h2 : MC Tryz.prog 131 [rz n] [] (.tuple #[rz s, .int .i64 ((0 : Nat) : Int)]) []) (h3 : MC Tryz.prog 71 [rz s] [] (.tuple #[.int .i64 s, .bool true]) []) :
    MC Tryz.prog 125 [.int .i64 n] [] (.int .i64 s) [] :=
  AC.runA mixed Tryz.func125 [.tst false, .ab (rz n), .ab (.tuple #[rz s, .int .i64 ((0 : Nat) : Int)]), .ab (.tuple #[.int .i64 s, .bool true])] (ts1 (tF (p := n < 1) h0)) (qs3 h1 h2 h3) rfl enters_rIsqrt (by kernel_rfl)
theorem rIsqrt_low {n : Int} (h0 : n < 1) : MC Tryz.prog 125 [.int .i64 n] [] (.int .i64 0) [] :=
  AC.runA mixed Tryz.func125 [.tst true] (ts1 (tT (p := n < 1) h0)) qs0 rfl enters_rIsqrt (by kernel_rfl)
theorem isq_le63 {n : Nat} (h : n ≤ 9223372036854775807) : isq n ≤ 3037000499 := by
  have h1 := (isq_spec n).1
  rcases Nat.lt_or_ge 3037000499 (isq n) with h2 | h2
  · exfalso
    have : 3037000500 * 3037000500 ≤ isq n * isq n := Nat.mul_le_mul h2 h2
    omega
  · exact h2
theorem rIsqrt_t {n : Int} (hn : I64 n) : MC Tryz.prog 125 [.int .i64 n] [] (.int .i64 (sqI n)) [] := by
  have hlo := hn.1
  have hhi := hn.2
  unfold sqI
  by_cases h : n < 1
  · rw [show n.toNat = 0 by omega, isq_zero]
    exact rIsqrt_low h
  · have e : n.natAbs = n.toNat := by omega
    have h2 := rsqrt (z := n) (by omega) (hn.sm.wf (by omega))
    rw [e] at h2
    have hb := isq_le63 (n := n.toNat) (by omega)
    exact rIsqrt_run h (rof hn) h2 (rint_fits (fits64_iff.2 (by omega)) ((Sm.i64 (by omega) (by omega)).wf (by omega)))
theorem rUp_1 {n s q : Int} (h0 : n > 0) (hs : MC Tryz.prog 125 [.int .i64 n] [] (.int .i64 s) []) (hq : IntKind.i64.wrap (s * s) = q) (hq2 : q < n) {t : Int} (ht : IntKind.i64.wrap (s + 1) = t) : MC Tryz.prog 119 [.int .i64 n] [] (.int .i64 t) [] :=
  AC.runA mixed Tryz.func119 [.ab (.int .i64 s), .tst true, .at 2 (.int .i64 q), .tst true, .at 1 (.int .i64 t)] (ts4 (tT (p := n > 0) h0) (tT hq) (tT (p := q < n) hq2) (tT ht)) (qs1 hs) rfl enters_rUp (by kernel_rfl)
theorem rUp_2 {n s q : Int} (h0 : n > 0) (hs : MC Tryz.prog 125 [.int .i64 n] [] (.int .i64 s) []) (hq : IntKind.i64.wrap (s * s) = q) (hq2 : ¬ q < n) : MC Tryz.prog 119 [.int .i64 n] [] (.int .i64 s) [] :=
  AC.runA mixed Tryz.func119 [.ab (.int .i64 s), .tst true, .at 2 (.int .i64 q), .tst false] (ts3 (tT (p := n > 0) h0) (tT hq) (tF (p := q < n) hq2)) (qs1 hs) rfl enters_rUp (by kernel_rfl)
theorem rUp_3 {n s : Int} (h0 : ¬ n > 0) (hs : MC Tryz.prog 125 [.int .i64 n] [] (.int .i64 s) []) : MC Tryz.prog 119 [.int .i64 n] [] (.int .i64 s) [] :=
  AC.runA mixed Tryz.func119 [.ab (.int .i64 s), .tst false] (ts1 (tF (p := n > 0) h0)) (qs1 hs) rfl enters_rUp (by kernel_rfl)
theorem rUp_t {n : Int} (hn : I64 n) : MC Tryz.prog 119 [.int .i64 n] [] (.int .i64 (upI n)) [] := by
  have hs := rIsqrt_t hn
  have hhi := hn.2
  unfold upI
  unfold sqI at hs
  by_cases h : n > 0
  · have hb := isq_le63 (n := n.toNat) (by omega)
    have h1 := (isq_spec n.toNat).1
    have hm : ((isq n.toNat : Nat) : Int) * ((isq n.toNat : Nat) : Int) = ((isq n.toNat * isq n.toNat : Nat) : Int) := (Int.natCast_mul _ _).symm
    have hw : IntKind.i64.wrap (((isq n.toNat : Nat) : Int) * ((isq n.toNat : Nat) : Int)) = ((isq n.toNat * isq n.toNat : Nat) : Int) := by rw [hm, i64_wrap (by omega) (by omega)]
    unfold csq
    by_cases h2 : isq n.toNat * isq n.toNat < n.toNat
    · rw [if_pos h2]
      exact rUp_1 h hs hw (by omega) (by rw [i64_wrap (by omega) (by omega)]; omega)
    · rw [if_neg h2]
      exact rUp_2 h hs hw (by omega)
  · rw [show n.toNat = 0 by omega] at hs ⊢
    rw [csq_zero]
    rw [isq_zero] at hs
    exact rUp_3 h hs
theorem wnar_fits {z : Int} (h : fits64 z = true) : wnar (some z) = errI z 0 := by
  unfold wnar
  simp only [h]
theorem wnar_over {z : Int} (h : fits64 z = false) : wnar (some z) = errI 0 2 := by
  unfold wnar
  simp only [h]
theorem rMulDiv_z {a b c : Int} (h : c = 0) : MC Tryz.prog 106 [.int .i64 a, .int .i64 b, .int .i64 c] [] (errI 0 1) [] :=
  AC.runA mixed Tryz.func106 [.tst true] (ts1 (tT (p := c = 0) h)) qs0 rfl enters_rMulDiv (by kernel_rfl)
theorem rMulDiv_f {a b c p q : Int} (h : c ≠ 0) (h1 : MC Tryz.prog 10 [.int .i64 a] [] (rz a) []) (h2 : MC Tryz.prog 10 [.int .i64 b] [] (rz b) []) (h3 : MC Tryz.prog 14 [rz a, rz b] [] (rz p) []) (h4 : MC Tryz.prog 10 [.int .i64 c] [] (rz c) []) (h5 : MC Tryz.prog 70 [rz p, rz c] [] (.tuple #[rz q, .int .i64 ((0 : Nat) : Int)]) [])
    (h6 : MC Tryz.prog 71 [rz q] [] (.tuple #[.int .i64 q, .bool true]) []) : MC Tryz.prog 106 [.int .i64 a, .int .i64 b, .int .i64 c] [] (errI q 0) [] :=
  AC.runA mixed Tryz.func106 [.tst false, .ab (rz a), .ab (rz b), .ab (rz p), .ab (rz c), .ab (.tuple #[rz q, .int .i64 ((0 : Nat) : Int)]), .ab (.tuple #[.int .i64 q, .bool true])] (ts1 (tF (p := c = 0) h)) (qsC h1 <| qsC h2 <| qsC h3 <| qsC h4 <| qsC h5 <| qsC h6 qs0) rfl enters_rMulDiv (by kernel_rfl)
theorem rMulDiv_o {a b c p q : Int} (h : c ≠ 0) (h1 : MC Tryz.prog 10 [.int .i64 a] [] (rz a) []) (h2 : MC Tryz.prog 10 [.int .i64 b] [] (rz b) []) (h3 : MC Tryz.prog 14 [rz a, rz b] [] (rz p) []) (h4 : MC Tryz.prog 10 [.int .i64 c] [] (rz c) []) (h5 : MC Tryz.prog 70 [rz p, rz c] [] (.tuple #[rz q, .int .i64 ((0 : Nat) : Int)]) [])
    (h6 : MC Tryz.prog 71 [rz q] [] (.tuple #[.int .i64 0, .bool false]) []) : MC Tryz.prog 106 [.int .i64 a, .int .i64 b, .int .i64 c] [] (errI 0 2) [] :=
  AC.runA mixed Tryz.func106 [.tst false, .ab (rz a), .ab (rz b), .ab (rz p), .ab (rz c), .ab (.tuple #[rz q, .int .i64 ((0 : Nat) : Int)]), .ab (.tuple #[.int .i64 0, .bool false])] (ts1 (tF (p := c = 0) h)) (qsC h1 <| qsC h2 <| qsC h3 <| qsC h4 <| qsC h5 <| qsC h6 qs0) rfl enters_rMulDiv (by kernel_rfl)
theorem rMulDiv_t {a b c : Int} (ha : I64 a) (hb : I64 b) (hc : I64 c) : MC Tryz.prog 106 [.int .i64 a, .int .i64 b, .int .i64 c] [] (mdV (a * b) c) [] := by
  unfold mdV
  by_cases h : c = 0
  · rw [if_pos h]
    exact rMulDiv_z h
  · rw [if_neg h]
    have hp := (ha.sm.mul hb.sm).wf (by omega)
    have hq := fdiv_wf hp h
    have h5 := rdiv hp (hc.sm.wf (by omega)) h
    cases hf : fits64 ((a * b).fdiv c) with
    | true =>
      rw [wnar_fits hf]
      exact rMulDiv_f h (rof ha) (rof hb) (rmul ha.sm hb.sm) (rof hc) h5 (rint_fits hf hq)
    | false =>
      rw [wnar_over hf]
      exact rMulDiv_o h (rof ha) (rof hb) (rmul ha.sm hb.sm) (rof hc) h5 (rint_over hf hq)
theorem rMulDivUp_z {a b c : Int} (h : c = 0) : MC Tryz.prog 105 [.int .i64 a, .int .i64 b, .int .i64 c] [] (errI 0 1) [] :=
  AC.runA mixed Tryz.func105 [.tst true] (ts1 (tT (p := c = 0) h)) qs0 rfl enters_rMulDivUp (by kernel_rfl)
theorem rMulDivUp_f {a b c p m q n : Int} (h : c ≠ 0) (h1 : MC Tryz.prog 10 [.int .i64 a] [] (rz a) []) (h2 : MC Tryz.prog 10 [.int .i64 b] [] (rz b) []) (h3 : MC Tryz.prog 14 [rz a, rz b] [] (rz p) []) (g1 : MC Tryz.prog 28 [rz p] [] (rz m) []) (h4 : MC Tryz.prog 10 [.int .i64 c] [] (rz c) []) (h5 : MC Tryz.prog 70 [rz m, rz c] [] (.tuple #[rz q, .int .i64 ((0 : Nat) : Int)]) [])
    (g2 : MC Tryz.prog 28 [rz q] [] (rz n) []) (h6 : MC Tryz.prog 71 [rz n] [] (.tuple #[.int .i64 n, .bool true]) []) : MC Tryz.prog 105 [.int .i64 a, .int .i64 b, .int .i64 c] [] (errI n 0) [] :=
  AC.runA mixed Tryz.func105 [.tst false, .ab (rz a), .ab (rz b), .ab (rz p), .ab (rz m), .ab (rz c), .ab (.tuple #[rz q, .int .i64 ((0 : Nat) : Int)]), .ab (rz n), .ab (.tuple #[.int .i64 n, .bool true])] (ts1 (tF (p := c = 0) h)) (qsC h1 <| qsC h2 <| qsC h3 <| qsC g1 <| qsC h4 <| qsC h5 <| qsC g2 <| qsC h6 qs0) rfl enters_rMulDivUp (by kernel_rfl)
theorem rMulDivUp_o {a b c p m q n : Int} (h : c ≠ 0) (h1 : MC Tryz.prog 10 [.int .i64 a] [] (rz a) []) (h2 : MC Tryz.prog 10 [.int .i64 b] [] (rz b) []) (h3 : MC Tryz.prog 14 [rz a, rz b] [] (rz p) []) (g1 : MC Tryz.prog 28 [rz p] [] (rz m) []) (h4 : MC Tryz.prog 10 [.int .i64 c] [] (rz c) []) (h5 : MC Tryz.prog 70 [rz m, rz c] [] (.tuple #[rz q, .int .i64 ((0 : Nat) : Int)]) [])
    (g2 : MC Tryz.prog 28 [rz q] [] (rz n) []) (h6 : MC Tryz.prog 71 [rz n] [] (.tuple #[.int .i64 0, .bool false]) []) : MC Tryz.prog 105 [.int .i64 a, .int .i64 b, .int .i64 c] [] (errI 0 2) [] :=
  AC.runA mixed Tryz.func105 [.tst false, .ab (rz a), .ab (rz b), .ab (rz p), .ab (rz m), .ab (rz c), .ab (.tuple #[rz q, .int .i64 ((0 : Nat) : Int)]), .ab (rz n), .ab (.tuple #[.int .i64 0, .bool false])] (ts1 (tF (p := c = 0) h)) (qsC h1 <| qsC h2 <| qsC h3 <| qsC g1 <| qsC h4 <| qsC h5 <| qsC g2 <| qsC h6 qs0) rfl enters_rMulDivUp (by kernel_rfl)
theorem rMulDivUp_t {a b c : Int} (ha : I64 a) (hb : I64 b) (hc : I64 c) : MC Tryz.prog 105 [.int .i64 a, .int .i64 b, .int .i64 c] [] (muV (a * b) c) [] := by
  unfold muV
  by_cases h : c = 0
  · rw [if_pos h]
    exact rMulDivUp_z h
  · rw [if_neg h]
    have hp := (ha.sm.mul hb.sm).wf (by omega)
    have hm := neg_wf hp
    have hq := fdiv_wf hm h
    have hn := neg_wf hq
    have h5 := rdiv hm (hc.sm.wf (by omega)) h
    unfold cdiv
    cases hf : fits64 (-((-(a * b)).fdiv c)) with
    | true =>
      rw [wnar_fits hf]
      exact rMulDivUp_f h (rof ha) (rof hb) (rmul ha.sm hb.sm) (rneg hp) (rof hc) h5 (rneg hq) (rint_fits hf hn)
    | false =>
      rw [wnar_over hf]
      exact rMulDivUp_o h (rof ha) (rof hb) (rmul ha.sm hb.sm) (rneg hp) (rof hc) h5 (rneg hq) (rint_over hf hn)
end Go.Proofs.YtljolfnpncjklaaGreat.R
