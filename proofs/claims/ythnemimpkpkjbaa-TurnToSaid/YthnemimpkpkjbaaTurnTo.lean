/-
  TurnTo: a step as a complex number and back; what is not whole or too great is no step.
-/
import Derived.Test.YthnemimpkpkjbaaTurnParts
import Derived.Test.YthnemimpkpkjbaaFloC
namespace Go.Proofs.Ythnemimpkpkjbaa.W
open Go Go.Ev Go.Wide Go.Flo

theorem fbits_qc (x : Nat) : QC Try.prog 47 [.float .f64 x] (.int .u64 x) := .inl fun w => by
  rw [run_callFunc_extern Try.func47 (by kernel_rfl) (by kernel_rfl) (by kernel_rfl) (e := Extern.MathFloatBits.float64bits) (by kernel_rfl)]
  rfl
theorem ffrom_qc (x : Nat) : QC Try.prog 46 [.int .u64 x] (.float .f64 x) := .inl fun w => by
  rw [run_callFunc_extern Try.func46 (by kernel_rfl) (by kernel_rfl) (by kernel_rfl) (e := Extern.MathFloatBits.float64frombits) (by kernel_rfl)]
  rfl
theorem archTrunc_qc {x : Nat} (h : finB x = true) : QC Try.prog 48 [.float .f64 x] (.float .f64 (truW x)) := .inl fun w => by
  rw [run_callFunc_extern Try.func48 (by kernel_rfl) (by kernel_rfl) (by kernel_rfl) (e := Extern.MathFloor.toIntegral "math.archTrunc" .zero) (by kernel_rfl)]
  obtain ⟨s, m, e, hr⟩ := fin_nan h
  have hd : FloatKind.f64.decode x = .number s m e := hr
  have e1 : Extern.MathFloor.toIntegral "math.archTrunc" .zero #[Value.float .f64 x] = pure (Value.float .f64 (truW x)) := by
    unfold truW Extern.MathFloor.toIntegral
    conv => lhs; whnf
    rw [hd]
  rw [e1]
  rfl
theorem mAbs_pc {x : Nat} (h : x < 18446744073709551616) : PC Try.prog 37 [.float .f64 x] (.float .f64 (absW x)) :=
  PC.run mixed Try.func37 [.res (.int .u64 x), .at 1 (.int .u64 (absW x : Nat)), .res (.float .f64 (absW x))] rfl (ts1 (tT (andNot_abs h))) (qs2 (fbits_qc x) (ffrom_qc (absW x))) rfl rfl (by kernel_rfl)
theorem enters_mAbs : ∀ us w, (callFunc 37 us).run Try.prog w = .ok (.enter 37 us) w := enters Try.func37 rfl (by kernel_rfl)
theorem mTrunc_pc {x : Nat} (h : finB x = true) : PC Try.prog 38 [.float .f64 x] (.float .f64 (truW x)) :=
  PC.run mixed Try.func38 [.res (.float .f64 (truW x))] rfl ts0 (qs1 (archTrunc_qc h)) rfl rfl (by kernel_rfl)
theorem enters_mTrunc : ∀ us w, (callFunc 38 us).run Try.prog w = .ok (.enter 38 us) w := enters Try.func38 rfl (by kernel_rfl)
theorem nBf {b : Bool} (h : b = false) : (!b) = true := by rw [h]; rfl
/-- Whether a float is a step's coordinate. -/
def coB (x : Nat) : Bool := match finB x with | true => whB x | false => false
theorem coord_pc {x : Nat} (h : x < 18446744073709551616) : PC Try.prog 31 [.float .f64 x] (.bool (coB x)) := by
  have ha := leB_abs x
  unfold coB
  cases hf : finB x
  · rw [hf] at ha
    exact PC.run mixed Try.func31 [.res (.float .f64 (absW x)), .tst false] rfl (ts1 (nBf ha)) (qs1 (QC.of_pc enters_mAbs (mAbs_pc h))) rfl rfl (by kernel_rfl)
  · rw [hf] at ha
    exact PC.run mixed Try.func31 [.res (.float .f64 (absW x)), .tst true, .res (.float .f64 (truW x)), .at 2 (.bool (whB x))] rfl (ts1 ha) (qs3 (QC.of_pc enters_mAbs (mAbs_pc h)) (QC.of_pc enters_mTrunc (mTrunc_pc hf)) (congrArg Value.bool (whole_tru hf))) rfl rfl (by kernel_rfl)
theorem enters_coord : ∀ us w, (callFunc 31 us).run Try.prog w = .ok (.enter 31 us) w := enters Try.func31 rfl (by kernel_rfl)
theorem coord_qc {x : Nat} (h : x < 18446744073709551616) {b : Bool} (e : coB x = b) : QC Try.prog 31 [.float .f64 x] (.bool b) := e ▸ QC.of_pc enters_coord (coord_pc h)
theorem co_fin {x : Nat} (h : coB x = true) : finB x = true ∧ whB x = true := by
  unfold coB at h
  cases hf : finB x
  · rw [hf] at h; cases h
  · rw [hf] at h; exact ⟨rfl, h⟩
/-- A point and whether it is one. -/
def ptB (x y : Int) (b : Bool) : Value := .tuple #[pt x y, .bool b]
def toV (p q : Nat) : Value := match coB p && coB q with | true => ptB (nI p) (nI q) true | false => ptB 0 0 false
theorem to_pc {p q : Nat} (hp : p < 18446744073709551616) (hq : q < 18446744073709551616) : PC Try.prog 20 [cx p q] (toV p q) := by
  unfold toV
  cases h1 : coB p
  · exact PC.run mixed Try.func20 [.res (.bool false)] rfl ts0 (qs1 (coord_qc hp h1)) rfl rfl (by kernel_rfl)
  · cases h2 : coB q
    · exact PC.run mixed Try.func20 [.res (.bool true), .res (.bool false)] rfl ts0 (qs2 (coord_qc hp h1) (coord_qc hq h2)) rfl rfl (by kernel_rfl)
    · exact PC.run mixed Try.func20 [.res (.bool true), .res (.bool true), .res (pt (nI p) (nI q))] rfl ts0 (qs3 (coord_qc hp h1) (coord_qc hq h2) (pointOf_qc (fin_int (co_fin h1).1) (fin_int (co_fin h2).1))) rfl rfl (by kernel_rfl)
theorem enters_to : ∀ us w, (callFunc 20 us).run Try.prog w = .ok (.enter 20 us) w := enters Try.func20 rfl (by kernel_rfl)
theorem to_t {p q : Nat} (hp : p < 18446744073709551616) (hq : q < 18446744073709551616) (h1 : coB p = true) (h2 : coB q = true) {X Y : Int} (e1 : nI p = X) (e2 : nI q = Y) : QC Try.prog 20 [cx p q] (ptB X Y true) := by
  subst e1 e2
  have h := to_pc hp hq
  unfold toV at h
  rw [h1, h2] at h
  exact QC.of_pc enters_to h
theorem to_f {p q : Nat} (hp : p < 18446744073709551616) (hq : q < 18446744073709551616) (h : (coB p && coB q) = false) : QC Try.prog 20 [cx p q] (ptB 0 0 false) := by
  have h' := to_pc hp hq
  unfold toV at h'
  rw [h] at h'
  exact QC.of_pc enters_to h'
theorem of_lt (n : Int) : floatOfInt .f64 n < 18446744073709551616 := FloatKind.f64.format.nearest_lt (n < 0) n.natAbs 0
theorem co_of {n : Int} (h : n.natAbs ≤ 4194304) : coB (floatOfInt .f64 n) = true := by
  obtain ⟨h1, h2, _⟩ := fin_of h
  unfold coB
  rw [h1, h2]
theorem to_of (x y : Int) : QC Try.prog 20 [ofC x y] (ptB (stx x y) (sty x y) true) := by
  have hb := st_bd x y
  exact to_t (of_lt _) (of_lt _) (co_of hb.1) (co_of hb.2) (fin_of hb.1).2.2 (fin_of hb.2).2.2
theorem range_and {x : Nat} {b : Bool} (h : finB x = b) : (geB x wN && leB x wM) = b := by rw [range_fin, h]
theorem co_none1 {p q : Nat} (h : finB p = false) : (coB p && coB q) = false := by
  have : coB p = false := by unfold coB; rw [h]
  rw [this]; rfl
theorem co_none2 {p q : Nat} (h : finB q = false) : (coB p && coB q) = false := by
  have : coB q = false := by unfold coB; rw [h]
  rw [this, Bool.and_false]
theorem co_part1 {p q : Nat} (h : finB p = true) (w : whB p = false) : (coB p && coB q) = false := by
  have : coB p = false := by unfold coB; rw [h, w]
  rw [this]; rfl
theorem co_part2 {p q : Nat} (h : finB q = true) (w : whB q = false) : (coB p && coB q) = false := by
  have : coB q = false := by unfold coB; rw [h, w]
  rw [this, Bool.and_false]
theorem co_all {p : Nat} (h : finB p = true) (w : whB p = true) : coB p = true := by unfold coB; rw [h, w]
theorem turnTo_pc (x y : Int) {p q : Nat} (hp : p < 18446744073709551616) (hq : q < 18446744073709551616) : PC Try.prog 4 [pt x y, .float .f64 p, .float .f64 q] (.bool true) := by
  have hfl : [pt x y, Value.float .f64 p, .float .f64 q].all flat = true := by simp [flat_pt]; exact ⟨rfl, rfl⟩
  cases hm : mayP x y with
  | true =>
    have k1 : stx x y = x := stx_t hm
    have k2 : sty x y = y := sty_t hm
    have q1 := to_of x y
    rw [k1, k2] at q1
    have q0 := tOf_qc x y
    have q2 := mayStep_qc x y hm
    have t0 : (!(!(decide (x = x) && (decide (y = y) && true)))) = true := by simp
    cases g1 : geB p wN with
    | false =>
      have hf : finB p = false := by rw [← range_fin, g1]; rfl
      exact PC.run mixed Try.func4 [.res (ofC x y), .res (ptB x y true), .res (.bool true), .auto, .auto, .tst false, .res (ptB 0 0 false), .tst false, .res (.bool true)] hfl (tsC (t0) (tsC (nBf g1) (ts0))) (qs5 (q0) (q1) (q2) (to_f hp hq (co_none1 hf)) (awakeT)) rfl rfl (by kernel_rfl)
    | true =>
    cases g2 : leB p wM with
    | false =>
      have hf : finB p = false := by rw [← range_fin, g1, g2]; rfl
      exact PC.run mixed Try.func4 [.res (ofC x y), .res (ptB x y true), .res (.bool true), .auto, .auto, .tst false, .res (ptB 0 0 false), .tst true, .tst false, .res (.bool true)] hfl (tsC (t0) (tsC (g1) (tsC (nBf g2) (ts0)))) (qs5 (q0) (q1) (q2) (to_f hp hq (co_none1 hf)) (awakeT)) rfl rfl (by kernel_rfl)
    | true =>
    have fp : finB p = true := by rw [← range_fin, g1, g2]; rfl
    cases g3 : geB q wN with
    | false =>
      have hf : finB q = false := by rw [← range_fin, g3]; rfl
      exact PC.run mixed Try.func4 [.res (ofC x y), .res (ptB x y true), .res (.bool true), .auto, .auto, .tst false, .res (ptB 0 0 false), .tst true, .tst true, .tst false, .res (.bool true)] hfl (tsC (t0) (tsC (g1) (tsC (g2) (tsC (nBf g3) (ts0))))) (qs5 (q0) (q1) (q2) (to_f hp hq (co_none2 hf)) (awakeT)) rfl rfl (by kernel_rfl)
    | true =>
    cases g4 : leB q wM with
    | false =>
      have hf : finB q = false := by rw [← range_fin, g3, g4]; rfl
      exact PC.run mixed Try.func4 [.res (ofC x y), .res (ptB x y true), .res (.bool true), .auto, .auto, .tst false, .res (ptB 0 0 false), .tst true, .tst true, .tst true, .tst false, .res (.bool true)] hfl (tsC (t0) (tsC (g1) (tsC (g2) (tsC (g3) (tsC (nBf g4) (ts0)))))) (qs5 (q0) (q1) (q2) (to_f hp hq (co_none2 hf)) (awakeT)) rfl rfl (by kernel_rfl)
    | true =>
    have fq : finB q = true := by rw [← range_fin, g3, g4]; rfl
    have ip := fin_int fp
    have iq := fin_int fq
    have ep := whole_int fp
    have eq := whole_int fq
    cases w1 : whB p with
    | false =>
      rw [w1] at ep
      exact PC.run mixed Try.func4 [.res (ofC x y), .res (ptB x y true), .res (.bool true), .auto, .auto, .tst false, .res (ptB 0 0 false), .tst true, .tst true, .tst true, .tst true, .is 2 (.int .i64 (nI p)), .tst false, .res (.bool true)] hfl (tsC (t0) (tsC (g1) (tsC (g2) (tsC (g3) (tsC (g4) (tsC (sm ip) (tsC (nBf ep) (ts0)))))))) (qs6 (q0) (q1) (q2) (to_f hp hq (co_part1 fp w1)) (gd ip) (awakeT)) rfl rfl (by kernel_rfl)
    | true =>
    rw [w1] at ep
    cases w2 : whB q with
    | false =>
      rw [w2] at eq
      exact PC.run mixed Try.func4 [.res (ofC x y), .res (ptB x y true), .res (.bool true), .auto, .auto, .tst false, .res (ptB 0 0 false), .tst true, .tst true, .tst true, .tst true, .is 2 (.int .i64 (nI p)), .tst true, .is 2 (.int .i64 (nI q)), .is 1 (.bool false), .res (.bool true)] hfl (tsC (t0) (tsC (g1) (tsC (g2) (tsC (g3) (tsC (g4) (tsC (sm ip) (tsC (ep) (tsC (sm iq) (ts0))))))))) (qs8 (q0) (q1) (q2) (to_f hp hq (co_part2 fq w2)) (gd ip) (gd iq) (congrArg Value.bool eq) (awakeT)) rfl rfl (by kernel_rfl)
    | true =>
      rw [w2] at eq
      exact PC.run mixed Try.func4 [.res (ofC x y), .res (ptB x y true), .res (.bool true), .auto, .auto, .tst false, .res (ptB (nI p) (nI q) true), .tst true, .tst true, .tst true, .tst true, .is 2 (.int .i64 (nI p)), .tst true, .is 2 (.int .i64 (nI q)), .is 1 (.bool true), .auto, .auto, .auto, .auto, .tst true, .tst true, .res (.bool true)] hfl (tsC (t0) (tsC (g1) (tsC (g2) (tsC (g3) (tsC (g4) (tsC (sm ip) (tsC (ep) (tsC (sm iq) (tsC (whole_back fp w1) (tsC (whole_back fq w2) (ts0))))))))))) (qs8 (q0) (q1) (q2) (to_t hp hq (co_all fp w1) (co_all fq w2) rfl rfl) (gd ip) (gd iq) (congrArg Value.bool eq) (awakeT)) rfl rfl (by kernel_rfl)
  | false =>
    have k1 : stx x y = 0 := stx_f hm
    have k2 : sty x y = 0 := sty_f hm
    have q1 := to_of x y
    rw [k1, k2] at q1
    have q0 := tOf_qc x y
    have q2 := mayStep_qc x y hm
    cases g1 : geB p wN with
    | false =>
      have hf : finB p = false := by rw [← range_fin, g1]; rfl
      exact PC.run mixed Try.func4 [.res (ofC x y), .res (ptB 0 0 true), .res (.bool false), .res (ptB 0 0 false), .tst false, .res (.bool true)] hfl (tsC (nBf g1) (ts0)) (qs5 (q0) (q1) (q2) (to_f hp hq (co_none1 hf)) (awakeT)) rfl rfl (by kernel_rfl)
    | true =>
    cases g2 : leB p wM with
    | false =>
      have hf : finB p = false := by rw [← range_fin, g1, g2]; rfl
      exact PC.run mixed Try.func4 [.res (ofC x y), .res (ptB 0 0 true), .res (.bool false), .res (ptB 0 0 false), .tst true, .tst false, .res (.bool true)] hfl (tsC (g1) (tsC (nBf g2) (ts0))) (qs5 (q0) (q1) (q2) (to_f hp hq (co_none1 hf)) (awakeT)) rfl rfl (by kernel_rfl)
    | true =>
    have fp : finB p = true := by rw [← range_fin, g1, g2]; rfl
    cases g3 : geB q wN with
    | false =>
      have hf : finB q = false := by rw [← range_fin, g3]; rfl
      exact PC.run mixed Try.func4 [.res (ofC x y), .res (ptB 0 0 true), .res (.bool false), .res (ptB 0 0 false), .tst true, .tst true, .tst false, .res (.bool true)] hfl (tsC (g1) (tsC (g2) (tsC (nBf g3) (ts0)))) (qs5 (q0) (q1) (q2) (to_f hp hq (co_none2 hf)) (awakeT)) rfl rfl (by kernel_rfl)
    | true =>
    cases g4 : leB q wM with
    | false =>
      have hf : finB q = false := by rw [← range_fin, g3, g4]; rfl
      exact PC.run mixed Try.func4 [.res (ofC x y), .res (ptB 0 0 true), .res (.bool false), .res (ptB 0 0 false), .tst true, .tst true, .tst true, .tst false, .res (.bool true)] hfl (tsC (g1) (tsC (g2) (tsC (g3) (tsC (nBf g4) (ts0))))) (qs5 (q0) (q1) (q2) (to_f hp hq (co_none2 hf)) (awakeT)) rfl rfl (by kernel_rfl)
    | true =>
    have fq : finB q = true := by rw [← range_fin, g3, g4]; rfl
    have ip := fin_int fp
    have iq := fin_int fq
    have ep := whole_int fp
    have eq := whole_int fq
    cases w1 : whB p with
    | false =>
      rw [w1] at ep
      exact PC.run mixed Try.func4 [.res (ofC x y), .res (ptB 0 0 true), .res (.bool false), .res (ptB 0 0 false), .tst true, .tst true, .tst true, .tst true, .is 2 (.int .i64 (nI p)), .tst false, .res (.bool true)] hfl (tsC (g1) (tsC (g2) (tsC (g3) (tsC (g4) (tsC (sm ip) (tsC (nBf ep) (ts0))))))) (qs6 (q0) (q1) (q2) (to_f hp hq (co_part1 fp w1)) (gd ip) (awakeT)) rfl rfl (by kernel_rfl)
    | true =>
    rw [w1] at ep
    cases w2 : whB q with
    | false =>
      rw [w2] at eq
      exact PC.run mixed Try.func4 [.res (ofC x y), .res (ptB 0 0 true), .res (.bool false), .res (ptB 0 0 false), .tst true, .tst true, .tst true, .tst true, .is 2 (.int .i64 (nI p)), .tst true, .is 2 (.int .i64 (nI q)), .is 1 (.bool false), .res (.bool true)] hfl (tsC (g1) (tsC (g2) (tsC (g3) (tsC (g4) (tsC (sm ip) (tsC (ep) (tsC (sm iq) (ts0)))))))) (qs8 (q0) (q1) (q2) (to_f hp hq (co_part2 fq w2)) (gd ip) (gd iq) (congrArg Value.bool eq) (awakeT)) rfl rfl (by kernel_rfl)
    | true =>
      rw [w2] at eq
      exact PC.run mixed Try.func4 [.res (ofC x y), .res (ptB 0 0 true), .res (.bool false), .res (ptB (nI p) (nI q) true), .tst true, .tst true, .tst true, .tst true, .is 2 (.int .i64 (nI p)), .tst true, .is 2 (.int .i64 (nI q)), .is 1 (.bool true), .auto, .auto, .auto, .auto, .tst true, .tst true, .res (.bool true)] hfl (tsC (g1) (tsC (g2) (tsC (g3) (tsC (g4) (tsC (sm ip) (tsC (ep) (tsC (sm iq) (tsC (whole_back fp w1) (tsC (whole_back fq w2) (ts0)))))))))) (qs8 (q0) (q1) (q2) (to_t hp hq (co_all fp w1) (co_all fq w2) rfl rfl) (gd ip) (gd iq) (congrArg Value.bool eq) (awakeT)) rfl rfl (by kernel_rfl)
theorem flo_lt {x : Nat} (h : (Lit.float .f64 x).wf = true) : x < 18446744073709551616 := by
  have h2 : x < 2 ^ 64 := by simpa [Lit.wf] using h
  exact h2
theorem enters_turnTo : ∀ us w, (callFunc 4 us).run Try.prog w = .ok (.enter 4 us) w := enters Try.func4 rfl (by kernel_rfl)
end Go.Proofs.Ythnemimpkpkjbaa.W
