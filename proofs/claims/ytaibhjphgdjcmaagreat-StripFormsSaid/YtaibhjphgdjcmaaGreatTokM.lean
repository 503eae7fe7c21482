/-
  The reference's matrices.
-/
import Derived.Test.YtaibhjphgdjcmaaGreatTokG
import Derived.Test.YtaibhjphgdjcmaaGreatMat
/-! The reference's matrices. -/
namespace Go.Proofs.YtaibhjphgdjcmaaGreat.R
open Go Go.Ev Go.W32
open Go.Proofs.YtaibhjphgdjcmaaGreat.W (mixed i64_wrap clamp WF signI Hi clamp_eq wadd wmul wsub wneg textB Sm I64 sym pt detI detI_sm psdI quadI quadI_sm dotI holdsI leastI mayE mayE_iff mayM mayM_iff adjV sumV)

/-- A number of the reference. -/
def rz (z : Int) : Value := rV (some z)
theorem rof {n : Int} (h : I64 n) : MC Tryz.prog 59 [.int .i64 n] [] (rz n) [] := rOf_t h.1 h.2
theorem rmul {j k : Nat} {a b : Int} (ha : Sm j a) (hb : Sm k b) (hk : j + k ≤ 1023 := by omega) : MC Tryz.prog 32 [rz a, rz b] [] (rz (a * b)) [] := by
  have h := rMul_t (ha.wf (by omega)) (hb.wf (by omega))
  rw [show wmul (some a) (some b) = some (a * b) from clamp_eq ((ha.mul hb).hi hk)] at h
  exact h
theorem radd {k : Nat} {a b : Int} (ha : Sm k a) (hb : Sm k b) (hk : k < 1023 := by omega) : MC Tryz.prog 61 [rz a, rz b] [] (rz (a + b)) [] := by
  have h := rAdd_t (ha.wf (by omega)) (hb.wf (by omega))
  rw [show wadd (some a) (some b) = some (a + b) from clamp_eq ((ha.add hb).hi (by omega))] at h
  exact h
theorem rsub {k : Nat} {a b : Int} (ha : Sm k a) (hb : Sm k b) (hk : k < 1023 := by omega) : MC Tryz.prog 31 [rz a, rz b] [] (rz (a - b)) [] := by
  have h := rSub_t (ha.wf (by omega)) (hb.wf (by omega))
  rw [show wsub (some a) (some b) = some (a - b) from by
    show clamp (a + -b) = _
    rw [← Int.sub_eq_add_neg]
    exact clamp_eq ((ha.sub hb).hi (by omega))] at h
  exact h
theorem rsign (z : Int) : MC Tryz.prog 33 [rz z] [] (i6 (signI (some z))) [] := rSign_any z
theorem enters_rdet : ∀ us w, (callFunc 85 us).run Tryz.prog w = .ok (.enter 85 us) w := enters Tryz.func85 rfl (by kernel_rfl)
theorem enters_rDet : ∀ us w, (callFunc 56 us).run Tryz.prog w = .ok (.enter 56 us) w := enters Tryz.func56 rfl (by kernel_rfl)
theorem enters_rQuad : ∀ us w, (callFunc 60 us).run Tryz.prog w = .ok (.enter 60 us) w := enters Tryz.func60 rfl (by kernel_rfl)
theorem enters_rMayMat : ∀ us w, (callFunc 176 us).run Tryz.prog w = .ok (.enter 176 us) w := enters Tryz.func176 rfl (by kernel_rfl)
theorem enters_rAdj : ∀ us w, (callFunc 157 us).run Tryz.prog w = .ok (.enter 157 us) w := enters Tryz.func157 rfl (by kernel_rfl)
theorem rdet {k : Nat} {a b d : Int} (ha : Sm k a) (hb : Sm k b) (hd : Sm k d) (hk : k + k < 1023 := by omega) : MC Tryz.prog 85 [rz a, rz b, rz d] [] (rz (detI a b d)) [] :=
  AC.runA mixed Tryz.func85 [.ab (rz (a * d)), .ab (rz (b * b)), .ab (rz (a * d - b * b))] ts0 (qs3 (rmul ha hd) (rmul hb hb) (rsub (ha.mul hd) (hb.mul hb))) rfl enters_rdet (by kernel_rfl)
theorem rDet {a b d : Int} (ha : I64 a) (hb : I64 b) (hd : I64 d) : MC Tryz.prog 56 [sym a b d] [] (rz (detI a b d)) [] :=
  AC.runA mixed Tryz.func56 [.ab (rz a), .ab (rz b), .ab (rz d), .ab (rz (detI a b d))] ts0 (qs4 (rof ha) (rof hb) (rof hd) (rdet ha.sm hb.sm hd.sm)) rfl enters_rDet (by kernel_rfl)
theorem quad_eq (a b d x y : Int) : a * (x * x) + b * (x * y + x * y) + d * (y * y) = quadI a b d x y := by
  unfold quadI dotI
  grind
theorem rQuad {a b d x y : Int} (ha : I64 a) (hb : I64 b) (hd : I64 d) (hx : I64 x) (hy : I64 y) : MC Tryz.prog 60 [sym a b d, pt x y] [] (rz (quadI a b d x y)) [] := by
  rw [← quad_eq]
  have hxy := hx.sq hy
  have s1 : Sm 200 (a * (x * x)) := (ha.sm.mul (hx.sq hx)).mono (by omega)
  have s2 : Sm 200 (b * (x * y + x * y)) := (hb.sm.mul (hxy.add hxy)).mono (by omega)
  have s3 : Sm 201 (d * (y * y)) := (hd.sm.mul (hy.sq hy)).mono (by omega)
  exact AC.runA mixed Tryz.func60 [.ab (rz x), .ab (rz y), .ab (rz (x * y)), .ab (rz a), .ab (rz (x * x)), .ab (rz (a * (x * x))), .ab (rz b), .ab (rz (x * y + x * y)), .ab (rz (b * (x * y + x * y))), .ab (rz (a * (x * x) + b * (x * y + x * y))), .ab (rz d), .ab (rz (y * y)), .ab (rz (d * (y * y))), .ab (rz (a * (x * x) + b * (x * y + x * y) + d * (y * y)))] ts0
    (qsC (rof hx) <| qsC (rof hy) <| qsC (rmul hx.sm hy.sm) <| qsC (rof ha) <| qsC (rmul hx.sm hx.sm) <| qsC (rmul ha.sm (hx.sq hx)) <| qsC (rof hb) <| qsC (radd hxy hxy) <| qsC (rmul hb.sm (hxy.add hxy)) <| qsC (radd s1 s2) <| qsC (rof hd) <| qsC (rmul hy.sm hy.sm) <| qsC (rmul hd.sm (hy.sq hy)) <| qsC (radd (s1.add s2) s3) qs0) rfl enters_rQuad (by kernel_rfl)
/-! ### MayMat, AddMat, Adj, Least -/
inductive Pos (n : Int) : Prop
  | lo (h : n < -2305843009213693952)
  | hi (h : n > 2305843009213693952)
  | ok (h0 : ¬ n < -2305843009213693952) (h1 : ¬ n > 2305843009213693952)
theorem pos (n : Int) : Pos n := by
  by_cases h : n < -2305843009213693952
  · exact .lo h
  · by_cases h1 : n > 2305843009213693952
    · exact .hi h1
    · exact .ok h h1
theorem mayE_lo {n : Int} (h : n < -2305843009213693952) : mayE n = false := by unfold mayE; rw [decide_eq_false (by omega)]; rfl
theorem mayE_hi {n : Int} (h : n > 2305843009213693952) : mayE n = false := by unfold mayE; rw [decide_eq_false (show ¬ n ≤ 2305843009213693952 by omega), Bool.and_false]
theorem mayE_ok {n : Int} (h0 : ¬ n < -2305843009213693952) (h1 : ¬ n > 2305843009213693952) : mayE n = true := by unfold mayE; rw [decide_eq_true (by omega), decide_eq_true (by omega)]; rfl
theorem rMay (a b d : Int) : MC Tryz.prog 176 [sym a b d] [] (.bool (mayM a b d)) [] := by
  unfold mayM
  rcases pos a with h | h | ⟨a0, a1⟩
  · rw [mayE_lo h]
    exact AC.runA mixed Tryz.func176 [.auto, .tst true] (ts1 (tT h)) qs0 rfl enters_rMayMat (by kernel_rfl)
  · rw [mayE_hi h]
    exact AC.runA mixed Tryz.func176 [.auto, .tst false, .tst true] (ts2 (tF (show ¬ a < -2305843009213693952 by omega)) (tT h)) qs0 rfl enters_rMayMat (by kernel_rfl)
  rw [mayE_ok a0 a1]
  rcases pos b with h | h | ⟨b0, b1⟩
  · rw [mayE_lo h]
    exact AC.runA mixed Tryz.func176 [.auto, .tst false, .tst false, .auto, .tst true] (ts3 (tF a0) (tF a1) (tT h)) qs0 rfl enters_rMayMat (by kernel_rfl)
  · rw [mayE_hi h]
    exact AC.runA mixed Tryz.func176 [.auto, .tst false, .tst false, .auto, .tst false, .tst true] (ts4 (tF a0) (tF a1) (tF (show ¬ b < -2305843009213693952 by omega)) (tT h)) qs0 rfl enters_rMayMat (by kernel_rfl)
  rw [mayE_ok b0 b1]
  rcases pos d with h | h | ⟨d0, d1⟩
  · rw [mayE_lo h]
    exact AC.runA mixed Tryz.func176 [.auto, .tst false, .tst false, .auto, .tst false, .tst false, .auto, .tst true] (tsC (tF a0) <| tsC (tF a1) <| tsC (tF b0) <| tsC (tF b1) <| tsC (tT h) ts0) qs0 rfl enters_rMayMat (by kernel_rfl)
  · rw [mayE_hi h]
    exact AC.runA mixed Tryz.func176 [.auto, .tst false, .tst false, .auto, .tst false, .tst false, .auto, .tst false, .tst true] (tsC (tF a0) <| tsC (tF a1) <| tsC (tF b0) <| tsC (tF b1) <| tsC (tF (show ¬ d < -2305843009213693952 by omega)) <| tsC (tT h) ts0) qs0 rfl enters_rMayMat (by kernel_rfl)
  · rw [mayE_ok d0 d1]
    exact AC.runA mixed Tryz.func176 [.auto, .tst false, .tst false, .auto, .tst false, .tst false, .auto, .tst false, .tst false] (tsC (tF a0) <| tsC (tF a1) <| tsC (tF b0) <| tsC (tF b1) <| tsC (tF d0) <| tsC (tF d1) ts0) qs0 rfl enters_rMayMat (by kernel_rfl)
theorem rmay {a b d : Int} {r : Bool} (h : mayM a b d = r) : MC Tryz.prog 176 [sym a b d] [] (.bool r) [] := h ▸ rMay a b d
theorem rAdj (a b d : Int) : MC Tryz.prog 157 [sym a b d] [] (adjV a b d) [] := by
  unfold adjV
  cases h1 : mayM a b d with
  | false => exact AC.runA mixed Tryz.func157 [.ab (.bool false)] ts0 (qs1 (rmay h1)) rfl enters_rAdj (by kernel_rfl)
  | true =>
    have h2 := mayM_iff.1 h1
    have e : IntKind.i64.wrap (0 - b) = -b := by rw [i64_wrap (by omega) (by omega)]; omega
    have h := AC.runA (args := [sym a b d]) (v := sym d (IntKind.i64.wrap (0 - b)) a) mixed Tryz.func157 [.ab (.bool true)] ts0 (qs1 (rmay h1)) rfl enters_rAdj (by kernel_rfl)
    rw [e] at h
    exact h
end Go.Proofs.YtaibhjphgdjcmaaGreat.R
