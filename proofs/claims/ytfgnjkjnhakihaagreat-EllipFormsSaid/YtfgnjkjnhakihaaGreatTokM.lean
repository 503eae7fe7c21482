/-
  The reference's matrices.
-/
import Derived.Test.YtfgnjkjnhakihaaGreatTokG
import Derived.Test.YtfgnjkjnhakihaaGreatMat
/-! The reference's matrices. -/
namespace Go.Proofs.YtfgnjkjnhakihaaGreat.R
open Go Go.Ev Go.W32
open Go.Proofs.YtfgnjkjnhakihaaGreat.W (mixed i64_wrap clamp WF signI Hi clamp_eq wadd wmul wsub wneg textB Sm I64 sym pt detI detI_sm psdI quadI quadI_sm dotI holdsI leastI mayE mayE_iff mayM mayM_iff adjV sumV)

/-- A number of the reference. -/
def rz (z : Int) : Value := rV (some z)
theorem rof {n : Int} (h : I64 n) : MC Tryz.prog 55 [.int .i64 n] [] (rz n) [] := rOf_t h.1 h.2
theorem rmul {j k : Nat} {a b : Int} (ha : Sm j a) (hb : Sm k b) (hk : j + k ≤ 1023 := by omega) : MC Tryz.prog 53 [rz a, rz b] [] (rz (a * b)) [] := by
  have h := rMul_t (ha.wf (by omega)) (hb.wf (by omega))
  rw [show wmul (some a) (some b) = some (a * b) from clamp_eq ((ha.mul hb).hi hk)] at h
  exact h
theorem radd {k : Nat} {a b : Int} (ha : Sm k a) (hb : Sm k b) (hk : k < 1023 := by omega) : MC Tryz.prog 54 [rz a, rz b] [] (rz (a + b)) [] := by
  have h := rAdd_t (ha.wf (by omega)) (hb.wf (by omega))
  rw [show wadd (some a) (some b) = some (a + b) from clamp_eq ((ha.add hb).hi (by omega))] at h
  exact h
theorem rsub {k : Nat} {a b : Int} (ha : Sm k a) (hb : Sm k b) (hk : k < 1023 := by omega) : MC Tryz.prog 63 [rz a, rz b] [] (rz (a - b)) [] := by
  have h := rSub_t (ha.wf (by omega)) (hb.wf (by omega))
  rw [show wsub (some a) (some b) = some (a - b) from by
    show clamp (a + -b) = _
    rw [← Int.sub_eq_add_neg]
    exact clamp_eq ((ha.sub hb).hi (by omega))] at h
  exact h
theorem rsign (z : Int) : MC Tryz.prog 37 [rz z] [] (i6 (signI (some z))) [] := rSign_any z
theorem enters_rdet : ∀ us w, (callFunc 59 us).run Tryz.prog w = .ok (.enter 59 us) w := enters Tryz.func59 rfl (by kernel_rfl)
theorem enters_rDet : ∀ us w, (callFunc 38 us).run Tryz.prog w = .ok (.enter 38 us) w := enters Tryz.func38 rfl (by kernel_rfl)
theorem enters_rQuad : ∀ us w, (callFunc 33 us).run Tryz.prog w = .ok (.enter 33 us) w := enters Tryz.func33 rfl (by kernel_rfl)
theorem enters_rpsd : ∀ us w, (callFunc 62 us).run Tryz.prog w = .ok (.enter 62 us) w := enters Tryz.func62 rfl (by kernel_rfl)
theorem enters_rHolds : ∀ us w, (callFunc 40 us).run Tryz.prog w = .ok (.enter 40 us) w := enters Tryz.func40 rfl (by kernel_rfl)
theorem rdet {k : Nat} {a b d : Int} (ha : Sm k a) (hb : Sm k b) (hd : Sm k d) (hk : k + k < 1023 := by omega) : MC Tryz.prog 59 [rz a, rz b, rz d] [] (rz (detI a b d)) [] :=
  AC.runA mixed Tryz.func59 [.ab (rz (a * d)), .ab (rz (b * b)), .ab (rz (a * d - b * b))] ts0 (qs3 (rmul ha hd) (rmul hb hb) (rsub (ha.mul hd) (hb.mul hb))) rfl enters_rdet (by kernel_rfl)
theorem rDet {a b d : Int} (ha : I64 a) (hb : I64 b) (hd : I64 d) : MC Tryz.prog 38 [sym a b d] [] (rz (detI a b d)) [] :=
  AC.runA mixed Tryz.func38 [.ab (rz a), .ab (rz b), .ab (rz d), .ab (rz (detI a b d))] ts0 (qs4 (rof ha) (rof hb) (rof hd) (rdet ha.sm hb.sm hd.sm)) rfl enters_rDet (by kernel_rfl)
theorem quad_eq (a b d x y : Int) : a * (x * x) + b * (x * y + x * y) + d * (y * y) = quadI a b d x y := by
  unfold quadI dotI
  grind
theorem qsC' {p q : Prop} (h : p) (t : q) : p ∧ q := ⟨h, t⟩
theorem rQuad {a b d x y : Int} (ha : I64 a) (hb : I64 b) (hd : I64 d) (hx : I64 x) (hy : I64 y) : MC Tryz.prog 33 [sym a b d, pt x y] [] (rz (quadI a b d x y)) [] := by
  rw [← quad_eq]
  have hxy := hx.sq hy
  have s1 : Sm 200 (a * (x * x)) := (ha.sm.mul (hx.sq hx)).mono (by omega)
  have s2 : Sm 200 (b * (x * y + x * y)) := (hb.sm.mul (hxy.add hxy)).mono (by omega)
  have s3 : Sm 201 (d * (y * y)) := (hd.sm.mul (hy.sq hy)).mono (by omega)
  exact AC.runA mixed Tryz.func33 [.ab (rz x), .ab (rz y), .ab (rz (x * y)), .ab (rz a), .ab (rz (x * x)), .ab (rz (a * (x * x))), .ab (rz b), .ab (rz (x * y + x * y)), .ab (rz (b * (x * y + x * y))), .ab (rz (a * (x * x) + b * (x * y + x * y))), .ab (rz d), .ab (rz (y * y)), .ab (rz (d * (y * y))), .ab (rz (a * (x * x) + b * (x * y + x * y) + d * (y * y)))] ts0
    (qsC (rof hx) <| qsC (rof hy) <| qsC (rmul hx.sm hy.sm) <| qsC (rof ha) <| qsC (rmul hx.sm hx.sm) <| qsC (rmul ha.sm (hx.sq hx)) <| qsC (rof hb) <| qsC (radd hxy hxy) <| qsC (rmul hb.sm (hxy.add hxy)) <| qsC (radd s1 s2) <| qsC (rof hd) <| qsC (rmul hy.sm hy.sm) <| qsC (rmul hd.sm (hy.sq hy)) <| qsC (radd (s1.add s2) s3) qs0) rfl enters_rQuad (by kernel_rfl)
theorem signI_ge {z : Int} : signI (some z) ≥ 0 ↔ 0 ≤ z := by
  show (if z < 0 then -1 else if z = 0 then 0 else (1 : Int)) ≥ 0 ↔ _
  split
  · omega
  · split <;> omega
theorem rpsd {k : Nat} {a b d : Int} (ha : Sm k a) (hb : Sm k b) (hd : Sm k d) (hk : k + k < 1023 := by omega) : MC Tryz.prog 62 [rz a, rz b, rz d] [] (.bool (psdI a b d)) [] := by
  unfold psdI
  by_cases h1 : 0 ≤ a
  · rw [decide_eq_true h1]
    by_cases h2 : 0 ≤ d
    · rw [decide_eq_true h2]
      have key := AC.runA (args := [rz a, rz b, rz d]) (v := .bool (decide (signI (some (detI a b d)) ≥ 0))) mixed Tryz.func62 [.ab (i6 (signI (some a))), .tst true, .ab (i6 (signI (some d))), .tst true, .ab (rz (detI a b d)), .ab (i6 (signI (some (detI a b d))))] (ts2 (tT (signI_ge.2 h1)) (tT (signI_ge.2 h2))) (qs4 (rsign a) (rsign d) (rdet ha hb hd) (rsign (detI a b d))) rfl enters_rpsd (by kernel_rfl)
      rw [decide_eq_decide.2 signI_ge] at key
      exact key
    · rw [decide_eq_false h2]
      exact AC.runA mixed Tryz.func62 [.ab (i6 (signI (some a))), .tst true, .ab (i6 (signI (some d))), .tst false] (ts2 (tT (signI_ge.2 h1)) (tF (fun h => h2 (signI_ge.1 h)))) (qs2 (rsign a) (rsign d)) rfl enters_rpsd (by kernel_rfl)
  · rw [decide_eq_false h1]
    exact AC.runA mixed Tryz.func62 [.ab (i6 (signI (some a))), .tst false] (ts1 (tF (fun h => h1 (signI_ge.1 h)))) (qs1 (rsign a)) rfl enters_rpsd (by kernel_rfl)
theorem rHolds {a b d x y : Int} (ha : I64 a) (hb : I64 b) (hd : I64 d) (hx : I64 x) (hy : I64 y) : MC Tryz.prog 40 [sym a b d, pt x y] [] (.bool (holdsI a b d x y)) [] := by
  have sa := ha.sm.mono (k := 128) (by omega)
  have sb := hb.sm.mono (k := 128) (by omega)
  have sd := hd.sm.mono (k := 128) (by omega)
  exact AC.runA mixed Tryz.func40 [.ab (rz x), .ab (rz y), .ab (rz a), .ab (rz (x * x)), .ab (rz (a - x * x)), .ab (rz b), .ab (rz (x * y)), .ab (rz (b - x * y)), .ab (rz d), .ab (rz (y * y)), .ab (rz (d - y * y)), .ab (.bool (holdsI a b d x y))] ts0
    (qsC (rof hx) <| qsC (rof hy) <| qsC (rof ha) <| qsC (rmul hx.sm hx.sm) <| qsC (rsub sa (hx.sq hx)) <| qsC (rof hb) <| qsC (rmul hx.sm hy.sm) <| qsC (rsub sb (hx.sq hy)) <| qsC (rof hd) <| qsC (rmul hy.sm hy.sm) <| qsC (rsub sd (hy.sq hy)) <| qsC (rpsd (sa.sub (hx.sq hx)) (sb.sub (hx.sq hy)) (sd.sub (hy.sq hy))) qs0) rfl enters_rHolds (by kernel_rfl)
/-! ### MayMat, AddMat, Adj, Least -/
inductive Pos (n : Int) : Prop
  | lo (h : n < -2305843009213693952)
  | hi (h : n > 2305843009213693952)
  | ok (h0 : ¬ n < -2305843009213693952) (h1 : ¬ n > 2305843009213693952)
theorem pos (n : Int) : Pos n := by
  by_cases h : n < -2305843009213693952
  · exact .lo h
  · by_cases h1 : n > 2305843009213693952
    · exact .hi h1
    · exact .ok h h1
theorem mayE_lo {n : Int} (h : n < -2305843009213693952) : mayE n = false := by unfold mayE; rw [decide_eq_false (by omega)]; rfl
theorem mayE_hi {n : Int} (h : n > 2305843009213693952) : mayE n = false := by unfold mayE; rw [decide_eq_false (show ¬ n ≤ 2305843009213693952 by omega), Bool.and_false]
theorem mayE_ok {n : Int} (h0 : ¬ n < -2305843009213693952) (h1 : ¬ n > 2305843009213693952) : mayE n = true := by unfold mayE; rw [decide_eq_true (by omega), decide_eq_true (by omega)]; rfl
end Go.Proofs.YtfgnjkjnhakihaaGreat.R
