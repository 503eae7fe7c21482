/-
  The reference's matrices.
-/
import Derived.Test.YtljolfnpncjklaaGreatTokG
import Derived.Test.YtljolfnpncjklaaGreatMat
/-! The reference's matrices. -/
namespace Go.Proofs.YtljolfnpncjklaaGreat.R
open Go Go.Ev Go.W32
open Go.Proofs.YtljolfnpncjklaaGreat.W (mixed i64_wrap clamp WF signI Hi clamp_eq wadd wmul wsub wneg textB Sm I64 sym pt detI detI_sm psdI quadI quadI_sm dotI holdsI leastI mayE mayE_iff mayM mayM_iff adjV sumV)

/-- A number of the reference. -/
def rz (z : Int) : Value := rV (some z)
theorem rof {n : Int} (h : I64 n) : MC Tryz.prog 10 [.int .i64 n] [] (rz n) [] := rOf_t h.1 h.2
theorem rmul {j k : Nat} {a b : Int} (ha : Sm j a) (hb : Sm k b) (hk : j + k ≤ 1023 := by omega) : MC Tryz.prog 14 [rz a, rz b] [] (rz (a * b)) [] := by
  have h := rMul_t (ha.wf (by omega)) (hb.wf (by omega))
  rw [show wmul (some a) (some b) = some (a * b) from clamp_eq ((ha.mul hb).hi hk)] at h
  exact h
theorem radd {k : Nat} {a b : Int} (ha : Sm k a) (hb : Sm k b) (hk : k < 1023 := by omega) : MC Tryz.prog 13 [rz a, rz b] [] (rz (a + b)) [] := by
  have h := rAdd_t (ha.wf (by omega)) (hb.wf (by omega))
  rw [show wadd (some a) (some b) = some (a + b) from clamp_eq ((ha.add hb).hi (by omega))] at h
  exact h
theorem rsub {k : Nat} {a b : Int} (ha : Sm k a) (hb : Sm k b) (hk : k < 1023 := by omega) : MC Tryz.prog 26 [rz a, rz b] [] (rz (a - b)) [] := by
  have h := rSub_t (ha.wf (by omega)) (hb.wf (by omega))
  rw [show wsub (some a) (some b) = some (a - b) from by
    show clamp (a + -b) = _
    rw [← Int.sub_eq_add_neg]
    exact clamp_eq ((ha.sub hb).hi (by omega))] at h
  exact h
theorem rsign (z : Int) : MC Tryz.prog 31 [rz z] [] (i6 (signI (some z))) [] := rSign_any z
theorem enters_rdet : ∀ us w, (callFunc 103 us).run Tryz.prog w = .ok (.enter 103 us) w := enters Tryz.func103 rfl (by kernel_rfl)
theorem enters_rDet : ∀ us w, (callFunc 74 us).run Tryz.prog w = .ok (.enter 74 us) w := enters Tryz.func74 rfl (by kernel_rfl)
theorem rdet {k : Nat} {a b d : Int} (ha : Sm k a) (hb : Sm k b) (hd : Sm k d) (hk : k + k < 1023 := by omega) : MC Tryz.prog 103 [rz a, rz b, rz d] [] (rz (detI a b d)) [] :=
  AC.runA mixed Tryz.func103 [.ab (rz (a * d)), .ab (rz (b * b)), .ab (rz (a * d - b * b))] ts0 (qs3 (rmul ha hd) (rmul hb hb) (rsub (ha.mul hd) (hb.mul hb))) rfl enters_rdet (by kernel_rfl)
theorem rDet {a b d : Int} (ha : I64 a) (hb : I64 b) (hd : I64 d) : MC Tryz.prog 74 [sym a b d] [] (rz (detI a b d)) [] :=
  AC.runA mixed Tryz.func74 [.ab (rz a), .ab (rz b), .ab (rz d), .ab (rz (detI a b d))] ts0 (qs4 (rof ha) (rof hb) (rof hd) (rdet ha.sm hb.sm hd.sm)) rfl enters_rDet (by kernel_rfl)
theorem quad_eq (a b d x y : Int) : a * (x * x) + b * (x * y + x * y) + d * (y * y) = quadI a b d x y := by
  unfold quadI dotI
  grind
theorem qsC' {p q : Prop} (h : p) (t : q) : p ∧ q := ⟨h, t⟩
theorem signI_ge {z : Int} : signI (some z) ≥ 0 ↔ 0 ≤ z := by
  show (if z < 0 then -1 else if z = 0 then 0 else (1 : Int)) ≥ 0 ↔ _
  split
  · omega
  · split <;> omega
/-! ### MayMat, AddMat, Adj, Least -/
inductive Pos (n : Int) : Prop
  | lo (h : n < -2305843009213693952)
  | hi (h : n > 2305843009213693952)
  | ok (h0 : ¬ n < -2305843009213693952) (h1 : ¬ n > 2305843009213693952)
theorem pos (n : Int) : Pos n := by
  by_cases h : n < -2305843009213693952
  · exact .lo h
  · by_cases h1 : n > 2305843009213693952
    · exact .hi h1
    · exact .ok h h1
theorem mayE_lo {n : Int} (h : n < -2305843009213693952) : mayE n = false := by unfold mayE; rw [decide_eq_false (by omega)]; rfl
theorem mayE_hi {n : Int} (h : n > 2305843009213693952) : mayE n = false := by unfold mayE; rw [decide_eq_false (show ¬ n ≤ 2305843009213693952 by omega), Bool.and_false]
theorem mayE_ok {n : Int} (h0 : ¬ n < -2305843009213693952) (h1 : ¬ n > 2305843009213693952) : mayE n = true := by unfold mayE; rw [decide_eq_true (by omega), decide_eq_true (by omega)]; rfl
end Go.Proofs.YtljolfnpncjklaaGreat.R
