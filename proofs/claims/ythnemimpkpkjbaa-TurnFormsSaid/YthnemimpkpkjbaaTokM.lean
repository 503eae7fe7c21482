/-
  The reference's matrices.
-/
import Derived.Test.YthnemimpkpkjbaaTokG
import Derived.Test.YthnemimpkpkjbaaMat
/-! The reference's matrices. -/
namespace Go.Proofs.Ythnemimpkpkjbaa.R
open Go Go.Ev Go.W32
open Go.Proofs.Ythnemimpkpkjbaa.W (mixed i64_wrap clamp WF signI Hi clamp_eq wadd wmul wsub wneg textB Sm I64 sym pt detI detI_sm psdI quadI quadI_sm dotI holdsI leastI mayE mayE_iff mayM mayM_iff adjV sumV)

/-- A number of the reference. -/
def rz (z : Int) : Value := rV (some z)
theorem rof {n : Int} (h : I64 n) : MC Try.prog 35 [.int .i64 n] [] (rz n) [] := rOf_t h.1 h.2
theorem quad_eq (a b d x y : Int) : a * (x * x) + b * (x * y + x * y) + d * (y * y) = quadI a b d x y := by
  unfold quadI dotI
  grind
theorem qsC' {p q : Prop} (h : p) (t : q) : p ∧ q := ⟨h, t⟩
theorem signI_ge {z : Int} : signI (some z) ≥ 0 ↔ 0 ≤ z := by
  show (if z < 0 then -1 else if z = 0 then 0 else (1 : Int)) ≥ 0 ↔ _
  split
  · omega
  · split <;> omega
/-! ### MayMat, AddMat, Adj, Least -/
inductive Pos (n : Int) : Prop
  | lo (h : n < -2305843009213693952)
  | hi (h : n > 2305843009213693952)
  | ok (h0 : ¬ n < -2305843009213693952) (h1 : ¬ n > 2305843009213693952)
theorem pos (n : Int) : Pos n := by
  by_cases h : n < -2305843009213693952
  · exact .lo h
  · by_cases h1 : n > 2305843009213693952
    · exact .hi h1
    · exact .ok h h1
theorem mayE_lo {n : Int} (h : n < -2305843009213693952) : mayE n = false := by unfold mayE; rw [decide_eq_false (by omega)]; rfl
theorem mayE_hi {n : Int} (h : n > 2305843009213693952) : mayE n = false := by unfold mayE; rw [decide_eq_false (show ¬ n ≤ 2305843009213693952 by omega), Bool.and_false]
theorem mayE_ok {n : Int} (h0 : ¬ n < -2305843009213693952) (h1 : ¬ n > 2305843009213693952) : mayE n = true := by unfold mayE; rw [decide_eq_true (by omega), decide_eq_true (by omega)]; rfl
end Go.Proofs.Ythnemimpkpkjbaa.R
