/-
  GrowNothing: grown by nothing.
-/
import Derived.Test.YtjmdppnhpfdhdaaGrowB
import Derived.Test.YtjmdppnhpfdhdaaEvT
namespace Go.Proofs.Ytjmdppnhpfdhdaa.W
open Go Go.Ev Go.Wide

def nM (s : Int) : Int := IntKind.i64.wrap ((IntKind.u64.wrap s).tmod 1000000)
theorem gage_t0 {x y a b d s : Int} (h : mayL x y a b d = true) (hs : 0 ≤ s) : gageV x y a b d s 0 = ellT x y a b d 0 := by
  unfold gageV mayG3
  rw [h, decide_eq_true hs]
  have h2 : 0 < s → 0 ≤ (4194304 : Int).tdiv s := fun h => Int.tdiv_nonneg (by omega) (by omega)
  simp only [Bool.true_and, Int.le_refl, decide_true]
  rw [if_neg (by omega), Int.mul_zero]
  exact gball_0 h rfl
theorem gage_s0 {x y a b d t : Int} (h : mayL x y a b d = true) (ht : 0 ≤ t) : gageV x y a b d 0 t = ellT x y a b d 0 := by
  unfold gageV mayG3
  rw [h, decide_eq_true ht]
  simp only [Bool.true_and, Int.le_refl, decide_true]
  rw [if_neg (by omega), Int.zero_mul]
  exact gball_0 h rfl
theorem gage_arg {x y a b d s t : Int} (h : mayL x y a b d = false) : gageV x y a b d s t = ellT 0 0 0 0 0 1 := by
  unfold gageV mayG3
  rw [h]
  rfl
theorem growNothing_pc {x y a b d s : Int} (ha : I64 a) (hb : I64 b) (hd : I64 d) : PC Try.prog 9 [ell x y a b d, Value.int .i64 s] (.bool true) := by
  have hfl : [ell x y a b d, Value.int .i64 s].all flat = true := by simp [flat_ell, flat_pt]; rfl --]
  have hn : 0 ≤ nM s ∧ nM s < 1000000 := u64_mod s (by omega) (by omega)
  cases h1 : mayL x y a b d with
  | true =>
    exact PC.run mixed Try.func9 [.res (ellT x y a b d 0), .res (ellT x y a b d 0), .res (ellT x y a b d 0), .res (.bool true), .auto, .auto, .auto, .auto, .tst true, .tst true, .tst true, .res (.bool true)] hfl (ts3 (ell_refl x y a b d) (ell_refl x y a b d) (ell_refl x y a b d)) (qs5 (gball_qc x y 0 ha hb hd _ (gball_0 h1 rfl)) (gage_qc x y (nM s) 0 ha hb hd _ (gage_t0 h1 hn.1)) (gage_qc x y 0 (nM s) ha hb hd _ (gage_s0 h1 hn.1)) (mayL_qc x y ha hb hd _ h1) (awakeG)) (rfl) (rfl) (by kernel_rfl)
  | false =>
    exact PC.run mixed Try.func9 [.res (ellT 0 0 0 0 0 1), .res (ellT 0 0 0 0 0 1), .res (ellT 0 0 0 0 0 1), .res (.bool false), .res (.bool true)] hfl (ts0 ) (qs5 (gball_qc x y 0 ha hb hd _ (gball_arg h1)) (gage_qc x y (nM s) 0 ha hb hd _ (gage_arg h1)) (gage_qc x y 0 (nM s) ha hb hd _ (gage_arg h1)) (mayL_qc x y ha hb hd _ h1) (awakeG)) (rfl) (rfl) (by kernel_rfl)
theorem enters_growNothing : ∀ us w, (callFunc 9 us).run Try.prog w = .ok (.enter 9 us) w := enters Try.func9 rfl (by kernel_rfl)
end Go.Proofs.Ytjmdppnhpfdhdaa.W
