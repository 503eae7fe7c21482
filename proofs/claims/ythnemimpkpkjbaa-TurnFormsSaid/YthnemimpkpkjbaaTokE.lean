/-
  The reference's numbers: Shift, Cmp, Int64.
-/
import Derived.Test.YthnemimpkpkjbaaTokD
/-! The reference: Shift, Cmp, Int64. -/
namespace Go.Proofs.Ythnemimpkpkjbaa.R
open Go Go.Ev Go.W32
open Go.Proofs.Ythnemimpkpkjbaa.W (mixed rsl i64_wrap u64_wrap u32_wrap bitLen_lt_iff clamp WF wadd wsub wneg wmul wshift wcmp signI absN wint ordI Hi bitLen_Hi clamp_eq clamp_wf wneg_wf sg downK sg_down sg_up sg_natAbs lt_Hi_pow fits64 wshift_wf)

/-! ### Shift -/
theorem one_word : [u3 1] = (List.range 1).map (word32 1) := rfl
theorem nw_pow {n k : Nat} (h : n < 32 * k) : nw (2 ^ n) ≤ k := nw_le (Nat.pow_lt_pow_right (by omega) h)
theorem sg_abs (K : Nat) (s : Bool) : (sg K s).natAbs = K := by cases s <;> simp [sg]
theorem sg_neg (K : Nat) (s : Bool) : (s && decide (K ≠ 0)) = decide (sg K s < 0) := by
  cases s with
  | false =>
    show false = decide ((K : Int) < 0)
    rw [decide_eq_false (by omega)]
  | true =>
    show (true && decide (K ≠ 0)) = decide (-(K : Int) < 0)
    rw [Bool.true_and]
    exact decide_eq_decide.2 (by omega)
theorem nw_div {A n : Nat} (h : nw A ≤ 40) : nw (A / 2 ^ n) ≤ 40 := Nat.le_trans (nw_mono (Nat.div_le_self _ _)) h
theorem made_sg {s : Bool} {z : Int} {N K : Nat} (e : N = K) (hK : nw K < 1000000) (h : sg K s = z) : MC Try.prog 45 [.bool s, tk N (nw N)] [] (rV (clamp z)) [] := by
  subst h e
  exact made_z (sg_abs N s) (sg_neg N s) (lt_nw _) hK
def rBB (s o : Bool) (N : Nat) : Blk := ⟨[.bool s, .bool o, tk N (nw N)], 53, true⟩
def zB : Blk := ⟨[.bool false, .bool false, .slice none 0 0], 53, true⟩
def pB (k : Nat) : Value := .pointer (some ⟨k, 0, none⟩)
end Go.Proofs.Ythnemimpkpkjbaa.R
