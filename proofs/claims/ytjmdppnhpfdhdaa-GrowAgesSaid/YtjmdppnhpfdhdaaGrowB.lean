/-
  Package grow: age.
-/
import Derived.Test.YtjmdppnhpfdhdaaGrowM
namespace Go.Proofs.Ytjmdppnhpfdhdaa.W
open Go Go.Ev Go.Wide

theorem u64_mod (s : Int) {m : Int} (h0 : 0 < m) (h1 : m ≤ 9223372036854775807) : 0 ≤ IntKind.i64.wrap ((IntKind.u64.wrap s).tmod m) ∧ IntKind.i64.wrap ((IntKind.u64.wrap s).tmod m) < m := by
  have hw : 0 ≤ IntKind.u64.wrap s := by
    show 0 ≤ s % 18446744073709551616
    omega
  have h2 := Int.tmod_nonneg m hw
  have h3 := Int.tmod_lt_of_pos (IntKind.u64.wrap s) h0
  rw [i64_wrap (by omega) (by omega)]
  exact ⟨h2, h3⟩
def mayG3 (x y a b d s t : Int) : Bool := mayL x y a b d && (decide (0 ≤ s) && decide (0 ≤ t))
def gageV (x y a b d s t : Int) : Value := match mayG3 x y a b d s t with
  | true => if 0 < s ∧ (4194304 : Int).tdiv s < t then ellT 0 0 0 0 0 2 else gballV x y a b d (s * t)
  | false => ellT 0 0 0 0 0 1
theorem gage_prod {s t : Int} (hs : 0 < s) (ht : 0 ≤ t) (h : t ≤ (4194304 : Int).tdiv s) : 0 ≤ s * t ∧ s * t ≤ 4194304 := by
  have h1 := Int.mul_le_mul_of_nonneg_left h (show 0 ≤ s by omega)
  have h2 := Int.mul_tdiv_add_tmod 4194304 s
  have h3 := Int.tmod_nonneg s (show (0 : Int) ≤ 4194304 by omega)
  have h4 := Int.mul_nonneg (show 0 ≤ s by omega) ht
  omega
theorem tdiv_wrap {s : Int} (hs : 0 < s) : IntKind.i64.wrap ((4194304 : Int).tdiv s) = (4194304 : Int).tdiv s := by
  have h2 := Int.mul_tdiv_add_tmod 4194304 s
  have h3 := Int.tmod_nonneg s (show (0 : Int) ≤ 4194304 by omega)
  have h0 : 0 ≤ (4194304 : Int).tdiv s := Int.tdiv_nonneg (by omega) (by omega)
  have h4 := Int.mul_le_mul_of_nonneg_right (show 1 ≤ s by omega) h0
  exact i64_wrap (by omega) (by omega)
theorem gage_run {x y a b d s t p q A B D : Int} {e : Nat} (h1 : QC Try.prog 18 [ell x y a b d] (.bool true)) (hs : ¬ s < 0) (ht : ¬ t < 0) (h0 : 0 < s) (hn : ¬ s = 0) (h2 : ¬ t > IntKind.i64.wrap ((4194304 : Int).tdiv s)) (h3 : QC Try.prog 12 [ell x y a b d, .int .i64 (IntKind.i64.wrap (s * t))] (ellT p q A B D e)) :
    PC Try.prog 14 [ell x y a b d, .int .i64 s, .int .i64 t] (ellT p q A B D e) :=
  PC.run mixed Try.func14 [.res (.bool true), .auto, .tst false, .tst false, .tst true, .tst false, .res (ellT p q A B D e)] (by simp [flat_ell]; exact ⟨rfl, rfl⟩) (ts5 (tF hs) (tF ht) (tT h0) (tF hn) (tF h2)) (qs2 h1 h3) (flat_ellT _ _ _ _ _ _) rfl (by kernel_rfl)
theorem gage_run0 {x y a b d s t p q A B D : Int} {e : Nat} (h1 : QC Try.prog 18 [ell x y a b d] (.bool true)) (hs : ¬ s < 0) (ht : ¬ t < 0) (h0 : ¬ 0 < s) (h3 : QC Try.prog 12 [ell x y a b d, .int .i64 (IntKind.i64.wrap (s * t))] (ellT p q A B D e)) :
    PC Try.prog 14 [ell x y a b d, .int .i64 s, .int .i64 t] (ellT p q A B D e) :=
  PC.run mixed Try.func14 [.res (.bool true), .auto, .tst false, .tst false, .tst false, .res (ellT p q A B D e)] (by simp [flat_ell]; exact ⟨rfl, rfl⟩) (ts3 (tF hs) (tF ht) (tF h0)) (qs2 h1 h3) (flat_ellT _ _ _ _ _ _) rfl (by kernel_rfl)
theorem gage_pc {x y a b d s t : Int} (ha : I64 a) (hb : I64 b) (hd : I64 d) : PC Try.prog 14 [ell x y a b d, .int .i64 s, .int .i64 t] (gageV x y a b d s t) := by
  have hfl : [ell x y a b d, Value.int .i64 s, Value.int .i64 t].all flat = true := by simp [flat_ell]; exact ⟨rfl, rfl⟩
  unfold gageV mayG3
  cases h1 : mayL x y a b d with
  | false => exact PC.run mixed Try.func14 [.res (.bool false)] hfl ts0 (qs1 (mayL_qc x y ha hb hd _ h1)) (flat_ellT 0 0 0 0 0 1) rfl (by kernel_rfl)
  | true =>
    by_cases hs : s < 0
    · rw [decide_eq_false (by omega)]
      exact PC.run mixed Try.func14 [.res (.bool true), .auto, .tst true] hfl (ts1 (tT hs)) (qs1 (mayL_qc x y ha hb hd _ h1)) (flat_ellT 0 0 0 0 0 1) rfl (by kernel_rfl)
    · rw [decide_eq_true (show 0 ≤ s by omega)]
      by_cases ht : t < 0
      · rw [decide_eq_false (by omega)]
        exact PC.run mixed Try.func14 [.res (.bool true), .auto, .tst false, .tst true] hfl (ts2 (tF hs) (tT ht)) (qs1 (mayL_qc x y ha hb hd _ h1)) (flat_ellT 0 0 0 0 0 1) rfl (by kernel_rfl)
      · rw [decide_eq_true (show 0 ≤ t by omega)]
        simp only [Bool.and_self]
        by_cases h0 : 0 < s
        · have ew := tdiv_wrap h0
          by_cases h2 : (4194304 : Int).tdiv s < t
          · rw [if_pos ⟨h0, h2⟩]
            have h2' : t > IntKind.i64.wrap ((4194304 : Int).tdiv s) := by rw [ew]; exact h2
            exact PC.run mixed Try.func14 [.res (.bool true), .auto, .tst false, .tst false, .tst true, .tst true] hfl (ts5 (tF hs) (tF ht) (tT h0) (tF (show ¬ s = 0 by omega)) (tT h2')) (qs1 (mayL_qc x y ha hb hd _ h1)) (flat_ellT 0 0 0 0 0 2) rfl (by kernel_rfl)
          · rw [if_neg fun h => h2 h.2]
            have h2' : ¬ t > IntKind.i64.wrap ((4194304 : Int).tdiv s) := by rw [ew]; exact h2
            have hp := gage_prod h0 (show 0 ≤ t by omega) (by omega)
            have e : IntKind.i64.wrap (s * t) = s * t := i64_wrap (by omega) (by omega)
            have hb3 := gball_qc x y (s * t) ha hb hd _ rfl
            rw [← e] at hb3
            obtain ⟨p, q, A, B, D, k, hk⟩ := gballV_form x y a b d (s * t)
            rw [e, hk] at hb3
            rw [hk]
            exact gage_run (mayL_qc x y ha hb hd _ h1) hs ht h0 (by omega) h2' (by rw [e]; exact hb3)
        · rw [if_neg fun h => h0 h.1]
          have e0 : s = 0 := by omega
          have e : IntKind.i64.wrap (s * t) = s * t := by subst e0; rw [Int.zero_mul]; rfl
          have hb3 := gball_qc x y (s * t) ha hb hd _ rfl
          obtain ⟨p, q, A, B, D, k, hk⟩ := gballV_form x y a b d (s * t)
          rw [hk] at hb3
          rw [hk]
          exact gage_run0 (mayL_qc x y ha hb hd _ h1) hs ht h0 (by rw [e]; exact hb3)
theorem enters_gage : ∀ us w, (callFunc 14 us).run Try.prog w = .ok (.enter 14 us) w := enters Try.func14 rfl (by kernel_rfl)
theorem gage_qc {a b d : Int} (x y s t : Int) (ha : I64 a) (hb : I64 b) (hd : I64 d) (v : Value) (h : gageV x y a b d s t = v) : QC Try.prog 14 [ell x y a b d, .int .i64 s, .int .i64 t] v := h ▸ QC.of_pc enters_gage (gage_pc ha hb hd)
theorem gageV_form (x y a b d s t : Int) : ∃ p q A B D e, gageV x y a b d s t = ellT p q A B D e := by
  unfold gageV
  split
  · split
    · exact ⟨_, _, _, _, _, _, rfl⟩
    · exact gballV_form _ _ _ _ _ _
  · exact ⟨_, _, _, _, _, _, rfl⟩
end Go.Proofs.Ytjmdppnhpfdhdaa.W
