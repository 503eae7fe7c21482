/-
  GrowAges: aged in two parts.
-/
import Derived.Test.YtjmdppnhpfdhdaaGrowB
import Derived.Test.YtjmdppnhpfdhdaaEvT
namespace Go.Proofs.Ytjmdppnhpfdhdaa.W
open Go Go.Ev Go.Wide

def n100 (s : Int) : Int := IntKind.i64.wrap ((IntKind.u64.wrap s).tmod 100)
def n50 (s : Int) : Int := IntKind.i64.wrap ((IntKind.u64.wrap s).tmod 50)
def n5k (u : Int) : Int := u.tmod 5000
theorem n5k_b (u : Int) : -5000 < n5k u ∧ n5k u < 5000 := by
  have h1 := Int.tmod_lt_of_pos u (show (0 : Int) < 5000 by omega)
  have h2 := Int.lt_tmod_of_pos u (show (0 : Int) < 5000 by omega)
  exact ⟨h2, h1⟩
theorem ellT_inj {x y a b d x' y' a' b' d' : Int} {e e' : Nat} (h : ellT x y a b d e = ellT x' y' a' b' d' e') : x = x' ∧ y = y' ∧ a = a' ∧ b = b' ∧ d = d' ∧ e = e' := by
  simp only [ellT, ell, Value.tuple.injEq, Array.mk.injEq, List.cons.injEq, Value.agg.injEq, Value.int.injEq, true_and, and_true] at h
  omega
theorem gball_moves {x y a b d r X Y A B D p q u v : Int} (hg : gballV x y a b d r = ellT X Y A B D 0) (hin : inE x y a b d p q = true) (hh : u * u + v * v ≤ r * r) : inE X Y A B D (p + u) (q + v) = true := by
  have h1 := (inE_near hin).1
  have nu := sq_nn u
  have nv := sq_nn v
  by_cases h0 : r = 0
  · rw [gball_0 h1 h0] at hg
    obtain ⟨rfl, rfl, rfl, rfl, rfl, _⟩ := ellT_inj hg
    subst h0
    have hu : u = 0 := by
      rcases Int.mul_eq_zero.1 (show u * u = 0 by omega) with h | h <;> exact h
    have hv : v = 0 := by
      rcases Int.mul_eq_zero.1 (show v * v = 0 by omega) with h | h <;> exact h
    subst hu hv
    rw [Int.add_zero, Int.add_zero]
    exact hin
  · cases h2 : mayR r with
    | false =>
      rw [gball_rad h1 h0 h2] at hg
      have := (ellT_inj hg).2.2.2.2.2
      omega
    | true =>
      cases h3 : mayG x y a b d 0 0 (r * r) 0 (r * r) with
      | false =>
        rw [gball_over h1 h0 h2 h3] at hg
        have := (ellT_inj hg).2.2.2.2.2
        omega
      | true =>
        rw [gball_ok h1 h0 h2 h3] at hg
        unfold sumT5 at hg
        obtain ⟨e1, e2, e3, e4, e5, _⟩ := ellT_inj hg
        have hr := mayR_iff.1 h2
        have bu := sq_abs (x := u) (n := r) (by omega) (by omega)
        have bv := sq_abs (x := v) (n := r) (by omega) (by omega)
        have := gsum_in h3 hin (ball_in0 h2 (u := u) (v := v) (by omega) (by omega) hh)
        rw [e1, e2, e3, e4, e5] at this
        exact this
theorem gage_moves {x y a b d s t X Y A B D p q u v : Int} (hg : gageV x y a b d s t = ellT X Y A B D 0) (hin : inE x y a b d p q = true) (hh : u * u + v * v ≤ s * t * (s * t)) : inE X Y A B D (p + u) (q + v) = true := by
  unfold gageV at hg
  cases h1 : mayG3 x y a b d s t with
  | false =>
    rw [h1] at hg
    have := (ellT_inj hg).2.2.2.2.2
    omega
  | true =>
    rw [h1] at hg
    simp only at hg
    split at hg
    · have := (ellT_inj hg).2.2.2.2.2
      omega
    · exact gball_moves hg hin hh
theorem gballV_i64 {x y a b d r X Y A B D : Int} {e : Nat} (ha : I64 a) (hb : I64 b) (hd : I64 d) (hg : gballV x y a b d r = ellT X Y A B D e) : I64 A ∧ I64 B ∧ I64 D := by
  have z : ∀ k, ellT 0 0 0 0 0 k = ellT X Y A B D e → I64 A ∧ I64 B ∧ I64 D := fun k h => by
    obtain ⟨_, _, rfl, rfl, rfl, _⟩ := ellT_inj h
    exact ⟨.lit, .lit, .lit⟩
  cases h1 : mayL x y a b d with
  | false => exact z _ ((gball_arg h1).symm.trans hg)
  | true =>
    by_cases h0 : r = 0
    · rw [gball_0 h1 h0] at hg
      obtain ⟨_, _, rfl, rfl, rfl, _⟩ := ellT_inj hg
      exact ⟨ha, hb, hd⟩
    · cases h2 : mayR r with
      | false => exact z _ ((gball_rad h1 h0 h2).symm.trans hg)
      | true =>
        cases h3 : mayG x y a b d 0 0 (r * r) 0 (r * r) with
        | false => exact z _ ((gball_over h1 h0 h2 h3).symm.trans hg)
        | true =>
          rw [gball_ok h1 h0 h2 h3] at hg
          unfold sumT5 at hg
          obtain ⟨_, _, rfl, rfl, rfl, _⟩ := ellT_inj hg
          exact mayG_i64 h3
theorem gageV_i64 {x y a b d s t X Y A B D : Int} {e : Nat} (ha : I64 a) (hb : I64 b) (hd : I64 d) (hg : gageV x y a b d s t = ellT X Y A B D e) : I64 A ∧ I64 B ∧ I64 D := by
  have z : ∀ k, ellT 0 0 0 0 0 k = ellT X Y A B D e → I64 A ∧ I64 B ∧ I64 D := fun k h => by
    obtain ⟨_, _, rfl, rfl, rfl, _⟩ := ellT_inj h
    exact ⟨.lit, .lit, .lit⟩
  unfold gageV at hg
  cases h1 : mayG3 x y a b d s t with
  | false => rw [h1] at hg; exact z _ hg
  | true =>
    rw [h1] at hg
    simp only at hg
    split at hg
    · exact z _ hg
    · exact gballV_i64 ha hb hd hg
theorem ages_sq {u v r s : Int} (h : ¬ IntKind.i64.wrap (IntKind.i64.wrap (n5k u * n5k u) + IntKind.i64.wrap (n5k v * n5k v)) > IntKind.i64.wrap (IntKind.i64.wrap (IntKind.i64.wrap (n100 r * n50 s) * n100 r) * n50 s)) : n5k u * n5k u + n5k v * n5k v ≤ n100 r * n50 s * (n100 r * n50 s) := by
  have hu := n5k_b u
  have hv := n5k_b v
  have hr : 0 ≤ n100 r ∧ n100 r < 100 := u64_mod r (by omega) (by omega)
  have hs : 0 ≤ n50 s ∧ n50 s < 50 := u64_mod s (by omega) (by omega)
  generalize n5k u = u at *
  generalize n5k v = v at *
  generalize n100 r = r at *
  generalize n50 s = s at *
  have m1 : u * u ≤ 5000 * 5000 := sq_le ⟨by omega, by omega⟩
  have m2 : v * v ≤ 5000 * 5000 := sq_le ⟨by omega, by omega⟩
  have m3 : r * s ≤ 100 * 50 := Int.mul_le_mul (by omega) (by omega) (by omega) (by omega)
  have m4 : r * s * r ≤ 5000 * 100 := Int.mul_le_mul (by omega) (by omega) (by omega) (by omega)
  have n3 := Int.mul_nonneg hr.1 hs.1
  have n4 := Int.mul_nonneg n3 hr.1
  have m5 : r * s * r * s ≤ 500000 * 50 := Int.mul_le_mul (by omega) (by omega) (by omega) (by omega)
  have n5 := Int.mul_nonneg n4 hs.1
  have n1 := sq_nn u
  have n2 := sq_nn v
  rw [wrapS (z := u * u) (by omega), wrapS (z := v * v) (by omega), wrapS (z := r * s) (by omega), wrapS (z := r * s * r) (by omega), wrapS (z := r * s * r * s) (by omega), wrapS (by omega)] at h
  rw [← Int.mul_assoc]
  omega
theorem ages_wrap {p u v : Int} (hp : -1073741824 ≤ p ∧ p ≤ 1073741824) : IntKind.i64.wrap (IntKind.i64.wrap (p + n5k u) + n5k v) = p + n5k u + n5k v := by
  have hu := n5k_b u
  have hv := n5k_b v
  rw [wrapS (z := p + n5k u) (by omega), wrapS (by omega)]
theorem ages_in {x y a b d r s t X Y A B D X' Y' A' B' D' p q u v u' v' : Int} (hg : gageV x y a b d (n100 r) (n50 s) = ellT X Y A B D 0) (hg' : gageV X Y A B D (n100 r) (n50 t) = ellT X' Y' A' B' D' 0) (hin : inE x y a b d p q = true) (h : ¬ IntKind.i64.wrap (IntKind.i64.wrap (n5k u * n5k u) + IntKind.i64.wrap (n5k v * n5k v)) > IntKind.i64.wrap (IntKind.i64.wrap (IntKind.i64.wrap (n100 r * n50 s) * n100 r) * n50 s)) (h' : ¬ IntKind.i64.wrap (IntKind.i64.wrap (n5k u' * n5k u') + IntKind.i64.wrap (n5k v' * n5k v')) > IntKind.i64.wrap (IntKind.i64.wrap (IntKind.i64.wrap (n100 r * n50 t) * n100 r) * n50 t)) :
    inE X' Y' A' B' D' (IntKind.i64.wrap (IntKind.i64.wrap (p + n5k u) + n5k u')) (IntKind.i64.wrap (IntKind.i64.wrap (q + n5k v) + n5k v')) = true := by
  have k1 := within_iff.1 (inE_near hin).2.1
  rw [ages_wrap (by omega), ages_wrap (by omega)]
  exact gage_moves hg' (gage_moves hg hin (ages_sq h)) (ages_sq h')
theorem growAges_pc {x y a b d p q u v u' v' r s t : Int} (ha : I64 a) (hb : I64 b) (hd : I64 d) : PC Try.prog 7 [ell x y a b d, pt p q, pt u v, pt u' v', Value.int .i64 r, Value.int .i64 s, Value.int .i64 t] (.bool true) := by
  have hfl : [ell x y a b d, pt p q, pt u v, pt u' v', Value.int .i64 r, Value.int .i64 s, Value.int .i64 t].all flat = true := by simp [flat_ell, flat_pt]; exact ⟨rfl, rfl, rfl⟩ --]
  obtain ⟨X, Y, A, B, D, e, he⟩ := gageV_form x y a b d (n100 r) (n50 s)
  obtain ⟨iA, iB, iD⟩ := gageV_i64 ha hb hd he
  by_cases h0 : ((e : Nat) : Int) = 0
  ·
    obtain rfl : e = 0 := by omega
    cases h4 : inE x y a b d p q with
    | true =>
      obtain ⟨X', Y', A', B', D', e', he'⟩ := gageV_form X Y A B D (n100 r) (n50 t)
      obtain ⟨jA, jB, jD⟩ := gageV_i64 iA iB iD he'
      by_cases h0' : ((e' : Nat) : Int) = 0
      ·
        obtain rfl : e' = 0 := by omega
        by_cases s1 : IntKind.i64.wrap (IntKind.i64.wrap (n5k u * n5k u) + IntKind.i64.wrap (n5k v * n5k v)) > IntKind.i64.wrap (IntKind.i64.wrap (IntKind.i64.wrap (n100 r * n50 s) * n100 r) * n50 s)
        ·
          exact PC.run mixed Try.func7 [.res (ellT X Y A B D 0), .res (.bool true), .res (ellT X' Y' A' B' D' 0), .auto, .tst true, .res (.bool true)] hfl (ts1 (tT s1)) (qs4 (gage_qc x y (n100 r) (n50 s) ha hb hd _ he) (inE_qc x y p q ha hb hd _ h4) (gage_qc X Y (n100 r) (n50 t) iA iB iD _ he') (awakeG)) (rfl) (rfl) (by kernel_rfl)
        ·
          by_cases s2 : IntKind.i64.wrap (IntKind.i64.wrap (n5k u' * n5k u') + IntKind.i64.wrap (n5k v' * n5k v')) > IntKind.i64.wrap (IntKind.i64.wrap (IntKind.i64.wrap (n100 r * n50 t) * n100 r) * n50 t)
          ·
            exact PC.run mixed Try.func7 [.res (ellT X Y A B D 0), .res (.bool true), .res (ellT X' Y' A' B' D' 0), .auto, .tst false, .tst true, .res (.bool true)] hfl (ts2 (tF s1) (tT s2)) (qs4 (gage_qc x y (n100 r) (n50 s) ha hb hd _ he) (inE_qc x y p q ha hb hd _ h4) (gage_qc X Y (n100 r) (n50 t) iA iB iD _ he') (awakeG)) (rfl) (rfl) (by kernel_rfl)
          ·
            exact PC.run mixed Try.func7 [.res (ellT X Y A B D 0), .res (.bool true), .res (ellT X' Y' A' B' D' 0), .auto, .tst false, .tst false, .res (.bool true), .res (.bool true)] hfl (ts2 (tF s1) (tF s2)) (qs5 (gage_qc x y (n100 r) (n50 s) ha hb hd _ he) (inE_qc x y p q ha hb hd _ h4) (gage_qc X Y (n100 r) (n50 t) iA iB iD _ he') (inE_qc X' Y' (IntKind.i64.wrap (IntKind.i64.wrap (p + n5k u) + n5k u')) (IntKind.i64.wrap (IntKind.i64.wrap (q + n5k v) + n5k v')) jA jB jD _ (ages_in he he' h4 s1 s2)) (awakeG)) (rfl) (rfl) (by kernel_rfl)
      ·
        exact PC.run mixed Try.func7 [.res (ellT X Y A B D 0), .res (.bool true), .res (ellT X' Y' A' B' D' e'), .tst true, .res (.bool true)] hfl (ts1 (tF h0')) (qs4 (gage_qc x y (n100 r) (n50 s) ha hb hd _ he) (inE_qc x y p q ha hb hd _ h4) (gage_qc X Y (n100 r) (n50 t) iA iB iD _ he') (awakeG)) (rfl) (rfl) (by kernel_rfl)
    | false =>
      exact PC.run mixed Try.func7 [.res (ellT X Y A B D 0), .res (.bool false), .res (.bool true)] hfl (ts0 ) (qs3 (gage_qc x y (n100 r) (n50 s) ha hb hd _ he) (inE_qc x y p q ha hb hd _ h4) (awakeG)) (rfl) (rfl) (by kernel_rfl)
  ·
    exact PC.run mixed Try.func7 [.res (ellT X Y A B D e), .tst true, .res (.bool true)] hfl (ts1 (tF h0)) (qs2 (gage_qc x y (n100 r) (n50 s) ha hb hd _ he) (awakeG)) (rfl) (rfl) (by kernel_rfl)
theorem enters_growAges : ∀ us w, (callFunc 7 us).run Try.prog w = .ok (.enter 7 us) w := enters Try.func7 rfl (by kernel_rfl)
end Go.Proofs.Ytjmdppnhpfdhdaa.W
