/-
  The reference's numbers: Shift, Cmp, Int64.
-/
import Derived.Test.YtljolfnpncjklaaGreatTokD
/-! The reference: Shift, Cmp, Int64. -/
namespace Go.Proofs.YtljolfnpncjklaaGreat.R
open Go Go.Ev Go.W32
open Go.Proofs.YtljolfnpncjklaaGreat.W (mixed rsl i64_wrap u64_wrap u32_wrap bitLen_lt_iff clamp WF wadd wsub wneg wmul wshift wcmp signI absN wint ordI Hi bitLen_Hi clamp_eq clamp_wf wneg_wf sg downK sg_down sg_up sg_natAbs lt_Hi_pow fits64 wshift_wf)

/-! ### Shift -/
theorem enters_rShift : ∀ us w, (callFunc 16 us).run Tryz.prog w = .ok (.enter 16 us) w := enters Tryz.func16 rfl (by kernel_rfl)
theorem shift_O {k : Int} : MC Tryz.prog 16 [rB false true 0, i6 k] [] (rB false true 0) [] :=
  AC.runA mixed Tryz.func16 [] ts0 qs0 rfl enters_rShift (by kernel_rfl)
theorem shift_0 {s : Bool} {A : Nat} {k : Int} (h : nw A = 0) : MC Tryz.prog 16 [rB s false A, i6 k] [] (rB s false A) [] :=
  AC.runA mixed Tryz.func16 [.auto, .tst true] (ts1 (tT (show ((nw A : Nat) : Int) = 0 by omega))) qs0 rfl enters_rShift (by kernel_rfl)
theorem shift_big {s : Bool} {A : Nat} {k : Int} (h : nw A ≠ 0) (h0 : k ≥ 0) (h1 : k > 1023) : MC Tryz.prog 16 [rB s false A, i6 k] [] (rB false true 0) [] :=
  AC.runN mixed Tryz.func16 [.auto, .tst false, .tst true, .tst true] (ts3 (tF (show ¬ ((nw A : Nat) : Int) = 0 by omega)) (tT h0) (tT h1)) qs0 Frz.none enters_rShift (by kernel_rfl)
theorem shift_up {s r o : Bool} {A R K : Nat} {k : Int} (h : nw A ≠ 0) (h0 : k ≥ 0) (h1 : ¬ k > 1023) (hl : MC Tryz.prog 49 [tk A (nw A), i6 k] [] (tk R (nw R)) []) (hm : MC Tryz.prog 37 [.bool s, tk R (nw R)] [] (rB r o K) []) :
    MC Tryz.prog 16 [rB s false A, i6 k] [] (rB r o K) [] :=
  AC.runA mixed Tryz.func16 [.auto, .tst false, .tst true, .tst false, .ab (tk R (nw R)), .ab (rB r o K)] (ts3 (tF (show ¬ ((nw A : Nat) : Int) = 0 by omega)) (tT h0) (tF h1)) (qs2 hl hm) rfl enters_rShift (by kernel_rfl)
theorem one_word : [u3 1] = (List.range 1).map (word32 1) := rfl
/-- Downwards, by n bits; nothing is to be added. -/
theorem shift_dn {s l r o : Bool} {A R K n : Nat} {k : Int} (hsl : (s && l) = false) (h : nw A ≠ 0) (h0 : ¬ k ≥ 0) (h1 : ¬ k < -2000) (hn : IntKind.i64.wrap (0 - k) = n) (hl : MC Tryz.prog 50 [tk A (nw A), i6 n] [] (.tuple #[tk R (nw R), .bool l]) []) (hm : MC Tryz.prog 37 [.bool s, tk R (nw R)] [] (rB r o K) []) :
    MC Tryz.prog 16 [rB s false A, i6 k] [] (rB r o K) [] := by
  cases s with
  | false => exact AC.runA mixed Tryz.func16 [.auto, .tst false, .tst false, .tst false, .at 3 (i6 n), .ab (.tuple #[tk R (nw R), .bool l]), .ab (rB r o K)] (tsC (tF (show ¬ ((nw A : Nat) : Int) = 0 by omega)) <| tsC (tF h0) <| tsC (tF h1) <| tsC (tT hn) ts0) (qs2 hl hm) rfl enters_rShift (by kernel_rfl)
  | true =>
    have hl' : l = false := by simpa using hsl
    subst hl'
    exact AC.runA mixed Tryz.func16 [.auto, .tst false, .tst false, .tst false, .at 3 (i6 n), .ab (.tuple #[tk R (nw R), .bool false]), .ab (rB r o K)] (tsC (tF (show ¬ ((nw A : Nat) : Int) = 0 by omega)) <| tsC (tF h0) <| tsC (tF h1) <| tsC (tT hn) ts0) (qs2 hl hm) rfl enters_rShift (by kernel_rfl)
theorem shift_dnL {r o : Bool} {A R S K n : Nat} {k : Int} (h : nw A ≠ 0) (h0 : ¬ k ≥ 0) (h1 : ¬ k < -2000) (hn : IntKind.i64.wrap (0 - k) = n) (hl : MC Tryz.prog 50 [tk A (nw A), i6 n] [] (.tuple #[tk R (nw R), .bool true]) []) (hp : MC Tryz.prog 43 [tk R (nw R), tk 1 1] [] (tk S (nw S)) []) (hm : MC Tryz.prog 37 [.bool true, tk S (nw S)] [] (rB r o K) []) :
    MC Tryz.prog 16 [rB true false A, i6 k] [] (rB r o K) [] :=
  AC.runA mixed Tryz.func16 [.auto, .tst false, .tst false, .tst false, .at 3 (i6 n), .ab (.tuple #[tk R (nw R), .bool true]), .tk 1, .ab (tk S (nw S)), .ab (rB r o K)] (tsC (tF (show ¬ ((nw A : Nat) : Int) = 0 by omega)) <| tsC (tF h0) <| tsC (tF h1) <| tsC (tT hn) ts0) (qs4 hl one_word hp hm) rfl enters_rShift (by kernel_rfl)
/-- The same for what is shifted beyond 2000. -/
theorem shift_far {s l r o : Bool} {A R K : Nat} {k : Int} (hsl : (s && l) = false) (h : nw A ≠ 0) (h0 : ¬ k ≥ 0) (h1 : k < -2000) (hl : MC Tryz.prog 50 [tk A (nw A), i6 2000] [] (.tuple #[tk R (nw R), .bool l]) []) (hm : MC Tryz.prog 37 [.bool s, tk R (nw R)] [] (rB r o K) []) :
    MC Tryz.prog 16 [rB s false A, i6 k] [] (rB r o K) [] := by
  cases s with
  | false => exact AC.runA mixed Tryz.func16 [.auto, .tst false, .tst false, .tst true, .ab (.tuple #[tk R (nw R), .bool l]), .ab (rB r o K)] (tsC (tF (show ¬ ((nw A : Nat) : Int) = 0 by omega)) <| tsC (tF h0) <| tsC (tT h1) ts0) (qs2 hl hm) rfl enters_rShift (by kernel_rfl)
  | true =>
    have hl' : l = false := by simpa using hsl
    subst hl'
    exact AC.runA mixed Tryz.func16 [.auto, .tst false, .tst false, .tst true, .ab (.tuple #[tk R (nw R), .bool false]), .ab (rB r o K)] (tsC (tF (show ¬ ((nw A : Nat) : Int) = 0 by omega)) <| tsC (tF h0) <| tsC (tT h1) ts0) (qs2 hl hm) rfl enters_rShift (by kernel_rfl)
theorem shift_farL {r o : Bool} {A R S K : Nat} {k : Int} (h : nw A ≠ 0) (h0 : ¬ k ≥ 0) (h1 : k < -2000) (hl : MC Tryz.prog 50 [tk A (nw A), i6 2000] [] (.tuple #[tk R (nw R), .bool true]) []) (hp : MC Tryz.prog 43 [tk R (nw R), tk 1 1] [] (tk S (nw S)) []) (hm : MC Tryz.prog 37 [.bool true, tk S (nw S)] [] (rB r o K) []) :
    MC Tryz.prog 16 [rB true false A, i6 k] [] (rB r o K) [] :=
  AC.runA mixed Tryz.func16 [.auto, .tst false, .tst false, .tst true, .ab (.tuple #[tk R (nw R), .bool true]), .tk 1, .ab (tk S (nw S)), .ab (rB r o K)] (tsC (tF (show ¬ ((nw A : Nat) : Int) = 0 by omega)) <| tsC (tF h0) <| tsC (tT h1) ts0) (qs4 hl one_word hp hm) rfl enters_rShift (by kernel_rfl)
theorem nw_pow {n k : Nat} (h : n < 32 * k) : nw (2 ^ n) ≤ k := nw_le (Nat.pow_lt_pow_right (by omega) h)
theorem sg_abs (K : Nat) (s : Bool) : (sg K s).natAbs = K := by cases s <;> simp [sg]
theorem sg_neg (K : Nat) (s : Bool) : (s && decide (K ≠ 0)) = decide (sg K s < 0) := by
  cases s with
  | false =>
    show false = decide ((K : Int) < 0)
    rw [decide_eq_false (by omega)]
  | true =>
    show (true && decide (K ≠ 0)) = decide (-(K : Int) < 0)
    rw [Bool.true_and]
    exact decide_eq_decide.2 (by omega)
theorem nw_div {A n : Nat} (h : nw A ≤ 40) : nw (A / 2 ^ n) ≤ 40 := Nat.le_trans (nw_mono (Nat.div_le_self _ _)) h
theorem made_sg {s : Bool} {z : Int} {N K : Nat} (e : N = K) (hK : nw K < 1000000) (h : sg K s = z) : MC Tryz.prog 37 [.bool s, tk N (nw N)] [] (rV (clamp z)) [] := by
  subst h e
  exact made_z (sg_abs N s) (sg_neg N s) (lt_nw _) hK
theorem rShift_down {A : Nat} {s : Bool} {k : Int} {n : Nat} (hA : nw A ≤ 32) (hne : nw A ≠ 0) (h0 : ¬ k ≥ 0) (hk : (k < -2000 ∧ n = 2000) ∨ (¬ k < -2000 ∧ n = (-k).toNat)) :
    MC Tryz.prog 16 [rB s false A, i6 k] [] (rV (clamp (sg A s / 2 ^ n))) [] := by
  have hr := right_t (A := A) (n := n) (by omega)
  have hd := sg_down A n s
  have hdv := nw_div (n := n) (show nw A ≤ 40 by omega)
  have hx : decide (A / 2 ^ n * 2 ^ n = A) = !lostN A n := by
    unfold lostN
    rw [Bool.not_not]
    have h := Nat.div_add_mod A (2 ^ n)
    rw [Nat.mul_comm] at h
    have key : ∀ P R : Nat, P + R = A → decide (P = A) = decide (R = 0) := fun P R h => decide_eq_decide.2 (by omega)
    exact key _ _ h
  have hw : ¬ k < -2000 → IntKind.i64.wrap (0 - k) = ((-k).toNat : Nat) := fun h => by rw [i64_wrap (by omega) (by omega)]; omega
  obtain ⟨r, o, K, e⟩ := rV_form (clamp (sg A s / 2 ^ n))
  by_cases hsl : (s && lostN A n) = true
  · obtain ⟨rfl, hl⟩ : s = true ∧ lostN A n = true := by simpa using hsl
    rw [hl] at hr hx
    have hp := plus_t (A := A / 2 ^ n) (B := 1) (na := nw (A / 2 ^ n)) (nb := 1) (lt_nw _) (by omega) (by omega) (by omega)
    have hm := made_sg (s := true) (z := sg A true / 2 ^ n) (N := A / 2 ^ n + 1) rfl (by have := nw_add (A := A / 2 ^ n) (B := 1) hdv (by show nw 1 ≤ 40; exact Nat.le_trans (nw_le (k := 1) (by omega)) (by omega)); omega) (by rw [← hd, hx]; rfl)
    rw [e] at hm ⊢
    rcases hk with ⟨h1, rfl⟩ | ⟨h1, rfl⟩
    · exact shift_farL hne h0 h1 hr hp hm
    · exact shift_dnL hne h0 h1 (hw h1) hr hp hm
  · rw [Bool.not_eq_true] at hsl
    have hK : downK (A / 2 ^ n) (decide (A / 2 ^ n * 2 ^ n = A)) s = A / 2 ^ n := by
      rw [hx]
      unfold downK
      rw [Bool.not_not, hsl]
    rw [hK] at hd
    have hm := made_sg (s := s) (N := A / 2 ^ n) rfl (by omega) hd
    rw [e] at hm ⊢
    rcases hk with ⟨h1, rfl⟩ | ⟨h1, rfl⟩
    · exact shift_far hsl hne h0 h1 hr hm
    · exact shift_dn hsl hne h0 h1 (hw h1) hr hm
theorem rShift_t {A : Option Int} {k : Int} (hA : WF A) (hk0 : -9223372036854775808 ≤ k) (hk1 : k ≤ 9223372036854775807) : MC Tryz.prog 16 [rV A, i6 k] [] (rV (wshift A k)) [] := by
  cases A with
  | none => exact shift_O
  | some z =>
    have hz := hA z rfl
    have hnw := wf_nw hA
    by_cases h0 : z = 0
    · have e : wshift (some z) k = some z := by
        subst h0
        show (match decide (k < 0) with | true => clamp (0 / 2 ^ (-k).toNat) | false => clamp (0 * 2 ^ k.toNat)) = _
        split
        · rw [Int.zero_ediv, clamp_eq hz]
        · rw [Int.zero_mul, clamp_eq hz]
      rw [e]
      exact shift_0 (by rw [h0]; rfl)
    have hne : nw z.natAbs ≠ 0 := by have := nw_pos.2 (show z.natAbs ≠ 0 by omega); omega
    by_cases hk : k < 0
    · have e : wshift (some z) k = clamp (z / 2 ^ (-k).toNat) := by
        show (match decide (k < 0) with | true => clamp (z / 2 ^ (-k).toNat) | false => clamp (z * 2 ^ k.toNat)) = _
        rw [decide_eq_true hk]
      rw [e]
      have hs := sg_natAbs z
      by_cases h2 : k < -2000
      · obtain ⟨n, hn⟩ : ∃ n : Nat, n = 2000 := ⟨_, rfl⟩
        have h := rShift_down (A := z.natAbs) (s := decide (z < 0)) (k := k) (n := n) hnw hne (by omega) (.inl ⟨h2, hn⟩)
        rw [hs] at h
        have e2 : z / 2 ^ n = z / 2 ^ (-k).toNat := by
          have f : ∀ n, sg (downK (z.natAbs / 2 ^ n) (decide (z.natAbs / 2 ^ n * 2 ^ n = z.natAbs)) (decide (z < 0))) (decide (z < 0)) = z / 2 ^ n := fun n => by
            rw [sg_down, sg_natAbs]
          rw [← f, ← f, Nat.div_eq_of_lt (lt_Hi_pow hz (by omega)), Nat.div_eq_of_lt (lt_Hi_pow hz (by omega)), Nat.zero_mul, Nat.zero_mul]
        rw [e2] at h
        exact h
      · have h := rShift_down (A := z.natAbs) (s := decide (z < 0)) (k := k) (n := (-k).toNat) hnw hne (by omega) (.inr ⟨h2, rfl⟩)
        rw [hs] at h
        exact h
    · have e : wshift (some z) k = clamp (z * 2 ^ k.toNat) := by
        show (match decide (k < 0) with | true => clamp (z / 2 ^ (-k).toNat) | false => clamp (z * 2 ^ k.toNat)) = _
        rw [decide_eq_false hk]
      rw [e]
      have hab : (z * 2 ^ k.toNat).natAbs = z.natAbs * 2 ^ k.toNat := by
        rw [Int.natAbs_mul, Int.natAbs_pow]; rfl
      by_cases h2 : k > 1023
      · have hc : clamp (z * 2 ^ k.toNat) = none := by
          unfold clamp
          rw [if_neg]
          intro h
          rw [hab] at h
          have hb := bitLen_Hi.2 h
          have hbs := Go.Proofs.YtljolfnpncjklaaGreat.W.bitLen_shift (show z.natAbs ≠ 0 by omega) k.toNat
          omega
        rw [hc]
        exact shift_big hne (by omega) h2
      · have hl := left_t (A := z.natAbs) (na := nw z.natAbs) (n := k.toNat) (lt_nw _) (by omega) (by omega)
        rw [show ((k.toNat : Nat) : Int) = k by omega] at hl
        have hn : nw (z.natAbs * 2 ^ k.toNat) ≤ 32 + 32 := nw_mulK hnw (nw_pow (by omega))
        have hm := made_sg (s := decide (z < 0)) (N := z.natAbs * 2 ^ k.toNat) (z := z * 2 ^ k.toNat) rfl (by omega) (by rw [sg_up, sg_natAbs])
        obtain ⟨r, o, K, e⟩ := rV_form (clamp (z * 2 ^ k.toNat))
        rw [e] at hm ⊢
        exact shift_up hne (by omega) h2 hl hm
def rBB (s o : Bool) (N : Nat) : Blk := ⟨[.bool s, .bool o, tk N (nw N)], 36, true⟩
def zB : Blk := ⟨[.bool false, .bool false, .slice none 0 0], 36, true⟩
def pB (k : Nat) : Value := .pointer (some ⟨k, 0, none⟩)
end Go.Proofs.YtljolfnpncjklaaGreat.R
