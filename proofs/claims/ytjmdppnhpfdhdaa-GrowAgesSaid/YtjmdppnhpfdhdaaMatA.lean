/-
  Package mat: the entries of a matrix as wide numbers: widen, square, minus, det, psd, dot.
-/
import Derived.Test.YtjmdppnhpfdhdaaWideS
namespace Go.Proofs.Ytjmdppnhpfdhdaa.W
open Go Go.Ev Go.Wide

def wC (N : Nat) (s : Bool) : List Value := (List.range 16).map (fun i => Value.int .u64 (wd N i)) ++ [Value.bool s, Value.bool false]
def eR (A : Nat) (a : Bool) (B : Nat) (b : Bool) (D : Nat) (d : Bool) : Value := .agg (wC A a ++ wC B b ++ wC D d).toArray
/-- The entries a b d. -/
def eV (a b d : Int) : Value := eR a.natAbs (decide (a < 0)) b.natAbs (decide (b < 0)) d.natAbs (decide (d < 0))
theorem flat_eR (A : Nat) (a : Bool) (B : Nat) (b : Bool) (D : Nat) (d : Bool) : flat (eR A a B b D d) = true := by kernel_rfl
theorem flat_eV (a b d : Int) : flat (eV a b d) = true := flat_eR _ _ _ _ _ _
def sym (a b d : Int) : Value := .agg #[.int .i64 a, .int .i64 b, .int .i64 d]
def pt (x y : Int) : Value := .agg #[.int .i64 x, .int .i64 y]

theorem widen_key (A B D : Int) (a b d : Nat) (s t u : Bool) : evFn3 Try.prog Try.f37 400 [sym A B D] [.res (wR false a s), .res (wR false b t), .res (wR false d u)] =
    some (true, [QC Try.prog 59 [.int .i64 A] (wR false a s), QC Try.prog 59 [.int .i64 B] (wR false b t), QC Try.prog 59 [.int .i64 D] (wR false d u)], eR a s b t d u) := by kernel_rfl
theorem square_key (X Y : Int) (x y a b d : Nat) (p q s t u : Bool) : evFn3 Try.prog Try.f55 400 [pt X Y] [.res (wR false x p), .res (wR false y q), .res (wR false a s), .res (wR false b t), .res (wR false d u)] =
    some (true, [QC Try.prog 59 [.int .i64 X] (wR false x p), QC Try.prog 59 [.int .i64 Y] (wR false y q), QC Try.prog 71 [wR false x p, wR false x p] (wR false a s), QC Try.prog 71 [wR false x p, wR false y q] (wR false b t),
      QC Try.prog 71 [wR false y q, wR false y q] (wR false d u)], eR a s b t d u) := by kernel_rfl
theorem minusE_key (A B D A' B' D' a b d : Nat) (p q r p' q' r' s t u : Bool) : evFn3 Try.prog Try.f38 400 [eR A p B q D r, eR A' p' B' q' D' r'] [.res (wR false a s), .res (wR false b t), .res (wR false d u)] =
    some (true, [QC Try.prog 60 [wR false A p, wR false A' p'] (wR false a s), QC Try.prog 60 [wR false B q, wR false B' q'] (wR false b t), QC Try.prog 60 [wR false D r, wR false D' r'] (wR false d u)], eR a s b t d u) := by kernel_rfl
theorem det_key (A B D a b d : Nat) (p q r s t u : Bool) : evFn3 Try.prog Try.f57 400 [eR A p B q D r] [.res (wR false a s), .res (wR false b t), .res (wR false d u)] =
    some (true, [QC Try.prog 71 [wR false A p, wR false D r] (wR false a s), QC Try.prog 71 [wR false B q, wR false B q] (wR false b t), QC Try.prog 60 [wR false a s, wR false b t] (wR false d u)], wR false d u) := by kernel_rfl
theorem psd1_key (A B D : Nat) (p q r : Bool) (x : Int) : evFn3 Try.prog Try.f39 400 [eR A p B q D r] [.res (.int .i64 x), .tst false] =
    some (conj [!decide (x ≥ 0)], [QC Try.prog 34 [wR false A p] (.int .i64 x)], .bool false) := by kernel_rfl
theorem psd2_key (A B D : Nat) (p q r : Bool) (x y : Int) : evFn3 Try.prog Try.f39 400 [eR A p B q D r] [.res (.int .i64 x), .tst true, .res (.int .i64 y), .tst false] =
    some (conj [decide (x ≥ 0), !decide (y ≥ 0)], [QC Try.prog 34 [wR false A p] (.int .i64 x), QC Try.prog 34 [wR false D r] (.int .i64 y)], .bool false) := by kernel_rfl
theorem psd3_key (A B D d : Nat) (p q r u : Bool) (x y z : Int) : evFn3 Try.prog Try.f39 400 [eR A p B q D r] [.res (.int .i64 x), .tst true, .res (.int .i64 y), .tst true, .res (wR false d u), .res (.int .i64 z)] =
    some (conj [decide (x ≥ 0), decide (y ≥ 0)], [QC Try.prog 34 [wR false A p] (.int .i64 x), QC Try.prog 34 [wR false D r] (.int .i64 y), QC Try.prog 57 [eR A p B q D r] (wR false d u), QC Try.prog 34 [wR false d u] (.int .i64 z)], .bool (decide (z ≥ 0))) := by kernel_rfl
theorem flat_sym (A B D : Int) : flat (sym A B D) = true := by kernel_rfl
theorem flat_pt (X Y : Int) : flat (pt X Y) = true := by kernel_rfl
def I64 (n : Int) : Prop := -9223372036854775808 ≤ n ∧ n ≤ 9223372036854775807
theorem I64.sm {n : Int} (h : I64 n) : Sm 64 n := Sm.i64 h.1 h.2
theorem I64.of {n : Int} (h : I64 n) : QC Try.prog 59 [.int .i64 n] (wz n) := QC.of_pc enters_of (of_wz h.1 h.2)
theorem qmul {j k : Nat} {a b : Int} (ha : Sm j a) (hb : Sm k b) (hk : j + k ≤ 1023 := by omega) : QC Try.prog 71 [wz a, wz b] (wz (a * b)) := QC.of_pc enters_mul (mul_wz ha hb hk)
theorem qadd {k : Nat} {a b : Int} (ha : Sm k a) (hb : Sm k b) (hk : k < 1023 := by omega) : QC Try.prog 72 [wz a, wz b] (wz (a + b)) := QC.of_pc enters_add (add_wz ha hb hk)
theorem qsub {k : Nat} {a b : Int} (ha : Sm k a) (hb : Sm k b) (hk : k < 1023 := by omega) : QC Try.prog 60 [wz a, wz b] (wz (a - b)) := QC.of_pc enters_sub (sub_wz ha hb hk)
theorem qsign {k : Nat} {a : Int} (ha : Sm k a) (hk : k ≤ 1023 := by omega) : QC Try.prog 34 [wz a] (.int .i64 (signI (some a))) := QC.of_pc enters_sign (sign_wz ha hk)
theorem widen_pc {A B D : Int} (hA : I64 A) (hB : I64 B) (hD : I64 D) : PC Try.prog 37 [sym A B D] (eV A B D) :=
  PC.of_ev3 mixed Try.func37 400 _ (widen_key A B D _ _ _ _ _ _) (by simp [flat_sym]) rfl ⟨hA.of, hB.of, hD.of, trivial⟩ (flat_eV _ _ _) rfl
theorem square_pc {X Y : Int} (hX : I64 X) (hY : I64 Y) : PC Try.prog 55 [pt X Y] (eV (X * X) (X * Y) (Y * Y)) :=
  PC.of_ev3 mixed Try.func55 400 _ (square_key X Y X.natAbs Y.natAbs _ _ _ (decide (X < 0)) (decide (Y < 0)) _ _ _) (by simp [flat_pt]) rfl ⟨hX.of, hY.of, qmul hX.sm hX.sm, qmul hX.sm hY.sm, qmul hY.sm hY.sm, trivial⟩ (flat_eV _ _ _) rfl
theorem minusE_pc {k : Nat} {a b d a' b' d' : Int} (ha : Sm k a) (hb : Sm k b) (hd : Sm k d) (ha' : Sm k a') (hb' : Sm k b') (hd' : Sm k d') (hk : k < 1023 := by omega) : PC Try.prog 38 [eV a b d, eV a' b' d'] (eV (a - a') (b - b') (d - d')) :=
  PC.of_ev3 mixed Try.func38 400 _ (minusE_key _ _ _ _ _ _ _ _ _ _ _ _ _ _ _ _ _ _) (by simp [flat_eV]) rfl ⟨qsub ha ha' hk, qsub hb hb' hk, qsub hd hd' hk, trivial⟩ (flat_eV _ _ _) rfl
def detI (a b d : Int) : Int := a * d - b * b
theorem detI_sm {k : Nat} {a b d : Int} (ha : Sm k a) (hb : Sm k b) (hd : Sm k d) : Sm (k + k + 1) (detI a b d) := (ha.mul hd).sub (hb.mul hb)
theorem det_pc {k : Nat} {a b d : Int} (ha : Sm k a) (hb : Sm k b) (hd : Sm k d) (hk : k + k < 1023 := by omega) : PC Try.prog 57 [eV a b d] (wz (detI a b d)) :=
  PC.of_ev3 mixed Try.func57 400 _ (det_key _ _ _ (a * d).natAbs (b * b).natAbs _ _ _ _ (decide (a * d < 0)) (decide (b * b < 0)) _) (by simp [flat_eV]) rfl ⟨qmul ha hd (by omega), qmul hb hb (by omega), qsub (ha.mul hd) (hb.mul hb) (by omega), trivial⟩ (flat_wz _) rfl
def psdI (a b d : Int) : Bool := decide (0 ≤ a) && (decide (0 ≤ d) && decide (0 ≤ detI a b d))
theorem enters_det : ∀ us w, (callFunc 57 us).run Try.prog w = .ok (.enter 57 us) w := enters Try.func57 rfl (by kernel_rfl)
theorem enters_psd : ∀ us w, (callFunc 39 us).run Try.prog w = .ok (.enter 39 us) w := enters Try.func39 rfl (by kernel_rfl)
theorem enters_widen : ∀ us w, (callFunc 37 us).run Try.prog w = .ok (.enter 37 us) w := enters Try.func37 rfl (by kernel_rfl)
theorem enters_square : ∀ us w, (callFunc 55 us).run Try.prog w = .ok (.enter 55 us) w := enters Try.func55 rfl (by kernel_rfl)
theorem enters_minusE : ∀ us w, (callFunc 38 us).run Try.prog w = .ok (.enter 38 us) w := enters Try.func38 rfl (by kernel_rfl)
theorem psd_pc {k : Nat} {a b d : Int} (ha : Sm k a) (hb : Sm k b) (hd : Sm k d) (hk : k + k < 1023 := by omega) : PC Try.prog 39 [eV a b d] (.bool (psdI a b d)) := by
  have hfl : [eV a b d].all flat = true := by simp [flat_eV]
  have h1 := qsign ha (by omega)
  have h2 := qsign hd (by omega)
  by_cases c1 : 0 ≤ a
  · have e1 : signI (some a) ≥ 0 := signI_nonneg.2 c1
    by_cases c2 : 0 ≤ d
    · have e2 : signI (some d) ≥ 0 := signI_nonneg.2 c2
      refine PC.of_ev3 mixed Try.func39 400 _ (psd3_key _ _ _ (detI a b d).natAbs _ _ _ (decide (detI a b d < 0)) (signI (some a)) (signI (some d)) (signI (some (detI a b d)))) hfl (by rw [conj_cons, conj_cons, conj_nil, decide_eq_true e1, decide_eq_true e2]; rfl)
        ⟨h1, h2, QC.of_pc enters_det (det_pc ha hb hd hk), qsign (detI_sm ha hb hd) (by omega), trivial⟩ rfl ?_
      unfold psdI
      rw [decide_eq_true c1, decide_eq_true c2, Bool.true_and, Bool.true_and]
      congr 1
      exact decide_eq_decide.2 signI_nonneg
    · have e2 : ¬ signI (some d) ≥ 0 := fun h => c2 (signI_nonneg.1 h)
      refine PC.of_ev3 mixed Try.func39 400 _ (psd2_key _ _ _ _ _ _ (signI (some a)) (signI (some d))) hfl (by rw [conj_cons, conj_cons, conj_nil, decide_eq_true e1, decide_eq_false e2]; rfl)
        ⟨h1, h2, trivial⟩ rfl ?_
      unfold psdI
      rw [decide_eq_true c1, decide_eq_false c2]; rfl
  · have e1 : ¬ signI (some a) ≥ 0 := fun h => c1 (signI_nonneg.1 h)
    refine PC.of_ev3 mixed Try.func39 400 _ (psd1_key _ _ _ _ _ _ (signI (some a))) hfl (by rw [conj_cons, conj_nil, decide_eq_false e1]; rfl)
      ⟨h1, trivial⟩ rfl ?_
    unfold psdI
    rw [decide_eq_false c1]; rfl
def dotI (a b d a' b' d' : Int) : Int := (a * a' + d * d') + 2 * (b * b')
theorem dotI_sm {j k : Nat} {a b d a' b' d' : Int} (ha : Sm j a) (hb : Sm j b) (hd : Sm j d) (ha' : Sm k a') (hb' : Sm k b') (hd' : Sm k d') : Sm (j + k + 2) (dotI a b d a' b' d') := by
  have h := (ha.mul ha').add (hd.mul hd')
  have h2 : Sm (j + k + 1) (2 * (b * b')) := by
    have := (hb.mul hb').add (hb.mul hb')
    rw [show 2 * (b * b') = b * b' + b * b' by omega]
    exact this
  exact h.add h2
end Go.Proofs.Ytjmdppnhpfdhdaa.W
