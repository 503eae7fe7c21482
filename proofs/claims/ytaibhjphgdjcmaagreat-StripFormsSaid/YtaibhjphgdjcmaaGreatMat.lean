/-
  Package mat: the entries of a matrix as wide numbers: widen, square, minus, det, psd, dot.
  Package mat: May, Add, Adj, Det, Psd, Quad, Holds, Least.
  Package mat: awake.
  Symmetric matrices of two rows: positive semidefinite just where the square form is nowhere negative.
-/
import Derived.Test.YtaibhjphgdjcmaaGreatWide2
import Derived.Test.YtaibhjphgdjcmaaGreatEv3
/-! Package mat: the entries of a matrix as wide numbers: widen, square, minus, det, psd, dot. -/
namespace Go.Proofs.YtaibhjphgdjcmaaGreat.W
open Go Go.Ev Go.Wide

def wC (N : Nat) (s : Bool) : List Value := (List.range 16).map (fun i => Value.int .u64 (wd N i)) ++ [Value.bool s, Value.bool false]
def eR (A : Nat) (a : Bool) (B : Nat) (b : Bool) (D : Nat) (d : Bool) : Value := .agg (wC A a ++ wC B b ++ wC D d).toArray
/-- The entries a b d. -/
def eV (a b d : Int) : Value := eR a.natAbs (decide (a < 0)) b.natAbs (decide (b < 0)) d.natAbs (decide (d < 0))
theorem flat_eR (A : Nat) (a : Bool) (B : Nat) (b : Bool) (D : Nat) (d : Bool) : flat (eR A a B b D d) = true := by kernel_rfl
theorem flat_eV (a b d : Int) : flat (eV a b d) = true := flat_eR _ _ _ _ _ _
def sym (a b d : Int) : Value := .agg #[.int .i64 a, .int .i64 b, .int .i64 d]
def pt (x y : Int) : Value := .agg #[.int .i64 x, .int .i64 y]

theorem widen_key (A B D : Int) (a b d : Nat) (s t u : Bool) : evFn3 Tryz.prog Tryz.f72 400 [sym A B D] [.res (wR false a s), .res (wR false b t), .res (wR false d u)] =
    some (true, [QC Tryz.prog 78 [.int .i64 A] (wR false a s), QC Tryz.prog 78 [.int .i64 B] (wR false b t), QC Tryz.prog 78 [.int .i64 D] (wR false d u)], eR a s b t d u) := by kernel_rfl
theorem square_key (X Y : Int) (x y a b d : Nat) (p q s t u : Bool) : evFn3 Tryz.prog Tryz.f74 400 [pt X Y] [.res (wR false x p), .res (wR false y q), .res (wR false a s), .res (wR false b t), .res (wR false d u)] =
    some (true, [QC Tryz.prog 78 [.int .i64 X] (wR false x p), QC Tryz.prog 78 [.int .i64 Y] (wR false y q), QC Tryz.prog 83 [wR false x p, wR false x p] (wR false a s), QC Tryz.prog 83 [wR false x p, wR false y q] (wR false b t),
      QC Tryz.prog 83 [wR false y q, wR false y q] (wR false d u)], eR a s b t d u) := by kernel_rfl
theorem minusE_key (A B D A' B' D' a b d : Nat) (p q r p' q' r' s t u : Bool) : evFn3 Tryz.prog Tryz.f73 400 [eR A p B q D r, eR A' p' B' q' D' r'] [.res (wR false a s), .res (wR false b t), .res (wR false d u)] =
    some (true, [QC Tryz.prog 104 [wR false A p, wR false A' p'] (wR false a s), QC Tryz.prog 104 [wR false B q, wR false B' q'] (wR false b t), QC Tryz.prog 104 [wR false D r, wR false D' r'] (wR false d u)], eR a s b t d u) := by kernel_rfl
theorem det_key (A B D a b d : Nat) (p q r s t u : Bool) : evFn3 Tryz.prog Tryz.f77 400 [eR A p B q D r] [.res (wR false a s), .res (wR false b t), .res (wR false d u)] =
    some (true, [QC Tryz.prog 83 [wR false A p, wR false D r] (wR false a s), QC Tryz.prog 83 [wR false B q, wR false B q] (wR false b t), QC Tryz.prog 104 [wR false a s, wR false b t] (wR false d u)], wR false d u) := by kernel_rfl
theorem psd1_key (A B D : Nat) (p q r : Bool) (x : Int) : evFn3 Tryz.prog Tryz.f75 400 [eR A p B q D r] [.res (.int .i64 x), .tst false] =
    some (conj [!decide (x ≥ 0)], [QC Tryz.prog 46 [wR false A p] (.int .i64 x)], .bool false) := by kernel_rfl
theorem psd2_key (A B D : Nat) (p q r : Bool) (x y : Int) : evFn3 Tryz.prog Tryz.f75 400 [eR A p B q D r] [.res (.int .i64 x), .tst true, .res (.int .i64 y), .tst false] =
    some (conj [decide (x ≥ 0), !decide (y ≥ 0)], [QC Tryz.prog 46 [wR false A p] (.int .i64 x), QC Tryz.prog 46 [wR false D r] (.int .i64 y)], .bool false) := by kernel_rfl
theorem psd3_key (A B D d : Nat) (p q r u : Bool) (x y z : Int) : evFn3 Tryz.prog Tryz.f75 400 [eR A p B q D r] [.res (.int .i64 x), .tst true, .res (.int .i64 y), .tst true, .res (wR false d u), .res (.int .i64 z)] =
    some (conj [decide (x ≥ 0), decide (y ≥ 0)], [QC Tryz.prog 46 [wR false A p] (.int .i64 x), QC Tryz.prog 46 [wR false D r] (.int .i64 y), QC Tryz.prog 77 [eR A p B q D r] (wR false d u), QC Tryz.prog 46 [wR false d u] (.int .i64 z)], .bool (decide (z ≥ 0))) := by kernel_rfl
theorem dot_key (A B D A' B' D' a b d e f g : Nat) (p q r p' q' r' s t u v w x : Bool) : evFn3 Tryz.prog Tryz.f79 400 [eR A p B q D r, eR A' p' B' q' D' r'] [.res (wR false a s), .res (wR false b t), .res (wR false d u), .res (wR false e v), .res (wR false f w), .res (wR false g x)] =
    some (true, [QC Tryz.prog 83 [wR false A p, wR false A' p'] (wR false a s), QC Tryz.prog 83 [wR false D r, wR false D' r'] (wR false b t), QC Tryz.prog 84 [wR false a s, wR false b t] (wR false d u), QC Tryz.prog 83 [wR false B q, wR false B' q'] (wR false e v),
      QC Tryz.prog 105 [wR false e v, .int .i64 1] (wR false f w), QC Tryz.prog 84 [wR false d u, wR false f w] (wR false g x)], wR false g x) := by kernel_rfl

theorem flat_sym (A B D : Int) : flat (sym A B D) = true := by kernel_rfl
theorem flat_pt (X Y : Int) : flat (pt X Y) = true := by kernel_rfl
def I64 (n : Int) : Prop := -9223372036854775808 ≤ n ∧ n ≤ 9223372036854775807
theorem I64.sm {n : Int} (h : I64 n) : Sm 64 n := Sm.i64 h.1 h.2
theorem I64.of {n : Int} (h : I64 n) : QC Tryz.prog 78 [.int .i64 n] (wz n) := QC.of_pc enters_of (of_wz h.1 h.2)
theorem qmul {j k : Nat} {a b : Int} (ha : Sm j a) (hb : Sm k b) (hk : j + k ≤ 1023 := by omega) : QC Tryz.prog 83 [wz a, wz b] (wz (a * b)) := QC.of_pc enters_mul (mul_wz ha hb hk)
theorem qadd {k : Nat} {a b : Int} (ha : Sm k a) (hb : Sm k b) (hk : k < 1023 := by omega) : QC Tryz.prog 84 [wz a, wz b] (wz (a + b)) := QC.of_pc enters_add (add_wz ha hb hk)
theorem qsub {k : Nat} {a b : Int} (ha : Sm k a) (hb : Sm k b) (hk : k < 1023 := by omega) : QC Tryz.prog 104 [wz a, wz b] (wz (a - b)) := QC.of_pc enters_sub (sub_wz ha hb hk)
theorem qsign {k : Nat} {a : Int} (ha : Sm k a) (hk : k ≤ 1023 := by omega) : QC Tryz.prog 46 [wz a] (.int .i64 (signI (some a))) := QC.of_pc enters_sign (sign_wz ha hk)
theorem qshl {k : Nat} {a : Int} (ha : Sm k a) (hk : k < 1023 := by omega) : QC Tryz.prog 105 [wz a, .int .i64 1] (wz (2 * a)) := QC.of_pc enters_shift (shl_wz ha hk)

theorem widen_pc {A B D : Int} (hA : I64 A) (hB : I64 B) (hD : I64 D) : PC Tryz.prog 72 [sym A B D] (eV A B D) :=
  PC.of_ev3 mixed Tryz.func72 400 _ (widen_key A B D _ _ _ _ _ _) (by simp [flat_sym]) rfl ⟨hA.of, hB.of, hD.of, trivial⟩ (flat_eV _ _ _) rfl
theorem square_pc {X Y : Int} (hX : I64 X) (hY : I64 Y) : PC Tryz.prog 74 [pt X Y] (eV (X * X) (X * Y) (Y * Y)) :=
  PC.of_ev3 mixed Tryz.func74 400 _ (square_key X Y X.natAbs Y.natAbs _ _ _ (decide (X < 0)) (decide (Y < 0)) _ _ _) (by simp [flat_pt]) rfl ⟨hX.of, hY.of, qmul hX.sm hX.sm, qmul hX.sm hY.sm, qmul hY.sm hY.sm, trivial⟩ (flat_eV _ _ _) rfl
theorem minusE_pc {k : Nat} {a b d a' b' d' : Int} (ha : Sm k a) (hb : Sm k b) (hd : Sm k d) (ha' : Sm k a') (hb' : Sm k b') (hd' : Sm k d') (hk : k < 1023 := by omega) : PC Tryz.prog 73 [eV a b d, eV a' b' d'] (eV (a - a') (b - b') (d - d')) :=
  PC.of_ev3 mixed Tryz.func73 400 _ (minusE_key _ _ _ _ _ _ _ _ _ _ _ _ _ _ _ _ _ _) (by simp [flat_eV]) rfl ⟨qsub ha ha' hk, qsub hb hb' hk, qsub hd hd' hk, trivial⟩ (flat_eV _ _ _) rfl
def detI (a b d : Int) : Int := a * d - b * b
theorem detI_sm {k : Nat} {a b d : Int} (ha : Sm k a) (hb : Sm k b) (hd : Sm k d) : Sm (k + k + 1) (detI a b d) := (ha.mul hd).sub (hb.mul hb)
theorem det_pc {k : Nat} {a b d : Int} (ha : Sm k a) (hb : Sm k b) (hd : Sm k d) (hk : k + k < 1023 := by omega) : PC Tryz.prog 77 [eV a b d] (wz (detI a b d)) :=
  PC.of_ev3 mixed Tryz.func77 400 _ (det_key _ _ _ (a * d).natAbs (b * b).natAbs _ _ _ _ (decide (a * d < 0)) (decide (b * b < 0)) _) (by simp [flat_eV]) rfl ⟨qmul ha hd (by omega), qmul hb hb (by omega), qsub (ha.mul hd) (hb.mul hb) (by omega), trivial⟩ (flat_wz _) rfl
def psdI (a b d : Int) : Bool := decide (0 ≤ a) && (decide (0 ≤ d) && decide (0 ≤ detI a b d))
theorem enters_det : ∀ us w, (callFunc 77 us).run Tryz.prog w = .ok (.enter 77 us) w := enters Tryz.func77 rfl (by kernel_rfl)
theorem enters_psd : ∀ us w, (callFunc 75 us).run Tryz.prog w = .ok (.enter 75 us) w := enters Tryz.func75 rfl (by kernel_rfl)
theorem enters_dot : ∀ us w, (callFunc 79 us).run Tryz.prog w = .ok (.enter 79 us) w := enters Tryz.func79 rfl (by kernel_rfl)
theorem enters_widen : ∀ us w, (callFunc 72 us).run Tryz.prog w = .ok (.enter 72 us) w := enters Tryz.func72 rfl (by kernel_rfl)
theorem enters_square : ∀ us w, (callFunc 74 us).run Tryz.prog w = .ok (.enter 74 us) w := enters Tryz.func74 rfl (by kernel_rfl)
theorem enters_minusE : ∀ us w, (callFunc 73 us).run Tryz.prog w = .ok (.enter 73 us) w := enters Tryz.func73 rfl (by kernel_rfl)
theorem psd_pc {k : Nat} {a b d : Int} (ha : Sm k a) (hb : Sm k b) (hd : Sm k d) (hk : k + k < 1023 := by omega) : PC Tryz.prog 75 [eV a b d] (.bool (psdI a b d)) := by
  have hfl : [eV a b d].all flat = true := by simp [flat_eV]
  have h1 := qsign ha (by omega)
  have h2 := qsign hd (by omega)
  by_cases c1 : 0 ≤ a
  · have e1 : signI (some a) ≥ 0 := signI_nonneg.2 c1
    by_cases c2 : 0 ≤ d
    · have e2 : signI (some d) ≥ 0 := signI_nonneg.2 c2
      refine PC.of_ev3 mixed Tryz.func75 400 _ (psd3_key _ _ _ (detI a b d).natAbs _ _ _ (decide (detI a b d < 0)) (signI (some a)) (signI (some d)) (signI (some (detI a b d)))) hfl (by rw [conj_cons, conj_cons, conj_nil, decide_eq_true e1, decide_eq_true e2]; rfl)
        ⟨h1, h2, QC.of_pc enters_det (det_pc ha hb hd hk), qsign (detI_sm ha hb hd) (by omega), trivial⟩ rfl ?_
      unfold psdI
      rw [decide_eq_true c1, decide_eq_true c2, Bool.true_and, Bool.true_and]
      congr 1
      exact decide_eq_decide.2 signI_nonneg
    · have e2 : ¬ signI (some d) ≥ 0 := fun h => c2 (signI_nonneg.1 h)
      refine PC.of_ev3 mixed Tryz.func75 400 _ (psd2_key _ _ _ _ _ _ (signI (some a)) (signI (some d))) hfl (by rw [conj_cons, conj_cons, conj_nil, decide_eq_true e1, decide_eq_false e2]; rfl)
        ⟨h1, h2, trivial⟩ rfl ?_
      unfold psdI
      rw [decide_eq_true c1, decide_eq_false c2]; rfl
  · have e1 : ¬ signI (some a) ≥ 0 := fun h => c1 (signI_nonneg.1 h)
    refine PC.of_ev3 mixed Tryz.func75 400 _ (psd1_key _ _ _ _ _ _ (signI (some a))) hfl (by rw [conj_cons, conj_nil, decide_eq_false e1]; rfl)
      ⟨h1, trivial⟩ rfl ?_
    unfold psdI
    rw [decide_eq_false c1]; rfl
def dotI (a b d a' b' d' : Int) : Int := (a * a' + d * d') + 2 * (b * b')
theorem dotI_sm {j k : Nat} {a b d a' b' d' : Int} (ha : Sm j a) (hb : Sm j b) (hd : Sm j d) (ha' : Sm k a') (hb' : Sm k b') (hd' : Sm k d') : Sm (j + k + 2) (dotI a b d a' b' d') := by
  have h := (ha.mul ha').add (hd.mul hd')
  have h2 : Sm (j + k + 1) (2 * (b * b')) := by
    have := (hb.mul hb').add (hb.mul hb')
    rw [show 2 * (b * b') = b * b' + b * b' by omega]
    exact this
  exact h.add h2
theorem dot_pc {j k : Nat} {a b d a' b' d' : Int} (ha : Sm j a) (hb : Sm j b) (hd : Sm j d) (ha' : Sm k a') (hb' : Sm k b') (hd' : Sm k d') (hk : j + k + 2 ≤ 1023 := by omega) :
    PC Tryz.prog 79 [eV a b d, eV a' b' d'] (wz (dotI a b d a' b' d')) := by
  have h := (ha.mul ha').add (hd.mul hd')
  have h2 : Sm (j + k + 1) (2 * (b * b')) := by
    have := (hb.mul hb').add (hb.mul hb')
    rw [show 2 * (b * b') = b * b' + b * b' by omega]
    exact this
  exact PC.of_ev3 mixed Tryz.func79 400 _ (dot_key _ _ _ _ _ _ (a * a').natAbs (d * d').natAbs (a * a' + d * d').natAbs (b * b').natAbs (2 * (b * b')).natAbs _ _ _ _ _ _ _ (decide (a * a' < 0)) (decide (d * d' < 0)) (decide (a * a' + d * d' < 0)) (decide (b * b' < 0)) (decide (2 * (b * b') < 0)) _)
    (by simp [flat_eV]) rfl ⟨qmul ha ha' (by omega), qmul hd hd' (by omega), qadd (ha.mul ha') (hd.mul hd') (by omega), qmul hb hb' (by omega), qshl (hb.mul hb') (by omega), qadd h h2 (by omega), trivial⟩ (flat_wz _) rfl
end Go.Proofs.YtaibhjphgdjcmaaGreat.W
/-! Package mat: May, Add, Adj, Det, Psd, Quad, Holds, Least. -/
namespace Go.Proofs.YtaibhjphgdjcmaaGreat.W
open Go Go.Ev Go.Wide

def mayE (n : Int) : Bool := decide (-2305843009213693952 ≤ n) && decide (n ≤ 2305843009213693952)
theorem mayE_iff {n : Int} : mayE n = true ↔ -2305843009213693952 ≤ n ∧ n ≤ 2305843009213693952 := by simp [mayE]
theorem mayEntry_pc (n : Int) : PC Tryz.prog 167 [.int .i64 n] (.bool (mayE n)) := by
  by_cases h : -2305843009213693952 ≤ n
  · exact PC.run mixed Tryz.func167 [.tst true] (rfl) (ts1 (tT h)) (trivial) (rfl) (by unfold mayE; rw [decide_eq_true h, Bool.true_and]) (by kernel_rfl)
  · exact PC.run mixed Tryz.func167 [.tst false] (rfl) (ts1 (tF h)) (trivial) (rfl) (by unfold mayE; rw [decide_eq_false h, Bool.false_and]) (by kernel_rfl)
theorem enters_mayEntry : ∀ us w, (callFunc 167 us).run Tryz.prog w = .ok (.enter 167 us) w := enters Tryz.func167 rfl (by kernel_rfl)
theorem mayEntry_qc (n : Int) (b : Bool) (h : mayE n = b) : QC Tryz.prog 167 [.int .i64 n] (.bool b) := h ▸ QC.of_pc enters_mayEntry (mayEntry_pc n)
def mayM (a b d : Int) : Bool := mayE a && (mayE b && mayE d)
theorem may_pc (a b d : Int) : PC Tryz.prog 150 [sym a b d] (.bool (mayM a b d)) := by
  have hfl : [sym a b d].all flat = true := by simp [flat_sym]
  unfold mayM
  cases h1 : mayE a with
  | false => exact PC.run mixed Tryz.func150 [.res (.bool false)] (hfl) ts0 (qs1 (mayEntry_qc a _ h1)) (rfl) rfl (by kernel_rfl)
  | true =>
    cases h2 : mayE b with
    | false => exact PC.run mixed Tryz.func150 [.res (.bool true), .res (.bool false)] (hfl) ts0 (qs2 (mayEntry_qc a _ h1) (mayEntry_qc b _ h2)) (rfl) rfl (by kernel_rfl)
    | true => exact PC.run mixed Tryz.func150 [.res (.bool true), .res (.bool true), .res (.bool (mayE d))] (hfl) ts0 (qs3 (mayEntry_qc a _ h1) (mayEntry_qc b _ h2) (mayEntry_qc d _ rfl)) (rfl) rfl (by kernel_rfl)
theorem enters_may : ∀ us w, (callFunc 150 us).run Tryz.prog w = .ok (.enter 150 us) w := enters Tryz.func150 rfl (by kernel_rfl)
theorem may_qc (a b d : Int) (r : Bool) (h : mayM a b d = r) : QC Tryz.prog 150 [sym a b d] (.bool r) := h ▸ QC.of_pc enters_may (may_pc a b d)
theorem mayM_iff {a b d : Int} : mayM a b d = true ↔ (-2305843009213693952 ≤ a ∧ a ≤ 2305843009213693952) ∧ (-2305843009213693952 ≤ b ∧ b ≤ 2305843009213693952) ∧ (-2305843009213693952 ≤ d ∧ d ≤ 2305843009213693952) := by
  simp only [mayM, Bool.and_eq_true, mayE_iff]
/-- The adjugate; the zero matrix if it is not valid. -/
def adjV (a b d : Int) : Value := match mayM a b d with | true => sym d (-b) a | false => sym 0 0 0
theorem adj_pc (a b d : Int) : PC Tryz.prog 136 [sym a b d] (adjV a b d) := by
  have hfl : [sym a b d].all flat = true := by simp [flat_sym]
  unfold adjV
  cases h1 : mayM a b d with
  | false => exact PC.run mixed Tryz.func136 [.res (.bool false)] (hfl) ts0 (qs1 (may_qc a b d _ h1)) (flat_sym 0 0 0) rfl (by kernel_rfl)
  | true =>
    have h2 := mayM_iff.1 h1
    have e : IntKind.i64.wrap (0 - b) = -b := by rw [i64_wrap (by omega) (by omega)]; omega
    have h := PC.run (args := [sym a b d]) mixed Tryz.func136 [.res (.bool true)] (hfl) ts0 (qs1 (may_qc a b d _ h1)) (flat_sym d (IntKind.i64.wrap (0 - b)) a) rfl (by kernel_rfl)
    rw [e] at h
    exact h
theorem enters_adj : ∀ us w, (callFunc 136 us).run Tryz.prog w = .ok (.enter 136 us) w := enters Tryz.func136 rfl (by kernel_rfl)
def sumT (a b d : Int) : Value := .tuple #[sym a b d, .int .i64 0]
theorem flat_sumT (a b d : Int) : flat (sumT a b d) = true := by kernel_rfl
def sumV (a b d a' b' d' : Int) : Value := match mayM a b d, mayM a' b' d' with
  | true, true => match mayM (a + a') (b + b') (d + d') with
    | true => .tuple #[sym (a + a') (b + b') (d + d'), .int .i64 0]
    | false => .tuple #[sym 0 0 0, .int .i64 2]
  | _, _ => .tuple #[sym 0 0 0, .int .i64 1]
theorem addM_pc (a b d a' b' d' : Int) : PC Tryz.prog 174 [sym a b d, sym a' b' d'] (sumV a b d a' b' d') := by
  have hfl : [sym a b d, sym a' b' d'].all flat = true := by simp [flat_sym]
  unfold sumV
  cases h1 : mayM a b d with
  | false => exact PC.run mixed Tryz.func174 [.res (.bool false)] (hfl) ts0 (qs1 (may_qc a b d _ h1)) (rfl) rfl (by kernel_rfl)
  | true =>
    cases h2 : mayM a' b' d' with
    | false => exact PC.run mixed Tryz.func174 [.res (.bool true), .res (.bool false)] (hfl) ts0 (qs2 (may_qc a b d _ h1) (may_qc a' b' d' _ h2)) (rfl) rfl (by kernel_rfl)
    | true =>
      have g1 := mayM_iff.1 h1
      have g2 := mayM_iff.1 h2
      have ea : IntKind.i64.wrap (a + a') = a + a' := i64_wrap (by omega) (by omega)
      have eb : IntKind.i64.wrap (b + b') = b + b' := i64_wrap (by omega) (by omega)
      have ed : IntKind.i64.wrap (d + d') = d + d' := i64_wrap (by omega) (by omega)
      cases h3 : mayM (a + a') (b + b') (d + d') with
      | false =>
        have h4 : mayM (IntKind.i64.wrap (a + a')) (IntKind.i64.wrap (b + b')) (IntKind.i64.wrap (d + d')) = false := by rw [ea, eb, ed]; exact h3
        exact PC.run mixed Tryz.func174 [.res (.bool true), .res (.bool true), .res (.bool false)] (hfl) ts0 (qs3 (may_qc a b d _ h1) (may_qc a' b' d' _ h2) (may_qc _ _ _ _ h4)) (rfl) rfl (by kernel_rfl)
      | true =>
        have h4 : mayM (IntKind.i64.wrap (a + a')) (IntKind.i64.wrap (b + b')) (IntKind.i64.wrap (d + d')) = true := by rw [ea, eb, ed]; exact h3
        have h := PC.run (args := [sym a b d, sym a' b' d']) (v := sumT (IntKind.i64.wrap (a + a')) (IntKind.i64.wrap (b + b')) (IntKind.i64.wrap (d + d'))) mixed Tryz.func174 [.res (.bool true), .res (.bool true), .res (.bool true)] (hfl) ts0 (qs3 (may_qc a b d _ h1) (may_qc a' b' d' _ h2) (may_qc _ _ _ _ h4)) (flat_sumT _ _ _) rfl (by kernel_rfl)
        rw [ea, eb, ed] at h
        exact h
theorem enters_addM : ∀ us w, (callFunc 174 us).run Tryz.prog w = .ok (.enter 174 us) w := enters Tryz.func174 rfl (by kernel_rfl)
theorem detM_pc {a b d : Int} (ha : I64 a) (hb : I64 b) (hd : I64 d) : PC Tryz.prog 47 [sym a b d] (wz (detI a b d)) :=
  PC.run mixed Tryz.func47 [.res (eV a b d), .res (wz (detI a b d))] (by simp [flat_sym]) ts0 (qs2 (QC.of_pc enters_widen (widen_pc ha hb hd)) (QC.of_pc enters_det (det_pc ha.sm hb.sm hd.sm))) (flat_wz _) rfl (by kernel_rfl)
theorem enters_detM : ∀ us w, (callFunc 47 us).run Tryz.prog w = .ok (.enter 47 us) w := enters Tryz.func47 rfl (by kernel_rfl)
/-- The square form of a b d at x y. -/
def quadI (a b d x y : Int) : Int := dotI a b d (x * x) (x * y) (y * y)
theorem I64.sq {x y : Int} (hx : I64 x) (hy : I64 y) : Sm 128 (x * y) := hx.sm.mul hy.sm
theorem quadI_sm {a b d x y : Int} (ha : I64 a) (hb : I64 b) (hd : I64 d) (hx : I64 x) (hy : I64 y) : Sm 194 (quadI a b d x y) := dotI_sm ha.sm hb.sm hd.sm (hx.sq hx) (hx.sq hy) (hy.sq hy)
theorem quadM_pc {a b d x y : Int} (ha : I64 a) (hb : I64 b) (hd : I64 d) (hx : I64 x) (hy : I64 y) : PC Tryz.prog 51 [sym a b d, pt x y] (wz (quadI a b d x y)) :=
  PC.run mixed Tryz.func51 [.res (eV a b d), .res (eV (x * x) (x * y) (y * y)), .res (wz (quadI a b d x y))] (by simp [flat_sym, flat_pt]) ts0 (qs3 (QC.of_pc enters_widen (widen_pc ha hb hd)) (QC.of_pc enters_square (square_pc hx hy)) (QC.of_pc enters_dot (dot_pc ha.sm hb.sm hd.sm (hx.sq hx) (hx.sq hy) (hy.sq hy)))) (flat_wz _) rfl (by kernel_rfl)
theorem enters_quadM : ∀ us w, (callFunc 51 us).run Tryz.prog w = .ok (.enter 51 us) w := enters Tryz.func51 rfl (by kernel_rfl)
def holdsI (a b d x y : Int) : Bool := psdI (a - x * x) (b - x * y) (d - y * y)
theorem holdsM_pc {a b d x y : Int} (ha : I64 a) (hb : I64 b) (hd : I64 d) (hx : I64 x) (hy : I64 y) : PC Tryz.prog 42 [sym a b d, pt x y] (.bool (holdsI a b d x y)) := by
  have sa := ha.sm.mono (k := 128) (by omega)
  have sb := hb.sm.mono (k := 128) (by omega)
  have sd := hd.sm.mono (k := 128) (by omega)
  exact PC.run mixed Tryz.func42 [.res (eV a b d), .res (eV (x * x) (x * y) (y * y)), .res (eV (a - x * x) (b - x * y) (d - y * y)), .res (.bool (holdsI a b d x y))] (by simp [flat_sym, flat_pt]) ts0 (qs4 (QC.of_pc enters_widen (widen_pc ha hb hd)) (QC.of_pc enters_square (square_pc hx hy)) (QC.of_pc enters_minusE (minusE_pc sa sb sd (hx.sq hx) (hx.sq hy) (hy.sq hy))) (QC.of_pc enters_psd (psd_pc (sa.sub (hx.sq hx)) (sb.sub (hx.sq hy)) (sd.sub (hy.sq hy))))) (rfl) rfl (by kernel_rfl)
theorem enters_holdsM : ∀ us w, (callFunc 42 us).run Tryz.prog w = .ok (.enter 42 us) w := enters Tryz.func42 rfl (by kernel_rfl)
theorem holdsM_qc {a b d x y : Int} (ha : I64 a) (hb : I64 b) (hd : I64 d) (hx : I64 x) (hy : I64 y) (r : Bool) (h : holdsI a b d x y = r) : QC Tryz.prog 42 [sym a b d, pt x y] (.bool r) := h ▸ QC.of_pc enters_holdsM (holdsM_pc ha hb hd hx hy)
def leastI (a b d a' b' d' : Int) : Bool := mayM a b d && (mayM a' b' d' && psdI (a - a') (b - b') (d - d'))
end Go.Proofs.YtaibhjphgdjcmaaGreat.W
/-! Package mat: awake. -/
namespace Go.Proofs.YtaibhjphgdjcmaaGreat.W
open Go Go.Ev Go.Wide

def txt24 : ByteArray := ⟨#[50, 52]⟩
theorem I64.lit {n : Int} (h : (decide (-9223372036854775808 ≤ n) && decide (n ≤ 9223372036854775807)) = true := by decide) : I64 n := by simpa [I64] using h
end Go.Proofs.YtaibhjphgdjcmaaGreat.W
/-! Symmetric matrices of two rows: positive semidefinite just where the square form is nowhere negative. -/
namespace Go.Proofs.YtaibhjphgdjcmaaGreat.W
open Go Go.Ev Go.Wide

theorem psdI_iff {a b d : Int} : psdI a b d = true ↔ 0 ≤ a ∧ 0 ≤ d ∧ 0 ≤ a * d - b * b := by simp [psdI, detI]
theorem quadI_eq (a b d x y : Int) : quadI a b d x y = a * (x * x) + d * (y * y) + 2 * (b * (x * y)) := rfl
theorem sq_nn (x : Int) : 0 ≤ x * x := by
  rcases Int.le_total 0 x with h | h
  · exact Int.mul_nonneg h h
  · have := Int.mul_nonneg (show 0 ≤ -x by omega) (show 0 ≤ -x by omega)
    rwa [Int.neg_mul_neg] at this
theorem nn_of_mul {a q : Int} (ha : 0 < a) (h : 0 ≤ a * q) : 0 ≤ q := by
  rcases Int.lt_or_le q 0 with hq | hq
  · have := Int.mul_neg_of_pos_of_neg ha hq
    omega
  · exact hq
theorem quad_of_psd {a b d : Int} (h : psdI a b d = true) (x y : Int) : 0 ≤ quadI a b d x y := by
  obtain ⟨ha, hd, hdet⟩ := psdI_iff.1 h
  rw [quadI_eq]
  rcases Int.lt_or_eq_of_le ha with ha' | ha'
  · refine nn_of_mul ha' ?_
    have e : a * (a * (x * x) + d * (y * y) + 2 * (b * (x * y))) = (a * x + b * y) * (a * x + b * y) + (a * d - b * b) * (y * y) := by grind
    rw [e]
    have h1 := sq_nn (a * x + b * y)
    have h2 := Int.mul_nonneg hdet (sq_nn y)
    omega
  · subst ha'
    have hb : b = 0 := by
      rcases Int.lt_or_eq_of_le (sq_nn b) with h | h
      · omega
      · rcases Int.mul_eq_zero.1 h.symm with h | h <;> exact h
    subst hb
    have := Int.mul_nonneg hd (sq_nn y)
    simp only [Int.zero_mul, Int.mul_zero]
    omega
end Go.Proofs.YtaibhjphgdjcmaaGreat.W
