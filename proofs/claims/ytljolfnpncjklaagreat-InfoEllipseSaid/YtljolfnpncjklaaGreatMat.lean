/-
  Package mat: the entries of a matrix as wide numbers: widen, square, minus, det, psd, dot.
  Package mat: May, Add, Adj, Det, Psd, Quad, Holds, Least.
  Package mat: awake.
  Symmetric matrices of two rows: positive semidefinite just where the square form is nowhere negative.
-/
import Derived.Test.YtljolfnpncjklaaGreatWide2
import Derived.Test.YtljolfnpncjklaaGreatEv3
/-! Package mat: the entries of a matrix as wide numbers: widen, square, minus, det, psd, dot. -/
namespace Go.Proofs.YtljolfnpncjklaaGreat.W
open Go Go.Ev Go.Wide

def wC (N : Nat) (s : Bool) : List Value := (List.range 16).map (fun i => Value.int .u64 (wd N i)) ++ [Value.bool s, Value.bool false]
def eR (A : Nat) (a : Bool) (B : Nat) (b : Bool) (D : Nat) (d : Bool) : Value := .agg (wC A a ++ wC B b ++ wC D d).toArray
/-- The entries a b d. -/
def eV (a b d : Int) : Value := eR a.natAbs (decide (a < 0)) b.natAbs (decide (b < 0)) d.natAbs (decide (d < 0))
theorem flat_eR (A : Nat) (a : Bool) (B : Nat) (b : Bool) (D : Nat) (d : Bool) : flat (eR A a B b D d) = true := by kernel_rfl
theorem flat_eV (a b d : Int) : flat (eV a b d) = true := flat_eR _ _ _ _ _ _
def sym (a b d : Int) : Value := .agg #[.int .i64 a, .int .i64 b, .int .i64 d]
def pt (x y : Int) : Value := .agg #[.int .i64 x, .int .i64 y]

theorem widen_key (A B D : Int) (a b d : Nat) (s t u : Bool) : evFn3 Tryz.prog Tryz.f91 400 [sym A B D] [.res (wR false a s), .res (wR false b t), .res (wR false d u)] =
    some (true, [QC Tryz.prog 9 [.int .i64 A] (wR false a s), QC Tryz.prog 9 [.int .i64 B] (wR false b t), QC Tryz.prog 9 [.int .i64 D] (wR false d u)], eR a s b t d u) := by kernel_rfl
theorem square_key (X Y : Int) (x y a b d : Nat) (p q s t u : Bool) : evFn3 Tryz.prog Tryz.f93 400 [pt X Y] [.res (wR false x p), .res (wR false y q), .res (wR false a s), .res (wR false b t), .res (wR false d u)] =
    some (true, [QC Tryz.prog 9 [.int .i64 X] (wR false x p), QC Tryz.prog 9 [.int .i64 Y] (wR false y q), QC Tryz.prog 12 [wR false x p, wR false x p] (wR false a s), QC Tryz.prog 12 [wR false x p, wR false y q] (wR false b t),
      QC Tryz.prog 12 [wR false y q, wR false y q] (wR false d u)], eR a s b t d u) := by kernel_rfl
theorem minusE_key (A B D A' B' D' a b d : Nat) (p q r p' q' r' s t u : Bool) : evFn3 Tryz.prog Tryz.f92 400 [eR A p B q D r, eR A' p' B' q' D' r'] [.res (wR false a s), .res (wR false b t), .res (wR false d u)] =
    some (true, [QC Tryz.prog 59 [wR false A p, wR false A' p'] (wR false a s), QC Tryz.prog 59 [wR false B q, wR false B' q'] (wR false b t), QC Tryz.prog 59 [wR false D r, wR false D' r'] (wR false d u)], eR a s b t d u) := by kernel_rfl
theorem det_key (A B D a b d : Nat) (p q r s t u : Bool) : evFn3 Tryz.prog Tryz.f110 400 [eR A p B q D r] [.res (wR false a s), .res (wR false b t), .res (wR false d u)] =
    some (true, [QC Tryz.prog 12 [wR false A p, wR false D r] (wR false a s), QC Tryz.prog 12 [wR false B q, wR false B q] (wR false b t), QC Tryz.prog 59 [wR false a s, wR false b t] (wR false d u)], wR false d u) := by kernel_rfl
theorem psd1_key (A B D : Nat) (p q r : Bool) (x : Int) : evFn3 Tryz.prog Tryz.f94 400 [eR A p B q D r] [.res (.int .i64 x), .tst false] =
    some (conj [!decide (x ≥ 0)], [QC Tryz.prog 23 [wR false A p] (.int .i64 x)], .bool false) := by kernel_rfl
theorem psd2_key (A B D : Nat) (p q r : Bool) (x y : Int) : evFn3 Tryz.prog Tryz.f94 400 [eR A p B q D r] [.res (.int .i64 x), .tst true, .res (.int .i64 y), .tst false] =
    some (conj [decide (x ≥ 0), !decide (y ≥ 0)], [QC Tryz.prog 23 [wR false A p] (.int .i64 x), QC Tryz.prog 23 [wR false D r] (.int .i64 y)], .bool false) := by kernel_rfl
theorem psd3_key (A B D d : Nat) (p q r u : Bool) (x y z : Int) : evFn3 Tryz.prog Tryz.f94 400 [eR A p B q D r] [.res (.int .i64 x), .tst true, .res (.int .i64 y), .tst true, .res (wR false d u), .res (.int .i64 z)] =
    some (conj [decide (x ≥ 0), decide (y ≥ 0)], [QC Tryz.prog 23 [wR false A p] (.int .i64 x), QC Tryz.prog 23 [wR false D r] (.int .i64 y), QC Tryz.prog 110 [eR A p B q D r] (wR false d u), QC Tryz.prog 23 [wR false d u] (.int .i64 z)], .bool (decide (z ≥ 0))) := by kernel_rfl
theorem dot_key (A B D A' B' D' a b d e f g : Nat) (p q r p' q' r' s t u v w x : Bool) : evFn3 Tryz.prog Tryz.f109 400 [eR A p B q D r, eR A' p' B' q' D' r'] [.res (wR false a s), .res (wR false b t), .res (wR false d u), .res (wR false e v), .res (wR false f w), .res (wR false g x)] =
    some (true, [QC Tryz.prog 12 [wR false A p, wR false A' p'] (wR false a s), QC Tryz.prog 12 [wR false D r, wR false D' r'] (wR false b t), QC Tryz.prog 11 [wR false a s, wR false b t] (wR false d u), QC Tryz.prog 12 [wR false B q, wR false B' q'] (wR false e v),
      QC Tryz.prog 15 [wR false e v, .int .i64 1] (wR false f w), QC Tryz.prog 11 [wR false d u, wR false f w] (wR false g x)], wR false g x) := by kernel_rfl

theorem flat_sym (A B D : Int) : flat (sym A B D) = true := by kernel_rfl
theorem flat_pt (X Y : Int) : flat (pt X Y) = true := by kernel_rfl
def I64 (n : Int) : Prop := -9223372036854775808 ≤ n ∧ n ≤ 9223372036854775807
theorem I64.sm {n : Int} (h : I64 n) : Sm 64 n := Sm.i64 h.1 h.2
theorem I64.of {n : Int} (h : I64 n) : QC Tryz.prog 9 [.int .i64 n] (wz n) := QC.of_pc enters_of (of_wz h.1 h.2)
theorem qmul {j k : Nat} {a b : Int} (ha : Sm j a) (hb : Sm k b) (hk : j + k ≤ 1023 := by omega) : QC Tryz.prog 12 [wz a, wz b] (wz (a * b)) := QC.of_pc enters_mul (mul_wz ha hb hk)
theorem qadd {k : Nat} {a b : Int} (ha : Sm k a) (hb : Sm k b) (hk : k < 1023 := by omega) : QC Tryz.prog 11 [wz a, wz b] (wz (a + b)) := QC.of_pc enters_add (add_wz ha hb hk)
theorem qsub {k : Nat} {a b : Int} (ha : Sm k a) (hb : Sm k b) (hk : k < 1023 := by omega) : QC Tryz.prog 59 [wz a, wz b] (wz (a - b)) := QC.of_pc enters_sub (sub_wz ha hb hk)
theorem qsign {k : Nat} {a : Int} (ha : Sm k a) (hk : k ≤ 1023 := by omega) : QC Tryz.prog 23 [wz a] (.int .i64 (signI (some a))) := QC.of_pc enters_sign (sign_wz ha hk)
theorem qshl {k : Nat} {a : Int} (ha : Sm k a) (hk : k < 1023 := by omega) : QC Tryz.prog 15 [wz a, .int .i64 1] (wz (2 * a)) := QC.of_pc enters_shift (shl_wz ha hk)

theorem widen_pc {A B D : Int} (hA : I64 A) (hB : I64 B) (hD : I64 D) : PC Tryz.prog 91 [sym A B D] (eV A B D) :=
  PC.of_ev3 mixed Tryz.func91 400 _ (widen_key A B D _ _ _ _ _ _) (by simp [flat_sym]) rfl ⟨hA.of, hB.of, hD.of, trivial⟩ (flat_eV _ _ _) rfl
theorem square_pc {X Y : Int} (hX : I64 X) (hY : I64 Y) : PC Tryz.prog 93 [pt X Y] (eV (X * X) (X * Y) (Y * Y)) :=
  PC.of_ev3 mixed Tryz.func93 400 _ (square_key X Y X.natAbs Y.natAbs _ _ _ (decide (X < 0)) (decide (Y < 0)) _ _ _) (by simp [flat_pt]) rfl ⟨hX.of, hY.of, qmul hX.sm hX.sm, qmul hX.sm hY.sm, qmul hY.sm hY.sm, trivial⟩ (flat_eV _ _ _) rfl
theorem minusE_pc {k : Nat} {a b d a' b' d' : Int} (ha : Sm k a) (hb : Sm k b) (hd : Sm k d) (ha' : Sm k a') (hb' : Sm k b') (hd' : Sm k d') (hk : k < 1023 := by omega) : PC Tryz.prog 92 [eV a b d, eV a' b' d'] (eV (a - a') (b - b') (d - d')) :=
  PC.of_ev3 mixed Tryz.func92 400 _ (minusE_key _ _ _ _ _ _ _ _ _ _ _ _ _ _ _ _ _ _) (by simp [flat_eV]) rfl ⟨qsub ha ha' hk, qsub hb hb' hk, qsub hd hd' hk, trivial⟩ (flat_eV _ _ _) rfl
def detI (a b d : Int) : Int := a * d - b * b
theorem detI_sm {k : Nat} {a b d : Int} (ha : Sm k a) (hb : Sm k b) (hd : Sm k d) : Sm (k + k + 1) (detI a b d) := (ha.mul hd).sub (hb.mul hb)
theorem det_pc {k : Nat} {a b d : Int} (ha : Sm k a) (hb : Sm k b) (hd : Sm k d) (hk : k + k < 1023 := by omega) : PC Tryz.prog 110 [eV a b d] (wz (detI a b d)) :=
  PC.of_ev3 mixed Tryz.func110 400 _ (det_key _ _ _ (a * d).natAbs (b * b).natAbs _ _ _ _ (decide (a * d < 0)) (decide (b * b < 0)) _) (by simp [flat_eV]) rfl ⟨qmul ha hd (by omega), qmul hb hb (by omega), qsub (ha.mul hd) (hb.mul hb) (by omega), trivial⟩ (flat_wz _) rfl
def psdI (a b d : Int) : Bool := decide (0 ≤ a) && (decide (0 ≤ d) && decide (0 ≤ detI a b d))
theorem enters_det : ∀ us w, (callFunc 110 us).run Tryz.prog w = .ok (.enter 110 us) w := enters Tryz.func110 rfl (by kernel_rfl)
theorem enters_psd : ∀ us w, (callFunc 94 us).run Tryz.prog w = .ok (.enter 94 us) w := enters Tryz.func94 rfl (by kernel_rfl)
theorem enters_dot : ∀ us w, (callFunc 109 us).run Tryz.prog w = .ok (.enter 109 us) w := enters Tryz.func109 rfl (by kernel_rfl)
theorem enters_widen : ∀ us w, (callFunc 91 us).run Tryz.prog w = .ok (.enter 91 us) w := enters Tryz.func91 rfl (by kernel_rfl)
theorem enters_square : ∀ us w, (callFunc 93 us).run Tryz.prog w = .ok (.enter 93 us) w := enters Tryz.func93 rfl (by kernel_rfl)
theorem enters_minusE : ∀ us w, (callFunc 92 us).run Tryz.prog w = .ok (.enter 92 us) w := enters Tryz.func92 rfl (by kernel_rfl)
theorem psd_pc {k : Nat} {a b d : Int} (ha : Sm k a) (hb : Sm k b) (hd : Sm k d) (hk : k + k < 1023 := by omega) : PC Tryz.prog 94 [eV a b d] (.bool (psdI a b d)) := by
  have hfl : [eV a b d].all flat = true := by simp [flat_eV]
  have h1 := qsign ha (by omega)
  have h2 := qsign hd (by omega)
  by_cases c1 : 0 ≤ a
  · have e1 : signI (some a) ≥ 0 := signI_nonneg.2 c1
    by_cases c2 : 0 ≤ d
    · have e2 : signI (some d) ≥ 0 := signI_nonneg.2 c2
      refine PC.of_ev3 mixed Tryz.func94 400 _ (psd3_key _ _ _ (detI a b d).natAbs _ _ _ (decide (detI a b d < 0)) (signI (some a)) (signI (some d)) (signI (some (detI a b d)))) hfl (by rw [conj_cons, conj_cons, conj_nil, decide_eq_true e1, decide_eq_true e2]; rfl)
        ⟨h1, h2, QC.of_pc enters_det (det_pc ha hb hd hk), qsign (detI_sm ha hb hd) (by omega), trivial⟩ rfl ?_
      unfold psdI
      rw [decide_eq_true c1, decide_eq_true c2, Bool.true_and, Bool.true_and]
      congr 1
      exact decide_eq_decide.2 signI_nonneg
    · have e2 : ¬ signI (some d) ≥ 0 := fun h => c2 (signI_nonneg.1 h)
      refine PC.of_ev3 mixed Tryz.func94 400 _ (psd2_key _ _ _ _ _ _ (signI (some a)) (signI (some d))) hfl (by rw [conj_cons, conj_cons, conj_nil, decide_eq_true e1, decide_eq_false e2]; rfl)
        ⟨h1, h2, trivial⟩ rfl ?_
      unfold psdI
      rw [decide_eq_true c1, decide_eq_false c2]; rfl
  · have e1 : ¬ signI (some a) ≥ 0 := fun h => c1 (signI_nonneg.1 h)
    refine PC.of_ev3 mixed Tryz.func94 400 _ (psd1_key _ _ _ _ _ _ (signI (some a))) hfl (by rw [conj_cons, conj_nil, decide_eq_false e1]; rfl)
      ⟨h1, trivial⟩ rfl ?_
    unfold psdI
    rw [decide_eq_false c1]; rfl
def dotI (a b d a' b' d' : Int) : Int := (a * a' + d * d') + 2 * (b * b')
theorem dotI_sm {j k : Nat} {a b d a' b' d' : Int} (ha : Sm j a) (hb : Sm j b) (hd : Sm j d) (ha' : Sm k a') (hb' : Sm k b') (hd' : Sm k d') : Sm (j + k + 2) (dotI a b d a' b' d') := by
  have h := (ha.mul ha').add (hd.mul hd')
  have h2 : Sm (j + k + 1) (2 * (b * b')) := by
    have := (hb.mul hb').add (hb.mul hb')
    rw [show 2 * (b * b') = b * b' + b * b' by omega]
    exact this
  exact h.add h2
theorem dot_pc {j k : Nat} {a b d a' b' d' : Int} (ha : Sm j a) (hb : Sm j b) (hd : Sm j d) (ha' : Sm k a') (hb' : Sm k b') (hd' : Sm k d') (hk : j + k + 2 ≤ 1023 := by omega) :
    PC Tryz.prog 109 [eV a b d, eV a' b' d'] (wz (dotI a b d a' b' d')) := by
  have h := (ha.mul ha').add (hd.mul hd')
  have h2 : Sm (j + k + 1) (2 * (b * b')) := by
    have := (hb.mul hb').add (hb.mul hb')
    rw [show 2 * (b * b') = b * b' + b * b' by omega]
    exact this
  exact PC.of_ev3 mixed Tryz.func109 400 _ (dot_key _ _ _ _ _ _ (a * a').natAbs (d * d').natAbs (a * a' + d * d').natAbs (b * b').natAbs (2 * (b * b')).natAbs _ _ _ _ _ _ _ (decide (a * a' < 0)) (decide (d * d' < 0)) (decide (a * a' + d * d' < 0)) (decide (b * b' < 0)) (decide (2 * (b * b') < 0)) _)
    (by simp [flat_eV]) rfl ⟨qmul ha ha' (by omega), qmul hd hd' (by omega), qadd (ha.mul ha') (hd.mul hd') (by omega), qmul hb hb' (by omega), qshl (hb.mul hb') (by omega), qadd h h2 (by omega), trivial⟩ (flat_wz _) rfl
end Go.Proofs.YtljolfnpncjklaaGreat.W
/-! Package mat: May, Add, Adj, Det, Psd, Quad, Holds, Least. -/
namespace Go.Proofs.YtljolfnpncjklaaGreat.W
open Go Go.Ev Go.Wide

def mayE (n : Int) : Bool := decide (-2305843009213693952 ≤ n) && decide (n ≤ 2305843009213693952)
theorem mayE_iff {n : Int} : mayE n = true ↔ -2305843009213693952 ≤ n ∧ n ≤ 2305843009213693952 := by simp [mayE]
theorem mayE_i64 {n : Int} (h : mayE n = true) : I64 n := by
  have := mayE_iff.1 h
  exact ⟨by omega, by omega⟩
theorem mayEntry_pc (n : Int) : PC Tryz.prog 114 [.int .i64 n] (.bool (mayE n)) := by
  by_cases h : -2305843009213693952 ≤ n
  · exact PC.run mixed Tryz.func114 [.tst true] (rfl) (ts1 (tT h)) (trivial) (rfl) (by unfold mayE; rw [decide_eq_true h, Bool.true_and]) (by kernel_rfl)
  · exact PC.run mixed Tryz.func114 [.tst false] (rfl) (ts1 (tF h)) (trivial) (rfl) (by unfold mayE; rw [decide_eq_false h, Bool.false_and]) (by kernel_rfl)
theorem enters_mayEntry : ∀ us w, (callFunc 114 us).run Tryz.prog w = .ok (.enter 114 us) w := enters Tryz.func114 rfl (by kernel_rfl)
theorem mayEntry_qc (n : Int) (b : Bool) (h : mayE n = b) : QC Tryz.prog 114 [.int .i64 n] (.bool b) := h ▸ QC.of_pc enters_mayEntry (mayEntry_pc n)
def mayM (a b d : Int) : Bool := mayE a && (mayE b && mayE d)
theorem may_pc (a b d : Int) : PC Tryz.prog 99 [sym a b d] (.bool (mayM a b d)) := by
  have hfl : [sym a b d].all flat = true := by simp [flat_sym]
  unfold mayM
  cases h1 : mayE a with
  | false => exact PC.run mixed Tryz.func99 [.res (.bool false)] (hfl) ts0 (qs1 (mayEntry_qc a _ h1)) (rfl) rfl (by kernel_rfl)
  | true =>
    cases h2 : mayE b with
    | false => exact PC.run mixed Tryz.func99 [.res (.bool true), .res (.bool false)] (hfl) ts0 (qs2 (mayEntry_qc a _ h1) (mayEntry_qc b _ h2)) (rfl) rfl (by kernel_rfl)
    | true => exact PC.run mixed Tryz.func99 [.res (.bool true), .res (.bool true), .res (.bool (mayE d))] (hfl) ts0 (qs3 (mayEntry_qc a _ h1) (mayEntry_qc b _ h2) (mayEntry_qc d _ rfl)) (rfl) rfl (by kernel_rfl)
theorem enters_may : ∀ us w, (callFunc 99 us).run Tryz.prog w = .ok (.enter 99 us) w := enters Tryz.func99 rfl (by kernel_rfl)
theorem may_qc (a b d : Int) (r : Bool) (h : mayM a b d = r) : QC Tryz.prog 99 [sym a b d] (.bool r) := h ▸ QC.of_pc enters_may (may_pc a b d)
theorem mayM_iff {a b d : Int} : mayM a b d = true ↔ (-2305843009213693952 ≤ a ∧ a ≤ 2305843009213693952) ∧ (-2305843009213693952 ≤ b ∧ b ≤ 2305843009213693952) ∧ (-2305843009213693952 ≤ d ∧ d ≤ 2305843009213693952) := by
  simp only [mayM, Bool.and_eq_true, mayE_iff]
theorem i64_wrap_self {z : Int} (h : I64 z) : IntKind.i64.wrap z = z := i64_wrap h.1 h.2
/-- The adjugate; the zero matrix if it is not valid. -/
def adjV (a b d : Int) : Value := match mayM a b d with | true => sym d (-b) a | false => sym 0 0 0
theorem flat_adjV (a b d : Int) : flat (adjV a b d) = true := by unfold adjV; cases mayM a b d <;> exact flat_sym _ _ _
theorem adj_pc (a b d : Int) : PC Tryz.prog 86 [sym a b d] (adjV a b d) := by
  have hfl : [sym a b d].all flat = true := by simp [flat_sym]
  unfold adjV
  cases h1 : mayM a b d with
  | false => exact PC.run mixed Tryz.func86 [.res (.bool false)] (hfl) ts0 (qs1 (may_qc a b d _ h1)) (flat_sym 0 0 0) rfl (by kernel_rfl)
  | true =>
    have h2 := mayM_iff.1 h1
    have e : IntKind.i64.wrap (0 - b) = -b := by rw [i64_wrap (by omega) (by omega)]; omega
    have h := PC.run (args := [sym a b d]) mixed Tryz.func86 [.res (.bool true)] (hfl) ts0 (qs1 (may_qc a b d _ h1)) (flat_sym d (IntKind.i64.wrap (0 - b)) a) rfl (by kernel_rfl)
    rw [e] at h
    exact h
theorem enters_adj : ∀ us w, (callFunc 86 us).run Tryz.prog w = .ok (.enter 86 us) w := enters Tryz.func86 rfl (by kernel_rfl)
def sumT (a b d : Int) : Value := .tuple #[sym a b d, .int .i64 0]
theorem flat_sumT (a b d : Int) : flat (sumT a b d) = true := by kernel_rfl
def sumV (a b d a' b' d' : Int) : Value := match mayM a b d, mayM a' b' d' with
  | true, true => match mayM (a + a') (b + b') (d + d') with
    | true => .tuple #[sym (a + a') (b + b') (d + d'), .int .i64 0]
    | false => .tuple #[sym 0 0 0, .int .i64 2]
  | _, _ => .tuple #[sym 0 0 0, .int .i64 1]
theorem addM_pc (a b d a' b' d' : Int) : PC Tryz.prog 68 [sym a b d, sym a' b' d'] (sumV a b d a' b' d') := by
  have hfl : [sym a b d, sym a' b' d'].all flat = true := by simp [flat_sym]
  unfold sumV
  cases h1 : mayM a b d with
  | false => exact PC.run mixed Tryz.func68 [.res (.bool false)] (hfl) ts0 (qs1 (may_qc a b d _ h1)) (rfl) rfl (by kernel_rfl)
  | true =>
    cases h2 : mayM a' b' d' with
    | false => exact PC.run mixed Tryz.func68 [.res (.bool true), .res (.bool false)] (hfl) ts0 (qs2 (may_qc a b d _ h1) (may_qc a' b' d' _ h2)) (rfl) rfl (by kernel_rfl)
    | true =>
      have g1 := mayM_iff.1 h1
      have g2 := mayM_iff.1 h2
      have ea : IntKind.i64.wrap (a + a') = a + a' := i64_wrap (by omega) (by omega)
      have eb : IntKind.i64.wrap (b + b') = b + b' := i64_wrap (by omega) (by omega)
      have ed : IntKind.i64.wrap (d + d') = d + d' := i64_wrap (by omega) (by omega)
      cases h3 : mayM (a + a') (b + b') (d + d') with
      | false =>
        have h4 : mayM (IntKind.i64.wrap (a + a')) (IntKind.i64.wrap (b + b')) (IntKind.i64.wrap (d + d')) = false := by rw [ea, eb, ed]; exact h3
        exact PC.run mixed Tryz.func68 [.res (.bool true), .res (.bool true), .res (.bool false)] (hfl) ts0 (qs3 (may_qc a b d _ h1) (may_qc a' b' d' _ h2) (may_qc _ _ _ _ h4)) (rfl) rfl (by kernel_rfl)
      | true =>
        have h4 : mayM (IntKind.i64.wrap (a + a')) (IntKind.i64.wrap (b + b')) (IntKind.i64.wrap (d + d')) = true := by rw [ea, eb, ed]; exact h3
        have h := PC.run (args := [sym a b d, sym a' b' d']) (v := sumT (IntKind.i64.wrap (a + a')) (IntKind.i64.wrap (b + b')) (IntKind.i64.wrap (d + d'))) mixed Tryz.func68 [.res (.bool true), .res (.bool true), .res (.bool true)] (hfl) ts0 (qs3 (may_qc a b d _ h1) (may_qc a' b' d' _ h2) (may_qc _ _ _ _ h4)) (flat_sumT _ _ _) rfl (by kernel_rfl)
        rw [ea, eb, ed] at h
        exact h
theorem enters_addM : ∀ us w, (callFunc 68 us).run Tryz.prog w = .ok (.enter 68 us) w := enters Tryz.func68 rfl (by kernel_rfl)
theorem detM_pc {a b d : Int} (ha : I64 a) (hb : I64 b) (hd : I64 d) : PC Tryz.prog 88 [sym a b d] (wz (detI a b d)) :=
  PC.run mixed Tryz.func88 [.res (eV a b d), .res (wz (detI a b d))] (by simp [flat_sym]) ts0 (qs2 (QC.of_pc enters_widen (widen_pc ha hb hd)) (QC.of_pc enters_det (det_pc ha.sm hb.sm hd.sm))) (flat_wz _) rfl (by kernel_rfl)
theorem enters_detM : ∀ us w, (callFunc 88 us).run Tryz.prog w = .ok (.enter 88 us) w := enters Tryz.func88 rfl (by kernel_rfl)
/-- The square form of a b d at x y. -/
def quadI (a b d x y : Int) : Int := dotI a b d (x * x) (x * y) (y * y)
theorem I64.sq {x y : Int} (hx : I64 x) (hy : I64 y) : Sm 128 (x * y) := hx.sm.mul hy.sm
theorem quadI_sm {a b d x y : Int} (ha : I64 a) (hb : I64 b) (hd : I64 d) (hx : I64 x) (hy : I64 y) : Sm 194 (quadI a b d x y) := dotI_sm ha.sm hb.sm hd.sm (hx.sq hx) (hx.sq hy) (hy.sq hy)
theorem quadM_pc {a b d x y : Int} (ha : I64 a) (hb : I64 b) (hd : I64 d) (hx : I64 x) (hy : I64 y) : PC Tryz.prog 87 [sym a b d, pt x y] (wz (quadI a b d x y)) :=
  PC.run mixed Tryz.func87 [.res (eV a b d), .res (eV (x * x) (x * y) (y * y)), .res (wz (quadI a b d x y))] (by simp [flat_sym, flat_pt]) ts0 (qs3 (QC.of_pc enters_widen (widen_pc ha hb hd)) (QC.of_pc enters_square (square_pc hx hy)) (QC.of_pc enters_dot (dot_pc ha.sm hb.sm hd.sm (hx.sq hx) (hx.sq hy) (hy.sq hy)))) (flat_wz _) rfl (by kernel_rfl)
theorem enters_quadM : ∀ us w, (callFunc 87 us).run Tryz.prog w = .ok (.enter 87 us) w := enters Tryz.func87 rfl (by kernel_rfl)
def holdsI (a b d x y : Int) : Bool := psdI (a - x * x) (b - x * y) (d - y * y)
theorem holdsM_pc {a b d x y : Int} (ha : I64 a) (hb : I64 b) (hd : I64 d) (hx : I64 x) (hy : I64 y) : PC Tryz.prog 58 [sym a b d, pt x y] (.bool (holdsI a b d x y)) := by
  have sa := ha.sm.mono (k := 128) (by omega)
  have sb := hb.sm.mono (k := 128) (by omega)
  have sd := hd.sm.mono (k := 128) (by omega)
  exact PC.run mixed Tryz.func58 [.res (eV a b d), .res (eV (x * x) (x * y) (y * y)), .res (eV (a - x * x) (b - x * y) (d - y * y)), .res (.bool (holdsI a b d x y))] (by simp [flat_sym, flat_pt]) ts0 (qs4 (QC.of_pc enters_widen (widen_pc ha hb hd)) (QC.of_pc enters_square (square_pc hx hy)) (QC.of_pc enters_minusE (minusE_pc sa sb sd (hx.sq hx) (hx.sq hy) (hy.sq hy))) (QC.of_pc enters_psd (psd_pc (sa.sub (hx.sq hx)) (sb.sub (hx.sq hy)) (sd.sub (hy.sq hy))))) (rfl) rfl (by kernel_rfl)
theorem enters_holdsM : ∀ us w, (callFunc 58 us).run Tryz.prog w = .ok (.enter 58 us) w := enters Tryz.func58 rfl (by kernel_rfl)
theorem holdsM_qc {a b d x y : Int} (ha : I64 a) (hb : I64 b) (hd : I64 d) (hx : I64 x) (hy : I64 y) (r : Bool) (h : holdsI a b d x y = r) : QC Tryz.prog 58 [sym a b d, pt x y] (.bool r) := h ▸ QC.of_pc enters_holdsM (holdsM_pc ha hb hd hx hy)
def leastI (a b d a' b' d' : Int) : Bool := mayM a b d && (mayM a' b' d' && psdI (a - a') (b - b') (d - d'))
end Go.Proofs.YtljolfnpncjklaaGreat.W
/-! Package mat: awake. -/
namespace Go.Proofs.YtljolfnpncjklaaGreat.W
open Go Go.Ev Go.Wide

def txt24 : ByteArray := ⟨#[50, 52]⟩
theorem txt24_eq : textB (some 36) = txt24 := by
  rw [text_of (M := 36) (L := 2) (s := false) rfl rfl (by unfold hexLen; rw [bitLen_eq (x := 36) (n := 5) (by decide) (by decide)]; rfl)]
  kernel_rfl
theorem I64.lit {n : Int} (h : (decide (-9223372036854775808 ≤ n) && decide (n ≤ 9223372036854775807)) = true := by decide) : I64 n := by simpa [I64] using h
end Go.Proofs.YtljolfnpncjklaaGreat.W
/-! Symmetric matrices of two rows: positive semidefinite just where the square form is nowhere negative. -/
namespace Go.Proofs.YtljolfnpncjklaaGreat.W
open Go Go.Ev Go.Wide

theorem psdI_iff {a b d : Int} : psdI a b d = true ↔ 0 ≤ a ∧ 0 ≤ d ∧ 0 ≤ a * d - b * b := by simp [psdI, detI]
theorem quadI_eq (a b d x y : Int) : quadI a b d x y = a * (x * x) + d * (y * y) + 2 * (b * (x * y)) := rfl
theorem sq_nn (x : Int) : 0 ≤ x * x := by
  rcases Int.le_total 0 x with h | h
  · exact Int.mul_nonneg h h
  · have := Int.mul_nonneg (show 0 ≤ -x by omega) (show 0 ≤ -x by omega)
    rwa [Int.neg_mul_neg] at this
theorem sq_pos {x : Int} (h : x ≠ 0) : 0 < x * x := by
  rcases Int.lt_or_gt_of_ne h with h | h
  · have := Int.mul_pos (show 0 < -x by omega) (show 0 < -x by omega)
    rwa [Int.neg_mul_neg] at this
  · exact Int.mul_pos h h
theorem nn_of_mul {a q : Int} (ha : 0 < a) (h : 0 ≤ a * q) : 0 ≤ q := by
  rcases Int.lt_or_le q 0 with hq | hq
  · have := Int.mul_neg_of_pos_of_neg ha hq
    omega
  · exact hq
theorem quad_of_psd {a b d : Int} (h : psdI a b d = true) (x y : Int) : 0 ≤ quadI a b d x y := by
  obtain ⟨ha, hd, hdet⟩ := psdI_iff.1 h
  rw [quadI_eq]
  rcases Int.lt_or_eq_of_le ha with ha' | ha'
  · refine nn_of_mul ha' ?_
    have e : a * (a * (x * x) + d * (y * y) + 2 * (b * (x * y))) = (a * x + b * y) * (a * x + b * y) + (a * d - b * b) * (y * y) := by grind
    rw [e]
    have h1 := sq_nn (a * x + b * y)
    have h2 := Int.mul_nonneg hdet (sq_nn y)
    omega
  · subst ha'
    have hb : b = 0 := by
      rcases Int.lt_or_eq_of_le (sq_nn b) with h | h
      · omega
      · rcases Int.mul_eq_zero.1 h.symm with h | h <;> exact h
    subst hb
    have := Int.mul_nonneg hd (sq_nn y)
    simp only [Int.zero_mul, Int.mul_zero]
    omega
/-- One of six points tells. -/
theorem psd_of_six {a b d : Int} (h0 : 0 ≤ quadI a b d 1 0) (h1 : 0 ≤ quadI a b d 0 1) (h2 : 0 ≤ quadI a b d b (-a)) (h3 : 0 ≤ quadI a b d d (-b)) (h4 : 0 ≤ quadI a b d 1 1) (h5 : 0 ≤ quadI a b d 1 (-1)) : psdI a b d = true := by
  rw [quadI_eq] at *
  have ha : 0 ≤ a := by omega
  have hd : 0 ≤ d := by omega
  refine psdI_iff.2 ⟨ha, hd, ?_⟩
  rcases Int.lt_or_eq_of_le ha with ha' | ha'
  · refine nn_of_mul ha' ?_
    have e : a * (a * d - b * b) = a * (b * b) + d * (-a * -a) + 2 * (b * (b * -a)) := by grind
    rw [e]; exact h2
  · rcases Int.lt_or_eq_of_le hd with hd' | hd'
    · refine nn_of_mul hd' ?_
      have e : d * (a * d - b * b) = a * (d * d) + d * (-b * -b) + 2 * (b * (d * -b)) := by grind
      rw [e]; exact h3
    · subst ha' hd'
      have : b = 0 := by omega
      subst this
      decide
theorem psd_iff_quad {a b d : Int} : psdI a b d = true ↔ ∀ x y, 0 ≤ quadI a b d x y :=
  ⟨fun h => quad_of_psd h, fun h => psd_of_six (h _ _) (h _ _) (h _ _) (h _ _) (h _ _) (h _ _)⟩
theorem quad_add (a b d a' b' d' x y : Int) : quadI (a + a') (b + b') (d + d') x y = quadI a b d x y + quadI a' b' d' x y := by
  simp only [quadI_eq]; grind
theorem psd_add {a b d a' b' d' : Int} (h : psdI a b d = true) (h' : psdI a' b' d' = true) : psdI (a + a') (b + b') (d + d') = true :=
  psd_iff_quad.2 fun x y => by
    have h1 := quad_of_psd h x y
    have h2 := quad_of_psd h' x y
    rw [quad_add]; omega
theorem psd_zero : psdI 0 0 0 = true := by decide
/-- m m' is positive, and so is any multiple of it. -/
theorem psd_square (k x y : Int) (hk : 0 ≤ k) : psdI (k * (x * x)) (k * (x * y)) (k * (y * y)) = true :=
  psd_iff_quad.2 fun u v => by
    have e : quadI (k * (x * x)) (k * (x * y)) (k * (y * y)) u v = k * ((x * u + y * v) * (x * u + y * v)) := by rw [quadI_eq]; grind
    rw [e]
    exact Int.mul_nonneg hk (sq_nn _)
theorem psd_antisymm {a b d : Int} (h : psdI a b d = true) (h' : psdI (-a) (-b) (-d) = true) : a = 0 ∧ b = 0 ∧ d = 0 := by
  have p := fun x y => quad_of_psd h x y
  have q := fun x y => quad_of_psd h' x y
  have p1 := p 1 0; have q1 := q 1 0; have p2 := p 0 1; have q2 := q 0 1
  have p3 := p 1 1; have q3 := q 1 1; have p4 := p 1 (-1); have q4 := q 1 (-1)
  simp only [quadI_eq] at *
  omega
theorem leastI_iff {a b d a' b' d' : Int} : leastI a b d a' b' d' = true ↔ mayM a b d = true ∧ mayM a' b' d' = true ∧ psdI (a - a') (b - b') (d - d') = true := by simp [leastI]
theorem least_trans {a b d a' b' d' a'' b'' d'' : Int} (h : leastI a b d a' b' d' = true) (h' : leastI a' b' d' a'' b'' d'' = true) : leastI a b d a'' b'' d'' = true := by
  obtain ⟨h1, _, h3⟩ := leastI_iff.1 h
  obtain ⟨_, g2, g3⟩ := leastI_iff.1 h'
  refine leastI_iff.2 ⟨h1, g2, ?_⟩
  have := psd_add h3 g3
  rwa [show a - a' + (a' - a'') = a - a'' by omega, show b - b' + (b' - b'') = b - b'' by omega, show d - d' + (d' - d'') = d - d'' by omega] at this
theorem least_refl {a b d : Int} (h : mayM a b d = true) : leastI a b d a b d = true := leastI_iff.2 ⟨h, h, by rw [Int.sub_self, Int.sub_self, Int.sub_self]; exact psd_zero⟩
theorem least_antisymm {a b d a' b' d' : Int} (h : leastI a b d a' b' d' = true) (h' : leastI a' b' d' a b d = true) : a = a' ∧ b = b' ∧ d = d' := by
  obtain ⟨_, _, h3⟩ := leastI_iff.1 h
  obtain ⟨_, _, g3⟩ := leastI_iff.1 h'
  have := psd_antisymm h3 (by rwa [Int.neg_sub, Int.neg_sub, Int.neg_sub])
  omega
theorem str_refl (t : ByteArray) : (t.toList == t.toList) = true := by simp
theorem sym_refl (a b d : Int) : (decide (a = a) && (decide (b = b) && (decide (d = d) && true))) = true := by simp
end Go.Proofs.YtljolfnpncjklaaGreat.W
