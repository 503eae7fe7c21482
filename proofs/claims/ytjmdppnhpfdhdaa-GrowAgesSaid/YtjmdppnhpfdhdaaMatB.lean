/-
  Package mat: May, Add, Adj, Det, Psd, Quad, Holds, Least.
-/
import Derived.Test.YtjmdppnhpfdhdaaMatA
import Derived.Test.YtjmdppnhpfdhdaaEvS
namespace Go.Proofs.Ytjmdppnhpfdhdaa.W
open Go Go.Ev Go.Wide

def mayE (n : Int) : Bool := decide (-2305843009213693952 ≤ n) && decide (n ≤ 2305843009213693952)
theorem mayE_iff {n : Int} : mayE n = true ↔ -2305843009213693952 ≤ n ∧ n ≤ 2305843009213693952 := by simp [mayE]
theorem mayE_i64 {n : Int} (h : mayE n = true) : I64 n := by
  have := mayE_iff.1 h
  exact ⟨by omega, by omega⟩
theorem mayEntry_pc (n : Int) : PC Try.prog 58 [.int .i64 n] (.bool (mayE n)) := by
  by_cases h : -2305843009213693952 ≤ n
  · exact PC.run mixed Try.func58 [.tst true] (rfl) (ts1 (tT h)) (trivial) (rfl) (by unfold mayE; rw [decide_eq_true h, Bool.true_and]) (by kernel_rfl)
  · exact PC.run mixed Try.func58 [.tst false] (rfl) (ts1 (tF h)) (trivial) (rfl) (by unfold mayE; rw [decide_eq_false h, Bool.false_and]) (by kernel_rfl)
theorem enters_mayEntry : ∀ us w, (callFunc 58 us).run Try.prog w = .ok (.enter 58 us) w := enters Try.func58 rfl (by kernel_rfl)
theorem mayEntry_qc (n : Int) (b : Bool) (h : mayE n = b) : QC Try.prog 58 [.int .i64 n] (.bool b) := h ▸ QC.of_pc enters_mayEntry (mayEntry_pc n)
def mayM (a b d : Int) : Bool := mayE a && (mayE b && mayE d)
theorem may_pc (a b d : Int) : PC Try.prog 36 [sym a b d] (.bool (mayM a b d)) := by
  have hfl : [sym a b d].all flat = true := by simp [flat_sym]
  unfold mayM
  cases h1 : mayE a with
  | false => exact PC.run mixed Try.func36 [.res (.bool false)] (hfl) ts0 (qs1 (mayEntry_qc a _ h1)) (rfl) rfl (by kernel_rfl)
  | true =>
    cases h2 : mayE b with
    | false => exact PC.run mixed Try.func36 [.res (.bool true), .res (.bool false)] (hfl) ts0 (qs2 (mayEntry_qc a _ h1) (mayEntry_qc b _ h2)) (rfl) rfl (by kernel_rfl)
    | true => exact PC.run mixed Try.func36 [.res (.bool true), .res (.bool true), .res (.bool (mayE d))] (hfl) ts0 (qs3 (mayEntry_qc a _ h1) (mayEntry_qc b _ h2) (mayEntry_qc d _ rfl)) (rfl) rfl (by kernel_rfl)
theorem enters_may : ∀ us w, (callFunc 36 us).run Try.prog w = .ok (.enter 36 us) w := enters Try.func36 rfl (by kernel_rfl)
theorem may_qc (a b d : Int) (r : Bool) (h : mayM a b d = r) : QC Try.prog 36 [sym a b d] (.bool r) := h ▸ QC.of_pc enters_may (may_pc a b d)
theorem mayM_iff {a b d : Int} : mayM a b d = true ↔ (-2305843009213693952 ≤ a ∧ a ≤ 2305843009213693952) ∧ (-2305843009213693952 ≤ b ∧ b ≤ 2305843009213693952) ∧ (-2305843009213693952 ≤ d ∧ d ≤ 2305843009213693952) := by
  simp only [mayM, Bool.and_eq_true, mayE_iff]
theorem i64_wrap_self {z : Int} (h : I64 z) : IntKind.i64.wrap z = z := i64_wrap h.1 h.2
/-- The adjugate; the zero matrix if it is not valid. -/
def adjV (a b d : Int) : Value := match mayM a b d with | true => sym d (-b) a | false => sym 0 0 0
theorem flat_adjV (a b d : Int) : flat (adjV a b d) = true := by unfold adjV; cases mayM a b d <;> exact flat_sym _ _ _
def sumT (a b d : Int) : Value := .tuple #[sym a b d, .int .i64 0]
theorem flat_sumT (a b d : Int) : flat (sumT a b d) = true := by kernel_rfl
def sumV (a b d a' b' d' : Int) : Value := match mayM a b d, mayM a' b' d' with
  | true, true => match mayM (a + a') (b + b') (d + d') with
    | true => .tuple #[sym (a + a') (b + b') (d + d'), .int .i64 0]
    | false => .tuple #[sym 0 0 0, .int .i64 2]
  | _, _ => .tuple #[sym 0 0 0, .int .i64 1]
theorem addM_pc (a b d a' b' d' : Int) : PC Try.prog 22 [sym a b d, sym a' b' d'] (sumV a b d a' b' d') := by
  have hfl : [sym a b d, sym a' b' d'].all flat = true := by simp [flat_sym]
  unfold sumV
  cases h1 : mayM a b d with
  | false => exact PC.run mixed Try.func22 [.res (.bool false)] (hfl) ts0 (qs1 (may_qc a b d _ h1)) (rfl) rfl (by kernel_rfl)
  | true =>
    cases h2 : mayM a' b' d' with
    | false => exact PC.run mixed Try.func22 [.res (.bool true), .res (.bool false)] (hfl) ts0 (qs2 (may_qc a b d _ h1) (may_qc a' b' d' _ h2)) (rfl) rfl (by kernel_rfl)
    | true =>
      have g1 := mayM_iff.1 h1
      have g2 := mayM_iff.1 h2
      have ea : IntKind.i64.wrap (a + a') = a + a' := i64_wrap (by omega) (by omega)
      have eb : IntKind.i64.wrap (b + b') = b + b' := i64_wrap (by omega) (by omega)
      have ed : IntKind.i64.wrap (d + d') = d + d' := i64_wrap (by omega) (by omega)
      cases h3 : mayM (a + a') (b + b') (d + d') with
      | false =>
        have h4 : mayM (IntKind.i64.wrap (a + a')) (IntKind.i64.wrap (b + b')) (IntKind.i64.wrap (d + d')) = false := by rw [ea, eb, ed]; exact h3
        exact PC.run mixed Try.func22 [.res (.bool true), .res (.bool true), .res (.bool false)] (hfl) ts0 (qs3 (may_qc a b d _ h1) (may_qc a' b' d' _ h2) (may_qc _ _ _ _ h4)) (rfl) rfl (by kernel_rfl)
      | true =>
        have h4 : mayM (IntKind.i64.wrap (a + a')) (IntKind.i64.wrap (b + b')) (IntKind.i64.wrap (d + d')) = true := by rw [ea, eb, ed]; exact h3
        have h := PC.run (args := [sym a b d, sym a' b' d']) (v := sumT (IntKind.i64.wrap (a + a')) (IntKind.i64.wrap (b + b')) (IntKind.i64.wrap (d + d'))) mixed Try.func22 [.res (.bool true), .res (.bool true), .res (.bool true)] (hfl) ts0 (qs3 (may_qc a b d _ h1) (may_qc a' b' d' _ h2) (may_qc _ _ _ _ h4)) (flat_sumT _ _ _) rfl (by kernel_rfl)
        rw [ea, eb, ed] at h
        exact h
theorem enters_addM : ∀ us w, (callFunc 22 us).run Try.prog w = .ok (.enter 22 us) w := enters Try.func22 rfl (by kernel_rfl)
theorem detM_pc {a b d : Int} (ha : I64 a) (hb : I64 b) (hd : I64 d) : PC Try.prog 35 [sym a b d] (wz (detI a b d)) :=
  PC.run mixed Try.func35 [.res (eV a b d), .res (wz (detI a b d))] (by simp [flat_sym]) ts0 (qs2 (QC.of_pc enters_widen (widen_pc ha hb hd)) (QC.of_pc enters_det (det_pc ha.sm hb.sm hd.sm))) (flat_wz _) rfl (by kernel_rfl)
theorem enters_detM : ∀ us w, (callFunc 35 us).run Try.prog w = .ok (.enter 35 us) w := enters Try.func35 rfl (by kernel_rfl)
/-- The square form of a b d at x y. -/
def quadI (a b d x y : Int) : Int := dotI a b d (x * x) (x * y) (y * y)
theorem I64.sq {x y : Int} (hx : I64 x) (hy : I64 y) : Sm 128 (x * y) := hx.sm.mul hy.sm
theorem quadI_sm {a b d x y : Int} (ha : I64 a) (hb : I64 b) (hd : I64 d) (hx : I64 x) (hy : I64 y) : Sm 194 (quadI a b d x y) := dotI_sm ha.sm hb.sm hd.sm (hx.sq hx) (hx.sq hy) (hy.sq hy)
def holdsI (a b d x y : Int) : Bool := psdI (a - x * x) (b - x * y) (d - y * y)
theorem holdsM_pc {a b d x y : Int} (ha : I64 a) (hb : I64 b) (hd : I64 d) (hx : I64 x) (hy : I64 y) : PC Try.prog 31 [sym a b d, pt x y] (.bool (holdsI a b d x y)) := by
  have sa := ha.sm.mono (k := 128) (by omega)
  have sb := hb.sm.mono (k := 128) (by omega)
  have sd := hd.sm.mono (k := 128) (by omega)
  exact PC.run mixed Try.func31 [.res (eV a b d), .res (eV (x * x) (x * y) (y * y)), .res (eV (a - x * x) (b - x * y) (d - y * y)), .res (.bool (holdsI a b d x y))] (by simp [flat_sym, flat_pt]) ts0 (qs4 (QC.of_pc enters_widen (widen_pc ha hb hd)) (QC.of_pc enters_square (square_pc hx hy)) (QC.of_pc enters_minusE (minusE_pc sa sb sd (hx.sq hx) (hx.sq hy) (hy.sq hy))) (QC.of_pc enters_psd (psd_pc (sa.sub (hx.sq hx)) (sb.sub (hx.sq hy)) (sd.sub (hy.sq hy))))) (rfl) rfl (by kernel_rfl)
theorem enters_holdsM : ∀ us w, (callFunc 31 us).run Try.prog w = .ok (.enter 31 us) w := enters Try.func31 rfl (by kernel_rfl)
theorem holdsM_qc {a b d x y : Int} (ha : I64 a) (hb : I64 b) (hd : I64 d) (hx : I64 x) (hy : I64 y) (r : Bool) (h : holdsI a b d x y = r) : QC Try.prog 31 [sym a b d, pt x y] (.bool r) := h ▸ QC.of_pc enters_holdsM (holdsM_pc ha hb hd hx hy)
def leastI (a b d a' b' d' : Int) : Bool := mayM a b d && (mayM a' b' d' && psdI (a - a') (b - b') (d - d'))
theorem leastM_pc {a b d a' b' d' : Int} (ha : I64 a) (hb : I64 b) (hd : I64 d) (ha' : I64 a') (hb' : I64 b') (hd' : I64 d') : PC Try.prog 20 [sym a b d, sym a' b' d'] (.bool (leastI a b d a' b' d')) := by
  have hfl : [sym a b d, sym a' b' d'].all flat = true := by simp [flat_sym]
  unfold leastI
  cases h1 : mayM a b d with
  | false => exact PC.run mixed Try.func20 [.res (.bool false)] (hfl) ts0 (qs1 (may_qc a b d _ h1)) (rfl) rfl (by kernel_rfl)
  | true =>
    cases h2 : mayM a' b' d' with
    | false => exact PC.run mixed Try.func20 [.res (.bool true), .res (.bool false)] (hfl) ts0 (qs2 (may_qc a b d _ h1) (may_qc a' b' d' _ h2)) (rfl) rfl (by kernel_rfl)
    | true => exact PC.run mixed Try.func20 [.res (.bool true), .res (.bool true), .res (eV a b d), 
        .res (eV a' b' d'), 
        .res (eV (a - a') (b - b') (d - d')), .res (.bool (psdI (a - a') (b - b') (d - d')))] (hfl) ts0 (qs6 (may_qc a b d _ h1) (may_qc a' b' d' _ h2) (QC.of_pc enters_widen (widen_pc ha hb hd)) (QC.of_pc enters_widen (widen_pc ha' hb' hd')) (QC.of_pc enters_minusE (minusE_pc ha.sm hb.sm hd.sm ha'.sm hb'.sm hd'.sm)) (QC.of_pc enters_psd (psd_pc (ha.sm.sub ha'.sm) (hb.sm.sub hb'.sm) (hd.sm.sub hd'.sm)))) (rfl) rfl (by kernel_rfl)
theorem enters_leastM : ∀ us w, (callFunc 20 us).run Try.prog w = .ok (.enter 20 us) w := enters Try.func20 rfl (by kernel_rfl)
theorem leastM_qc {a b d a' b' d' : Int} (ha : I64 a) (hb : I64 b) (hd : I64 d) (ha' : I64 a') (hb' : I64 b') (hd' : I64 d') (r : Bool) (h : leastI a b d a' b' d' = r) : QC Try.prog 20 [sym a b d, sym a' b' d'] (.bool r) := h ▸ QC.of_pc enters_leastM (leastM_pc ha hb hd ha' hb' hd')
end Go.Proofs.Ytjmdppnhpfdhdaa.W
