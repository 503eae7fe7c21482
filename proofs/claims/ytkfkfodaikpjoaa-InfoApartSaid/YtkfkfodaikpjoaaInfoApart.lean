/-
  InfoApart: two that are far from each other are told as empty by some weight.
-/
import Derived.Test.YtkfkfodaikpjoaaInfoM
namespace Go.Proofs.Ytkfkfodaikpjoaa.W
open Go Go.Ev Go.Wide

section
variable {a b d A B D X : Int}
theorem apart_k (δ Δ : Int) (h1 : δ = a * d - b * b) (h2 : Δ = A * D - B * B) : (d * Δ + D * δ) * (a * Δ + A * δ) - (b * Δ + B * δ) * (b * Δ + B * δ) = δ * Δ * ((a + A) * (d + D) - (b + B) * (b + B)) := by
  have e : (d * Δ + D * δ) * (a * Δ + A * δ) - (b * Δ + B * δ) * (b * Δ + B * δ) = Δ * Δ * (a * d - b * b) + δ * δ * (A * D - B * B) + δ * Δ * (d * A + D * a - 2 * (b * B)) := by grind
  rw [e, ← h1, ← h2]
  have e2 : (a + A) * (d + D) - (b + B) * (b + B) = (a * d - b * b) + (A * D - B * B) + (d * A + D * a - 2 * (b * B)) := by grind
  rw [e2, ← h1, ← h2]
  grind
theorem apart_t (δ Δ : Int) (h1 : δ = a * d - b * b) (h2 : Δ = A * D - B * B) : (a * Δ + A * δ) * (D * D) - 2 * ((b * Δ + B * δ) * (D * B)) + (d * Δ + D * δ) * (B * B) = Δ * (D * ((a + A) * (d + D) - (b + B) * (b + B)) - Δ * (d + D)) := by
  have e1 : (a * Δ + A * δ) * (D * D) - 2 * ((b * Δ + B * δ) * (D * B)) + (d * Δ + D * δ) * (B * B) = Δ * (a * (D * D) - 2 * (b * (D * B)) + d * (B * B)) + δ * D * (A * D - B * B) := by grind
  have e2 : D * ((a + A) * (d + D) - (b + B) * (b + B)) - (A * D - B * B) * (d + D) = a * (D * D) - 2 * (b * (D * B)) + d * (B * B) + D * (a * d - b * b) := by grind
  rw [e1, ← h2]
  rw [← h1, ← h2] at e2
  rw [e2]
  grind
theorem apart_pos (ha : 0 < a) (hA : 0 < A) (h1 : 0 < a * d - b * b) (h2 : 0 < A * D - B * B) : 0 < (a + A) * (d + D) - (b + B) * (b + B) := by
  have e : a * A * (d * A + D * a - 2 * (b * B)) = a * a * (A * D - B * B) + A * A * (a * d - b * b) + (a * B - A * b) * (a * B - A * b) := by grind
  have n1 := Int.mul_nonneg (sq_nn a) (show 0 ≤ A * D - B * B by omega)
  have n2 := Int.mul_nonneg (sq_nn A) (show 0 ≤ a * d - b * b by omega)
  have n3 := sq_nn (a * B - A * b)
  have n4 : 0 ≤ d * A + D * a - 2 * (b * B) := nn_of_mul (Int.mul_pos ha hA) (by omega)
  have e2 : (a + A) * (d + D) - (b + B) * (b + B) = (a * d - b * b) + (A * D - B * B) + (d * A + D * a - 2 * (b * B)) := by grind
  omega
theorem fuse_apart (m1 : mayL 0 0 a b d = true) (m2 : mayL X 0 A B D = true) (hX : 2 * (a + A) < X * X) : fuseV 0 0 a b d X 0 A B D 17 = ellT 0 0 0 0 0 3 := by
  have g1 := mayL_iff.1 m1
  have g2 := mayL_iff.1 m2
  have p1 : 0 < a * d - b * b := g1.2.2.2.2
  have p2 : 0 < A * D - B * B := g2.2.2.2.2
  unfold fuseV
  rw [m1, m2]
  show ellI _ _ _ _ _ _ _ = _
  have hS := apart_pos (d := d) (D := D) (b := b) (B := B) (show 0 < a by omega) (show 0 < A by omega) p1 p2
  have hk0 := apart_k (a := a) (b := b) (d := d) (A := A) (B := B) (D := D) (a * d - b * b) (A * D - B * B) rfl rfl
  have ht0 := apart_t (a := a) (b := b) (d := d) (A := A) (B := B) (D := D) (a * d - b * b) (A * D - B * B) rfl rfl
  have f1 : mixI 17 (34 - 17) (detI a b d) (detI A B D) d D = 17 * (d * (A * D - B * B) + D * (a * d - b * b)) := by unfold mixI detI; grind
  have f2 : mixI 17 (34 - 17) (detI a b d) (detI A B D) (-b) (-B) = -(17 * (b * (A * D - B * B) + B * (a * d - b * b))) := by unfold mixI detI; grind
  have f3 : mixI 17 (34 - 17) (detI a b d) (detI A B D) a A = 17 * (a * (A * D - B * B) + A * (a * d - b * b)) := by unfold mixI detI; grind
  have f4 : mixI 17 (34 - 17) (detI a b d) (detI A B D) (d * 0 + -b * 0) (D * X + -B * 0) = 17 * (a * d - b * b) * (D * X) := by unfold mixI detI; grind
  have f5 : mixI 17 (34 - 17) (detI a b d) (detI A B D) (-b * 0 + a * 0) (-B * X + A * 0) = -(17 * (a * d - b * b) * (B * X)) := by unfold mixI detI; grind
  have f6 : mixI 17 (34 - 17) (detI a b d) (detI A B D) (quadI d (-b) a 0 0) (quadI D (-B) A X 0) = 17 * (a * d - b * b) * (D * (X * X)) := by unfold mixI; simp only [detI, quadI_eq]; grind
  show ellI (mixI 17 (34 - 17) (detI a b d) (detI A B D) d D) (mixI 17 (34 - 17) (detI a b d) (detI A B D) (-b) (-B)) (mixI 17 (34 - 17) (detI a b d) (detI A B D) a A) (mixI 17 (34 - 17) (detI a b d) (detI A B D) (d * 0 + -b * 0) (D * X + -B * 0)) (mixI 17 (34 - 17) (detI a b d) (detI A B D) (-b * 0 + a * 0) (-B * X + A * 0)) (mixI 17 (34 - 17) (detI a b d) (detI A B D) (quadI d (-b) a 0 0) (quadI D (-B) A X 0)) (34 * detI a b d * detI A B D) = _
  rw [f1, f2, f3, f4, f5, f6]
  have f7 : 34 * detI a b d * detI A B D = 34 * (a * d - b * b) * (A * D - B * B) := rfl
  rw [f7]
  have hdD : 0 < d + D := by omega
  have hle : (a + A) * (d + D) - (b + B) * (b + B) ≤ (a + A) * (d + D) := by
    have := sq_nn (b + B)
    omega
  generalize a * d - b * b = δ at *
  generalize A * D - B * B = Δ at *
  generalize (a + A) * (d + D) - (b + B) * (b + B) = S at *
  have q1 : 0 < d * Δ + D * δ := Int.add_pos (Int.mul_pos (by omega) p2) (Int.mul_pos (by omega) p1)
  have hXS : 2 * S < X * X * (d + D) := by
    have := Int.mul_lt_mul_of_pos_right hX hdD
    have e : 2 * (a + A) * (d + D) = 2 * ((a + A) * (d + D)) := by grind
    omega
  generalize d * Δ + D * δ = p at *
  generalize b * Δ + B * δ = q at *
  generalize a * Δ + A * δ = r at *
  have hk : detI (17 * p) (-(17 * q)) (17 * r) = 289 * (δ * Δ * S) := by
    rw [← hk0]
    simp only [detI]
    grind
  have hkp : 0 < 289 * (δ * Δ * S) := Int.mul_pos (by omega) (Int.mul_pos (Int.mul_pos p1 p2) hS)
  unfold ellI
  rw [if_neg (by omega), hk, if_neg (by omega)]
  have hR : sizI (17 * p) (-(17 * q)) (17 * r) (17 * δ * (D * X)) (-(17 * δ * (B * X))) (17 * δ * (D * (X * X))) (34 * δ * Δ) (289 * (δ * Δ * S)) = -(4913 * (δ * δ * (Δ * Δ)) * (X * X * (d + D) - 2 * S)) := by
    have e : sizI (17 * p) (-(17 * q)) (17 * r) (17 * δ * (D * X)) (-(17 * δ * (B * X))) (17 * δ * (D * (X * X))) (34 * δ * Δ) (289 * (δ * Δ * S)) = (34 * δ * Δ - 17 * δ * (D * (X * X))) * (289 * (δ * Δ * S)) + 4913 * (δ * δ * (X * X)) * (r * (D * D) - 2 * (q * (D * B)) + p * (B * B)) := by
      simp only [sizI]
      grind
    rw [e, ht0]
    grind
  have hneg : 0 < 4913 * (δ * δ * (Δ * Δ)) * (X * X * (d + D) - 2 * S) := Int.mul_pos (Int.mul_pos (by omega) (Int.mul_pos (Int.mul_pos p1 p1) (Int.mul_pos p2 p2))) (by omega)
  rw [hR, if_pos (by omega)]
end
def apX (r s far : Int) : Int := IntKind.i64.wrap (IntKind.i64.wrap (4 * IntKind.i64.wrap (r + s)) + IntKind.i64.wrap ((IntKind.u64.wrap far).tmod 1000))
theorem apX_facts {x y a b d A B D far : Int} (m1 : mayL 0 0 a b d = true) (m2 : mayL x y A B D = true) (h1 : a ≤ 1073741824) (h2 : d ≤ 1073741824) (h3 : A ≤ 1073741824) (h4 : D ≤ 1073741824) :
    mayL (apX (radI 0 0 a b d) (radI x y A B D) far) 0 A B D = true ∧ 2 * (a + A) < apX (radI 0 0 a b d) (radI x y A B D) far * apX (radI 0 0 a b d) (radI x y A B D) far := by
  obtain ⟨r0, _, ra, _, rd, rr⟩ := rad_facts m1
  obtain ⟨s0, _, sa, _, sd, ss⟩ := rad_facts m2
  have g1 := mayL_iff.1 m1
  have g2 := mayL_iff.1 m2
  have u1 := (upI_bounds (m := a + d) (K := 65536) (by omega) (by omega) (by omega)).2.1
  have u2 := (upI_bounds (m := A + D) (K := 65536) (by omega) (by omega) (by omega)).2.1
  have hm := u64_mod far (m := 1000) (by omega) (by omega)
  rw [rr, ss]
  generalize upI (a + d) = r at *
  generalize upI (A + D) = s at *
  unfold apX
  generalize IntKind.i64.wrap ((IntKind.u64.wrap far).tmod 1000) = m at *
  rw [wrapS (z := r + s) (by omega), wrapS (z := 4 * (r + s)) (by omega), wrapS (by omega)]
  refine ⟨mayL_move m2 (within_iff.2 (by omega)), ?_⟩
  have e1 : 4 * (r + s) * (4 * (r + s)) ≤ (4 * (r + s) + m) * (4 * (r + s) + m) := Int.mul_le_mul (by omega) (by omega) (by omega) (by omega)
  have e2 : 4 * (r + s) * (4 * (r + s)) = 16 * (r * r) + 16 * (s * s) + 32 * (r * s) := by grind
  have e3 := Int.mul_nonneg (show 0 ≤ r by omega) (show 0 ≤ s by omega)
  have e4 := Int.mul_pos r0 r0
  omega
/-! The loop over the weights. -/
def apS (a b d X A B D : Int) (F : Bool) (k : Nat) : St := ⟨slots 79 [(3, ptr 0), (4, ptr 1), (7, .bool F), (8, .int .i64 ((k + 1 : Nat) : Int))], [eBlk (ellC 0 0 a b d), eBlk (ellC X 0 A B D)]⟩
def apL : List Nat := [3, 4, 7, 8]
theorem ap_true {a b d X A B D P Q R S T : Int} {e k : Nat} (h1 : ((k + 1 : Nat) : Int) < 34) (h2 : IntKind.i64.wrap (((k + 1 : Nat) : Int) + 1) = ((k + 1 + 1 : Nat) : Int)) (q : QC Try.prog 10 [ell 0 0 a b d, ell X 0 A B D, .int .i64 ((k + 1 : Nat) : Int)] (ellT P Q R S T e)) :
    Tri Try.prog (loopN Try.f7 0) (apS a b d X A B D true k) (to .normal (apS a b d X A B D true (k + 1))) :=
  Tri.runK mixed apL 2 [.tst true, .res (ellT P Q R S T e), .at 12 (.int .i64 ((k + 1 + 1 : Nat) : Int))] (ts2 (tT h1) (tT h2)) (qs1 q) (by kernel_rfl)
theorem ap_false {a b d X A B D P Q R S T : Int} {e k : Nat} (h1 : ((k + 1 : Nat) : Int) < 34) (h2 : IntKind.i64.wrap (((k + 1 : Nat) : Int) + 1) = ((k + 1 + 1 : Nat) : Int)) (q : QC Try.prog 10 [ell 0 0 a b d, ell X 0 A B D, .int .i64 ((k + 1 : Nat) : Int)] (ellT P Q R S T e)) :
    Tri Try.prog (loopN Try.f7 0) (apS a b d X A B D false k) (to .normal (apS a b d X A B D (decide (((e : Nat) : Int) = 3)) (k + 1))) :=
  Tri.runK mixed apL 2 [.tst true, .res (ellT P Q R S T e), .at 14 (.int .i64 ((k + 1 + 1 : Nat) : Int))] (ts2 (tT h1) (tT h2)) (qs1 q) (by kernel_rfl)
theorem ap_end {a b d X A B D : Int} {F : Bool} {k : Nat} (h1 : ¬ ((k + 1 : Nat) : Int) < 34) : Tri Try.prog (loopN Try.f7 0) (apS a b d X A B D F k) (to (.exit 0) (apS a b d X A B D F k)) :=
  Tri.runK mixed apL 2 [.tst false] (ts1 (tF h1)) qs0 (by kernel_rfl)
def errOf : Value → Int
  | .tuple vs => match vs.toList with | [_, .int _ e] => e | _ => 0
  | _ => 0
def apF (a b d X A B D : Int) : Nat → Bool
  | 0 => false
  | k + 1 => apF a b d X A B D k || decide (errOf (fuseV 0 0 a b d X 0 A B D ((k + 1 : Nat) : Int)) = 3)
theorem apF_all {a b d X A B D : Int} (h : fuseV 0 0 a b d X 0 A B D 17 = ellT 0 0 0 0 0 3) : apF a b d X A B D 33 = true := by
  have h17 : apF a b d X A B D (16 + 1) = true := by
    show (_ || decide (errOf (fuseV 0 0 a b d X 0 A B D ((16 + 1 : Nat) : Int)) = 3)) = true
    rw [show ((16 + 1 : Nat) : Int) = 17 from rfl, h]
    exact Bool.or_true _
  have up : ∀ m, apF a b d X A B D (17 + m) = true := fun m => by
    induction m with
    | zero => exact h17
    | succ m ih =>
      show (apF a b d X A B D (17 + m) || _) = true
      rw [ih]
      rfl
  exact up 16
theorem ap_loop {a b d X A B D : Int} (ha : I64 a) (hb : I64 b) (hd : I64 d) (hA : I64 A) (hB : I64 B) (hD : I64 D) (h : fuseV 0 0 a b d X 0 A B D 17 = ellT 0 0 0 0 0 3) :
    TriL Try.prog (loopN Try.f7 0) (apS a b d X A B D false 0) (to (.exit 0) (apS a b d X A B D true 33)) := by
  have key := TriL.count (P := Try.prog) (c := loopN Try.f7 0) (e := .exit 0) (fun k => apS a b d X A B D (apF a b d X A B D k) k) (by simp) 33 (fun k hk => ?_) (S' := apS a b d X A B D (apF a b d X A B D 33) 33) (ap_end (by omega))
  · rw [apF_all h] at key
    exact key
  · obtain ⟨P, Q, R, S, T, e, he⟩ := fuseV_form 0 0 a b d X 0 A B D ((k + 1 : Nat) : Int)
    have q := fuse_qc (w := ((k + 1 : Nat) : Int)) 0 0 X 0 (by omega) (by omega) ha hb hd hA hB hD _ he
    have w1 : IntKind.i64.wrap (((k + 1 : Nat) : Int) + 1) = ((k + 1 + 1 : Nat) : Int) := by rw [wrapS (by omega)]; omega
    have e1 : apF a b d X A B D (k + 1) = (apF a b d X A B D k || decide (((e : Nat) : Int) = 3)) := by
      show (_ || decide (errOf (fuseV 0 0 a b d X 0 A B D ((k + 1 : Nat) : Int)) = 3)) = _
      rw [he]
      rfl
    rw [e1]
    cases hF : apF a b d X A B D k with
    | true => exact ap_true (by omega) w1 q
    | false =>
      rw [Bool.false_or]
      exact ap_false (by omega) w1 q
theorem infoApart_pc {p q a b d x y A B D far : Int} (ha : I64 a) (hb : I64 b) (hd : I64 d) (hA : I64 A) (hB : I64 B) (hD : I64 D) : PC Try.prog 7 [ell p q a b d, ell x y A B D, Value.int .i64 far] (.bool true) := by
  have hfl : [ell p q a b d, ell x y A B D, Value.int .i64 far].all flat = true := by simp [flat_ell, flat_pt, flat_strV]; rfl --]
  cases h1 : mayL p q a b d with
  | true =>
    cases h2 : mayL x y A B D with
    | true =>
      by_cases b1 : a > 1073741824
      ·
        exact PC.run mixed Try.func7 [.res (.bool true), .res (.bool true), .auto, .tst true, .res (.bool true)] hfl (ts1 (tT b1)) (qs3 (mayL_qc p q ha hb hd _ h1) (mayL_qc x y hA hB hD _ h2) (awakeI)) (rfl) (rfl) (by kernel_rfl)
      ·
        by_cases b2 : d > 1073741824
        ·
          exact PC.run mixed Try.func7 [.res (.bool true), .res (.bool true), .auto, .tst false, .tst true, .res (.bool true)] hfl (ts2 (tF b1) (tT b2)) (qs3 (mayL_qc p q ha hb hd _ h1) (mayL_qc x y hA hB hD _ h2) (awakeI)) (rfl) (rfl) (by kernel_rfl)
        ·
          by_cases b3 : A > 1073741824
          ·
            exact PC.run mixed Try.func7 [.res (.bool true), .res (.bool true), .auto, .tst false, .tst false, .tst true, .res (.bool true)] hfl (ts3 (tF b1) (tF b2) (tT b3)) (qs3 (mayL_qc p q ha hb hd _ h1) (mayL_qc x y hA hB hD _ h2) (awakeI)) (rfl) (rfl) (by kernel_rfl)
          ·
            by_cases b4 : D > 1073741824
            ·
              exact PC.run mixed Try.func7 [.res (.bool true), .res (.bool true), .auto, .tst false, .tst false, .tst false, .tst true, .res (.bool true)] hfl (ts4 (tF b1) (tF b2) (tF b3) (tT b4)) (qs3 (mayL_qc p q ha hb hd _ h1) (mayL_qc x y hA hB hD _ h2) (awakeI)) (rfl) (rfl) (by kernel_rfl)
            ·
              have m1 : mayL 0 0 a b d = true := mayL_move h1 (by decide)
              obtain ⟨f1, f2⟩ := apX_facts (far := far) m1 h2 (by omega) (by omega) (by omega) (by omega)
              exact PC.run mixed Try.func7 [.res (.bool true), .res (.bool true), .auto, .tst false, .tst false, .tst false, .tst false, .res (.int .i64 (radI 0 0 a b d)), .res (.int .i64 (radI x y A B D)), .cut apL (.exit 0) (apS a b d (apX (radI 0 0 a b d) (radI x y A B D) far) A B D true 33), .res (.bool true)] hfl (ts4 (tF b1) (tF b2) (tF b3) (tF b4)) (qs6 (mayL_qc p q ha hb hd _ h1) (mayL_qc x y hA hB hD _ h2) (radius_qc 0 0 ha hb hd) (radius_qc x y hA hB hD) (ap_loop ha hb hd hA hB hD (fuse_apart m1 f1 f2)) (awakeI)) (rfl) (rfl) (by kernel_rfl)
    | false =>
      exact PC.run mixed Try.func7 [.res (.bool true), .res (.bool false), .res (.bool true)] hfl (ts0 ) (qs3 (mayL_qc p q ha hb hd _ h1) (mayL_qc x y hA hB hD _ h2) (awakeI)) (rfl) (rfl) (by kernel_rfl)
  | false =>
    exact PC.run mixed Try.func7 [.res (.bool false), .res (.bool true)] hfl (ts0 ) (qs2 (mayL_qc p q ha hb hd _ h1) (awakeI)) (rfl) (rfl) (by kernel_rfl)
theorem enters_infoApart : ∀ us w, (callFunc 7 us).run Try.prog w = .ok (.enter 7 us) w := enters Try.func7 rfl (by kernel_rfl)
end Go.Proofs.Ytkfkfodaikpjoaa.W
