/-
  InfoShifts: both shifted, what is fused is shifted, too.
-/
import Derived.Test.YtkfkfodaikpjoaaInfoMeets
namespace Go.Proofs.Ytkfkfodaikpjoaa.W
open Go Go.Ev Go.Wide

def shQ (i : Inq) (s t : Int) : Inq := ⟨i.a, i.b, i.d, i.u + (i.a * s + i.b * t), i.v + (i.b * s + i.d * t), i.z + (2 * (i.u * s + i.v * t) + (i.a * (s * s) + 2 * (i.b * (s * t)) + i.d * (t * t))), i.n⟩
theorem ofQ_shift (x y a b d s t : Int) : ofQ (x + s) (y + t) a b d = shQ (ofQ x y a b d) s t := by
  unfold ofQ shQ
  simp only [Inq.mk.injEq, true_and, and_true, quadI_eq]
  refine ⟨by grind, by grind, by grind⟩
theorem mixQ_shift (i j : Inq) (w s t : Int) : mixQ (shQ i s t) (shQ j s t) w = shQ (mixQ i j w) s t := by
  unfold mixQ shQ mixI
  simp only [Inq.mk.injEq, true_and, and_true]
  refine ⟨by grind, by grind, by grind⟩
theorem siz_shift (a b d u v z n s t : Int) : sizI a b d (u + (a * s + b * t)) (v + (b * s + d * t)) (z + (2 * (u * s + v * t) + (a * (s * s) + 2 * (b * (s * t)) + d * (t * t)))) n (detI a b d) = sizI a b d u v z n (detI a b d) := by
  simp only [sizI, detI]
  grind
theorem near_add {x k s : Int} (hk : 0 < k) : nearI (x + k * s) k = nearI x k + s := by
  have h1 := near_bounds (x := x) hk
  unfold nearI
  rw [Int.fdiv_eq_ediv_of_nonneg _ (by omega), Int.fdiv_eq_ediv_of_nonneg _ (by omega), show 2 * (x + k * s) + k = 2 * x + k + 2 * k * s by grind, Int.add_mul_ediv_left _ _ (by omega)]
theorem ellW_form (X Y A B D : Int) : ellW X Y A B D = ellT 0 0 0 0 0 2 ∨ (∃ P Q R, I64 P ∧ I64 Q ∧ I64 R ∧ (∀ X' Y', ellW X' Y' A B D = ellT 0 0 0 0 0 2 ∨ ellW X' Y' A B D = ellT X' Y' P Q R 0) ∧ ellW X Y A B D = ellT X Y P Q R 0) := by
  have key : ∀ X' Y', ellW X' Y' A B D = ellT 0 0 0 0 0 2 ∨ (ellW X' Y' A B D = ellT X' Y' (gA (A + 1) (D + 1) (1 * 1) (1 * 1)) (gB (A + 1) B (D + 1) (1 * 1) 0 (1 * 1)) (gD (A + 1) (D + 1) (1 * 1) (1 * 1)) 0 ∧ mayG X' Y' (A + 1) B (D + 1) 0 0 (1 * 1) 0 (1 * 1) = true) := fun X' Y' => by
    unfold ellW
    cases hm : mayL X' Y' (A + 1) B (D + 1) with
    | false => exact .inl rfl
    | true =>
      simp only
      cases h3 : mayG X' Y' (A + 1) B (D + 1) 0 0 (1 * 1) 0 (1 * 1) with
      | false => exact .inl (gball_over hm (by decide) (by decide) h3)
      | true =>
        have := gball_ok hm (by decide) (by decide) h3
        unfold sumT5 at this
        rw [Int.add_zero, Int.add_zero] at this
        exact .inr ⟨this, rfl⟩
  rcases key X Y with h | ⟨h, h3⟩
  · exact .inl h
  · obtain ⟨i1, i2, i3⟩ := mayG_i64 h3
    exact .inr ⟨_, _, _, i1, i2, i3, fun X' Y' => (key X' Y').imp id (·.1), h⟩
theorem ellQ_shift {i : Inq} {s t P Q R S T P' Q' R' S' T' : Int} {e e' : Nat} (h : ellQ i = ellT P Q R S T e) (h' : ellQ (shQ i s t) = ellT P' Q' R' S' T' e') : ((e = e') ∨ e = 2 ∨ e' = 2) ∧ (e = 0 → e' = 0 → P' = P + s ∧ Q' = Q + t ∧ R' = R ∧ S' = S ∧ T' = T) := by
  unfold ellQ at h h'
  unfold shQ at h'
  simp only at h'
  unfold ellI at h h'
  rw [siz_shift] at h'
  by_cases c1 : i.a ≤ 0
  · rw [if_pos c1] at h h'
    have e1 := (ellT_eq h).2.2.2.2.2
    have e2 := (ellT_eq h').2.2.2.2.2
    exact ⟨.inl (by omega), fun h => by omega⟩
  rw [if_neg c1] at h h'
  by_cases c2 : detI i.a i.b i.d ≤ 0
  · rw [if_pos c2] at h h'
    have e1 := (ellT_eq h).2.2.2.2.2
    have e2 := (ellT_eq h').2.2.2.2.2
    exact ⟨.inl (by omega), fun h => by omega⟩
  rw [if_neg c2] at h h'
  by_cases c3 : sizI i.a i.b i.d i.u i.v i.z i.n (detI i.a i.b i.d) < 0
  · rw [if_pos c3] at h h'
    have e1 := (ellT_eq h).2.2.2.2.2
    have e2 := (ellT_eq h').2.2.2.2.2
    exact ⟨.inl (by omega), fun h => by omega⟩
  rw [if_neg c3] at h h'
  have n1 : i.d * (i.u + (i.a * s + i.b * t)) - i.b * (i.v + (i.b * s + i.d * t)) = i.d * i.u - i.b * i.v + detI i.a i.b i.d * s := by simp only [detI]; grind
  have n2 : i.a * (i.v + (i.b * s + i.d * t)) - i.b * (i.u + (i.a * s + i.b * t)) = i.a * i.v - i.b * i.u + detI i.a i.b i.d * t := by simp only [detI]; grind
  rw [n1, n2, near_add (by omega), near_add (by omega)] at h'
  generalize nearI (i.d * i.u - i.b * i.v) (detI i.a i.b i.d) = X at *
  generalize nearI (i.a * i.v - i.b * i.u) (detI i.a i.b i.d) = Y at *
  generalize cdiv (sizI i.a i.b i.d i.u i.v i.z i.n (detI i.a i.b i.d) * i.d) (detI i.a i.b i.d * detI i.a i.b i.d) = A at *
  generalize (-(sizI i.a i.b i.d i.u i.v i.z i.n (detI i.a i.b i.d) * i.b)).fdiv (detI i.a i.b i.d * detI i.a i.b i.d) = B at *
  generalize cdiv (sizI i.a i.b i.d i.u i.v i.z i.n (detI i.a i.b i.d) * i.a) (detI i.a i.b i.d * detI i.a i.b i.d) = D at *
  rcases ellW_form X Y A B D with hw | ⟨p, q, r, _, _, _, hall, hw⟩
  · rw [hw] at h
    have e1 := (ellT_eq h).2.2.2.2.2
    exact ⟨.inr (.inl (by omega)), fun h => by omega⟩
  · rw [hw] at h
    rcases hall (X + s) (Y + t) with hw' | hw'
    · rw [hw'] at h'
      have e1 := (ellT_eq h').2.2.2.2.2
      exact ⟨.inr (.inr (by omega)), fun _ h => by omega⟩
    · rw [hw'] at h'
      have e1 := ellT_eq h
      have e2 := ellT_eq h'
      exact ⟨.inl (by omega), fun _ _ => by omega⟩
theorem fuse_shift {x y a b d X Y A B D w s t P Q R S T P' Q' R' S' T' : Int} {e e' : Nat} (m1 : mayL x y a b d = true) (m2 : mayL X Y A B D = true) (m3 : mayL (x + s) (y + t) a b d = true) (m4 : mayL (X + s) (Y + t) A B D = true)
    (h : fuseV x y a b d X Y A B D w = ellT P Q R S T e) (h' : fuseV (x + s) (y + t) a b d (X + s) (Y + t) A B D w = ellT P' Q' R' S' T' e') : ((e = e') ∨ e = 2 ∨ e' = 2) ∧ (e = 0 → e' = 0 → P' = P + s ∧ Q' = Q + t ∧ R' = R ∧ S' = S ∧ T' = T) := by
  unfold fuseV at h h'
  rw [m1, m2] at h
  rw [m3, m4, ofQ_shift, ofQ_shift, mixQ_shift] at h'
  exact ellQ_shift h h'
/-- What a shift gives: the shifted ellipse, or an error. -/
theorem shift_two (x y a b d p q : Int) : (shiftV x y a b d p q = ellT (x + p) (y + q) a b d 0 ∧ mayL x y a b d = true ∧ mayL (x + p) (y + q) a b d = true ∧ within p q 4194304 = true) ∨ ∃ e, shiftV x y a b d p q = ellT 0 0 0 0 0 e ∧ ¬ ((e : Nat) : Int) = 0 := by
  unfold shiftV
  cases h1 : mayL x y a b d with
  | false => exact .inr ⟨1, rfl, by decide⟩
  | true =>
    cases h2 : within p q 4194304 with
    | false => exact .inr ⟨1, rfl, by decide⟩
    | true =>
      simp only [Bool.and_self]
      cases h3 : mayP (x + p) (y + q) with
      | false => exact .inr ⟨2, rfl, by decide⟩
      | true => exact .inl (by simp [mayL_move h1 h3])
def shOk (x y a b d p q : Int) : Bool := mayL x y a b d && (within p q 4194304 && mayL (x + p) (y + q) a b d)
theorem shift_ok {x y a b d p q : Int} (h : shOk x y a b d p q = true) : shiftV x y a b d p q = ellT (x + p) (y + q) a b d 0 := by
  simp only [shOk, Bool.and_eq_true] at h
  rcases shift_two x y a b d p q with ⟨h1, _⟩ | ⟨e, h1, h2⟩
  · exact h1
  · exfalso
    obtain ⟨h3, h4, h5⟩ := h
    unfold shiftV at h1
    have hp : mayP (x + p) (y + q) = true := by
      simp only [mayL, Bool.and_eq_true] at h5
      exact h5.1
    rw [h3, h4, hp] at h1
    have := (ellT_eq h1).2.2.2.2.2
    omega
theorem shift_no {x y a b d p q : Int} (h : shOk x y a b d p q = false) : ∃ e, shiftV x y a b d p q = ellT 0 0 0 0 0 e ∧ ¬ ((e : Nat) : Int) = 0 := by
  rcases shift_two x y a b d p q with ⟨_, h1, h2, h3⟩ | h1
  · unfold shOk at h
    rw [h1, h2, h3] at h
    cases h
  · exact h1
theorem shift_form (x y a b d p q : Int) : ∃ X Y A B D e, shiftV x y a b d p q = ellT X Y A B D e := by
  rcases shift_two x y a b d p q with ⟨h, _⟩ | ⟨e, h, _⟩
  · exact ⟨_, _, _, _, _, _, h⟩
  · exact ⟨_, _, _, _, _, _, h⟩
theorem shOk_iff {x y a b d p q : Int} (h : shOk x y a b d p q = true) : mayL x y a b d = true ∧ within p q 4194304 = true ∧ mayL (x + p) (y + q) a b d = true := by simpa [shOk] using h
theorem sym_eq3 {a b d a' b' d' : Int} (h1 : a = a') (h2 : b = b') (h3 : d = d') : (decide (a = a') && (decide (b = b') && (decide (d = d') && true))) = true := by subst h1 h2 h3; simp
theorem pt_eq2 {a b c d : Int} (h1 : a = b) (h2 : c = d) : (decide (a = b) && (decide (c = d) && true)) = true := by subst h1 h2; simp
theorem ellQ_within {i : Inq} {P Q R S T : Int} {e : Nat} (h : ellQ i = ellT P Q R S T e) (h0 : e = 0) : mayL P Q R S T = true := by
  unfold ellQ ellI at h
  split at h
  · have := (ellT_eq h).2.2.2.2.2; omega
  split at h
  · have := (ellT_eq h).2.2.2.2.2; omega
  split at h
  · have := (ellT_eq h).2.2.2.2.2; omega
  unfold ellW at h
  split at h
  · rename_i hm
    cases h3 : mayG (nearI (i.d * i.u - i.b * i.v) (detI i.a i.b i.d)) (nearI (i.a * i.v - i.b * i.u) (detI i.a i.b i.d)) (cdiv (sizI i.a i.b i.d i.u i.v i.z i.n (detI i.a i.b i.d) * i.d) (detI i.a i.b i.d * detI i.a i.b i.d) + 1) ((-(sizI i.a i.b i.d i.u i.v i.z i.n (detI i.a i.b i.d) * i.b)).fdiv (detI i.a i.b i.d * detI i.a i.b i.d)) (cdiv (sizI i.a i.b i.d i.u i.v i.z i.n (detI i.a i.b i.d) * i.a) (detI i.a i.b i.d * detI i.a i.b i.d) + 1) 0 0 (1 * 1) 0 (1 * 1) with
    | false =>
      rw [gball_over hm (by decide) (by decide) h3] at h
      have := (ellT_eq h).2.2.2.2.2; omega
    | true =>
      rw [gball_ok hm (by decide) (by decide) h3] at h
      obtain ⟨e1, e2, e3, e4, e5, _⟩ := ellT_eq h
      subst e1 e2 e3 e4 e5
      exact h3
  · have := (ellT_eq h).2.2.2.2.2; omega
theorem fuse_may {x y a b d X Y A B D w P Q R S T : Int} {e : Nat} (h : fuseV x y a b d X Y A B D w = ellT P Q R S T e) (h0 : e = 0) : mayL P Q R S T = true := by
  unfold fuseV at h
  split at h
  · exact ellQ_within h h0
  · have := (ellT_eq h).2.2.2.2.2; omega
theorem moved {P Q R S T u v : Int} (h : mayL P Q R S T = true) (hw : within u v 4194304 = true) : IntKind.i64.wrap (P + u) = P + u ∧ IntKind.i64.wrap (Q + v) = Q + v := by
  have g := mayL_iff.1 h
  have g2 := within_iff.1 hw
  exact ⟨wrapS (by omega), wrapS (by omega)⟩
theorem infoShifts_pc {x y a b d X Y A B D w u v : Int} (ha : I64 a) (hb : I64 b) (hd : I64 d) (hA : I64 A) (hB : I64 B) (hD : I64 D) : PC Try.prog 6 [ell x y a b d, ell X Y A B D, Value.int .i64 w, pt u v] (.bool true) := by
  have hfl : [ell x y a b d, ell X Y A B D, Value.int .i64 w, pt u v].all flat = true := by simp [flat_ell, flat_pt, flat_strV]; rfl --]
  have hn : 0 ≤ n35 w ∧ n35 w < 35 := u64_mod w (by omega) (by omega)
  cases k1 : shOk x y a b d u v with
  | true =>
    cases k2 : shOk X Y A B D u v with
    | true =>
      obtain ⟨s1, s2, s3⟩ := shOk_iff k1
      obtain ⟨s4, _, s5⟩ := shOk_iff k2
      obtain ⟨P, Q, R, S, T, e, he⟩ := fuseV_form x y a b d X Y A B D (n35 w)
      obtain ⟨P', Q', R', S', T', e', he'⟩ := fuseV_form (x + u) (y + v) a b d (X + u) (Y + v) A B D (n35 w)
      obtain ⟨f1, f2⟩ := fuse_shift s1 s4 s3 s5 he he'
      by_cases z1 : ((e : Nat) : Int) = 0
      ·
        by_cases z2 : ((e' : Nat) : Int) = 0
        ·
          obtain ⟨g1, g2, g3, g4, g5⟩ := f2 (by omega) (by omega)
          obtain ⟨m1, m2⟩ := moved (fuse_may he (by omega)) s2
          exact PC.run mixed Try.func6 [.res (ellT (x + u) (y + v) a b d 0), .res (ellT (X + u) (Y + v) A B D 0), .res (ellT P Q R S T e), .res (ellT P' Q' R' S' T' e'), .tst false, .tst false, .tst true, .tst true, .res (.bool true)] hfl (ts4 (neN z1) (neN z2) (sym_eq3 g3.symm g4.symm g5.symm) (pt_eq2 (g1.trans m1.symm) (g2.trans m2.symm))) (qs5 (shiftL_qc x y u v ha hb hd _ (shift_ok k1)) (shiftL_qc X Y u v hA hB hD _ (shift_ok k2)) (fuse_qc x y X Y hn.1 (by omega) ha hb hd hA hB hD _ he) (fuse_qc (x + u) (y + v) (X + u) (Y + v) hn.1 (by omega) ha hb hd hA hB hD _ he') (awakeI)) (rfl) (rfl) (by kernel_rfl)
        ·
          by_cases w1 : ((e : Nat) : Int) = ((e' : Nat) : Int)
          ·
            exact PC.run mixed Try.func6 [.res (ellT (x + u) (y + v) a b d 0), .res (ellT (X + u) (Y + v) A B D 0), .res (ellT P Q R S T e), .res (ellT P' Q' R' S' T' e'), .tst false, .tst true, .tst true, .res (.bool true)] hfl (ts3 (neN z1) (tF z2) (tT w1)) (qs5 (shiftL_qc x y u v ha hb hd _ (shift_ok k1)) (shiftL_qc X Y u v hA hB hD _ (shift_ok k2)) (fuse_qc x y X Y hn.1 (by omega) ha hb hd hA hB hD _ he) (fuse_qc (x + u) (y + v) (X + u) (Y + v) hn.1 (by omega) ha hb hd hA hB hD _ he') (awakeI)) (rfl) (rfl) (by kernel_rfl)
          ·
            by_cases w2 : ((e : Nat) : Int) = 2
            ·
              exact PC.run mixed Try.func6 [.res (ellT (x + u) (y + v) a b d 0), .res (ellT (X + u) (Y + v) A B D 0), .res (ellT P Q R S T e), .res (ellT P' Q' R' S' T' e'), .tst false, .tst true, .tst false, .tst true, .res (.bool true)] hfl (ts4 (neN z1) (tF z2) (tF w1) (tT w2)) (qs5 (shiftL_qc x y u v ha hb hd _ (shift_ok k1)) (shiftL_qc X Y u v hA hB hD _ (shift_ok k2)) (fuse_qc x y X Y hn.1 (by omega) ha hb hd hA hB hD _ he) (fuse_qc (x + u) (y + v) (X + u) (Y + v) hn.1 (by omega) ha hb hd hA hB hD _ he') (awakeI)) (rfl) (rfl) (by kernel_rfl)
            ·
              exact PC.run mixed Try.func6 [.res (ellT (x + u) (y + v) a b d 0), .res (ellT (X + u) (Y + v) A B D 0), .res (ellT P Q R S T e), .res (ellT P' Q' R' S' T' e'), .tst false, .tst true, .tst false, .tst false, .tst true, .res (.bool true)] hfl (ts5 (neN z1) (tF z2) (tF w1) (tF w2) (tT (show ((e' : Nat) : Int) = 2 by omega))) (qs5 (shiftL_qc x y u v ha hb hd _ (shift_ok k1)) (shiftL_qc X Y u v hA hB hD _ (shift_ok k2)) (fuse_qc x y X Y hn.1 (by omega) ha hb hd hA hB hD _ he) (fuse_qc (x + u) (y + v) (X + u) (Y + v) hn.1 (by omega) ha hb hd hA hB hD _ he') (awakeI)) (rfl) (rfl) (by kernel_rfl)
      ·
        by_cases w1 : ((e : Nat) : Int) = ((e' : Nat) : Int)
        ·
          exact PC.run mixed Try.func6 [.res (ellT (x + u) (y + v) a b d 0), .res (ellT (X + u) (Y + v) A B D 0), .res (ellT P Q R S T e), .res (ellT P' Q' R' S' T' e'), .tst true, .auto, .tst true, .res (.bool true)] hfl (ts2 (tF z1) (tT w1)) (qs5 (shiftL_qc x y u v ha hb hd _ (shift_ok k1)) (shiftL_qc X Y u v hA hB hD _ (shift_ok k2)) (fuse_qc x y X Y hn.1 (by omega) ha hb hd hA hB hD _ he) (fuse_qc (x + u) (y + v) (X + u) (Y + v) hn.1 (by omega) ha hb hd hA hB hD _ he') (awakeI)) (rfl) (rfl) (by kernel_rfl)
        ·
          by_cases w2 : ((e : Nat) : Int) = 2
          ·
            exact PC.run mixed Try.func6 [.res (ellT (x + u) (y + v) a b d 0), .res (ellT (X + u) (Y + v) A B D 0), .res (ellT P Q R S T e), .res (ellT P' Q' R' S' T' e'), .tst true, .auto, .tst false, .tst true, .res (.bool true)] hfl (ts3 (tF z1) (tF w1) (tT w2)) (qs5 (shiftL_qc x y u v ha hb hd _ (shift_ok k1)) (shiftL_qc X Y u v hA hB hD _ (shift_ok k2)) (fuse_qc x y X Y hn.1 (by omega) ha hb hd hA hB hD _ he) (fuse_qc (x + u) (y + v) (X + u) (Y + v) hn.1 (by omega) ha hb hd hA hB hD _ he') (awakeI)) (rfl) (rfl) (by kernel_rfl)
          ·
            exact PC.run mixed Try.func6 [.res (ellT (x + u) (y + v) a b d 0), .res (ellT (X + u) (Y + v) A B D 0), .res (ellT P Q R S T e), .res (ellT P' Q' R' S' T' e'), .tst true, .auto, .tst false, .tst false, .tst true, .res (.bool true)] hfl (ts4 (tF z1) (tF w1) (tF w2) (tT (show ((e' : Nat) : Int) = 2 by omega))) (qs5 (shiftL_qc x y u v ha hb hd _ (shift_ok k1)) (shiftL_qc X Y u v hA hB hD _ (shift_ok k2)) (fuse_qc x y X Y hn.1 (by omega) ha hb hd hA hB hD _ he) (fuse_qc (x + u) (y + v) (X + u) (Y + v) hn.1 (by omega) ha hb hd hA hB hD _ he') (awakeI)) (rfl) (rfl) (by kernel_rfl)
    | false =>
      obtain ⟨e2, z2, n2⟩ := shift_no k2
      exact PC.run mixed Try.func6 [.res (ellT (x + u) (y + v) a b d 0), .res (ellT 0 0 0 0 0 e2), .auto, .tst true, .res (.bool true)] hfl (ts1 (tF n2)) (qs3 (shiftL_qc x y u v ha hb hd _ (shift_ok k1)) (shiftL_qc X Y u v hA hB hD _ z2) (awakeI)) (rfl) (rfl) (by kernel_rfl)
  | false =>
    obtain ⟨e1, z1, n1⟩ := shift_no k1
    obtain ⟨J, K, L, M, N, e2, z2⟩ := shift_form X Y A B D u v
    exact PC.run mixed Try.func6 [.res (ellT 0 0 0 0 0 e1), .res (ellT J K L M N e2), .tst true, .res (.bool true)] hfl (ts1 (tF n1)) (qs3 (shiftL_qc x y u v ha hb hd _ z1) (shiftL_qc X Y u v hA hB hD _ z2) (awakeI)) (rfl) (rfl) (by kernel_rfl)
theorem enters_infoShifts : ∀ us w, (callFunc 6 us).run Try.prog w = .ok (.enter 6 us) w := enters Try.func6 rfl (by kernel_rfl)
end Go.Proofs.Ytkfkfodaikpjoaa.W
