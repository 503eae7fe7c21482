/-
  Package golden: what is in both is in what is fused, or cut; traces.
-/
import Derived.Test.YtcpaajjeoeejaaaGreatGold5
import Derived.Test.YtcpaajjeoeejaaaGreatInfoMeets
namespace Go.Proofs.YtcpaajjeoeejaaaGreat.W
open Go Go.Ev Go.Wide

def El.has (e : El) (p q : Int) : Bool := inE e.x e.y e.a e.b e.d p q
theorem has_qc {e : El} (h : e.Ok) (p q : Int) (r : Bool) (hr : e.has p q = r) : QC Tryz.prog 26 [e.val, pt p q] (.bool r) := inE_qc e.x e.y p q h.a h.b h.d r hr
theorem has_may {e : El} {p q : Int} (h : e.has p q = true) : e.may = true := (inE_near h).1
theorem has_centre {e : El} (h : e.may = true) : e.has e.x e.y = true := inE_centre h
theorem lesser_tr (e f : El) : (lesser e f).tr ≤ e.tr ∧ (lesser e f).tr ≤ f.tr := by
  unfold lesser
  cases h : decide (f.tr < e.tr) with
  | true => have := of_decide_eq_true h; exact ⟨by show f.tr ≤ e.tr; omega, Int.le_refl _⟩
  | false => have := of_decide_eq_false h; exact ⟨Int.le_refl _, by show e.tr ≤ f.tr; omega⟩
theorem lesser_one (e f : El) : lesser e f = e ∨ lesser e f = f := by
  unfold lesser
  split
  · exact .inr rfl
  · exact .inl rfl
/-- What smallest answers: the first one, or what a weight made without an error. -/
theorem smE_one {mk : Int → Mk} (e : El) (hg : ∀ w, ((mk w).n = 0 ∧ (mk w).e.may = true) ∨ ((mk w).n ≠ 0 ∧ (mk w).e = .zero)) :
    smE mk e = e ∨ ∃ w, 1 ≤ w ∧ w ≤ 33 ∧ (mk w).n = 0 ∧ (mk w).e.may = true ∧ smE mk e = (mk w).e := by
  have gb := gfin_best (oM mk)
  unfold smE
  cases hh : (gfin (oM mk)).1.has with
  | false => exact .inl rfl
  | true =>
    have h0 : (mk (gfin (oM mk)).1.w).n = 0 := by
      have := gb.mx
      unfold mkA at this
      split at this
      · rename_i h; exact Int.ofNat_eq_zero.1 (of_decide_eq_true h)
      · rw [this] at hh; cases hh
    have hr := gb.rng _ gb.xl
    rcases lesser_one e (mk (gfin (oM mk)).1.w).e with h | h
    · exact .inl h
    · refine .inr ⟨_, hr.1, hr.2, h0, ?_, h⟩
      rcases hg (gfin (oM mk)).1.w with h1 | h1
      · exact h1.2
      · exact absurd h0 h1.1
theorem smE_tr {mk : Int → Mk} (e : El) : (smE mk e).tr ≤ e.tr := by
  unfold smE
  split
  · exact (lesser_tr _ _).1
  · exact Int.le_refl _
theorem mkF_good (e f : El) (w : Int) : ((mkF e f w).n = 0 ∧ (mkF e f w).e.may = true) ∨ ((mkF e f w).n ≠ 0 ∧ (mkF e f w).e = .zero) := (fuseV_good _ _ _ _ _ _ _ _ _ _ w).mk.2.2
theorem mkC_good (e : El) (s : Sp) (w : Int) : ((mkC e s w).n = 0 ∧ (mkC e s w).e.may = true) ∨ ((mkC e s w).n ≠ 0 ∧ (mkC e s w).e = .zero) := (cutV_good _ _ _ _ _ _ _ _ _ _ _ w).mk.2.2
theorem mkF_meets {e f : El} {p q w : Int} (h1 : 1 ≤ w) (h2 : w ≤ 33) (he : e.has p q = true) (hf : f.has p q = true) : ¬ (((mkF e f w).n : Nat) : Int) = 3 ∧ ((((mkF e f w).n : Nat) : Int) = 0 → (mkF e f w).e.has p q = true) :=
  fuse_meets (by omega) (by omega) he hf (fuseV_good _ _ _ _ _ _ _ _ _ _ w).mk.1.symm
theorem mkC_meets {e : El} {s : Sp} {p q w : Int} (h1 : 1 ≤ w) (h2 : w ≤ 33) (he : e.has p q = true) (hs : s.may = true) (c1 : ¬ atI s.ox s.oy s.hx s.hy p q < s.lo) (c2 : ¬ atI s.ox s.oy s.hx s.hy p q > s.hi) :
    ¬ (((mkC e s w).n : Nat) : Int) = 3 ∧ ((((mkC e s w).n : Nat) : Int) = 0 → (mkC e s w).e.has p q = true) :=
  cut_meets (by omega) (by omega) he hs c1 c2 (cutV_good _ _ _ _ _ _ _ _ _ _ _ w).mk.1.symm
theorem emp_no {mk : Int → Mk} (h : ∀ w, 1 ≤ w → w ≤ 33 → ¬ (((mk w).n : Nat) : Int) = 3) : empM mk (gfin (oM mk)).2.2 = false := by
  cases hm : empM mk (gfin (oM mk)).2.2 with
  | false => rfl
  | true =>
    obtain ⟨w, hw, h3⟩ := (empM_iff mk _).1 hm
    have hr := (gfin_best (oM mk)).rng w hw
    exact absurd h3 (h w hr.1 hr.2)
theorem smE_has {mk : Int → Mk} {e : El} {p q : Int} (hg : ∀ w, ((mk w).n = 0 ∧ (mk w).e.may = true) ∨ ((mk w).n ≠ 0 ∧ (mk w).e = .zero)) (he : e.has p q = true) (h : ∀ w, 1 ≤ w → w ≤ 33 → (((mk w).n : Nat) : Int) = 0 → (mk w).e.has p q = true) : (smE mk e).has p q = true := by
  rcases smE_one e hg with h1 | ⟨w, h1, h2, h3, _, h4⟩
  · rw [h1]; exact he
  · rw [h4]; exact h w h1 h2 (by rw [h3]; rfl)
theorem smE_may {mk : Int → Mk} {e : El} (hg : ∀ w, ((mk w).n = 0 ∧ (mk w).e.may = true) ∨ ((mk w).n ≠ 0 ∧ (mk w).e = .zero)) (he : e.may = true) : (smE mk e).may = true := by
  rcases smE_one e hg with h1 | ⟨w, _, _, _, h3, h4⟩
  · rw [h1]; exact he
  · rw [h4]; exact h3
/-- Of two valid ellipses: nothing, and no point is in both; or one that is valid, whose trace is at most that of each, and that holds what both hold. -/
theorem gFuse_cases {e f : El} (he : e.may = true) (hf : f.may = true) : (gFuse e f = ⟨.zero, 3⟩ ∧ ∀ p q, ¬ (e.has p q = true ∧ f.has p q = true)) ∨
    ∃ g : El, gFuse e f = ⟨g, 0⟩ ∧ g.may = true ∧ g.tr ≤ e.tr ∧ g.tr ≤ f.tr ∧ ∀ p q, e.has p q = true → f.has p q = true → g.has p q = true := by
  unfold gFuse
  rw [he, hf]
  simp only [Bool.and_self]
  cases hm : empM (mkF e f) (gfin (oM (mkF e f))).2.2 with
  | true =>
    refine .inl ⟨rfl, fun p q h => ?_⟩
    have := emp_no (mk := mkF e f) fun w h1 h2 => (mkF_meets h1 h2 h.1 h.2).1
    rw [hm] at this
    cases this
  | false =>
    refine .inr ⟨_, rfl, ?_, ?_, (lesser_tr _ _).2, fun p q h1 h2 => ?_⟩
    · rcases lesser_one (smE (mkF e f) e) f with h | h
      · rw [h]; exact smE_may (mkF_good e f) he
      · rw [h]; exact hf
    · exact Int.le_trans (lesser_tr _ _).1 (smE_tr e)
    · rcases lesser_one (smE (mkF e f) e) f with h | h
      · rw [h]; exact smE_has (mkF_good e f) h1 fun w a b => (mkF_meets a b h1 h2).2
      · rw [h]; exact h2
theorem gFuse_self {e : El} (he : e.may = true) : ∃ g : El, gFuse e e = ⟨g, 0⟩ ∧ g.Ok ∧ g.tr ≤ e.tr := by
  rcases gFuse_cases he he with ⟨_, h⟩ | ⟨g, h1, h2, h3, _⟩
  · exact absurd ⟨has_centre he, has_centre he⟩ (h e.x e.y)
  · exact ⟨g, h1, may_ok h2, h3⟩
theorem gCut_cases {e : El} {s : Sp} (he : e.may = true) (hs : s.may = true) : (gCut e s = ⟨.zero, 3⟩ ∧ ∀ p q, ¬ (e.has p q = true ∧ ¬ atI s.ox s.oy s.hx s.hy p q < s.lo ∧ ¬ atI s.ox s.oy s.hx s.hy p q > s.hi)) ∨
    ∃ g : El, gCut e s = ⟨g, 0⟩ ∧ g.Ok ∧ g.tr ≤ e.tr ∧ ∀ p q, e.has p q = true → ¬ atI s.ox s.oy s.hx s.hy p q < s.lo → ¬ atI s.ox s.oy s.hx s.hy p q > s.hi → g.has p q = true := by
  unfold gCut smV
  rw [he, hs]
  simp only [Bool.and_self]
  cases hm : empM (mkC e s) (gfin (oM (mkC e s))).2.2 with
  | true =>
    refine .inl ⟨rfl, fun p q h => ?_⟩
    have := emp_no (mk := mkC e s) fun w h1 h2 => (mkC_meets h1 h2 h.1 hs h.2.1 h.2.2).1
    rw [hm] at this
    cases this
  | false =>
    exact .inr ⟨_, rfl, may_ok (smE_may (mkC_good e s) he), smE_tr e, fun p q h1 c1 c2 => smE_has (mkC_good e s) h1 fun w a b => (mkC_meets a b h1 hs c1 c2).2⟩
end Go.Proofs.YtcpaajjeoeejaaaGreat.W
