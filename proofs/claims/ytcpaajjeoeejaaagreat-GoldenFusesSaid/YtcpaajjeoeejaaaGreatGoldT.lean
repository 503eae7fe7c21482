/-
  Package golden: of weights that are as good, the search takes the least; what a fold over what was asked comes to.
-/
import Derived.Test.YtcpaajjeoeejaaaGreatGold4
namespace Go.Proofs.YtcpaajjeoeejaaaGreat.W
open Go Go.Ev Go.Wide

/-- As good as a value v of a weight w, or better. -/
def Dom (x : An) (v w : Int) : Prop := x.has = true ∧ (x.v < v ∨ (x.v = v ∧ x.w ≤ w))
theorem dom_self {o : Int → Int × Bool} {w : Int} (h : (o w).2 = true) : Dom (mkA w (o w)) (o w).1 w := by
  rw [mkA_has h]
  exact ⟨rfl, .inr ⟨rfl, Int.le_refl _⟩⟩
theorem srch_low {o : Int → Int × Bool} : ∀ (k : Nat) (a b : Int) (x y : An) (L : List Int), InvG k a b x y → x = mkA x.w (o x.w) → y = mkA y.w (o y.w) → (∀ w ∈ L, (o w).2 = true → Dom x (o w).1 w ∨ Dom y (o w).1 w) →
    ∀ w ∈ (srch o k a b x y L).2.2, (o w).2 = true → Dom (srch o k a b x y L).1 (o w).1 w
  | 0, a, b, x, y, L, i, hx, hy, hl, w, hw, hp => by
    have e : x.w = y.w := by rw [i.hx, i.hy]; rfl
    have exy : x = y := by rw [hx, hy, e]
    rcases hl w hw hp with h | h
    · exact h
    · show Dom x _ _
      rw [exy]
      exact h
  | k + 1, a, b, x, y, L, i, hx, hy, hl, w, hw, hp => by
    have p1 := fb_pos k
    have e1 : fb (k + 1 + 1) = fb k + fb (k + 1) := rfl
    have i1 := i.hx
    have i2 := i.hy
    unfold srch at hw ⊢
    cases hs : lessA y x with
    | true =>
      rw [hs] at hw
      obtain ⟨i', _⟩ := i.up o
      have hz := zOf_mk (w := x.w + b - y.w) hy
      obtain ⟨l1, l2⟩ := lessA_iff.1 hs
      refine srch_low k _ _ _ _ _ i' hy (by rw [zOf_w]; exact hz) (fun u hu hq => ?_) w hw hp
      rcases lOf_sub hu with hu | rfl
      · rcases hl u hu hq with ⟨g1, g2⟩ | g
        · refine .inl ⟨l1, .inl ?_⟩
          rcases l2 with l2 | l2
          · rw [g1] at l2; cases l2
          · omega
        · exact .inl g
      · rw [hz]
        exact .inr (dom_self hq)
    | false =>
      rw [hs] at hw
      obtain ⟨i', _⟩ := i.down o
      have hz := zOf_mk (w := a + y.w - x.w) hx
      have l1 : ¬ (y.has = true ∧ (x.has = false ∨ y.v < x.v)) := fun h => by rw [lessA_iff.2 h] at hs; cases hs
      refine srch_low k _ _ _ _ _ i' (by rw [zOf_w]; exact hz) hx (fun u hu hq => ?_) w hw hp
      rcases lOf_sub hu with hu | rfl
      · rcases hl u hu hq with g | ⟨g1, g2⟩
        · exact .inr g
        · refine .inr ?_
          cases hh : x.has with
          | false => exact absurd ⟨g1, .inl hh⟩ l1
          | true =>
            have : ¬ y.v < x.v := fun h => l1 ⟨g1, .inr h⟩
            exact ⟨hh, by omega⟩
      · rw [hz]
        exact .inl (dom_self hq)
theorem gfin_low (o : Int → Int × Bool) : ∀ w ∈ (gfin o).2.2, (o w).2 = true → Dom (gfin o).1 (o w).1 w := by
  refine srch_low 6 0 34 _ _ _ (InvG.start o) (by rw [mkA_w]) (by rw [mkA_w]) fun w h hp => ?_
  rcases List.mem_cons.1 h with rfl | h
  · exact .inl (dom_self hp)
  · obtain rfl := List.mem_singleton.1 h
    exact .inr (dom_self hp)

/-! ### A fold over what was asked -/
structure SS where
  w : Int
  v : Int
  has : Bool
  e : El
def SS.nil : SS := ⟨0, 0, false, .zero⟩
def betterS (s : SS) (v w : Int) : Bool := !s.has || (decide (v < s.v) || (decide (v = s.v) && decide (w < s.w)))
def stepS (mk : Int → Mk) (s : SS) (w : Int) : SS := match decide (((mk w).n : Int) = 0) && betterS s (mk w).e.tr w with | true => ⟨w, (mk w).e.tr, true, (mk w).e⟩ | false => s
def foldS (mk : Int → Mk) (L : List Int) : SS := L.foldl (stepS mk) .nil
theorem foldS_snoc (mk : Int → Mk) (L : List Int) (w : Int) : foldS mk (L ++ [w]) = stepS mk (foldS mk L) w := by unfold foldS; rw [List.foldl_append]; rfl
structure FoldS (mk : Int → Mk) (L : List Int) (s : SS) : Prop where
  low : ∀ w ∈ L, ((mk w).n : Int) = 0 → s.has = true ∧ (s.v < (mk w).e.tr ∨ (s.v = (mk w).e.tr ∧ s.w ≤ w))
  one : s.has = true → s.w ∈ L ∧ ((mk s.w).n : Int) = 0 ∧ s.v = (mk s.w).e.tr ∧ s.e = (mk s.w).e
  non : s.has = false → s = .nil
theorem foldS_spec (mk : Int → Mk) (L : List Int) : FoldS mk L (foldS mk L) := by
  refine snoc_ind (P := fun L => FoldS mk L (foldS mk L)) ⟨(fun w h => by cases h), (fun h => by cases h), fun _ => rfl⟩ (fun L w ih => ?_) L
  rw [foldS_snoc]
  generalize foldS mk L = s at *
  unfold stepS
  split
  · rename_i hb
    rw [Bool.and_eq_true, decide_eq_true_eq] at hb
    obtain ⟨h0, hb⟩ := hb
    refine ⟨fun u hu hn => ⟨rfl, ?_⟩, fun _ => ⟨List.mem_append_right _ (List.mem_singleton.2 rfl), h0, rfl, rfl⟩, fun h => by cases h⟩
    rcases List.mem_append.1 hu with hu | hu
    · obtain ⟨g1, g2⟩ := ih.low u hu hn
      simp only [betterS, g1, Bool.not_true, Bool.false_or, Bool.or_eq_true, Bool.and_eq_true, decide_eq_true_eq] at hb
      show (mk w).e.tr < _ ∨ ((mk w).e.tr = _ ∧ w ≤ u)
      omega
    · obtain rfl := List.mem_singleton.1 hu
      exact .inr ⟨rfl, Int.le_refl _⟩
  · rename_i hb
    refine ⟨fun u hu hn => ?_, fun h => ?_, ih.non⟩
    · rcases List.mem_append.1 hu with hu | hu
      · exact ih.low u hu hn
      · obtain rfl := List.mem_singleton.1 hu
        cases hs : s.has with
        | false => simp [betterS, hs, hn] at hb
        | true =>
          simp only [betterS, hs, hn, decide_true, Bool.true_and, Bool.not_true, Bool.false_or, Bool.or_eq_false_iff, Bool.and_eq_false_iff, decide_eq_false_iff_not] at hb
          exact ⟨rfl, by omega⟩
    · obtain ⟨h1, h2⟩ := ih.one h
      exact ⟨List.mem_append_left _ h1, h2⟩
/-- What the search finds is what the fold finds. -/
theorem foldS_gfin (mk : Int → Mk) : foldS mk (gfin (oM mk)).2.2 = match (gfin (oM mk)).1.has with | true => ⟨(gfin (oM mk)).1.w, (gfin (oM mk)).1.v, true, (mk (gfin (oM mk)).1.w).e⟩ | false => .nil := by
  have hb := gfin_best (oM mk)
  have hl := gfin_low (oM mk)
  have hf := foldS_spec mk (gfin (oM mk)).2.2
  generalize foldS mk (gfin (oM mk)).2.2 = s at *
  generalize (gfin (oM mk)).1 = x at *
  generalize (gfin (oM mk)).2.2 = L at *
  have hlow : ∀ w ∈ L, ((mk w).n : Int) = 0 → x.has = true ∧ (x.v < (mk w).e.tr ∨ (x.v = (mk w).e.tr ∧ x.w ≤ w)) := fun w hw h0 => hl w hw (decide_eq_true h0)
  cases hx : x.has with
  | true =>
    have h0 : ((mk x.w).n : Int) = 0 ∧ x.v = (mk x.w).e.tr := by
      cases hn : decide (((mk x.w).n : Int) = 0) with
      | true =>
        refine ⟨of_decide_eq_true hn, ?_⟩
        have := hb.mx
        rw [mkA_has (p := oM mk x.w) hn] at this
        exact congrArg An.v this
      | false =>
        have := hb.mx
        unfold mkA at this
        rw [show (oM mk x.w).2 = false from hn] at this
        rw [this] at hx
        cases hx
    obtain ⟨g1, g2⟩ := hf.low x.w hb.xl h0.1
    obtain ⟨f1, f2, f3, f4⟩ := hf.one g1
    obtain ⟨_, g4⟩ := hlow s.w f1 f2
    have ew : s.w = x.w := by
      have e1 := h0.2
      rcases g2 with g2 | ⟨g2, g3⟩
      · rcases g4 with g4 | ⟨g4, g5⟩ <;> omega
      · rcases g4 with g4 | ⟨g4, g5⟩ <;> omega
    obtain ⟨sw, sv, sh, se⟩ := s
    simp only at g1 ew f3 f4
    subst g1 ew f4
    simp only
    rw [f3, ← h0.2]
  | false =>
    cases hs : s.has with
    | false => exact hf.non hs
    | true =>
      obtain ⟨f1, f2, _⟩ := hf.one hs
      rw [(hlow s.w f1 f2).1] at hx
      cases hx
end Go.Proofs.YtcpaajjeoeejaaaGreat.W
