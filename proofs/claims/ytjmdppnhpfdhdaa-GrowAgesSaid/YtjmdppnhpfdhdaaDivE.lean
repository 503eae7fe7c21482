/-
  Long division, the program's pieces in numbers: one digit.
-/
import Derived.Test.YtjmdppnhpfdhdaaDivD
namespace Go.Proofs.Ytjmdppnhpfdhdaa.W
open Go Go.Ev Go.Wide

theorem sub_num {M N V i L d R : Nat} {q p : Nat → Nat} (hi17 : i + L < 17) (hV : V < 2 ^ (64 * L)) (hd : d < 18446744073709551616) (hR : R < 2 ^ (64 * (L + 1))) (hp : ∀ t, t ≤ L → p (i + t) = wd R t) :
    MC Try.prog 109 [psl i L, dsl L, u d] (M5 M N V (q16 q) (m17 p)) (.bool (decide (R < V * d))) (M5 M N V (q16 q) (m17 (mixW i (L + 1) (lentX R (V * d) L) p))) := by
  have hD : V * d < 2 ^ (64 * (L + 1)) := mul_lt_word hV hd
  have hstep := fun t (h : t ≤ L) => sub_step (R := R) hD h
  have hbl := fun t => bor_le (R + 1 * 2 ^ (64 * (L + 1))) (V * d) t
  have hend := bor_end hR hD
  have hb0 := bor_zero (R + 1 * 2 ^ (64 * (L + 1))) (V * d)
  generalize lentX R (V * d) L = X at *
  generalize bor (R + 1 * 2 ^ (64 * (L + 1))) (V * d) = bo at *
  have hloop : TriL Try.prog (loopN Try.f109 0) (spS M N V i L 0 d 0 0 (q16 q) p) (to (.exit 0) (spS M N V i L L d (mK V d L) (bo L) (q16 q) (mixW i L X p))) := by
    have h := TriL.count (P := Try.prog) (c := loopN Try.f109 0) (e := .exit 0) (fun j => spS M N V i L j d (mK V d j) (bo j) (q16 q) (mixW i j X p)) (by simp) L (fun j hj => ?_) sp_end
    · rw [mK_zero, hb0, funext (mixW_zero i X p)] at h
      exact h
    · have h1 := mulAdd_pc (a := wd V j) (b := d) (c := mK V d j) (d := 0) (wd_lt V j) hd (mK_lt V d j hd) (by omega)
      rw [Nat.add_zero, ← wd_mK, ← mK_succ] at h1
      have h2 := sub64_qc (wd R j) (wd (V * d) j) (bo j) (hbl j)
      obtain ⟨e1, e2⟩ := hstep j (Nat.le_of_lt hj)
      rw [← e1, ← e2] at h2
      have hr := sp_round (M := M) (N := N) (V := V) (i := i) (L := L) (j := j) (d := d) (c := mK V d j) (b := bo j) (q := q) (p := mixW i j X p) hi17 hj rfl ((mixW_at i j X p).trans (hp j (Nat.le_of_lt hj))) (QC.of_pc enters_mulAdd h1) h2
      rw [funext fun t => (mixW_succ i j X p t).symm] at hr
      exact hr
  have h2 := sub64_qc (wd R L) (wd (V * d) L) (bo L) (hbl L)
  obtain ⟨e1, e2⟩ := hstep L (Nat.le_refl _)
  rw [← e1, ← e2, hend, ← mK_all hV hd] at h2
  have hm := sp_mc (M := M) (N := N) (V := V) (i := i) (L := L) (q := q) (p := p) (r := decide (R < V * d)) hi17 ((mixW_at i L X p).trans (hp L (Nat.le_refl _))) (by
    by_cases h : R < V * d
    · rw [decide_eq_true h, if_pos h]
    · rw [decide_eq_false h, if_neg h]) hloop h2
  rw [funext fun t => (mixW_succ i L X p t).symm] at hm
  exact hm
theorem add_num {M N V i L X : Nat} {q p : Nat → Nat} (hi17 : i + L < 17) (hV : V < 2 ^ (64 * L)) (hX : X < 2 ^ (64 * (L + 1))) (hp : ∀ t, t ≤ L → p (i + t) = wd X t) :
    MC Try.prog 110 [psl i L, dsl L] (M5 M N V (q16 q) (m17 p)) (.bool (decide (2 ^ (64 * (L + 1)) ≤ X + V))) (M5 M N V (q16 q) (m17 (mixW i (L + 1) (X + V) p))) := by
  have hV2 : V < 2 ^ (64 * (L + 1)) := Nat.lt_of_lt_of_le hV (Nat.pow_le_pow_right (by omega) (by omega))
  have hend := car_end hX hV2
  have hloop : TriL Try.prog (loopN Try.f110 0) (abS M N V i L 0 0 (q16 q) p) (to (.exit 0) (abS M N V i L L (car X V L) (q16 q) (mixW i L (X + V) p))) := by
    have h := TriL.count (P := Try.prog) (c := loopN Try.f110 0) (e := .exit 0) (fun j => abS M N V i L j (car X V j) (q16 q) (mixW i j (X + V) p)) (by simp) L (fun j hj => ?_) ab_end
    · rw [car_zero, funext (mixW_zero i (X + V) p)] at h
      exact h
    · have h2 := add64_qc (wd X j) (wd V j) (car X V j) (car_le X V j)
      rw [← wd_add, ← car_succ] at h2
      have hr := ab_round (M := M) (N := N) (V := V) (i := i) (L := L) (j := j) (c := car X V j) (q := q) (p := mixW i j (X + V) p) hi17 hj rfl ((mixW_at i j (X + V) p).trans (hp j (Nat.le_of_lt hj))) h2
      rw [funext fun t => (mixW_succ i j (X + V) p t).symm] at hr
      exact hr
  have h2 := add64_qc (wd X L) (wd V L) (car X V L) (car_le X V L)
  rw [← wd_add, ← car_succ, hend, wd_eq_zero hV] at h2
  have hm := ab_mc (M := M) (N := N) (V := V) (i := i) (L := L) (q := q) (p := p) (r := decide (2 ^ (64 * (L + 1)) ≤ X + V)) hi17 ((mixW_at i L (X + V) p).trans (hp L (Nat.le_refl _))) (by
    generalize 2 ^ (64 * (L + 1)) = P at *
    by_cases h : P ≤ X + V
    · rw [decide_eq_true h, Nat.div_eq_sub_div (by omega) h, Nat.div_eq_of_lt (by omega)]
    · rw [decide_eq_false h, Nat.div_eq_of_lt (by omega)]) hloop h2
  rw [funext fun t => (mixW_succ i L (X + V) p t).symm] at hm
  exact hm
theorem est_num {M N V i k R : Nat} {q p : Nat → Nat} (hi17 : i + (k + 1) < 17) (hV : V < 2 ^ (64 * (k + 1))) (hV2 : 9223372036854775808 ≤ wd V k) (hR : R < V * 18446744073709551616) (hp : ∀ t, t ≤ k + 1 → p (i + t) = wd R t) :
    ∃ d, R / V ≤ d ∧ d < 18446744073709551616 ∧ MC Try.prog 108 [psl i (k + 1), dsl (k + 1)] (M5 M N V (q16 q) (m17 p)) (u d) (M5 M N V (q16 q) (m17 p)) := by
  obtain ⟨h1, h2⟩ := est_ge (L := k + 1) (by omega) hV hV2 hR
  rw [Nat.add_sub_cancel] at h1 h2
  by_cases h : wd V k ≤ wd R (k + 1)
  · exact ⟨_, h1 h, by omega, est_high hi17 (hp (k + 1) (Nat.le_refl _)) rfl h⟩
  · obtain ⟨h3, h4⟩ := h2 h
    exact ⟨_, h3, h4, est_low hi17 (hp (k + 1) (Nat.le_refl _)) (hp k (by omega)) rfl h (QC.of_pc enters_div64 (div64_pc hV2 (wd_lt V k) (by omega) (wd_lt R k)))⟩
theorem take_num {M N V i L R : Nat} {q p : Nat → Nat} (hL : 1 ≤ L) (hi17 : i + L < 17) (hV : V < 2 ^ (64 * L)) (hV2 : 9223372036854775808 ≤ wd V (L - 1)) (hR : R < V * 18446744073709551616) (hp : ∀ t, t ≤ L → p (i + t) = wd R t) :
    MC Try.prog 104 [psl i L, dsl L] (M5 M N V (q16 q) (m17 p)) (u (R / V)) (M5 M N V (q16 q) (m17 (mixW i (L + 1) (R - V * (R / V)) p))) := by
  obtain ⟨d, h1, h2, h3⟩ : ∃ d, R / V ≤ d ∧ d < 18446744073709551616 ∧ MC Try.prog 108 [psl i L, dsl L] (M5 M N V (q16 q) (m17 p)) (u d) (M5 M N V (q16 q) (m17 p)) := by
    obtain ⟨k, rfl⟩ : ∃ k, L = k + 1 := ⟨L - 1, by omega⟩
    rw [Nat.add_sub_cancel] at hV2
    exact est_num hi17 hV hV2 hR hp
  have hV0 : 0 < V := by
    rcases Nat.eq_zero_or_pos V with e | e
    · subst e; rw [Nat.zero_mul] at hR; omega
    · exact e
  have hRP : R < 2 ^ (64 * (L + 1)) := by
    rw [pow_succ64]
    exact Nat.lt_of_lt_of_le hR (Nat.mul_le_mul_right _ (Nat.le_of_lt hV))
  have hs := sub_num (M := M) (N := N) (q := q) hi17 hV h2 hRP hp
  have hQ : V * (R / V) ≤ R := Nat.mul_div_le R V
  have hgt : ∀ e, R / V < e → R < V * e := fun e he => by
    have := (Nat.div_lt_iff_lt_mul hV0).1 he
    rw [Nat.mul_comm]; exact this
  have hVd : V * d < 2 ^ (64 * (L + 1)) := mul_lt_word hV h2
  generalize R / V = Q at *
  have hloop : TriL Try.prog (loopN Try.f104 0) (tdS M N V i L d (decide (R < V * d)) (q16 q) (mixW i (L + 1) (lentX R (V * d) L) p)) (to (.exit 0) (tdS M N V i L Q false (q16 q) (mixW i (L + 1) (lentX R (V * Q) L) p))) := by
    have h := TriL.count (P := Try.prog) (c := loopN Try.f104 0) (e := .exit 0) (S' := tdS M N V i L Q false (q16 q) (mixW i (L + 1) (lentX R (V * Q) L) p))
      (fun m => tdS M N V i L (d - m) (decide (R < V * (d - m))) (q16 q) (mixW i (L + 1) (lentX R (V * (d - m)) L) p)) (by simp) (d - Q) (fun m hm => ?_) ?_
    · exact h
    · obtain ⟨e, he⟩ : ∃ e, d - m = e + 1 := ⟨d - m - 1, by omega⟩
      show Tri _ _ (tdS M N V i L (d - m) (decide (R < V * (d - m))) (q16 q) (mixW i (L + 1) (lentX R (V * (d - m)) L) p)) (to _ (tdS M N V i L (d - (m + 1)) (decide (R < V * (d - (m + 1)))) (q16 q) (mixW i (L + 1) (lentX R (V * (d - (m + 1))) L) p)))
      rw [show d - (m + 1) = e by omega, he]
      have hlt := hgt (e + 1) (by omega)
      have hle : V * (e + 1) ≤ V * d := Nat.mul_le_mul_left V (by omega)
      have hmul : V * (e + 1) = V * e + V := Nat.mul_succ V e
      rw [decide_eq_true hlt]
      have ha := add_num (M := M) (N := N) (V := V) (i := i) (L := L) (X := lentX R (V * (e + 1)) L) (q := q) (p := mixW i (L + 1) (lentX R (V * (e + 1)) L) p) hi17 hV (by unfold lentX; omega) (fun t ht => mixW_in (by omega))
      have eX : lentX R (V * (e + 1)) L + V = lentX R (V * e) L := by unfold lentX; omega
      have hneg : decide (R < V * e) = !(decide (2 ^ (64 * (L + 1)) ≤ lentX R (V * e) L)) := by
        unfold lentX
        by_cases h : R < V * e
        · rw [decide_eq_true h, decide_eq_false (by omega)]; rfl
        · rw [decide_eq_false h, decide_eq_true (by omega)]; rfl
      rw [eX, funext (mixW_mixW i (L + 1) (lentX R (V * e) L) (lentX R (V * (e + 1)) L) p)] at ha
      rw [hneg]
      exact td_round (wrap_of (by omega) (by omega)) ha
    · show Tri _ _ (tdS M N V i L (d - (d - Q)) (decide (R < V * (d - (d - Q)))) (q16 q) (mixW i (L + 1) (lentX R (V * (d - (d - Q))) L) p)) _
      rw [show d - (d - Q) = Q by omega, decide_eq_false (by omega)]
      exact td_end
  have hfin : mixW i (L + 1) (lentX R (V * Q) L) p = mixW i (L + 1) (R - V * Q) p := by
    funext t
    unfold mixW
    split
    · have e : lentX R (V * Q) L = R - V * Q + 1 * 2 ^ (64 * (L + 1)) := by unfold lentX; omega
      rw [e, wd_lt_add _ _ _ _ (by omega)]
    · rfl
  rw [hfin] at hloop
  exact td_mc h3 hs hloop
end Go.Proofs.Ytjmdppnhpfdhdaa.W
