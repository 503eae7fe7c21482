/-
  The reference's long division: the loop over the digits.
-/
import Derived.Test.YtljolfnpncjklaaGreatQuoB
namespace Go.Proofs.YtljolfnpncjklaaGreat.R
open Go Go.Ev Go.W32
open Go.Proofs.YtljolfnpncjklaaGreat.W (mixed rsl i64_wrap u64_wrap u32_wrap bitLen_lt_iff enters_trim enters_rbits)

theorem borI {w l e z e' : Nat} (hw : w < 4294967296) (hl : l < 4294967296) (he : e ≤ 1) (hz : z = (w + 4294967296 - l - e) % 4294967296) (he' : e' = if w < l + e then 1 else 0) :
    (-(e : Int) + ((w : Int) - (l : Int))) % 4294967296 = (z : Int) ∧ (-(e : Int) + ((w : Int) - (l : Int))) / 4294967296 = -(e' : Int) := by
  by_cases h : w < l + e
  · rw [if_pos h] at he'
    omega
  · rw [if_neg h] at he'
    omega
theorem ms_loop {s V n c L M j e R : Nat} {U : Nat → Nat} {g : List Value} (hn : n < 1000) (hj : j < 1000) (hL : j + n < L) (hc : j + n < c) (hV : V < 2 ^ (32 * n)) (he : e < 4294967296) (hU : ∀ t, t ≤ n → U (j + t) = wd R t) :
    TriL Tryz.prog (loopN Tryz.f102 5) (msS s V n c L M j e 0 0 0 (cells c U) g) (to (.exit 10) (msS s V n c L M j e (mK V e n) (-(bor (R + 1 * 2 ^ (32 * (n + 1))) (V * e) n : Nat)) n (cells c (mixW j n (lentX R (V * e) n) U)) g)) := by
  have hD : V * e < 2 ^ (32 * (n + 1)) := mul_lt_word hV he
  have hstep := fun t (h : t ≤ n) => sub_step (R := R) hD h
  have hbl := fun t => bor_le (R + 1 * 2 ^ (32 * (n + 1))) (V * e) t
  have hb0 := bor_zero (R + 1 * 2 ^ (32 * (n + 1))) (V * e)
  generalize lentX R (V * e) n = X at *
  generalize bor (R + 1 * 2 ^ (32 * (n + 1))) (V * e) = bo at *
  have h := TriL.count (P := Tryz.prog) (c := loopN Tryz.f102 5) (e := .exit 10) (fun i => msS s V n c L M j e (mK V e i) (-(bo i : Nat)) i (cells c (mixW j i X U)) g) (by simp) n (fun i hi => ?_) ms_end
  · rw [mK_zero, hb0, funext (mixW_zero j X U)] at h
    exact h
  · obtain ⟨e1, e2⟩ := hstep i (Nat.le_of_lt hi)
    have h1 := wd_mK V e i
    have h2 := mK_succ V e i
    have h3 := wd_lt V i
    have h4 := mK_lt V e i he
    have h5 : wd V i * e ≤ 4294967295 * 4294967295 := Nat.mul_le_mul (by omega) (by omega)
    have h6 : mK V e i + wd V i * e < 18446744073709551616 := by omega
    have h7 := borI (wd_lt R i) (wd_lt (V * e) i) (hbl i) e1 e2
    have key := ms_round (s := s) (V := V) (n := n) (c := c) (L := L) (M := M) (j := j) (q := e) (d := mK V e i) (i := i) (ij := j + i) (v := wd V i) (p := wd V i * e) (d2 := mK V e i + wd V i * e) (lo := wd (V * e) i) (w := wd R i) (z := wd X i) (d' := mK V e (i + 1)) (b := -(bo i : Nat)) (b' := -(bo (i + 1) : Nat)) (U := mixW j i X U) (g := g)
      hi hn hj (by omega) (by omega) (by omega) rfl h3 (Nat.mul_comm _ _) rfl h6 ((mixW_at j i X U).trans (hU i (Nat.le_of_lt hi))) (wd_lt R i) (by rw [h1, Nat.add_comm]) rfl rfl (by have := hbl i; omega) (by omega) h7.1 h7.2 (by rw [h2, Nat.add_comm])
    rw [funext fun t => (mixW_succ j i X U t).symm] at key
    exact key
theorem ab_loop {s V n c L M j q X : Nat} {U : Nat → Nat} {g : List Value} (hn : n < 1000) (hj : j < 1000) (hL : j + n < L) (hc : j + n < c) (hU : ∀ t, t ≤ n → U (j + t) = wd X t) :
    TriL Tryz.prog (loopN Tryz.f102 6) (abS s V n c L M j q 0 0 (cells c U) g) (to (.exit 12) (abS s V n c L M j q (car X V n) n (cells c (mixW j n (X + V) U)) g)) := by
  have h := TriL.count (P := Tryz.prog) (c := loopN Tryz.f102 6) (e := .exit 12) (fun i => abS s V n c L M j q (car X V i) i (cells c (mixW j i (X + V) U)) g) (by simp) n (fun i hi => ?_) ab_end
  · rw [car_zero, funext (mixW_zero j (X + V) U)] at h
    exact h
  · have h1 := wd_add X V i
    have h2 := car_succ X V i
    have h3 := car_le X V i
    have key := ab_round (s := s) (V := V) (n := n) (c := c) (L := L) (M := M) (j := j) (q := q) (d := car X V i) (i := i) (ij := j + i) (v := wd V i) (w := wd X i) (x := wd X i + wd V i) (y := car X V i + (wd X i + wd V i)) (lo := wd (X + V) i) (d' := car X V (i + 1)) (U := mixW j i (X + V) U) (g := g)
      hi hn hj (by omega) (by omega) (by omega) rfl (wd_lt V i) ((mixW_at j i (X + V) U).trans (hU i (Nat.le_of_lt hi))) (wd_lt X i) rfl rfl (by omega) (by rw [h1, Nat.add_comm]) (by rw [h2, Nat.add_comm])
    rw [funext fun t => (mixW_succ j i (X + V) U t).symm] at key
    exact key
/-- What is left after a digit. -/
theorem rest_mix {W V j n Q X : Nat} (hV0 : 0 < V) (hV : V < 2 ^ (32 * n)) (hQ : restW W V (j + 1) / 2 ^ (32 * j) / V = Q) (hX : X = restW W V (j + 1) / 2 ^ (32 * j) - V * Q + 1 * 2 ^ (32 * (n + 1))) (t : Nat) :
    mixW j (n + 1) X (wd (restW W V (j + 1))) t = wd (restW W V j) t := by
  rw [← restW_words W V j n t hV0 hV, ← restW_digit, hQ]
  unfold mixW
  split
  · rw [hX, wd_lt_add _ _ _ _ (by omega)]
  · rfl
theorem mn_round {s V n c L M j W : Nat} {j' : Int} {G : Nat → Nat} (hn2 : 2 ≤ n) (hn : n < 1000) (hj : j < 1000) (hjM : j < M) (hL : j + n < L) (hc : j + n < c) (hV : V < 2 ^ (32 * n)) (hV2 : 2147483648 ≤ wd V (n - 1)) (hj' : j' = (j : Int) - 1) :
    Tri Tryz.prog (loopN Tryz.f102 3) (mnS s V n c L M j (cells c (wd (restW W V (j + 1)))) (cells M G)) (to .normal (mnS s V n c L M j' (cells c (wd (restW W V j))) (cells M (fun t => if t = j then wd (W / V) j else G t)))) := by
  obtain ⟨k, rfl⟩ : ∃ k, n = k + 2 := ⟨n - 2, by omega⟩
  rw [show k + 2 - 1 = k + 1 by omega] at hV2
  have hV0 : 0 < V := by
    rcases Nat.eq_zero_or_pos V with e | e
    · subst e
      have : wd 0 (k + 1) = 0 := by unfold wd; rw [Nat.zero_div]
      omega
    · exact e
  have hlt := restW_lt W (j + 1) hV0
  have hR : restW W V (j + 1) / 2 ^ (32 * j) < V * 4294967296 := by
    refine Nat.div_lt_of_lt_mul ?_
    rw [pow_succ32, ← Nat.mul_assoc, Nat.mul_comm V, Nat.mul_assoc] at hlt
    exact hlt
  have hdig := restW_digit W V j
  have hU : ∀ t, wd (restW W V (j + 1)) (j + t) = wd (restW W V (j + 1) / 2 ^ (32 * j)) t := fun t => by rw [Nat.add_comm j t, wd_shift]
  have hrest := fun X Q hQ hX t => rest_mix (W := W) (j := j) (Q := Q) (X := X) hV0 hV hQ hX t
  generalize restW W V (j + 1) = Z at *
  generalize hRe : Z / 2 ^ (32 * j) = R at *
  have hw2 := wd_lt R (k + 2)
  have hw1 := wd_lt R (k + 1)
  obtain ⟨a, ha⟩ : ∃ a, wd R (k + 2) * 4294967296 + wd R (k + 1) = a := ⟨_, rfl⟩
  obtain ⟨g1, g2, g3, g4⟩ := est_near hV hR ha rfl rfl rfl hV2
  have he := estQ_lt a (wd R k) (wd V (k + 1)) (wd V k)
  have hqr : a / wd V (k + 1) * wd V (k + 1) + a % wd V (k + 1) = a := Nat.div_add_mod' _ _
  have hr : a % wd V (k + 1) < 4294967296 := Nat.lt_trans (Nat.mod_lt _ (by omega)) (wd_lt V (k + 1))
  have h4 := gu_loop (s := s) (V := V) (n := k + 2) (n1 := k + 1) (n2 := k) (c := c) (L := L) (M := M) (j := j) (jn := j + (k + 2)) (jn2 := j + k) (U := wd Z) (g := cells M G) rfl rfl rfl (by omega) hL hc hn hj rfl (hU k) (wd_lt R k) rfl hV2 g4 hqr hr g3
  generalize estQ a (wd R k) (wd V (k + 1)) (wd V k) = e at *
  have h5 := ms_loop (s := s) (V := V) (n := k + 2) (c := c) (L := L) (M := M) (j := j) (e := e) (R := R) (U := wd Z) (g := cells M G) hn hj hL hc hV he (fun t _ => hU t)
  have hD : V * e < 2 ^ (32 * (k + 2 + 1)) := mul_lt_word hV he
  have hRP : R < 2 ^ (32 * (k + 2 + 1)) := by
    rw [pow_succ32]
    exact Nat.lt_of_lt_of_le hR (Nat.mul_le_mul_right _ (Nat.le_of_lt hV))
  obtain ⟨e1, e2⟩ := sub_step (R := R) hD (Nat.le_refl (k + 2))
  have hend := bor_end hRP hD
  have h7 := borI (wd_lt R (k + 2)) (wd_lt (V * e) (k + 2)) (bor_le (R + 1 * 2 ^ (32 * (k + 2 + 1))) (V * e) (k + 2)) e1 e2
  have hbl := bor_le (R + 1 * 2 ^ (32 * (k + 2 + 1))) (V * e) (k + 2)
  have hmk := mK_all hV he
  rw [hmk] at h5
  have hlo : wd (V * e) (k + 2) % 4294967296 = wd (V * e) (k + 2) := Nat.mod_eq_of_lt (wd_lt _ _)
  have hQ : V * (R / V) ≤ R := Nat.mul_div_le R V
  have ho : (wd R (k + 2) * 4294967296 ||| wd R (k + 1)) = a := by
    have := or_add (a := wd R (k + 2)) (b := wd R (k + 1)) (k := 32) hw1
    rw [Nat.mul_comm] at this
    rw [← ha]
    exact this
  have hUn := hU (k + 2)
  have hUn1 := hU (k + 1)
  have hmx := mixW_at j (k + 2) (lentX R (V * e) (k + 2)) (wd Z)
  by_cases hlt2 : R < V * e
  · -- one too great
    have hQe : R / V + 1 = e := by
      have : R / V < e := (Nat.div_lt_iff_lt_mul hV0).2 (by rw [Nat.mul_comm]; exact hlt2)
      omega
    rw [if_pos hlt2] at hend
    rw [hend] at h7
    have hmul : V * e = V * (R / V) + V := by rw [← hQe, Nat.mul_succ]
    have hX : lentX R (V * e) (k + 2) < 2 ^ (32 * (k + 2 + 1)) := by unfold lentX; omega
    have eX : lentX R (V * e) (k + 2) + V = R - V * (R / V) + 1 * 2 ^ (32 * (k + 2 + 1)) := by unfold lentX; omega
    have h6 := ab_loop (s := s) (V := V) (n := k + 2) (c := c) (L := L) (M := M) (j := j) (q := R / V) (X := lentX R (V * e) (k + 2)) (U := mixW j (k + 2 + 1) (lentX R (V * e) (k + 2)) (wd Z)) (g := cells M G) hn hj hL hc (fun t ht => mixW_in (by omega))
    have hmx3 := mixW_at j (k + 2) (lentX R (V * e) (k + 2) + V) (mixW j (k + 2 + 1) (lentX R (V * e) (k + 2)) (wd Z))
    have hmx4 : mixW j (k + 2 + 1) (lentX R (V * e) (k + 2)) (wd Z) (j + (k + 2)) = wd (lentX R (V * e) (k + 2)) (k + 2) := mixW_in (by omega)
    have hwa := wd_add (lentX R (V * e) (k + 2)) V (k + 2)
    rw [wd_eq_zero hV, Nat.add_zero] at hwa
    have hcl := car_le (lentX R (V * e) (k + 2)) V (k + 2)
    have hfin := fun t => hrest (lentX R (V * e) (k + 2) + V) (R / V) rfl eX t
    have hmm := fun t => mixW_mixW j (k + 2 + 1) (lentX R (V * e) (k + 2) + V) (lentX R (V * e) (k + 2)) (wd Z) t
    have hms := fun t => mixW_succ j (k + 2) (lentX R (V * e) (k + 2) + V) (mixW j (k + 2 + 1) (lentX R (V * e) (k + 2)) (wd Z)) t
    have hms0 := fun t => mixW_succ j (k + 2) (lentX R (V * e) (k + 2)) (wd Z) t
    generalize lentX R (V * e) (k + 2) = X at *
    have key := mn_ab (s := s) (V := V) (n := k + 2) (n1 := k + 1) (c := c) (L := L) (M := M) (j := j) (jn := j + (k + 2)) (jn1 := j + (k + 1)) (a := a) (q2 := e) (r2 := a - e * wd V (k + 1)) (d := wd (V * e) (k + 2)) (b := -(bor (R + 1 * 2 ^ (32 * (k + 2 + 1))) (V * e) (k + 2) : Nat)) (U := wd Z) (U2 := mixW j (k + 2) X (wd Z)) (U3 := mixW j (k + 2) (X + V) (mixW j (k + 2 + 1) X (wd Z))) (G := G) (q3 := R / V) (z := wd X (k + 2)) (z3 := wd (X + V) (k + 2)) (lo3 := car X V (k + 2)) (w := wd R (k + 2)) (w3 := wd X (k + 2)) (d3 := car X V (k + 2)) (b' := -(1 : Nat)) (qd := R / V) (lo := wd (V * e) (k + 2)) (j' := j')
      rfl rfl (by omega) hL hc hn hj hjM hUn hw2 hUn1 hw1 rfl ho (by omega) rfl (wd_lt V (k + 1)) (by omega) rfl rfl h4 h5 (hmx.trans hUn) hw2 hlo rfl rfl (by omega) (by omega) h7.1 h7.2 (by omega) hQe he
      (by
        unfold u3
        rw [cells_set, funext fun t => (hms0 t).symm]
        exact h6) (hmx3.trans hmx4) (by omega) (by omega) (by omega) hj'
    rw [funext fun t => (hms t).symm, funext hmm, funext hfin, hdig] at key
    exact key
  · have hQe : R / V = e := by
      have : e ≤ R / V := (Nat.le_div_iff_mul_le hV0).2 (by rw [Nat.mul_comm]; omega)
      omega
    rw [if_neg hlt2] at hend
    rw [hend] at h7
    have eX : lentX R (V * e) (k + 2) = R - V * (R / V) + 1 * 2 ^ (32 * (k + 2 + 1)) := by rw [hQe]; unfold lentX; omega
    have hfin := fun t => hrest (lentX R (V * e) (k + 2)) (R / V) rfl eX t
    have hms := fun t => mixW_succ j (k + 2) (lentX R (V * e) (k + 2)) (wd Z) t
    generalize lentX R (V * e) (k + 2) = X at *
    have key := mn_no (s := s) (V := V) (n := k + 2) (n1 := k + 1) (c := c) (L := L) (M := M) (j := j) (jn := j + (k + 2)) (jn1 := j + (k + 1)) (a := a) (q2 := e) (r2 := a - e * wd V (k + 1)) (d := wd (V * e) (k + 2)) (b := -(bor (R + 1 * 2 ^ (32 * (k + 2 + 1))) (V * e) (k + 2) : Nat)) (U := wd Z) (U2 := mixW j (k + 2) X (wd Z)) (G := G) (z := wd X (k + 2)) (w := wd R (k + 2)) (b' := -(0 : Nat)) (qd := R / V) (lo := wd (V * e) (k + 2)) (j' := j')
      rfl rfl (by omega) hL hc hn hj hjM hUn hw2 hUn1 hw1 rfl ho (by omega) rfl (wd_lt V (k + 1)) (by omega) rfl rfl h4 h5 (hmx.trans hUn) hw2 hlo rfl rfl (by omega) (by omega) h7.1 h7.2 (by omega) (by omega) hj'
    rw [funext fun t => (hms t).symm, funext hfin, hdig] at key
    exact key
end Go.Proofs.YtljolfnpncjklaaGreat.R
