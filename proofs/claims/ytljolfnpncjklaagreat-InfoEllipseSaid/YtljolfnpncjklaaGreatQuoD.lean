/-
  The reference's long division: the function.
-/
import Derived.Test.YtljolfnpncjklaaGreatQuoC
namespace Go.Ev
theorem PW_slots {R : Value → Value → Prop} {n : Nat} {l l' : List (Nat × Value)} (h : ∀ i, i < n → R (slot l i) (slot l' i)) : PW R (slots n l) (slots n l') := by
  unfold slots
  refine ⟨by simp, fun i a b ha hb => ?_⟩
  rw [List.getElem?_map] at ha hb
  by_cases hi : i < n
  · rw [List.getElem?_range hi] at ha hb
    cases ha
    cases hb
    exact h i hi
  · rw [List.getElem?_eq_none (by simpa using hi)] at ha
    cases ha
theorem TriB.one {P : Program} {n0 : Nat} {c : Code} {S S1 : St} {Q : Exit → St → Prop} (hs : hasS 1 c = true) (h : TriB P n0 (headS c) S (to .normal S1)) (h' : TriB P n0 (dropS 1 c) S1 Q) : TriB P n0 c S Q :=
  TriB.first hs h (fun _ _ h => h.1) (fun S2 h2 => by
    obtain ⟨_, rfl⟩ := h2
    exact h')
def inB : Code → Code
  | .block _ c => c
  | c => c
end Go.Ev
namespace Go.Proofs.YtljolfnpncjklaaGreat.R
open Go Go.Ev Go.W32
open Go.Proofs.YtljolfnpncjklaaGreat.W (mixed rsl i64_wrap u64_wrap u32_wrap bitLen_lt_iff enters_trim enters_rbits)

theorem same_cells (m : Nat) (f : Nat → Nat) (keep : List Nat) : (cells m f).all (sameIx keep) = true := by
  unfold cells
  rw [List.all_map, List.all_eq_true]
  intro _ _
  rfl
theorem mn_loop {s V n c L M W : Nat} (hn2 : 2 ≤ n) (hn : n < 1000) (hM : M < 1000) (hL : M + n = L) (hc : L ≤ c) (hV : V < 2 ^ (32 * n)) (hV2 : 2147483648 ≤ wd V (n - 1)) (hW : W < V * 2 ^ (32 * M)) :
    TriL Tryz.prog (loopN Tryz.f102 3) (mnS s V n c L M ((M : Int) - 1) (cells c (wd W)) (cells M fun _ => 0)) (to (.exit 6) (mnS s V n c L M (-1) (cells c (wd (W % V))) (cells M (wd (W / V))))) := by
  have h := TriL.count (P := Tryz.prog) (c := loopN Tryz.f102 3) (e := .exit 6)
    (fun i => mnS s V n c L M ((M : Int) - 1 - (i : Nat)) (cells c (wd (restW W V (M - i)))) (cells M fun t => if M - i ≤ t then wd (W / V) t else 0)) (S' := mnS s V n c L M (-1) (cells c (wd (W % V))) (cells M (wd (W / V)))) (by simp) M (fun i hi => ?_) ?_
  · have e1 : restW W V M = W := by unfold restW; exact Nat.mod_eq_of_lt hW
    have e2 : cells M (fun t => if M - 0 ≤ t then wd (W / V) t else 0) = cells M fun _ => 0 := cells_congr fun t ht => if_neg (by omega)
    rw [e2, Nat.sub_zero, e1] at h
    simpa using h
  · obtain ⟨r, hr⟩ : ∃ r, M - i = r + 1 := ⟨M - i - 1, by omega⟩
    show Tri _ _ (mnS s V n c L M ((M : Int) - 1 - (i : Nat)) (cells c (wd (restW W V (M - i)))) (cells M fun t => if M - i ≤ t then wd (W / V) t else 0)) (to _ (mnS s V n c L M ((M : Int) - 1 - ((i + 1 : Nat) : Int)) (cells c (wd (restW W V (M - (i + 1))))) (cells M fun t => if M - (i + 1) ≤ t then wd (W / V) t else 0)))
    rw [show M - (i + 1) = r by omega, hr, show (M : Int) - 1 - (i : Nat) = (r : Nat) by omega]
    have key := mn_round (s := s) (V := V) (n := n) (c := c) (L := L) (M := M) (j := r) (W := W) (j' := (M : Int) - 1 - ((i + 1 : Nat) : Int)) (G := fun t => if r + 1 ≤ t then wd (W / V) t else 0) hn2 hn (by omega) (by omega) (by omega) (by omega) hV hV2 (by omega)
    have hq : (fun t => if t = r then wd (W / V) r else if r + 1 ≤ t then wd (W / V) t else 0) = fun t => if r ≤ t then wd (W / V) t else 0 := funext fun t => by
      by_cases h1 : t = r
      · rw [if_pos h1, if_pos (by omega), h1]
      · rw [if_neg h1]
        by_cases h2 : r + 1 ≤ t
        · rw [if_pos h2, if_pos (by omega)]
        · rw [if_neg h2, if_neg (by omega)]
    rw [hq] at key
    exact key
  · show Tri _ _ (mnS s V n c L M ((M : Int) - 1 - (M : Nat)) (cells c (wd (restW W V (M - M)))) (cells M fun t => if M - M ≤ t then wd (W / V) t else 0)) _
    have e : cells M (fun t => if M - M ≤ t then wd (W / V) t else 0) = cells M (wd (W / V)) := cells_congr fun t _ => if_pos (by omega)
    rw [e, Nat.sub_self, restW_zero, show (M : Int) - 1 - (M : Nat) = -1 by omega]
    exact mn_end (by omega)

noncomputable def quoC : Code := bodyOf Tryz.f102
def q1S (A na s V n : Nat) : St := ⟨slots 307 [(0, tk A na), (9, i6 s), (11, tk V n)], []⟩
theorem q_seg1 {A na B n n1 s w x V : Nat} {z : Int} (hn1 : n1 + 1 = n) (hn2 : n ≠ 1) (hn : n < 1000) (hz : ¬ z < 0) (hw : wd B n1 = w) (hcmp : MC Tryz.prog 44 [tk A na, tk B n] [] (i6 z) [])
    (h1 : TriL Tryz.prog (loopN Tryz.f102 1) (s1S A na B n 0 w) (to (.exit 2) (s1S A na B n s x))) (hl : MC Tryz.prog 49 [tk B n, i6 s] [] (tk V n) []) :
    TriN Tryz.prog (takeS 6 quoC) ⟨[tk A na, tk B n] ++ List.replicate ((Tryz.f102).ntmps - [tk A na, tk B n].length) undef, []⟩ (to .normal (q1S A na s V n)) := by
  have o1 : word32 B ((n1 : Nat) : Int).toNat = u3 w := by rw [tk_get, hw]
  exact TriN.run mixed [0, 9, 11] 0 [.ab (i6 z), .tst false, .tst false, .at 4 (i6 n1), .is 1 (u3 w), .cut s1L (.exit 2) (s1S A na B n s x), .ab (tk V n)]
    (tsC (tF (p := z < 0) hz) <| tsC (tF (p := (n : Int) = 1) (by omega)) <| tsC (wrapN (n := (n : Int) - 1) (m := n1) (by omega) (by omega)) <| tsC (ltI (j := n1) (n := n) (by omega)) ts0)
    (qs4 hcmp o1 h1 hl) (by kernel_rfl)
/-- What stands behind the append. -/
def q2S (A na s V n W l k : Nat) : St := ⟨slots 307 [(0, tk A na), (9, i6 s), (11, tk V n), (12, rsl 0 l k), (89, tk A na), (90, i6 s), (91, tk W l), (92, rsl 0 l k)], [⟨(List.range l).map (word32 W) ++ List.replicate (k - l) (.int .u32 0), 77, true⟩]⟩
theorem q_seg2 {A na s V n W l : Nat} (hl1 : 1 ≤ l) (hl : l < 1000) (h : MC Tryz.prog 49 [tk A na, i6 s] [] (tk W l) []) :
    Tri Tryz.prog (headS (dropS 6 quoC)) (q1S A na s V n) (fun e S' => e = .normal ∧ ∃ k, l ≤ k ∧ S' = q2S A na s V n W l k) :=
  Tri.of_evGC (p := 3) (ans1 := [.ab (tk W l)]) (ans2 := []) (S2 := q2S A na s V n W l) fun k hk => ⟨conj [Nat.ble 1 l && Nat.ble l 140737488355328 && Nat.ble (l * 4) 140737488355328], _, by
    rw [Nat.ble_eq_true_of_le hl1, Nat.ble_eq_true_of_le (by omega), Nat.ble_eq_true_of_le (by omega)]
    rfl, qs1 h, by kernel_rfl⟩
theorem grown {W l k : Nat} (hW : W < 2 ^ (32 * l)) (hk : l ≤ k) : (List.range l).map (word32 W) ++ List.replicate (k - l) (Value.int .u32 0) = cells k (wd W) := by
  apply List.ext_getElem?
  intro i
  unfold cells
  by_cases h : i < l
  · rw [List.getElem?_append_left (by simpa using h), List.getElem?_map, List.getElem?_map, List.getElem?_range h, List.getElem?_range (by omega)]
    rfl
  · rw [List.getElem?_append_right (by simpa using h), List.getElem?_map]
    simp only [List.length_map, List.length_range]
    by_cases h2 : i < k
    · rw [List.getElem?_range h2, List.getElem?_replicate, if_pos (by omega)]
      show some (Value.int .u32 0) = some (Value.int .u32 ((wd W i : Nat) : Int))
      rw [wd_eq_zero (Nat.lt_of_lt_of_le hW (Nat.pow_le_pow_right (by omega) (by omega)))]
      rfl
    · rw [List.getElem?_eq_none (by simp; omega), List.getElem?_eq_none (by simp; omega)]
      rfl
def q3S (A na s V n l k : Nat) (U : List Value) : St := ⟨slots 307 [(0, tk A na), (9, i6 s), (11, tk V n), (12, rsl 0 l k), (13, i6 n)], [⟨U, 77, true⟩]⟩
def q3L : List Nat := [0, 9, 11, 12, 13]
theorem q_seg3 {A na s V n W l k : Nat} (hW : W < 2 ^ (32 * l)) (hk : l ≤ k) : Tri Tryz.prog (headS (dropS 7 quoC)) (q2S A na s V n W l k) (to .normal (q3S A na s V n l k (cells k (wd W)))) := by
  rw [← grown hW hk]
  exact Tri.go mixed q3L [] ts0 qs0 (by kernel_rfl)
theorem q_leave {A na s V n l k : Nat} {U : List Value} (h : ¬ l ≤ na) : Tri Tryz.prog (loopN Tryz.f102 2) (q3S A na s V n l k U) (to (.exit 4) (q3S A na s V n l k U)) :=
  Tri.go mixed q3L [.tst false] (tsC (tF (p := (l : Int) ≤ (na : Int)) (by omega)) ts0) qs0 (by kernel_rfl)
theorem q_room {A na s V n l l1 k : Nat} {U : Nat → Nat} (h : l ≤ na) (h1 : l + 1 = l1) (hk : l1 ≤ k) (hU : U l = 0) : TriB Tryz.prog 0 (loopN Tryz.f102 2) (q3S A na s V n l k (cells k U)) (to .normal (q3S A na s V n l1 k (cells k U))) := by
  subst h1
  have e : (cells k U).set (0 + ((l : Nat) : Int).toNat * 1) (u3 0) = cells k U := by
    unfold u3
    rw [cells_set]
    refine cells_congr fun t _ => ?_
    split
    · rename_i h; rw [h, hU]
    · rfl
  have key : TriB Tryz.prog 0 (loopN Tryz.f102 2) (q3S A na s V n l k (cells k U)) (to .normal (q3S A na s V n (l + 1) k ((cells k U).set (0 + ((l : Nat) : Int).toNat * 1) (u3 0)))) :=
    TriB.run mixed q3L [0] [.tst true]
      (tsC (tT (p := (l : Int) ≤ (na : Int)) (by omega)) <| tsC (b := decide (l + 1 ≤ k) && true && decide (0 + l * 1 + 1 * 1 ≤ (cells k U).length)) (by rw [decide_eq_true (by omega), decide_eq_true (by rw [cells_len]; omega)]; rfl) <| tsC (b := ((cells k U).set (0 + ((l : Nat) : Int).toNat * 1) (u3 0)).all (sameIx [0])) (by rw [e]; exact same_cells k U [0]) ts0)
      qs0 (by kernel_rfl)
  rw [e] at key
  exact key
/-- After the append that found no room. -/
def q4S (A na s V n l l1 k k2 : Nat) (U U2 : List Value) : St := ⟨slots 307 [(0, tk A na), (9, i6 s), (11, tk V n), (12, rsl 1 l1 k2), (13, i6 n), (100, rsl 0 l k), (101, tk 0 1), (102, rsl 1 l1 k2)], [⟨U, 77, true⟩, ⟨U2, 77, true⟩]⟩
theorem q_more {A na s V n l l1 k : Nat} {U : Nat → Nat} (h : l ≤ na) (hna : na < 1000) (h1 : l + 1 = l1) (hk : k = l) (hU : ∀ t, l ≤ t → U t = 0) :
    TriB Tryz.prog 0 (loopN Tryz.f102 2) (q3S A na s V n l k (cells k U)) (fun e S' => e = .normal ∧ ∃ k2, l1 ≤ k2 ∧ S' = q4S A na s V n l l1 k k2 (cells k U) (cells k2 U)) := by
  subst h1
  have hc : ∀ k2, l + 1 ≤ k2 → ((cells k U).drop 0).take l ++ (List.range 1).map (word32 0) ++ List.replicate (k2 - (l + 1)) (Value.int .u32 0) = cells k2 U := fun k2 hk2 => by
    rw [List.drop_zero, List.take_of_length_le (by rw [cells_len]; omega)]
    subst hk
    apply List.ext_getElem?
    intro i
    unfold cells
    rw [List.append_assoc]
    by_cases h : i < k
    · rw [List.getElem?_append_left (by simpa using h), List.getElem?_map, List.getElem?_map, List.getElem?_range h, List.getElem?_range (by omega)]
    · rw [List.getElem?_append_right (by simpa using h), List.getElem?_map]
      simp only [List.length_map, List.length_range]
      have hone : (List.range 1).map (word32 0) = List.replicate 1 (Value.int .u32 0) := rfl
      rw [hone, List.replicate_append_replicate, List.getElem?_replicate]
      by_cases h2 : i < k2
      · rw [List.getElem?_range h2, if_pos (by omega)]
        show some (Value.int .u32 0) = some (Value.int .u32 ((U i : Nat) : Int))
        rw [hU i (by omega)]
        rfl
      · rw [List.getElem?_eq_none (by simp; omega), if_neg (by omega)]
        rfl
  refine TriB.one (S1 := q3S A na s V n l k (cells k U)) rfl (TriB.of (Tri.go mixed q3L [.tst true] (tsC (tT (p := (l : Int) ≤ (na : Int)) (by omega)) ts0) qs0 (by kernel_rfl))) ?_
  have e : dropS 1 (loopN Tryz.f102 2) = .block 5 (inB (dropS 1 (loopN Tryz.f102 2))) := by kernel_rfl
  rw [e]
  refine TriB.blockN (TriB.of (Tri.mono (Tri.of_evGC (p := 2) (need := l + 1) (ans1 := [.tk 0]) (ans2 := []) (S2 := fun k2 => q4S A na s V n l (l + 1) k k2 (cells k U) (((cells k U).drop 0).take l ++ (List.range 1).map (word32 0) ++ List.replicate (k2 - (l + 1)) (Value.int .u32 0))) fun k2 hk2 => ⟨conj [Nat.ble (k + 1) (l + 1) && Nat.ble (0 + l) (cells k U).length && Nat.ble (l + 1) 140737488355328 && Nat.ble ((l + 1) * 4) 140737488355328], _, by
    rw [Nat.ble_eq_true_of_le (by omega), Nat.ble_eq_true_of_le (by rw [cells_len]; omega), Nat.ble_eq_true_of_le (by omega), Nat.ble_eq_true_of_le (by omega)]
    rfl, qs1 (rfl : [Value.int .u32 0] = (List.range 1).map (word32 0)), by kernel_rfl⟩) fun e S' => ?_))
  rintro ⟨h1, k2, h2, h3⟩
  refine ⟨h1, k2, h2, ?_⟩
  rw [hc k2 h2] at h3
  exact h3
theorem q_leave2 {A na s V n l l1 k k2 : Nat} {U U2 : Nat → Nat} (h : ¬ l1 ≤ na) : TriB Tryz.prog 0 (loopN Tryz.f102 2) (q4S A na s V n l l1 k k2 (cells k U) (cells k2 U2)) (to (.exit 4) (q3S A na s V n l1 k2 (cells k2 U2))) :=
  TriB.run mixed q3L [1] [.tst false] (tsC (tF (p := (l1 : Int) ≤ (na : Int)) (by omega)) <| tsC (same_cells k2 U2 [1]) ts0) qs0 (by kernel_rfl)
/-- The second loop: room for one word more. -/
theorem q_loop2 {A na s V n W l k : Nat} (hna : na < 1000) (hl : l = na ∨ l = na + 1) (hk : l ≤ k) (hW : W < 2 ^ (32 * l)) :
    TriB Tryz.prog 0 (headS (dropS 8 quoC)) (q3S A na s V n l k (cells k (wd W))) (fun e S' => e = .normal ∧ ∃ k2, na + 1 ≤ k2 ∧ S' = q3S A na s V n (na + 1) k2 (cells k2 (wd W))) := by
  have e : headS (dropS 8 quoC) = .block 4 (.loop (loopN Tryz.f102 2)) := by kernel_rfl
  rw [e]
  have hz : ∀ t, l ≤ t → wd W t = 0 := fun t ht => wd_eq_zero (Nat.lt_of_lt_of_le hW (Nat.pow_le_pow_right (by omega) (by omega)))
  have hleave : ∀ k, na + 1 ≤ k → TriLB Tryz.prog 0 (loopN Tryz.f102 2) (q3S A na s V n (na + 1) k (cells k (wd W))) (fun e S' => e = .exit 4 ∧ ∃ k2, na + 1 ≤ k2 ∧ S' = q3S A na s V n (na + 1) k2 (cells k2 (wd W))) := fun k hk => by
    refine TriLB.mono (TriLB.leave (TriB.of (q_leave (by omega)))) ?_
    rintro e S' ⟨h1, h2⟩
    exact ⟨h1, k, hk, h2⟩
  refine TriB.blockE (TriLB.tri ?_)
  rcases hl with rfl | rfl
  · by_cases hr : l + 1 ≤ k
    · exact TriLB.again (q_room (Nat.le_refl _) rfl hr (hz l (Nat.le_refl _))) (hleave k hr)
    · refine TriLB.againE (q_more (Nat.le_refl _) hna rfl (by omega) hz) (fun _ _ h => h.1) ?_
      rintro S1 ⟨_, k2, h2, rfl⟩
      refine TriLB.mono (TriLB.leave (q_leave2 (by omega))) ?_
      rintro e S' ⟨h1, h3⟩
      exact ⟨h1, k2, h2, h3⟩
  · exact hleave k hk
def q5S (s V n L k M m : Nat) (U g : List Value) : St := ⟨slots 307 [(9, i6 s), (11, tk V n), (12, rsl 0 L k), (13, i6 n), (14, i6 m), (15, rsl 1 M M)], [⟨U, 77, true⟩, ⟨g, 77, true⟩]⟩
def q5T (s V n L k m : Nat) (U : List Value) : St := ⟨slots 307 [(9, i6 s), (11, tk V n), (12, rsl 0 L k), (13, i6 n), (14, i6 m)], [⟨U, 77, true⟩]⟩
theorem q_seg9 {A na s V n L k M m : Nat} {U : List Value} (h1 : M + n = L) (h2 : m + 1 = M) (hL : L < 1000) : Tri Tryz.prog (headS (dropS 9 quoC)) (q3S A na s V n L k U) (to .normal (q5T s V n L k m U)) :=
  Tri.go mixed [9, 11, 12, 13, 14] [.at 3 (i6 M), .at 0 (i6 m)] (tsC (wrapN (n := (L : Int) - (n : Int)) (m := M) (by omega) (by omega)) <| tsC (wrapN (n := (M : Int) - 1) (m := m) (by omega) (by omega)) ts0) qs0 (by kernel_rfl)
theorem q_seg10 {s V n L k M m : Nat} {U : List Value} (h2 : m + 1 = M) (hM : M < 1000) : Tri Tryz.prog (headS (dropS 10 quoC)) (q5T s V n L k m U) (to .normal (q5S s V n L k M m U (cells M fun _ => 0))) := by
  rw [← cells_rep]
  exact Tri.go mixed [9, 11, 12, 13, 14, 15] [.at 1 (i6 M)] (tsC (wrapN (n := (m : Int) + 1) (m := M) (by omega) (by omega)) <| tsC (mkOk (n := M) (by omega)) ts0) qs0 (by kernel_rfl)
theorem q_seg11 {s V n L k M m : Nat} {U U2 g g2 : List Value} (h : TriL Tryz.prog (loopN Tryz.f102 3) (mnS s V n k L M (m : Int) U g) (to (.exit 6) (mnS s V n k L M (-1) U2 g2))) :
    Tri Tryz.prog (headS (dropS 11 quoC)) (q5S s V n L k M m U g) (to .normal (mnS s V n k L M (-1) U2 g2)) :=
  Tri.go mixed mnL [.cut mnL (.exit 6) (mnS s V n k L M (-1) U2 g2)] ts0 (qs1 h) (by kernel_rfl)
/-- Nobody writes the words any more. -/
def q6S (s L M R Q : Nat) : St := ⟨slots 307 [(9, i6 s), (12, tk R L), (15, tk Q M)], []⟩
theorem q_freeze {c : Code} {S : St} {s V n L k M R Q : Nat} (hk : L ≤ k) (h : TriB Tryz.prog 0 c S (to .normal (mnS s V n k L M (-1) (cells k (wd R)) (cells M (wd Q))))) : TriB Tryz.prog 0 c S (to .normal (q6S s L M R Q)) := by
  refine TriB.freeze h (PW_slots fun i _ => ?_) rfl
  by_cases h9 : i = 9
  · subst h9
    exact .inl (.inr (.inr (Frz1.ofAbs rfl)))
  by_cases h12 : i = 12
  · subst h12
    exact .inl (Frz.rsl (k := 0) (C := out k (wd R)) rfl rfl hk)
  by_cases h15 : i = 15
  · subst h15
    exact .inl (Frz.rsl (k := 1) (C := out M (wd Q)) rfl rfl (Nat.le_refl M))
  · refine .inr ?_
    have b : ∀ n, ¬ i = n → Nat.beq n i = false := fun n h => by
      cases e : Nat.beq n i with
      | false => rfl
      | true => exact absurd (Nat.eq_of_beq_eq_true e).symm h
    simp [slot, b 9 h9, b 12 h12, b 15 h15]
def q7S (Q nQ R nR : Nat) : St := ⟨slots 307 [(4, tk Q nQ), (5, tk R nR)], []⟩
theorem q_seg12 {s L M R Q nR nQ R2 nR2 : Nat} {l : Bool} (h1 : MC Tryz.prog 77 [tk R L] [] (tk R nR) []) (h2 : MC Tryz.prog 50 [tk R nR, i6 s] [] (.tuple #[tk R2 nR2, .bool l]) []) (h3 : MC Tryz.prog 77 [tk Q M] [] (tk Q nQ) []) :
    Tri Tryz.prog (dropS 12 quoC) (q6S s L M R Q) (to .ret (q7S Q nQ R2 nR2)) :=
  Tri.go mixed [4, 5] [.ab (tk R nR), .ab (.tuple #[tk R2 nR2, .bool l]), .ab (tk Q nQ)] ts0 (qs3 h1 h2 h3) (by kernel_rfl)
theorem enters_quo : ∀ us w, (callFunc 102 us).run Tryz.prog w = .ok (.enter 102 us) w := enters Tryz.func102 rfl (by kernel_rfl)
theorem q_has (n : Nat) (h : n ≤ 12) : hasS 1 (dropS n quoC) = true := by
  have : (List.range 13).all (fun n => hasS 1 (dropS n quoC)) = true := by kernel_rfl
  exact List.all_eq_true.1 this n (List.mem_range.2 (by omega))
theorem dropS_add : ∀ (n : Nat) (c : Code), hasS n c = true → dropS 1 (dropS n c) = dropS (n + 1) c
  | 0, _, _ => rfl
  | n + 1, .seq _ b, h => dropS_add n b h
/-- Divided: more than one word. -/
theorem quo_long {A B : Nat} (hB : B ≤ A) (hn : 2 ≤ nw B) (hna : nw A < 400) :
    MC Tryz.prog 102 [tk A (nw A), tk B (nw B)] [] (.tuple #[tk (A / B) (nw (A / B)), tk (A % B) (nw (A % B))]) [] := by
  have hB0 : B ≠ 0 := by
    intro e
    subst e
    rw [nw_zero] at hn
    omega
  have hle : nw B ≤ nw A := nw_mono hB
  obtain ⟨t1, t2, t3, t4, t5⟩ := topShift hB0
  have hwt := wd_top t1
  have hw0 := (nw_top t1).1
  rw [← hwt] at hw0
  have h1 := s1_loop (A := A) (na := nw A) (B := B) (nb := nw B) (wd_lt B (nw B - 1)) hw0
  obtain ⟨s, hs⟩ : ∃ s : Nat, s = 32 - bitLen (wd B (nw B - 1)) := ⟨_, rfl⟩
  rw [← hs] at t4 t5 h1
  have hs31 : s ≤ 31 := by omega
  have hlB := left_t (A := B) (n := s) (lt_nw B) (by omega) (by omega)
  have hlA := left_t (A := A) (n := s) (lt_nw A) (by omega) (by omega)
  have hpos : 0 < 2 ^ s := Nat.two_pow_pos s
  have hS : 2 ^ s ≤ 2147483648 := Nat.pow_le_pow_right (n := 2) (by omega) hs31
  have hNS : 2 ^ (32 * (nw B - 1)) * 2147483648 ≤ B * 2 ^ s := by
    have h1 : wd (B * 2 ^ s) (nw B - 1) ≤ B * 2 ^ s / 2 ^ (32 * (nw B - 1)) := Nat.mod_le _ _
    have h2 := (Nat.le_div_iff_mul_le (Nat.two_pow_pos (32 * (nw B - 1)))).1 (Nat.le_trans t5 h1)
    rw [Nat.mul_comm]; exact h2
  have hrl := rounds_lt (M := A) (N := B) (S := 2 ^ s) hS hNS
  have hnV : nw (B * 2 ^ s) = nw B := Nat.le_antisymm (nw_le t4) (nw_mono (Nat.le_mul_of_pos_right B hpos))
  have hW1 : nw A ≤ nw (A * 2 ^ s) := nw_mono (Nat.le_mul_of_pos_right A hpos)
  have hW2 : nw (A * 2 ^ s) ≤ nw A + 1 := by
    refine nw_le ?_
    rw [pow_succ32]
    exact Nat.mul_lt_mul'' (lt_nw A) (by omega)
  rw [hnV] at hlB
  have hWlt := lt_nw (A * 2 ^ s)
  have hdiv : A * 2 ^ s / (B * 2 ^ s) = A / B := Nat.mul_div_mul_right _ _ hpos
  have hmod : A * 2 ^ s % (B * 2 ^ s) = A % B * 2 ^ s := Nat.mul_mod_mul_right _ _ _
  -- the results
  have hVlt : A % B * 2 ^ s < 2 ^ (32 * (nw A + 1)) := by
    refine Nat.lt_of_le_of_lt (Nat.mul_le_mul_right _ (Nat.mod_le A B)) ?_
    rw [pow_succ32]
    exact Nat.mul_lt_mul'' (lt_nw A) (by omega)
  have hQlt : A / B < 2 ^ (32 * (nw A + 1 - nw B)) := by
    rw [← hdiv]
    exact Nat.div_lt_of_lt_mul hrl
  have r1 := trim_t hVlt (by omega)
  have r2 := right_t (A := A % B * 2 ^ s) (n := s) (Nat.lt_of_le_of_lt (nw_le (Nat.lt_of_lt_of_le (Nat.mul_lt_mul_of_pos_right (Nat.mod_lt A (by omega)) hpos) (Nat.le_of_lt t4))) (by omega))
  rw [Nat.mul_div_cancel _ hpos] at r2
  have r3 := trim_t hQlt (by omega)
  refine MC.of_body Tryz.func102 (c := quoC) (by kernel_rfl) (S := q7S (A / B) (nw (A / B)) (A % B) (nw (A % B))) (x := .ret) ?_ rfl (by kernel_rfl) rfl enters_quo
  refine TriB.segs 6 (by kernel_rfl) (q_seg1 (z := rcmp A B) (n1 := nw B - 1) (by omega) (by omega) (by omega) (by unfold rcmp; split <;> omega) rfl (cmp_t (by omega)) h1 hlB) ?_
  refine TriB.first (q_has 6 (by omega)) (TriB.of (q_seg2 (by omega) (by omega) hlA)) (fun _ _ h => h.1) ?_
  rintro S1 ⟨_, k, hk, rfl⟩
  rw [dropS_add 6 quoC (by kernel_rfl)]
  refine TriB.one (q_has 7 (by omega)) (TriB.of (q_seg3 hWlt hk)) ?_
  rw [dropS_add 7 quoC (by kernel_rfl)]
  refine TriB.first (q_has 8 (by omega)) (q_loop2 (by omega) (by omega) hk hWlt) (fun _ _ h => h.1) ?_
  rintro S1 ⟨_, k2, hk2, rfl⟩
  rw [dropS_add 8 quoC (by kernel_rfl)]
  refine TriB.one (q_has 9 (by omega)) (TriB.of (q_seg9 (M := nw A + 1 - nw B) (m := nw A - nw B) (by omega) (by omega) (by omega))) ?_
  rw [dropS_add 9 quoC (by kernel_rfl)]
  refine TriB.one (q_has 10 (by omega)) (TriB.of (q_seg10 (M := nw A + 1 - nw B) (by omega) (by omega))) ?_
  rw [dropS_add 10 quoC (by kernel_rfl)]
  have hloop := mn_loop (s := s) (V := B * 2 ^ s) (n := nw B) (c := k2) (L := nw A + 1) (M := nw A + 1 - nw B) (W := A * 2 ^ s) hn (by omega) (by omega) (by omega) hk2 t4 t5 hrl
  rw [show ((nw A + 1 - nw B : Nat) : Int) - 1 = ((nw A - nw B : Nat) : Int) by omega, hdiv, hmod] at hloop
  refine TriB.one (q_has 11 (by omega)) (q_freeze hk2 (TriB.of (q_seg11 hloop))) ?_
  rw [dropS_add 11 quoC (by kernel_rfl)]
  exact TriB.of (q_seg12 r1 r2 r3)
/-! ### One word; nothing to divide -/
theorem quo_less {A B : Nat} (h : A < B) (hna : nw A < 1000) :
    MC Tryz.prog 102 [tk A (nw A), tk B (nw B)] [] (.tuple #[tk (A / B) (nw (A / B)), tk (A % B) (nw (A % B))]) [] := by
  have e1 : A / B = 0 := Nat.div_eq_of_lt h
  have e2 : A % B = A := Nat.mod_eq_of_lt h
  have hc := cmp_t (A := A) (B := B) hna
  have hz : rcmp A B < 0 := by unfold rcmp; rw [if_pos h]; decide
  rw [e1, e2, nw_zero]
  generalize rcmp A B = z at *
  exact AC.runN mixed Tryz.func102 [.ab (i6 z), .tst true] (tsC (tT (p := z < 0) hz) ts0) (qs1 hc) (fun _ => Frz.pair (.inr (Frz1.nil 0)) (Frz2.ofAbs rfl)) enters_quo (by kernel_rfl)
def sdW (A B na i t : Nat) : Nat := if na - i ≤ t then wd (A / B) t else 0
theorem sd_loop {A na B : Nat} (hA : A < 2 ^ (32 * na)) (hB : B < 4294967296) (hB0 : B ≠ 0) (hna : na < 1000) :
    TriL Tryz.prog (loopN Tryz.f102 0) (sdS A na B 0 ((na : Int) - 1) (cells na fun _ => 0)) (to (.exit 0) (sdS A na B (A % B) (-1) (cells na (wd (A / B))))) := by
  have hwB : wd B 0 = B := by
    unfold wd
    rw [Nat.mul_zero, Nat.pow_zero, Nat.div_one, Nat.mod_eq_of_lt hB]
  have h := TriL.count (P := Tryz.prog) (c := loopN Tryz.f102 0) (e := .exit 0)
    (fun i => sdS A na B (A / 2 ^ (32 * (na - i)) % B) ((na : Int) - 1 - (i : Nat)) (cells na (sdW A B na i))) (S' := sdS A na B (A % B) (-1) (cells na (wd (A / B)))) (by simp) na (fun i hi => ?_) ?_
  · have e1 : A / 2 ^ (32 * (na - 0)) % B = 0 := by rw [Nat.sub_zero, Nat.div_eq_of_lt hA, Nat.zero_mod]
    have e2 : cells na (sdW A B na 0) = cells na fun _ => 0 := cells_congr fun t ht => if_neg (by omega)
    rw [e2, e1] at h
    simpa using h
  · obtain ⟨r, hr⟩ : ∃ r, na - i = r + 1 := ⟨na - i - 1, by omega⟩
    show Tri _ _ (sdS A na B (A / 2 ^ (32 * (na - i)) % B) ((na : Int) - 1 - (i : Nat)) (cells na (sdW A B na i))) (to _ (sdS A na B (A / 2 ^ (32 * (na - (i + 1))) % B) ((na : Int) - 1 - ((i + 1 : Nat) : Int)) (cells na (sdW A B na (i + 1)))))
    rw [show na - (i + 1) = r by omega, hr, show (na : Int) - 1 - (i : Nat) = (r : Nat) by omega]
    have hw := wd_lt A r
    have hZ : A / 2 ^ (32 * r) = A / 2 ^ (32 * (r + 1)) * 4294967296 + wd A r := by
      have := wd_div A r
      exact this
    have hm1 : A / 2 ^ (32 * (r + 1)) % B < B := Nat.mod_lt _ (by omega)
    have hor : (A / 2 ^ (32 * (r + 1)) % B * 4294967296 ||| wd A r) = A / 2 ^ (32 * (r + 1)) % B * 4294967296 + wd A r := by
      have := or_add (a := A / 2 ^ (32 * (r + 1)) % B) (b := wd A r) (k := 32) hw
      rw [Nat.mul_comm] at this
      exact this
    have hy : (A / 2 ^ (32 * (r + 1)) % B * 4294967296 + wd A r) % B = A / 2 ^ (32 * r) % B := by
      rw [hZ, Nat.add_mod, Nat.mod_mul_mod, ← Nat.add_mod]
    have hd : (A / 2 ^ (32 * (r + 1)) % B * 4294967296 + wd A r) / B % 4294967296 = wd (A / B) r := by
      have e3 : A / 2 ^ (32 * r) / B = A / B / 2 ^ (32 * r) := by rw [Nat.div_div_eq_div_mul, Nat.mul_comm, ← Nat.div_div_eq_div_mul]
      rw [show wd (A / B) r = A / 2 ^ (32 * r) / B % 4294967296 by rw [e3]; rfl, hZ]
      have e4 := Nat.div_add_mod (A / 2 ^ (32 * (r + 1))) B
      generalize A / 2 ^ (32 * (r + 1)) = X at *
      have e5 : X * 4294967296 + wd A r = (X % B * 4294967296 + wd A r) + X / B * 4294967296 * B := by
        conv => lhs; rw [← e4]
        rw [Nat.add_mul, show B * (X / B) * 4294967296 = X / B * 4294967296 * B by ac_rfl]
        omega
      rw [e5, Nat.add_mul_div_right _ _ (by omega), Nat.add_mul_mod_self_right]
    generalize A / 2 ^ (32 * (r + 1)) % B = x at *
    have key := sd_round (A := A) (na := na) (B := B) (r := x) (i := r) (a := wd A r) (b := B) (c := x * 4294967296) (y := x * 4294967296 + wd A r) (lo := wd (A / B) r) (r2 := A / 2 ^ (32 * r) % B) (m := na) (i' := (na : Int) - 1 - ((i + 1 : Nat) : Int)) (f := sdW A B na i)
      (by omega) (by omega) rfl hwB hw hB hB0 rfl (by omega) hor (by omega) rfl hd hy (by omega) hna
    have hf : (fun t => if t = r then wd (A / B) r else sdW A B na i t) = sdW A B na (i + 1) := funext fun t => by
      unfold sdW
      by_cases h1 : t = r
      · rw [if_pos h1, if_pos (by omega), h1]
      · rw [if_neg h1]
        by_cases h2 : na - i ≤ t
        · rw [if_pos h2, if_pos (by omega)]
        · rw [if_neg h2, if_neg (by omega)]
    rw [hf] at key
    exact key
  · show Tri _ _ (sdS A na B (A / 2 ^ (32 * (na - na)) % B) ((na : Int) - 1 - (na : Nat)) (cells na (sdW A B na na))) _
    have e : cells na (sdW A B na na) = cells na (wd (A / B)) := cells_congr fun t _ => if_pos (by omega)
    rw [e, Nat.sub_self, Nat.mul_zero, Nat.pow_zero, Nat.div_one, show (na : Int) - 1 - (na : Nat) = -1 by omega]
    exact sd_end (by omega)
theorem quo_short_fn {A na B r t nr N : Nat} {z i0 : Int} (hz : ¬ z < 0) (hi0 : i0 = (na : Int) - 1) (hr : r < 4294967296) (hna : na < 1000) (hc : MC Tryz.prog 44 [tk A na, tk B 1] [] (i6 z) [])
    (hl : TriL Tryz.prog (loopN Tryz.f102 0) (sdS A na B 0 i0 (List.replicate (((na : Nat) : Int)).toNat (Value.int .u32 0))) (to (.exit 0) (sdS A na B r (-1) (cells na (wd N)))))
    (ht : MC Tryz.prog 77 [rsl 0 na na] [out na (wd N)] (rsl 0 t na) [out na (wd N)]) (ht2 : MC Tryz.prog 77 [tk r 1] [] (tk r nr) []) (hle : t ≤ na) :
    MC Tryz.prog 102 [tk A na, tk B 1] [] (.tuple #[tk N t, tk r nr]) [] := by
  have hw : wd r 0 = r := by
    unfold wd
    rw [Nat.mul_zero, Nat.pow_zero, Nat.div_one, Nat.mod_eq_of_lt hr]
  have o1 : [Value.int .u32 ((r : Nat) : Int)] = (List.range 1).map (word32 r) := by
    show _ = [word32 r ((0 : Nat) : Int).toNat]
    rw [tk_get, hw]
    rfl
  exact AC.run mixed Tryz.func102 [.ab (i6 z), .tst false, .auto, .at 7 (i6 i0), .cut sdL (.exit 0) (sdS A na B r (-1) (cells na (wd N))), .mem (rsl 0 t na) [out na (wd N)], .at 2 (u3 r), .tk r, .ab (tk r nr)]
    (tsC (tF (p := z < 0) hz) <| tsC (mkOk (n := na) (by omega)) <| tsC (dec1 hi0 (by omega)) <| tsC (wrap32 (Nat.mod_eq_of_lt hr)) ts0)
    (qs5 hc hl ht o1 ht2) (Frz.pair (.inr (Frz1.rsl (mem := [out na (wd N)]) (k := 0) (C := out na (wd N)) rfl rfl hle)) (Frz2.ofAbs rfl)) enters_quo (by kernel_rfl)
theorem quo_short {A B : Nat} (hB : B ≤ A) (hn : nw B = 1) (hna : nw A < 400) :
    MC Tryz.prog 102 [tk A (nw A), tk B (nw B)] [] (.tuple #[tk (A / B) (nw (A / B)), tk (A % B) (nw (A % B))]) [] := by
  have hBl := lt_nw B
  rw [hn] at hBl
  have hB1 : B < 4294967296 := hBl
  have hB0 : B ≠ 0 := by
    intro e
    subst e
    rw [nw_zero] at hn
    omega
  have hc := cmp_t (A := A) (B := B) (by omega)
  have hl := sd_loop (lt_nw A) hB1 hB0 (by omega)
  rw [← cells_rep] at hl
  have hQ : A / B < 2 ^ (32 * nw A) := Nat.lt_of_le_of_lt (Nat.div_le_self _ _) (lt_nw A)
  have hm : A % B < 4294967296 := Nat.lt_trans (Nat.mod_lt _ (by omega)) hB1
  have ht := trim_at (C := blk true (nw A) (A / B)) (mem := [blk true (nw A) (A / B)]) (k := 0) hQ (Nat.le_refl _) (by omega) rfl rfl
  have ht2 := trim_t (N := A % B) (n := 1) hm (by omega)
  rw [hn] at hc ⊢
  exact quo_short_fn (z := rcmp A B) (by unfold rcmp; split <;> omega) rfl hm (by omega) hc hl ht ht2 (nw_le hQ)
/-- Divided: what comes out, and what is left. -/
theorem quo_t {A B : Nat} (hB0 : B ≠ 0) (hna : nw A < 400) :
    MC Tryz.prog 102 [tk A (nw A), tk B (nw B)] [] (.tuple #[tk (A / B) (nw (A / B)), tk (A % B) (nw (A % B))]) [] := by
  by_cases h : A < B
  · exact quo_less h (by omega)
  · have hp := nw_pos.2 hB0
    by_cases h1 : nw B = 1
    · exact quo_short (by omega) h1 hna
    · exact quo_long (by omega) (by omega) hna
end Go.Proofs.YtljolfnpncjklaaGreat.R
