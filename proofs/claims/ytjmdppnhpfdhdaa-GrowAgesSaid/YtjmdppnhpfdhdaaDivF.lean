/-
  Long division: widenedUp, dividedBy.
-/
import Derived.Test.YtjmdppnhpfdhdaaDivE
namespace Go.Proofs.Ytjmdppnhpfdhdaa.W
open Go Go.Ev Go.Wide

theorem enters_widened : ∀ us w, (callFunc 103 us).run Try.prog w = .ok (.enter 103 us) w := enters Try.func103 rfl (by kernel_rfl)
theorem enters_divided : ∀ us w, (callFunc 92 us).run Try.prog w = .ok (.enter 92 us) w := enters Try.func92 rfl (by kernel_rfl)

/-! ### widenedUp -/
def widV (W : Nat) : Value := .agg (m17 (wd W)).toArray
def widV0 (W M s : Nat) : Value := .agg ((List.range 16).map (fun t => Value.int .u64 (wd W t)) ++ [Value.int .u64 (shrI (wd M 15) (restI s))]).toArray
theorem widened_pc {M s : Nat} (hM : M < T16) (hs : s < 64) : PC Try.prog 103 [mag M, .int .i64 s] (widV (M * 2 ^ s)) := by
  have hr := restI_eq (r := s) (by omega)
  have hnn : ¬ restI (s : Int) < 0 := by rw [hr]; omega
  refine PC.run mixed Try.func103 [.res (mag (M * 2 ^ s))] (v := widV0 (M * 2 ^ s) M s) (by simp [flat_mag]; rfl) (ts1 (tF hnn)) (qs1 (QC.of_pc enters_shiftedUp (shiftedUp_pc (c := s) hM (by omega)))) (by kernel_rfl) ?_ (by kernel_rfl)
  have e16 : (shrI (wd M 15) (restI s)) = ((wd (M * 2 ^ s) 16 : Nat) : Int) := by
    rw [hr, shrI_eq _ _ (by omega)]
    have h := wd_up M 0 s 16 hs
    rw [Nat.mul_zero, Nat.zero_add, Nat.add_zero] at h
    have hz : ∀ z, z = 16 → wd M z = 0 := fun z hz => wd_eq_zero (by rw [T16_pow hz]; exact hM)
    rw [h, hz 16 rfl, Nat.zero_mul, Nat.zero_mod, Nat.zero_add]
  unfold widV0
  rw [e16]
  rfl

/-! ### dividedBy -/
theorem set16 (q : Nat → Nat) (k v : Nat) : (q16 q).set (0 + ((k : Nat) : Int).toNat * 1) (.int .u64 v) = q16 (fun t => if t = k then v else q t) := by
  unfold q16
  rw [map_set, Int.toNat_natCast, Nat.zero_add, Nat.mul_one]
  refine List.map_congr_left fun i _ => ?_
  by_cases h : i = k
  · rw [if_pos h]; simp only [if_pos h]
  · rw [if_neg h]; simp only [if_neg h]
theorem psl_eq {i L : Nat} (h : i < 17) : Value.slice (some ⟨4, 0 + (if 17 = ((i : Nat) : Int).toNat then 0 else ((i : Nat) : Int).toNat * 1), none⟩) (((i + L + 1 : Nat) : Int).toNat - ((i : Nat) : Int).toNat) (17 - ((i : Nat) : Int).toNat) = psl i L := by
  unfold psl
  rw [Int.toNat_natCast, Int.toNat_natCast, if_neg (by omega), Nat.zero_add, Nat.mul_one, show i + L + 1 - i = L + 1 by omega]
theorem db_round {M N V L i d : Nat} {q p p' : Nat → Nat} {i' : Int} (hi : i + L < 17) (hL : 1 ≤ L) (hi' : i' = (i : Int) - 1)
    (h : MC Try.prog 104 [psl i L, dsl L] (M5 M N V (q16 q) (m17 p)) (u d) (M5 M N V (q16 q) (m17 p'))) :
    Tri Try.prog (loopN Try.f92 0) (dbS M N V L (i : Int) (q16 q) p) (to .normal (dbS M N V L i' (q16 (fun t => if t = i then d else q t)) p')) := by
  have key : Tri Try.prog (loopN Try.f92 0) (dbS M N V L (i : Int) (q16 q) p) (to .normal (dbS M N V L i' ((q16 q).set (0 + ((i : Nat) : Int).toNat * 1) (.int .u64 d)) p')) :=
    Tri.run mixed dbL [.tst true, .at 4 (.int .i64 ((i + L : Nat) : Int)), .at 0 (.int .i64 ((i + L + 1 : Nat) : Int)), .is 0 (psl i L), .mem (u d) (M5 M N V (q16 q) (m17 p')), .at 4 (.int .i64 i')]
      (tsC (tT (p := (i : Int) ≥ 0) (by omega)) <| tsC (wrapN (n := (i : Int) + (L : Int)) (m := i + L) (by omega) (by omega)) <| tsC (wrapN (n := ((i + L : Nat) : Int) + 1) (m := i + L + 1) (by omega) (by omega)) <|
        tsC (b := decide (((i + L + 1 : Nat) : Int) ≤ 17) && decide ((i : Int) ≤ ((((i + L + 1 : Nat) : Int).toNat : Nat) : Int))) (by rw [Int.toNat_natCast, decide_eq_true (by omega), decide_eq_true (by omega)]; rfl) <|
        tsC (tT (p := (i : Int) < 16) (by omega)) <| tsC (ltA (i := 0) (j := i) (n := 16) (by omega)) <| tsC (tT (p := IntKind.i64.wrap ((i : Int) - 1) = i') (by rw [hi', i64_wrap (by omega) (by omega)])) ts0)
      (qs2 (psl_eq (i := i) (L := L) (by omega)) h) (by kernel_rfl)
  rw [set16] at key
  exact key
theorem db_end {M N V L : Nat} {i : Int} {q p : Nat → Nat} (hi : i < 0) : Tri Try.prog (loopN Try.f92 0) (dbS M N V L i (q16 q) p) (to (.exit 0) (dbS M N V L i (q16 q) p)) :=
  Tri.run mixed dbL [.tst false] (tsC (tF (p := i ≥ 0) (by omega)) ts0) qs0 (by kernel_rfl)
theorem db_pc {M N V W k w s nm : Nat} {i0 i1 : Int} {q p : Nat → Nat} (hk : k < 16) (hw : wd N k = w) (hi0 : IntKind.i64.wrap ((nm : Int) - ((k + 1 : Nat) : Int)) = i0)
    (h1 : QC Try.prog 95 [mag N] (.int .i64 ((k + 1 : Nat) : Int))) (h2 : QC Try.prog 102 [u w] (.int .i64 s)) (h3 : QC Try.prog 100 [mag N, .int .i64 s] (mag V))
    (h4 : QC Try.prog 103 [mag M, .int .i64 s] (widV W)) (h5 : QC Try.prog 95 [mag M] (.int .i64 nm))
    (hl : TriL Try.prog (loopN Try.f92 0) (dbS M N V (k + 1) i0 (q16 fun _ => 0) (wd W)) (to (.exit 0) (dbS M N V (k + 1) i1 (q16 q) p))) :
    PC Try.prog 92 [mag M, mag N] (.tuple #[.agg (q16 q).toArray, .bool (eqZ ((List.range 17).map p))]) :=
  PC.run mixed Try.func92 [.res (.int .i64 ((k + 1 : Nat) : Int)), .at 3 (.int .i64 k), .is 1 (u w), .res (.int .i64 s), .res (mag V), .res (widV W), .res (.int .i64 nm), .at 2 (.int .i64 i0), .cut dbL (.exit 0) (dbS M N V (k + 1) i1 (q16 q) p)]
    (by simp [flat_mag])
    (tsC (wrapN (n := ((k + 1 : Nat) : Int) - 1) (m := k) (by omega) (by omega)) <| tsC (tT (p := (k : Int) < 16) (by omega)) <| tsC (ltA (i := 0) (j := k) (n := 16) (by omega)) <| tsC (b := decide (((k + 1 : Nat) : Int) ≤ 16) && true) (by rw [decide_eq_true (by omega)]; rfl) <| tsC (tT hi0) ts0)
    (qs7 h1 ((getWord N hk).trans (congrArg u hw)) h2 h3 h4 h5 hl) (by kernel_rfl) rfl (by kernel_rfl)

theorem db_loop {M N V L n W : Nat} {i0 : Int} (hL : 1 ≤ L) (hn : n + L ≤ 17) (hi0 : i0 = if n = 0 then i0 else (n : Int) - 1) (hneg : n = 0 → i0 < 0) (hV : V < 2 ^ (64 * L)) (hV2 : 9223372036854775808 ≤ wd V (L - 1)) (hW : W < V * 2 ^ (64 * n)) :
    ∃ i1, TriL Try.prog (loopN Try.f92 0) (dbS M N V L i0 (q16 fun _ => 0) (wd W)) (to (.exit 0) (dbS M N V L i1 (q16 (wd (W / V))) (wd (W % V)))) := by
  have hV0 : 0 < V := by
    rcases Nat.eq_zero_or_pos V with e | e
    · subst e; rw [Nat.zero_mul] at hW; omega
    · exact e
  by_cases h0 : n = 0
  · subst h0
    rw [Nat.mul_zero, Nat.pow_zero, Nat.mul_one] at hW
    refine ⟨i0, ?_⟩
    have e1 : W / V = 0 := Nat.div_eq_of_lt hW
    have e2 : W % V = W := Nat.mod_eq_of_lt hW
    have e3 : wd 0 = fun _ => 0 := funext fun t => by unfold wd; rw [Nat.zero_div, Nat.zero_mod]
    rw [e1, e2, e3]
    exact TriL.out (by simp) (db_end (hneg rfl))
  · refine ⟨(n : Int) - 1 - (n : Nat), ?_⟩
    rw [if_neg h0] at hi0
    subst hi0
    have h := TriL.count (P := Try.prog) (c := loopN Try.f92 0) (e := .exit 0)
      (fun m => dbS M N V L ((n : Int) - 1 - (m : Nat)) (q16 fun t => if n - m ≤ t then wd (W / V) t else 0) (wd (restW W V (n - m)))) (S' := dbS M N V L ((n : Int) - 1 - (n : Nat)) (q16 (wd (W / V))) (wd (W % V))) (by simp) n (fun m hm => ?_) ?_
    · have e1 : restW W V n = W := by unfold restW; exact Nat.mod_eq_of_lt hW
      have e2 : (fun t => if n ≤ t then wd (W / V) t else 0) = fun _ => 0 := funext fun t => by
        split
        · rename_i ht
          refine wd_eq_zero (Nat.lt_of_lt_of_le (Nat.div_lt_of_lt_mul hW) (Nat.pow_le_pow_right (by omega) (by omega)))
        · rfl
      rw [Nat.sub_zero, e1, e2] at h
      simpa using h
    · obtain ⟨r, hr⟩ : ∃ r, n - m = r + 1 := ⟨n - m - 1, by omega⟩
      show Tri _ _ (dbS M N V L ((n : Int) - 1 - (m : Nat)) (q16 fun t => if n - m ≤ t then wd (W / V) t else 0) (wd (restW W V (n - m)))) (to _ (dbS M N V L ((n : Int) - 1 - ((m + 1 : Nat) : Int)) (q16 fun t => if n - (m + 1) ≤ t then wd (W / V) t else 0) (wd (restW W V (n - (m + 1))))))
      rw [show n - (m + 1) = r by omega, hr, show (n : Int) - 1 - (m : Nat) = (r : Nat) by omega]
      have hlt := restW_lt W (r + 1) hV0
      have hR : restW W V (r + 1) / 2 ^ (64 * r) < V * 18446744073709551616 := by
        refine Nat.div_lt_of_lt_mul ?_
        rw [pow_succ64, ← Nat.mul_assoc, Nat.mul_comm V, Nat.mul_assoc] at hlt
        exact hlt
      have ht := take_num (M := M) (N := N) (V := V) (i := r) (L := L) (R := restW W V (r + 1) / 2 ^ (64 * r)) (q := fun t => if r + 1 ≤ t then wd (W / V) t else 0) (p := wd (restW W V (r + 1))) hL (by omega) hV hV2 hR (fun t _ => by rw [Nat.add_comm r t, wd_shift])
      rw [restW_digit, funext (fun t => restW_words W V r L t hV0 hV)] at ht
      have hq : (fun t => if t = r then wd (W / V) r else if r + 1 ≤ t then wd (W / V) t else 0) = fun t => if r ≤ t then wd (W / V) t else 0 := funext fun t => by
        by_cases h1 : t = r
        · rw [if_pos h1, if_pos (by omega), h1]
        · rw [if_neg h1]
          by_cases h2 : r + 1 ≤ t
          · rw [if_pos h2, if_pos (by omega)]
          · rw [if_neg h2, if_neg (by omega)]
      have key := db_round (M := M) (N := N) (V := V) (L := L) (i := r) (q := fun t => if r + 1 ≤ t then wd (W / V) t else 0) (i' := (n : Int) - 1 - ((m + 1 : Nat) : Int)) (by omega) hL (by omega) ht
      rw [hq] at key
      exact key
    · show Tri _ _ (dbS M N V L ((n : Int) - 1 - (n : Nat)) (q16 fun t => if n - n ≤ t then wd (W / V) t else 0) (wd (restW W V (n - n)))) _
      rw [Nat.sub_self, restW_zero]
      have e : (fun t => if 0 ≤ t then wd (W / V) t else 0) = wd (W / V) := funext fun t => if_pos (Nat.zero_le t)
      rw [e]
      exact db_end (by omega)
theorem q16_mag (Q : Nat) : Value.agg (q16 (wd Q)).toArray = mag Q := rfl
/-- The quotient of magnitudes, rounded down, and whether nothing is left. -/
theorem dividedBy_pc {M N : Nat} (hM : M < T16) (hN : N < T16) (h0 : N ≠ 0) : PC Try.prog 92 [mag M, mag N] (.tuple #[mag (M / N), .bool (decide (M % N = 0))]) := by
  obtain ⟨t1, t2, t3, t4, t5⟩ := topShift h0
  have hw := wordLen_pc hN
  have hwm := wordLen_pc hM
  have hn16 := nw_le16 hN
  have hm16 := nw_le16 hM
  have hlz := lz64_pc (wd_lt N (nw N - 1))
  have hs : ∃ s : Nat, s = 64 - bitLen (wd N (nw N - 1)) := ⟨_, rfl⟩
  obtain ⟨s, hs⟩ := hs
  rw [show (64 : Int) - (bitLen (wd N (nw N - 1)) : Int) = (s : Nat) by omega] at hlz
  rw [← hs] at t4 t5
  have hs63 : s ≤ 63 := by omega
  have hup := shiftedUp_pc (c := s) hN (by omega)
  have hwid := widened_pc (s := s) hM (by omega)
  have hS : 2 ^ s ≤ 9223372036854775808 := Nat.pow_le_pow_right (n := 2) (by omega) (show s ≤ 63 from hs63)
  have hNS : 2 ^ (64 * (nw N - 1)) * 9223372036854775808 ≤ N * 2 ^ s := by
    have h1 : wd (N * 2 ^ s) (nw N - 1) ≤ N * 2 ^ s / 2 ^ (64 * (nw N - 1)) := Nat.mod_le _ _
    have h2 := (Nat.le_div_iff_mul_le (Nat.two_pow_pos (64 * (nw N - 1)))).1 (Nat.le_trans t5 h1)
    rw [Nat.mul_comm]; exact h2
  have hrl := rounds_lt (M := M) (N := N) (S := 2 ^ s) hS hNS
  obtain ⟨i1, hl⟩ := db_loop (M := M) (N := N) (V := N * 2 ^ s) (L := nw N) (n := nw M + 1 - nw N) (W := M * 2 ^ s) (i0 := (nw M : Int) - (nw N : Int)) (by omega) (by omega) (by split <;> omega) (by omega) t4 t5 hrl
  obtain ⟨k, hk⟩ : ∃ k, nw N = k + 1 := ⟨nw N - 1, by omega⟩
  rw [hk, Nat.add_sub_cancel] at hlz
  rw [hk] at hw hl
  have hpos : 0 < 2 ^ s := Nat.two_pow_pos s
  have key := db_pc (M := M) (N := N) (V := N * 2 ^ s) (W := M * 2 ^ s) (k := k) (w := wd N k) (s := s) (nm := nw M) (i0 := (nw M : Int) - ((k + 1 : Nat) : Int)) (i1 := i1) (by omega) rfl (by rw [i64_wrap (by omega) (by omega)])
    (QC.of_pc enters_wordLen hw) (QC.of_pc enters_lz64 hlz) (QC.of_pc enters_shiftedUp hup) (QC.of_pc enters_widened hwid) (QC.of_pc enters_wordLen hwm) hl
  rw [q16_mag, Nat.mul_div_mul_right _ _ hpos, Nat.mul_mod_mul_right] at key
  have hb : eqZ ((List.range 17).map (wd (M % N * 2 ^ s))) = decide (M % N = 0) := by
    rw [Bool.eq_iff_iff, eqZ_iff, decide_eq_true_eq]
    have hlt : M % N * 2 ^ s < T16 := by
      have h1 : M % N * 2 ^ s < N * 2 ^ s := Nat.mul_lt_mul_of_pos_right (Nat.mod_lt _ (by omega)) hpos
      obtain ⟨z, hz⟩ : ∃ z, z = 16 := ⟨16, rfl⟩
      rw [← T16_pow hz]
      exact Nat.lt_of_lt_of_le (Nat.lt_trans h1 t4) (Nat.pow_le_pow_right (by omega) (by omega))
    constructor
    · intro hz
      have := eq_zero_of_words hlt fun i hi => hz _ (List.mem_map.2 ⟨i, List.mem_range.2 (by omega), rfl⟩)
      rcases Nat.mul_eq_zero.1 this with h | h
      · exact h
      · omega
    · intro h x hx
      rw [h, Nat.zero_mul] at hx
      obtain ⟨i, _, rfl⟩ := List.mem_map.1 hx
      simp [wd]
  rw [hb] at key
  exact key
end Go.Proofs.Ytjmdppnhpfdhdaa.W
