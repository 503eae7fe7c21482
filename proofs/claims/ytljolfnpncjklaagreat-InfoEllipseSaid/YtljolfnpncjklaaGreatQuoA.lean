/-
  The reference's long division: its loops, round by round.
-/
import Derived.Test.YtljolfnpncjklaaGreatTokC
import Derived.Test.YtljolfnpncjklaaGreatQuoN
import Derived.Test.YtljolfnpncjklaaGreatEv4
namespace Go.Proofs.YtljolfnpncjklaaGreat.R
open Go Go.Ev Go.W32
open Go.Proofs.YtljolfnpncjklaaGreat.W (mixed rsl i64_wrap u64_wrap u32_wrap bitLen_lt_iff enters_trim enters_rbits)
section
variable {P : Program}
/-- The guess is lowered until it is right by two words. -/
theorem guess_loop {c : Code} {ex : Exit} {st : Nat → Nat → St} {a b y1 y0 : Nat} (hex : ex ≠ .normal) (hy : 2147483648 ≤ y1) (hy2 : y1 < 4294967296) (hy0 : y0 < 4294967296) (ha : a < y1 * 4294967296 + 4294967296)
    (hend : ∀ q r : Nat, q < 4294967296 → r < 4294967296 → q * y0 ≤ r * 4294967296 + b → Tri P c (st q r) (to ex (st q r)))
    (hbig : ∀ q r : Nat, 4294967296 ≤ q + 1 → q ≤ 4294967296 → r < 4294967296 → 4294967296 ≤ r + y1 → Tri P c (st (q + 1) r) (to ex (st q (r + y1))))
    (hbig2 : ∀ q r : Nat, 4294967296 ≤ q + 1 → q ≤ 4294967296 → r < 4294967296 → r + y1 < 4294967296 → Tri P c (st (q + 1) r) (to .normal (st q (r + y1))))
    (hmore : ∀ q r : Nat, q + 1 < 4294967296 → r < 4294967296 → r * 4294967296 + b < (q + 1) * y0 → 4294967296 ≤ r + y1 → Tri P c (st (q + 1) r) (to ex (st q (r + y1))))
    (hmore2 : ∀ q r : Nat, q + 1 < 4294967296 → r < 4294967296 → r * 4294967296 + b < (q + 1) * y0 → r + y1 < 4294967296 → Tri P c (st (q + 1) r) (to .normal (st q (r + y1)))) :
    ∀ q r : Nat, q * y1 + r = a → r < 4294967296 → estQ a b y1 y0 ≤ q → TriL P c (st q r) (to ex (st (estQ a b y1 y0) (a - estQ a b y1 y0 * y1))) := by
  intro q
  induction q with
  | zero =>
    intro r hq hr hge
    have e0 : estQ a b y1 y0 = 0 := Nat.le_zero.1 hge
    rw [e0, show a - 0 * y1 = r by omega]
    exact TriL.leave hex (hend 0 r (by omega) hr (by omega))
  | succ q ih =>
    intro r hq hr hge
    have htest := est_test (b := b) (y0 := y0) (by omega : 0 < y1) hq
    have hle : q ≤ 4294967296 := by
      refine Nat.le_of_not_lt fun h => ?_
      have h3 : (4294967296 + 2) * y1 ≤ (q + 1) * y1 := Nat.mul_le_mul_right y1 (by omega)
      rw [Nat.add_mul, Nat.mul_comm 4294967296 y1] at h3
      omega
    by_cases hlt : estQ a b y1 y0 < q + 1
    · have hstep := est_step hq
      by_cases hbr : 4294967296 ≤ r + y1
      · have e := est_break hy0 ha hstep hbr (Nat.le_of_lt_succ hlt)
        rw [e, show a - q * y1 = r + y1 by omega]
        by_cases hb32 : 4294967296 ≤ q + 1
        · exact TriL.leave hex (hbig q r hb32 hle hr hbr)
        · exact TriL.leave hex (hmore q r (by omega) hr ((htest.2 hlt).resolve_left hb32) hbr)
      · have hnext := ih (r + y1) hstep (by omega) (Nat.le_of_lt_succ hlt)
        by_cases hb32 : 4294967296 ≤ q + 1
        · exact TriL.again (hbig2 q r hb32 hle hr (by omega)) hnext
        · exact TriL.again (hmore2 q r (by omega) hr ((htest.2 hlt).resolve_left hb32) (by omega)) hnext
    · have e : estQ a b y1 y0 = q + 1 := by omega
      rw [e, show a - (q + 1) * y1 = r by omega]
      have h5 : ¬ (4294967296 ≤ q + 1 ∨ r * 4294967296 + b < (q + 1) * y0) := fun h => hlt (htest.1 h)
      exact TriL.leave hex (hend _ _ (by omega) hr (by omega))
end
/-! ### One word -/
theorem divU {y b d : Nat} (h : y / b = d) (hy : d < 18446744073709551616) : decide (IntKind.u64.wrap ((y : Int).tdiv (b : Int)) = (d : Int)) = true := by
  rw [Int.tdiv_eq_ediv_of_nonneg (by omega), ← Int.natCast_ediv, h, u64_wrap]
  exact decide_eq_true (by omega)
theorem modU {y b d : Nat} (h : y % b = d) : decide ((y : Int).tmod (b : Int) = (d : Int)) = true := by
  subst h
  rw [Int.tmod_eq_emod_of_nonneg (by omega), ← Int.natCast_emod]
  exact decide_eq_true rfl
theorem nz {b : Nat} (h : b ≠ 0) : (!decide ((b : Int) = 0)) = true := by rw [decide_eq_false (by omega)]; rfl
theorem dec1 {i : Nat} {i' : Int} (h : i' = (i : Int) - 1) (hi : i < 1000000) : decide (IntKind.i64.wrap ((i : Int) - 1) = i') = true := by
  rw [h, i64_wrap (by omega) (by omega)]
  exact decide_eq_true rfl
def sdS (A na B r : Nat) (i : Int) (q : List Value) : St := ⟨slots 307 [(0, tk A na), (1, tk B 1), (6, rsl 0 na na), (7, u6 r), (8, i6 i)], [⟨q, 77, true⟩]⟩
def sdL : List Nat := [0, 1, 6, 7, 8]
theorem sd_round {A na B r i a b c y d lo r2 m : Nat} {i' : Int} {f : Nat → Nat} (h0 : i < na) (hm : i < m) (ha : wd A i = a) (hb : wd B 0 = b) (ha2 : a < 4294967296) (hb2 : b < 4294967296) (hb0 : b ≠ 0) (hc : r * 4294967296 = c) (hr : c < 18446744073709551616) (hy : c ||| a = y) (hy2 : y < 18446744073709551616) (hd : y / b = d) (hlo : d % 4294967296 = lo) (hr2 : y % b = r2) (hi' : i' = (i : Int) - 1) (hna : na < 1000) :
    Tri Tryz.prog (loopN Tryz.f102 0) (sdS A na B r i (cells m f)) (to .normal (sdS A na B r2 i' (cells m (fun t => if t = i then lo else f t)))) := by
  rw [← cells_set]
  have o1 : word32 A ((i : Nat) : Int).toNat = u3 a := by rw [tk_get, ha]
  have o2 : word32 B ((0 : Nat) : Int).toNat = u3 b := by rw [tk_get, hb]
  have hd2 : d ≤ y := by rw [← hd]; exact Nat.div_le_self _ _
  exact Tri.go mixed sdL [.tst true, .is 1 (u6 c), .is 3 (u3 a), .at 0 (u6 a), .is 0 (u6 y), .is 6 (u3 b), .at 0 (u6 b), .at 0 (u6 d), .at 0 (u3 lo), .is 5 (u3 b), .at 0 (u6 b), .at 0 (u6 r2), .at 2 (i6 i')]
    (tsC (ltI h0) <| tsC (wrapU (n := (a : Int)) (m := a) rfl (by omega)) <| tsC (wrapU (n := (b : Int)) (m := b) rfl (by omega)) <| tsC (nz hb0) <| tsC (divU hd (by omega)) <| tsC (wrap32 hlo) <| tsC (ltI h0) <| tsC (ltL (f := f) hm) <| tsC (wrapU (n := (b : Int)) (m := b) rfl (by omega)) <| tsC (nz hb0) <| tsC (modU hr2) <| tsC (dec1 hi' (by omega)) ts0)
    (qs5 (shl32 (b := r) hc hr) o1 (or64 (by omega) (by omega) hy) o2 o2) (by kernel_rfl)
theorem sd_end {A na B r m : Nat} {i : Int} {f : Nat → Nat} (hi : i < 0) : Tri Tryz.prog (loopN Tryz.f102 0) (sdS A na B r i (cells m f)) (to (.exit 0) (sdS A na B r i (cells m f))) :=
  Tri.go mixed sdL [.tst false] (tsC (tF (p := i ≥ 0) (by omega)) ts0) qs0 (by kernel_rfl)
/-! ### How far the divisor is shifted -/
theorem shlU3 {x y : Nat} (h : x * 2 = y) (hy : y < 4294967296) : Value.int .u32 (IntKind.u32.wrap ((x : Int) * 2 ^ (min (Int.toNat 1) 32))) = u3 y := by
  have e : ((2 : Int) ^ (min (Int.toNat 1) 32)) = 2 := by decide
  rw [e, u32_wrap]
  unfold u3
  congr 1
  omega
theorem ltLit {x : Nat} {z : Int} (h : (x : Int) < z) : Value.bool (decide ((x : Int) < z)) = .bool true := by rw [decide_eq_true h]
theorem geLit {x : Nat} {z : Int} (h : ¬ (x : Int) < z) : Value.bool (decide ((x : Int) < z)) = .bool false := by rw [decide_eq_false h]
def s1S (A na B nb s x : Nat) : St := ⟨slots 307 [(0, tk A na), (1, tk B nb), (9, i6 s), (10, u3 x)], []⟩
def s1L : List Nat := [0, 1, 9, 10]
theorem s1_round {A na B nb s x y : Nat} (hx : x < 2147483648) (hy : x * 2 = y) (hs : s < 1000000) : Tri Tryz.prog (loopN Tryz.f102 1) (s1S A na B nb s x) (to .normal (s1S A na B nb (s + 1) y)) :=
  Tri.go mixed s1L [.is 1 (.bool true), .at 1 (i6 ((s + 1 : Nat) : Int)), .is 2 (u3 y)] (tsC (wrapN (n := (s : Int) + 1) (m := s + 1) (by omega) (by omega)) ts0) (qs2 (ltLit (x := x) (z := 2147483648) (by omega)) (shlU3 hy (by omega))) (by kernel_rfl)
theorem s1_end {A na B nb s x : Nat} (hx : ¬ x < 2147483648) : Tri Tryz.prog (loopN Tryz.f102 1) (s1S A na B nb s x) (to (.exit 2) (s1S A na B nb s x)) :=
  Tri.go mixed s1L [.is 1 (.bool false)] ts0 (qs1 (geLit (x := x) (z := 2147483648) (by omega))) (by kernel_rfl)
theorem s1_loop {A na B nb w : Nat} (hw : w < 4294967296) (hw0 : w ≠ 0) : TriL Tryz.prog (loopN Tryz.f102 1) (s1S A na B nb 0 w) (to (.exit 2) (s1S A na B nb (32 - bitLen w) (w * 2 ^ (32 - bitLen w)))) := by
  have hb := bitLen_spec w
  have hb2 := hb.2 hw0
  have hb1 := hb.1
  have hb0 : 1 ≤ bitLen w := by
    rcases Nat.eq_zero_or_pos (bitLen w) with e | e
    · rw [e, Nat.pow_zero] at hb1; omega
    · exact e
  have hb32 : bitLen w ≤ 32 := bitLen_lt_iff.2 (show w < 2 ^ 32 from hw)
  have h := TriL.count (P := Tryz.prog) (c := loopN Tryz.f102 1) (e := .exit 2) (fun i => s1S A na B nb i (w * 2 ^ i)) (by simp) (32 - bitLen w) (fun i hi => ?_) (s1_end ?_)
  · rw [Nat.pow_zero, Nat.mul_one] at h
    exact h
  · have e : w * 2 ^ i < 2147483648 := by
      have h1 : w * 2 ^ i < 2 ^ bitLen w * 2 ^ i := Nat.mul_lt_mul_of_pos_right hb1 (Nat.two_pow_pos _)
      have h2 : 2 ^ bitLen w * 2 ^ i ≤ 2 ^ 31 := by rw [← Nat.pow_add]; exact Nat.pow_le_pow_right (by omega) (by omega)
      exact Nat.lt_of_lt_of_le h1 h2
    exact s1_round e (by rw [Nat.mul_assoc, ← Nat.pow_succ]) (by omega)
  · have h1 : 2 ^ (bitLen w - 1) * 2 ^ (32 - bitLen w) ≤ w * 2 ^ (32 - bitLen w) := Nat.mul_le_mul_right _ hb2
    rw [← Nat.pow_add, show bitLen w - 1 + (32 - bitLen w) = 31 by omega] at h1
    omega
/-! ### The guess -/
theorem mulV {x y z : Nat} (h : x * y = z) (hz : z < 18446744073709551616) : Value.int .u64 (IntKind.u64.wrap ((x : Int) * (y : Int))) = u6 z := by
  rw [← Int.natCast_mul, h, u64_wrap]
  unfold u6
  congr 1
  omega
theorem getC {c k x : Nat} {U : Nat → Nat} (h : U k = x) (hk : k < c) : (cells c U).getD (0 + ((k : Nat) : Int).toNat * 1) undef = u3 x := by
  rw [cells_get0 U hk, h]
  rfl
def guS (s V n c L M j q r : Nat) (U : List Value) (g : List Value) : St := ⟨slots 307 [(9, i6 s), (11, tk V n), (12, rsl 0 L c), (13, i6 n), (15, rsl 1 M M), (16, i6 j), (18, u6 q), (19, u6 r)], [⟨U, 77, true⟩, ⟨g, 77, true⟩]⟩
def guL : List Nat := [9, 11, 12, 13, 15, 16, 18, 19]
theorem gu_end {s V n n2 c L M j jn jn2 q r m rs b k y0 : Nat} {U : Nat → Nat} {g : List Value} (hn2 : n2 + 2 = n) (hjn : j + n = jn) (hjn2 : jn2 + 2 = jn) (hL : jn < L) (hc : jn < c) (hn : n < 1000) (hj : j < 1000) (hy0 : wd V n2 = y0) (hy02 : y0 < 4294967296) (hb : U jn2 = b) (hb2 : b < 4294967296)
    (hq : q < 4294967296) (hr : r < 4294967296) (hm : q * y0 = m) (hm2 : m < 18446744073709551616) (hrs : r * 4294967296 = rs) (hrs2 : rs < 18446744073709551616) (hk : rs ||| b = k) (hmk : ¬ m > k) :
    Tri Tryz.prog (loopN Tryz.f102 4) (guS s V n c L M j q r (cells c U) g) (to (.exit 8) (guS s V n c L M j q r (cells c U) g)) := by
  have o1 : word32 V ((n2 : Nat) : Int).toNat = u3 y0 := by rw [tk_get, hy0]
  exact Tri.go mixed guL [.tst false, .is 1 (.bool true), .at 4 (i6 n2), .is 1 (u3 y0), .at 0 (u6 y0), .is 0 (u6 m), .is 1 (u6 rs), .at 3 (i6 jn), .at 0 (i6 jn2), .is 1 (u3 b), .at 0 (u6 b), .is 0 (u6 k), .tst false]
    (tsC (tF (p := (q : Int) ≥ 4294967296) (by omega)) <| tsC (wrapN (n := (n : Int) - 2) (m := n2) (by omega) (by omega)) <| tsC (ltI (j := n2) (n := n) (by omega)) <| tsC (wrapU (n := (y0 : Int)) (m := y0) rfl (by omega)) <| tsC (wrapN (n := (j : Int) + (n : Int)) (m := jn) (by omega) (by omega)) <| tsC (wrapN (n := (jn : Int) - 2) (m := jn2) (by omega) (by omega)) <|
      tsC (ltI (j := jn2) (n := L) (by omega)) <| tsC (ltL (f := U) (m := c) (j := jn2) (by omega)) <| tsC (wrapU (n := (b : Int)) (m := b) rfl (by omega)) <| tsC (tF (p := (m : Int) > (k : Int)) (by omega)) ts0)
    (qs6 (ltLit (x := r) (z := 4294967296) (by omega)) o1 (mulV hm hm2) (shl32 (b := r) hrs hrs2) (getC (c := c) (k := jn2) hb (by omega)) (or64 (by omega) (by omega) hk)) (by kernel_rfl)
theorem geU {q : Nat} (h : 4294967296 ≤ q) : decide ((q : Int) ≥ 4294967296) = true := decide_eq_true (by omega)
theorem ltU {q : Nat} (h : q < 4294967296) : (!decide ((q : Int) ≥ 4294967296)) = true := by rw [decide_eq_false (by omega)]; rfl
theorem gu_big {V n n1 y1 q r r' s c L M j : Nat} {U g : List Value} (hn1 : n1 + 1 = n) (hn : n < 1000) (hy1 : wd V n1 = y1) (hy12 : y1 < 4294967296) (hq : 4294967296 ≤ q + 1) (hq2 : q ≤ 4294967296) (hr : r < 4294967296) (hr' : r + y1 = r') (hb : 4294967296 ≤ r') :
    Tri Tryz.prog (loopN Tryz.f102 4) (guS s V n c L M j (q + 1) r U g) (to (.exit 8) (guS s V n c L M j q r' U g)) := by
  have o1 : word32 V ((n1 : Nat) : Int).toNat = u3 y1 := by rw [tk_get, hy1]
  exact Tri.go mixed guL [.tst true, .at 2 (u6 q), .at 4 (i6 n1), .is 1 (u3 y1), .at 0 (u6 y1), .at 0 (u6 r'), .tst true]
    (tsC (geU (q := q + 1) hq) <| tsC (wrapU (n := ((q + 1 : Nat) : Int) - 1) (m := q) (by omega) (by omega)) <| tsC (wrapN (n := (n : Int) - 1) (m := n1) (by omega) (by omega)) <| tsC (ltI (j := n1) (n := n) (by omega)) <| tsC (wrapU (n := (y1 : Int)) (m := y1) rfl (by omega)) <| tsC (wrapU (n := (r : Int) + (y1 : Int)) (m := r') (by omega) (by omega)) <| tsC (geU (q := r') hb) ts0)
    (qs1 o1) (by kernel_rfl)
theorem gu_big2 {V n n1 y1 q r r' s c L M j : Nat} {U g : List Value} (hn1 : n1 + 1 = n) (hn : n < 1000) (hy1 : wd V n1 = y1) (hy12 : y1 < 4294967296) (hq : 4294967296 ≤ q + 1) (hq2 : q ≤ 4294967296) (hr' : r + y1 = r') (hb : r' < 4294967296) :
    Tri Tryz.prog (loopN Tryz.f102 4) (guS s V n c L M j (q + 1) r U g) (to .normal (guS s V n c L M j q r' U g)) := by
  have o1 : word32 V ((n1 : Nat) : Int).toNat = u3 y1 := by rw [tk_get, hy1]
  exact Tri.go mixed guL [.tst true, .at 2 (u6 q), .at 4 (i6 n1), .is 1 (u3 y1), .at 0 (u6 y1), .at 0 (u6 r'), .tst false]
    (tsC (geU (q := q + 1) hq) <| tsC (wrapU (n := ((q + 1 : Nat) : Int) - 1) (m := q) (by omega) (by omega)) <| tsC (wrapN (n := (n : Int) - 1) (m := n1) (by omega) (by omega)) <| tsC (ltI (j := n1) (n := n) (by omega)) <| tsC (wrapU (n := (y1 : Int)) (m := y1) rfl (by omega)) <| tsC (wrapU (n := (r : Int) + (y1 : Int)) (m := r') (by omega) (by omega)) <| tsC (ltU (q := r') hb) ts0)
    (qs1 o1) (by kernel_rfl)
theorem gu_more {s V n n1 n2 c L M j jn jn2 q r r' m rs b k y0 y1 : Nat} {U : Nat → Nat} {g : List Value} (hn1 : n1 + 1 = n) (hn2 : n2 + 2 = n) (hjn : j + n = jn) (hjn2 : jn2 + 2 = jn) (hL : jn < L) (hc : jn < c) (hn : n < 1000) (hj : j < 1000) (hy0 : wd V n2 = y0) (hy02 : y0 < 4294967296) (hb : U jn2 = b) (hb2 : b < 4294967296)
    (hq : q + 1 < 4294967296) (hm : (q + 1) * y0 = m) (hm2 : m < 18446744073709551616) (hrs : r * 4294967296 = rs) (hrs2 : rs < 18446744073709551616) (hk : rs ||| b = k) (hmk : m > k) (hy1 : wd V n1 = y1) (hy12 : y1 < 4294967296) (hr' : r + y1 = r') (hb' : 4294967296 ≤ r') :
    Tri Tryz.prog (loopN Tryz.f102 4) (guS s V n c L M j (q + 1) r (cells c U) g) (to (.exit 8) (guS s V n c L M j q r' (cells c U) g)) := by
  have o1 : word32 V ((n2 : Nat) : Int).toNat = u3 y0 := by rw [tk_get, hy0]
  have o2 : word32 V ((n1 : Nat) : Int).toNat = u3 y1 := by rw [tk_get, hy1]
  exact Tri.go mixed guL [.tst false, .is 1 (.bool true), .at 4 (i6 n2), .is 1 (u3 y0), .at 0 (u6 y0), .is 0 (u6 m), .is 1 (u6 rs), .at 3 (i6 jn), .at 0 (i6 jn2), .is 1 (u3 b), .at 0 (u6 b), .is 0 (u6 k), .tst true, .at 1 (u6 q), .at 4 (i6 n1), .is 1 (u3 y1), .at 0 (u6 y1), .at 0 (u6 r'), .tst true]
    (tsC (ltU (q := q + 1) hq) <| tsC (wrapN (n := (n : Int) - 2) (m := n2) (by omega) (by omega)) <| tsC (ltI (j := n2) (n := n) (by omega)) <| tsC (wrapU (n := (y0 : Int)) (m := y0) rfl (by omega)) <| tsC (wrapN (n := (j : Int) + (n : Int)) (m := jn) (by omega) (by omega)) <| tsC (wrapN (n := (jn : Int) - 2) (m := jn2) (by omega) (by omega)) <|
      tsC (ltI (j := jn2) (n := L) (by omega)) <| tsC (ltL (f := U) (m := c) (j := jn2) (by omega)) <| tsC (wrapU (n := (b : Int)) (m := b) rfl (by omega)) <| tsC (tT (p := (m : Int) > (k : Int)) (by omega)) <|
      tsC (wrapU (n := ((q + 1 : Nat) : Int) - 1) (m := q) (by omega) (by omega)) <| tsC (wrapN (n := (n : Int) - 1) (m := n1) (by omega) (by omega)) <| tsC (ltI (j := n1) (n := n) (by omega)) <| tsC (wrapU (n := (y1 : Int)) (m := y1) rfl (by omega)) <| tsC (wrapU (n := (r : Int) + (y1 : Int)) (m := r') (by omega) (by omega)) <| tsC (geU (q := r') hb') ts0)
    (qsC (ltLit (x := r) (z := 4294967296) (by omega)) <| qsC o1 <| qsC (mulV (x := q + 1) hm hm2) <| qsC (shl32 (b := r) hrs hrs2) <| qsC (getC (c := c) (k := jn2) hb (by omega)) <| qsC (or64 (by omega) (by omega) hk) <| qsC o2 qs0) (by kernel_rfl)
theorem gu_more2 {s V n n1 n2 c L M j jn jn2 q r r' m rs b k y0 y1 : Nat} {U : Nat → Nat} {g : List Value} (hn1 : n1 + 1 = n) (hn2 : n2 + 2 = n) (hjn : j + n = jn) (hjn2 : jn2 + 2 = jn) (hL : jn < L) (hc : jn < c) (hn : n < 1000) (hj : j < 1000) (hy0 : wd V n2 = y0) (hy02 : y0 < 4294967296) (hb : U jn2 = b) (hb2 : b < 4294967296)
    (hq : q + 1 < 4294967296) (hm : (q + 1) * y0 = m) (hm2 : m < 18446744073709551616) (hrs : r * 4294967296 = rs) (hrs2 : rs < 18446744073709551616) (hk : rs ||| b = k) (hmk : m > k) (hy1 : wd V n1 = y1) (hy12 : y1 < 4294967296) (hr' : r + y1 = r') (hb' : r' < 4294967296) :
    Tri Tryz.prog (loopN Tryz.f102 4) (guS s V n c L M j (q + 1) r (cells c U) g) (to .normal (guS s V n c L M j q r' (cells c U) g)) := by
  have o1 : word32 V ((n2 : Nat) : Int).toNat = u3 y0 := by rw [tk_get, hy0]
  have o2 : word32 V ((n1 : Nat) : Int).toNat = u3 y1 := by rw [tk_get, hy1]
  exact Tri.go mixed guL [.tst false, .is 1 (.bool true), .at 4 (i6 n2), .is 1 (u3 y0), .at 0 (u6 y0), .is 0 (u6 m), .is 1 (u6 rs), .at 3 (i6 jn), .at 0 (i6 jn2), .is 1 (u3 b), .at 0 (u6 b), .is 0 (u6 k), .tst true, .at 1 (u6 q), .at 4 (i6 n1), .is 1 (u3 y1), .at 0 (u6 y1), .at 0 (u6 r'), .tst false]
    (tsC (ltU (q := q + 1) hq) <| tsC (wrapN (n := (n : Int) - 2) (m := n2) (by omega) (by omega)) <| tsC (ltI (j := n2) (n := n) (by omega)) <| tsC (wrapU (n := (y0 : Int)) (m := y0) rfl (by omega)) <| tsC (wrapN (n := (j : Int) + (n : Int)) (m := jn) (by omega) (by omega)) <| tsC (wrapN (n := (jn : Int) - 2) (m := jn2) (by omega) (by omega)) <|
      tsC (ltI (j := jn2) (n := L) (by omega)) <| tsC (ltL (f := U) (m := c) (j := jn2) (by omega)) <| tsC (wrapU (n := (b : Int)) (m := b) rfl (by omega)) <| tsC (tT (p := (m : Int) > (k : Int)) (by omega)) <|
      tsC (wrapU (n := ((q + 1 : Nat) : Int) - 1) (m := q) (by omega) (by omega)) <| tsC (wrapN (n := (n : Int) - 1) (m := n1) (by omega) (by omega)) <| tsC (ltI (j := n1) (n := n) (by omega)) <| tsC (wrapU (n := (y1 : Int)) (m := y1) rfl (by omega)) <| tsC (wrapU (n := (r : Int) + (y1 : Int)) (m := r') (by omega) (by omega)) <| tsC (ltU (q := r') hb') ts0)
    (qsC (ltLit (x := r) (z := 4294967296) (by omega)) <| qsC o1 <| qsC (mulV (x := q + 1) hm hm2) <| qsC (shl32 (b := r) hrs hrs2) <| qsC (getC (c := c) (k := jn2) hb (by omega)) <| qsC (or64 (by omega) (by omega) hk) <| qsC o2 qs0) (by kernel_rfl)
/-- The guess is right by two words. -/
theorem gu_loop {s V n n1 n2 c L M j jn jn2 q r a b y0 y1 : Nat} {U : Nat → Nat} {g : List Value} (hn1 : n1 + 1 = n) (hn2 : n2 + 2 = n) (hjn : j + n = jn) (hjn2 : jn2 + 2 = jn) (hL : jn < L) (hc : jn < c) (hn : n < 1000) (hj : j < 1000) (hy0 : wd V n2 = y0) (hb : U jn2 = b) (hb2 : b < 4294967296) (hy1 : wd V n1 = y1) (hy : 2147483648 ≤ y1) (ha : a < y1 * 4294967296 + 4294967296) (hq : q * y1 + r = a) (hr : r < 4294967296) (he : estQ a b y1 y0 ≤ q) :
    TriL Tryz.prog (loopN Tryz.f102 4) (guS s V n c L M j q r (cells c U) g) (to (.exit 8) (guS s V n c L M j (estQ a b y1 y0) (a - estQ a b y1 y0 * y1) (cells c U) g)) := by
  have hy12 : y1 < 4294967296 := by rw [← hy1]; exact wd_lt _ _
  have hy02 : y0 < 4294967296 := by rw [← hy0]; exact wd_lt _ _
  have hm : ∀ x z : Nat, x < 4294967296 → x * y0 = z → z < 18446744073709551616 := fun x z hx hz => by
    rw [← hz]
    exact Nat.lt_of_le_of_lt (Nat.mul_le_mul (Nat.le_of_lt_succ hx) (Nat.le_of_lt_succ hy02) : _ ≤ 4294967295 * 4294967295) (by omega)
  have ho : ∀ x z : Nat, x * 4294967296 = z → (z ||| b) = z + b := fun x z hz => by
    have := or_add (a := x) (b := b) (k := 32) hb2
    rw [Nat.mul_comm] at this
    rw [← hz]
    exact this
  refine guess_loop (st := fun q r => guS s V n c L M j q r (cells c U) g) (a := a) (b := b) (y1 := y1) (y0 := y0) (by simp) hy hy12 hy02 ha ?_ ?_ ?_ ?_ ?_ q r hq hr he
  · intro q r h1 h2 h3
    obtain ⟨z, hz⟩ : ∃ z, q * y0 = z := ⟨_, rfl⟩
    obtain ⟨x, hx⟩ : ∃ x, r * 4294967296 = x := ⟨_, rfl⟩
    exact gu_end (m := z) (rs := x) (k := x + b) hn2 hjn hjn2 hL hc hn hj hy0 hy02 hb hb2 h1 h2 hz (hm q z h1 hz) hx (by omega) (ho r x hx) (by omega)
  · intro q r h1 h2 h3 h4
    exact gu_big hn1 hn hy1 hy12 h1 h2 h3 rfl h4
  · intro q r h1 h2 h3 h4
    exact gu_big2 hn1 hn hy1 hy12 h1 h2 rfl h4
  · intro q r h1 h2 h3 h4
    obtain ⟨z, hz⟩ : ∃ z, (q + 1) * y0 = z := ⟨_, rfl⟩
    obtain ⟨x, hx⟩ : ∃ x, r * 4294967296 = x := ⟨_, rfl⟩
    exact gu_more (m := z) (rs := x) (k := x + b) hn1 hn2 hjn hjn2 hL hc hn hj hy0 hy02 hb hb2 h1 hz (hm (q + 1) z h1 hz) hx (by omega) (ho r x hx) (by omega) hy1 hy12 rfl h4
  · intro q r h1 h2 h3 h4
    obtain ⟨z, hz⟩ : ∃ z, (q + 1) * y0 = z := ⟨_, rfl⟩
    obtain ⟨x, hx⟩ : ∃ x, r * 4294967296 = x := ⟨_, rfl⟩
    exact gu_more2 (m := z) (rs := x) (k := x + b) hn1 hn2 hjn hjn2 hL hc hn hj hy0 hy02 hb hb2 h1 hz (hm (q + 1) z h1 hz) hx (by omega) (ho r x hx) (by omega) hy1 hy12 rfl h4
end Go.Proofs.YtljolfnpncjklaaGreat.R
