/-
  The reference's numbers: Text.
-/
import Derived.Test.YtlbdfgpdgcldhaaGreatTokE
/-! The reference: Text. -/
namespace Go.Proofs.YtlbdfgpdgcldhaaGreat.R
open Go Go.Ev Go.W32
open Go.Proofs.YtlbdfgpdgcldhaaGreat.W (mixed rsl i64_wrap u64_wrap u32_wrap bitLen_lt_iff clamp WF signI Hi bitLen_Hi textB tc sLen hexLen hexd chr hexS)

def ptr0 : Value := .pointer (some ⟨0, 0, none⟩)
def boxT (s : Bool) (N n : Nat) : Blk := ⟨[.bool s, .bool false, tk N n], 42, true⟩
def rtS (s : Bool) (N n : Nat) (B : ByteArray) (i : Int) : St := ⟨slots 50 [(1, ptr0), (3, .string B), (4, .int .i64 i)], [boxT s N n]⟩
def rtL : List Nat := [1, 3, 4]
/-- A text not empty? -/
def ne0 (B : ByteArray) : Bool := !(B.toList == (⟨#[]⟩ : ByteArray).toList)
theorem ne0_eq (B : ByteArray) : ne0 B = decide (B.data.toList ≠ []) := by
  unfold ne0
  rw [ByteArray.toList_eq, ByteArray.toList_eq]
  cases h : B.data.toList with
  | nil => rfl
  | cons a l => rfl
theorem strOf_push (l : List Int) : ∀ b : ByteArray, (l.foldl (fun r n => r.push (UInt8.ofNat n.toNat)) b).data.toList = b.data.toList ++ l.map fun n => UInt8.ofNat n.toNat := by
  induction l with
  | nil => intro b; simp
  | cons a l ih =>
    intro b
    rw [List.foldl_cons, ih]
    simp [ByteArray.push]
theorem strOf_data (l : List Int) : (strOf l).data.toList = l.map fun n => UInt8.ofNat n.toNat := by
  unfold strOf
  rw [strOf_push]
  simp
theorem bytes_eq {a b : ByteArray} (h : a.data.toList = b.data.toList) : a = b := by
  cases a; cases b
  congr
  exact Array.toList_inj.1 h
theorem strOf_append (a b : List Int) : strOf a ++ strOf b = strOf (a ++ b) := by
  refine bytes_eq ?_
  rw [show (strOf a ++ strOf b).data.toList = (strOf a).data.toList ++ (strOf b).data.toList by simp]
  rw [strOf_data, strOf_data, strOf_data, List.map_append]
theorem strOf_size (l : List Int) : (strOf l).size = l.length := by
  show (strOf l).data.size = _
  rw [← Array.length_toList, strOf_data, List.length_map]
theorem digit_str : ∀ d, d < 16 → hexS.extract d (d + 1) = strOf [chr d] := by decide +kernel
theorem wd_hexd (N k : Nat) : wd N (k / 8) / 2 ^ (4 * (k % 8)) % 16 = hexd N k := by
  unfold wd hexd
  have e : N / 2 ^ (4 * k) = N / 2 ^ (32 * (k / 8)) / 2 ^ (4 * (k % 8)) := by
    rw [Nat.div_div_eq_div_mul, ← Nat.pow_add, show 32 * (k / 8) + 4 * (k % 8) = 4 * k by omega]
  rw [e]
  generalize N / 2 ^ (32 * (k / 8)) = Q
  have h : 4 * (k % 8) ≤ 28 := by omega
  generalize 4 * (k % 8) = j at *
  have e2 : (4294967296 : Nat) = 2 ^ j * (16 * 2 ^ (28 - j)) := by
    have : (16 : Nat) = 2 ^ 4 := rfl
    rw [this, ← Nat.pow_add, ← Nat.pow_add, show j + (4 + (28 - j)) = 32 by omega]
  rw [e2, Nat.mod_mul_right_div_self, Nat.mod_mul_right_mod]
/-- The digits from the top down to place k. -/
def dI (N L k : Nat) : List Int := (List.range (L - k)).map fun t => chr (hexd N (L - 1 - t))
theorem dI_step {N L k : Nat} (h : k < L) : dI N L k = dI N L (k + 1) ++ [chr (hexd N k)] := by
  unfold dI
  rw [show L - k = L - (k + 1) + 1 by omega, List.range_succ, List.map_append, List.map_singleton, show L - 1 - (L - (k + 1)) = k by omega]
theorem dI_none {N L k : Nat} (h : L ≤ k) : dI N L k = [] := by
  unfold dI
  rw [show L - k = 0 by omega]
  rfl
theorem hex_bound {N : Nat} (h : N ≠ 0) : N < 2 ^ (4 * hexLen N) ∧ 2 ^ (4 * (hexLen N - 1)) ≤ N ∧ 1 ≤ hexLen N := by
  have hs := bitLen_spec N
  have h0 : bitLen N ≠ 0 := fun e => h (by have := hs.1; rw [e] at this; simpa using this)
  have hL : hexLen N = (bitLen N + 3) / 4 := by
    unfold hexLen
    split <;> omega
  refine ⟨Nat.lt_of_lt_of_le hs.1 (Nat.pow_le_pow_right (by omega) (by omega)), Nat.le_trans (Nat.pow_le_pow_right (by omega) (by omega)) (hs.2 h), by omega⟩
theorem hexd_top {N : Nat} (h : N ≠ 0) : hexd N (hexLen N - 1) ≠ 0 := by
  obtain ⟨h1, h2, h3⟩ := hex_bound h
  unfold hexd
  have hp : 0 < 2 ^ (4 * (hexLen N - 1)) := Nat.two_pow_pos _
  have h4 : N / 2 ^ (4 * (hexLen N - 1)) < 16 := by
    rw [Nat.div_lt_iff_lt_mul hp, show (16 : Nat) = 2 ^ 4 from rfl, ← Nat.pow_add, show 4 + 4 * (hexLen N - 1) = 4 * hexLen N by omega]
    exact h1
  rw [Nat.mod_eq_of_lt h4]
  have := Nat.div_pos h2 hp
  omega
theorem hexd_none {N k : Nat} (h : N < 2 ^ (4 * hexLen N)) (hk : hexLen N ≤ k) : hexd N k = 0 := by
  unfold hexd
  rw [Nat.div_eq_of_lt (Nat.lt_of_lt_of_le h (Nat.pow_le_pow_right (by omega) (by omega)))]
theorem hexLen_words {N : Nat} (h : N ≠ 0) : hexLen N ≤ 8 * nw N := by
  have h0 := nw_pos.2 h
  have : bitLen N ≤ 32 * nw N := by unfold nw; omega
  unfold hexLen
  split <;> omega
theorem tdiv8 {n s : Nat} (h : n / 8 = s) : (n : Int).tdiv 8 = (s : Int) := by rw [← h]; rfl
theorem tmod8 {n r : Nat} (h : n % 8 = r) : (n : Int).tmod 8 = (r : Int) := by rw [← h]; rfl
theorem shrV32 {y r q : Nat} (hr : r ≤ 32) (hq : y / 2 ^ r = q) : Value.int .u32 ((y : Int).fdiv (2 ^ (min ((r : Int)).toNat 32))) = u3 q := by
  have e : ((2 : Int) ^ r) = ((2 ^ r : Nat) : Int) := by push_cast; rfl
  rw [Int.toNat_natCast, Nat.min_eq_left hr, e, Int.fdiv_eq_ediv_of_nonneg _ (Int.natCast_nonneg _), ← Int.natCast_ediv, hq]
  rfl
theorem and15 {y d : Nat} (hy : y < 4294967296) (hd : y % 16 = d) : Value.int .u32 (IntKind.u32.wrap ((BitVec.ofInt 32 (y : Int) &&& BitVec.ofInt 32 15).toNat : Int)) = u3 d :=
  andV (c := y) (p1 := 15) hy (by omega) (by rw [← hd]; exact Nat.and_two_pow_sub_one_eq_mod y 4)
theorem geN (k : Nat) : decide ((k : Int) ≥ 0) = true := decide_eq_true (by omega)
theorem wrapU32 {n : Int} {m : Nat} (h : n = m) (hm : m < 4294967296) : decide (IntKind.u32.wrap n = (m : Int)) = true := by
  rw [h, u32_wrap]
  exact decide_eq_true (by omega)
theorem dig_ok {d : Nat} (h : d < 16) : (decide (((d + 1 : Nat) : Int) ≤ ((hexS.size : Nat) : Int)) && decide ((d : Int) ≤ (((d + 1 : Nat) : Int).toNat : Int))) = true := by
  have e : hexS.size = 16 := rfl
  rw [e, decide_eq_true (by omega), decide_eq_true (by omega)]
  rfl
theorem size_ok {a b : ByteArray} (h : a.size + b.size ≤ 1000000) : decide (((a.size + b.size : Nat) : Int) ≤ 9223372036854775807) = true := decide_eq_true (by omega)
theorem dig_is {d : Nat} (h : d < 16) : Value.string (hexS.extract (d : Int).toNat ((d + 1 : Nat) : Int).toNat) = .string (strOf [chr d]) := by
  rw [Int.toNat_natCast, Int.toNat_natCast, digit_str d h]
/-- A digit more, behind others. -/
theorem rt_more0 {s : Bool} {N n k q r x y d : Nat} {B C D : ByteArray} {z : Int} (hq : k / 8 = q) (hr : k % 8 = r) (hqn : q < n) (hx : wd N q = x) (hx2 : x < 4294967296) (hy : x / 2 ^ (4 * r) = y) (hd : y % 16 = d) (o4 : Value.bool (ne0 B) = .bool true) (o5 : Value.string (hexS.extract (d : Int).toNat ((d + 1 : Nat) : Int).toNat) = .string D) (o6 : Value.string (B ++ D) = .string C) (hs : decide (((B.size + D.size : Nat) : Int) ≤ 9223372036854775807) = true) (hz : (k : Int) - 1 = z) (hk : k < 1000000) :
    Tri Tryz.prog (loopN Tryz.f42 0) (rtS s N n B (k : Nat)) (to .normal (rtS s N n C z)) := by
  have o1 : word32 N ((q : Nat) : Int).toNat = u3 x := by rw [tk_get, hx]
  have hy2 : y < 4294967296 := by have := Nat.div_le_self x (2 ^ (4 * r)); omega
  exact Tri.go mixed rtL [.tst true, .at 3 (i6 q), .is 1 (u3 x), .at 1 (i6 r), .at 0 (i6 ((4 * r : Nat) : Int)), .at 0 (u6 (4 * r)), .is 0 (u3 y), .is 0 (u3 d), .is 2 (.bool true), .at 5 (u3 (d + 1)), .is 0 (.string D), .is 0 (.string C), .at 2 (i6 z)]
    (tsC (geN k) <| tsC (wrapN (n := (k : Int).tdiv 8) (m := q) (tdiv8 hq) (by omega)) <| tsC (ltI hqn) <| tsC (eqN (n := (k : Int).tmod 8) (m := r) (tmod8 hr)) <| tsC (wrapN (n := 4 * (r : Int)) (m := 4 * r) (by omega) (by omega)) <| tsC (wrapU (n := ((4 * r : Nat) : Int)) (m := 4 * r) rfl (by omega)) <|
      tsC (wrapU32 (n := (d : Int) + 1) (m := d + 1) (by omega) (by omega)) <| tsC (dig_ok (d := d) (by omega)) <| tsC hs <| tsC (wrapI hz (by omega) (by omega)) ts0)
    (qsC o1 <| qsC (shrV32 (by omega) hy) <| qsC (and15 hy2 hd) <| qsC o4 <| qsC o5 <| qsC o6 qs0) (by kernel_rfl)
theorem rt_more {s : Bool} {N n k q r x y d : Nat} {l : List Int} {z : Int} (hq : k / 8 = q) (hr : k % 8 = r) (hqn : q < n) (hx : wd N q = x) (hx2 : x < 4294967296) (hy : x / 2 ^ (4 * r) = y) (hd : y % 16 = d) (hl : l ≠ []) (hlen : l.length < 1000) (hz : (k : Int) - 1 = z) (hk : k < 1000000) :
    Tri Tryz.prog (loopN Tryz.f42 0) (rtS s N n (strOf l) (k : Nat)) (to .normal (rtS s N n (strOf (l ++ [chr d])) z)) := by
  have o4 : Value.bool (ne0 (strOf l)) = .bool true := by
    rw [ne0_eq, strOf_data, decide_eq_true (by simpa using hl)]
  have hs : (strOf l).size + (strOf [chr d]).size ≤ 1000000 := by rw [strOf_size, strOf_size]; simp; omega
  exact rt_more0 hq hr hqn hx hx2 hy hd o4 (dig_is (d := d) (by omega)) (congrArg Value.string (strOf_append l [chr d])) (size_ok hs) hz hk
/-- The first digit. -/
theorem rt_first {s : Bool} {N n k q r x y d : Nat} {z : Int} (hq : k / 8 = q) (hr : k % 8 = r) (hqn : q < n) (hx : wd N q = x) (hx2 : x < 4294967296) (hy : x / 2 ^ (4 * r) = y) (hd : y % 16 = d) (hd0 : d ≠ 0) (hz : (k : Int) - 1 = z) (hk : k < 1000000) :
    Tri Tryz.prog (loopN Tryz.f42 0) (rtS s N n (strOf []) (k : Nat)) (to .normal (rtS s N n (strOf ([] ++ [chr d])) z)) := by
  have o1 : word32 N ((q : Nat) : Int).toNat = u3 x := by rw [tk_get, hx]
  have o4 : Value.bool (ne0 (strOf [])) = .bool false := by
    rw [ne0_eq]; rfl
  have hy2 : y < 4294967296 := by have := Nat.div_le_self x (2 ^ (4 * r)); omega
  have hs : (strOf []).size + (strOf [chr d]).size ≤ 1000000 := by rw [strOf_size, strOf_size]; simp
  exact Tri.go mixed rtL [.tst true, .at 3 (i6 q), .is 1 (u3 x), .at 1 (i6 r), .at 0 (i6 ((4 * r : Nat) : Int)), .at 0 (u6 (4 * r)), .is 0 (u3 y), .is 0 (u3 d), .is 2 (.bool false), .auto, .tst true, .at 3 (u3 (d + 1)), .is 0 (.string (strOf [chr d])), .is 0 (.string (strOf ([] ++ [chr d]))), .at 2 (i6 z)]
    (tsC (geN k) <| tsC (wrapN (n := (k : Int).tdiv 8) (m := q) (tdiv8 hq) (by omega)) <| tsC (ltI hqn) <| tsC (eqN (n := (k : Int).tmod 8) (m := r) (tmod8 hr)) <| tsC (wrapN (n := 4 * (r : Int)) (m := 4 * r) (by omega) (by omega)) <| tsC (wrapU (n := ((4 * r : Nat) : Int)) (m := 4 * r) rfl (by omega)) <| tsC (tT (p := (d : Int) > 0) (by omega)) <|
      tsC (wrapU32 (n := (d : Int) + 1) (m := d + 1) (by omega) (by omega)) <| tsC (dig_ok (d := d) (by omega)) <| tsC (size_ok hs) <| tsC (wrapI hz (by omega) (by omega)) ts0)
    (qsC o1 <| qsC (shrV32 (by omega) hy) <| qsC (and15 hy2 hd) <| qsC o4 <| qsC (dig_is (d := d) (by omega)) <| qsC (congrArg Value.string (strOf_append [] [chr d])) qs0) (by kernel_rfl)
/-- A nought in front. -/
theorem rt_skip {s : Bool} {N n k q r x y : Nat} {z : Int} (hq : k / 8 = q) (hr : k % 8 = r) (hqn : q < n) (hx : wd N q = x) (hx2 : x < 4294967296) (hy : x / 2 ^ (4 * r) = y) (hd : y % 16 = 0) (hz : (k : Int) - 1 = z) (hk : k < 1000000) :
    Tri Tryz.prog (loopN Tryz.f42 0) (rtS s N n (strOf []) (k : Nat)) (to .normal (rtS s N n (strOf []) z)) := by
  have o1 : word32 N ((q : Nat) : Int).toNat = u3 x := by rw [tk_get, hx]
  have o4 : Value.bool (ne0 (strOf [])) = .bool false := by
    rw [ne0_eq]; rfl
  have hy2 : y < 4294967296 := by have := Nat.div_le_self x (2 ^ (4 * r)); omega
  exact Tri.go mixed rtL [.tst true, .at 3 (i6 q), .is 1 (u3 x), .at 1 (i6 r), .at 0 (i6 ((4 * r : Nat) : Int)), .at 0 (u6 (4 * r)), .is 0 (u3 y), .is 0 (u3 0), .is 2 (.bool false), .auto, .auto, .at 1 (i6 z)]
    (tsC (geN k) <| tsC (wrapN (n := (k : Int).tdiv 8) (m := q) (tdiv8 hq) (by omega)) <| tsC (ltI hqn) <| tsC (eqN (n := (k : Int).tmod 8) (m := r) (tmod8 hr)) <| tsC (wrapN (n := 4 * (r : Int)) (m := 4 * r) (by omega) (by omega)) <| tsC (wrapU (n := ((4 * r : Nat) : Int)) (m := 4 * r) rfl (by omega)) <|
      tsC (wrapI hz (by omega) (by omega)) ts0)
    (qsC o1 <| qsC (shrV32 (by omega) hy) <| qsC (and15 hy2 hd) <| qsC o4 qs0) (by kernel_rfl)
theorem rt_end {s : Bool} {N n : Nat} {B : ByteArray} {z : Int} (h : ¬ z ≥ 0) : Tri Tryz.prog (loopN Tryz.f42 0) (rtS s N n B z) (to (.exit 0) (rtS s N n B z)) :=
  Tri.go mixed rtL [.tst false] (tsC (tF h) ts0) qs0 (by kernel_rfl)
theorem rt_loop {s : Bool} {N n : Nat} (h0 : N ≠ 0) (hL : hexLen N ≤ 8 * n) (hn : n < 100) {z : Int} (hz : ((8 * n : Nat) : Int) - 1 = z) :
    TriL Tryz.prog (loopN Tryz.f42 0) (rtS s N n (strOf []) z) (to (.exit 0) (rtS s N n (strOf (dI N (hexLen N) 0)) (-1))) := by
  have h := TriL.count (P := Tryz.prog) (c := loopN Tryz.f42 0) (e := .exit 0) (S' := rtS s N n (strOf (dI N (hexLen N) 0)) (-1)) (fun j => rtS s N n (strOf (dI N (hexLen N) (8 * n - j))) (((8 * n - j : Nat) : Int) - 1)) (by simp) (8 * n) (fun j hj => ?_) (by
    show Tri _ _ (rtS s N n (strOf (dI N (hexLen N) (8 * n - 8 * n))) (((8 * n - 8 * n : Nat) : Int) - 1)) _
    rw [Nat.sub_self]
    exact rt_end (by omega))
  · rw [show 8 * n - 0 = 8 * n from rfl, dI_none hL, hz] at h
    exact h
  · show Tri _ _ (rtS s N n (strOf (dI N (hexLen N) (8 * n - j))) (((8 * n - j : Nat) : Int) - 1)) (to _ (rtS s N n (strOf (dI N (hexLen N) (8 * n - (j + 1)))) (((8 * n - (j + 1) : Nat) : Int) - 1)))
    obtain ⟨k, hk⟩ : ∃ k, 8 * n - j = k + 1 := ⟨8 * n - j - 1, by omega⟩
    rw [hk, show 8 * n - (j + 1) = k by omega, show ((k + 1 : Nat) : Int) - 1 = (k : Nat) by omega]
    obtain ⟨b1, b2, b3⟩ := hex_bound h0
    have hx := wd_lt N (k / 8)
    have hd := wd_hexd N k
    have hlen : (dI N (hexLen N) (k + 1)).length < 1000 := by unfold dI; simp; omega
    by_cases hkL : k < hexLen N
    · rw [dI_step hkL]
      by_cases hl : dI N (hexLen N) (k + 1) = []
      · rw [hl]
        have hkt : k = hexLen N - 1 := by
          unfold dI at hl
          rw [List.map_eq_nil_iff, List.range_eq_nil] at hl
          omega
        have ht := hexd_top h0
        rw [← hkt] at ht
        exact rt_first rfl rfl (by omega) rfl hx rfl hd ht rfl (by omega)
      · exact rt_more rfl rfl (by omega) rfl hx rfl hd hl hlen rfl (by omega)
    · rw [dI_none (show hexLen N ≤ k by omega), dI_none (show hexLen N ≤ k + 1 by omega)]
      rw [hexd_none b1 (by omega)] at hd
      exact rt_skip rfl rfl (by omega) rfl hx rfl hd rfl (by omega)
theorem enters_rText : ∀ us w, (callFunc 42 us).run Tryz.prog w = .ok (.enter 42 us) w := enters Tryz.func42 rfl (by kernel_rfl)
theorem strOf_nil : strOf [] = ⟨#[]⟩ := rfl
theorem rtext_pos {N n m : Nat} {z : Int} {B : ByteArray} (hn : n ≠ 0) (hm : 8 * n = m) (hz : (m : Int) - 1 = z) (hn2 : n < 100) (hl : TriL Tryz.prog (loopN Tryz.f42 0) (rtS false N n ⟨#[]⟩ z) (to (.exit 0) (rtS false N n B (-1)))) :
    MC Tryz.prog 42 [.agg #[.bool false, .bool false, tk N n]] [] (.string B) [] :=
  AC.runA mixed Tryz.func42 [.auto, .tst false, .at 4 (i6 m), .at 0 (i6 z), .cut rtL (.exit 0) (rtS false N n B (-1))]
    (tsC (tF (show ¬ (n : Int) = 0 by omega)) <| tsC (wrapN (n := 8 * (n : Int)) (m := m) (by omega) (by omega)) <| tsC (wrapI (n := (m : Int) - 1) (z := z) hz (by omega) (by omega)) ts0) (qs1 hl) rfl enters_rText (by kernel_rfl)
theorem rtext_neg {N n m : Nat} {z : Int} {B C : ByteArray} (hn : n ≠ 0) (hm : 8 * n = m) (hz : (m : Int) - 1 = z) (hn2 : n < 100) (hC : (⟨#[45]⟩ : ByteArray) ++ B = C) (hs : (⟨#[45]⟩ : ByteArray).size + B.size ≤ 1000000) (hl : TriL Tryz.prog (loopN Tryz.f42 0) (rtS true N n ⟨#[]⟩ z) (to (.exit 0) (rtS true N n B (-1)))) :
    MC Tryz.prog 42 [.agg #[.bool true, .bool false, tk N n]] [] (.string C) [] :=
  AC.runA mixed Tryz.func42 [.auto, .tst false, .at 4 (i6 m), .at 0 (i6 z), .cut rtL (.exit 0) (rtS true N n B (-1)), .is 3 (.string C)]
    (tsC (tF (show ¬ (n : Int) = 0 by omega)) <| tsC (wrapN (n := 8 * (n : Int)) (m := m) (by omega) (by omega)) <| tsC (wrapI (n := (m : Int) - 1) (z := z) hz (by omega) (by omega)) <| tsC (size_ok hs) ts0) (qs2 hl (congrArg Value.string hC)) rfl enters_rText (by kernel_rfl)
theorem rtext_zero {N n : Nat} {s : Bool} (hn : n = 0) : MC Tryz.prog 42 [.agg #[.bool s, .bool false, tk N n]] [] (.string ⟨#[48]⟩) [] :=
  AC.runA mixed Tryz.func42 [.auto, .tst true] (ts1 (tT (show (n : Int) = 0 by omega))) qs0 rfl enters_rText (by kernel_rfl)
theorem rtext_over : MC Tryz.prog 42 [rB false true 0] [] (.string ⟨#[111, 118, 101, 114]⟩) [] :=
  AC.runA mixed Tryz.func42 [] ts0 qs0 rfl enters_rText (by kernel_rfl)
theorem hexLen_zero : hexLen 0 = 1 := rfl
/-- The reference's text is the program's. -/
theorem rText_t {A : Option Int} (hA : WF A) : MC Tryz.prog 42 [rV A] [] (.string (textB A)) [] := by
  cases A with
  | none => exact rtext_over
  | some z =>
    have hn := wf_nw hA
    show MC _ _ [.agg #[.bool (decide (z < 0)), .bool false, tk z.natAbs (nw z.natAbs)]] [] (.string (textB (some z))) []
    by_cases h0 : z = 0
    · subst h0
      exact rtext_zero rfl
    · have hN : z.natAbs ≠ 0 := by omega
      have hnw := nw_pos.2 hN
      have hL := hexLen_words hN
      have hd : dI z.natAbs (hexLen z.natAbs) 0 = (List.range (hexLen z.natAbs)).map fun t => chr (hexd z.natAbs (hexLen z.natAbs - 1 - t)) := rfl
      have hlen : (dI z.natAbs (hexLen z.natAbs) 0).length ≤ 1000 := by rw [hd]; simp; omega
      by_cases hz : z < 0
      · have hl := rt_loop (s := true) hN hL (by omega) rfl
        have e : textB (some z) = (⟨#[45]⟩ : ByteArray) ++ strOf (dI z.natAbs (hexLen z.natAbs) 0) := by
          have e1 : textB (some z) = strOf ((List.range (sLen (decide (z < 0)) + hexLen z.natAbs)).map (tc z.natAbs (hexLen z.natAbs) (decide (z < 0)))) := rfl
          rw [e1, decide_eq_true hz]
          have e2 : (⟨#[45]⟩ : ByteArray) = strOf [45] := rfl
          rw [e2, strOf_append, show sLen true + hexLen z.natAbs = hexLen z.natAbs + 1 from Nat.add_comm _ _, List.range_succ_eq_map, List.map_cons, List.map_map]
          rfl
        rw [decide_eq_true hz, e]
        exact rtext_neg (by omega) rfl rfl (by omega) rfl (by rw [strOf_size]; show 1 + _ ≤ _; omega) hl
      · have hl := rt_loop (s := false) hN hL (by omega) rfl
        have e : textB (some z) = strOf (dI z.natAbs (hexLen z.natAbs) 0) := by
          have e1 : textB (some z) = strOf ((List.range (sLen (decide (z < 0)) + hexLen z.natAbs)).map (tc z.natAbs (hexLen z.natAbs) (decide (z < 0)))) := rfl
          rw [e1, decide_eq_false hz, hd, show sLen false + hexLen z.natAbs = hexLen z.natAbs from Nat.zero_add _]
          rfl
        rw [decide_eq_false hz, e]
        exact rtext_pos (by omega) rfl rfl (by omega) hl
end Go.Proofs.YtlbdfgpdgcldhaaGreat.R
