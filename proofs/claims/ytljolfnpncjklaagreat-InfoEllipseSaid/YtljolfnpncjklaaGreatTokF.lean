/-
  The reference's numbers: Text.
-/
import Derived.Test.YtljolfnpncjklaaGreatTokE
/-! The reference: Text. -/
namespace Go.Proofs.YtljolfnpncjklaaGreat.R
open Go Go.Ev Go.W32
open Go.Proofs.YtljolfnpncjklaaGreat.W (mixed rsl i64_wrap u64_wrap u32_wrap bitLen_lt_iff clamp WF signI Hi bitLen_Hi textB tc sLen hexLen hexd chr hexS)

def ptr0 : Value := .pointer (some ⟨0, 0, none⟩)
def boxT (s : Bool) (N n : Nat) : Blk := ⟨[.bool s, .bool false, tk N n], 36, true⟩
def rtS (s : Bool) (N n : Nat) (B : ByteArray) (i : Int) : St := ⟨slots 50 [(1, ptr0), (3, .string B), (4, .int .i64 i)], [boxT s N n]⟩
def rtL : List Nat := [1, 3, 4]
/-- A text not empty? -/
def ne0 (B : ByteArray) : Bool := !(B.toList == (⟨#[]⟩ : ByteArray).toList)
theorem ne0_eq (B : ByteArray) : ne0 B = decide (B.data.toList ≠ []) := by
  unfold ne0
  rw [ByteArray.toList_eq, ByteArray.toList_eq]
  cases h : B.data.toList with
  | nil => rfl
  | cons a l => rfl
theorem strOf_push (l : List Int) : ∀ b : ByteArray, (l.foldl (fun r n => r.push (UInt8.ofNat n.toNat)) b).data.toList = b.data.toList ++ l.map fun n => UInt8.ofNat n.toNat := by
  induction l with
  | nil => intro b; simp
  | cons a l ih =>
    intro b
    rw [List.foldl_cons, ih]
    simp [ByteArray.push]
theorem strOf_data (l : List Int) : (strOf l).data.toList = l.map fun n => UInt8.ofNat n.toNat := by
  unfold strOf
  rw [strOf_push]
  simp
theorem bytes_eq {a b : ByteArray} (h : a.data.toList = b.data.toList) : a = b := by
  cases a; cases b
  congr
  exact Array.toList_inj.1 h
theorem strOf_append (a b : List Int) : strOf a ++ strOf b = strOf (a ++ b) := by
  refine bytes_eq ?_
  rw [show (strOf a ++ strOf b).data.toList = (strOf a).data.toList ++ (strOf b).data.toList by simp]
  rw [strOf_data, strOf_data, strOf_data, List.map_append]
theorem strOf_size (l : List Int) : (strOf l).size = l.length := by
  show (strOf l).data.size = _
  rw [← Array.length_toList, strOf_data, List.length_map]
theorem digit_str : ∀ d, d < 16 → hexS.extract d (d + 1) = strOf [chr d] := by decide +kernel
theorem wd_hexd (N k : Nat) : wd N (k / 8) / 2 ^ (4 * (k % 8)) % 16 = hexd N k := by
  unfold wd hexd
  have e : N / 2 ^ (4 * k) = N / 2 ^ (32 * (k / 8)) / 2 ^ (4 * (k % 8)) := by
    rw [Nat.div_div_eq_div_mul, ← Nat.pow_add, show 32 * (k / 8) + 4 * (k % 8) = 4 * k by omega]
  rw [e]
  generalize N / 2 ^ (32 * (k / 8)) = Q
  have h : 4 * (k % 8) ≤ 28 := by omega
  generalize 4 * (k % 8) = j at *
  have e2 : (4294967296 : Nat) = 2 ^ j * (16 * 2 ^ (28 - j)) := by
    have : (16 : Nat) = 2 ^ 4 := rfl
    rw [this, ← Nat.pow_add, ← Nat.pow_add, show j + (4 + (28 - j)) = 32 by omega]
  rw [e2, Nat.mod_mul_right_div_self, Nat.mod_mul_right_mod]
/-- The digits from the top down to place k. -/
def dI (N L k : Nat) : List Int := (List.range (L - k)).map fun t => chr (hexd N (L - 1 - t))
theorem dI_step {N L k : Nat} (h : k < L) : dI N L k = dI N L (k + 1) ++ [chr (hexd N k)] := by
  unfold dI
  rw [show L - k = L - (k + 1) + 1 by omega, List.range_succ, List.map_append, List.map_singleton, show L - 1 - (L - (k + 1)) = k by omega]
theorem dI_none {N L k : Nat} (h : L ≤ k) : dI N L k = [] := by
  unfold dI
  rw [show L - k = 0 by omega]
  rfl
theorem hex_bound {N : Nat} (h : N ≠ 0) : N < 2 ^ (4 * hexLen N) ∧ 2 ^ (4 * (hexLen N - 1)) ≤ N ∧ 1 ≤ hexLen N := by
  have hs := bitLen_spec N
  have h0 : bitLen N ≠ 0 := fun e => h (by have := hs.1; rw [e] at this; simpa using this)
  have hL : hexLen N = (bitLen N + 3) / 4 := by
    unfold hexLen
    split <;> omega
  refine ⟨Nat.lt_of_lt_of_le hs.1 (Nat.pow_le_pow_right (by omega) (by omega)), Nat.le_trans (Nat.pow_le_pow_right (by omega) (by omega)) (hs.2 h), by omega⟩
theorem hexd_top {N : Nat} (h : N ≠ 0) : hexd N (hexLen N - 1) ≠ 0 := by
  obtain ⟨h1, h2, h3⟩ := hex_bound h
  unfold hexd
  have hp : 0 < 2 ^ (4 * (hexLen N - 1)) := Nat.two_pow_pos _
  have h4 : N / 2 ^ (4 * (hexLen N - 1)) < 16 := by
    rw [Nat.div_lt_iff_lt_mul hp, show (16 : Nat) = 2 ^ 4 from rfl, ← Nat.pow_add, show 4 + 4 * (hexLen N - 1) = 4 * hexLen N by omega]
    exact h1
  rw [Nat.mod_eq_of_lt h4]
  have := Nat.div_pos h2 hp
  omega
theorem hexd_none {N k : Nat} (h : N < 2 ^ (4 * hexLen N)) (hk : hexLen N ≤ k) : hexd N k = 0 := by
  unfold hexd
  rw [Nat.div_eq_of_lt (Nat.lt_of_lt_of_le h (Nat.pow_le_pow_right (by omega) (by omega)))]
theorem hexLen_words {N : Nat} (h : N ≠ 0) : hexLen N ≤ 8 * nw N := by
  have h0 := nw_pos.2 h
  have : bitLen N ≤ 32 * nw N := by unfold nw; omega
  unfold hexLen
  split <;> omega
theorem tdiv8 {n s : Nat} (h : n / 8 = s) : (n : Int).tdiv 8 = (s : Int) := by rw [← h]; rfl
theorem tmod8 {n r : Nat} (h : n % 8 = r) : (n : Int).tmod 8 = (r : Int) := by rw [← h]; rfl
theorem shrV32 {y r q : Nat} (hr : r ≤ 32) (hq : y / 2 ^ r = q) : Value.int .u32 ((y : Int).fdiv (2 ^ (min ((r : Int)).toNat 32))) = u3 q := by
  have e : ((2 : Int) ^ r) = ((2 ^ r : Nat) : Int) := by push_cast; rfl
  rw [Int.toNat_natCast, Nat.min_eq_left hr, e, Int.fdiv_eq_ediv_of_nonneg _ (Int.natCast_nonneg _), ← Int.natCast_ediv, hq]
  rfl
theorem and15 {y d : Nat} (hy : y < 4294967296) (hd : y % 16 = d) : Value.int .u32 (IntKind.u32.wrap ((BitVec.ofInt 32 (y : Int) &&& BitVec.ofInt 32 15).toNat : Int)) = u3 d :=
  andV (c := y) (p1 := 15) hy (by omega) (by rw [← hd]; exact Nat.and_two_pow_sub_one_eq_mod y 4)
theorem geN (k : Nat) : decide ((k : Int) ≥ 0) = true := decide_eq_true (by omega)
theorem wrapU32 {n : Int} {m : Nat} (h : n = m) (hm : m < 4294967296) : decide (IntKind.u32.wrap n = (m : Int)) = true := by
  rw [h, u32_wrap]
  exact decide_eq_true (by omega)
theorem dig_ok {d : Nat} (h : d < 16) : (decide (((d + 1 : Nat) : Int) ≤ ((hexS.size : Nat) : Int)) && decide ((d : Int) ≤ (((d + 1 : Nat) : Int).toNat : Int))) = true := by
  have e : hexS.size = 16 := rfl
  rw [e, decide_eq_true (by omega), decide_eq_true (by omega)]
  rfl
theorem size_ok {a b : ByteArray} (h : a.size + b.size ≤ 1000000) : decide (((a.size + b.size : Nat) : Int) ≤ 9223372036854775807) = true := decide_eq_true (by omega)
theorem dig_is {d : Nat} (h : d < 16) : Value.string (hexS.extract (d : Int).toNat ((d + 1 : Nat) : Int).toNat) = .string (strOf [chr d]) := by
  rw [Int.toNat_natCast, Int.toNat_natCast, digit_str d h]
theorem strOf_nil : strOf [] = ⟨#[]⟩ := rfl
theorem hexLen_zero : hexLen 0 = 1 := rfl
end Go.Proofs.YtljolfnpncjklaaGreat.R
