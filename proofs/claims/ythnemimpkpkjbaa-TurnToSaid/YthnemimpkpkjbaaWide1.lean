/-
  Plain numbers: a number's words, carries, borrows. No program.
  The program's magnitudes: sums, differences.
  math/bits: the length of a word, products of two words; multiplyAdd.
  The program's magnitudes: lengths, comparison, zero, signed numbers.
  The program's integers: signed, Of, Neg, Add, Sub, Cmp, Sign, Bits, Over.
  Shifts of words, as numbers and as the program computes them.
  Products of words, row by row, column by column, in numbers.
  The number of leading zero bits of a word.
-/
import Derived.Test.YthnemimpkpkjbaaEv2
import Derived.Test.YthnemimpkpkjbaaProg
import Derived.Shelf.Spec.BitsCarry
import Derived.Laws.MathBits
/-! Plain numbers: a number's words, carries, borrows. No program. -/
namespace Go.Wide

/-- Word i of N. -/
def wd (N i : Nat) : Nat := N / 2 ^ (64 * i) % 18446744073709551616

theorem wd_lt (N i : Nat) : wd N i < 18446744073709551616 := Nat.mod_lt _ (by decide)
theorem wd_eq_zero {N i : Nat} (h : N < 2 ^ (64 * i)) : wd N i = 0 := by
  unfold wd
  rw [Nat.div_eq_of_lt h]

/-- What 16 words hold. -/
def pw : Nat → Nat
  | 0 => 1
  | n + 1 => 2 * pw n
theorem pw_eq : ∀ n, pw n = 2 ^ n
  | 0 => rfl
  | n + 1 => by rw [pw, pw_eq n, Nat.pow_succ, Nat.mul_comm]
theorem pw_succ (n : Nat) : pw (n + 1) = 2 * pw n := rfl
theorem pw_pos (n : Nat) : 0 < pw n := by rw [pw_eq]; exact Nat.two_pow_pos _
def T16 : Nat := pw (64 * 15 + 64)
theorem T16_eq : T16 = pw (64 * 15 + 64) := by rw [T16]
/-- A magnitude of the program: 16 words. -/
def words (N : Nat) : List Value := (List.range 16).map fun i => .int .u64 (wd N i)
def mag (N : Nat) : Value := .agg (words N).toArray

theorem pow_succ64 (i : Nat) : 2 ^ (64 * (i + 1)) = 2 ^ (64 * i) * 18446744073709551616 := by
  rw [Nat.mul_add, Nat.pow_add]

/-! Sums -/
def car (M N i : Nat) : Nat := (M % 2 ^ (64 * i) + N % 2 ^ (64 * i)) / 2 ^ (64 * i)
theorem car_le (M N i : Nat) : car M N i ≤ 1 := by
  unfold car
  have hp : 0 < 2 ^ (64 * i) := Nat.two_pow_pos _
  have h1 := Nat.mod_lt M hp
  have h2 := Nat.mod_lt N hp
  have : (M % 2 ^ (64 * i) + N % 2 ^ (64 * i)) / 2 ^ (64 * i) < 2 := Nat.div_lt_of_lt_mul (by omega)
  omega
theorem add_div_car (M N i : Nat) : (M + N) / 2 ^ (64 * i) = M / 2 ^ (64 * i) + N / 2 ^ (64 * i) + car M N i := by
  unfold car
  have hp : 0 < 2 ^ (64 * i) := Nat.two_pow_pos _
  generalize 2 ^ (64 * i) = X at hp
  have e1 := Nat.div_add_mod M X
  have e2 := Nat.div_add_mod N X
  have : M + N = (M % X + N % X) + X * (M / X + N / X) := by rw [Nat.mul_add]; omega
  rw [this, Nat.add_mul_div_left _ _ hp]
  have h3 : (M % X + N % X + X * (M / X + N / X)) = M + N := this.symm
  omega
theorem wd_add (M N i : Nat) : wd (M + N) i = (wd M i + wd N i + car M N i) % 18446744073709551616 := by
  unfold wd
  rw [add_div_car]
  omega
theorem car_succ (M N i : Nat) : car M N (i + 1) = (wd M i + wd N i + car M N i) / 18446744073709551616 := by
  have h1 := add_div_car M N i
  have h2 := add_div_car M N (i + 1)
  have e : ∀ K, K / 2 ^ (64 * (i + 1)) = K / 2 ^ (64 * i) / 18446744073709551616 := fun K => by rw [pow_succ64, Nat.div_div_eq_div_mul]
  rw [e, e, e, h1] at h2
  unfold wd
  have hc := car_le M N i
  omega
theorem car_zero (M N : Nat) : car M N 0 = 0 := by simp [car, Nat.mod_one]

/-! Differences -/
def bor (M N i : Nat) : Nat := if M % 2 ^ (64 * i) < N % 2 ^ (64 * i) then 1 else 0
theorem bor_le (M N i : Nat) : bor M N i ≤ 1 := by unfold bor; split <;> omega
theorem sub_div_bor {M N : Nat} (h : N ≤ M) (i : Nat) : (M - N) / 2 ^ (64 * i) + N / 2 ^ (64 * i) + bor M N i = M / 2 ^ (64 * i) := by
  have h1 := add_div_car (M - N) N i
  rw [Nat.sub_add_cancel h] at h1
  have : car (M - N) N i = bor M N i := by
    unfold car bor
    have hp : 0 < 2 ^ (64 * i) := Nat.two_pow_pos _
    generalize 2 ^ (64 * i) = X at hp
    have e1 := Nat.mod_lt N hp
    have e2 := Nat.mod_lt (M - N) hp
    have e3 : ((M - N) % X + N % X) % X = M % X := by rw [← Nat.add_mod, Nat.sub_add_cancel h]
    by_cases hb : (M - N) % X + N % X < X
    · rw [Nat.div_eq_of_lt hb]
      rw [Nat.mod_eq_of_lt hb] at e3
      rw [if_neg (by omega)]
    · have e4 : ((M - N) % X + N % X) / X = 1 := by
        rw [Nat.div_eq_sub_div hp (by omega), Nat.div_eq_of_lt (by omega)]
      rw [e4]
      have e5 : ((M - N) % X + N % X) % X = (M - N) % X + N % X - X := by
        rw [Nat.mod_eq_sub_mod (by omega), Nat.mod_eq_of_lt (by omega)]
      rw [if_pos (by omega)]
  omega
theorem bor_zero (M N : Nat) : bor M N 0 = 0 := by simp [bor, Nat.mod_one]
/-- What one step of a subtraction gives. -/
theorem wd_sub {M N : Nat} (h : N ≤ M) (i : Nat) : (wd (M - N) i : Int) = ((wd M i : Int) - wd N i - bor M N i) % 18446744073709551616 := by
  have h1 := sub_div_bor h i
  unfold wd
  omega
theorem bor_succ {M N : Nat} (h : N ≤ M) (i : Nat) : (bor M N (i + 1) : Nat) = if wd M i < wd N i + bor M N i then 1 else 0 := by
  have h1 := sub_div_bor h i
  have h2 := sub_div_bor h (i + 1)
  have e : ∀ K, K / 2 ^ (64 * (i + 1)) = K / 2 ^ (64 * i) / 18446744073709551616 := fun K => by rw [pow_succ64, Nat.div_div_eq_div_mul]
  rw [e, e, e] at h2
  unfold wd
  have hc := bor_le M N i
  have hc2 := bor_le M N (i + 1)
  split <;> omega

end Go.Wide
/-! The program's magnitudes: sums, differences. -/
namespace Go.Proofs.Ythnemimpkpkjbaa.W
open Go Go.Ev Go.Wide

theorem mixed : Try.prog.follows .mixedOrders = true := by kernel_rfl

/-! ### plus -/
def carV (M N : Nat) : Nat → Int
  | 0 => 0
  | i + 1 => (car M N (i + 1) : Nat)
theorem carV_eq (M N i : Nat) : carV M N i = (car M N i : Nat) := by cases i <;> simp [carV, car_zero]
def plusAns (M N : Nat) : List Ans := (List.range 16).map fun i => .res (.tuple #[.int .u64 (wd (M + N) i : Nat), .int .u64 (car M N (i + 1) : Nat)])
/-! ### minus -/
def borV (M N : Nat) : Nat → Int
  | 0 => 0
  | i + 1 => (bor M N (i + 1) : Nat)
theorem borV_eq (M N i : Nat) : borV M N i = (bor M N i : Nat) := by cases i <;> simp [borV, bor_zero]
def minusAns (M N : Nat) : List Ans := (List.range 16).map fun i => .res (.tuple #[.int .u64 (wd (M - N) i : Nat), .int .u64 (bor M N (i + 1) : Nat)])
end Go.Proofs.Ythnemimpkpkjbaa.W
/-! math/bits: the length of a word, products of two words; multiplyAdd. -/
namespace Go.Proofs.Ythnemimpkpkjbaa.W
open Go Go.Ev Go.Wide

theorem u64_wrap (n : Int) : IntKind.u64.wrap n = n % 18446744073709551616 := by
  unfold IntKind.wrap
  simp [IntKind.signed, IntKind.bits]
theorem u8_wrap (n : Int) : IntKind.u8.wrap n = n % 256 := by
  unfold IntKind.wrap
  simp [IntKind.signed, IntKind.bits]
theorem u32_wrap (n : Int) : IntKind.u32.wrap n = n % 4294967296 := by
  unfold IntKind.wrap
  simp [IntKind.signed, IntKind.bits]
theorem i64_wrap {n : Int} (h0 : -9223372036854775808 ≤ n) (h1 : n ≤ 9223372036854775807) : IntKind.i64.wrap n = n := by
  rw [IntKind.wrap_i64]; omega
theorem fdiv_lit (n : Int) (m : Nat) : n.fdiv (m : Int) = n / (m : Int) := Int.fdiv_eq_ediv_of_nonneg _ (by omega)

/-! ### The length of a word -/
theorem bitLen_lt_iff {x n : Nat} : bitLen x ≤ n ↔ x < 2 ^ n := by
  have h := bitLen_spec x
  constructor
  · intro hn; exact Nat.lt_of_lt_of_le h.1 (Nat.pow_le_pow_right (by omega) hn)
  · intro hx
    rcases Nat.eq_zero_or_pos x with h0 | h0
    · subst h0; simp [bitLen]
    · have h2 := h.2 (by omega)
      rcases Nat.lt_or_ge n (bitLen x) with h3 | h3
      · exfalso
        have : 2 ^ n ≤ 2 ^ (bitLen x - 1) := Nat.pow_le_pow_right (by omega) (by omega)
        omega
      · exact h3

def len8 : ByteArray := ⟨((List.range 256).map fun i => UInt8.ofNat (bitLen i)).toArray⟩
theorem len8_get {i : Nat} (h : i < 256) : (len8.data.getD i 0).toNat = bitLen i := by
  have hb : bitLen i ≤ 8 := bitLen_lt_iff.2 h
  simp [len8, h]
  omega

def shr (b : Bool) (k : Nat) (x : Int) : Int := match b with | true => x.fdiv (2 ^ k) | false => x
def lenIx (b1 b2 b3 : Bool) (x : Int) : Int := shr b3 8 (shr b2 16 (shr b1 32 x))
def lenN (b1 b2 b3 : Bool) : Int := (match b1 with | true => 32 | false => 0) + (match b2 with | true => 16 | false => 0) + (match b3 with | true => 8 | false => 0)
/-! ### Products -/
def lo32 (z : Int) : Int := IntKind.u64.wrap (BitVec.ofInt 64 z &&& BitVec.ofInt 64 4294967295).toNat
def hi32 (z : Int) : Int := z.fdiv 4294967296
def w64 (z : Int) : Int := IntKind.u64.wrap z
def mul64Val (x y : Int) : Value :=
  .tuple #[.int .u64 (w64 (w64 (w64 (hi32 x * hi32 y) + hi32 (w64 (w64 (hi32 x * lo32 y) + hi32 (w64 (lo32 x * lo32 y))))) + hi32 (w64 (lo32 (w64 (w64 (hi32 x * lo32 y) + hi32 (w64 (lo32 x * lo32 y)))) + w64 (lo32 x * hi32 y))))), .int .u64 (w64 (x * y))]

theorem lo32_eq {z : Int} (h0 : 0 ≤ z) (h1 : z < 18446744073709551616) : lo32 z = z % 4294967296 := and_low32 z h0 h1
theorem hi32_eq (z : Int) : hi32 z = z / 4294967296 := fdiv_lit z 4294967296

end Go.Proofs.Ythnemimpkpkjbaa.W
/-! The program's magnitudes: lengths, comparison, zero, signed numbers. -/
namespace Go.Proofs.Ythnemimpkpkjbaa.W
open Go Go.Ev Go.Wide

/-! ### wordLength, bitLength -/
/-- A magnitude of L words. -/
def magL (L : Nat) (x : Nat → Nat) : Value := .agg ((List.range 16).map fun i => Value.int .u64 (match decide (i < L) with | true => (x i : Int) | false => 0)).toArray
def wlSteps : Nat → Int → List Ans → List Ans
  | 0, _, r => r
  | n + 1, j, r => .auto :: .auto :: .at 1 (.int .i64 (j - 1)) :: wlSteps n (j - 1) r
def wlAns (L : Nat) : List Ans := wlSteps (16 - L) 16 (match L with | 0 => [] | _ + 1 => [.auto, .tst false])
def wlOk (L : Nat) (x : Nat → Nat) : List Bool := match L with | 0 => [] | k + 1 => [!((x k : Int) == 0)]
theorem le16 {L : Nat} (h : L ≤ 16) : L = 0 ∨ L = 1 ∨ L = 2 ∨ L = 3 ∨ L = 4 ∨ L = 5 ∨ L = 6 ∨ L = 7 ∨ L = 8 ∨ L = 9 ∨ L = 10 ∨ L = 11 ∨ L = 12 ∨ L = 13 ∨ L = 14 ∨ L = 15 ∨ L = 16 := by omega
/-- The number of words of N. -/
def nw (N : Nat) : Nat := (bitLen N + 63) / 64
theorem lt_nw (N : Nat) : N < 2 ^ (64 * nw N) := by
  refine Nat.lt_of_lt_of_le (bitLen_spec N).1 (Nat.pow_le_pow_right (by omega) ?_)
  unfold nw; omega
theorem nw_le {N k : Nat} (h : N < 2 ^ (64 * k)) : nw N ≤ k := by
  have := bitLen_lt_iff.2 h
  unfold nw; omega
theorem bitLen_pw {x n : Nat} : bitLen x ≤ n ↔ x < pw n := by rw [pw_eq]; exact bitLen_lt_iff
theorem nw_le16 {N : Nat} (h : N < T16) : nw N ≤ 16 := by
  have := bitLen_pw.2 (T16_eq ▸ h)
  unfold nw; omega
theorem div_T16 {N : Nat} (h : N < T16) : N / 2 ^ (64 * 16) = 0 := by
  have e : ∀ n m, n = m → pw n = 2 ^ m := fun n m e => by rw [e, pw_eq]
  exact Nat.div_eq_of_lt (by rw [← e (64 * 15 + 64) (64 * 16) rfl, ← T16_eq]; exact h)
theorem nw_top {N : Nat} (h : nw N ≠ 0) : N / 2 ^ (64 * (nw N - 1)) ≠ 0 ∧ N / 2 ^ (64 * (nw N - 1)) < 18446744073709551616 := by
  have hl := bitLen_spec N
  have hn : N ≠ 0 := fun e => by subst e; exact h (by simp [nw, bitLen])
  have h2 := hl.2 hn
  constructor
  · have : 2 ^ (64 * (nw N - 1)) ≤ 2 ^ (bitLen N - 1) := Nat.pow_le_pow_right (by omega) (by unfold nw at *; omega)
    have hp : 0 < 2 ^ (64 * (nw N - 1)) := Nat.two_pow_pos _
    have := Nat.div_pos (Nat.le_trans this h2) hp
    omega
  · rw [Nat.div_lt_iff_lt_mul (Nat.two_pow_pos _)]
    have := lt_nw N
    have e : 18446744073709551616 * 2 ^ (64 * (nw N - 1)) = 2 ^ (64 * nw N) := by
      rw [show 64 * nw N = 64 + 64 * (nw N - 1) by omega, Nat.pow_add]
    omega
theorem wd_top {N : Nat} (h : nw N ≠ 0) : wd N (nw N - 1) = N / 2 ^ (64 * (nw N - 1)) := Nat.mod_eq_of_lt (nw_top h).2
theorem bitLen_nw {N : Nat} (h : nw N ≠ 0) : bitLen N = 64 * (nw N - 1) + bitLen (wd N (nw N - 1)) := by
  rw [wd_top h]
  exact bitLen_shift N _ (nw_top h).1
theorem mag_eq_magL {N : Nat} (_ : N < T16) : mag N = magL (nw N) (wd N) := by
  unfold mag magL words
  congr 2
  apply List.map_congr_left
  intro i _
  by_cases hi : i < nw N
  · simp [hi]
  · have : wd N i = 0 := wd_eq_zero (Nat.lt_of_lt_of_le (lt_nw N) (Nat.pow_le_pow_right (by omega) (by omega)))
    simp [hi, this]
def blAns (L n : Nat) : List Ans := .res (.int .i64 L) :: (match L with | 0 => [] | _ + 1 => [.res (.int .i64 n)])
def blV (L n : Nat) : Value := match L with | 0 => .int .i64 0 | k + 1 => .int .i64 (IntKind.i64.wrap ((k * 64 : Nat) + n))
/-! ### isZero -/
def eqZ : List Nat → Bool
  | [] => true
  | x :: xs => ((x : Int) == 0) && eqZ xs
theorem eqZ_iff : ∀ {l : List Nat}, eqZ l = true ↔ ∀ x ∈ l, x = 0
  | [] => by simp [eqZ]
  | x :: xs => by simp [eqZ, eqZ_iff]
theorem mag_eq_magL16 (N : Nat) : mag N = magL 16 (wd N) := rfl
theorem eq_zero_of_words {N : Nat} (h : N < T16) (hw : ∀ i, i < 16 → wd N i = 0) : N = 0 := by
  by_cases hn : nw N = 0
  · have := lt_nw N
    rw [hn] at this
    simpa using this
  · have h1 := nw_le16 h
    have h2 := hw (nw N - 1) (by omega)
    rw [wd_top hn] at h2
    exact absurd h2 (nw_top hn).1
/-! ### compare -/
/-- From word 15 down, n words whose tests both fail. -/
def cmpAns : Nat → Int → List Ans → List Ans
  | 0, _, r => r
  | n + 1, j, r => .auto :: .tst false :: .tst false :: .at 1 (.int .i64 (j - 1)) :: cmpAns n (j - 1) r
def cmpOk (x y : Nat → Nat) : Nat → Nat → List Bool → List Bool
  | 0, _, r => r
  | n + 1, j, r => (!decide ((x j : Int) < y j)) :: (!decide ((x j : Int) > y j)) :: cmpOk x y n (j - 1) r
theorem le15 {L : Nat} (h : L ≤ 15) : L = 0 ∨ L = 1 ∨ L = 2 ∨ L = 3 ∨ L = 4 ∨ L = 5 ∨ L = 6 ∨ L = 7 ∨ L = 8 ∨ L = 9 ∨ L = 10 ∨ L = 11 ∨ L = 12 ∨ L = 13 ∨ L = 14 ∨ L = 15 := by omega
theorem cmpOk_true {x y : Nat → Nat} : ∀ (n j : Nat) (r : List Bool), n ≤ j + 1 → (∀ i, i ≤ j → j < i + n → x i = y i) → conj r = true → conj (cmpOk x y n j r) = true
  | 0, _, _, _, _, h => h
  | n + 1, j, r, hn, h, hr => by
    have := h j (Nat.le_refl _) (by omega)
    simp only [cmpOk, conj_cons, this]
    rcases Nat.eq_zero_or_pos n with h0 | h0
    · subst h0; simpa [cmpOk] using hr
    · simpa using cmpOk_true n (j - 1) r (by omega) (fun i h1 h2 => h i (by omega) (by omega)) hr

theorem div_step (N j : Nat) : N / 2 ^ (64 * j) = N / 2 ^ (64 * (j + 1)) * 18446744073709551616 + wd N j := by
  unfold wd
  have e : N / 2 ^ (64 * (j + 1)) = N / 2 ^ (64 * j) / 18446744073709551616 := by rw [pow_succ64, Nat.div_div_eq_div_mul]
  rw [e]; omega
/-- Equal from word k on. -/
theorem div_eq_of_words {M N : Nat} (hM : M < T16) (hN : N < T16) : ∀ (n k : Nat), k + n = 16 → (∀ i, k ≤ i → i < 16 → wd M i = wd N i) → M / 2 ^ (64 * k) = N / 2 ^ (64 * k)
  | 0, k, hk, _ => by
    have : k = 16 := by omega
    subst this
    rw [div_T16 hM, div_T16 hN]
  | n + 1, k, hk, h => by
    rw [div_step M k, div_step N k, div_eq_of_words hM hN n (k + 1) (by omega) (fun i h1 h2 => h i (by omega) h2), h k (Nat.le_refl _) (by omega)]
/-- The first word from above in which two numbers differ. -/
theorem first_diff (x y : Nat → Nat) : ∀ n, (∀ i, n ≤ i → i < 16 → x i = y i) → n ≤ 16 → (∀ i, i < 16 → x i = y i) ∨ ∃ d, d < n ∧ x d ≠ y d ∧ ∀ i, d < i → i < 16 → x i = y i
  | 0, h, _ => .inl fun i hi => h i (by omega) hi
  | n + 1, h, hn => by
    by_cases e : x n = y n
    · rcases first_diff x y n (fun i h1 h2 => by
        by_cases hi : i = n
        · rw [hi]; exact e
        · exact h i (by omega) h2) (by omega) with h' | ⟨d, h1, h2, h3⟩
      · exact .inl h'
      · exact .inr ⟨d, by omega, h2, h3⟩
    · exact .inr ⟨n, by omega, e, fun i h1 h2 => h i (by omega) h2⟩
theorem lt_of_top {M N : Nat} (hM : M < T16) (hN : N < T16) {d : Nat} (hd : d < 16) (h : ∀ i, d < i → i < 16 → wd M i = wd N i) (hlt : wd M d < wd N d) : M < N := by
  have e := div_eq_of_words hM hN (16 - (d + 1)) (d + 1) (by omega) (fun i h1 h2 => h i (by omega) h2)
  have h1 := div_step M d
  have h2 := div_step N d
  rw [e] at h1
  have hq : M / 2 ^ (64 * d) < N / 2 ^ (64 * d) := by omega
  rcases Nat.lt_or_ge M N with h3 | h3
  · exact h3
  · have := Nat.div_le_div_right (c := 2 ^ (64 * d)) h3
    omega
/-- Numbers compared. -/
def cmpI (a b : Nat) : Int := if a < b then -1 else if b < a then 1 else 0
end Go.Proofs.Ythnemimpkpkjbaa.W
/-! The program's integers: signed, Of, Neg, Add, Sub, Cmp, Sign, Bits, Over. -/
namespace Go.Proofs.Ythnemimpkpkjbaa.W
open Go Go.Ev Go.Wide

/-- One more than the greatest number without its sign. -/
def Hi : Nat := pw (64 * 15 + 63)
theorem Hi_eq : Hi = pw (64 * 15 + 63) := by rw [Hi]
theorem Hi_T16 : T16 = 2 * Hi := by
  rw [T16_eq, Hi_eq, ← pw_succ]
theorem Hi_pos : 0 < Hi := by rw [Hi_eq]; exact pw_pos _
theorem bitLen_Hi {K : Nat} : bitLen K ≤ 1023 ↔ K < Hi := by rw [Hi_eq]; exact bitLen_pw

/-- An Int of the program: its words, its sign; over. -/
def wR (o : Bool) (N : Nat) (neg : Bool) : Value :=
  match o with
  | true => .agg (List.replicate 16 (Value.int .u64 0) ++ [Value.bool false, Value.bool true]).toArray
  | false => .agg ((List.range 16).map (fun i => Value.int .u64 (wd N i)) ++ [Value.bool neg, Value.bool false]).toArray
/-- A number, or over. -/
def wv : Option Int → Value
  | none => wR true 0 false
  | some z => wR false z.natAbs (decide (z < 0))
def WF (A : Option Int) : Prop := ∀ z, A = some z → z.natAbs < Hi
def clamp (z : Int) : Option Int := if z.natAbs < Hi then some z else none
theorem clamp_wf (z : Int) : WF (clamp z) := by
  intro y h
  unfold clamp at h
  split at h
  · cases h; assumption
  · cases h
def sg (K : Nat) (s : Bool) : Int := match s with | true => -(K : Int) | false => K
def sgn (K : Nat) (s : Bool) : Option Int := clamp (sg K s)
theorem flat_wR (o : Bool) (N : Nat) (s : Bool) : flat (wR o N s) = true := by cases o <;> rfl
theorem flat_wv (A : Option Int) : flat (wv A) = true := by
  cases A with
  | none => exact flat_wR true 0 false
  | some z => exact flat_wR false z.natAbs (decide (z < 0))
theorem flat_mag (N : Nat) : flat (mag N) = true := by kernel_rfl
theorem wv_some {z : Int} : wv (some z) = wR false z.natAbs (decide (z < 0)) := rfl
/-- Whatever the number: which of the two forms it has. -/
theorem wv_form (A : Option Int) : ∃ o K s, wv A = wR o K s := by
  cases A with
  | none => exact ⟨true, 0, false, rfl⟩
  | some z => exact ⟨false, z.natAbs, decide (z < 0), rfl⟩

/-! ### Over, Bits, Sign -/
/-- The magnitude of an Int, 0 where it is over. -/
def absN : Option Int → Nat
  | none => 0
  | some z => z.natAbs
theorem absN_lt {A : Option Int} (h : WF A) : absN A < Hi := by
  cases A with
  | none => exact Hi_pos
  | some z => exact h z rfl
theorem absN_T16 {A : Option Int} (h : WF A) : absN A < T16 := by have := absN_lt h; have := Hi_T16; omega
def signI : Option Int → Int
  | none => 0
  | some z => if z < 0 then -1 else if z = 0 then 0 else 1
/-! ### Of -/
/-- A number of one word. -/
theorem words_small {N : Nat} (h : N < 18446744073709551616) : (List.range 16).map (fun i => Value.int .u64 (wd N i)) = [Value.int .u64 N] ++ List.replicate 15 (Value.int .u64 0) := by
  have h0 : wd N 0 = N := by unfold wd; simp; omega
  have hi : ∀ i, wd N (i + 1) = 0 := fun i => wd_eq_zero (Nat.lt_of_lt_of_le h (by
    have : 2 ^ 64 ≤ 2 ^ (64 * (i + 1)) := Nat.pow_le_pow_right (by omega) (by omega)
    simpa using this))
  simp only [List.range_succ_eq_map, List.range_zero, List.map_cons, List.map_nil, h0]
  simp [hi, List.replicate]
/-! ### Neg, Add, Sub -/
def wneg : Option Int → Option Int
  | none => none
  | some z => some (-z)
theorem wneg_wf {A : Option Int} (h : WF A) : WF (wneg A) := by
  intro y hy
  cases A with
  | none => cases hy
  | some z => cases hy; have := h z rfl; omega
theorem clamp_eq {z : Int} (h : z.natAbs < Hi) : clamp z = some z := if_pos h
def wadd : Option Int → Option Int → Option Int
  | some a, some b => clamp (a + b)
  | _, _ => none
theorem wadd_wf (A B : Option Int) : WF (wadd A B) := by
  unfold wadd
  split
  · exact clamp_wf _
  · intro z h; cases h
def wsub (A B : Option Int) : Option Int := wadd A (wneg B)
end Go.Proofs.Ythnemimpkpkjbaa.W
/-! Shifts of words, as numbers and as the program computes them. -/
namespace Go.Proofs.Ythnemimpkpkjbaa.W
open Go Go.Ev Go.Wide

/-! ### Plain shifts of words -/
theorem or_add {a b k : Nat} (hb : b < 2 ^ k) : (2 ^ k * a ||| b) = 2 ^ k * a + b := (Nat.two_pow_add_eq_or_of_lt hb a).symm
/-- Two neighbouring words of a number that is shifted by less than a word: Q = lo + B (hi + ..), over 2 ^ k. -/
theorem pair_shift (Q k : Nat) (hk : k ≤ 64) : Q / 2 ^ k % 18446744073709551616 = (Q % 18446744073709551616) / 2 ^ k + (Q / 18446744073709551616 % 18446744073709551616 * 2 ^ (64 - k)) % 18446744073709551616 := by
  have hB : (18446744073709551616 : Nat) = 2 ^ k * 2 ^ (64 - k) := by rw [← Nat.pow_add, Nat.add_sub_cancel' hk]
  have hp : 0 < 2 ^ k := Nat.two_pow_pos _
  have hq : 0 < 2 ^ (64 - k) := Nat.two_pow_pos _
  generalize he : (18446744073709551616 : Nat) = B at *
  generalize hX : 2 ^ k = X at *
  generalize hY : 2 ^ (64 - k) = Y at *
  have h1 : Q = B * (Q / B) + Q % B := (Nat.div_add_mod Q B).symm
  have h2 : Q / X = Q % B / X + Y * (Q / B) := by
    have : Q = Q % B + X * (Y * (Q / B)) := by rw [← Nat.mul_assoc, ← hB]; omega
    conv => lhs; rw [this]
    rw [Nat.add_mul_div_left _ _ hp]
  have hlt : Q % B / X < Y := by
    rw [Nat.div_lt_iff_lt_mul hp, Nat.mul_comm, ← hB]
    exact Nat.mod_lt _ (by rw [hB]; exact Nat.mul_pos hp hq)
  have h3 : (Y * (Q / B)) % B = (Q / B % B * Y) % B := by
    rw [Nat.mul_comm, Nat.mul_mod (Q / B) Y B, Nat.mul_mod (Q / B % B) Y B, Nat.mod_mod]
  have h4 : ∃ z, (Q / B % B * Y) % B = Y * z ∧ z < X := by
    refine ⟨(Q / B % B) % X, ?_, Nat.mod_lt _ hp⟩
    rw [hB, Nat.mul_mod_mul_right, Nat.mul_comm]
  obtain ⟨z, hz, hzx⟩ := h4
  rw [h2, Nat.add_mod, h3, hz]
  have hlt2 : Q % B / X + Y * z < B := by
    have : Y * z + Y ≤ Y * X := by rw [← Nat.mul_succ]; exact Nat.mul_le_mul_left _ hzx
    have hBY : B = Y * X := by rw [hB, Nat.mul_comm]
    omega
  have : Q % B / X < B := by omega
  rw [Nat.mod_eq_of_lt this, Nat.mod_eq_of_lt hlt2]

/-- The words of N / 2 ^ (64 s + r). -/
theorem wd_down (N s r i : Nat) (hr : r ≤ 64) : wd (N / 2 ^ (64 * s + r)) i = wd N (i + s) / 2 ^ r + wd N (i + s + 1) * 2 ^ (64 - r) % 18446744073709551616 := by
  have h1 : N / 2 ^ (64 * s + r) / 2 ^ (64 * i) = N / 2 ^ (64 * (i + s)) / 2 ^ r := by
    rw [Nat.div_div_eq_div_mul, Nat.div_div_eq_div_mul, ← Nat.pow_add, ← Nat.pow_add]
    congr 2; omega
  have h2 : N / 2 ^ (64 * (i + s + 1)) = N / 2 ^ (64 * (i + s)) / 18446744073709551616 := by rw [pow_succ64, Nat.div_div_eq_div_mul]
  unfold wd
  rw [h1, pair_shift _ r hr, h2]
/-- The words of N * 2 ^ (64 s + r). -/
theorem wd_up (N s r d : Nat) (hr : r < 64) : wd (N * 2 ^ (64 * s + r)) (d + s) = wd N d * 2 ^ r % 18446744073709551616 + (match d with | 0 => 0 | d + 1 => wd N d / 2 ^ (64 - r)) := by
  have h1 : N * 2 ^ (64 * s + r) / 2 ^ (64 * (d + s)) = N * 2 ^ r / 2 ^ (64 * d) := by
    rw [show 64 * (d + s) = 64 * d + 64 * s by omega, Nat.pow_add 2 (64 * s) r, Nat.pow_add 2 (64 * d), show N * (2 ^ (64 * s) * 2 ^ r) = N * 2 ^ r * 2 ^ (64 * s) by ac_rfl]
    exact Nat.mul_div_mul_right _ _ (Nat.two_pow_pos _)
  unfold wd
  rw [h1]
  cases d with
  | zero => simp [Nat.mul_mod]
  | succ d =>
    have h2 : N * 2 ^ r / 2 ^ (64 * (d + 1)) = N / 2 ^ (64 * d) / 2 ^ (64 - r) := by
      rw [Nat.div_div_eq_div_mul, ← Nat.pow_add, show 64 * (d + 1) = (64 * d + (64 - r)) + r by omega, Nat.pow_add]
      exact Nat.mul_div_mul_right _ _ (Nat.two_pow_pos _)
    have h3 : N / 2 ^ (64 * (d + 1)) = N / 2 ^ (64 * d) / 18446744073709551616 := by rw [pow_succ64, Nat.div_div_eq_div_mul]
    rw [h2, pair_shift _ (64 - r) (by omega), h3, show 64 - (64 - r) = r by omega, Nat.add_comm]
theorem wd_up_low (N s r i : Nat) (h : i < s) : wd (N * 2 ^ (64 * s + r)) i = 0 := by
  unfold wd
  have h1 : N * 2 ^ (64 * s + r) / 2 ^ (64 * i) = N * 2 ^ (64 * (s - i - 1) + r) * 18446744073709551616 := by
    have : 64 * s + r = (64 * (s - i - 1) + r) + 64 + 64 * i := by omega
    rw [this, Nat.pow_add, Nat.pow_add, ← Nat.mul_assoc, Nat.mul_div_cancel _ (Nat.two_pow_pos _), ← Nat.mul_assoc]
  rw [h1, Nat.mul_mod_left]

theorem T16_le (d : Nat) : T16 ≤ 2 ^ (64 * (d + 16)) := by
  have e : ∀ n m, n ≤ m → pw n ≤ 2 ^ m := fun n m h => by rw [pw_eq]; exact Nat.pow_le_pow_right (by omega) h
  rw [T16_eq]
  exact e _ _ (by omega)

/-! ### As the program computes -/
def shlI (x r : Int) : Int := IntKind.u64.wrap (x * 2 ^ (min r.toNat 64))
def shrI (x r : Int) : Int := x.fdiv (2 ^ (min r.toNat 64))
def orI (x y : Int) : Int := IntKind.u64.wrap (BitVec.ofInt 64 x ||| BitVec.ofInt 64 y).toNat
def restI (r : Int) : Int := IntKind.i64.wrap (64 - r)
theorem shlI_eq (x r : Nat) (hr : r ≤ 64) : shlI x r = ((x * 2 ^ r % 18446744073709551616 : Nat) : Int) := by
  unfold shlI
  have e : (x : Int) * (2 : Int) ^ r = ((x * 2 ^ r : Nat) : Int) := by push_cast; rfl
  rw [Int.toNat_natCast, Nat.min_eq_left hr, e, u64_wrap]
  generalize x * 2 ^ r = z
  omega
theorem shrI_eq (x r : Nat) (hr : r ≤ 64) : shrI x r = ((x / 2 ^ r : Nat) : Int) := by
  unfold shrI
  rw [Int.toNat_natCast, Nat.min_eq_left hr]
  have : ((2 : Int) ^ r) = ((2 ^ r : Nat) : Int) := by push_cast; rfl
  rw [this, fdiv_lit]
  rfl
theorem restI_eq {r : Nat} (hr : r ≤ 64) : restI r = ((64 - r : Nat) : Int) := by
  unfold restI
  rw [i64_wrap (by omega) (by omega)]
  omega
theorem orI_eq {x y : Nat} (hx : x < 18446744073709551616) (hy : y < 18446744073709551616) : orI x y = ((x ||| y : Nat) : Int) := by
  unfold orI
  have hlt : x ||| y < 2 ^ 64 := Nat.or_lt_two_pow hx hy
  have e : ∀ z : Nat, z < 18446744073709551616 → (BitVec.ofInt 64 (z : Int)).toNat = z := fun z hz => by
    rw [BitVec.toNat_ofInt]; omega
  rw [BitVec.toNat_or, e x hx, e y hy, u64_wrap]
  have : (2 : Nat) ^ 64 = 18446744073709551616 := by decide
  omega
end Go.Proofs.Ythnemimpkpkjbaa.W
/-! Products of words, row by row, column by column, in numbers. -/
namespace Go.Proofs.Ythnemimpkpkjbaa.W
open Go Go.Ev Go.Wide

theorem mod_succ64 (N s : Nat) : N % 2 ^ (64 * (s + 1)) = N % 2 ^ (64 * s) + wd N s * 2 ^ (64 * s) := by
  unfold wd
  rw [pow_succ64, Nat.mod_mul, Nat.mul_comm (2 ^ (64 * s))]
theorem wd_lt_add (A z s t : Nat) (h : t < s) : wd (A + z * 2 ^ (64 * s)) t = wd A t := by
  unfold wd
  have e : z * 2 ^ (64 * s) = 2 ^ (64 * t) * (18446744073709551616 * (z * 2 ^ (64 * (s - t - 1)))) := by
    have : 64 * s = 64 * t + (64 + 64 * (s - t - 1)) := by omega
    rw [this, Nat.pow_add, Nat.pow_add]
    show _ = _ * (2 ^ 64 * _)
    ac_rfl
  rw [e, Nat.add_mul_div_left _ _ (Nat.two_pow_pos _), Nat.add_mul_mod_self_left]
theorem wd_mod (P s t : Nat) (h : t < s) : wd (P % 2 ^ (64 * s)) t = wd P t := by
  have e : P = P % 2 ^ (64 * s) + P / 2 ^ (64 * s) * 2 ^ (64 * s) := by rw [Nat.mul_comm (P / _)]; exact (Nat.mod_add_div _ _).symm
  conv => rhs; rw [e]
  exact (wd_lt_add _ _ _ _ h).symm

/-- The rows before row i. -/
def rowP (M N i : Nat) : Nat := M % 2 ^ (64 * i) * N
/-- Row i's columns before column j, and the rows before, as far as they count. -/
def colA (M N i j : Nat) : Nat := rowP M N i % 2 ^ (64 * (i + j)) + wd M i * (N % 2 ^ (64 * j)) * 2 ^ (64 * i)
def carryK (M N i j : Nat) : Nat := colA M N i j / 2 ^ (64 * (i + j))
/-- The words while row i is at column j. -/
def prodW (M N i j t : Nat) : Nat := match decide (t < i + j) with | true => wd (colA M N i j) t | false => wd (rowP M N i) t
def colT (M N i j : Nat) : Nat := wd M i * wd N j + wd (rowP M N i) (i + j) + carryK M N i j

theorem colA_succ (M N i j : Nat) : colA M N i (j + 1) = colA M N i j + (wd (rowP M N i) (i + j) + wd M i * wd N j) * 2 ^ (64 * (i + j)) := by
  unfold colA
  rw [show i + (j + 1) = (i + j) + 1 by omega, mod_succ64, mod_succ64 N j, Nat.mul_add (wd M i), Nat.add_mul, Nat.add_mul (wd (rowP M N i) (i + j))]
  have e : wd M i * (wd N j * 2 ^ (64 * j)) * 2 ^ (64 * i) = wd M i * wd N j * 2 ^ (64 * (i + j)) := by
    rw [Nat.mul_add, Nat.pow_add]; ac_rfl
  rw [e]
  omega
theorem colA_div (M N i j : Nat) : colA M N i (j + 1) / 2 ^ (64 * (i + j)) = colT M N i j := by
  rw [colA_succ, Nat.add_mul_div_right _ _ (Nat.two_pow_pos _)]
  unfold colT carryK
  omega
theorem carryK_succ (M N i j : Nat) : carryK M N i (j + 1) = colT M N i j / 18446744073709551616 := by
  rw [← colA_div]
  unfold carryK
  rw [show i + (j + 1) = (i + j) + 1 by omega, pow_succ64, Nat.div_div_eq_div_mul]
theorem carryK_zero (M N i : Nat) : carryK M N i 0 = 0 := by
  unfold carryK colA
  rw [Nat.mul_zero, Nat.pow_zero, Nat.mod_one, Nat.mul_zero, Nat.zero_mul, Nat.add_zero, Nat.add_zero]
  exact Nat.div_eq_of_lt (Nat.mod_lt _ (Nat.two_pow_pos _))
theorem colT_lt (M N i j : Nat) (h : carryK M N i j < 18446744073709551616) : colT M N i j < 18446744073709551616 * 18446744073709551616 := by
  unfold colT
  have h1 := wd_lt M i
  have h2 := wd_lt N j
  have h3 := wd_lt (rowP M N i) (i + j)
  have : wd M i * wd N j ≤ 18446744073709551615 * 18446744073709551615 := Nat.mul_le_mul (by omega) (by omega)
  omega
theorem carryK_lt (M N i : Nat) : ∀ j, carryK M N i j < 18446744073709551616
  | 0 => by rw [carryK_zero]; omega
  | j + 1 => by
    rw [carryK_succ]
    have := colT_lt M N i j (carryK_lt M N i j)
    exact Nat.div_lt_of_lt_mul this
theorem wd_colA (M N i j : Nat) : wd (colA M N i (j + 1)) (i + j) = colT M N i j % 18446744073709551616 := by
  unfold wd
  rw [colA_div]
theorem prodW_zero (M N i t : Nat) : prodW M N i 0 t = wd (rowP M N i) t := by
  unfold prodW
  by_cases h : t < i + 0
  · rw [decide_eq_true h]
    simp only
    unfold colA
    rw [Nat.mul_zero, Nat.pow_zero, Nat.mod_one, Nat.mul_zero, Nat.zero_mul, Nat.add_zero]
    exact wd_mod _ _ _ h
  · rw [decide_eq_false h]
/-- One column more. -/
theorem prodW_succ (M N i j t : Nat) : prodW M N i (j + 1) t = if t = i + j then colT M N i j % 18446744073709551616 else prodW M N i j t := by
  unfold prodW
  by_cases h : t = i + j
  · subst h
    rw [if_pos rfl, decide_eq_true (by omega)]
    exact wd_colA M N i j
  · rw [if_neg h]
    by_cases h1 : t < i + j
    · rw [decide_eq_true h1, decide_eq_true (by omega)]
      simp only
      rw [colA_succ, wd_lt_add _ _ _ _ h1]
    · rw [decide_eq_false h1, decide_eq_false (by omega)]
theorem rowP_lt (M N i c : Nat) (hN : N < 2 ^ (64 * c)) : rowP M N i < 2 ^ (64 * (i + c)) := by
  unfold rowP
  rw [Nat.mul_add, Nat.pow_add]
  have h1 : M % 2 ^ (64 * i) < 2 ^ (64 * i) := Nat.mod_lt _ (Nat.two_pow_pos _)
  have h2 : M % 2 ^ (64 * i) * N ≤ 2 ^ (64 * i) * N := Nat.mul_le_mul_right _ (Nat.le_of_lt h1)
  have h3 : 2 ^ (64 * i) * N < 2 ^ (64 * i) * 2 ^ (64 * c) := Nat.mul_lt_mul_of_pos_left hN (Nat.two_pow_pos _)
  omega
theorem colA_all (M N i c : Nat) (hN : N < 2 ^ (64 * c)) : colA M N i c = rowP M N (i + 1) := by
  unfold colA
  rw [Nat.mod_eq_of_lt (rowP_lt M N i c hN), Nat.mod_eq_of_lt hN]
  unfold rowP
  rw [mod_succ64, Nat.add_mul]
  have : wd M i * N * 2 ^ (64 * i) = wd M i * 2 ^ (64 * i) * N := by ac_rfl
  omega
theorem carryK_all (M N i c : Nat) (hN : N < 2 ^ (64 * c)) : carryK M N i c = wd (rowP M N (i + 1)) (i + c) := by
  have h := carryK_lt M N i c
  unfold carryK at *
  rw [colA_all M N i c hN] at *
  unfold wd
  rw [Nat.mod_eq_of_lt h]
/-- The row's end. -/
theorem prodW_all (M N i c t : Nat) (hN : N < 2 ^ (64 * c)) : (if t = i + c then carryK M N i c else prodW M N i c t) = wd (rowP M N (i + 1)) t := by
  by_cases h : t = i + c
  · subst h
    rw [if_pos rfl]
    exact carryK_all M N i c hN
  · rw [if_neg h]
    unfold prodW
    by_cases h1 : t < i + c
    · rw [decide_eq_true h1]
      simp only
      rw [colA_all M N i c hN]
    · rw [decide_eq_false h1]
      have hz : ∀ P, P < 2 ^ (64 * (i + 1 + c)) → wd P t = 0 := fun P hP => by
        unfold wd
        rw [Nat.div_eq_of_lt (Nat.lt_of_lt_of_le hP (Nat.pow_le_pow_right (by omega) (by omega)))]
      simp only
      rw [hz _ (Nat.lt_of_lt_of_le (rowP_lt M N i c hN) (Nat.pow_le_pow_right (by omega) (by omega))), hz _ (rowP_lt M N (i + 1) c hN)]
end Go.Proofs.Ythnemimpkpkjbaa.W
/-! The number of leading zero bits of a word. -/
namespace Go.Proofs.Ythnemimpkpkjbaa.W
open Go Go.Ev Go.Wide

end Go.Proofs.Ythnemimpkpkjbaa.W
