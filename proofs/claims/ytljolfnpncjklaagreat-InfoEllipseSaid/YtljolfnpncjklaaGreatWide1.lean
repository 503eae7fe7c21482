/-
  Plain numbers: a number's words, carries, borrows. No program.
  The program's magnitudes: sums, differences.
  math/bits: the length of a word, products of two words; multiplyAdd.
  The program's magnitudes: lengths, comparison, zero, signed numbers.
  The program's integers: signed, Of, Neg, Add, Sub, Cmp, Sign, Bits, Over.
  Shifts of words, as numbers and as the program computes them.
  Products of words, row by row, column by column, in numbers.
  The number of leading zero bits of a word.
-/
import Derived.Test.YtljolfnpncjklaaGreatEv2
import Derived.Test.YtljolfnpncjklaaGreatProg
import Derived.Shelf.Spec.BitsCarry
import Derived.Laws.MathBits
/-! Plain numbers: a number's words, carries, borrows. No program. -/
namespace Go.Wide

/-- Word i of N. -/
def wd (N i : Nat) : Nat := N / 2 ^ (64 * i) % 18446744073709551616

theorem wd_lt (N i : Nat) : wd N i < 18446744073709551616 := Nat.mod_lt _ (by decide)
theorem wd_eq_zero {N i : Nat} (h : N < 2 ^ (64 * i)) : wd N i = 0 := by
  unfold wd
  rw [Nat.div_eq_of_lt h]

/-- What 16 words hold. -/
def pw : Nat → Nat
  | 0 => 1
  | n + 1 => 2 * pw n
theorem pw_eq : ∀ n, pw n = 2 ^ n
  | 0 => rfl
  | n + 1 => by rw [pw, pw_eq n, Nat.pow_succ, Nat.mul_comm]
theorem pw_succ (n : Nat) : pw (n + 1) = 2 * pw n := rfl
theorem pw_pos (n : Nat) : 0 < pw n := by rw [pw_eq]; exact Nat.two_pow_pos _
def T16 : Nat := pw (64 * 15 + 64)
theorem T16_eq : T16 = pw (64 * 15 + 64) := by rw [T16]
/-- A magnitude of the program: 16 words. -/
def words (N : Nat) : List Value := (List.range 16).map fun i => .int .u64 (wd N i)
def mag (N : Nat) : Value := .agg (words N).toArray

theorem pow_succ64 (i : Nat) : 2 ^ (64 * (i + 1)) = 2 ^ (64 * i) * 18446744073709551616 := by
  rw [Nat.mul_add, Nat.pow_add]

/-! Sums -/
def car (M N i : Nat) : Nat := (M % 2 ^ (64 * i) + N % 2 ^ (64 * i)) / 2 ^ (64 * i)
theorem car_le (M N i : Nat) : car M N i ≤ 1 := by
  unfold car
  have hp : 0 < 2 ^ (64 * i) := Nat.two_pow_pos _
  have h1 := Nat.mod_lt M hp
  have h2 := Nat.mod_lt N hp
  have : (M % 2 ^ (64 * i) + N % 2 ^ (64 * i)) / 2 ^ (64 * i) < 2 := Nat.div_lt_of_lt_mul (by omega)
  omega
theorem add_div_car (M N i : Nat) : (M + N) / 2 ^ (64 * i) = M / 2 ^ (64 * i) + N / 2 ^ (64 * i) + car M N i := by
  unfold car
  have hp : 0 < 2 ^ (64 * i) := Nat.two_pow_pos _
  generalize 2 ^ (64 * i) = X at hp
  have e1 := Nat.div_add_mod M X
  have e2 := Nat.div_add_mod N X
  have : M + N = (M % X + N % X) + X * (M / X + N / X) := by rw [Nat.mul_add]; omega
  rw [this, Nat.add_mul_div_left _ _ hp]
  have h3 : (M % X + N % X + X * (M / X + N / X)) = M + N := this.symm
  omega
theorem wd_add (M N i : Nat) : wd (M + N) i = (wd M i + wd N i + car M N i) % 18446744073709551616 := by
  unfold wd
  rw [add_div_car]
  omega
theorem car_succ (M N i : Nat) : car M N (i + 1) = (wd M i + wd N i + car M N i) / 18446744073709551616 := by
  have h1 := add_div_car M N i
  have h2 := add_div_car M N (i + 1)
  have e : ∀ K, K / 2 ^ (64 * (i + 1)) = K / 2 ^ (64 * i) / 18446744073709551616 := fun K => by rw [pow_succ64, Nat.div_div_eq_div_mul]
  rw [e, e, e, h1] at h2
  unfold wd
  have hc := car_le M N i
  omega
theorem car_zero (M N : Nat) : car M N 0 = 0 := by simp [car, Nat.mod_one]

/-! Differences -/
def bor (M N i : Nat) : Nat := if M % 2 ^ (64 * i) < N % 2 ^ (64 * i) then 1 else 0
theorem bor_le (M N i : Nat) : bor M N i ≤ 1 := by unfold bor; split <;> omega
theorem sub_div_bor {M N : Nat} (h : N ≤ M) (i : Nat) : (M - N) / 2 ^ (64 * i) + N / 2 ^ (64 * i) + bor M N i = M / 2 ^ (64 * i) := by
  have h1 := add_div_car (M - N) N i
  rw [Nat.sub_add_cancel h] at h1
  have : car (M - N) N i = bor M N i := by
    unfold car bor
    have hp : 0 < 2 ^ (64 * i) := Nat.two_pow_pos _
    generalize 2 ^ (64 * i) = X at hp
    have e1 := Nat.mod_lt N hp
    have e2 := Nat.mod_lt (M - N) hp
    have e3 : ((M - N) % X + N % X) % X = M % X := by rw [← Nat.add_mod, Nat.sub_add_cancel h]
    by_cases hb : (M - N) % X + N % X < X
    · rw [Nat.div_eq_of_lt hb]
      rw [Nat.mod_eq_of_lt hb] at e3
      rw [if_neg (by omega)]
    · have e4 : ((M - N) % X + N % X) / X = 1 := by
        rw [Nat.div_eq_sub_div hp (by omega), Nat.div_eq_of_lt (by omega)]
      rw [e4]
      have e5 : ((M - N) % X + N % X) % X = (M - N) % X + N % X - X := by
        rw [Nat.mod_eq_sub_mod (by omega), Nat.mod_eq_of_lt (by omega)]
      rw [if_pos (by omega)]
  omega
theorem bor_zero (M N : Nat) : bor M N 0 = 0 := by simp [bor, Nat.mod_one]
/-- What one step of a subtraction gives. -/
theorem wd_sub {M N : Nat} (h : N ≤ M) (i : Nat) : (wd (M - N) i : Int) = ((wd M i : Int) - wd N i - bor M N i) % 18446744073709551616 := by
  have h1 := sub_div_bor h i
  unfold wd
  omega
theorem bor_succ {M N : Nat} (h : N ≤ M) (i : Nat) : (bor M N (i + 1) : Nat) = if wd M i < wd N i + bor M N i then 1 else 0 := by
  have h1 := sub_div_bor h i
  have h2 := sub_div_bor h (i + 1)
  have e : ∀ K, K / 2 ^ (64 * (i + 1)) = K / 2 ^ (64 * i) / 18446744073709551616 := fun K => by rw [pow_succ64, Nat.div_div_eq_div_mul]
  rw [e, e, e] at h2
  unfold wd
  have hc := bor_le M N i
  have hc2 := bor_le M N (i + 1)
  split <;> omega

end Go.Wide
/-! The program's magnitudes: sums, differences. -/
namespace Go.Proofs.YtljolfnpncjklaaGreat.W
open Go Go.Ev Go.Wide

theorem mixed : Tryz.prog.follows .mixedOrders = true := by kernel_rfl

theorem add64_qc (x y c : Nat) (hc : c ≤ 1) : QC Tryz.prog 79 [.int .u64 x, .int .u64 y, .int .u64 c]
    (.tuple #[.int .u64 (((x + y + c) % 18446744073709551616 : Nat) : Int), .int .u64 (((x + y + c) / 18446744073709551616 : Nat) : Int)]) := .inl fun w => by
  rw [run_callFunc_extern Tryz.func79 (by kernel_rfl) (by kernel_rfl) (by kernel_rfl) (e := add64Entry) (by kernel_rfl), run_add64 x y c (by omega) (by omega) (by omega) (by omega)]
  simp only [Result.andThen]
  congr 5 <;> omega

theorem sub64_qc (x y b : Nat) (hb : b ≤ 1) : QC Tryz.prog 80 [.int .u64 x, .int .u64 y, .int .u64 b]
    (.tuple #[.int .u64 (((x + 18446744073709551616 - y - b) % 18446744073709551616 : Nat) : Int), .int .u64 ((if x < y + b then 1 else 0 : Nat) : Int)]) := .inl fun w => by
  rw [run_callFunc_extern Tryz.func80 (by kernel_rfl) (by kernel_rfl) (by kernel_rfl) (e := sub64Entry) (by kernel_rfl), run_sub64 x y b hb]
  rfl

/-! ### plus -/
def carV (M N : Nat) : Nat → Int
  | 0 => 0
  | i + 1 => (car M N (i + 1) : Nat)
theorem carV_eq (M N i : Nat) : carV M N i = (car M N i : Nat) := by cases i <;> simp [carV, car_zero]
def plusAns (M N : Nat) : List Ans := (List.range 16).map fun i => .res (.tuple #[.int .u64 (wd (M + N) i : Nat), .int .u64 (car M N (i + 1) : Nat)])
def plusOb (M N i : Nat) : Prop := QC Tryz.prog 79 [.int .u64 (wd M i : Nat), .int .u64 (wd N i : Nat), .int .u64 (carV M N i)] (.tuple #[.int .u64 (wd (M + N) i : Nat), .int .u64 (car M N (i + 1) : Nat)])
theorem plus_pc (M N : Nat) : PC Tryz.prog 39 [mag M, mag N] (mag (M + N)) := by
  refine PC.of_ev3 mixed Tryz.func39 400 (plusAns M N) (ok := true) (obs := (List.range 16).map (plusOb M N)) (v := mag (M + N)) (by kernel_rfl) (by kernel_rfl) rfl (allP_map fun i _ => ?_) (by kernel_rfl) rfl
  unfold plusOb
  rw [carV_eq, wd_add, car_succ]
  exact add64_qc _ _ _ (car_le M N i)

/-! ### minus -/
def borV (M N : Nat) : Nat → Int
  | 0 => 0
  | i + 1 => (bor M N (i + 1) : Nat)
theorem borV_eq (M N i : Nat) : borV M N i = (bor M N i : Nat) := by cases i <;> simp [borV, bor_zero]
def minusAns (M N : Nat) : List Ans := (List.range 16).map fun i => .res (.tuple #[.int .u64 (wd (M - N) i : Nat), .int .u64 (bor M N (i + 1) : Nat)])
def minusOb (M N i : Nat) : Prop := QC Tryz.prog 80 [.int .u64 (wd M i : Nat), .int .u64 (wd N i : Nat), .int .u64 (borV M N i)] (.tuple #[.int .u64 (wd (M - N) i : Nat), .int .u64 (bor M N (i + 1) : Nat)])
theorem minus_pc {M N : Nat} (h : N ≤ M) : PC Tryz.prog 41 [mag M, mag N] (mag (M - N)) := by
  refine PC.of_ev3 mixed Tryz.func41 400 (minusAns M N) (ok := true) (obs := (List.range 16).map (minusOb M N)) (v := mag (M - N)) (by kernel_rfl) (by kernel_rfl) rfl (allP_map fun i _ => ?_) (by kernel_rfl) rfl
  unfold minusOb
  have h1 := wd_sub h i
  have h2 := wd_lt M i
  have h3 := wd_lt N i
  have h4 := bor_le M N i
  have h5 : (wd (M - N) i : Nat) = (wd M i + 18446744073709551616 - wd N i - bor M N i) % 18446744073709551616 := by omega
  rw [borV_eq, h5, bor_succ h]
  exact sub64_qc _ _ _ (bor_le M N i)
end Go.Proofs.YtljolfnpncjklaaGreat.W
/-! math/bits: the length of a word, products of two words; multiplyAdd. -/
namespace Go.Proofs.YtljolfnpncjklaaGreat.W
open Go Go.Ev Go.Wide

theorem u64_wrap (n : Int) : IntKind.u64.wrap n = n % 18446744073709551616 := by
  unfold IntKind.wrap
  simp [IntKind.signed, IntKind.bits]
theorem u8_wrap (n : Int) : IntKind.u8.wrap n = n % 256 := by
  unfold IntKind.wrap
  simp [IntKind.signed, IntKind.bits]
theorem u32_wrap (n : Int) : IntKind.u32.wrap n = n % 4294967296 := by
  unfold IntKind.wrap
  simp [IntKind.signed, IntKind.bits]
theorem i64_wrap {n : Int} (h0 : -9223372036854775808 ≤ n) (h1 : n ≤ 9223372036854775807) : IntKind.i64.wrap n = n := by
  rw [IntKind.wrap_i64]; omega
theorem fdiv_lit (n : Int) (m : Nat) : n.fdiv (m : Int) = n / (m : Int) := Int.fdiv_eq_ediv_of_nonneg _ (by omega)

/-! ### The length of a word -/
theorem bitLen_lt_iff {x n : Nat} : bitLen x ≤ n ↔ x < 2 ^ n := by
  have h := bitLen_spec x
  constructor
  · intro hn; exact Nat.lt_of_lt_of_le h.1 (Nat.pow_le_pow_right (by omega) hn)
  · intro hx
    rcases Nat.eq_zero_or_pos x with h0 | h0
    · subst h0; simp [bitLen]
    · have h2 := h.2 (by omega)
      rcases Nat.lt_or_ge n (bitLen x) with h3 | h3
      · exfalso
        have : 2 ^ n ≤ 2 ^ (bitLen x - 1) := Nat.pow_le_pow_right (by omega) (by omega)
        omega
      · exact h3

def len8 : ByteArray := ⟨((List.range 256).map fun i => UInt8.ofNat (bitLen i)).toArray⟩
theorem len8_get {i : Nat} (h : i < 256) : (len8.data.getD i 0).toNat = bitLen i := by
  have hb : bitLen i ≤ 8 := bitLen_lt_iff.2 h
  simp [len8, h]
  omega

def shr (b : Bool) (k : Nat) (x : Int) : Int := match b with | true => x.fdiv (2 ^ k) | false => x
def lenIx (b1 b2 b3 : Bool) (x : Int) : Int := shr b3 8 (shr b2 16 (shr b1 32 x))
def lenN (b1 b2 b3 : Bool) : Int := (match b1 with | true => 32 | false => 0) + (match b2 with | true => 16 | false => 0) + (match b3 with | true => 8 | false => 0)
theorem len64_path (b1 b2 b3 : Bool) (x : Int) (v : Value)
    (h : conj [eqB (decide (x ≥ 4294967296)) b1, eqB (decide (shr b1 32 x ≥ 65536)) b2, eqB (decide (shr b2 16 (shr b1 32 x) ≥ 256)) b3,
      decide (0 ≤ IntKind.u8.wrap (lenIx b1 b2 b3 x)) && decide ((IntKind.u8.wrap (lenIx b1 b2 b3 x)).toNat < 256)] = true)
    (hv : Value.int .i64 (IntKind.i64.wrap (lenN b1 b2 b3 + IntKind.i64.wrap (len8.data.getD (IntKind.u8.wrap (lenIx b1 b2 b3 x)).toNat 0).toNat)) = v) :
    PC Tryz.prog 107 [.int .u64 x] v := by
  have key : evFn3 Tryz.prog Tryz.f107 400 [.int .u64 x] [.tst b1, .tst b2, .tst b3] = some (conj [eqB (decide (x ≥ 4294967296)) b1, eqB (decide (shr b1 32 x ≥ 65536)) b2, eqB (decide (shr b2 16 (shr b1 32 x) ≥ 256)) b3,
      decide (0 ≤ IntKind.u8.wrap (lenIx b1 b2 b3 x)) && decide ((IntKind.u8.wrap (lenIx b1 b2 b3 x)).toNat < 256)], [], .int .i64 (IntKind.i64.wrap (lenN b1 b2 b3 + IntKind.i64.wrap (len8.data.getD (IntKind.u8.wrap (lenIx b1 b2 b3 x)).toNat 0).toNat))) := by
    cases b1 <;> cases b2 <;> cases b3 <;> kernel_rfl
  exact PC.of_ev3 mixed Tryz.func107 400 [.tst b1, .tst b2, .tst b3] key rfl h trivial rfl hv

theorem len64_pc {x : Nat} (hx : x < 18446744073709551616) : PC Tryz.prog 107 [.int .u64 x] (.int .i64 (bitLen x)) := by
  have e32 : ∀ n : Int, n.fdiv (2 ^ 32) = n / 4294967296 := fun n => fdiv_lit n 4294967296
  have e16 : ∀ n : Int, n.fdiv (2 ^ 16) = n / 65536 := fun n => fdiv_lit n 65536
  have e8 : ∀ n : Int, n.fdiv (2 ^ 8) = n / 256 := fun n => fdiv_lit n 256
  have hb : bitLen x ≤ 64 := bitLen_lt_iff.2 hx
  -- the index, as a natural number
  have fin : ∀ (b1 b2 b3 : Bool) (i : Nat), lenIx b1 b2 b3 x = i → i < 256 → (bitLen x : Int) = lenN b1 b2 b3 + bitLen i → conj [eqB (decide ((x : Int) ≥ 4294967296)) b1, eqB (decide (shr b1 32 x ≥ 65536)) b2, eqB (decide (shr b2 16 (shr b1 32 x) ≥ 256)) b3] = true →
      PC Tryz.prog 107 [.int .u64 x] (.int .i64 (bitLen x)) := by
    intro b1 b2 b3 i hi hlt hl hc
    have hw : IntKind.u8.wrap (lenIx b1 b2 b3 x) = i := by rw [hi, u8_wrap]; omega
    refine len64_path b1 b2 b3 x _ ?_ ?_
    · rw [hw]
      simp only [conj_cons, conj_nil, Bool.and_true, Bool.and_eq_true, decide_eq_true_eq, Int.toNat_natCast] at hc ⊢
      exact ⟨hc.1, hc.2.1, hc.2.2, by omega, hlt⟩
    · rw [hw, Int.toNat_natCast, len8_get hlt]
      have h8 : bitLen i ≤ 8 := bitLen_lt_iff.2 hlt
      rw [i64_wrap (n := (bitLen i : Int)) (by omega) (by omega), i64_wrap (by omega) (by omega), hl]
  have sh : ∀ (y b : Nat), y / 2 ^ b ≠ 0 → bitLen y = b + bitLen (y / 2 ^ b) := fun y b h => bitLen_shift y b h
  by_cases c1 : 4294967296 ≤ x
  · have s1 : bitLen x = 32 + bitLen (x / 4294967296) := sh x 32 (by omega)
    have x1 : ((x : Int).fdiv (2 ^ 32)) = ((x / 4294967296 : Nat) : Int) := by rw [e32]; omega
    by_cases c2 : 65536 ≤ x / 4294967296
    · have s2 : bitLen (x / 4294967296) = 16 + bitLen (x / 4294967296 / 65536) := sh (x / 4294967296) 16 (by omega)
      have x2 : (((x / 4294967296 : Nat) : Int).fdiv (2 ^ 16)) = ((x / 4294967296 / 65536 : Nat) : Int) := by rw [e16]; omega
      by_cases c3 : 256 ≤ x / 4294967296 / 65536
      · have s3 : bitLen (x / 4294967296 / 65536) = 8 + bitLen (x / 4294967296 / 65536 / 256) := sh (x / 4294967296 / 65536) 8 (by omega)
        have x3 : (((x / 4294967296 / 65536 : Nat) : Int).fdiv (2 ^ 8)) = ((x / 4294967296 / 65536 / 256 : Nat) : Int) := by rw [e8]; omega
        exact fin true true true (x / 4294967296 / 65536 / 256) (by simp only [lenIx, shr, x1, x2, x3]) (by omega) (by simp only [lenN]; omega) (by simp only [conj_cons, conj_nil, eqB, shr, x1, x2]; simp; omega)
      · exact fin true true false (x / 4294967296 / 65536) (by simp only [lenIx, shr, x1, x2]) (by omega) (by simp only [lenN]; omega) (by simp only [conj_cons, conj_nil, eqB, shr, x1, x2]; simp; omega)
    · by_cases c3 : 256 ≤ x / 4294967296
      · have s3 : bitLen (x / 4294967296) = 8 + bitLen (x / 4294967296 / 256) := sh (x / 4294967296) 8 (by omega)
        have x3 : (((x / 4294967296 : Nat) : Int).fdiv (2 ^ 8)) = ((x / 4294967296 / 256 : Nat) : Int) := by rw [e8]; omega
        exact fin true false true (x / 4294967296 / 256) (by simp only [lenIx, shr, x1, x3]) (by omega) (by simp only [lenN]; omega) (by simp only [conj_cons, conj_nil, eqB, shr, x1]; simp; omega)
      · exact fin true false false (x / 4294967296) (by simp only [lenIx, shr, x1]) (by omega) (by simp only [lenN]; omega) (by simp only [conj_cons, conj_nil, eqB, shr, x1]; simp; omega)
  · by_cases c2 : 65536 ≤ x
    · have s2 : bitLen x = 16 + bitLen (x / 65536) := sh x 16 (by omega)
      have x2 : ((x : Int).fdiv (2 ^ 16)) = ((x / 65536 : Nat) : Int) := by rw [e16]; omega
      by_cases c3 : 256 ≤ x / 65536
      · have s3 : bitLen (x / 65536) = 8 + bitLen (x / 65536 / 256) := sh (x / 65536) 8 (by omega)
        have x3 : (((x / 65536 : Nat) : Int).fdiv (2 ^ 8)) = ((x / 65536 / 256 : Nat) : Int) := by rw [e8]; omega
        exact fin false true true (x / 65536 / 256) (by simp only [lenIx, shr, x2, x3]) (by omega) (by simp only [lenN]; omega) (by simp only [conj_cons, conj_nil, eqB, shr, x2]; simp; omega)
      · exact fin false true false (x / 65536) (by simp only [lenIx, shr, x2]) (by omega) (by simp only [lenN]; omega) (by simp only [conj_cons, conj_nil, eqB, shr, x2]; simp; omega)
    · by_cases c3 : 256 ≤ x
      · have s3 : bitLen x = 8 + bitLen (x / 256) := sh x 8 (by omega)
        have x3 : ((x : Int).fdiv (2 ^ 8)) = ((x / 256 : Nat) : Int) := by rw [e8]; omega
        exact fin false false true (x / 256) (by simp only [lenIx, shr, x3]) (by omega) (by simp only [lenN]; omega) (by simp only [conj_cons, conj_nil, eqB, shr]; simp; omega)
      · exact fin false false false x (by simp only [lenIx, shr]) (by omega) (by simp only [lenN]; omega) (by simp only [conj_cons, conj_nil, eqB, shr]; simp; omega)

theorem enters_len64 : ∀ us w, (callFunc 107 us).run Tryz.prog w = .ok (.enter 107 us) w := enters Tryz.func107 rfl (by kernel_rfl)
/-! ### Products -/
def lo32 (z : Int) : Int := IntKind.u64.wrap (BitVec.ofInt 64 z &&& BitVec.ofInt 64 4294967295).toNat
def hi32 (z : Int) : Int := z.fdiv 4294967296
def w64 (z : Int) : Int := IntKind.u64.wrap z
def mul64Val (x y : Int) : Value :=
  .tuple #[.int .u64 (w64 (w64 (w64 (hi32 x * hi32 y) + hi32 (w64 (w64 (hi32 x * lo32 y) + hi32 (w64 (lo32 x * lo32 y))))) + hi32 (w64 (lo32 (w64 (w64 (hi32 x * lo32 y) + hi32 (w64 (lo32 x * lo32 y)))) + w64 (lo32 x * hi32 y))))), .int .u64 (w64 (x * y))]

theorem lo32_eq {z : Int} (h0 : 0 ≤ z) (h1 : z < 18446744073709551616) : lo32 z = z % 4294967296 := and_low32 z h0 h1
theorem hi32_eq (z : Int) : hi32 z = z / 4294967296 := fdiv_lit z 4294967296

theorem mul64_pc {x y : Nat} (hx : x < 18446744073709551616) (hy : y < 18446744073709551616) :
    PC Tryz.prog 108 [.int .u64 x, .int .u64 y] (.tuple #[.int .u64 ((x * y / 18446744073709551616 : Nat) : Int), .int .u64 ((x * y % 18446744073709551616 : Nat) : Int)]) := by
  refine PC.of_ev3 mixed Tryz.func108 400 [] (ok := true) (obs := []) (v := mul64Val x y) (by kernel_rfl) (by kernel_rfl) rfl trivial (by kernel_rfl) ?_
  have hm : ∀ z : Int, 0 ≤ z % 18446744073709551616 ∧ z % 18446744073709551616 < 18446744073709551616 := fun z => by omega
  have lx := lo32_eq (z := (x : Int)) (by omega) (by omega)
  have ly := lo32_eq (z := (y : Int)) (by omega) (by omega)
  have key := mul64_arith (x : Int) (y : Int) (by omega) (by omega) (by omega) (by omega)
  unfold mul64Val w64
  simp only [u64_wrap, hi32_eq, lx, ly]
  rw [lo32_eq (hm _).1 (hm _).2, key]
  rfl

theorem enters_mul64 : ∀ us w, (callFunc 108 us).run Tryz.prog w = .ok (.enter 108 us) w := enters Tryz.func108 rfl (by kernel_rfl)

/-- a * b + c + d: the low word, the high word. -/
theorem mulAdd_pc {a b c d : Nat} (ha : a < 18446744073709551616) (hb : b < 18446744073709551616) (hc : c < 18446744073709551616) (hd : d < 18446744073709551616) :
    PC Tryz.prog 82 [.int .u64 a, .int .u64 b, .int .u64 c, .int .u64 d]
      (.tuple #[.int .u64 (((a * b + c + d) % 18446744073709551616 : Nat) : Int), .int .u64 (((a * b + c + d) / 18446744073709551616 : Nat) : Int)]) := by
  have hle : a * b ≤ 18446744073709551615 * 18446744073709551615 := Nat.mul_le_mul (by omega) (by omega)
  generalize hP : a * b = p at hle
  refine PC.of_ev3 mixed Tryz.func82 400
    [.res (.tuple #[.int .u64 ((p / 18446744073709551616 : Nat) : Int), .int .u64 ((p % 18446744073709551616 : Nat) : Int)]),
     .res (.tuple #[.int .u64 (((p % 18446744073709551616 + c) % 18446744073709551616 : Nat) : Int), .int .u64 (((p % 18446744073709551616 + c) / 18446744073709551616 : Nat) : Int)]),
     .res (.tuple #[.int .u64 ((((p % 18446744073709551616 + c) % 18446744073709551616 + d) % 18446744073709551616 : Nat) : Int), .int .u64 ((((p % 18446744073709551616 + c) % 18446744073709551616 + d) / 18446744073709551616 : Nat) : Int)])]
    (ok := true)
    (obs := [QC Tryz.prog 108 [.int .u64 a, .int .u64 b] (.tuple #[.int .u64 ((p / 18446744073709551616 : Nat) : Int), .int .u64 ((p % 18446744073709551616 : Nat) : Int)]),
      QC Tryz.prog 79 [.int .u64 ((p % 18446744073709551616 : Nat) : Int), .int .u64 c, .int .u64 0] (.tuple #[.int .u64 (((p % 18446744073709551616 + c) % 18446744073709551616 : Nat) : Int), .int .u64 (((p % 18446744073709551616 + c) / 18446744073709551616 : Nat) : Int)]),
      QC Tryz.prog 79 [.int .u64 (((p % 18446744073709551616 + c) % 18446744073709551616 : Nat) : Int), .int .u64 d, .int .u64 0] (.tuple #[.int .u64 ((((p % 18446744073709551616 + c) % 18446744073709551616 + d) % 18446744073709551616 : Nat) : Int), .int .u64 ((((p % 18446744073709551616 + c) % 18446744073709551616 + d) / 18446744073709551616 : Nat) : Int)])])
    (v := .tuple #[.int .u64 ((((p % 18446744073709551616 + c) % 18446744073709551616 + d) % 18446744073709551616 : Nat) : Int),
      .int .u64 (IntKind.u64.wrap (IntKind.u64.wrap (((p / 18446744073709551616 : Nat) : Int) + (((p % 18446744073709551616 + c) / 18446744073709551616 : Nat) : Int)) + ((((p % 18446744073709551616 + c) % 18446744073709551616 + d) / 18446744073709551616 : Nat) : Int)))])
    (by kernel_rfl) (by kernel_rfl) rfl ⟨?_, ?_, ?_, trivial⟩ (by kernel_rfl) ?_
  · have := mul64_pc ha hb
    rw [hP] at this
    exact QC.of_pc enters_mul64 this
  · exact add64_qc _ c 0 (by omega)
  · exact add64_qc _ d 0 (by omega)
  · rw [u64_wrap, u64_wrap]
    congr 4
    · congr 1; omega
    · congr 1; omega
theorem enters_mulAdd : ∀ us w, (callFunc 82 us).run Tryz.prog w = .ok (.enter 82 us) w := enters Tryz.func82 rfl (by kernel_rfl)
end Go.Proofs.YtljolfnpncjklaaGreat.W
/-! The program's magnitudes: lengths, comparison, zero, signed numbers. -/
namespace Go.Proofs.YtljolfnpncjklaaGreat.W
open Go Go.Ev Go.Wide

/-! ### wordLength, bitLength -/
/-- A magnitude of L words. -/
def magL (L : Nat) (x : Nat → Nat) : Value := .agg ((List.range 16).map fun i => Value.int .u64 (match decide (i < L) with | true => (x i : Int) | false => 0)).toArray
def wlSteps : Nat → Int → List Ans → List Ans
  | 0, _, r => r
  | n + 1, j, r => .auto :: .auto :: .at 1 (.int .i64 (j - 1)) :: wlSteps n (j - 1) r
def wlAns (L : Nat) : List Ans := wlSteps (16 - L) 16 (match L with | 0 => [] | _ + 1 => [.auto, .tst false])
def wlOk (L : Nat) (x : Nat → Nat) : List Bool := match L with | 0 => [] | k + 1 => [!((x k : Int) == 0)]
theorem le16 {L : Nat} (h : L ≤ 16) : L = 0 ∨ L = 1 ∨ L = 2 ∨ L = 3 ∨ L = 4 ∨ L = 5 ∨ L = 6 ∨ L = 7 ∨ L = 8 ∨ L = 9 ∨ L = 10 ∨ L = 11 ∨ L = 12 ∨ L = 13 ∨ L = 14 ∨ L = 15 ∨ L = 16 := by omega
theorem wordLen_key {L : Nat} (h : L ≤ 16) (x : Nat → Nat) : evFn3 Tryz.prog Tryz.f81 400 [magL L x] (wlAns L) = some (conj (wlOk L x), [], .int .i64 L) := by
  rcases le16 h with rfl | rfl | rfl | rfl | rfl | rfl | rfl | rfl | rfl | rfl | rfl | rfl | rfl | rfl | rfl | rfl | rfl <;> kernel_rfl
theorem wordLen_pcL {L : Nat} (h : L ≤ 16) {x : Nat → Nat} (hx : L ≠ 0 → x (L - 1) ≠ 0) : PC Tryz.prog 81 [magL L x] (.int .i64 L) := by
  refine PC.of_ev3 mixed Tryz.func81 400 (wlAns L) (wordLen_key h x) rfl ?_ trivial rfl rfl
  cases L with
  | zero => rfl
  | succ k =>
    have := hx (by omega)
    simp only [Nat.add_sub_cancel] at this
    simp [wlOk, conj_cons, conj_nil, this]
theorem enters_wordLen : ∀ us w, (callFunc 81 us).run Tryz.prog w = .ok (.enter 81 us) w := enters Tryz.func81 rfl (by kernel_rfl)

/-- The number of words of N. -/
def nw (N : Nat) : Nat := (bitLen N + 63) / 64
theorem lt_nw (N : Nat) : N < 2 ^ (64 * nw N) := by
  refine Nat.lt_of_lt_of_le (bitLen_spec N).1 (Nat.pow_le_pow_right (by omega) ?_)
  unfold nw; omega
theorem nw_le {N k : Nat} (h : N < 2 ^ (64 * k)) : nw N ≤ k := by
  have := bitLen_lt_iff.2 h
  unfold nw; omega
theorem bitLen_pw {x n : Nat} : bitLen x ≤ n ↔ x < pw n := by rw [pw_eq]; exact bitLen_lt_iff
theorem nw_le16 {N : Nat} (h : N < T16) : nw N ≤ 16 := by
  have := bitLen_pw.2 (T16_eq ▸ h)
  unfold nw; omega
theorem div_T16 {N : Nat} (h : N < T16) : N / 2 ^ (64 * 16) = 0 := by
  have e : ∀ n m, n = m → pw n = 2 ^ m := fun n m e => by rw [e, pw_eq]
  exact Nat.div_eq_of_lt (by rw [← e (64 * 15 + 64) (64 * 16) rfl, ← T16_eq]; exact h)
theorem nw_top {N : Nat} (h : nw N ≠ 0) : N / 2 ^ (64 * (nw N - 1)) ≠ 0 ∧ N / 2 ^ (64 * (nw N - 1)) < 18446744073709551616 := by
  have hl := bitLen_spec N
  have hn : N ≠ 0 := fun e => by subst e; exact h (by simp [nw, bitLen])
  have h2 := hl.2 hn
  constructor
  · have : 2 ^ (64 * (nw N - 1)) ≤ 2 ^ (bitLen N - 1) := Nat.pow_le_pow_right (by omega) (by unfold nw at *; omega)
    have hp : 0 < 2 ^ (64 * (nw N - 1)) := Nat.two_pow_pos _
    have := Nat.div_pos (Nat.le_trans this h2) hp
    omega
  · rw [Nat.div_lt_iff_lt_mul (Nat.two_pow_pos _)]
    have := lt_nw N
    have e : 18446744073709551616 * 2 ^ (64 * (nw N - 1)) = 2 ^ (64 * nw N) := by
      rw [show 64 * nw N = 64 + 64 * (nw N - 1) by omega, Nat.pow_add]
    omega
theorem wd_top {N : Nat} (h : nw N ≠ 0) : wd N (nw N - 1) = N / 2 ^ (64 * (nw N - 1)) := Nat.mod_eq_of_lt (nw_top h).2
theorem bitLen_nw {N : Nat} (h : nw N ≠ 0) : bitLen N = 64 * (nw N - 1) + bitLen (wd N (nw N - 1)) := by
  rw [wd_top h]
  exact bitLen_shift N _ (nw_top h).1
theorem mag_eq_magL {N : Nat} (_ : N < T16) : mag N = magL (nw N) (wd N) := by
  unfold mag magL words
  congr 2
  apply List.map_congr_left
  intro i _
  by_cases hi : i < nw N
  · simp [hi]
  · have : wd N i = 0 := wd_eq_zero (Nat.lt_of_lt_of_le (lt_nw N) (Nat.pow_le_pow_right (by omega) (by omega)))
    simp [hi, this]
theorem wordLen_pc {N : Nat} (h : N < T16) : PC Tryz.prog 81 [mag N] (.int .i64 (nw N)) := by
  rw [mag_eq_magL h]
  exact wordLen_pcL (nw_le16 h) fun hn => by rw [wd_top hn]; exact (nw_top hn).1

def blAns (L n : Nat) : List Ans := .res (.int .i64 L) :: (match L with | 0 => [] | _ + 1 => [.res (.int .i64 n)])
def blOb (L n : Nat) (x : Nat → Nat) : List Prop :=
  QC Tryz.prog 81 [magL L x] (.int .i64 L) :: (match L with | 0 => [] | k + 1 => [QC Tryz.prog 107 [.int .u64 (x k)] (.int .i64 n)])
def blV (L n : Nat) : Value := match L with | 0 => .int .i64 0 | k + 1 => .int .i64 (IntKind.i64.wrap ((k * 64 : Nat) + n))
theorem bitLen_key {L : Nat} (h : L ≤ 16) (n : Nat) (x : Nat → Nat) : evFn3 Tryz.prog Tryz.f78 400 [magL L x] (blAns L n) = some (true, blOb L n x, blV L n) := by
  rcases le16 h with rfl | rfl | rfl | rfl | rfl | rfl | rfl | rfl | rfl | rfl | rfl | rfl | rfl | rfl | rfl | rfl | rfl <;> kernel_rfl
theorem bitLen_pc {N : Nat} (h : N < T16) : PC Tryz.prog 78 [mag N] (.int .i64 (bitLen N)) := by
  have hL := nw_le16 h
  have hb : bitLen N ≤ 64 * 15 + 64 := bitLen_pw.2 (T16_eq ▸ h)
  have hw := wordLen_pc h
  rw [mag_eq_magL h] at hw ⊢
  have hfl : (blV (nw N) (bitLen (wd N (nw N - 1)))) = .int .i64 (bitLen N) := by
    unfold blV
    cases hn : nw N with
    | zero =>
      have : bitLen N = 0 := by unfold nw at hn; omega
      simp [this]
    | succ k =>
      have e := bitLen_nw (N := N) (by omega)
      rw [hn] at e
      simp only [Nat.succ_sub_one] at e ⊢
      rw [i64_wrap (by omega) (by omega)]
      congr 1
      omega
  refine PC.of_ev3 mixed Tryz.func78 400 (blAns (nw N) (bitLen (wd N (nw N - 1)))) (bitLen_key hL _ (wd N)) rfl rfl ⟨QC.of_pc enters_wordLen hw, ?_⟩ (by rw [hfl]; rfl) hfl
  cases hn : nw N with
  | zero => trivial
  | succ k => exact ⟨QC.of_pc enters_len64 (len64_pc (wd_lt N k)), trivial⟩
theorem enters_bitLen : ∀ us w, (callFunc 78 us).run Tryz.prog w = .ok (.enter 78 us) w := enters Tryz.func78 rfl (by kernel_rfl)

/-! ### isZero -/
def eqZ : List Nat → Bool
  | [] => true
  | x :: xs => ((x : Int) == 0) && eqZ xs
theorem isZero_key (x : Nat → Nat) : evFn3 Tryz.prog Tryz.f63 400 [magL 16 x] [] = some (true, [], .bool (eqZ ((List.range 16).map x))) := by kernel_rfl
theorem eqZ_iff : ∀ {l : List Nat}, eqZ l = true ↔ ∀ x ∈ l, x = 0
  | [] => by simp [eqZ]
  | x :: xs => by simp [eqZ, eqZ_iff]
theorem mag_eq_magL16 (N : Nat) : mag N = magL 16 (wd N) := rfl
theorem eq_zero_of_words {N : Nat} (h : N < T16) (hw : ∀ i, i < 16 → wd N i = 0) : N = 0 := by
  by_cases hn : nw N = 0
  · have := lt_nw N
    rw [hn] at this
    simpa using this
  · have h1 := nw_le16 h
    have h2 := hw (nw N - 1) (by omega)
    rw [wd_top hn] at h2
    exact absurd h2 (nw_top hn).1
theorem isZero_pc {N : Nat} (h : N < T16) : PC Tryz.prog 63 [mag N] (.bool (decide (N = 0))) := by
  rw [mag_eq_magL16]
  refine PC.of_ev3 mixed Tryz.func63 400 [] (isZero_key (wd N)) rfl rfl trivial rfl ?_
  congr 1
  rw [Bool.eq_iff_iff, eqZ_iff, decide_eq_true_eq]
  constructor
  · intro hz; exact eq_zero_of_words h fun i hi => hz _ (List.mem_map.2 ⟨i, List.mem_range.2 hi, rfl⟩)
  · rintro rfl x hx
    obtain ⟨i, _, rfl⟩ := List.mem_map.1 hx
    simp [wd]
theorem enters_isZero : ∀ us w, (callFunc 63 us).run Tryz.prog w = .ok (.enter 63 us) w := enters Tryz.func63 rfl (by kernel_rfl)

/-! ### compare -/
/-- From word 15 down, n words whose tests both fail. -/
def cmpAns : Nat → Int → List Ans → List Ans
  | 0, _, r => r
  | n + 1, j, r => .auto :: .tst false :: .tst false :: .at 1 (.int .i64 (j - 1)) :: cmpAns n (j - 1) r
def cmpOk (x y : Nat → Nat) : Nat → Nat → List Bool → List Bool
  | 0, _, r => r
  | n + 1, j, r => (!decide ((x j : Int) < y j)) :: (!decide ((x j : Int) > y j)) :: cmpOk x y n (j - 1) r
theorem le15 {L : Nat} (h : L ≤ 15) : L = 0 ∨ L = 1 ∨ L = 2 ∨ L = 3 ∨ L = 4 ∨ L = 5 ∨ L = 6 ∨ L = 7 ∨ L = 8 ∨ L = 9 ∨ L = 10 ∨ L = 11 ∨ L = 12 ∨ L = 13 ∨ L = 14 ∨ L = 15 := by omega
theorem cmp_lt_key {n : Nat} (h : n ≤ 15) (x y : Nat → Nat) : evFn3 Tryz.prog Tryz.f40 400 [magL 16 x, magL 16 y] (cmpAns n 15 [.auto, .tst true]) =
    some (conj (cmpOk x y n 15 [decide ((x (15 - n) : Int) < y (15 - n))]), [], .int .i64 (-1)) := by
  rcases le15 h with rfl | rfl | rfl | rfl | rfl | rfl | rfl | rfl | rfl | rfl | rfl | rfl | rfl | rfl | rfl | rfl <;> kernel_rfl
theorem cmp_gt_key {n : Nat} (h : n ≤ 15) (x y : Nat → Nat) : evFn3 Tryz.prog Tryz.f40 400 [magL 16 x, magL 16 y] (cmpAns n 15 [.auto, .tst false, .tst true]) =
    some (conj (cmpOk x y n 15 [!decide ((x (15 - n) : Int) < y (15 - n)), decide ((x (15 - n) : Int) > y (15 - n))]), [], .int .i64 1) := by
  rcases le15 h with rfl | rfl | rfl | rfl | rfl | rfl | rfl | rfl | rfl | rfl | rfl | rfl | rfl | rfl | rfl | rfl <;> kernel_rfl
theorem cmp_eq_key (x y : Nat → Nat) : evFn3 Tryz.prog Tryz.f40 400 [magL 16 x, magL 16 y] (cmpAns 16 15 []) = some (conj (cmpOk x y 16 15 []), [], .int .i64 0) := by kernel_rfl
theorem cmpOk_true {x y : Nat → Nat} : ∀ (n j : Nat) (r : List Bool), n ≤ j + 1 → (∀ i, i ≤ j → j < i + n → x i = y i) → conj r = true → conj (cmpOk x y n j r) = true
  | 0, _, _, _, _, h => h
  | n + 1, j, r, hn, h, hr => by
    have := h j (Nat.le_refl _) (by omega)
    simp only [cmpOk, conj_cons, this]
    rcases Nat.eq_zero_or_pos n with h0 | h0
    · subst h0; simpa [cmpOk] using hr
    · simpa using cmpOk_true n (j - 1) r (by omega) (fun i h1 h2 => h i (by omega) (by omega)) hr

theorem div_step (N j : Nat) : N / 2 ^ (64 * j) = N / 2 ^ (64 * (j + 1)) * 18446744073709551616 + wd N j := by
  unfold wd
  have e : N / 2 ^ (64 * (j + 1)) = N / 2 ^ (64 * j) / 18446744073709551616 := by rw [pow_succ64, Nat.div_div_eq_div_mul]
  rw [e]; omega
/-- Equal from word k on. -/
theorem div_eq_of_words {M N : Nat} (hM : M < T16) (hN : N < T16) : ∀ (n k : Nat), k + n = 16 → (∀ i, k ≤ i → i < 16 → wd M i = wd N i) → M / 2 ^ (64 * k) = N / 2 ^ (64 * k)
  | 0, k, hk, _ => by
    have : k = 16 := by omega
    subst this
    rw [div_T16 hM, div_T16 hN]
  | n + 1, k, hk, h => by
    rw [div_step M k, div_step N k, div_eq_of_words hM hN n (k + 1) (by omega) (fun i h1 h2 => h i (by omega) h2), h k (Nat.le_refl _) (by omega)]
/-- The first word from above in which two numbers differ. -/
theorem first_diff (x y : Nat → Nat) : ∀ n, (∀ i, n ≤ i → i < 16 → x i = y i) → n ≤ 16 → (∀ i, i < 16 → x i = y i) ∨ ∃ d, d < n ∧ x d ≠ y d ∧ ∀ i, d < i → i < 16 → x i = y i
  | 0, h, _ => .inl fun i hi => h i (by omega) hi
  | n + 1, h, hn => by
    by_cases e : x n = y n
    · rcases first_diff x y n (fun i h1 h2 => by
        by_cases hi : i = n
        · rw [hi]; exact e
        · exact h i (by omega) h2) (by omega) with h' | ⟨d, h1, h2, h3⟩
      · exact .inl h'
      · exact .inr ⟨d, by omega, h2, h3⟩
    · exact .inr ⟨n, by omega, e, fun i h1 h2 => h i (by omega) h2⟩
theorem lt_of_top {M N : Nat} (hM : M < T16) (hN : N < T16) {d : Nat} (hd : d < 16) (h : ∀ i, d < i → i < 16 → wd M i = wd N i) (hlt : wd M d < wd N d) : M < N := by
  have e := div_eq_of_words hM hN (16 - (d + 1)) (d + 1) (by omega) (fun i h1 h2 => h i (by omega) h2)
  have h1 := div_step M d
  have h2 := div_step N d
  rw [e] at h1
  have hq : M / 2 ^ (64 * d) < N / 2 ^ (64 * d) := by omega
  rcases Nat.lt_or_ge M N with h3 | h3
  · exact h3
  · have := Nat.div_le_div_right (c := 2 ^ (64 * d)) h3
    omega
/-- Numbers compared. -/
def cmpI (a b : Nat) : Int := if a < b then -1 else if b < a then 1 else 0
theorem compare_pc {M N : Nat} (hM : M < T16) (hN : N < T16) : PC Tryz.prog 40 [mag M, mag N] (.int .i64 (cmpI M N)) := by
  rw [mag_eq_magL16 M, mag_eq_magL16 N]
  rcases first_diff (wd M) (wd N) 16 (fun i h1 h2 => by omega) (Nat.le_refl _) with h | ⟨d, hd, hne, h⟩
  · have e := div_eq_of_words hM hN 16 0 rfl (fun i _ h2 => h i h2)
    simp at e
    subst e
    refine PC.of_ev3 mixed Tryz.func40 400 (cmpAns 16 15 []) (cmp_eq_key _ _) rfl (cmpOk_true 16 15 [] (by omega) (fun i h1 _ => h i (by omega)) rfl) trivial rfl ?_
    simp [cmpI]
  · have e15 : 15 - (15 - d) = d := by omega
    rcases Nat.lt_or_gt_of_ne hne with hlt | hgt
    · have key := cmp_lt_key (n := 15 - d) (by omega) (wd M) (wd N)
      rw [e15] at key
      refine PC.of_ev3 mixed Tryz.func40 400 _ key rfl (cmpOk_true (15 - d) 15 _ (by omega) (fun i h1 h2 => h i (by omega) (by omega)) (by simp [conj_cons, conj_nil]; omega)) trivial rfl ?_
      simp [cmpI, lt_of_top hM hN hd h hlt]
    · have key := cmp_gt_key (n := 15 - d) (by omega) (wd M) (wd N)
      rw [e15] at key
      refine PC.of_ev3 mixed Tryz.func40 400 _ key rfl (cmpOk_true (15 - d) 15 _ (by omega) (fun i h1 h2 => h i (by omega) (by omega)) (by simp [conj_cons, conj_nil]; omega)) trivial rfl ?_
      have := lt_of_top hN hM hd (fun i h1 h2 => (h i h1 h2).symm) hgt
      simp [cmpI, this, Nat.lt_asymm this]
theorem enters_compare : ∀ us w, (callFunc 40 us).run Tryz.prog w = .ok (.enter 40 us) w := enters Tryz.func40 rfl (by kernel_rfl)
end Go.Proofs.YtljolfnpncjklaaGreat.W
/-! The program's integers: signed, Of, Neg, Add, Sub, Cmp, Sign, Bits, Over. -/
namespace Go.Proofs.YtljolfnpncjklaaGreat.W
open Go Go.Ev Go.Wide

/-- One more than the greatest number without its sign. -/
def Hi : Nat := pw (64 * 15 + 63)
theorem Hi_eq : Hi = pw (64 * 15 + 63) := by rw [Hi]
theorem Hi_T16 : T16 = 2 * Hi := by
  rw [T16_eq, Hi_eq, ← pw_succ]
theorem Hi_pos : 0 < Hi := by rw [Hi_eq]; exact pw_pos _
theorem bitLen_Hi {K : Nat} : bitLen K ≤ 1023 ↔ K < Hi := by rw [Hi_eq]; exact bitLen_pw

/-- An Int of the program: its words, its sign; over. -/
def wR (o : Bool) (N : Nat) (neg : Bool) : Value :=
  match o with
  | true => .agg (List.replicate 16 (Value.int .u64 0) ++ [Value.bool false, Value.bool true]).toArray
  | false => .agg ((List.range 16).map (fun i => Value.int .u64 (wd N i)) ++ [Value.bool neg, Value.bool false]).toArray
/-- A number, or over. -/
def wv : Option Int → Value
  | none => wR true 0 false
  | some z => wR false z.natAbs (decide (z < 0))
def WF (A : Option Int) : Prop := ∀ z, A = some z → z.natAbs < Hi
def clamp (z : Int) : Option Int := if z.natAbs < Hi then some z else none
theorem clamp_wf (z : Int) : WF (clamp z) := by
  intro y h
  unfold clamp at h
  split at h
  · cases h; assumption
  · cases h
def sg (K : Nat) (s : Bool) : Int := match s with | true => -(K : Int) | false => K
def sgn (K : Nat) (s : Bool) : Option Int := clamp (sg K s)
theorem flat_wR (o : Bool) (N : Nat) (s : Bool) : flat (wR o N s) = true := by cases o <;> rfl
theorem flat_wv (A : Option Int) : flat (wv A) = true := by
  cases A with
  | none => exact flat_wR true 0 false
  | some z => exact flat_wR false z.natAbs (decide (z < 0))
theorem flat_mag (N : Nat) : flat (mag N) = true := by kernel_rfl
theorem wv_some {z : Int} : wv (some z) = wR false z.natAbs (decide (z < 0)) := rfl
/-- Whatever the number: which of the two forms it has. -/
theorem wv_form (A : Option Int) : ∃ o K s, wv A = wR o K s := by
  cases A with
  | none => exact ⟨true, 0, false, rfl⟩
  | some z => exact ⟨false, z.natAbs, decide (z < 0), rfl⟩

theorem signed_over_key (K : Nat) (s : Bool) (b : Nat) : evFn3 Tryz.prog Tryz.f38 400 [mag K, .bool s] [.res (.int .i64 b), .tst true] =
    some (conj [decide ((b : Int) > 1023)], [QC Tryz.prog 78 [mag K] (.int .i64 b)], wR true 0 false) := by kernel_rfl
theorem signed_key (K : Nat) (s : Bool) (b : Nat) : evFn3 Tryz.prog Tryz.f38 400 [mag K, .bool s] [.res (.int .i64 b), .tst false] =
    some (conj [!decide ((b : Int) > 1023)], [QC Tryz.prog 78 [mag K] (.int .i64 b)], wR false K (match s with | true => decide ((b : Int) > 0) | false => false)) := by cases s <;> kernel_rfl
theorem signed_pc {K : Nat} (h : K < T16) (s : Bool) : PC Tryz.prog 38 [mag K, .bool s] (wv (sgn K s)) := by
  have hob : allP [QC Tryz.prog 78 [mag K] (.int .i64 (bitLen K))] := ⟨QC.of_pc enters_bitLen (bitLen_pc h), trivial⟩
  have hfl : [mag K, .bool s].all flat = true := by simp [flat_mag]; rfl
  have hz : (sg K s).natAbs = K := by cases s <;> simp [sg]
  by_cases hb : bitLen K ≤ 1023
  · refine PC.of_ev3 mixed Tryz.func38 400 _ (signed_key K s (bitLen K)) hfl (by simp [conj_cons, conj_nil]; omega) hob (flat_wR _ _ _) ?_
    unfold sgn clamp
    rw [hz, if_pos (bitLen_Hi.1 hb), wv_some, hz]
    congr 1
    have h0 : bitLen K = 0 ↔ K = 0 := by
      rw [← Nat.le_zero, bitLen_lt_iff]; simp
    cases s with
    | false => exact (decide_eq_false (by simp only [sg]; omega)).symm
    | true => simp [sg]; omega
  · refine PC.of_ev3 mixed Tryz.func38 400 _ (signed_over_key K s (bitLen K)) hfl (by simp [conj_cons, conj_nil]; omega) hob (flat_wR _ _ _) ?_
    unfold sgn clamp
    rw [hz, if_neg (fun h => hb (bitLen_Hi.2 h))]
    rfl
theorem enters_signed : ∀ us w, (callFunc 38 us).run Tryz.prog w = .ok (.enter 38 us) w := enters Tryz.func38 rfl (by kernel_rfl)

/-! ### Over, Bits, Sign -/
theorem over_key (o : Bool) (N : Nat) (s : Bool) : evFn3 Tryz.prog Tryz.f62 400 [wR o N s] [] = some (true, [], .bool o) := by cases o <;> kernel_rfl
theorem over_pc (A : Option Int) : PC Tryz.prog 62 [wv A] (.bool A.isNone) := by
  cases A with
  | none => exact PC.of_ev3 mixed Tryz.func62 400 [] (over_key true 0 false) (by simp [flat_wv]) rfl trivial rfl rfl
  | some z => exact PC.of_ev3 mixed Tryz.func62 400 [] (over_key false z.natAbs _) (by simp [flat_wv]) rfl trivial rfl rfl
theorem enters_over : ∀ us w, (callFunc 62 us).run Tryz.prog w = .ok (.enter 62 us) w := enters Tryz.func62 rfl (by kernel_rfl)

/-- The magnitude of an Int, 0 where it is over. -/
def absN : Option Int → Nat
  | none => 0
  | some z => z.natAbs
theorem absN_lt {A : Option Int} (h : WF A) : absN A < Hi := by
  cases A with
  | none => exact Hi_pos
  | some z => exact h z rfl
theorem absN_T16 {A : Option Int} (h : WF A) : absN A < T16 := by have := absN_lt h; have := Hi_T16; omega
def signI : Option Int → Int
  | none => 0
  | some z => if z < 0 then -1 else if z = 0 then 0 else 1
theorem sign_key (o : Bool) (N : Nat) (s z : Bool) : evFn3 Tryz.prog Tryz.f23 400 [wR o N s] (match o, s with | false, true => [] | _, _ => [.res (.bool z)]) =
    some (true, (match o, s with | false, true => [] | _, _ => [QC Tryz.prog 63 [mag (match o with | true => 0 | false => N)] (.bool z)]),
      .int .i64 (match o, s with | false, true => -1 | _, _ => match z with | true => 0 | false => 1)) := by cases o <;> cases s <;> cases z <;> kernel_rfl
theorem sign_pc {A : Option Int} (h : WF A) : PC Tryz.prog 23 [wv A] (.int .i64 (signI A)) := by
  have hb := isZero_pc (absN_T16 h)
  cases A with
  | none => exact PC.of_ev3 mixed Tryz.func23 400 _ (sign_key true 0 false true) (by simp [flat_wv]) rfl ⟨QC.of_pc enters_isZero hb, trivial⟩ rfl rfl
  | some z =>
    by_cases hz : z < 0
    · have key := sign_key false z.natAbs (decide (z < 0)) true
      rw [decide_eq_true hz] at key
      refine PC.of_ev3 mixed Tryz.func23 400 [] (ok := true) (obs := []) (v := .int .i64 (-1)) ?_ (by simp [flat_wv]) rfl trivial rfl ?_
      · rw [wv_some, decide_eq_true hz]; exact key
      · simp [signI, hz]
    · have key := sign_key false z.natAbs (decide (z < 0)) (decide (z.natAbs = 0))
      rw [decide_eq_false hz] at key
      refine PC.of_ev3 mixed Tryz.func23 400 [.res (.bool (decide (z.natAbs = 0)))] (ok := true) (obs := [QC Tryz.prog 63 [mag z.natAbs] (.bool (decide (z.natAbs = 0)))])
        (v := .int .i64 (match decide (z.natAbs = 0) with | true => 0 | false => 1)) ?_ (by simp [flat_wv]) rfl ⟨QC.of_pc enters_isZero hb, trivial⟩ rfl ?_
      · rw [wv_some, decide_eq_false hz]; exact key
      · simp only [signI, if_neg hz]
        by_cases h0 : z = 0
        · simp [h0]
        · simp [h0]
theorem enters_sign : ∀ us w, (callFunc 23 us).run Tryz.prog w = .ok (.enter 23 us) w := enters Tryz.func23 rfl (by kernel_rfl)

/-! ### Of -/
theorem of_neg_key (n : Int) : evFn3 Tryz.prog Tryz.f9 400 [.int .i64 n] [.tst true] =
    some (conj [decide (n < 0)], [], .agg ([Value.int .u64 (IntKind.u64.wrap (0 - IntKind.u64.wrap n))] ++ List.replicate 15 (Value.int .u64 0) ++ [Value.bool true, Value.bool false]).toArray) := by kernel_rfl
theorem of_pos_key (n : Int) : evFn3 Tryz.prog Tryz.f9 400 [.int .i64 n] [.tst false] =
    some (conj [!decide (n < 0)], [], .agg ([Value.int .u64 (IntKind.u64.wrap n)] ++ List.replicate 15 (Value.int .u64 0) ++ [Value.bool false, Value.bool false]).toArray) := by kernel_rfl
/-- A number of one word. -/
theorem words_small {N : Nat} (h : N < 18446744073709551616) : (List.range 16).map (fun i => Value.int .u64 (wd N i)) = [Value.int .u64 N] ++ List.replicate 15 (Value.int .u64 0) := by
  have h0 : wd N 0 = N := by unfold wd; simp; omega
  have hi : ∀ i, wd N (i + 1) = 0 := fun i => wd_eq_zero (Nat.lt_of_lt_of_le h (by
    have : 2 ^ 64 ≤ 2 ^ (64 * (i + 1)) := Nat.pow_le_pow_right (by omega) (by omega)
    simpa using this))
  simp only [List.range_succ_eq_map, List.range_zero, List.map_cons, List.map_nil, h0]
  simp [hi, List.replicate]
theorem of_pc {n : Int} (h0 : -9223372036854775808 ≤ n) (h1 : n ≤ 9223372036854775807) : PC Tryz.prog 9 [.int .i64 n] (wv (some n)) := by
  have hw : wv (some n) = .agg ([Value.int .u64 (n.natAbs : Int)] ++ List.replicate 15 (Value.int .u64 0) ++ [Value.bool (decide (n < 0)), Value.bool false]).toArray := by
    rw [wv_some]
    unfold wR
    rw [words_small (by omega)]
  by_cases hn : n < 0
  · refine PC.of_ev3 mixed Tryz.func9 400 [.tst true] (of_neg_key n) rfl (by simp [conj_cons, conj_nil, hn]) trivial rfl ?_
    have e : (0 - n % 18446744073709551616) % 18446744073709551616 = (n.natAbs : Int) := by omega
    rw [hw, u64_wrap, u64_wrap, decide_eq_true hn, e]
  · refine PC.of_ev3 mixed Tryz.func9 400 [.tst false] (of_pos_key n) rfl (by simp [conj_cons, conj_nil]; omega) trivial rfl ?_
    have e : n % 18446744073709551616 = (n.natAbs : Int) := by omega
    rw [hw, u64_wrap, decide_eq_false hn, e]
theorem enters_of : ∀ us w, (callFunc 9 us).run Tryz.prog w = .ok (.enter 9 us) w := enters Tryz.func9 rfl (by kernel_rfl)

/-! ### Neg, Add, Sub -/
def wneg : Option Int → Option Int
  | none => none
  | some z => some (-z)
theorem wneg_wf {A : Option Int} (h : WF A) : WF (wneg A) := by
  intro y hy
  cases A with
  | none => cases hy
  | some z => cases hy; have := h z rfl; omega
theorem neg_key (N K : Nat) (s s' o : Bool) : evFn3 Tryz.prog Tryz.f61 400 [wR false N s] [.res (wR o K s')] =
    some (true, [QC Tryz.prog 38 [mag N, .bool (!s)] (wR o K s')], wR o K s') := by cases o <;> kernel_rfl
theorem neg_over_key : evFn3 Tryz.prog Tryz.f61 400 [wR true 0 false] [] = some (true, [], wR true 0 false) := by kernel_rfl
theorem clamp_eq {z : Int} (h : z.natAbs < Hi) : clamp z = some z := if_pos h
theorem neg_pc {A : Option Int} (h : WF A) : PC Tryz.prog 61 [wv A] (wv (wneg A)) := by
  cases A with
  | none => exact PC.of_ev3 mixed Tryz.func61 400 [] neg_over_key (by simp [flat_wv]) rfl trivial (flat_wR _ _ _) rfl
  | some z =>
    have hz := h z rfl
    have hs := signed_pc (K := z.natAbs) (by have := Hi_T16; omega) (!decide (z < 0))
    have e : sgn z.natAbs (!decide (z < 0)) = some (-z) := by
      unfold sgn
      have : sg z.natAbs (!decide (z < 0)) = -z := by
        by_cases hn : z < 0
        · simp [sg, hn]; omega
        · simp [sg, hn]; omega
      rw [this, clamp_eq (by omega)]
    rw [e] at hs
    exact PC.of_ev3 mixed Tryz.func61 400 _ (neg_key z.natAbs (-z).natAbs (decide (z < 0)) (decide (-z < 0)) false) (by simp [flat_wv]) rfl ⟨QC.of_pc enters_signed hs, trivial⟩ (flat_wR _ _ _) rfl
theorem enters_neg : ∀ us w, (callFunc 61 us).run Tryz.prog w = .ok (.enter 61 us) w := enters Tryz.func61 rfl (by kernel_rfl)

def wadd : Option Int → Option Int → Option Int
  | some a, some b => clamp (a + b)
  | _, _ => none
theorem wadd_wf (A B : Option Int) : WF (wadd A B) := by
  unfold wadd
  split
  · exact clamp_wf _
  · intro z h; cases h
theorem add_over_key1 (o : Bool) (N : Nat) (t : Bool) : evFn3 Tryz.prog Tryz.f11 400 [wR true 0 false, wR o N t] [] = some (true, [], wR true 0 false) := by cases o <;> kernel_rfl
theorem add_over_key2 (N : Nat) (t : Bool) : evFn3 Tryz.prog Tryz.f11 400 [wR false N t, wR true 0 false] [] = some (true, [], wR true 0 false) := by kernel_rfl
theorem add_same_key (M N K : Nat) (s s' o : Bool) : evFn3 Tryz.prog Tryz.f11 400 [wR false M s, wR false N s] [.res (mag (M + N)), .res (wR o K s')] =
    some (true, [QC Tryz.prog 39 [mag M, mag N] (mag (M + N)), QC Tryz.prog 38 [mag (M + N), .bool s] (wR o K s')], wR o K s') := by cases o <;> cases s <;> kernel_rfl
theorem add_ge_key (M N K : Nat) (s s' o c : Bool) : evFn3 Tryz.prog Tryz.f11 400 [wR false M s, wR false N (!s)] [.res (.int .i64 (match c with | true => 1 | false => 0)), .res (mag (M - N)), .res (wR o K s')] =
    some (true, [QC Tryz.prog 40 [mag M, mag N] (.int .i64 (match c with | true => 1 | false => 0)), QC Tryz.prog 41 [mag M, mag N] (mag (M - N)), QC Tryz.prog 38 [mag (M - N), .bool s] (wR o K s')], wR o K s') := by cases o <;> cases s <;> cases c <;> kernel_rfl
theorem add_lt_key (M N K : Nat) (s s' o : Bool) : evFn3 Tryz.prog Tryz.f11 400 [wR false M s, wR false N (!s)] [.res (.int .i64 (-1)), .res (mag (N - M)), .res (wR o K s')] =
    some (true, [QC Tryz.prog 40 [mag M, mag N] (.int .i64 (-1)), QC Tryz.prog 41 [mag N, mag M] (mag (N - M)), QC Tryz.prog 38 [mag (N - M), .bool (!s)] (wR o K s')], wR o K s') := by cases o <;> cases s <;> kernel_rfl
theorem enters_plus : ∀ us w, (callFunc 39 us).run Tryz.prog w = .ok (.enter 39 us) w := enters Tryz.func39 rfl (by kernel_rfl)
theorem enters_minus : ∀ us w, (callFunc 41 us).run Tryz.prog w = .ok (.enter 41 us) w := enters Tryz.func41 rfl (by kernel_rfl)
theorem add_pc {A B : Option Int} (hA : WF A) (hB : WF B) : PC Tryz.prog 11 [wv A, wv B] (wv (wadd A B)) := by
  cases A with
  | none =>
    obtain ⟨o, K, s, e⟩ := wv_form B
    rw [e]
    exact PC.of_ev3 mixed Tryz.func11 400 [] (add_over_key1 o K s) (by simp [wv, flat_wR]) rfl trivial (flat_wR _ _ _) rfl
  | some a =>
    cases B with
    | none => exact PC.of_ev3 mixed Tryz.func11 400 [] (add_over_key2 _ _) (by simp [flat_wv]) rfl trivial (flat_wR _ _ _) rfl
    | some b =>
      have ha := hA a rfl
      have hb := hB b rfl
      have hT := Hi_T16
      have flats : [wv (some a), wv (some b)].all flat = true := by simp [flat_wv]
      obtain ⟨o, K, s', e⟩ := wv_form (wadd (some a) (some b))
      by_cases hsame : decide (a < 0) = decide (b < 0)
      · have hs := signed_pc (K := a.natAbs + b.natAbs) (by omega) (decide (a < 0))
        have e2 : sgn (a.natAbs + b.natAbs) (decide (a < 0)) = wadd (some a) (some b) := by
          show clamp _ = clamp _
          refine congrArg clamp ?_
          by_cases hn : a < 0
          · simp [sg, hn] at hsame ⊢; omega
          · simp [sg, hn] at hsame ⊢; omega
        rw [e2, e] at hs
        have key := add_same_key a.natAbs b.natAbs K (decide (a < 0)) s' o
        rw [wv_some, wv_some, ← hsame] at flats ⊢
        exact PC.of_ev3 mixed Tryz.func11 400 _ key flats rfl ⟨QC.of_pc enters_plus (plus_pc _ _), QC.of_pc enters_signed hs, trivial⟩ (flat_wR _ _ _) e.symm
      · have hne : decide (b < 0) = !decide (a < 0) := by cases h1 : decide (a < 0) <;> cases h2 : decide (b < 0) <;> simp_all
        have hc := compare_pc (M := a.natAbs) (N := b.natAbs) (by omega) (by omega)
        by_cases hlt : a.natAbs < b.natAbs
        · have hs := signed_pc (K := b.natAbs - a.natAbs) (by omega) (!decide (a < 0))
          have e2 : sgn (b.natAbs - a.natAbs) (!decide (a < 0)) = wadd (some a) (some b) := by
            show clamp _ = clamp _
            refine congrArg clamp ?_
            by_cases hn : a < 0
            · simp [sg, hn] at hne ⊢; omega
            · simp [sg, hn] at hne ⊢; omega
          rw [e2, e] at hs
          have hc' : cmpI a.natAbs b.natAbs = -1 := by simp [cmpI, hlt]
          rw [hc'] at hc
          have key := add_lt_key a.natAbs b.natAbs K (decide (a < 0)) s' o
          rw [wv_some, wv_some, hne] at flats ⊢
          exact PC.of_ev3 mixed Tryz.func11 400 _ key flats rfl ⟨QC.of_pc enters_compare hc, QC.of_pc enters_minus (minus_pc (by omega)), QC.of_pc enters_signed hs, trivial⟩ (flat_wR _ _ _) e.symm
        · have hs := signed_pc (K := a.natAbs - b.natAbs) (by omega) (decide (a < 0))
          have e2 : sgn (a.natAbs - b.natAbs) (decide (a < 0)) = wadd (some a) (some b) := by
            show clamp _ = clamp _
            refine congrArg clamp ?_
            by_cases hn : a < 0
            · simp [sg, hn] at hne ⊢; omega
            · simp [sg, hn] at hne ⊢; omega
          rw [e2, e] at hs
          have hc' : cmpI a.natAbs b.natAbs = (match decide (b.natAbs < a.natAbs) with | true => 1 | false => 0) := by
            by_cases h2 : b.natAbs < a.natAbs <;> simp [cmpI, hlt, h2]
          rw [hc'] at hc
          have key := add_ge_key a.natAbs b.natAbs K (decide (a < 0)) s' o (decide (b.natAbs < a.natAbs))
          rw [wv_some, wv_some, hne] at flats ⊢
          exact PC.of_ev3 mixed Tryz.func11 400 _ key flats rfl ⟨QC.of_pc enters_compare hc, QC.of_pc enters_minus (minus_pc (by omega)), QC.of_pc enters_signed hs, trivial⟩ (flat_wR _ _ _) e.symm
theorem enters_add : ∀ us w, (callFunc 11 us).run Tryz.prog w = .ok (.enter 11 us) w := enters Tryz.func11 rfl (by kernel_rfl)

def wsub (A B : Option Int) : Option Int := wadd A (wneg B)
theorem sub_key (o1 o2 o3 o4 : Bool) (M N K L : Nat) (s t u q : Bool) : evFn3 Tryz.prog Tryz.f59 400 [wR o1 M s, wR o2 N t] [.res (wR o3 K u), .res (wR o4 L q)] =
    some (true, [QC Tryz.prog 61 [wR o2 N t] (wR o3 K u), QC Tryz.prog 11 [wR o1 M s, wR o3 K u] (wR o4 L q)], wR o4 L q) := by
  cases o1 <;> cases o2 <;> cases o3 <;> cases o4 <;> kernel_rfl
theorem sub_pc {A B : Option Int} (hA : WF A) (hB : WF B) : PC Tryz.prog 59 [wv A, wv B] (wv (wsub A B)) := by
  obtain ⟨o1, M, s, e1⟩ := wv_form A
  obtain ⟨o2, N, t, e2⟩ := wv_form B
  obtain ⟨o3, K, u, e3⟩ := wv_form (wneg B)
  obtain ⟨o4, L, q, e4⟩ := wv_form (wsub A B)
  have h1 := neg_pc hB
  have h2 := add_pc hA (wneg_wf hB)
  rw [show wadd A (wneg B) = wsub A B from rfl] at h2
  rw [e2, e3] at h1
  rw [e1, e3, e4] at h2
  rw [e1, e2, e4]
  exact PC.of_ev3 mixed Tryz.func59 400 _ (sub_key o1 o2 o3 o4 M N K L s t u q) (by simp [flat_wR]) rfl ⟨QC.of_pc enters_neg h1, QC.of_pc enters_add h2, trivial⟩ (flat_wR _ _ _) rfl
theorem enters_sub : ∀ us w, (callFunc 59 us).run Tryz.prog w = .ok (.enter 59 us) w := enters Tryz.func59 rfl (by kernel_rfl)
end Go.Proofs.YtljolfnpncjklaaGreat.W
/-! Shifts of words, as numbers and as the program computes them. -/
namespace Go.Proofs.YtljolfnpncjklaaGreat.W
open Go Go.Ev Go.Wide

/-! ### Plain shifts of words -/
theorem or_add {a b k : Nat} (hb : b < 2 ^ k) : (2 ^ k * a ||| b) = 2 ^ k * a + b := (Nat.two_pow_add_eq_or_of_lt hb a).symm
/-- Two neighbouring words of a number that is shifted by less than a word: Q = lo + B (hi + ..), over 2 ^ k. -/
theorem pair_shift (Q k : Nat) (hk : k ≤ 64) : Q / 2 ^ k % 18446744073709551616 = (Q % 18446744073709551616) / 2 ^ k + (Q / 18446744073709551616 % 18446744073709551616 * 2 ^ (64 - k)) % 18446744073709551616 := by
  have hB : (18446744073709551616 : Nat) = 2 ^ k * 2 ^ (64 - k) := by rw [← Nat.pow_add, Nat.add_sub_cancel' hk]
  have hp : 0 < 2 ^ k := Nat.two_pow_pos _
  have hq : 0 < 2 ^ (64 - k) := Nat.two_pow_pos _
  generalize he : (18446744073709551616 : Nat) = B at *
  generalize hX : 2 ^ k = X at *
  generalize hY : 2 ^ (64 - k) = Y at *
  have h1 : Q = B * (Q / B) + Q % B := (Nat.div_add_mod Q B).symm
  have h2 : Q / X = Q % B / X + Y * (Q / B) := by
    have : Q = Q % B + X * (Y * (Q / B)) := by rw [← Nat.mul_assoc, ← hB]; omega
    conv => lhs; rw [this]
    rw [Nat.add_mul_div_left _ _ hp]
  have hlt : Q % B / X < Y := by
    rw [Nat.div_lt_iff_lt_mul hp, Nat.mul_comm, ← hB]
    exact Nat.mod_lt _ (by rw [hB]; exact Nat.mul_pos hp hq)
  have h3 : (Y * (Q / B)) % B = (Q / B % B * Y) % B := by
    rw [Nat.mul_comm, Nat.mul_mod (Q / B) Y B, Nat.mul_mod (Q / B % B) Y B, Nat.mod_mod]
  have h4 : ∃ z, (Q / B % B * Y) % B = Y * z ∧ z < X := by
    refine ⟨(Q / B % B) % X, ?_, Nat.mod_lt _ hp⟩
    rw [hB, Nat.mul_mod_mul_right, Nat.mul_comm]
  obtain ⟨z, hz, hzx⟩ := h4
  rw [h2, Nat.add_mod, h3, hz]
  have hlt2 : Q % B / X + Y * z < B := by
    have : Y * z + Y ≤ Y * X := by rw [← Nat.mul_succ]; exact Nat.mul_le_mul_left _ hzx
    have hBY : B = Y * X := by rw [hB, Nat.mul_comm]
    omega
  have : Q % B / X < B := by omega
  rw [Nat.mod_eq_of_lt this, Nat.mod_eq_of_lt hlt2]

/-- The words of N / 2 ^ (64 s + r). -/
theorem wd_down (N s r i : Nat) (hr : r ≤ 64) : wd (N / 2 ^ (64 * s + r)) i = wd N (i + s) / 2 ^ r + wd N (i + s + 1) * 2 ^ (64 - r) % 18446744073709551616 := by
  have h1 : N / 2 ^ (64 * s + r) / 2 ^ (64 * i) = N / 2 ^ (64 * (i + s)) / 2 ^ r := by
    rw [Nat.div_div_eq_div_mul, Nat.div_div_eq_div_mul, ← Nat.pow_add, ← Nat.pow_add]
    congr 2; omega
  have h2 : N / 2 ^ (64 * (i + s + 1)) = N / 2 ^ (64 * (i + s)) / 18446744073709551616 := by rw [pow_succ64, Nat.div_div_eq_div_mul]
  unfold wd
  rw [h1, pair_shift _ r hr, h2]
/-- The words of N * 2 ^ (64 s + r). -/
theorem wd_up (N s r d : Nat) (hr : r < 64) : wd (N * 2 ^ (64 * s + r)) (d + s) = wd N d * 2 ^ r % 18446744073709551616 + (match d with | 0 => 0 | d + 1 => wd N d / 2 ^ (64 - r)) := by
  have h1 : N * 2 ^ (64 * s + r) / 2 ^ (64 * (d + s)) = N * 2 ^ r / 2 ^ (64 * d) := by
    rw [show 64 * (d + s) = 64 * d + 64 * s by omega, Nat.pow_add 2 (64 * s) r, Nat.pow_add 2 (64 * d), show N * (2 ^ (64 * s) * 2 ^ r) = N * 2 ^ r * 2 ^ (64 * s) by ac_rfl]
    exact Nat.mul_div_mul_right _ _ (Nat.two_pow_pos _)
  unfold wd
  rw [h1]
  cases d with
  | zero => simp [Nat.mul_mod]
  | succ d =>
    have h2 : N * 2 ^ r / 2 ^ (64 * (d + 1)) = N / 2 ^ (64 * d) / 2 ^ (64 - r) := by
      rw [Nat.div_div_eq_div_mul, ← Nat.pow_add, show 64 * (d + 1) = (64 * d + (64 - r)) + r by omega, Nat.pow_add]
      exact Nat.mul_div_mul_right _ _ (Nat.two_pow_pos _)
    have h3 : N / 2 ^ (64 * (d + 1)) = N / 2 ^ (64 * d) / 18446744073709551616 := by rw [pow_succ64, Nat.div_div_eq_div_mul]
    rw [h2, pair_shift _ (64 - r) (by omega), h3, show 64 - (64 - r) = r by omega, Nat.add_comm]
theorem wd_up_low (N s r i : Nat) (h : i < s) : wd (N * 2 ^ (64 * s + r)) i = 0 := by
  unfold wd
  have h1 : N * 2 ^ (64 * s + r) / 2 ^ (64 * i) = N * 2 ^ (64 * (s - i - 1) + r) * 18446744073709551616 := by
    have : 64 * s + r = (64 * (s - i - 1) + r) + 64 + 64 * i := by omega
    rw [this, Nat.pow_add, Nat.pow_add, ← Nat.mul_assoc, Nat.mul_div_cancel _ (Nat.two_pow_pos _), ← Nat.mul_assoc]
  rw [h1, Nat.mul_mod_left]

theorem T16_le (d : Nat) : T16 ≤ 2 ^ (64 * (d + 16)) := by
  have e : ∀ n m, n ≤ m → pw n ≤ 2 ^ m := fun n m h => by rw [pw_eq]; exact Nat.pow_le_pow_right (by omega) h
  rw [T16_eq]
  exact e _ _ (by omega)

/-! ### As the program computes -/
def shlI (x r : Int) : Int := IntKind.u64.wrap (x * 2 ^ (min r.toNat 64))
def shrI (x r : Int) : Int := x.fdiv (2 ^ (min r.toNat 64))
def orI (x y : Int) : Int := IntKind.u64.wrap (BitVec.ofInt 64 x ||| BitVec.ofInt 64 y).toNat
def restI (r : Int) : Int := IntKind.i64.wrap (64 - r)
theorem shlI_eq (x r : Nat) (hr : r ≤ 64) : shlI x r = ((x * 2 ^ r % 18446744073709551616 : Nat) : Int) := by
  unfold shlI
  have e : (x : Int) * (2 : Int) ^ r = ((x * 2 ^ r : Nat) : Int) := by push_cast; rfl
  rw [Int.toNat_natCast, Nat.min_eq_left hr, e, u64_wrap]
  generalize x * 2 ^ r = z
  omega
theorem shrI_eq (x r : Nat) (hr : r ≤ 64) : shrI x r = ((x / 2 ^ r : Nat) : Int) := by
  unfold shrI
  rw [Int.toNat_natCast, Nat.min_eq_left hr]
  have : ((2 : Int) ^ r) = ((2 ^ r : Nat) : Int) := by push_cast; rfl
  rw [this, fdiv_lit]
  rfl
theorem restI_eq {r : Nat} (hr : r ≤ 64) : restI r = ((64 - r : Nat) : Int) := by
  unfold restI
  rw [i64_wrap (by omega) (by omega)]
  omega
theorem orI_eq {x y : Nat} (hx : x < 18446744073709551616) (hy : y < 18446744073709551616) : orI x y = ((x ||| y : Nat) : Int) := by
  unfold orI
  have hlt : x ||| y < 2 ^ 64 := Nat.or_lt_two_pow hx hy
  have e : ∀ z : Nat, z < 18446744073709551616 → (BitVec.ofInt 64 (z : Int)).toNat = z := fun z hz => by
    rw [BitVec.toNat_ofInt]; omega
  rw [BitVec.toNat_or, e x hx, e y hy, u64_wrap]
  have : (2 : Nat) ^ 64 = 18446744073709551616 := by decide
  omega
end Go.Proofs.YtljolfnpncjklaaGreat.W
/-! Products of words, row by row, column by column, in numbers. -/
namespace Go.Proofs.YtljolfnpncjklaaGreat.W
open Go Go.Ev Go.Wide

theorem mod_succ64 (N s : Nat) : N % 2 ^ (64 * (s + 1)) = N % 2 ^ (64 * s) + wd N s * 2 ^ (64 * s) := by
  unfold wd
  rw [pow_succ64, Nat.mod_mul, Nat.mul_comm (2 ^ (64 * s))]
theorem wd_lt_add (A z s t : Nat) (h : t < s) : wd (A + z * 2 ^ (64 * s)) t = wd A t := by
  unfold wd
  have e : z * 2 ^ (64 * s) = 2 ^ (64 * t) * (18446744073709551616 * (z * 2 ^ (64 * (s - t - 1)))) := by
    have : 64 * s = 64 * t + (64 + 64 * (s - t - 1)) := by omega
    rw [this, Nat.pow_add, Nat.pow_add]
    show _ = _ * (2 ^ 64 * _)
    ac_rfl
  rw [e, Nat.add_mul_div_left _ _ (Nat.two_pow_pos _), Nat.add_mul_mod_self_left]
theorem wd_mod (P s t : Nat) (h : t < s) : wd (P % 2 ^ (64 * s)) t = wd P t := by
  have e : P = P % 2 ^ (64 * s) + P / 2 ^ (64 * s) * 2 ^ (64 * s) := by rw [Nat.mul_comm (P / _)]; exact (Nat.mod_add_div _ _).symm
  conv => rhs; rw [e]
  exact (wd_lt_add _ _ _ _ h).symm

/-- The rows before row i. -/
def rowP (M N i : Nat) : Nat := M % 2 ^ (64 * i) * N
/-- Row i's columns before column j, and the rows before, as far as they count. -/
def colA (M N i j : Nat) : Nat := rowP M N i % 2 ^ (64 * (i + j)) + wd M i * (N % 2 ^ (64 * j)) * 2 ^ (64 * i)
def carryK (M N i j : Nat) : Nat := colA M N i j / 2 ^ (64 * (i + j))
/-- The words while row i is at column j. -/
def prodW (M N i j t : Nat) : Nat := match decide (t < i + j) with | true => wd (colA M N i j) t | false => wd (rowP M N i) t
def colT (M N i j : Nat) : Nat := wd M i * wd N j + wd (rowP M N i) (i + j) + carryK M N i j

theorem colA_succ (M N i j : Nat) : colA M N i (j + 1) = colA M N i j + (wd (rowP M N i) (i + j) + wd M i * wd N j) * 2 ^ (64 * (i + j)) := by
  unfold colA
  rw [show i + (j + 1) = (i + j) + 1 by omega, mod_succ64, mod_succ64 N j, Nat.mul_add (wd M i), Nat.add_mul, Nat.add_mul (wd (rowP M N i) (i + j))]
  have e : wd M i * (wd N j * 2 ^ (64 * j)) * 2 ^ (64 * i) = wd M i * wd N j * 2 ^ (64 * (i + j)) := by
    rw [Nat.mul_add, Nat.pow_add]; ac_rfl
  rw [e]
  omega
theorem colA_div (M N i j : Nat) : colA M N i (j + 1) / 2 ^ (64 * (i + j)) = colT M N i j := by
  rw [colA_succ, Nat.add_mul_div_right _ _ (Nat.two_pow_pos _)]
  unfold colT carryK
  omega
theorem carryK_succ (M N i j : Nat) : carryK M N i (j + 1) = colT M N i j / 18446744073709551616 := by
  rw [← colA_div]
  unfold carryK
  rw [show i + (j + 1) = (i + j) + 1 by omega, pow_succ64, Nat.div_div_eq_div_mul]
theorem carryK_zero (M N i : Nat) : carryK M N i 0 = 0 := by
  unfold carryK colA
  rw [Nat.mul_zero, Nat.pow_zero, Nat.mod_one, Nat.mul_zero, Nat.zero_mul, Nat.add_zero, Nat.add_zero]
  exact Nat.div_eq_of_lt (Nat.mod_lt _ (Nat.two_pow_pos _))
theorem colT_lt (M N i j : Nat) (h : carryK M N i j < 18446744073709551616) : colT M N i j < 18446744073709551616 * 18446744073709551616 := by
  unfold colT
  have h1 := wd_lt M i
  have h2 := wd_lt N j
  have h3 := wd_lt (rowP M N i) (i + j)
  have : wd M i * wd N j ≤ 18446744073709551615 * 18446744073709551615 := Nat.mul_le_mul (by omega) (by omega)
  omega
theorem carryK_lt (M N i : Nat) : ∀ j, carryK M N i j < 18446744073709551616
  | 0 => by rw [carryK_zero]; omega
  | j + 1 => by
    rw [carryK_succ]
    have := colT_lt M N i j (carryK_lt M N i j)
    exact Nat.div_lt_of_lt_mul this
theorem wd_colA (M N i j : Nat) : wd (colA M N i (j + 1)) (i + j) = colT M N i j % 18446744073709551616 := by
  unfold wd
  rw [colA_div]
theorem prodW_zero (M N i t : Nat) : prodW M N i 0 t = wd (rowP M N i) t := by
  unfold prodW
  by_cases h : t < i + 0
  · rw [decide_eq_true h]
    simp only
    unfold colA
    rw [Nat.mul_zero, Nat.pow_zero, Nat.mod_one, Nat.mul_zero, Nat.zero_mul, Nat.add_zero]
    exact wd_mod _ _ _ h
  · rw [decide_eq_false h]
/-- One column more. -/
theorem prodW_succ (M N i j t : Nat) : prodW M N i (j + 1) t = if t = i + j then colT M N i j % 18446744073709551616 else prodW M N i j t := by
  unfold prodW
  by_cases h : t = i + j
  · subst h
    rw [if_pos rfl, decide_eq_true (by omega)]
    exact wd_colA M N i j
  · rw [if_neg h]
    by_cases h1 : t < i + j
    · rw [decide_eq_true h1, decide_eq_true (by omega)]
      simp only
      rw [colA_succ, wd_lt_add _ _ _ _ h1]
    · rw [decide_eq_false h1, decide_eq_false (by omega)]
theorem rowP_lt (M N i c : Nat) (hN : N < 2 ^ (64 * c)) : rowP M N i < 2 ^ (64 * (i + c)) := by
  unfold rowP
  rw [Nat.mul_add, Nat.pow_add]
  have h1 : M % 2 ^ (64 * i) < 2 ^ (64 * i) := Nat.mod_lt _ (Nat.two_pow_pos _)
  have h2 : M % 2 ^ (64 * i) * N ≤ 2 ^ (64 * i) * N := Nat.mul_le_mul_right _ (Nat.le_of_lt h1)
  have h3 : 2 ^ (64 * i) * N < 2 ^ (64 * i) * 2 ^ (64 * c) := Nat.mul_lt_mul_of_pos_left hN (Nat.two_pow_pos _)
  omega
theorem colA_all (M N i c : Nat) (hN : N < 2 ^ (64 * c)) : colA M N i c = rowP M N (i + 1) := by
  unfold colA
  rw [Nat.mod_eq_of_lt (rowP_lt M N i c hN), Nat.mod_eq_of_lt hN]
  unfold rowP
  rw [mod_succ64, Nat.add_mul]
  have : wd M i * N * 2 ^ (64 * i) = wd M i * 2 ^ (64 * i) * N := by ac_rfl
  omega
theorem carryK_all (M N i c : Nat) (hN : N < 2 ^ (64 * c)) : carryK M N i c = wd (rowP M N (i + 1)) (i + c) := by
  have h := carryK_lt M N i c
  unfold carryK at *
  rw [colA_all M N i c hN] at *
  unfold wd
  rw [Nat.mod_eq_of_lt h]
/-- The row's end. -/
theorem prodW_all (M N i c t : Nat) (hN : N < 2 ^ (64 * c)) : (if t = i + c then carryK M N i c else prodW M N i c t) = wd (rowP M N (i + 1)) t := by
  by_cases h : t = i + c
  · subst h
    rw [if_pos rfl]
    exact carryK_all M N i c hN
  · rw [if_neg h]
    unfold prodW
    by_cases h1 : t < i + c
    · rw [decide_eq_true h1]
      simp only
      rw [colA_all M N i c hN]
    · rw [decide_eq_false h1]
      have hz : ∀ P, P < 2 ^ (64 * (i + 1 + c)) → wd P t = 0 := fun P hP => by
        unfold wd
        rw [Nat.div_eq_of_lt (Nat.lt_of_lt_of_le hP (Nat.pow_le_pow_right (by omega) (by omega)))]
      simp only
      rw [hz _ (Nat.lt_of_lt_of_le (rowP_lt M N i c hN) (Nat.pow_le_pow_right (by omega) (by omega))), hz _ (rowP_lt M N (i + 1) c hN)]
end Go.Proofs.YtljolfnpncjklaaGreat.W
/-! The number of leading zero bits of a word. -/
namespace Go.Proofs.YtljolfnpncjklaaGreat.W
open Go Go.Ev Go.Wide

theorem lz64_pc {x : Nat} (hx : x < 18446744073709551616) : PC Tryz.prog 126 [.int .u64 x] (.int .i64 (64 - bitLen x)) := by
  have hb : bitLen x ≤ 64 := bitLen_lt_iff.2 hx
  exact PC.of_ev3 mixed Tryz.func126 400 [.res (.int .i64 (bitLen x))] (ok := true) (obs := [QC Tryz.prog 107 [.int .u64 x] (.int .i64 (bitLen x))]) (v := .int .i64 (IntKind.i64.wrap (64 - bitLen x))) (by kernel_rfl) (by kernel_rfl) rfl
    ⟨QC.of_pc enters_len64 (len64_pc hx), trivial⟩ (by kernel_rfl) (by rw [i64_wrap (by omega) (by omega)])

end Go.Proofs.YtljolfnpncjklaaGreat.W
