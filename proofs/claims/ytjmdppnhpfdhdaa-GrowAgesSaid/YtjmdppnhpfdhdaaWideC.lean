/-
  math/bits: the length of a word, products of two words; multiplyAdd.
-/
import Derived.Test.YtjmdppnhpfdhdaaWideB
import Derived.Laws.MathBits
namespace Go.Proofs.Ytjmdppnhpfdhdaa.W
open Go Go.Ev Go.Wide

theorem u64_wrap (n : Int) : IntKind.u64.wrap n = n % 18446744073709551616 := by
  unfold IntKind.wrap
  simp [IntKind.signed, IntKind.bits]
theorem u8_wrap (n : Int) : IntKind.u8.wrap n = n % 256 := by
  unfold IntKind.wrap
  simp [IntKind.signed, IntKind.bits]
theorem u32_wrap (n : Int) : IntKind.u32.wrap n = n % 4294967296 := by
  unfold IntKind.wrap
  simp [IntKind.signed, IntKind.bits]
theorem i64_wrap {n : Int} (h0 : -9223372036854775808 ≤ n) (h1 : n ≤ 9223372036854775807) : IntKind.i64.wrap n = n := by
  rw [IntKind.wrap_i64]; omega
theorem fdiv_lit (n : Int) (m : Nat) : n.fdiv (m : Int) = n / (m : Int) := Int.fdiv_eq_ediv_of_nonneg _ (by omega)

/-! ### The length of a word -/
theorem bitLen_lt_iff {x n : Nat} : bitLen x ≤ n ↔ x < 2 ^ n := by
  have h := bitLen_spec x
  constructor
  · intro hn; exact Nat.lt_of_lt_of_le h.1 (Nat.pow_le_pow_right (by omega) hn)
  · intro hx
    rcases Nat.eq_zero_or_pos x with h0 | h0
    · subst h0; simp [bitLen]
    · have h2 := h.2 (by omega)
      rcases Nat.lt_or_ge n (bitLen x) with h3 | h3
      · exfalso
        have : 2 ^ n ≤ 2 ^ (bitLen x - 1) := Nat.pow_le_pow_right (by omega) (by omega)
        omega
      · exact h3

def len8 : ByteArray := ⟨((List.range 256).map fun i => UInt8.ofNat (bitLen i)).toArray⟩
theorem len8_get {i : Nat} (h : i < 256) : (len8.data.getD i 0).toNat = bitLen i := by
  have hb : bitLen i ≤ 8 := bitLen_lt_iff.2 h
  simp [len8, h]
  omega

def shr (b : Bool) (k : Nat) (x : Int) : Int := match b with | true => x.fdiv (2 ^ k) | false => x
def lenIx (b1 b2 b3 : Bool) (x : Int) : Int := shr b3 8 (shr b2 16 (shr b1 32 x))
def lenN (b1 b2 b3 : Bool) : Int := (match b1 with | true => 32 | false => 0) + (match b2 with | true => 16 | false => 0) + (match b3 with | true => 8 | false => 0)
theorem len64_path (b1 b2 b3 : Bool) (x : Int) (v : Value)
    (h : conj [eqB (decide (x ≥ 4294967296)) b1, eqB (decide (shr b1 32 x ≥ 65536)) b2, eqB (decide (shr b2 16 (shr b1 32 x) ≥ 256)) b3,
      decide (0 ≤ IntKind.u8.wrap (lenIx b1 b2 b3 x)) && decide ((IntKind.u8.wrap (lenIx b1 b2 b3 x)).toNat < 256)] = true)
    (hv : Value.int .i64 (IntKind.i64.wrap (lenN b1 b2 b3 + IntKind.i64.wrap (len8.data.getD (IntKind.u8.wrap (lenIx b1 b2 b3 x)).toNat 0).toNat)) = v) :
    PC Try.prog 107 [.int .u64 x] v := by
  have key : evFn3 Try.prog Try.f107 400 [.int .u64 x] [.tst b1, .tst b2, .tst b3] = some (conj [eqB (decide (x ≥ 4294967296)) b1, eqB (decide (shr b1 32 x ≥ 65536)) b2, eqB (decide (shr b2 16 (shr b1 32 x) ≥ 256)) b3,
      decide (0 ≤ IntKind.u8.wrap (lenIx b1 b2 b3 x)) && decide ((IntKind.u8.wrap (lenIx b1 b2 b3 x)).toNat < 256)], [], .int .i64 (IntKind.i64.wrap (lenN b1 b2 b3 + IntKind.i64.wrap (len8.data.getD (IntKind.u8.wrap (lenIx b1 b2 b3 x)).toNat 0).toNat))) := by
    cases b1 <;> cases b2 <;> cases b3 <;> kernel_rfl
  exact PC.of_ev3 mixed Try.func107 400 [.tst b1, .tst b2, .tst b3] key rfl h trivial rfl hv

theorem len64_pc {x : Nat} (hx : x < 18446744073709551616) : PC Try.prog 107 [.int .u64 x] (.int .i64 (bitLen x)) := by
  have e32 : ∀ n : Int, n.fdiv (2 ^ 32) = n / 4294967296 := fun n => fdiv_lit n 4294967296
  have e16 : ∀ n : Int, n.fdiv (2 ^ 16) = n / 65536 := fun n => fdiv_lit n 65536
  have e8 : ∀ n : Int, n.fdiv (2 ^ 8) = n / 256 := fun n => fdiv_lit n 256
  have hb : bitLen x ≤ 64 := bitLen_lt_iff.2 hx
  -- the index, as a natural number
  have fin : ∀ (b1 b2 b3 : Bool) (i : Nat), lenIx b1 b2 b3 x = i → i < 256 → (bitLen x : Int) = lenN b1 b2 b3 + bitLen i → conj [eqB (decide ((x : Int) ≥ 4294967296)) b1, eqB (decide (shr b1 32 x ≥ 65536)) b2, eqB (decide (shr b2 16 (shr b1 32 x) ≥ 256)) b3] = true →
      PC Try.prog 107 [.int .u64 x] (.int .i64 (bitLen x)) := by
    intro b1 b2 b3 i hi hlt hl hc
    have hw : IntKind.u8.wrap (lenIx b1 b2 b3 x) = i := by rw [hi, u8_wrap]; omega
    refine len64_path b1 b2 b3 x _ ?_ ?_
    · rw [hw]
      simp only [conj_cons, conj_nil, Bool.and_true, Bool.and_eq_true, decide_eq_true_eq, Int.toNat_natCast] at hc ⊢
      exact ⟨hc.1, hc.2.1, hc.2.2, by omega, hlt⟩
    · rw [hw, Int.toNat_natCast, len8_get hlt]
      have h8 : bitLen i ≤ 8 := bitLen_lt_iff.2 hlt
      rw [i64_wrap (n := (bitLen i : Int)) (by omega) (by omega), i64_wrap (by omega) (by omega), hl]
  have sh : ∀ (y b : Nat), y / 2 ^ b ≠ 0 → bitLen y = b + bitLen (y / 2 ^ b) := fun y b h => bitLen_shift y b h
  by_cases c1 : 4294967296 ≤ x
  · have s1 : bitLen x = 32 + bitLen (x / 4294967296) := sh x 32 (by omega)
    have x1 : ((x : Int).fdiv (2 ^ 32)) = ((x / 4294967296 : Nat) : Int) := by rw [e32]; omega
    by_cases c2 : 65536 ≤ x / 4294967296
    · have s2 : bitLen (x / 4294967296) = 16 + bitLen (x / 4294967296 / 65536) := sh (x / 4294967296) 16 (by omega)
      have x2 : (((x / 4294967296 : Nat) : Int).fdiv (2 ^ 16)) = ((x / 4294967296 / 65536 : Nat) : Int) := by rw [e16]; omega
      by_cases c3 : 256 ≤ x / 4294967296 / 65536
      · have s3 : bitLen (x / 4294967296 / 65536) = 8 + bitLen (x / 4294967296 / 65536 / 256) := sh (x / 4294967296 / 65536) 8 (by omega)
        have x3 : (((x / 4294967296 / 65536 : Nat) : Int).fdiv (2 ^ 8)) = ((x / 4294967296 / 65536 / 256 : Nat) : Int) := by rw [e8]; omega
        exact fin true true true (x / 4294967296 / 65536 / 256) (by simp only [lenIx, shr, x1, x2, x3]) (by omega) (by simp only [lenN]; omega) (by simp only [conj_cons, conj_nil, eqB, shr, x1, x2]; simp; omega)
      · exact fin true true false (x / 4294967296 / 65536) (by simp only [lenIx, shr, x1, x2]) (by omega) (by simp only [lenN]; omega) (by simp only [conj_cons, conj_nil, eqB, shr, x1, x2]; simp; omega)
    · by_cases c3 : 256 ≤ x / 4294967296
      · have s3 : bitLen (x / 4294967296) = 8 + bitLen (x / 4294967296 / 256) := sh (x / 4294967296) 8 (by omega)
        have x3 : (((x / 4294967296 : Nat) : Int).fdiv (2 ^ 8)) = ((x / 4294967296 / 256 : Nat) : Int) := by rw [e8]; omega
        exact fin true false true (x / 4294967296 / 256) (by simp only [lenIx, shr, x1, x3]) (by omega) (by simp only [lenN]; omega) (by simp only [conj_cons, conj_nil, eqB, shr, x1]; simp; omega)
      · exact fin true false false (x / 4294967296) (by simp only [lenIx, shr, x1]) (by omega) (by simp only [lenN]; omega) (by simp only [conj_cons, conj_nil, eqB, shr, x1]; simp; omega)
  · by_cases c2 : 65536 ≤ x
    · have s2 : bitLen x = 16 + bitLen (x / 65536) := sh x 16 (by omega)
      have x2 : ((x : Int).fdiv (2 ^ 16)) = ((x / 65536 : Nat) : Int) := by rw [e16]; omega
      by_cases c3 : 256 ≤ x / 65536
      · have s3 : bitLen (x / 65536) = 8 + bitLen (x / 65536 / 256) := sh (x / 65536) 8 (by omega)
        have x3 : (((x / 65536 : Nat) : Int).fdiv (2 ^ 8)) = ((x / 65536 / 256 : Nat) : Int) := by rw [e8]; omega
        exact fin false true true (x / 65536 / 256) (by simp only [lenIx, shr, x2, x3]) (by omega) (by simp only [lenN]; omega) (by simp only [conj_cons, conj_nil, eqB, shr, x2]; simp; omega)
      · exact fin false true false (x / 65536) (by simp only [lenIx, shr, x2]) (by omega) (by simp only [lenN]; omega) (by simp only [conj_cons, conj_nil, eqB, shr, x2]; simp; omega)
    · by_cases c3 : 256 ≤ x
      · have s3 : bitLen x = 8 + bitLen (x / 256) := sh x 8 (by omega)
        have x3 : ((x : Int).fdiv (2 ^ 8)) = ((x / 256 : Nat) : Int) := by rw [e8]; omega
        exact fin false false true (x / 256) (by simp only [lenIx, shr, x3]) (by omega) (by simp only [lenN]; omega) (by simp only [conj_cons, conj_nil, eqB, shr]; simp; omega)
      · exact fin false false false x (by simp only [lenIx, shr]) (by omega) (by simp only [lenN]; omega) (by simp only [conj_cons, conj_nil, eqB, shr]; simp; omega)

theorem enters_len64 : ∀ us w, (callFunc 107 us).run Try.prog w = .ok (.enter 107 us) w := enters Try.func107 rfl (by kernel_rfl)
/-! ### Products -/
def lo32 (z : Int) : Int := IntKind.u64.wrap (BitVec.ofInt 64 z &&& BitVec.ofInt 64 4294967295).toNat
def hi32 (z : Int) : Int := z.fdiv 4294967296
def w64 (z : Int) : Int := IntKind.u64.wrap z
def mul64Val (x y : Int) : Value :=
  .tuple #[.int .u64 (w64 (w64 (w64 (hi32 x * hi32 y) + hi32 (w64 (w64 (hi32 x * lo32 y) + hi32 (w64 (lo32 x * lo32 y))))) + hi32 (w64 (lo32 (w64 (w64 (hi32 x * lo32 y) + hi32 (w64 (lo32 x * lo32 y)))) + w64 (lo32 x * hi32 y))))), .int .u64 (w64 (x * y))]

theorem lo32_eq {z : Int} (h0 : 0 ≤ z) (h1 : z < 18446744073709551616) : lo32 z = z % 4294967296 := and_low32 z h0 h1
theorem hi32_eq (z : Int) : hi32 z = z / 4294967296 := fdiv_lit z 4294967296

theorem mul64_pc {x y : Nat} (hx : x < 18446744073709551616) (hy : y < 18446744073709551616) :
    PC Try.prog 106 [.int .u64 x, .int .u64 y] (.tuple #[.int .u64 ((x * y / 18446744073709551616 : Nat) : Int), .int .u64 ((x * y % 18446744073709551616 : Nat) : Int)]) := by
  refine PC.of_ev3 mixed Try.func106 400 [] (ok := true) (obs := []) (v := mul64Val x y) (by kernel_rfl) (by kernel_rfl) rfl trivial (by kernel_rfl) ?_
  have hm : ∀ z : Int, 0 ≤ z % 18446744073709551616 ∧ z % 18446744073709551616 < 18446744073709551616 := fun z => by omega
  have lx := lo32_eq (z := (x : Int)) (by omega) (by omega)
  have ly := lo32_eq (z := (y : Int)) (by omega) (by omega)
  have key := mul64_arith (x : Int) (y : Int) (by omega) (by omega) (by omega) (by omega)
  unfold mul64Val w64
  simp only [u64_wrap, hi32_eq, lx, ly]
  rw [lo32_eq (hm _).1 (hm _).2, key]
  rfl

theorem enters_mul64 : ∀ us w, (callFunc 106 us).run Try.prog w = .ok (.enter 106 us) w := enters Try.func106 rfl (by kernel_rfl)

/-- a * b + c + d: the low word, the high word. -/
theorem mulAdd_pc {a b c d : Nat} (ha : a < 18446744073709551616) (hb : b < 18446744073709551616) (hc : c < 18446744073709551616) (hd : d < 18446744073709551616) :
    PC Try.prog 96 [.int .u64 a, .int .u64 b, .int .u64 c, .int .u64 d]
      (.tuple #[.int .u64 (((a * b + c + d) % 18446744073709551616 : Nat) : Int), .int .u64 (((a * b + c + d) / 18446744073709551616 : Nat) : Int)]) := by
  have hle : a * b ≤ 18446744073709551615 * 18446744073709551615 := Nat.mul_le_mul (by omega) (by omega)
  generalize hP : a * b = p at hle
  refine PC.of_ev3 mixed Try.func96 400
    [.res (.tuple #[.int .u64 ((p / 18446744073709551616 : Nat) : Int), .int .u64 ((p % 18446744073709551616 : Nat) : Int)]),
     .res (.tuple #[.int .u64 (((p % 18446744073709551616 + c) % 18446744073709551616 : Nat) : Int), .int .u64 (((p % 18446744073709551616 + c) / 18446744073709551616 : Nat) : Int)]),
     .res (.tuple #[.int .u64 ((((p % 18446744073709551616 + c) % 18446744073709551616 + d) % 18446744073709551616 : Nat) : Int), .int .u64 ((((p % 18446744073709551616 + c) % 18446744073709551616 + d) / 18446744073709551616 : Nat) : Int)])]
    (ok := true)
    (obs := [QC Try.prog 106 [.int .u64 a, .int .u64 b] (.tuple #[.int .u64 ((p / 18446744073709551616 : Nat) : Int), .int .u64 ((p % 18446744073709551616 : Nat) : Int)]),
      QC Try.prog 98 [.int .u64 ((p % 18446744073709551616 : Nat) : Int), .int .u64 c, .int .u64 0] (.tuple #[.int .u64 (((p % 18446744073709551616 + c) % 18446744073709551616 : Nat) : Int), .int .u64 (((p % 18446744073709551616 + c) / 18446744073709551616 : Nat) : Int)]),
      QC Try.prog 98 [.int .u64 (((p % 18446744073709551616 + c) % 18446744073709551616 : Nat) : Int), .int .u64 d, .int .u64 0] (.tuple #[.int .u64 ((((p % 18446744073709551616 + c) % 18446744073709551616 + d) % 18446744073709551616 : Nat) : Int), .int .u64 ((((p % 18446744073709551616 + c) % 18446744073709551616 + d) / 18446744073709551616 : Nat) : Int)])])
    (v := .tuple #[.int .u64 ((((p % 18446744073709551616 + c) % 18446744073709551616 + d) % 18446744073709551616 : Nat) : Int),
      .int .u64 (IntKind.u64.wrap (IntKind.u64.wrap (((p / 18446744073709551616 : Nat) : Int) + (((p % 18446744073709551616 + c) / 18446744073709551616 : Nat) : Int)) + ((((p % 18446744073709551616 + c) % 18446744073709551616 + d) / 18446744073709551616 : Nat) : Int)))])
    (by kernel_rfl) (by kernel_rfl) rfl ⟨?_, ?_, ?_, trivial⟩ (by kernel_rfl) ?_
  · have := mul64_pc ha hb
    rw [hP] at this
    exact QC.of_pc enters_mul64 this
  · exact add64_qc _ c 0 (by omega)
  · exact add64_qc _ d 0 (by omega)
  · rw [u64_wrap, u64_wrap]
    congr 4
    · congr 1; omega
    · congr 1; omega
theorem enters_mulAdd : ∀ us w, (callFunc 96 us).run Try.prog w = .ok (.enter 96 us) w := enters Try.func96 rfl (by kernel_rfl)
end Go.Proofs.Ytjmdppnhpfdhdaa.W
