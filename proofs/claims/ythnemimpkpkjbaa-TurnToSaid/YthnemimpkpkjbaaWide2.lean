/-
  The program's shiftedUp.
  The program's shiftedDown.
  The program's Cmp, roundedDown, shiftUp, shiftDown, Shift.
  The program's Shift.
  The program's times: two loops.
  The program's digit and Text.
  Texts of known numbers.
  Numbers that are far from being over: the program's sums, differences and products of them are exact.
  The program's Int64.
-/
import Derived.Test.YthnemimpkpkjbaaWide1
/-! The program's shiftedUp. -/
namespace Go.Proofs.Ythnemimpkpkjbaa.W
open Go Go.Ev Go.Wide

/-! ### shiftedUp -/
def upWord (r : Int) (x : Nat → Nat) : Nat → Int
  | 0 => shlI (x 0) r
  | d + 1 => orI (shlI (x (d + 1)) r) (shrI (x d) (restI r))
def upV (s : Nat) (r : Int) (x : Nat → Nat) : Value := .agg ((List.range 16).map fun i => Value.int .u64 (match decide (i < s) with | true => 0 | false => upWord r x (i - s))).toArray
def upSteps : Nat → Nat → List Ans
  | 0, _ => []
  | n + 1, i => .at 32 (.int .i64 ((i : Nat) : Int)) :: upSteps n (i + 1)
def upAns (s : Nat) (r : Int) : List Ans := .at 4 (.int .i64 (s : Int)) :: .at 1 (.int .i64 r) :: .at 20 (.int .i64 ((s + 1 : Nat) : Int)) :: upSteps (15 - s) (s + 2)
def upOk : Nat → Int → List Bool
  | 0, _ => []
  | n + 1, r => (!decide (r < 0)) :: (!decide (restI r < 0)) :: upOk n r
theorem upOk_true {r : Nat} (h : r < 64) : ∀ n, conj (upOk n r) = true
  | 0 => rfl
  | n + 1 => by
    have h1 : (!decide ((r : Int) < 0)) = true := by rw [decide_eq_false (by omega)]; rfl
    have h2 : (!decide (restI (r : Int) < 0)) = true := by rw [restI_eq (by omega), decide_eq_false (by omega)]; rfl
    rw [upOk, conj_cons, conj_cons, upOk_true h n, h1, h2]; rfl
end Go.Proofs.Ythnemimpkpkjbaa.W
/-! The program's shiftedDown. -/
namespace Go.Proofs.Ythnemimpkpkjbaa.W
open Go Go.Ev Go.Wide

/-! ### shiftedDown -/
def downWord (r : Int) (x : Nat → Nat) (i : Nat) : Int := match decide (i + 1 < 16) with | true => orI (shrI (x i) r) (shlI (x (i + 1)) (restI r)) | false => shrI (x i) r
def downV (s : Nat) (r : Int) (x : Nat → Nat) : Value := .agg ((List.range 16).map fun i => Value.int .u64 (match decide (i + s < 16) with | true => downWord r x (i + s) | false => 0)).toArray
def downSteps (f : Nat) : Nat → Nat → List Ans
  | 0, _ => []
  | 1, i => [.at (f + 17) (.int .i64 ((i : Nat) : Int))]
  | n + 2, i => .at (f + 32) (.int .i64 ((i : Nat) : Int)) :: downSteps 0 (n + 1) (i + 1)
def downAns (s : Nat) (r : Int) : List Ans := .at 4 (.int .i64 (s : Int)) :: .at 1 (.int .i64 r) :: downSteps 3 (16 - s) (s + 1)
def downOk : Nat → Int → List Bool
  | 0, r => [!decide (r < 0)]
  | n + 1, r => (!decide (r < 0)) :: (!decide (restI r < 0)) :: downOk n r
theorem downOk_true {r : Nat} (h : r < 64) : ∀ n, conj (downOk n r) = true
  | 0 => by
    have h1 : (!decide ((r : Int) < 0)) = true := by rw [decide_eq_false (by omega)]; rfl
    rw [downOk, conj_cons, h1]; rfl
  | n + 1 => by
    have h1 : (!decide ((r : Int) < 0)) = true := by rw [decide_eq_false (by omega)]; rfl
    have h2 : (!decide (restI (r : Int) < 0)) = true := by rw [restI_eq (by omega), decide_eq_false (by omega)]; rfl
    rw [downOk, conj_cons, conj_cons, downOk_true h n, h1, h2]; rfl
end Go.Proofs.Ythnemimpkpkjbaa.W
/-! The program's Cmp, roundedDown, shiftUp, shiftDown, Shift. -/
namespace Go.Proofs.Ythnemimpkpkjbaa.W
open Go Go.Ev Go.Wide

/-! ### Cmp -/
/-- -1, 0 or 1. -/
def ordI (a b : Int) : Int := if a < b then -1 else if b < a then 1 else 0
def wcmp : Option Int → Option Int → Value
  | some a, some b => .tuple #[.int .i64 (ordI a b), .bool true]
  | _, _ => .tuple #[.int .i64 0, .bool false]
/-! ### roundedDown -/
def mag1 : Value := .agg (Value.int .u64 1 :: List.replicate 15 (Value.int .u64 0)).toArray
theorem mag1_eq : mag1 = mag 1 := by
  unfold mag1 mag words
  rw [words_small (N := 1) (by omega)]
  rfl
/-- The quotient's magnitude, rounded toward minus infinity. -/
def downK (M : Nat) (x s : Bool) : Nat := match s && !x with | true => M + 1 | false => M
/-! ### shiftUp, shiftDown, Shift -/
end Go.Proofs.Ythnemimpkpkjbaa.W
/-! The program's Shift. -/
namespace Go.Proofs.Ythnemimpkpkjbaa.W
open Go Go.Ev Go.Wide

theorem bitLen_shift {M : Nat} (h : M ≠ 0) (k : Nat) : bitLen (M * 2 ^ k) = bitLen M + k := by
  have hs := bitLen_spec M
  have h1 : bitLen (M * 2 ^ k) ≤ bitLen M + k := bitLen_lt_iff.2 (by rw [Nat.pow_add]; exact Nat.mul_lt_mul_of_pos_right hs.1 (Nat.two_pow_pos _))
  have h0 : bitLen M ≠ 0 := fun e => by
    have := hs.1
    rw [e] at this
    simp at this
    exact h this
  by_cases h2 : bitLen (M * 2 ^ k) ≤ bitLen M - 1 + k
  · have := bitLen_lt_iff.1 h2
    rw [Nat.pow_add] at this
    have := Nat.lt_of_mul_lt_mul_right this
    have := hs.2 h
    omega
  · omega
theorem sg_natAbs (z : Int) : sg z.natAbs (decide (z < 0)) = z := by
  by_cases h : z < 0
  · rw [decide_eq_true h]; simp only [sg]; omega
  · rw [decide_eq_false h]; simp only [sg]; omega
theorem sg_up (M n : Nat) (s : Bool) : sg (M * 2 ^ n) s = sg M s * 2 ^ n := by
  have e : ((M * 2 ^ n : Nat) : Int) = (M : Int) * 2 ^ n := by push_cast; rfl
  cases s
  · exact e
  · simp only [sg]
    rw [e, Int.neg_mul]
theorem sg_down (M n : Nat) (s : Bool) : sg (downK (M / 2 ^ n) (decide (M / 2 ^ n * 2 ^ n = M)) s) s = sg M s / 2 ^ n := by
  have e : ((2 : Int) ^ n) = ((2 ^ n : Nat) : Int) := by push_cast; rfl
  rw [e]
  have hp : 0 < 2 ^ n := Nat.two_pow_pos n
  generalize 2 ^ n = D at *
  cases s
  · rw [show downK (M / D) (decide (M / D * D = M)) false = M / D from rfl]
    exact Int.natCast_ediv M D
  · have hM := Nat.div_add_mod M D
    have hr := Nat.mod_lt M hp
    have hcast : (M : Int) = (D : Int) * ((M / D : Nat) : Int) + ((M % D : Nat) : Int) := by
      conv => lhs; rw [← hM]
      push_cast; rfl
    have hD : (0 : Int) < (D : Int) := by omega
    generalize hq : M / D = q at *
    generalize hm : M % D = r at *
    rw [Nat.mul_comm] at hM
    by_cases h0 : r = 0
    · have h1 : q * D = M := by omega
      rw [decide_eq_true h1]
      show -((q : Nat) : Int) = -(M : Int) / D
      have := ((Int.ediv_emod_unique (a := -(M : Int)) (b := D) (r := 0) (q := -(q : Int)) hD).2 ⟨by rw [hcast, h0, Int.mul_neg]; omega, by omega, by omega⟩).1
      exact this.symm
    · have h1 : ¬ (q * D = M) := by omega
      rw [decide_eq_false h1]
      show -((q + 1 : Nat) : Int) = -(M : Int) / D
      have := ((Int.ediv_emod_unique (a := -(M : Int)) (b := D) (r := (D : Int) - r) (q := -((q + 1 : Nat) : Int)) hD).2 ⟨by
        have e2 : (D : Int) * -((q + 1 : Nat) : Int) = -((D : Int) * q) - D := by
          rw [Int.mul_neg, Int.natCast_add, Int.mul_add]
          show -((D : Int) * q + D * 1) = _
          omega
        rw [e2, hcast]; omega, by omega, by omega⟩).1
      exact this.symm

def wshift : Option Int → Int → Option Int
  | none, _ => none
  | some z, k => match decide (k < 0) with
    | true => clamp (z / 2 ^ (-k).toNat)
    | false => clamp (z * 2 ^ k.toNat)
theorem wshift_wf (A : Option Int) (k : Int) : WF (wshift A k) := by
  unfold wshift
  split
  · intro z h; cases h
  · split <;> exact clamp_wf _

def eqL (x y : Nat → Nat) : List Nat → Bool
  | [] => true
  | i :: l => ((x i : Int) == (y i : Int)) && eqL x y l
theorem eqL_iff {x y : Nat → Nat} : ∀ {l : List Nat}, eqL x y l = true ↔ ∀ i ∈ l, x i = y i
  | [] => by simp [eqL]
  | i :: l => by
    simp only [eqL, Bool.and_eq_true, eqL_iff, List.mem_cons, forall_eq_or_imp, beq_iff_eq, Int.natCast_inj]
theorem eqL_eq {M N : Nat} (hM : M < T16) (hN : N < T16) : eqL (wd M) (wd N) (List.range 16) = decide (M = N) := by
  rw [Bool.eq_iff_iff, eqL_iff, decide_eq_true_eq]
  constructor
  · intro h
    have := div_eq_of_words hM hN 16 0 rfl (fun i _ hi => h i (List.mem_range.2 hi))
    simpa using this
  · rintro rfl i _; rfl
def downC (k : Int) : Int := IntKind.i64.wrap (0 - if -1023 > k then -1023 else k)
theorem downC_eq {k : Int} (h0 : k < 0) (h1 : -9223372036854775808 ≤ k) : ∃ c : Nat, downC k = c ∧ c ≤ 1023 ∧ (c = (-k).toNat ∨ (c = 1023 ∧ 1023 ≤ (-k).toNat)) := by
  unfold downC
  by_cases h : -1023 > k
  · rw [if_pos h]
    exact ⟨1023, i64_wrap (by omega) (by omega), by omega, .inr ⟨rfl, by omega⟩⟩
  · rw [if_neg h]
    exact ⟨(-k).toNat, by rw [i64_wrap (by omega) (by omega)]; omega, by omega, .inl rfl⟩
theorem lt_Hi_pow {M c : Nat} (h : M < Hi) (hc : 1023 ≤ c) : M < 2 ^ c := bitLen_lt_iff.1 (Nat.le_trans (bitLen_Hi.2 h) hc)
end Go.Proofs.Ythnemimpkpkjbaa.W
/-! The program's times: two loops. -/
namespace Go.Proofs.Ythnemimpkpkjbaa.W
open Go Go.Ev Go.Wide

def m32 (p : Nat → Nat) : List Value := (List.range 32).map fun i => .int .u64 (p i)
theorem map_set {f : Nat → Value} {n k : Nat} {v : Value} : ((List.range n).map f).set k v = (List.range n).map fun t => if t = k then v else f t := by
  apply List.ext_getElem
  · simp
  · intro t h1 h2
    rw [List.getElem_set]
    simp only [List.getElem_map, List.getElem_range]
    by_cases h : k = t
    · rw [if_pos h, if_pos h.symm]
    · rw [if_neg h, if_neg (fun e => h e.symm)]
theorem set32 (p : Nat → Nat) (k v : Nat) : (m32 p).set (0 + ((k : Nat) : Int).toNat * 1) (.int .u64 v) = m32 (fun t => if t = k then v else p t) := by
  unfold m32
  rw [map_set, Int.toNat_natCast, Nat.zero_add, Nat.mul_one]
  refine List.map_congr_left fun i _ => ?_
  by_cases h : i = k
  · rw [if_pos h]; simp only [if_pos h]
  · rw [if_neg h]; simp only [if_neg h]
theorem getD_map {f : Nat → Value} {n k : Nat} (h : k < n) : ((List.range n).map f).getD (0 + ((k : Nat) : Int).toNat * 1) undef = f k := by
  rw [Int.toNat_natCast, Nat.zero_add, Nat.mul_one, List.getD_eq_getElem?_getD, List.getElem?_map, List.getElem?_range h]
  rfl

def ptr (k : Nat) : Value := .pointer (some ⟨k, 0, none⟩)
def outL : List Nat := [2, 3, 4, 6, 8, 18, 19]
def inL : List Nat := [2, 3, 4, 6, 8, 9, 10, 18, 19, 22, 23]
def inAns (x y z lo hi i j : Nat) : List Ans := [.tst true, .at 4 (.int .i64 ((i + j : Nat) : Int)), .is 2 (.int .u64 x), .is 2 (.int .u64 y), .at 2 (.int .i64 ((i + j : Nat) : Int)), .is 1 (.int .u64 z), .res (.tuple #[.int .u64 lo, .int .u64 hi]), .at 7 (.int .i64 ((j + 1 : Nat) : Int))]
def inOk (c i j : Nat) : List Bool := [decide ((j : Int) < (c : Int)), decide (IntKind.i64.wrap ((i : Int) + (j : Int)) = ((i + j : Nat) : Int)), decide ((i : Int) < 16), decide (0 + (i : Int).toNat * 1 < 16), decide ((j : Int) < 16), decide (0 + (j : Int).toNat * 1 < 16),
  decide (IntKind.i64.wrap ((i : Int) + (j : Int)) = ((i + j : Nat) : Int)), decide (((i + j : Nat) : Int) < 32), decide (0 + ((i + j : Nat) : Int).toNat * 1 < 32), decide (((i + j : Nat) : Int) < 32), decide (0 + ((i + j : Nat) : Int).toNat * 1 < 32), decide (IntKind.i64.wrap ((j : Int) + 1) = ((j + 1 : Nat) : Int))]
def fourTo (p : Nat → Nat) (s : Nat) : Value := .agg ((List.range 16).map fun i => Value.int .u64 (p (i + s))).toArray
theorem m32_congr {p p' : Nat → Nat} (h : ∀ t, p t = p' t) : m32 p = m32 p' := by rw [funext h]
theorem wd_shift (P s i : Nat) : wd P (i + s) = wd (P / 2 ^ (64 * s)) i := by
  unfold wd
  rw [Nat.div_div_eq_div_mul, ← Nat.pow_add, show 64 * s + 64 * i = 64 * (i + s) by omega]
theorem fourTo_shift (P s : Nat) : fourTo (fun t => wd P t) s = mag (P / 2 ^ (64 * s)) := by
  unfold fourTo mag words
  refine congrArg (fun l : List Value => Value.agg l.toArray) (List.map_congr_left fun i _ => ?_)
  show Value.int .u64 ((wd P (i + s) : Nat) : Int) = _
  rw [wd_shift]
theorem T16_pow {s : Nat} (h : s = 16) : 2 ^ (64 * s) = T16 := by
  have : 64 * s = 64 * 15 + 64 := by omega
  rw [this, T16_eq, pw_eq]
theorem zeros_mag : Value.agg (List.replicate 16 (Value.int .u64 0)).toArray = mag 0 := by
  unfold mag words
  refine congrArg (fun l : List Value => Value.agg l.toArray) ?_
  have e : ∀ i, wd 0 i = 0 := fun i => by unfold wd; rw [Nat.zero_div, Nat.zero_mod]
  simp only [e]
  rfl
/-! ### Mul -/
def wmul : Option Int → Option Int → Option Int
  | some a, some b => clamp (a * b)
  | _, _ => none
theorem wmul_wf (A B : Option Int) : WF (wmul A B) := by
  unfold wmul
  split
  · exact clamp_wf _
  · intro z h; cases h
theorem sg_mul (a b : Int) : sg (a.natAbs * b.natAbs) (!(decide (a < 0) == decide (b < 0))) = a * b := by
  have ep : ∀ z : Int, z < 0 → (z.natAbs : Int) = -z := fun z h => by omega
  have en : ∀ z : Int, ¬ z < 0 → (z.natAbs : Int) = z := fun z h => by omega
  by_cases h1 : a < 0 <;> by_cases h2 : b < 0
  · rw [decide_eq_true h1, decide_eq_true h2]
    show ((a.natAbs * b.natAbs : Nat) : Int) = a * b
    rw [Int.natCast_mul, ep a h1, ep b h2, Int.neg_mul_neg]
  · rw [decide_eq_true h1, decide_eq_false h2]
    show -((a.natAbs * b.natAbs : Nat) : Int) = a * b
    rw [Int.natCast_mul, ep a h1, en b h2, Int.neg_mul, Int.neg_neg]
  · rw [decide_eq_false h1, decide_eq_true h2]
    show -((a.natAbs * b.natAbs : Nat) : Int) = a * b
    rw [Int.natCast_mul, en a h1, ep b h2, Int.mul_neg, Int.neg_neg]
  · rw [decide_eq_false h1, decide_eq_false h2]
    show ((a.natAbs * b.natAbs : Nat) : Int) = a * b
    rw [Int.natCast_mul, en a h1, en b h2]
end Go.Proofs.Ythnemimpkpkjbaa.W
/-! The program's digit and Text. -/
namespace Go.Proofs.Ythnemimpkpkjbaa.W
open Go Go.Ev Go.Wide

/-! ### digit -/
def andI (x y : Int) : Int := IntKind.u64.wrap (BitVec.ofInt 64 x &&& BitVec.ofInt 64 y).toNat
theorem andI_15 {x : Nat} (hx : x < 18446744073709551616) : andI x 15 = ((x % 16 : Nat) : Int) := by
  unfold andI
  have e1 : (BitVec.ofInt 64 (x : Int)).toNat = x := by rw [BitVec.toNat_ofInt]; omega
  have e2 : (BitVec.ofInt 64 (15 : Int)).toNat = 15 := rfl
  rw [BitVec.toNat_and, e1, e2, u64_wrap]
  have : x &&& 15 = x % 16 := Nat.and_two_pow_sub_one_eq_mod x 4
  rw [this]
  omega
/-- The hexadecimal digit at a place. -/
def hexd (N p : Nat) : Nat := N / 2 ^ (4 * p) % 16
theorem wd_hexd (N p : Nat) : wd N (p / 16) / 2 ^ (4 * (p % 16)) % 16 = hexd N p := by
  unfold wd hexd
  have e : N / 2 ^ (4 * p) = N / 2 ^ (64 * (p / 16)) / 2 ^ (4 * (p % 16)) := by
    rw [Nat.div_div_eq_div_mul, ← Nat.pow_add, show 64 * (p / 16) + 4 * (p % 16) = 4 * p by omega]
  rw [e]
  generalize N / 2 ^ (64 * (p / 16)) = Q
  have h : 4 * (p % 16) ≤ 60 := by omega
  generalize 4 * (p % 16) = k at *
  have e2 : (18446744073709551616 : Nat) = 2 ^ k * (16 * 2 ^ (60 - k)) := by
    have : (16 : Nat) = 2 ^ 4 := rfl
    rw [this, ← Nat.pow_add, ← Nat.pow_add, show k + (4 + (60 - k)) = 64 by omega]
  rw [e2, Nat.mod_mul_right_div_self, Nat.mod_mul_right_mod]
/-! ### Text -/
def hexS : ByteArray := ⟨#[48, 49, 50, 51, 52, 53, 54, 55, 56, 57, 97, 98, 99, 100, 101, 102]⟩
def chr (d : Nat) : Int := (hexS.data.getD ((d : Nat) : Int).toNat 0).toNat
def wordsB (M : Nat) (s : Bool) : List Value := (List.range 16).map (fun i => Value.int .u64 (wd M i)) ++ [Value.bool s, Value.bool false]
def txL : List Nat := [1, 4, 5]
def txN (s : Bool) : Nat := match s with | true => 3 | false => 2
def txQ (L : Nat) (s : Bool) : List Value := match s with | true => (List.replicate ((L + 1 : Nat) : Int).toNat (Value.int .u8 0)).set (0 + 0 * 1) (.int .u8 45) | false => List.replicate ((L + 1 : Nat) : Int).toNat (Value.int .u8 0)
def sLen (s : Bool) : Nat := match s with | true => 1 | false => 0
def lenI (b : Int) : Int := if IntKind.i64.wrap ((IntKind.i64.wrap (IntKind.i64.wrap (b + 4) - 1)).tdiv 4) > 1 then IntKind.i64.wrap ((IntKind.i64.wrap (IntKind.i64.wrap (b + 4) - 1)).tdiv 4) else 1
/-- The character at place t of a text: a sign, then L digits. -/
def tc (M L : Nat) (s : Bool) (t : Nat) : Int := match decide (t < sLen s) with | true => 45 | false => chr (hexd M (L - 1 - (t - sLen s)))
def txq (M L : Nat) (s : Bool) (i : Nat) : List Value := (List.range (L + 1)).map fun t => Value.int .u8 (match decide (t < sLen s + i) with | true => tc M L s t | false => 0)
theorem txq_zero (M L : Nat) (s : Bool) : txQ L s = txq M L s 0 := by
  have hrep : List.replicate ((L + 1 : Nat) : Int).toNat (Value.int .u8 0) = (List.range (L + 1)).map fun _ => Value.int .u8 0 := by
    rw [Int.toNat_natCast, List.map_const', List.length_range]
  cases s with
  | false =>
    show List.replicate _ _ = _
    rw [hrep]
    unfold txq
    refine List.map_congr_left fun t _ => ?_
    rw [decide_eq_false (show ¬ t < sLen false + 0 from Nat.not_lt_zero t)]
  | true =>
    show (List.replicate _ _).set (0 + 0 * 1) _ = _
    rw [hrep, map_set]
    unfold txq
    refine List.map_congr_left fun t _ => ?_
    by_cases h : t = 0 + 0 * 1
    · rw [if_pos h]
      subst h
      rfl
    · rw [if_neg h, decide_eq_false (show ¬ t < sLen true + 0 by simp only [sLen]; omega)]
theorem txq_succ (M L : Nat) (s : Bool) (i : Nat) : (txq M L s i).set (0 + (sLen s + i) * 1) (.int .u8 (chr (hexd M (L - 1 - i)))) = txq M L s (i + 1) := by
  unfold txq
  rw [map_set]
  refine List.map_congr_left fun t _ => ?_
  by_cases h : t = 0 + (sLen s + i) * 1
  · rw [if_pos h, decide_eq_true (by omega)]
    unfold tc
    rw [decide_eq_false (by omega), show t - sLen s = i by omega]
  · rw [if_neg h]
    by_cases h1 : t < sLen s + i
    · rw [decide_eq_true h1, decide_eq_true (by omega)]
    · rw [decide_eq_false h1, decide_eq_false (by omega)]
theorem all_ints {α : Type} (p : Value → Bool) (f : α → Int) (h : ∀ x, p (Value.int .u8 x) = true) (l : List α) : (l.map fun t => Value.int .u8 (f t)).all p = true := by
  rw [List.all_map, List.all_eq_true]
  intro t _
  exact h _
theorem txq_all (M L : Nat) (s : Bool) (i n : Nat) : (txq M L s i).all (noNew1 n) = true := all_ints _ _ (fun _ => rfl) _
theorem txq_length (M L : Nat) (s : Bool) (i : Nat) : (txq M L s i).length = L + 1 := by unfold txq; simp
theorem sLen_le (s : Bool) : sLen s ≤ 1 := by cases s <;> simp [sLen]
/-- How many hexadecimal digits a number has. -/
def hexLen (M : Nat) : Nat := if (bitLen M + 3) / 4 ≤ 1 then 1 else (bitLen M + 3) / 4
def textB : Option Int → ByteArray
  | none => ⟨#[111, 118, 101, 114]⟩
  | some z => strOf ((List.range (sLen (decide (z < 0)) + hexLen z.natAbs)).map (tc z.natAbs (hexLen z.natAbs) (decide (z < 0))))
theorem lenI_eq {b : Nat} (h : b ≤ 1023) : lenI b = ((if (b + 3) / 4 ≤ 1 then 1 else (b + 3) / 4 : Nat) : Int) := by
  unfold lenI
  have w1 : IntKind.i64.wrap ((b : Int) + 4) = b + 4 := i64_wrap (by omega) (by omega)
  have w2 : IntKind.i64.wrap ((b : Int) + 4 - 1) = b + 3 := by rw [i64_wrap (by omega) (by omega)]; omega
  have w3 : ((b : Int) + 3).tdiv 4 = (((b + 3) / 4 : Nat) : Int) := by rw [Int.tdiv_eq_ediv_of_nonneg (by omega)]; omega
  have w4 : IntKind.i64.wrap (((b + 3) / 4 : Nat) : Int) = (((b + 3) / 4 : Nat) : Int) := i64_wrap (by omega) (by omega)
  rw [w1, w2, w3, w4]
  split <;> split <;> omega
end Go.Proofs.Ythnemimpkpkjbaa.W
/-! Texts of known numbers. -/
namespace Go.Proofs.Ythnemimpkpkjbaa.W
open Go Go.Ev Go.Wide

theorem bitLen_eq {x n : Nat} (h1 : 2 ^ n ≤ x) (h2 : x < 2 ^ (n + 1)) : bitLen x = n + 1 := by
  have a := bitLen_lt_iff.2 h2
  have b : ¬ bitLen x ≤ n := fun h => by have := bitLen_lt_iff.1 h; omega
  omega
theorem text_of {z : Int} {M L : Nat} {s : Bool} (hz : z.natAbs = M) (hs : decide (z < 0) = s) (hl : hexLen M = L) : textB (some z) = strOf ((List.range (sLen s + L)).map (tc M L s)) := by
  subst hz hs hl; rfl
theorem small_T16 {x : Nat} (h : x < 18446744073709551616) : x < T16 := by
  rw [T16_eq]
  exact bitLen_pw.1 (Nat.le_trans (bitLen_lt_iff.2 (show x < 2 ^ 64 from h)) (by omega))
theorem small_Hi {x n : Nat} (h : x < 2 ^ n) (hn : n ≤ 1023) : x < Hi := bitLen_Hi.1 (Nat.le_trans (bitLen_lt_iff.2 h) hn)
end Go.Proofs.Ythnemimpkpkjbaa.W
/-! Numbers that are far from being over: the program's sums, differences and products of them are exact. -/
namespace Go.Proofs.Ythnemimpkpkjbaa.W
open Go Go.Ev Go.Wide

/-- Below 2^k without its sign. -/
def Sm (k : Nat) (z : Int) : Prop := z.natAbs < 2 ^ k
theorem Sm.mono {j k : Nat} {z : Int} (h : Sm j z) (hj : j ≤ k) : Sm k z := Nat.lt_of_lt_of_le h (Nat.pow_le_pow_right (by omega) hj)
theorem Sm.neg {k : Nat} {z : Int} (h : Sm k z) : Sm k (-z) := by unfold Sm at *; omega
theorem Sm.add {k : Nat} {a b : Int} (ha : Sm k a) (hb : Sm k b) : Sm (k + 1) (a + b) := by
  unfold Sm at *
  rw [Nat.pow_succ]
  omega
theorem Sm.sub {k : Nat} {a b : Int} (ha : Sm k a) (hb : Sm k b) : Sm (k + 1) (a - b) := by
  unfold Sm at *
  rw [Nat.pow_succ]
  omega
theorem Sm.mul {j k : Nat} {a b : Int} (ha : Sm j a) (hb : Sm k b) : Sm (j + k) (a * b) := by
  unfold Sm at *
  rw [Int.natAbs_mul, Nat.pow_add]
  exact Nat.mul_lt_mul'' ha hb
theorem Sm.hi {k : Nat} {z : Int} (h : Sm k z) (hk : k ≤ 1023 := by omega) : z.natAbs < Hi := bitLen_Hi.1 (Nat.le_trans (bitLen_lt_iff.2 h) hk)
theorem Sm.wf {k : Nat} {z : Int} (h : Sm k z) (hk : k ≤ 1023 := by omega) : WF (some z) := fun y e => by cases e; exact h.hi hk
theorem Sm.i64 {z : Int} (h0 : -9223372036854775808 ≤ z) (h1 : z ≤ 9223372036854775807) : Sm 64 z := by
  unfold Sm
  have : (2 : Nat) ^ 64 = 18446744073709551616 := by decide
  omega
/-- A number of the program that is not over. -/
def wz (z : Int) : Value := wv (some z)
theorem wz_eq (z : Int) : wz z = wR false z.natAbs (decide (z < 0)) := rfl
theorem flat_wz (z : Int) : flat (wz z) = true := flat_wv _
theorem signI_nonneg {a : Int} : (signI (some a) ≥ 0) ↔ 0 ≤ a := by
  simp only [signI]
  split
  · omega
  · split <;> omega
end Go.Proofs.Ythnemimpkpkjbaa.W
/-! The program's Int64. -/
namespace Go.Proofs.Ythnemimpkpkjbaa.W
open Go Go.Ev Go.Wide

def fits64 (z : Int) : Bool := decide (-9223372036854775808 ≤ z) && decide (z ≤ 9223372036854775807)
def wint : Option Int → Value
  | none => .tuple #[.int .i64 0, .bool false]
  | some z => match fits64 z with
    | true => .tuple #[.int .i64 z, .bool true]
    | false => .tuple #[.int .i64 0, .bool false]
def lim (s : Bool) : Int := match s with | true => 9223372036854775808 | false => 9223372036854775807
theorem i64_wrap_back (x : Int) (h0 : 0 ≤ x) (h1 : x ≤ 9223372036854775808) : IntKind.i64.wrap (IntKind.u64.wrap (0 - x)) = -x := by
  rw [u64_wrap]
  by_cases hz : x = 0
  · subst hz; rfl
  · have e : (0 - x) % 18446744073709551616 = 18446744073709551616 - x := by omega
    rw [e]
    rw [IntKind.wrap_i64]; omega
end Go.Proofs.Ythnemimpkpkjbaa.W
