/-
  Laws on numbers made of parts: what they share; a quotient that every program knows.
-/
import Derived.Test.YtfgnjkjnhakihaaNum2
import Derived.Test.YtfgnjkjnhakihaaRoot
/-! Laws on numbers made of parts. -/
namespace Go.Proofs.Ytfgnjkjnhakihaa.W
open Go Go.Ev Go.Wide
def txt4 : ByteArray := ⟨#[45, 52]⟩
def txt80 : ByteArray := ⟨#[49, 48, 48, 48, 48, 48, 48, 48, 48, 48, 48, 48, 48, 48, 48, 48, 48, 48, 48, 48, 48]⟩
theorem txt4_eq : textB (some (-4)) = txt4 := by
  rw [text_of (M := 4) (L := 1) (s := true) rfl rfl (by unfold hexLen; rw [bitLen_eq (x := 4) (n := 2) (by decide) (by decide)]; rfl)]
  kernel_rfl
theorem txt80_eq : textB (some 1208925819614629174706176) = txt80 := by
  rw [text_of (M := 1208925819614629174706176) (L := 21) (s := false) rfl rfl (by unfold hexLen; rw [bitLen_eq (x := 1208925819614629174706176) (n := 80) (by decide) (by decide)]; rfl)]
  kernel_rfl
theorem enters_awakeN : ∀ us w, (callFunc 20 us).run Try.prog w = .ok (.enter 20 us) w := enters Try.func20 rfl (by kernel_rfl)
theorem awakeN : QC Try.prog 20 [] (.bool true) := by
  have h7 : WF (some (-7)) := fun z e => by cases e; exact small_Hi (n := 3) (by decide) (by omega)
  have h2 : WF (some 2) := fun z e => by cases e; exact small_Hi (n := 3) (by decide) (by omega)
  have h40 : WF (some 1099511627776) := fun z e => by cases e; exact small_Hi (n := 41) (by decide) (by omega)
  have h80 : WF (some 1208925819614629174706176) := fun z e => by cases e; exact small_Hi (n := 81) (by decide) (by omega)
  have h4 : WF (some (-4)) := fun z e => by cases e; exact small_Hi (n := 3) (by decide) (by omega)
  have o7 := of_pc (n := -7) (by omega) (by omega)
  have o2 := of_pc (n := 2) (by omega) (by omega)
  have o40 := of_pc (n := 1099511627776) (by omega) (by omega)
  have hm := mul_pc h40 h40
  have em : wmul (some 1099511627776) (some 1099511627776) = some 1208925819614629174706176 := by
    show clamp (1099511627776 * 1099511627776) = _
    exact clamp_eq (small_Hi (n := 81) (by decide) (by omega))
  rw [em] at hm
  have t4 := text_pc h4
  have t80 := text_pc h80
  rw [txt4_eq] at t4
  rw [txt80_eq] at t80
  have hd := div_qc h7 h2 (by omega)
  rw [show (-7 : Int).fdiv 2 = -4 from by decide] at hd
  exact QC.of_pc enters_awakeN (PC.run mixed Try.func20 [.res (wz (-7)), .res (wz 2), .res (errV (wz (-4)) 0), .res (.string txt4), .res (wz 1099511627776), .res (wz 1099511627776), .res (wz 1208925819614629174706176), .res (.string txt80)] rfl ts0
    (qs8 (QC.of_pc enters_of o7) (QC.of_pc enters_of o2) hd (QC.of_pc enters_text t4) (QC.of_pc enters_of o40) (QC.of_pc enters_of o40) (QC.of_pc enters_mul hm) (QC.of_pc enters_text t80)) rfl rfl (by kernel_rfl))
theorem txt0_eq : textB (some 0) = ⟨#[48]⟩ := by kernel_rfl
end Go.Proofs.Ytfgnjkjnhakihaa.W
namespace Go.Proofs.Ytfgnjkjnhakihaa.R
open Go Go.Ev Go.W32
open Go.Proofs.Ytfgnjkjnhakihaa.W (clamp WF Hi bitLen_Hi clamp_eq wadd wmul wsub wneg wshift signI I64 wv wR flat_wR)

theorem ints_no (n : Nat) (l : List Int) : (l.map (Value.int .i64)).all (noNew1 n) = true := by
  rw [List.all_map, List.all_eq_true]
  intro x _
  rfl
theorem ints_low (n : Nat) (l : List Int) : (l.map (Value.int .i64)).all (low1 n) = true := by
  rw [List.all_map, List.all_eq_true]
  intro x _
  rfl
/-- The box of a number's parts. -/
def xB (e : Bool) (j n cap : Nat) (k : Int) : Blk := ⟨(numX e j n cap k).cells.toList, 24, true⟩
def qB (q : List Value) : Blk := ⟨q, 2, false⟩
def iB (l : List Int) : Blk := intB 2 l
/-- What a number's two forms leave in the memory. -/
def wBA (A : Option Int) : Blk := ⟨(wv A).cells.toList, 29, true⟩
def rBA (A : Option Int) : Blk := ⟨(rV A).cells.toList, 32, true⟩
/-- The law's numbers, made in a memory that begins with the parts of them all. -/
theorem nOf_in {l : List Int} {j cap : Nat} {k : Int} {mem : Mem} {A : Option Int} (hl : ∀ x ∈ l, I64 x) (hk : I64 k) (hA : numA l k = A) (hC : mem[j]? = some (qB (l.map (Value.int .i64)))) : MC Try.prog 13 [numX l.isEmpty j l.length cap k] mem (numOut A) mem := hA ▸ nOf_at hl hk hC rfl
/-- A number of the program in one form, whether over or not. -/
def uW (o : Bool) (N : Nat) (s : Bool) : Value := .agg ((List.range 16).map (fun i => Value.int .u64 (Go.Wide.wd N i)) ++ [Value.bool s, Value.bool o]).toArray
def sgA : Option Int → Bool
  | none => false
  | some z => decide (z < 0)
theorem uW_eq (A : Option Int) : wv A = uW A.isNone (Go.Proofs.Ytfgnjkjnhakihaa.W.absN A) (sgA A) := by
  cases A with
  | none => kernel_rfl
  | some z => rfl
theorem rU_eq (A : Option Int) : rV A = rB (sgA A) A.isNone (Go.Proofs.Ytfgnjkjnhakihaa.W.absN A) := by
  cases A with
  | none => rfl
  | some z => rfl
def uB (o : Bool) (N : Nat) (s : Bool) : Blk := ⟨(uW o N s).cells.toList, 29, true⟩
theorem nOf_u {l : List Int} {j cap : Nat} {k : Int} {mem : Mem} (hl : ∀ x ∈ l, I64 x) (hk : I64 k) (hC : mem[j]? = some (qB (l.map (Value.int .i64)))) : MC Try.prog 13 [numX l.isEmpty j l.length cap k] mem (.tuple #[uW (numA l k).isNone (Go.Proofs.Ytfgnjkjnhakihaa.W.absN (numA l k)) (sgA (numA l k)), rB (sgA (numA l k)) (numA l k).isNone (Go.Proofs.Ytfgnjkjnhakihaa.W.absN (numA l k))]) mem := by
  have := nOf_in (cap := cap) hl hk rfl hC
  unfold numOut at this
  rw [uW_eq, rU_eq] at this
  exact this
theorem lw2 {p q : Bool} (h : p = true) (h' : q = true) : (p && (q && true)) = true := by rw [h, h']; rfl
theorem lw1 {p : Bool} (h : p = true) : (p && true) = true := by rw [h]; rfl
theorem lw3 {p q r : Bool} (h : p = true) (h' : q = true) (h'' : r = true) : (p && (q && (r && true))) = true := by rw [h, h', h'']; rfl
theorem sign_mul (a b : Int) : signI (some (a * b)) = IntKind.i64.wrap (signI (some a) * signI (some b)) := by
  show (if a * b < 0 then -1 else if a * b = 0 then 0 else (1 : Int)) = IntKind.i64.wrap ((if a < 0 then -1 else if a = 0 then 0 else (1 : Int)) * (if b < 0 then -1 else if b = 0 then 0 else (1 : Int)))
  rcases Int.lt_trichotomy a 0 with h | h | h <;> rcases Int.lt_trichotomy b 0 with h' | h' | h'
  · have := Int.mul_pos_of_neg_of_neg h h'
    rw [if_neg (by omega), if_neg (by omega), if_pos h, if_pos h']; rfl
  · subst h'
    rw [Int.mul_zero, if_pos h]; rfl
  · have := Int.mul_neg_of_neg_of_pos h h'
    rw [if_pos this, if_pos h, if_neg (by omega), if_neg (by omega)]; rfl
  · subst h
    rw [Int.zero_mul, if_pos h']; rfl
  · subst h; subst h'; rfl
  · subst h
    rw [Int.zero_mul, if_neg (show ¬ b < 0 by omega), if_neg (show ¬ b = 0 by omega)]; rfl
  · have := Int.mul_neg_of_pos_of_neg h h'
    rw [if_pos this, if_neg (by omega), if_neg (by omega), if_pos h']; rfl
  · subst h'
    rw [Int.mul_zero, if_neg (show ¬ a < 0 by omega), if_neg (show ¬ a = 0 by omega)]; rfl
  · have := Int.mul_pos h h'
    rw [if_neg (by omega), if_neg (by omega), if_neg (by omega), if_neg (by omega), if_neg (by omega), if_neg (by omega)]; rfl
theorem sign_neg (a : Int) : signI (some (-a)) = IntKind.i64.wrap (0 - signI (some a)) := by
  show (if -a < 0 then -1 else if -a = 0 then 0 else (1 : Int)) = IntKind.i64.wrap (0 - (if a < 0 then -1 else if a = 0 then 0 else (1 : Int)))
  rcases Int.lt_trichotomy a 0 with h | h | h
  · rw [if_neg (by omega), if_neg (by omega), if_pos h]; rfl
  · subst h; rfl
  · rw [if_pos (by omega), if_neg (by omega), if_neg (by omega)]; rfl
theorem wshift_up {a : Int} {r : Nat} (h : bitLen a.natAbs ≤ 400) (hr : r ≤ 310) : wshift (some a) r = some (a * 2 ^ r) ∧ WF (some (a * 2 ^ r)) ∧ (a ≠ 0 → bitLen (a * 2 ^ r).natAbs = bitLen a.natAbs + r) := by
  have hab : (a * 2 ^ r).natAbs = a.natAbs * 2 ^ r := by rw [Int.natAbs_mul, Int.natAbs_pow]; rfl
  have hlt : (a * 2 ^ r).natAbs < Hi := by
    rw [hab]
    refine bitLen_Hi.1 ?_
    by_cases h0 : a = 0
    · subst h0
      show bitLen (0 * 2 ^ r) ≤ 1023
      rw [Nat.zero_mul]
      decide
    · have := Go.Proofs.Ytfgnjkjnhakihaa.W.bitLen_shift (show a.natAbs ≠ 0 by omega) r
      omega
  refine ⟨?_, fun z e => by cases e; exact hlt, fun h0 => by rw [hab]; exact Go.Proofs.Ytfgnjkjnhakihaa.W.bitLen_shift (show a.natAbs ≠ 0 by omega) r⟩
  show (match decide ((r : Int) < 0) with | true => clamp (a / 2 ^ (-(r : Int)).toNat) | false => clamp (a * 2 ^ (r : Int).toNat)) = _
  rw [decide_eq_false (by omega), Int.toNat_natCast]
  exact clamp_eq hlt
theorem wshift_down {a : Int} {r : Nat} (h : WF (some a)) : wshift (some (a * 2 ^ r)) (-(r : Int)) = some a := by
  show (match decide (-(r : Int) < 0) with | true => clamp (a * 2 ^ r / 2 ^ (-(-(r : Int))).toNat) | false => clamp (a * 2 ^ r * 2 ^ (-(r : Int)).toNat)) = _
  by_cases hr : r = 0
  · subst hr
    rw [decide_eq_false (by omega)]
    show clamp (a * 2 ^ 0 * 2 ^ 0) = _
    rw [Int.pow_zero, Int.mul_one, Int.mul_one]
    exact clamp_eq (h a rfl)
  · rw [decide_eq_true (by omega), Int.neg_neg, Int.toNat_natCast]
    have hp : (2 : Int) ^ r ≠ 0 := by
      have : (2 : Int) ^ r = ((2 ^ r : Nat) : Int) := by push_cast; rfl
      rw [this]
      have := Nat.two_pow_pos r
      omega
    show clamp (a * 2 ^ r / 2 ^ r) = _
    rw [Int.mul_ediv_cancel _ hp]
    exact clamp_eq (h a rfl)
end Go.Proofs.Ytfgnjkjnhakihaa.R
