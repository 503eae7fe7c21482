/-
  Package root: quotients.
-/
import Derived.Test.YtjmdppnhpfdhdaaRootA
import Derived.Test.YtjmdppnhpfdhdaaEvT
namespace Go.Proofs.Ytjmdppnhpfdhdaa.W
open Go Go.Ev Go.Wide

def I64r (n : Int) : Prop := -9223372036854775808 ≤ n ∧ n ≤ 9223372036854775807
theorem div_qc {a b : Int} (ha : WF (some a)) (hb : WF (some b)) (h0 : b ≠ 0) : QC Try.prog 77 [wz a, wz b] (errV (wz (a.fdiv b)) 0) := by
  have h := div_pc ha hb
  unfold wdivV at h
  simp only at h
  rw [if_neg h0] at h
  exact QC.of_pc enters_div h
theorem div_zero {a : Int} (ha : WF (some a)) : QC Try.prog 77 [wz a, wz 0] (errV (wz 0) 1) := by
  have h := div_pc ha (B := some 0) (fun z e => by cases e; have := Hi_pos; omega)
  unfold wdivV at h
  simp only at h
  rw [if_pos trivial] at h
  exact QC.of_pc enters_div h
theorem fdiv_wf {a b : Int} (ha : WF (some a)) (h0 : b ≠ 0) : WF (some (a.fdiv b)) := fun z e => by
  cases e
  have := (fdiv_signs a b h0).2
  have := ha a rfl
  omega
theorem neg_wf {a : Int} (ha : WF (some a)) : WF (some (-a)) := fun z e => by
  cases e
  have := ha a rfl
  omega
theorem neg_qc {a : Int} (ha : WF (some a)) : QC Try.prog 73 [wz a] (wz (-a)) := QC.of_pc enters_neg (neg_pc ha)
theorem product_pc {a b : Int} (ha : I64r a) (hb : I64r b) : PC Try.prog 63 [.int .i64 a, .int .i64 b] (wz (a * b)) :=
  PC.run mixed Try.func63 [.res (wz a), .res (wz b), .res (wz (a * b))] rfl ts0 (qs3 (QC.of_pc enters_of (of_wz ha.1 ha.2)) (QC.of_pc enters_of (of_wz hb.1 hb.2)) (QC.of_pc enters_mul (mul_wz (Sm.i64 ha.1 ha.2) (Sm.i64 hb.1 hb.2)))) (flat_wz _) rfl (by kernel_rfl)
theorem enters_product : ∀ us w, (callFunc 63 us).run Try.prog w = .ok (.enter 63 us) w := enters Try.func63 rfl (by kernel_rfl)
theorem product_qc {a b : Int} (ha : I64r a) (hb : I64r b) : QC Try.prog 63 [.int .i64 a, .int .i64 b] (wz (a * b)) := QC.of_pc enters_product (product_pc ha hb)
theorem prod_wf {a b : Int} (ha : I64r a) (hb : I64r b) : WF (some (a * b)) := ((Sm.i64 ha.1 ha.2).mul (Sm.i64 hb.1 hb.2)).wf (by omega)
/-- Down and up, as int64s. -/
def mdV (z c : Int) : Value := if c = 0 then errI 0 1 else wnar (some (z.fdiv c))
def cdiv (z c : Int) : Int := -((-z).fdiv c)
def muV (z c : Int) : Value := if c = 0 then errI 0 1 else wnar (some (cdiv z c))
theorem qdown_zero {a : Int} (h : QC Try.prog 77 [wz a, wz 0] (errV (wz 0) 1)) : PC Try.prog 64 [wz a, wz 0] (errI 0 1) :=
  PC.run mixed Try.func64 [.res (errV (wz 0) 1)] (by simp [flat_wz]) ts0 (qs1 h) rfl rfl (by kernel_rfl)
theorem qdown_run {a b q r : Int} {e : Nat} (h : QC Try.prog 77 [wz a, wz b] (errV (wz q) 0)) (h2 : QC Try.prog 76 [wz q] (errI r e)) : PC Try.prog 64 [wz a, wz b] (errI r e) :=
  PC.run mixed Try.func64 [.res (errV (wz q) 0), .res (errI r e)] (by simp [flat_wz]) ts0 (qs2 h h2) rfl rfl (by kernel_rfl)
theorem qdown_pc {a b : Int} (ha : WF (some a)) (hb : WF (some b)) : PC Try.prog 64 [wz a, wz b] (mdV a b) := by
  unfold mdV
  by_cases h0 : b = 0
  · subst h0
    rw [if_pos rfl]
    exact qdown_zero (div_zero ha)
  · rw [if_neg h0]
    have hn := narrow_pc (fdiv_wf ha h0)
    obtain ⟨r, e, he⟩ := wnar_form (some (a.fdiv b))
    rw [he] at hn ⊢
    exact qdown_run (div_qc ha hb h0) (QC.of_pc enters_narrow hn)
theorem enters_qdown : ∀ us w, (callFunc 64 us).run Try.prog w = .ok (.enter 64 us) w := enters Try.func64 rfl (by kernel_rfl)
theorem qup_zero {a m : Int} (h0 : QC Try.prog 73 [wz a] (wz m)) (h : QC Try.prog 77 [wz m, wz 0] (errV (wz 0) 1)) : PC Try.prog 62 [wz a, wz 0] (errI 0 1) :=
  PC.run mixed Try.func62 [.res (wz m), .res (errV (wz 0) 1)] (by simp [flat_wz]) ts0 (qs2 h0 h) rfl rfl (by kernel_rfl)
theorem qup_run {a b m q n r : Int} {e : Nat} (h0 : QC Try.prog 73 [wz a] (wz m)) (h : QC Try.prog 77 [wz m, wz b] (errV (wz q) 0)) (h1 : QC Try.prog 73 [wz q] (wz n)) (h2 : QC Try.prog 76 [wz n] (errI r e)) : PC Try.prog 62 [wz a, wz b] (errI r e) :=
  PC.run mixed Try.func62 [.res (wz m), .res (errV (wz q) 0), .res (wz n), .res (errI r e)] (by simp [flat_wz]) ts0 (qs4 h0 h h1 h2) rfl rfl (by kernel_rfl)
theorem qup_pc {a b : Int} (ha : WF (some a)) (hb : WF (some b)) : PC Try.prog 62 [wz a, wz b] (muV a b) := by
  unfold muV cdiv
  by_cases h0 : b = 0
  · subst h0
    rw [if_pos rfl]
    exact qup_zero (neg_qc ha) (div_zero (neg_wf ha))
  · rw [if_neg h0]
    have hw := fdiv_wf (neg_wf ha) h0
    have hn := narrow_pc (neg_wf hw)
    obtain ⟨r, e, he⟩ := wnar_form (some (-((-a).fdiv b)))
    rw [he] at hn ⊢
    exact qup_run (neg_qc ha) (div_qc (neg_wf ha) hb h0) (neg_qc hw) (QC.of_pc enters_narrow hn)
theorem enters_qup : ∀ us w, (callFunc 62 us).run Try.prog w = .ok (.enter 62 us) w := enters Try.func62 rfl (by kernel_rfl)
theorem mdV_form (z c : Int) : ∃ r e, mdV z c = errI r e := by
  unfold mdV
  split
  · exact ⟨_, _, rfl⟩
  · exact wnar_form _
theorem muV_form (z c : Int) : ∃ r e, muV z c = errI r e := by
  unfold muV
  split
  · exact ⟨_, _, rfl⟩
  · exact wnar_form _
theorem md_run {a b c r : Int} {e : Nat} (h1 : QC Try.prog 63 [.int .i64 a, .int .i64 b] (wz (a * b))) (h2 : QC Try.prog 59 [.int .i64 c] (wz c)) (h3 : QC Try.prog 64 [wz (a * b), wz c] (errI r e)) :
    PC Try.prog 42 [.int .i64 a, .int .i64 b, .int .i64 c] (errI r e) :=
  PC.run mixed Try.func42 [.res (wz (a * b)), .res (wz c), .res (errI r e)] rfl ts0 (qs3 h1 h2 h3) rfl rfl (by kernel_rfl)
theorem mulDiv_pc {a b c : Int} (ha : I64r a) (hb : I64r b) (hc : I64r c) : PC Try.prog 42 [.int .i64 a, .int .i64 b, .int .i64 c] (mdV (a * b) c) := by
  have hq := qdown_pc (prod_wf ha hb) ((Sm.i64 hc.1 hc.2).wf (by omega))
  obtain ⟨r, e, he⟩ := mdV_form (a * b) c
  rw [he] at hq ⊢
  exact md_run (product_qc ha hb) (QC.of_pc enters_of (of_wz hc.1 hc.2)) (QC.of_pc enters_qdown hq)
theorem enters_mulDiv : ∀ us w, (callFunc 42 us).run Try.prog w = .ok (.enter 42 us) w := enters Try.func42 rfl (by kernel_rfl)
theorem mulDiv_qc {a b c : Int} (ha : I64r a) (hb : I64r b) (hc : I64r c) (v : Value) (h : mdV (a * b) c = v) : QC Try.prog 42 [.int .i64 a, .int .i64 b, .int .i64 c] v := h ▸ QC.of_pc enters_mulDiv (mulDiv_pc ha hb hc)
theorem mu_run {a b c r : Int} {e : Nat} (h1 : QC Try.prog 63 [.int .i64 a, .int .i64 b] (wz (a * b))) (h2 : QC Try.prog 59 [.int .i64 c] (wz c)) (h3 : QC Try.prog 62 [wz (a * b), wz c] (errI r e)) :
    PC Try.prog 41 [.int .i64 a, .int .i64 b, .int .i64 c] (errI r e) :=
  PC.run mixed Try.func41 [.res (wz (a * b)), .res (wz c), .res (errI r e)] rfl ts0 (qs3 h1 h2 h3) rfl rfl (by kernel_rfl)
theorem mulDivUp_pc {a b c : Int} (ha : I64r a) (hb : I64r b) (hc : I64r c) : PC Try.prog 41 [.int .i64 a, .int .i64 b, .int .i64 c] (muV (a * b) c) := by
  have hq := qup_pc (prod_wf ha hb) ((Sm.i64 hc.1 hc.2).wf (by omega))
  obtain ⟨r, e, he⟩ := muV_form (a * b) c
  rw [he] at hq ⊢
  exact mu_run (product_qc ha hb) (QC.of_pc enters_of (of_wz hc.1 hc.2)) (QC.of_pc enters_qup hq)
theorem enters_mulDivUp : ∀ us w, (callFunc 41 us).run Try.prog w = .ok (.enter 41 us) w := enters Try.func41 rfl (by kernel_rfl)
theorem mulDivUp_qc {a b c : Int} (ha : I64r a) (hb : I64r b) (hc : I64r c) (v : Value) (h : muV (a * b) c = v) : QC Try.prog 41 [.int .i64 a, .int .i64 b, .int .i64 c] v := h ▸ QC.of_pc enters_mulDivUp (mulDivUp_pc ha hb hc)

/-! ### Floor, Ceil, Near, for a divisor that is positive -/
theorem signI_le {q : Int} (h : 0 < q) : ¬ signI (some q) ≤ 0 := by
  simp only [signI]
  split
  · omega
  · split <;> omega
/-! ### Floors and ceilings of integers -/
theorem fdiv_bounds {z c : Int} (hc : 0 < c) : c * z.fdiv c ≤ z ∧ z < c * z.fdiv c + c := by
  rw [Int.fdiv_eq_ediv_of_nonneg _ (by omega)]
  have h1 := Int.mul_ediv_add_emod z c
  have h2 := Int.emod_nonneg z (show c ≠ 0 by omega)
  have h3 := Int.emod_lt_of_pos z hc
  omega
theorem cdiv_bounds {z c : Int} (hc : 0 < c) : z ≤ c * cdiv z c ∧ c * cdiv z c < z + c := by
  unfold cdiv
  obtain ⟨h1, h2⟩ := fdiv_bounds (z := -z) hc
  rw [Int.mul_neg]
  omega
theorem mul_lt_cancel {c p q : Int} (hc : 0 < c) (h : c * p < c * q) : p < q := Int.lt_of_mul_lt_mul_left h (by omega)
theorem fdiv_cdiv {z c : Int} (hc : 0 < c) : z.fdiv c ≤ cdiv z c ∧ cdiv z c ≤ z.fdiv c + 1 ∧ (z.fdiv c = cdiv z c ↔ z.fdiv c * c = z) := by
  obtain ⟨h1, h2⟩ := fdiv_bounds (z := z) hc
  obtain ⟨h3, h4⟩ := cdiv_bounds (z := z) hc
  generalize z.fdiv c = p at *
  generalize cdiv z c = q at *
  have e1 : c * (q + 1) = c * q + c := by rw [Int.mul_add, Int.mul_one]
  have e2 : c * (p + 2) = c * p + c + c := by rw [Int.mul_add]; omega
  have e3 : c * (p + 1) = c * p + c := by rw [Int.mul_add, Int.mul_one]
  have l1 : p < q + 1 := mul_lt_cancel hc (by omega)
  have l2 : q < p + 2 := mul_lt_cancel hc (by omega)
  refine ⟨by omega, by omega, fun h => ?_, fun h => ?_⟩
  · subst h
    rw [Int.mul_comm]
    omega
  · rw [Int.mul_comm] at h
    have : q < p + 1 := mul_lt_cancel hc (by omega)
    omega
/-- Whatever the divisor's sign. -/
theorem fdiv_cdiv_any {z c : Int} (hc : c ≠ 0) : z.fdiv c ≤ cdiv z c ∧ cdiv z c ≤ z.fdiv c + 1 ∧ (z.fdiv c = cdiv z c ↔ z.fdiv c * c = z) := by
  rcases Int.lt_or_gt_of_ne hc with h | h
  · have e1 : z.fdiv c = (-z).fdiv (-c) := (Int.neg_fdiv_neg z c).symm
    have e2 : cdiv z c = cdiv (-z) (-c) := by
      unfold cdiv
      rw [Int.neg_fdiv_neg]
    have key := fdiv_cdiv (z := -z) (c := -c) (by omega)
    rw [← e1, ← e2] at key
    refine ⟨key.1, key.2.1, key.2.2.trans ?_⟩
    rw [Int.mul_neg]
    omega
  · exact fdiv_cdiv h
theorem fdiv_mono {y z c : Int} (hc : 0 < c) (h : y ≤ z) : y.fdiv c ≤ z.fdiv c := by
  obtain ⟨h1, h2⟩ := fdiv_bounds (z := y) hc
  obtain ⟨h3, h4⟩ := fdiv_bounds (z := z) hc
  have e : c * (z.fdiv c + 1) = c * z.fdiv c + c := by rw [Int.mul_add, Int.mul_one]
  have : y.fdiv c < z.fdiv c + 1 := mul_lt_cancel hc (by omega)
  omega
theorem csq_mono {m n : Nat} (h : m ≤ n) : csq m ≤ csq n := by
  have h1 := isq_mono h
  unfold csq
  have s1 := isq_spec m
  have s2 := isq_spec n
  split <;> split
  · omega
  · rename_i h3 h4
    rcases Nat.lt_or_ge (isq m) (isq n) with h5 | h5
    · omega
    · have e : isq m = isq n := by omega
      rw [e] at h3
      omega
  · omega
  · omega
theorem csq_isq (n : Nat) : isq n ≤ csq n ∧ csq n ≤ isq n + 1 ∧ (csq n = isq n ↔ isq n * isq n = n) := by
  unfold csq
  have := isq_spec n
  split
  · exact ⟨by omega, by omega, by omega⟩
  · exact ⟨by omega, by omega, by omega⟩

/-! ### awake, masks -/
theorem upI_of {n : Int} {m : Nat} (h : csq n.toNat = m) : upI n = m := by unfold upI; rw [h]
theorem sqI_of {n : Int} {m : Nat} (h : isq n.toNat = m) : sqI n = m := by unfold sqI; rw [h]
theorem up_is {n r : Int} (h : upI n = r) (h0 : -9223372036854775808 ≤ n) (h1 : n ≤ 9223372036854775807) : QC Try.prog 40 [.int .i64 n] (.int .i64 r) := h ▸ up_qc h0 h1
/-- A number's lowest bits. -/
def andK (n m : Int) : Int := IntKind.i64.wrap (BitVec.ofInt 64 n &&& BitVec.ofInt 64 m).toNat
theorem andK_eq (n : Int) (m k : Nat) (hm : m + 1 = 2 ^ k) (hk : k ≤ 62) : andK n m = n % ((2 ^ k : Nat) : Int) := by
  unfold andK
  have hmm : m = 2 ^ k - 1 := by omega
  have hp : 2 ^ k ≤ 2 ^ 62 := Nat.pow_le_pow_right (by omega) hk
  have hp0 : 0 < 2 ^ k := Nat.two_pow_pos k
  have e62 : (2 : Nat) ^ 62 = 4611686018427387904 := by decide
  have e2 : (BitVec.ofInt 64 (m : Int)).toNat = m := by rw [BitVec.toNat_ofInt]; omega
  have e1 : (BitVec.ofInt 64 n).toNat = (n % 18446744073709551616).toNat := by rw [BitVec.toNat_ofInt]; rfl
  rw [BitVec.toNat_and, e1, e2, hmm, Nat.and_two_pow_sub_one_eq_mod]
  have e64 : (18446744073709551616 : Int) = ((2 ^ k : Nat) : Int) * ((2 ^ (64 - k) : Nat) : Int) := by
    rw [← Int.natCast_mul, ← Nat.pow_add, show k + (64 - k) = 64 by omega]
    rfl
  have hnn : 0 ≤ n % 18446744073709551616 := by omega
  have e3 : (((n % 18446744073709551616).toNat % 2 ^ k : Nat) : Int) = n % ((2 ^ k : Nat) : Int) := by
    rw [Int.natCast_emod, Int.toNat_of_nonneg hnn, e64, Int.emod_emod_of_dvd _ ⟨_, rfl⟩]
  rw [e3]
  have h1 := Int.emod_nonneg n (show ((2 ^ k : Nat) : Int) ≠ 0 by omega)
  have h2 := Int.emod_lt_of_pos n (show (0 : Int) < ((2 ^ k : Nat) : Int) by omega)
  exact i64_wrap (by omega) (by omega)
end Go.Proofs.Ytjmdppnhpfdhdaa.W
