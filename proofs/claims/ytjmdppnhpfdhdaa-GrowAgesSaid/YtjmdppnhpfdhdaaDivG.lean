/-
  The program's squareRoot, Div, Sqrt.
-/
import Derived.Test.YtjmdppnhpfdhdaaDivF
import Derived.Test.YtjmdppnhpfdhdaaWideI
import Derived.Test.YtjmdppnhpfdhdaaWideT
namespace Go.Ev
section
variable {P : Program}
def evK4 (P : Program) (c : Code) (fuel : Nat) (live : List Nat) (n : Nat) (S : St) (ans : List Ans) : Option (Bool × Prop × Exit × St) :=
  match evK P c fuel live n S ans with
  | some (a, b, x, y) => some (a, allP b, x, y)
  | none => none
theorem Tri.runK (hm : P.follows .mixedOrders = true) {c : Code} (live : List Nat) (n : Nat) (ans : List Ans) {S S' : St} {x : Exit} {X : Bool} {A : Prop} (hx : X = true) (ha : A) (e : evK4 P c 400 live n S ans = some (X, A, x, S')) : Tri P c S (to x S') := by
  unfold evK4 at e
  split at e
  · rename_i a b y s he
    cases e
    exact Tri.of_evK hm 400 live n ans he hx ha
  · cases e
end
end Go.Ev
namespace Go.Proofs.Ytjmdppnhpfdhdaa.W
open Go Go.Ev Go.Wide

/-! ### Roots of natural numbers -/
def isq : Nat → Nat
  | 0 => 0
  | n + 1 => if (isq n + 1) * (isq n + 1) ≤ n + 1 then isq n + 1 else isq n
theorem isq_spec : ∀ n, isq n * isq n ≤ n ∧ n < (isq n + 1) * (isq n + 1)
  | 0 => by simp [isq]
  | n + 1 => by
    obtain ⟨h1, h2⟩ := isq_spec n
    unfold isq
    split
    · rename_i h
      refine ⟨h, ?_⟩
      have e : (isq n + 1 + 1) * (isq n + 1 + 1) = (isq n + 1) * (isq n + 1) + (isq n + 1) + (isq n + 1) + 1 := by
        rw [Nat.mul_add, Nat.add_mul, Nat.mul_one, Nat.one_mul]
        omega
      omega
    · exact ⟨by omega, by omega⟩
theorem sq_lt_of_lt {a b : Nat} (h : a < b) : a * a < b * b := Nat.mul_lt_mul'' h h
theorem sq_le_of_le {a b : Nat} (h : a ≤ b) : a * a ≤ b * b := Nat.mul_le_mul h h
theorem isq_le {n a : Nat} (h : a * a ≤ n) : a ≤ isq n := by
  have h2 := (isq_spec n).2
  rcases Nat.lt_or_ge (isq n) a with h1 | h1
  · have := sq_le_of_le (show isq n + 1 ≤ a from h1)
    omega
  · exact h1
theorem isq_eq {n a : Nat} (h1 : a * a ≤ n) (h2 : n < (a + 1) * (a + 1)) : isq n = a := by
  have h := isq_le h1
  have hs := (isq_spec n).1
  rcases Nat.lt_or_ge a (isq n) with h3 | h3
  · have := sq_le_of_le (show a + 1 ≤ isq n from h3)
    omega
  · omega
theorem isq_mono {m n : Nat} (h : m ≤ n) : isq m ≤ isq n := isq_le (Nat.le_trans (isq_spec m).1 h)
theorem isq_self (n : Nat) : isq n ≤ n := by
  have := (isq_spec n).1
  rcases Nat.eq_zero_or_pos (isq n) with h | h
  · omega
  · have := Nat.mul_le_mul_left (isq n) (show 1 ≤ isq n from h)
    omega
/-- One step of Newton's, from above. -/
theorem newton {N r s : Nat} (hr : 0 < r) (hs : s * s ≤ N) (hs2 : N < (s + 1) * (s + 1)) (h : s ≤ r) : s ≤ (r + N / r) / 2 ∧ (¬ (r + N / r) / 2 < r → r = s) := by
  constructor
  · obtain ⟨k, rfl⟩ : ∃ k, r = s + k := ⟨r - s, by omega⟩
    rcases Nat.lt_or_ge s k with h1 | h1
    · generalize N / (s + k) = q
      omega
    · obtain ⟨j, rfl⟩ : ∃ j, s = k + j := ⟨s - k, by omega⟩
      have : j ≤ N / (k + j + k) := by
        rw [Nat.le_div_iff_mul_le hr]
        refine Nat.le_trans ?_ hs
        have e1 : j * (k + j + k) = j * k + j * j + j * k := by rw [Nat.mul_add, Nat.mul_add]
        have e2 : (k + j) * (k + j) = k * k + j * k + (k * j + j * j) := by rw [Nat.mul_add, Nat.add_mul, Nat.add_mul]
        have e3 : k * j = j * k := Nat.mul_comm _ _
        omega
      generalize N / (k + j + k) = q at *
      omega
  · intro h1
    have h2 : r ≤ N / r := by omega
    have h3 := (Nat.le_div_iff_mul_le hr).1 h2
    rcases Nat.lt_or_ge s r with h4 | h4
    · have := sq_le_of_le (show s + 1 ≤ r from h4)
      omega
    · omega

/-! ### squareRoot -/
def srS (N : Nat) (R : List Value) (r : Nat) : St := ⟨slots 32 [(1, ptr 0), (2, ptr 1), (3, ptr 2)], [⟨words N, 58, true⟩, ⟨R, 58, true⟩, ⟨words r, 58, true⟩]⟩
def srL : List Nat := [1, 2, 3]
def zero16 : List Value := List.replicate 16 (.int .u64 0)
theorem sr_stop {N r q b : Nat} {x : Bool} {c : Int} (hc : c ≥ 0) (h1 : QC Try.prog 92 [mag N, mag r] (.tuple #[mag q, .bool x])) (h2 : QC Try.prog 87 [mag r, mag q] (mag (r + q)))
    (h3 : QC Try.prog 101 [mag (r + q), .int .i64 1] (mag b)) (h4 : QC Try.prog 88 [mag b, mag r] (.int .i64 c)) :
    Tri Try.prog (loopN Try.f90 0) (srS N zero16 r) (to .ret (srS N (words r) r)) :=
  Tri.runK mixed srL 3 [.res (.tuple #[mag q, .bool x]), .res (mag (r + q)), .res (mag b), .res (.int .i64 c), .tst true] (tsC (tT hc) ts0) (qs4 h1 h2 h3 h4) (by kernel_rfl)
theorem sr_go {N r q b : Nat} {x : Bool} {c : Int} (hc : ¬ c ≥ 0) (h1 : QC Try.prog 92 [mag N, mag r] (.tuple #[mag q, .bool x])) (h2 : QC Try.prog 87 [mag r, mag q] (mag (r + q)))
    (h3 : QC Try.prog 101 [mag (r + q), .int .i64 1] (mag b)) (h4 : QC Try.prog 88 [mag b, mag r] (.int .i64 c)) :
    Tri Try.prog (loopN Try.f90 0) (srS N zero16 r) (to .normal (srS N zero16 b)) :=
  Tri.runK mixed srL 3 [.res (.tuple #[mag q, .bool x]), .res (mag (r + q)), .res (mag b), .res (.int .i64 c), .tst false] (tsC (tF hc) ts0) (qs4 h1 h2 h3 h4) (by kernel_rfl)
theorem sr_loop {N : Nat} (hN : N < Hi) (h0 : 0 < N) : ∀ n r, r = n → isq N ≤ r → r < Hi → TriL Try.prog (loopN Try.f90 0) (srS N zero16 r) (to .ret (srS N (words (isq N)) (isq N))) := by
  intro n
  induction n using Nat.strongRecOn with
  | _ n ih =>
    intro r hrn hs hr
    subst hrn
    obtain ⟨s1, s2⟩ := isq_spec N
    have hs0 : 0 < isq N := by
      rcases Nat.eq_zero_or_pos (isq N) with e | e
      · rw [e] at s2; omega
      · exact e
    have hr0 : 0 < r := by omega
    obtain ⟨n1, n2⟩ := newton hr0 s1 s2 hs
    have hT := Hi_T16
    have hq : N / r ≤ N := Nat.div_le_self _ _
    have hd := dividedBy_pc (M := N) (N := r) (by omega) (by omega) (by omega)
    have hp := plus_pc r (N / r)
    have hdn := shiftedDown_pc (N := r + N / r) (c := 1) (by omega) (by omega)
    rw [Nat.pow_one] at hdn
    have hc := compare_pc (M := (r + N / r) / 2) (N := r) (by omega) (by omega)
    by_cases h : (r + N / r) / 2 < r
    · have hneg : ¬ cmpI ((r + N / r) / 2) r ≥ 0 := by unfold cmpI; rw [if_pos h]; omega
      exact TriL.next (sr_go hneg (QC.of_pc enters_divided hd) (QC.of_pc enters_plus hp) (QC.of_pc enters_shiftedDown hdn) (QC.of_pc enters_compare hc)) (ih _ h _ rfl n1 (by omega))
    · have hpos : cmpI ((r + N / r) / 2) r ≥ 0 := by unfold cmpI; rw [if_neg h]; split <;> omega
      have e := n2 h
      have key := sr_stop hpos (QC.of_pc enters_divided hd) (QC.of_pc enters_plus hp) (QC.of_pc enters_shiftedDown hdn) (QC.of_pc enters_compare hc)
      rw [← e]
      exact TriL.out (by simp) key
theorem sqrt_zero {N : Nat} (h : QC Try.prog 56 [mag N] (.bool true)) : PC Try.prog 90 [mag N] (mag N) :=
  PC.run mixed Try.func90 [.res (.bool true)] (by simp [flat_mag]) ts0 (qs1 h) (flat_mag _) rfl (by kernel_rfl)
theorem sqrt_run {N b k r s : Nat} (hk : IntKind.i64.wrap ((IntKind.i64.wrap ((b : Int) + 1)).tdiv 2) = k) (h : QC Try.prog 56 [mag N] (.bool false)) (h1 : QC Try.prog 97 [mag N] (.int .i64 b))
    (h2 : QC Try.prog 100 [mag1, .int .i64 k] (mag r)) (hl : TriL Try.prog (loopN Try.f90 0) (srS N zero16 r) (to .ret (srS N (words s) s))) :
    PC Try.prog 90 [mag N] (mag s) :=
  PC.run mixed Try.func90 [.res (.bool false), .res (.int .i64 b), .at 2 (.int .i64 k), .res (mag r), .cut srL .ret (srS N (words s) s)] (by simp [flat_mag]) (tsC (tT hk) ts0) (qs4 h h1 h2 hl) (flat_mag _) rfl (by kernel_rfl)
theorem squareRoot_pc {N : Nat} (hN : N < Hi) : PC Try.prog 90 [mag N] (mag (isq N)) := by
  have hT := Hi_T16
  have hz := isZero_pc (N := N) (by omega)
  by_cases h0 : N = 0
  · subst h0
    exact sqrt_zero (QC.of_pc enters_isZero hz)
  · rw [decide_eq_false h0] at hz
    have hb := bitLen_pc (N := N) (by omega)
    have hbl : bitLen N ≤ 1023 := bitLen_Hi.2 hN
    have h1T : 1 < T16 := small_T16 (by omega)
    have hup := shiftedUp_pc (N := 1) (c := (bitLen N + 1) / 2) h1T (by omega)
    rw [Nat.one_mul, ← mag1_eq] at hup
    have hHi : 2 ^ ((bitLen N + 1) / 2) < Hi := small_Hi (n := (bitLen N + 1) / 2 + 1) (Nat.pow_lt_pow_right (by omega) (by omega)) (by omega)
    have hge : isq N ≤ 2 ^ ((bitLen N + 1) / 2) := by
      rcases Nat.lt_or_ge (2 ^ ((bitLen N + 1) / 2)) (isq N) with h | h
      · exfalso
        have h1 := sq_le_of_le (Nat.le_of_lt h)
        rw [← Nat.pow_add] at h1
        have h2 := (bitLen_spec N).1
        have h3 : 2 ^ bitLen N ≤ 2 ^ ((bitLen N + 1) / 2 + (bitLen N + 1) / 2) := Nat.pow_le_pow_right (by omega) (by omega)
        have := (isq_spec N).1
        omega
      · exact h
    refine sqrt_run (b := bitLen N) (k := (bitLen N + 1) / 2) ?_ (QC.of_pc enters_isZero hz) (QC.of_pc enters_bitLen hb) (QC.of_pc enters_shiftedUp hup) (sr_loop hN (by omega) _ _ rfl hge hHi)
    have w1 : IntKind.i64.wrap ((bitLen N : Int) + 1) = (bitLen N : Int) + 1 := i64_wrap (by omega) (by omega)
    rw [w1, Int.tdiv_eq_ediv_of_nonneg (by omega), i64_wrap (by omega) (by omega)]
    omega
theorem enters_squareRoot : ∀ us w, (callFunc 90 us).run Try.prog w = .ok (.enter 90 us) w := enters Try.func90 rfl (by kernel_rfl)

/-! ### Sqrt -/
def errV (v : Value) (e : Nat) : Value := .tuple #[v, .int .i64 e]
def wsqrtV : Option Int → Value
  | none => errV (wv (some 0)) 2
  | some z => if z < 0 then errV (wv (some 0)) 1 else errV (wv (some (isq z.natAbs : Nat))) 0
theorem wv_zero : wv (some 0) = wR false 0 false := rfl
theorem wv_none : wv none = wR true 0 false := rfl
theorem sqrtO : PC Try.prog 74 [wR true 0 false] (errV (wR false 0 false) 2) :=
  PC.run mixed Try.func74 [] (by simp [flat_wR]) ts0 qs0 (by kernel_rfl) rfl (by kernel_rfl)
theorem sqrtN {K : Nat} : PC Try.prog 74 [wR false K true] (errV (wR false 0 false) 1) :=
  PC.run mixed Try.func74 [] (by simp [flat_wR]) ts0 qs0 (by kernel_rfl) rfl (by kernel_rfl)
theorem sqrtP {K s : Nat} (h : QC Try.prog 90 [mag K] (mag s)) : PC Try.prog 74 [wR false K false] (errV (wR false s false) 0) :=
  PC.run mixed Try.func74 [.res (mag s)] (by simp [flat_wR]) ts0 (qs1 h) (by kernel_rfl) rfl (by kernel_rfl)
theorem wv_nat (n : Nat) : wv (some (n : Int)) = wR false n false := by
  rw [wv_some, decide_eq_false (by omega), Int.natAbs_natCast]
theorem sqrt_pc {A : Option Int} (hA : WF A) : PC Try.prog 74 [wv A] (wsqrtV A) := by
  cases A with
  | none =>
    unfold wsqrtV
    rw [wv_zero, wv_none]
    exact sqrtO
  | some z =>
    unfold wsqrtV
    simp only
    by_cases h : z < 0
    · rw [if_pos h, wv_some (z := z), decide_eq_true h, wv_zero]
      exact sqrtN
    · rw [if_neg h, wv_some (z := z), decide_eq_false h, wv_nat]
      exact sqrtP (QC.of_pc enters_squareRoot (squareRoot_pc (hA z rfl)))
theorem enters_sqrt : ∀ us w, (callFunc 74 us).run Try.prog w = .ok (.enter 74 us) w := enters Try.func74 rfl (by kernel_rfl)
end Go.Proofs.Ytjmdppnhpfdhdaa.W
