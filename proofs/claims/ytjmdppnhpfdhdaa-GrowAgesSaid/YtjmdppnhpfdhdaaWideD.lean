/-
  The program's magnitudes: lengths, comparison, zero, signed numbers.
-/
import Derived.Test.YtjmdppnhpfdhdaaWideC
namespace Go.Proofs.Ytjmdppnhpfdhdaa.W
open Go Go.Ev Go.Wide

/-! ### wordLength, bitLength -/
/-- A magnitude of L words. -/
def magL (L : Nat) (x : Nat → Nat) : Value := .agg ((List.range 16).map fun i => Value.int .u64 (match decide (i < L) with | true => (x i : Int) | false => 0)).toArray
def wlSteps : Nat → Int → List Ans → List Ans
  | 0, _, r => r
  | n + 1, j, r => .auto :: .auto :: .at 1 (.int .i64 (j - 1)) :: wlSteps n (j - 1) r
def wlAns (L : Nat) : List Ans := wlSteps (16 - L) 16 (match L with | 0 => [] | _ + 1 => [.auto, .tst false])
def wlOk (L : Nat) (x : Nat → Nat) : List Bool := match L with | 0 => [] | k + 1 => [!((x k : Int) == 0)]
theorem le16 {L : Nat} (h : L ≤ 16) : L = 0 ∨ L = 1 ∨ L = 2 ∨ L = 3 ∨ L = 4 ∨ L = 5 ∨ L = 6 ∨ L = 7 ∨ L = 8 ∨ L = 9 ∨ L = 10 ∨ L = 11 ∨ L = 12 ∨ L = 13 ∨ L = 14 ∨ L = 15 ∨ L = 16 := by omega
theorem wordLen_key {L : Nat} (h : L ≤ 16) (x : Nat → Nat) : evFn3 Try.prog Try.f95 400 [magL L x] (wlAns L) = some (conj (wlOk L x), [], .int .i64 L) := by
  rcases le16 h with rfl | rfl | rfl | rfl | rfl | rfl | rfl | rfl | rfl | rfl | rfl | rfl | rfl | rfl | rfl | rfl | rfl <;> kernel_rfl
theorem wordLen_pcL {L : Nat} (h : L ≤ 16) {x : Nat → Nat} (hx : L ≠ 0 → x (L - 1) ≠ 0) : PC Try.prog 95 [magL L x] (.int .i64 L) := by
  refine PC.of_ev3 mixed Try.func95 400 (wlAns L) (wordLen_key h x) rfl ?_ trivial rfl rfl
  cases L with
  | zero => rfl
  | succ k =>
    have := hx (by omega)
    simp only [Nat.add_sub_cancel] at this
    simp [wlOk, conj_cons, conj_nil, this]
theorem enters_wordLen : ∀ us w, (callFunc 95 us).run Try.prog w = .ok (.enter 95 us) w := enters Try.func95 rfl (by kernel_rfl)

/-- The number of words of N. -/
def nw (N : Nat) : Nat := (bitLen N + 63) / 64
theorem lt_nw (N : Nat) : N < 2 ^ (64 * nw N) := by
  refine Nat.lt_of_lt_of_le (bitLen_spec N).1 (Nat.pow_le_pow_right (by omega) ?_)
  unfold nw; omega
theorem nw_le {N k : Nat} (h : N < 2 ^ (64 * k)) : nw N ≤ k := by
  have := bitLen_lt_iff.2 h
  unfold nw; omega
theorem bitLen_pw {x n : Nat} : bitLen x ≤ n ↔ x < pw n := by rw [pw_eq]; exact bitLen_lt_iff
theorem nw_le16 {N : Nat} (h : N < T16) : nw N ≤ 16 := by
  have := bitLen_pw.2 (T16_eq ▸ h)
  unfold nw; omega
theorem div_T16 {N : Nat} (h : N < T16) : N / 2 ^ (64 * 16) = 0 := by
  have e : ∀ n m, n = m → pw n = 2 ^ m := fun n m e => by rw [e, pw_eq]
  exact Nat.div_eq_of_lt (by rw [← e (64 * 15 + 64) (64 * 16) rfl, ← T16_eq]; exact h)
theorem nw_top {N : Nat} (h : nw N ≠ 0) : N / 2 ^ (64 * (nw N - 1)) ≠ 0 ∧ N / 2 ^ (64 * (nw N - 1)) < 18446744073709551616 := by
  have hl := bitLen_spec N
  have hn : N ≠ 0 := fun e => by subst e; exact h (by simp [nw, bitLen])
  have h2 := hl.2 hn
  constructor
  · have : 2 ^ (64 * (nw N - 1)) ≤ 2 ^ (bitLen N - 1) := Nat.pow_le_pow_right (by omega) (by unfold nw at *; omega)
    have hp : 0 < 2 ^ (64 * (nw N - 1)) := Nat.two_pow_pos _
    have := Nat.div_pos (Nat.le_trans this h2) hp
    omega
  · rw [Nat.div_lt_iff_lt_mul (Nat.two_pow_pos _)]
    have := lt_nw N
    have e : 18446744073709551616 * 2 ^ (64 * (nw N - 1)) = 2 ^ (64 * nw N) := by
      rw [show 64 * nw N = 64 + 64 * (nw N - 1) by omega, Nat.pow_add]
    omega
theorem wd_top {N : Nat} (h : nw N ≠ 0) : wd N (nw N - 1) = N / 2 ^ (64 * (nw N - 1)) := Nat.mod_eq_of_lt (nw_top h).2
theorem bitLen_nw {N : Nat} (h : nw N ≠ 0) : bitLen N = 64 * (nw N - 1) + bitLen (wd N (nw N - 1)) := by
  rw [wd_top h]
  exact bitLen_shift N _ (nw_top h).1
theorem mag_eq_magL {N : Nat} (_ : N < T16) : mag N = magL (nw N) (wd N) := by
  unfold mag magL words
  congr 2
  apply List.map_congr_left
  intro i _
  by_cases hi : i < nw N
  · simp [hi]
  · have : wd N i = 0 := wd_eq_zero (Nat.lt_of_lt_of_le (lt_nw N) (Nat.pow_le_pow_right (by omega) (by omega)))
    simp [hi, this]
theorem wordLen_pc {N : Nat} (h : N < T16) : PC Try.prog 95 [mag N] (.int .i64 (nw N)) := by
  rw [mag_eq_magL h]
  exact wordLen_pcL (nw_le16 h) fun hn => by rw [wd_top hn]; exact (nw_top hn).1

def blAns (L n : Nat) : List Ans := .res (.int .i64 L) :: (match L with | 0 => [] | _ + 1 => [.res (.int .i64 n)])
def blOb (L n : Nat) (x : Nat → Nat) : List Prop :=
  QC Try.prog 95 [magL L x] (.int .i64 L) :: (match L with | 0 => [] | k + 1 => [QC Try.prog 107 [.int .u64 (x k)] (.int .i64 n)])
def blV (L n : Nat) : Value := match L with | 0 => .int .i64 0 | k + 1 => .int .i64 (IntKind.i64.wrap ((k * 64 : Nat) + n))
theorem bitLen_key {L : Nat} (h : L ≤ 16) (n : Nat) (x : Nat → Nat) : evFn3 Try.prog Try.f97 400 [magL L x] (blAns L n) = some (true, blOb L n x, blV L n) := by
  rcases le16 h with rfl | rfl | rfl | rfl | rfl | rfl | rfl | rfl | rfl | rfl | rfl | rfl | rfl | rfl | rfl | rfl | rfl <;> kernel_rfl
theorem bitLen_pc {N : Nat} (h : N < T16) : PC Try.prog 97 [mag N] (.int .i64 (bitLen N)) := by
  have hL := nw_le16 h
  have hb : bitLen N ≤ 64 * 15 + 64 := bitLen_pw.2 (T16_eq ▸ h)
  have hw := wordLen_pc h
  rw [mag_eq_magL h] at hw ⊢
  have hfl : (blV (nw N) (bitLen (wd N (nw N - 1)))) = .int .i64 (bitLen N) := by
    unfold blV
    cases hn : nw N with
    | zero =>
      have : bitLen N = 0 := by unfold nw at hn; omega
      simp [this]
    | succ k =>
      have e := bitLen_nw (N := N) (by omega)
      rw [hn] at e
      simp only [Nat.succ_sub_one] at e ⊢
      rw [i64_wrap (by omega) (by omega)]
      congr 1
      omega
  refine PC.of_ev3 mixed Try.func97 400 (blAns (nw N) (bitLen (wd N (nw N - 1)))) (bitLen_key hL _ (wd N)) rfl rfl ⟨QC.of_pc enters_wordLen hw, ?_⟩ (by rw [hfl]; rfl) hfl
  cases hn : nw N with
  | zero => trivial
  | succ k => exact ⟨QC.of_pc enters_len64 (len64_pc (wd_lt N k)), trivial⟩
theorem enters_bitLen : ∀ us w, (callFunc 97 us).run Try.prog w = .ok (.enter 97 us) w := enters Try.func97 rfl (by kernel_rfl)

/-! ### isZero -/
def eqZ : List Nat → Bool
  | [] => true
  | x :: xs => ((x : Int) == 0) && eqZ xs
theorem isZero_key (x : Nat → Nat) : evFn3 Try.prog Try.f56 400 [magL 16 x] [] = some (true, [], .bool (eqZ ((List.range 16).map x))) := by kernel_rfl
theorem eqZ_iff : ∀ {l : List Nat}, eqZ l = true ↔ ∀ x ∈ l, x = 0
  | [] => by simp [eqZ]
  | x :: xs => by simp [eqZ, eqZ_iff]
theorem mag_eq_magL16 (N : Nat) : mag N = magL 16 (wd N) := rfl
theorem eq_zero_of_words {N : Nat} (h : N < T16) (hw : ∀ i, i < 16 → wd N i = 0) : N = 0 := by
  by_cases hn : nw N = 0
  · have := lt_nw N
    rw [hn] at this
    simpa using this
  · have h1 := nw_le16 h
    have h2 := hw (nw N - 1) (by omega)
    rw [wd_top hn] at h2
    exact absurd h2 (nw_top hn).1
theorem isZero_pc {N : Nat} (h : N < T16) : PC Try.prog 56 [mag N] (.bool (decide (N = 0))) := by
  rw [mag_eq_magL16]
  refine PC.of_ev3 mixed Try.func56 400 [] (isZero_key (wd N)) rfl rfl trivial rfl ?_
  congr 1
  rw [Bool.eq_iff_iff, eqZ_iff, decide_eq_true_eq]
  constructor
  · intro hz; exact eq_zero_of_words h fun i hi => hz _ (List.mem_map.2 ⟨i, List.mem_range.2 hi, rfl⟩)
  · rintro rfl x hx
    obtain ⟨i, _, rfl⟩ := List.mem_map.1 hx
    simp [wd]
theorem enters_isZero : ∀ us w, (callFunc 56 us).run Try.prog w = .ok (.enter 56 us) w := enters Try.func56 rfl (by kernel_rfl)

/-! ### compare -/
/-- From word 15 down, n words whose tests both fail. -/
def cmpAns : Nat → Int → List Ans → List Ans
  | 0, _, r => r
  | n + 1, j, r => .auto :: .tst false :: .tst false :: .at 1 (.int .i64 (j - 1)) :: cmpAns n (j - 1) r
def cmpOk (x y : Nat → Nat) : Nat → Nat → List Bool → List Bool
  | 0, _, r => r
  | n + 1, j, r => (!decide ((x j : Int) < y j)) :: (!decide ((x j : Int) > y j)) :: cmpOk x y n (j - 1) r
theorem le15 {L : Nat} (h : L ≤ 15) : L = 0 ∨ L = 1 ∨ L = 2 ∨ L = 3 ∨ L = 4 ∨ L = 5 ∨ L = 6 ∨ L = 7 ∨ L = 8 ∨ L = 9 ∨ L = 10 ∨ L = 11 ∨ L = 12 ∨ L = 13 ∨ L = 14 ∨ L = 15 := by omega
theorem cmp_lt_key {n : Nat} (h : n ≤ 15) (x y : Nat → Nat) : evFn3 Try.prog Try.f88 400 [magL 16 x, magL 16 y] (cmpAns n 15 [.auto, .tst true]) =
    some (conj (cmpOk x y n 15 [decide ((x (15 - n) : Int) < y (15 - n))]), [], .int .i64 (-1)) := by
  rcases le15 h with rfl | rfl | rfl | rfl | rfl | rfl | rfl | rfl | rfl | rfl | rfl | rfl | rfl | rfl | rfl | rfl <;> kernel_rfl
theorem cmp_gt_key {n : Nat} (h : n ≤ 15) (x y : Nat → Nat) : evFn3 Try.prog Try.f88 400 [magL 16 x, magL 16 y] (cmpAns n 15 [.auto, .tst false, .tst true]) =
    some (conj (cmpOk x y n 15 [!decide ((x (15 - n) : Int) < y (15 - n)), decide ((x (15 - n) : Int) > y (15 - n))]), [], .int .i64 1) := by
  rcases le15 h with rfl | rfl | rfl | rfl | rfl | rfl | rfl | rfl | rfl | rfl | rfl | rfl | rfl | rfl | rfl | rfl <;> kernel_rfl
theorem cmp_eq_key (x y : Nat → Nat) : evFn3 Try.prog Try.f88 400 [magL 16 x, magL 16 y] (cmpAns 16 15 []) = some (conj (cmpOk x y 16 15 []), [], .int .i64 0) := by kernel_rfl
theorem cmpOk_true {x y : Nat → Nat} : ∀ (n j : Nat) (r : List Bool), n ≤ j + 1 → (∀ i, i ≤ j → j < i + n → x i = y i) → conj r = true → conj (cmpOk x y n j r) = true
  | 0, _, _, _, _, h => h
  | n + 1, j, r, hn, h, hr => by
    have := h j (Nat.le_refl _) (by omega)
    simp only [cmpOk, conj_cons, this]
    rcases Nat.eq_zero_or_pos n with h0 | h0
    · subst h0; simpa [cmpOk] using hr
    · simpa using cmpOk_true n (j - 1) r (by omega) (fun i h1 h2 => h i (by omega) (by omega)) hr

theorem div_step (N j : Nat) : N / 2 ^ (64 * j) = N / 2 ^ (64 * (j + 1)) * 18446744073709551616 + wd N j := by
  unfold wd
  have e : N / 2 ^ (64 * (j + 1)) = N / 2 ^ (64 * j) / 18446744073709551616 := by rw [pow_succ64, Nat.div_div_eq_div_mul]
  rw [e]; omega
/-- Equal from word k on. -/
theorem div_eq_of_words {M N : Nat} (hM : M < T16) (hN : N < T16) : ∀ (n k : Nat), k + n = 16 → (∀ i, k ≤ i → i < 16 → wd M i = wd N i) → M / 2 ^ (64 * k) = N / 2 ^ (64 * k)
  | 0, k, hk, _ => by
    have : k = 16 := by omega
    subst this
    rw [div_T16 hM, div_T16 hN]
  | n + 1, k, hk, h => by
    rw [div_step M k, div_step N k, div_eq_of_words hM hN n (k + 1) (by omega) (fun i h1 h2 => h i (by omega) h2), h k (Nat.le_refl _) (by omega)]
/-- The first word from above in which two numbers differ. -/
theorem first_diff (x y : Nat → Nat) : ∀ n, (∀ i, n ≤ i → i < 16 → x i = y i) → n ≤ 16 → (∀ i, i < 16 → x i = y i) ∨ ∃ d, d < n ∧ x d ≠ y d ∧ ∀ i, d < i → i < 16 → x i = y i
  | 0, h, _ => .inl fun i hi => h i (by omega) hi
  | n + 1, h, hn => by
    by_cases e : x n = y n
    · rcases first_diff x y n (fun i h1 h2 => by
        by_cases hi : i = n
        · rw [hi]; exact e
        · exact h i (by omega) h2) (by omega) with h' | ⟨d, h1, h2, h3⟩
      · exact .inl h'
      · exact .inr ⟨d, by omega, h2, h3⟩
    · exact .inr ⟨n, by omega, e, fun i h1 h2 => h i (by omega) h2⟩
theorem lt_of_top {M N : Nat} (hM : M < T16) (hN : N < T16) {d : Nat} (hd : d < 16) (h : ∀ i, d < i → i < 16 → wd M i = wd N i) (hlt : wd M d < wd N d) : M < N := by
  have e := div_eq_of_words hM hN (16 - (d + 1)) (d + 1) (by omega) (fun i h1 h2 => h i (by omega) h2)
  have h1 := div_step M d
  have h2 := div_step N d
  rw [e] at h1
  have hq : M / 2 ^ (64 * d) < N / 2 ^ (64 * d) := by omega
  rcases Nat.lt_or_ge M N with h3 | h3
  · exact h3
  · have := Nat.div_le_div_right (c := 2 ^ (64 * d)) h3
    omega
/-- Numbers compared. -/
def cmpI (a b : Nat) : Int := if a < b then -1 else if b < a then 1 else 0
theorem compare_pc {M N : Nat} (hM : M < T16) (hN : N < T16) : PC Try.prog 88 [mag M, mag N] (.int .i64 (cmpI M N)) := by
  rw [mag_eq_magL16 M, mag_eq_magL16 N]
  rcases first_diff (wd M) (wd N) 16 (fun i h1 h2 => by omega) (Nat.le_refl _) with h | ⟨d, hd, hne, h⟩
  · have e := div_eq_of_words hM hN 16 0 rfl (fun i _ h2 => h i h2)
    simp at e
    subst e
    refine PC.of_ev3 mixed Try.func88 400 (cmpAns 16 15 []) (cmp_eq_key _ _) rfl (cmpOk_true 16 15 [] (by omega) (fun i h1 _ => h i (by omega)) rfl) trivial rfl ?_
    simp [cmpI]
  · have e15 : 15 - (15 - d) = d := by omega
    rcases Nat.lt_or_gt_of_ne hne with hlt | hgt
    · have key := cmp_lt_key (n := 15 - d) (by omega) (wd M) (wd N)
      rw [e15] at key
      refine PC.of_ev3 mixed Try.func88 400 _ key rfl (cmpOk_true (15 - d) 15 _ (by omega) (fun i h1 h2 => h i (by omega) (by omega)) (by simp [conj_cons, conj_nil]; omega)) trivial rfl ?_
      simp [cmpI, lt_of_top hM hN hd h hlt]
    · have key := cmp_gt_key (n := 15 - d) (by omega) (wd M) (wd N)
      rw [e15] at key
      refine PC.of_ev3 mixed Try.func88 400 _ key rfl (cmpOk_true (15 - d) 15 _ (by omega) (fun i h1 h2 => h i (by omega) (by omega)) (by simp [conj_cons, conj_nil]; omega)) trivial rfl ?_
      have := lt_of_top hN hM hd (fun i h1 h2 => (h i h1 h2).symm) hgt
      simp [cmpI, this, Nat.lt_asymm this]
theorem enters_compare : ∀ us w, (callFunc 88 us).run Try.prog w = .ok (.enter 88 us) w := enters Try.func88 rfl (by kernel_rfl)
end Go.Proofs.Ytjmdppnhpfdhdaa.W
