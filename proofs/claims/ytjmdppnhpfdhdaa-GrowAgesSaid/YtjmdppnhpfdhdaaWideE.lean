/-
  The program's integers: signed, Of, Neg, Add, Sub, Cmp, Sign, Bits, Over.
-/
import Derived.Test.YtjmdppnhpfdhdaaWideD
namespace Go.Proofs.Ytjmdppnhpfdhdaa.W
open Go Go.Ev Go.Wide

/-- One more than the greatest number without its sign. -/
def Hi : Nat := pw (64 * 15 + 63)
theorem Hi_eq : Hi = pw (64 * 15 + 63) := by rw [Hi]
theorem Hi_T16 : T16 = 2 * Hi := by
  rw [T16_eq, Hi_eq, ← pw_succ]
theorem Hi_pos : 0 < Hi := by rw [Hi_eq]; exact pw_pos _
theorem bitLen_Hi {K : Nat} : bitLen K ≤ 1023 ↔ K < Hi := by rw [Hi_eq]; exact bitLen_pw

/-- An Int of the program: its words, its sign; over. -/
def wR (o : Bool) (N : Nat) (neg : Bool) : Value :=
  match o with
  | true => .agg (List.replicate 16 (Value.int .u64 0) ++ [Value.bool false, Value.bool true]).toArray
  | false => .agg ((List.range 16).map (fun i => Value.int .u64 (wd N i)) ++ [Value.bool neg, Value.bool false]).toArray
/-- A number, or over. -/
def wv : Option Int → Value
  | none => wR true 0 false
  | some z => wR false z.natAbs (decide (z < 0))
def WF (A : Option Int) : Prop := ∀ z, A = some z → z.natAbs < Hi
def clamp (z : Int) : Option Int := if z.natAbs < Hi then some z else none
theorem clamp_wf (z : Int) : WF (clamp z) := by
  intro y h
  unfold clamp at h
  split at h
  · cases h; assumption
  · cases h
def sg (K : Nat) (s : Bool) : Int := match s with | true => -(K : Int) | false => K
def sgn (K : Nat) (s : Bool) : Option Int := clamp (sg K s)
theorem flat_wR (o : Bool) (N : Nat) (s : Bool) : flat (wR o N s) = true := by cases o <;> rfl
theorem flat_wv (A : Option Int) : flat (wv A) = true := by
  cases A with
  | none => exact flat_wR true 0 false
  | some z => exact flat_wR false z.natAbs (decide (z < 0))
theorem flat_mag (N : Nat) : flat (mag N) = true := by kernel_rfl
theorem wv_some {z : Int} : wv (some z) = wR false z.natAbs (decide (z < 0)) := rfl
/-- Whatever the number: which of the two forms it has. -/
theorem wv_form (A : Option Int) : ∃ o K s, wv A = wR o K s := by
  cases A with
  | none => exact ⟨true, 0, false, rfl⟩
  | some z => exact ⟨false, z.natAbs, decide (z < 0), rfl⟩

theorem signed_over_key (K : Nat) (s : Bool) (b : Nat) : evFn3 Try.prog Try.f86 400 [mag K, .bool s] [.res (.int .i64 b), .tst true] =
    some (conj [decide ((b : Int) > 1023)], [QC Try.prog 97 [mag K] (.int .i64 b)], wR true 0 false) := by kernel_rfl
theorem signed_key (K : Nat) (s : Bool) (b : Nat) : evFn3 Try.prog Try.f86 400 [mag K, .bool s] [.res (.int .i64 b), .tst false] =
    some (conj [!decide ((b : Int) > 1023)], [QC Try.prog 97 [mag K] (.int .i64 b)], wR false K (match s with | true => decide ((b : Int) > 0) | false => false)) := by cases s <;> kernel_rfl
theorem signed_pc {K : Nat} (h : K < T16) (s : Bool) : PC Try.prog 86 [mag K, .bool s] (wv (sgn K s)) := by
  have hob : allP [QC Try.prog 97 [mag K] (.int .i64 (bitLen K))] := ⟨QC.of_pc enters_bitLen (bitLen_pc h), trivial⟩
  have hfl : [mag K, .bool s].all flat = true := by simp [flat_mag]; rfl
  have hz : (sg K s).natAbs = K := by cases s <;> simp [sg]
  by_cases hb : bitLen K ≤ 1023
  · refine PC.of_ev3 mixed Try.func86 400 _ (signed_key K s (bitLen K)) hfl (by simp [conj_cons, conj_nil]; omega) hob (flat_wR _ _ _) ?_
    unfold sgn clamp
    rw [hz, if_pos (bitLen_Hi.1 hb), wv_some, hz]
    congr 1
    have h0 : bitLen K = 0 ↔ K = 0 := by
      rw [← Nat.le_zero, bitLen_lt_iff]; simp
    cases s with
    | false => exact (decide_eq_false (by simp only [sg]; omega)).symm
    | true => simp [sg]; omega
  · refine PC.of_ev3 mixed Try.func86 400 _ (signed_over_key K s (bitLen K)) hfl (by simp [conj_cons, conj_nil]; omega) hob (flat_wR _ _ _) ?_
    unfold sgn clamp
    rw [hz, if_neg (fun h => hb (bitLen_Hi.2 h))]
    rfl
theorem enters_signed : ∀ us w, (callFunc 86 us).run Try.prog w = .ok (.enter 86 us) w := enters Try.func86 rfl (by kernel_rfl)

/-! ### Over, Bits, Sign -/
/-- The magnitude of an Int, 0 where it is over. -/
def absN : Option Int → Nat
  | none => 0
  | some z => z.natAbs
theorem absN_lt {A : Option Int} (h : WF A) : absN A < Hi := by
  cases A with
  | none => exact Hi_pos
  | some z => exact h z rfl
theorem absN_T16 {A : Option Int} (h : WF A) : absN A < T16 := by have := absN_lt h; have := Hi_T16; omega
def signI : Option Int → Int
  | none => 0
  | some z => if z < 0 then -1 else if z = 0 then 0 else 1
theorem sign_key (o : Bool) (N : Nat) (s z : Bool) : evFn3 Try.prog Try.f34 400 [wR o N s] (match o, s with | false, true => [] | _, _ => [.res (.bool z)]) =
    some (true, (match o, s with | false, true => [] | _, _ => [QC Try.prog 56 [mag (match o with | true => 0 | false => N)] (.bool z)]),
      .int .i64 (match o, s with | false, true => -1 | _, _ => match z with | true => 0 | false => 1)) := by cases o <;> cases s <;> cases z <;> kernel_rfl
theorem sign_pc {A : Option Int} (h : WF A) : PC Try.prog 34 [wv A] (.int .i64 (signI A)) := by
  have hb := isZero_pc (absN_T16 h)
  cases A with
  | none => exact PC.of_ev3 mixed Try.func34 400 _ (sign_key true 0 false true) (by simp [flat_wv]) rfl ⟨QC.of_pc enters_isZero hb, trivial⟩ rfl rfl
  | some z =>
    by_cases hz : z < 0
    · have key := sign_key false z.natAbs (decide (z < 0)) true
      rw [decide_eq_true hz] at key
      refine PC.of_ev3 mixed Try.func34 400 [] (ok := true) (obs := []) (v := .int .i64 (-1)) ?_ (by simp [flat_wv]) rfl trivial rfl ?_
      · rw [wv_some, decide_eq_true hz]; exact key
      · simp [signI, hz]
    · have key := sign_key false z.natAbs (decide (z < 0)) (decide (z.natAbs = 0))
      rw [decide_eq_false hz] at key
      refine PC.of_ev3 mixed Try.func34 400 [.res (.bool (decide (z.natAbs = 0)))] (ok := true) (obs := [QC Try.prog 56 [mag z.natAbs] (.bool (decide (z.natAbs = 0)))])
        (v := .int .i64 (match decide (z.natAbs = 0) with | true => 0 | false => 1)) ?_ (by simp [flat_wv]) rfl ⟨QC.of_pc enters_isZero hb, trivial⟩ rfl ?_
      · rw [wv_some, decide_eq_false hz]; exact key
      · simp only [signI, if_neg hz]
        by_cases h0 : z = 0
        · simp [h0]
        · simp [h0]
theorem enters_sign : ∀ us w, (callFunc 34 us).run Try.prog w = .ok (.enter 34 us) w := enters Try.func34 rfl (by kernel_rfl)

/-! ### Of -/
theorem of_neg_key (n : Int) : evFn3 Try.prog Try.f59 400 [.int .i64 n] [.tst true] =
    some (conj [decide (n < 0)], [], .agg ([Value.int .u64 (IntKind.u64.wrap (0 - IntKind.u64.wrap n))] ++ List.replicate 15 (Value.int .u64 0) ++ [Value.bool true, Value.bool false]).toArray) := by kernel_rfl
theorem of_pos_key (n : Int) : evFn3 Try.prog Try.f59 400 [.int .i64 n] [.tst false] =
    some (conj [!decide (n < 0)], [], .agg ([Value.int .u64 (IntKind.u64.wrap n)] ++ List.replicate 15 (Value.int .u64 0) ++ [Value.bool false, Value.bool false]).toArray) := by kernel_rfl
/-- A number of one word. -/
theorem words_small {N : Nat} (h : N < 18446744073709551616) : (List.range 16).map (fun i => Value.int .u64 (wd N i)) = [Value.int .u64 N] ++ List.replicate 15 (Value.int .u64 0) := by
  have h0 : wd N 0 = N := by unfold wd; simp; omega
  have hi : ∀ i, wd N (i + 1) = 0 := fun i => wd_eq_zero (Nat.lt_of_lt_of_le h (by
    have : 2 ^ 64 ≤ 2 ^ (64 * (i + 1)) := Nat.pow_le_pow_right (by omega) (by omega)
    simpa using this))
  simp only [List.range_succ_eq_map, List.range_zero, List.map_cons, List.map_nil, h0]
  simp [hi, List.replicate]
theorem of_pc {n : Int} (h0 : -9223372036854775808 ≤ n) (h1 : n ≤ 9223372036854775807) : PC Try.prog 59 [.int .i64 n] (wv (some n)) := by
  have hw : wv (some n) = .agg ([Value.int .u64 (n.natAbs : Int)] ++ List.replicate 15 (Value.int .u64 0) ++ [Value.bool (decide (n < 0)), Value.bool false]).toArray := by
    rw [wv_some]
    unfold wR
    rw [words_small (by omega)]
  by_cases hn : n < 0
  · refine PC.of_ev3 mixed Try.func59 400 [.tst true] (of_neg_key n) rfl (by simp [conj_cons, conj_nil, hn]) trivial rfl ?_
    have e : (0 - n % 18446744073709551616) % 18446744073709551616 = (n.natAbs : Int) := by omega
    rw [hw, u64_wrap, u64_wrap, decide_eq_true hn, e]
  · refine PC.of_ev3 mixed Try.func59 400 [.tst false] (of_pos_key n) rfl (by simp [conj_cons, conj_nil]; omega) trivial rfl ?_
    have e : n % 18446744073709551616 = (n.natAbs : Int) := by omega
    rw [hw, u64_wrap, decide_eq_false hn, e]
theorem enters_of : ∀ us w, (callFunc 59 us).run Try.prog w = .ok (.enter 59 us) w := enters Try.func59 rfl (by kernel_rfl)

/-! ### Neg, Add, Sub -/
def wneg : Option Int → Option Int
  | none => none
  | some z => some (-z)
theorem wneg_wf {A : Option Int} (h : WF A) : WF (wneg A) := by
  intro y hy
  cases A with
  | none => cases hy
  | some z => cases hy; have := h z rfl; omega
theorem neg_key (N K : Nat) (s s' o : Bool) : evFn3 Try.prog Try.f73 400 [wR false N s] [.res (wR o K s')] =
    some (true, [QC Try.prog 86 [mag N, .bool (!s)] (wR o K s')], wR o K s') := by cases o <;> kernel_rfl
theorem neg_over_key : evFn3 Try.prog Try.f73 400 [wR true 0 false] [] = some (true, [], wR true 0 false) := by kernel_rfl
theorem clamp_eq {z : Int} (h : z.natAbs < Hi) : clamp z = some z := if_pos h
theorem neg_pc {A : Option Int} (h : WF A) : PC Try.prog 73 [wv A] (wv (wneg A)) := by
  cases A with
  | none => exact PC.of_ev3 mixed Try.func73 400 [] neg_over_key (by simp [flat_wv]) rfl trivial (flat_wR _ _ _) rfl
  | some z =>
    have hz := h z rfl
    have hs := signed_pc (K := z.natAbs) (by have := Hi_T16; omega) (!decide (z < 0))
    have e : sgn z.natAbs (!decide (z < 0)) = some (-z) := by
      unfold sgn
      have : sg z.natAbs (!decide (z < 0)) = -z := by
        by_cases hn : z < 0
        · simp [sg, hn]; omega
        · simp [sg, hn]; omega
      rw [this, clamp_eq (by omega)]
    rw [e] at hs
    exact PC.of_ev3 mixed Try.func73 400 _ (neg_key z.natAbs (-z).natAbs (decide (z < 0)) (decide (-z < 0)) false) (by simp [flat_wv]) rfl ⟨QC.of_pc enters_signed hs, trivial⟩ (flat_wR _ _ _) rfl
theorem enters_neg : ∀ us w, (callFunc 73 us).run Try.prog w = .ok (.enter 73 us) w := enters Try.func73 rfl (by kernel_rfl)

def wadd : Option Int → Option Int → Option Int
  | some a, some b => clamp (a + b)
  | _, _ => none
theorem wadd_wf (A B : Option Int) : WF (wadd A B) := by
  unfold wadd
  split
  · exact clamp_wf _
  · intro z h; cases h
theorem add_over_key1 (o : Bool) (N : Nat) (t : Bool) : evFn3 Try.prog Try.f72 400 [wR true 0 false, wR o N t] [] = some (true, [], wR true 0 false) := by cases o <;> kernel_rfl
theorem add_over_key2 (N : Nat) (t : Bool) : evFn3 Try.prog Try.f72 400 [wR false N t, wR true 0 false] [] = some (true, [], wR true 0 false) := by kernel_rfl
theorem add_same_key (M N K : Nat) (s s' o : Bool) : evFn3 Try.prog Try.f72 400 [wR false M s, wR false N s] [.res (mag (M + N)), .res (wR o K s')] =
    some (true, [QC Try.prog 87 [mag M, mag N] (mag (M + N)), QC Try.prog 86 [mag (M + N), .bool s] (wR o K s')], wR o K s') := by cases o <;> cases s <;> kernel_rfl
theorem add_ge_key (M N K : Nat) (s s' o c : Bool) : evFn3 Try.prog Try.f72 400 [wR false M s, wR false N (!s)] [.res (.int .i64 (match c with | true => 1 | false => 0)), .res (mag (M - N)), .res (wR o K s')] =
    some (true, [QC Try.prog 88 [mag M, mag N] (.int .i64 (match c with | true => 1 | false => 0)), QC Try.prog 89 [mag M, mag N] (mag (M - N)), QC Try.prog 86 [mag (M - N), .bool s] (wR o K s')], wR o K s') := by cases o <;> cases s <;> cases c <;> kernel_rfl
theorem add_lt_key (M N K : Nat) (s s' o : Bool) : evFn3 Try.prog Try.f72 400 [wR false M s, wR false N (!s)] [.res (.int .i64 (-1)), .res (mag (N - M)), .res (wR o K s')] =
    some (true, [QC Try.prog 88 [mag M, mag N] (.int .i64 (-1)), QC Try.prog 89 [mag N, mag M] (mag (N - M)), QC Try.prog 86 [mag (N - M), .bool (!s)] (wR o K s')], wR o K s') := by cases o <;> cases s <;> kernel_rfl
theorem enters_plus : ∀ us w, (callFunc 87 us).run Try.prog w = .ok (.enter 87 us) w := enters Try.func87 rfl (by kernel_rfl)
theorem enters_minus : ∀ us w, (callFunc 89 us).run Try.prog w = .ok (.enter 89 us) w := enters Try.func89 rfl (by kernel_rfl)
theorem add_pc {A B : Option Int} (hA : WF A) (hB : WF B) : PC Try.prog 72 [wv A, wv B] (wv (wadd A B)) := by
  cases A with
  | none =>
    obtain ⟨o, K, s, e⟩ := wv_form B
    rw [e]
    exact PC.of_ev3 mixed Try.func72 400 [] (add_over_key1 o K s) (by simp [wv, flat_wR]) rfl trivial (flat_wR _ _ _) rfl
  | some a =>
    cases B with
    | none => exact PC.of_ev3 mixed Try.func72 400 [] (add_over_key2 _ _) (by simp [flat_wv]) rfl trivial (flat_wR _ _ _) rfl
    | some b =>
      have ha := hA a rfl
      have hb := hB b rfl
      have hT := Hi_T16
      have flats : [wv (some a), wv (some b)].all flat = true := by simp [flat_wv]
      obtain ⟨o, K, s', e⟩ := wv_form (wadd (some a) (some b))
      by_cases hsame : decide (a < 0) = decide (b < 0)
      · have hs := signed_pc (K := a.natAbs + b.natAbs) (by omega) (decide (a < 0))
        have e2 : sgn (a.natAbs + b.natAbs) (decide (a < 0)) = wadd (some a) (some b) := by
          show clamp _ = clamp _
          refine congrArg clamp ?_
          by_cases hn : a < 0
          · simp [sg, hn] at hsame ⊢; omega
          · simp [sg, hn] at hsame ⊢; omega
        rw [e2, e] at hs
        have key := add_same_key a.natAbs b.natAbs K (decide (a < 0)) s' o
        rw [wv_some, wv_some, ← hsame] at flats ⊢
        exact PC.of_ev3 mixed Try.func72 400 _ key flats rfl ⟨QC.of_pc enters_plus (plus_pc _ _), QC.of_pc enters_signed hs, trivial⟩ (flat_wR _ _ _) e.symm
      · have hne : decide (b < 0) = !decide (a < 0) := by cases h1 : decide (a < 0) <;> cases h2 : decide (b < 0) <;> simp_all
        have hc := compare_pc (M := a.natAbs) (N := b.natAbs) (by omega) (by omega)
        by_cases hlt : a.natAbs < b.natAbs
        · have hs := signed_pc (K := b.natAbs - a.natAbs) (by omega) (!decide (a < 0))
          have e2 : sgn (b.natAbs - a.natAbs) (!decide (a < 0)) = wadd (some a) (some b) := by
            show clamp _ = clamp _
            refine congrArg clamp ?_
            by_cases hn : a < 0
            · simp [sg, hn] at hne ⊢; omega
            · simp [sg, hn] at hne ⊢; omega
          rw [e2, e] at hs
          have hc' : cmpI a.natAbs b.natAbs = -1 := by simp [cmpI, hlt]
          rw [hc'] at hc
          have key := add_lt_key a.natAbs b.natAbs K (decide (a < 0)) s' o
          rw [wv_some, wv_some, hne] at flats ⊢
          exact PC.of_ev3 mixed Try.func72 400 _ key flats rfl ⟨QC.of_pc enters_compare hc, QC.of_pc enters_minus (minus_pc (by omega)), QC.of_pc enters_signed hs, trivial⟩ (flat_wR _ _ _) e.symm
        · have hs := signed_pc (K := a.natAbs - b.natAbs) (by omega) (decide (a < 0))
          have e2 : sgn (a.natAbs - b.natAbs) (decide (a < 0)) = wadd (some a) (some b) := by
            show clamp _ = clamp _
            refine congrArg clamp ?_
            by_cases hn : a < 0
            · simp [sg, hn] at hne ⊢; omega
            · simp [sg, hn] at hne ⊢; omega
          rw [e2, e] at hs
          have hc' : cmpI a.natAbs b.natAbs = (match decide (b.natAbs < a.natAbs) with | true => 1 | false => 0) := by
            by_cases h2 : b.natAbs < a.natAbs <;> simp [cmpI, hlt, h2]
          rw [hc'] at hc
          have key := add_ge_key a.natAbs b.natAbs K (decide (a < 0)) s' o (decide (b.natAbs < a.natAbs))
          rw [wv_some, wv_some, hne] at flats ⊢
          exact PC.of_ev3 mixed Try.func72 400 _ key flats rfl ⟨QC.of_pc enters_compare hc, QC.of_pc enters_minus (minus_pc (by omega)), QC.of_pc enters_signed hs, trivial⟩ (flat_wR _ _ _) e.symm
theorem enters_add : ∀ us w, (callFunc 72 us).run Try.prog w = .ok (.enter 72 us) w := enters Try.func72 rfl (by kernel_rfl)

def wsub (A B : Option Int) : Option Int := wadd A (wneg B)
theorem sub_key (o1 o2 o3 o4 : Bool) (M N K L : Nat) (s t u q : Bool) : evFn3 Try.prog Try.f60 400 [wR o1 M s, wR o2 N t] [.res (wR o3 K u), .res (wR o4 L q)] =
    some (true, [QC Try.prog 73 [wR o2 N t] (wR o3 K u), QC Try.prog 72 [wR o1 M s, wR o3 K u] (wR o4 L q)], wR o4 L q) := by
  cases o1 <;> cases o2 <;> cases o3 <;> cases o4 <;> kernel_rfl
theorem sub_pc {A B : Option Int} (hA : WF A) (hB : WF B) : PC Try.prog 60 [wv A, wv B] (wv (wsub A B)) := by
  obtain ⟨o1, M, s, e1⟩ := wv_form A
  obtain ⟨o2, N, t, e2⟩ := wv_form B
  obtain ⟨o3, K, u, e3⟩ := wv_form (wneg B)
  obtain ⟨o4, L, q, e4⟩ := wv_form (wsub A B)
  have h1 := neg_pc hB
  have h2 := add_pc hA (wneg_wf hB)
  rw [show wadd A (wneg B) = wsub A B from rfl] at h2
  rw [e2, e3] at h1
  rw [e1, e3, e4] at h2
  rw [e1, e2, e4]
  exact PC.of_ev3 mixed Try.func60 400 _ (sub_key o1 o2 o3 o4 M N K L s t u q) (by simp [flat_wR]) rfl ⟨QC.of_pc enters_neg h1, QC.of_pc enters_add h2, trivial⟩ (flat_wR _ _ _) rfl
theorem enters_sub : ∀ us w, (callFunc 60 us).run Try.prog w = .ok (.enter 60 us) w := enters Try.func60 rfl (by kernel_rfl)
end Go.Proofs.Ytjmdppnhpfdhdaa.W
