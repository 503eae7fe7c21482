/-
  The program's Cmp, roundedDown, shiftUp, shiftDown, Shift.
-/
import Derived.Test.YtjmdppnhpfdhdaaWideG
import Derived.Test.YtjmdppnhpfdhdaaWideH
namespace Go.Proofs.Ytjmdppnhpfdhdaa.W
open Go Go.Ev Go.Wide

/-! ### Cmp -/
/-- -1, 0 or 1. -/
def ordI (a b : Int) : Int := if a < b then -1 else if b < a then 1 else 0
def wcmp : Option Int → Option Int → Value
  | some a, some b => .tuple #[.int .i64 (ordI a b), .bool true]
  | _, _ => .tuple #[.int .i64 0, .bool false]
theorem cmp_over_key1 (o : Bool) (N : Nat) (t : Bool) : evFn3 Try.prog Try.f75 400 [wR true 0 false, wR o N t] [] = some (true, [], .tuple #[.int .i64 0, .bool false]) := by cases o <;> kernel_rfl
theorem cmp_over_key2 (N : Nat) (t : Bool) : evFn3 Try.prog Try.f75 400 [wR false N t, wR true 0 false] [] = some (true, [], .tuple #[.int .i64 0, .bool false]) := by cases t <;> kernel_rfl
theorem cmp_ne_key (M N : Nat) (s : Bool) : evFn3 Try.prog Try.f75 400 [wR false M s, wR false N (!s)] [] = some (true, [], .tuple #[.int .i64 (match s with | true => -1 | false => 1), .bool true]) := by cases s <;> kernel_rfl
theorem cmp_pos_key (M N : Nat) (c : Int) : evFn3 Try.prog Try.f75 400 [wR false M false, wR false N false] [.res (.int .i64 c)] =
    some (true, [QC Try.prog 88 [mag M, mag N] (.int .i64 c)], .tuple #[.int .i64 c, .bool true]) := by kernel_rfl
theorem cmp_neg_key (M N : Nat) (c : Int) : evFn3 Try.prog Try.f75 400 [wR false M true, wR false N true] [.res (.int .i64 c)] =
    some (true, [QC Try.prog 88 [mag N, mag M] (.int .i64 c)], .tuple #[.int .i64 c, .bool true]) := by kernel_rfl
theorem cmp_pc {A B : Option Int} (hA : WF A) (hB : WF B) : PC Try.prog 75 [wv A, wv B] (wcmp A B) := by
  cases A with
  | none =>
    obtain ⟨o, K, s, e⟩ := wv_form B
    rw [e]
    exact PC.of_ev3 mixed Try.func75 400 [] (cmp_over_key1 o K s) (by simp [wv, flat_wR]) rfl trivial rfl rfl
  | some a =>
    cases B with
    | none => exact PC.of_ev3 mixed Try.func75 400 [] (cmp_over_key2 _ _) (by simp [flat_wv]) rfl trivial rfl rfl
    | some b =>
      have ha := hA a rfl
      have hb := hB b rfl
      have hT := Hi_T16
      have flats : [wv (some a), wv (some b)].all flat = true := by simp [flat_wv]
      show PC _ _ _ (.tuple #[.int .i64 (ordI a b), .bool true])
      by_cases h1 : a < 0 <;> by_cases h2 : b < 0
      · have hc := compare_pc (M := b.natAbs) (N := a.natAbs) (by omega) (by omega)
        have e : cmpI b.natAbs a.natAbs = ordI a b := by
          unfold cmpI ordI
          by_cases h3 : a < b
          · rw [if_pos (by omega), if_pos h3]
          · rw [if_neg (by omega), if_neg h3]
            by_cases h4 : b < a
            · rw [if_pos (by omega), if_pos h4]
            · rw [if_neg (by omega), if_neg h4]
        rw [e] at hc
        have key := cmp_neg_key a.natAbs b.natAbs (ordI a b)
        rw [wv_some, wv_some, decide_eq_true h1, decide_eq_true h2] at flats ⊢
        exact PC.of_ev3 mixed Try.func75 400 _ key flats rfl ⟨QC.of_pc enters_compare hc, trivial⟩ rfl rfl
      · have key := cmp_ne_key a.natAbs b.natAbs true
        rw [wv_some, wv_some, decide_eq_true h1, decide_eq_false h2] at flats ⊢
        refine PC.of_ev3 mixed Try.func75 400 _ key flats rfl trivial rfl ?_
        unfold ordI
        rw [if_pos (by omega)]
      · have key := cmp_ne_key a.natAbs b.natAbs false
        rw [wv_some, wv_some, decide_eq_false h1, decide_eq_true h2] at flats ⊢
        refine PC.of_ev3 mixed Try.func75 400 _ key flats rfl trivial rfl ?_
        unfold ordI
        rw [if_neg (by omega), if_pos (by omega)]
      · have hc := compare_pc (M := a.natAbs) (N := b.natAbs) (by omega) (by omega)
        have e : cmpI a.natAbs b.natAbs = ordI a b := by
          unfold cmpI ordI
          by_cases h3 : a < b
          · rw [if_pos (by omega), if_pos h3]
          · rw [if_neg (by omega), if_neg h3]
            by_cases h4 : b < a
            · rw [if_pos (by omega), if_pos h4]
            · rw [if_neg (by omega), if_neg h4]
        rw [e] at hc
        have key := cmp_pos_key a.natAbs b.natAbs (ordI a b)
        rw [wv_some, wv_some, decide_eq_false h1, decide_eq_false h2] at flats ⊢
        exact PC.of_ev3 mixed Try.func75 400 _ key flats rfl ⟨QC.of_pc enters_compare hc, trivial⟩ rfl rfl
theorem enters_cmp : ∀ us w, (callFunc 75 us).run Try.prog w = .ok (.enter 75 us) w := enters Try.func75 rfl (by kernel_rfl)

/-! ### roundedDown -/
def mag1 : Value := .agg (Value.int .u64 1 :: List.replicate 15 (Value.int .u64 0)).toArray
theorem mag1_eq : mag1 = mag 1 := by
  unfold mag1 mag words
  rw [words_small (N := 1) (by omega)]
  rfl
theorem rounded_up_key (M K L : Nat) (o t : Bool) : evFn3 Try.prog Try.f93 400 [mag M, .bool false, .bool true] [.res (mag K), .res (wR o L t)] =
    some (true, [QC Try.prog 87 [mag M, mag1] (mag K), QC Try.prog 86 [mag K, .bool true] (wR o L t)], wR o L t) := by cases o <;> kernel_rfl
theorem rounded_key (M L : Nat) (x s o t : Bool) (h : (s && !x) = false) : evFn3 Try.prog Try.f93 400 [mag M, .bool x, .bool s] [.res (wR o L t)] =
    some (true, [QC Try.prog 86 [mag M, .bool s] (wR o L t)], wR o L t) := by
  cases x <;> cases s
  · cases o <;> kernel_rfl
  · cases h
  · cases o <;> kernel_rfl
  · cases o <;> kernel_rfl
/-- The quotient's magnitude, rounded toward minus infinity. -/
def downK (M : Nat) (x s : Bool) : Nat := match s && !x with | true => M + 1 | false => M
theorem rounded_pc {M : Nat} (hM : M + 1 < T16) (x s : Bool) : PC Try.prog 93 [mag M, .bool x, .bool s] (wv (sgn (downK M x s) s)) := by
  have hfl : [mag M, .bool x, .bool s].all flat = true := by simp [flat_mag]; exact ⟨rfl, rfl⟩
  obtain ⟨o, L, t, e⟩ := wv_form (sgn (downK M x s) s)
  have hs := signed_pc (K := downK M x s) (by unfold downK; split <;> omega) s
  rw [e] at hs ⊢
  cases h : s && !x with
  | false =>
    rw [show downK M x s = M by unfold downK; rw [h]] at hs
    exact PC.of_ev3 mixed Try.func93 400 _ (rounded_key M L x s o t h) hfl rfl ⟨QC.of_pc enters_signed hs, trivial⟩ (flat_wR _ _ _) rfl
  | true =>
    rw [show downK M x s = M + 1 by unfold downK; rw [h]] at hs
    have hp := plus_pc M 1
    rw [← mag1_eq] at hp
    cases x <;> cases s <;> first | cases h | skip
    exact PC.of_ev3 mixed Try.func93 400 _ (rounded_up_key M (M + 1) L o t) hfl rfl ⟨QC.of_pc enters_plus hp, QC.of_pc enters_signed hs, trivial⟩ (flat_wR _ _ _) rfl
theorem enters_rounded : ∀ us w, (callFunc 93 us).run Try.prog w = .ok (.enter 93 us) w := enters Try.func93 rfl (by kernel_rfl)

/-! ### shiftUp, shiftDown, Shift -/
end Go.Proofs.Ytjmdppnhpfdhdaa.W
