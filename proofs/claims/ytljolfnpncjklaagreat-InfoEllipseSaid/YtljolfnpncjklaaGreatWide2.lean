/-
  The program's shiftedUp.
  The program's shiftedDown.
  The program's Cmp, roundedDown, shiftUp, shiftDown, Shift.
  The program's Shift.
  The program's times: two loops.
  The program's digit and Text.
  Texts of known numbers.
  Numbers that are far from being over: the program's sums, differences and products of them are exact.
  The program's Int64.
-/
import Derived.Test.YtljolfnpncjklaaGreatWide1
/-! The program's shiftedUp. -/
namespace Go.Proofs.YtljolfnpncjklaaGreat.W
open Go Go.Ev Go.Wide

/-! ### shiftedUp -/
def upWord (r : Int) (x : Nat → Nat) : Nat → Int
  | 0 => shlI (x 0) r
  | d + 1 => orI (shlI (x (d + 1)) r) (shrI (x d) (restI r))
def upV (s : Nat) (r : Int) (x : Nat → Nat) : Value := .agg ((List.range 16).map fun i => Value.int .u64 (match decide (i < s) with | true => 0 | false => upWord r x (i - s))).toArray
def upSteps : Nat → Nat → List Ans
  | 0, _ => []
  | n + 1, i => .at 32 (.int .i64 ((i : Nat) : Int)) :: upSteps n (i + 1)
def upAns (s : Nat) (r : Int) : List Ans := .at 4 (.int .i64 (s : Int)) :: .at 1 (.int .i64 r) :: .at 20 (.int .i64 ((s + 1 : Nat) : Int)) :: upSteps (15 - s) (s + 2)
def upOk : Nat → Int → List Bool
  | 0, _ => []
  | n + 1, r => (!decide (r < 0)) :: (!decide (restI r < 0)) :: upOk n r
theorem up_key {s : Nat} (h : s ≤ 15) (c r : Int) (x : Nat → Nat) : evFn3 Tryz.prog Tryz.f84 400 [magL 16 x, .int .i64 c] (upAns s r) =
    some (conj (decide (IntKind.i64.wrap (c.tdiv 64) = (s : Int)) :: decide (c.tmod 64 = r) :: (!decide (r < 0)) :: upOk (15 - s) r), [], upV s r x) := by
  rcases le15 h with rfl | rfl | rfl | rfl | rfl | rfl | rfl | rfl | rfl | rfl | rfl | rfl | rfl | rfl | rfl | rfl <;> kernel_rfl
theorem upOk_true {r : Nat} (h : r < 64) : ∀ n, conj (upOk n r) = true
  | 0 => rfl
  | n + 1 => by
    have h1 : (!decide ((r : Int) < 0)) = true := by rw [decide_eq_false (by omega)]; rfl
    have h2 : (!decide (restI (r : Int) < 0)) = true := by rw [restI_eq (by omega), decide_eq_false (by omega)]; rfl
    rw [upOk, conj_cons, conj_cons, upOk_true h n, h1, h2]; rfl
theorem shiftedUp_pc {N c : Nat} (_ : N < T16) (hc : c < 1024) : PC Tryz.prog 84 [mag N, .int .i64 c] (mag (N * 2 ^ c)) := by
  have hr : c % 64 < 64 := Nat.mod_lt _ (by omega)
  have key := up_key (s := c / 64) (by omega) (c : Int) ((c % 64 : Nat) : Int) (wd N)
  rw [← mag_eq_magL16] at key
  refine PC.of_ev3 mixed Tryz.func84 400 _ key (by simp [flat_mag]; rfl) ?_ trivial rfl ?_
  · have e1 : (c : Int).tdiv 64 = ((c / 64 : Nat) : Int) := by rw [Int.tdiv_eq_ediv_of_nonneg (by omega)]; rfl
    have e2 : (c : Int).tmod 64 = ((c % 64 : Nat) : Int) := by rw [Int.tmod_eq_emod_of_nonneg (by omega)]; rfl
    have h1 : (!decide (((c % 64 : Nat) : Int) < 0)) = true := by rw [decide_eq_false (by omega)]; rfl
    rw [conj_cons, conj_cons, conj_cons, upOk_true hr, e1, e2, i64_wrap (by omega) (by omega), decide_eq_true rfl, decide_eq_true rfl, h1]; rfl
  · have hcc : c = 64 * (c / 64) + c % 64 := (Nat.div_add_mod c 64).symm
    unfold upV mag words
    refine congrArg (fun l : List Value => Value.agg l.toArray) (List.map_congr_left fun i _ => congrArg (Value.int .u64) ?_)
    by_cases hi : i < c / 64
    · rw [decide_eq_true hi]
      have := wd_up_low N (c / 64) (c % 64) i hi
      rw [← hcc] at this
      rw [this]; rfl
    · rw [decide_eq_false hi]
      have := wd_up N (c / 64) (c % 64) (i - c / 64) hr
      rw [← hcc, Nat.sub_add_cancel (by omega)] at this
      rw [this]
      cases hd : i - c / 64 with
      | zero => simp only [upWord]; rw [shlI_eq _ _ (by omega)]; simp
      | succ d =>
        simp only [upWord]
        rw [restI_eq (by omega), shlI_eq _ _ (by omega), shrI_eq _ _ (by omega)]
        have hlt : wd N d / 2 ^ (64 - c % 64) < 2 ^ (c % 64) := by
          rw [Nat.div_lt_iff_lt_mul (Nat.two_pow_pos _), ← Nat.pow_add, Nat.add_sub_cancel' (by omega)]
          exact wd_lt N d
        have hmul : ∃ z, wd N (d + 1) * 2 ^ (c % 64) % 18446744073709551616 = 2 ^ (c % 64) * z := by
          refine ⟨wd N (d + 1) % 2 ^ (64 - c % 64), ?_⟩
          have hB : (18446744073709551616 : Nat) = 2 ^ (64 - c % 64) * 2 ^ (c % 64) := by rw [← Nat.pow_add, Nat.sub_add_cancel (by omega)]
          rw [hB, Nat.mul_mod_mul_right, Nat.mul_comm]
        obtain ⟨z, hz⟩ := hmul
        have hm := Nat.mod_lt (wd N (d + 1) * 2 ^ (c % 64)) (show 0 < 18446744073709551616 by omega)
        rw [orI_eq hm (Nat.lt_of_le_of_lt (Nat.div_le_self _ _) (wd_lt N d)), hz, or_add hlt]
theorem enters_shiftedUp : ∀ us w, (callFunc 84 us).run Tryz.prog w = .ok (.enter 84 us) w := enters Tryz.func84 rfl (by kernel_rfl)
end Go.Proofs.YtljolfnpncjklaaGreat.W
/-! The program's shiftedDown. -/
namespace Go.Proofs.YtljolfnpncjklaaGreat.W
open Go Go.Ev Go.Wide

/-! ### shiftedDown -/
def downWord (r : Int) (x : Nat → Nat) (i : Nat) : Int := match decide (i + 1 < 16) with | true => orI (shrI (x i) r) (shlI (x (i + 1)) (restI r)) | false => shrI (x i) r
def downV (s : Nat) (r : Int) (x : Nat → Nat) : Value := .agg ((List.range 16).map fun i => Value.int .u64 (match decide (i + s < 16) with | true => downWord r x (i + s) | false => 0)).toArray
def downSteps (f : Nat) : Nat → Nat → List Ans
  | 0, _ => []
  | 1, i => [.at (f + 17) (.int .i64 ((i : Nat) : Int))]
  | n + 2, i => .at (f + 32) (.int .i64 ((i : Nat) : Int)) :: downSteps 0 (n + 1) (i + 1)
def downAns (s : Nat) (r : Int) : List Ans := .at 4 (.int .i64 (s : Int)) :: .at 1 (.int .i64 r) :: downSteps 3 (16 - s) (s + 1)
def downOk : Nat → Int → List Bool
  | 0, r => [!decide (r < 0)]
  | n + 1, r => (!decide (r < 0)) :: (!decide (restI r < 0)) :: downOk n r
theorem down_key {s : Nat} (h : s ≤ 15) (c r : Int) (x : Nat → Nat) : evFn3 Tryz.prog Tryz.f83 400 [magL 16 x, .int .i64 c] (downAns s r) =
    some (conj (decide (IntKind.i64.wrap (c.tdiv 64) = (s : Int)) :: decide (c.tmod 64 = r) :: downOk (15 - s) r), [], downV s r x) := by
  rcases le15 h with rfl | rfl | rfl | rfl | rfl | rfl | rfl | rfl | rfl | rfl | rfl | rfl | rfl | rfl | rfl | rfl <;> kernel_rfl
theorem downOk_true {r : Nat} (h : r < 64) : ∀ n, conj (downOk n r) = true
  | 0 => by
    have h1 : (!decide ((r : Int) < 0)) = true := by rw [decide_eq_false (by omega)]; rfl
    rw [downOk, conj_cons, h1]; rfl
  | n + 1 => by
    have h1 : (!decide ((r : Int) < 0)) = true := by rw [decide_eq_false (by omega)]; rfl
    have h2 : (!decide (restI (r : Int) < 0)) = true := by rw [restI_eq (by omega), decide_eq_false (by omega)]; rfl
    rw [downOk, conj_cons, conj_cons, downOk_true h n, h1, h2]; rfl
theorem shiftedDown_pc {N c : Nat} (hN : N < T16) (hc : c < 1024) : PC Tryz.prog 83 [mag N, .int .i64 c] (mag (N / 2 ^ c)) := by
  have hr : c % 64 < 64 := Nat.mod_lt _ (by omega)
  have key := down_key (s := c / 64) (by omega) (c : Int) ((c % 64 : Nat) : Int) (wd N)
  rw [← mag_eq_magL16] at key
  have hbig : ∀ i, 16 ≤ i → wd N i = 0 := fun i hi => by
    obtain ⟨d, rfl⟩ : ∃ d, i = d + 16 := ⟨i - 16, by omega⟩
    unfold wd
    rw [Nat.div_eq_of_lt (Nat.lt_of_lt_of_le hN (T16_le d))]
  refine PC.of_ev3 mixed Tryz.func83 400 _ key (by simp [flat_mag]; rfl) ?_ trivial rfl ?_
  · have e1 : (c : Int).tdiv 64 = ((c / 64 : Nat) : Int) := by rw [Int.tdiv_eq_ediv_of_nonneg (by omega)]; rfl
    have e2 : (c : Int).tmod 64 = ((c % 64 : Nat) : Int) := by rw [Int.tmod_eq_emod_of_nonneg (by omega)]; rfl
    rw [conj_cons, conj_cons, downOk_true hr, e1, e2, i64_wrap (by omega) (by omega), decide_eq_true rfl, decide_eq_true rfl]; rfl
  · have hcc : c = 64 * (c / 64) + c % 64 := (Nat.div_add_mod c 64).symm
    unfold downV mag words
    refine congrArg (fun l : List Value => Value.agg l.toArray) (List.map_congr_left fun i _ => congrArg (Value.int .u64) ?_)
    have hd := wd_down N (c / 64) (c % 64) i (by omega)
    rw [← hcc] at hd
    rw [hd]
    by_cases hi : i + c / 64 < 16
    · rw [decide_eq_true hi]
      simp only [downWord]
      by_cases hi2 : i + c / 64 + 1 < 16
      · rw [decide_eq_true hi2]
        simp only
        rw [restI_eq (by omega), shlI_eq _ _ (by omega), shrI_eq _ _ (by omega)]
        have hlt : wd N (i + c / 64) / 2 ^ (c % 64) < 2 ^ (64 - c % 64) := by
          rw [Nat.div_lt_iff_lt_mul (Nat.two_pow_pos _), ← Nat.pow_add, Nat.sub_add_cancel (by omega)]
          exact wd_lt N _
        have hmul : ∃ z, wd N (i + c / 64 + 1) * 2 ^ (64 - c % 64) % 18446744073709551616 = 2 ^ (64 - c % 64) * z := by
          refine ⟨wd N (i + c / 64 + 1) % 2 ^ (c % 64), ?_⟩
          have hB : (18446744073709551616 : Nat) = 2 ^ (c % 64) * 2 ^ (64 - c % 64) := by rw [← Nat.pow_add, Nat.add_sub_cancel' (by omega)]
          rw [hB, Nat.mul_mod_mul_right, Nat.mul_comm]
        obtain ⟨z, hz⟩ := hmul
        have hm := Nat.mod_lt (wd N (i + c / 64 + 1) * 2 ^ (64 - c % 64)) (show 0 < 18446744073709551616 by omega)
        rw [orI_eq (Nat.lt_of_le_of_lt (Nat.div_le_self _ _) (wd_lt N _)) hm, hz, Nat.or_comm, or_add hlt, Nat.add_comm]
      · rw [decide_eq_false hi2, hbig (i + c / 64 + 1) (by omega)]
        simp only
        rw [shrI_eq _ _ (by omega), Nat.zero_mul, Nat.zero_mod, Nat.add_zero]
    · rw [decide_eq_false hi, hbig (i + c / 64) (by omega), hbig (i + c / 64 + 1) (by omega), Nat.zero_div, Nat.zero_mul, Nat.zero_mod]
      rfl
theorem enters_shiftedDown : ∀ us w, (callFunc 83 us).run Tryz.prog w = .ok (.enter 83 us) w := enters Tryz.func83 rfl (by kernel_rfl)
end Go.Proofs.YtljolfnpncjklaaGreat.W
/-! The program's Cmp, roundedDown, shiftUp, shiftDown, Shift. -/
namespace Go.Proofs.YtljolfnpncjklaaGreat.W
open Go Go.Ev Go.Wide

/-! ### Cmp -/
/-- -1, 0 or 1. -/
def ordI (a b : Int) : Int := if a < b then -1 else if b < a then 1 else 0
def wcmp : Option Int → Option Int → Value
  | some a, some b => .tuple #[.int .i64 (ordI a b), .bool true]
  | _, _ => .tuple #[.int .i64 0, .bool false]
theorem cmp_over_key1 (o : Bool) (N : Nat) (t : Bool) : evFn3 Tryz.prog Tryz.f130 400 [wR true 0 false, wR o N t] [] = some (true, [], .tuple #[.int .i64 0, .bool false]) := by cases o <;> kernel_rfl
theorem cmp_over_key2 (N : Nat) (t : Bool) : evFn3 Tryz.prog Tryz.f130 400 [wR false N t, wR true 0 false] [] = some (true, [], .tuple #[.int .i64 0, .bool false]) := by cases t <;> kernel_rfl
theorem cmp_ne_key (M N : Nat) (s : Bool) : evFn3 Tryz.prog Tryz.f130 400 [wR false M s, wR false N (!s)] [] = some (true, [], .tuple #[.int .i64 (match s with | true => -1 | false => 1), .bool true]) := by cases s <;> kernel_rfl
theorem cmp_pos_key (M N : Nat) (c : Int) : evFn3 Tryz.prog Tryz.f130 400 [wR false M false, wR false N false] [.res (.int .i64 c)] =
    some (true, [QC Tryz.prog 40 [mag M, mag N] (.int .i64 c)], .tuple #[.int .i64 c, .bool true]) := by kernel_rfl
theorem cmp_neg_key (M N : Nat) (c : Int) : evFn3 Tryz.prog Tryz.f130 400 [wR false M true, wR false N true] [.res (.int .i64 c)] =
    some (true, [QC Tryz.prog 40 [mag N, mag M] (.int .i64 c)], .tuple #[.int .i64 c, .bool true]) := by kernel_rfl
theorem cmp_pc {A B : Option Int} (hA : WF A) (hB : WF B) : PC Tryz.prog 130 [wv A, wv B] (wcmp A B) := by
  cases A with
  | none =>
    obtain ⟨o, K, s, e⟩ := wv_form B
    rw [e]
    exact PC.of_ev3 mixed Tryz.func130 400 [] (cmp_over_key1 o K s) (by simp [wv, flat_wR]) rfl trivial rfl rfl
  | some a =>
    cases B with
    | none => exact PC.of_ev3 mixed Tryz.func130 400 [] (cmp_over_key2 _ _) (by simp [flat_wv]) rfl trivial rfl rfl
    | some b =>
      have ha := hA a rfl
      have hb := hB b rfl
      have hT := Hi_T16
      have flats : [wv (some a), wv (some b)].all flat = true := by simp [flat_wv]
      show PC _ _ _ (.tuple #[.int .i64 (ordI a b), .bool true])
      by_cases h1 : a < 0 <;> by_cases h2 : b < 0
      · have hc := compare_pc (M := b.natAbs) (N := a.natAbs) (by omega) (by omega)
        have e : cmpI b.natAbs a.natAbs = ordI a b := by
          unfold cmpI ordI
          by_cases h3 : a < b
          · rw [if_pos (by omega), if_pos h3]
          · rw [if_neg (by omega), if_neg h3]
            by_cases h4 : b < a
            · rw [if_pos (by omega), if_pos h4]
            · rw [if_neg (by omega), if_neg h4]
        rw [e] at hc
        have key := cmp_neg_key a.natAbs b.natAbs (ordI a b)
        rw [wv_some, wv_some, decide_eq_true h1, decide_eq_true h2] at flats ⊢
        exact PC.of_ev3 mixed Tryz.func130 400 _ key flats rfl ⟨QC.of_pc enters_compare hc, trivial⟩ rfl rfl
      · have key := cmp_ne_key a.natAbs b.natAbs true
        rw [wv_some, wv_some, decide_eq_true h1, decide_eq_false h2] at flats ⊢
        refine PC.of_ev3 mixed Tryz.func130 400 _ key flats rfl trivial rfl ?_
        unfold ordI
        rw [if_pos (by omega)]
      · have key := cmp_ne_key a.natAbs b.natAbs false
        rw [wv_some, wv_some, decide_eq_false h1, decide_eq_true h2] at flats ⊢
        refine PC.of_ev3 mixed Tryz.func130 400 _ key flats rfl trivial rfl ?_
        unfold ordI
        rw [if_neg (by omega), if_pos (by omega)]
      · have hc := compare_pc (M := a.natAbs) (N := b.natAbs) (by omega) (by omega)
        have e : cmpI a.natAbs b.natAbs = ordI a b := by
          unfold cmpI ordI
          by_cases h3 : a < b
          · rw [if_pos (by omega), if_pos h3]
          · rw [if_neg (by omega), if_neg h3]
            by_cases h4 : b < a
            · rw [if_pos (by omega), if_pos h4]
            · rw [if_neg (by omega), if_neg h4]
        rw [e] at hc
        have key := cmp_pos_key a.natAbs b.natAbs (ordI a b)
        rw [wv_some, wv_some, decide_eq_false h1, decide_eq_false h2] at flats ⊢
        exact PC.of_ev3 mixed Tryz.func130 400 _ key flats rfl ⟨QC.of_pc enters_compare hc, trivial⟩ rfl rfl
theorem enters_cmp : ∀ us w, (callFunc 130 us).run Tryz.prog w = .ok (.enter 130 us) w := enters Tryz.func130 rfl (by kernel_rfl)

/-! ### roundedDown -/
def mag1 : Value := .agg (Value.int .u64 1 :: List.replicate 15 (Value.int .u64 0)).toArray
theorem mag1_eq : mag1 = mag 1 := by
  unfold mag1 mag words
  rw [words_small (N := 1) (by omega)]
  rfl
theorem rounded_up_key (M K L : Nat) (o t : Bool) : evFn3 Tryz.prog Tryz.f85 400 [mag M, .bool false, .bool true] [.res (mag K), .res (wR o L t)] =
    some (true, [QC Tryz.prog 39 [mag M, mag1] (mag K), QC Tryz.prog 38 [mag K, .bool true] (wR o L t)], wR o L t) := by cases o <;> kernel_rfl
theorem rounded_key (M L : Nat) (x s o t : Bool) (h : (s && !x) = false) : evFn3 Tryz.prog Tryz.f85 400 [mag M, .bool x, .bool s] [.res (wR o L t)] =
    some (true, [QC Tryz.prog 38 [mag M, .bool s] (wR o L t)], wR o L t) := by
  cases x <;> cases s
  · cases o <;> kernel_rfl
  · cases h
  · cases o <;> kernel_rfl
  · cases o <;> kernel_rfl
/-- The quotient's magnitude, rounded toward minus infinity. -/
def downK (M : Nat) (x s : Bool) : Nat := match s && !x with | true => M + 1 | false => M
theorem rounded_pc {M : Nat} (hM : M + 1 < T16) (x s : Bool) : PC Tryz.prog 85 [mag M, .bool x, .bool s] (wv (sgn (downK M x s) s)) := by
  have hfl : [mag M, .bool x, .bool s].all flat = true := by simp [flat_mag]; exact ⟨rfl, rfl⟩
  obtain ⟨o, L, t, e⟩ := wv_form (sgn (downK M x s) s)
  have hs := signed_pc (K := downK M x s) (by unfold downK; split <;> omega) s
  rw [e] at hs ⊢
  cases h : s && !x with
  | false =>
    rw [show downK M x s = M by unfold downK; rw [h]] at hs
    exact PC.of_ev3 mixed Tryz.func85 400 _ (rounded_key M L x s o t h) hfl rfl ⟨QC.of_pc enters_signed hs, trivial⟩ (flat_wR _ _ _) rfl
  | true =>
    rw [show downK M x s = M + 1 by unfold downK; rw [h]] at hs
    have hp := plus_pc M 1
    rw [← mag1_eq] at hp
    cases x <;> cases s <;> first | cases h | skip
    exact PC.of_ev3 mixed Tryz.func85 400 _ (rounded_up_key M (M + 1) L o t) hfl rfl ⟨QC.of_pc enters_plus hp, QC.of_pc enters_signed hs, trivial⟩ (flat_wR _ _ _) rfl
theorem enters_rounded : ∀ us w, (callFunc 85 us).run Tryz.prog w = .ok (.enter 85 us) w := enters Tryz.func85 rfl (by kernel_rfl)

/-! ### shiftUp, shiftDown, Shift -/
theorem up0_key (M : Nat) (s : Bool) (k : Int) : evFn3 Tryz.prog Tryz.f48 400 [wR false M s, .int .i64 k] [.res (.int .i64 0)] =
    some (true, [QC Tryz.prog 78 [mag M] (.int .i64 0)], wR false M s) := by kernel_rfl
theorem upO_key (M : Nat) (s : Bool) (k : Int) (b : Int) : evFn3 Tryz.prog Tryz.f48 400 [wR false M s, .int .i64 k] [.res (.int .i64 b), .tst false, .tst true] =
    some (conj [!(b == 0), decide (k > IntKind.i64.wrap (1023 - b))], [QC Tryz.prog 78 [mag M] (.int .i64 b)], wR true 0 false) := by kernel_rfl
theorem upS_key (M K L : Nat) (s o t : Bool) (k : Int) (b : Int) : evFn3 Tryz.prog Tryz.f48 400 [wR false M s, .int .i64 k] [.res (.int .i64 b), .tst false, .tst false, .res (mag K), .res (wR o L t)] =
    some (conj [!(b == 0), !decide (k > IntKind.i64.wrap (1023 - b))], [QC Tryz.prog 78 [mag M] (.int .i64 b), QC Tryz.prog 84 [mag M, .int .i64 k] (mag K), QC Tryz.prog 38 [mag K, .bool s] (wR o L t)], wR o L t) := by cases o <;> kernel_rfl
end Go.Proofs.YtljolfnpncjklaaGreat.W
/-! The program's Shift. -/
namespace Go.Proofs.YtljolfnpncjklaaGreat.W
open Go Go.Ev Go.Wide

theorem bitLen_shift {M : Nat} (h : M ≠ 0) (k : Nat) : bitLen (M * 2 ^ k) = bitLen M + k := by
  have hs := bitLen_spec M
  have h1 : bitLen (M * 2 ^ k) ≤ bitLen M + k := bitLen_lt_iff.2 (by rw [Nat.pow_add]; exact Nat.mul_lt_mul_of_pos_right hs.1 (Nat.two_pow_pos _))
  have h0 : bitLen M ≠ 0 := fun e => by
    have := hs.1
    rw [e] at this
    simp at this
    exact h this
  by_cases h2 : bitLen (M * 2 ^ k) ≤ bitLen M - 1 + k
  · have := bitLen_lt_iff.1 h2
    rw [Nat.pow_add] at this
    have := Nat.lt_of_mul_lt_mul_right this
    have := hs.2 h
    omega
  · omega
theorem sg_natAbs (z : Int) : sg z.natAbs (decide (z < 0)) = z := by
  by_cases h : z < 0
  · rw [decide_eq_true h]; simp only [sg]; omega
  · rw [decide_eq_false h]; simp only [sg]; omega
theorem sg_up (M n : Nat) (s : Bool) : sg (M * 2 ^ n) s = sg M s * 2 ^ n := by
  have e : ((M * 2 ^ n : Nat) : Int) = (M : Int) * 2 ^ n := by push_cast; rfl
  cases s
  · exact e
  · simp only [sg]
    rw [e, Int.neg_mul]
theorem sg_down (M n : Nat) (s : Bool) : sg (downK (M / 2 ^ n) (decide (M / 2 ^ n * 2 ^ n = M)) s) s = sg M s / 2 ^ n := by
  have e : ((2 : Int) ^ n) = ((2 ^ n : Nat) : Int) := by push_cast; rfl
  rw [e]
  have hp : 0 < 2 ^ n := Nat.two_pow_pos n
  generalize 2 ^ n = D at *
  cases s
  · rw [show downK (M / D) (decide (M / D * D = M)) false = M / D from rfl]
    exact Int.natCast_ediv M D
  · have hM := Nat.div_add_mod M D
    have hr := Nat.mod_lt M hp
    have hcast : (M : Int) = (D : Int) * ((M / D : Nat) : Int) + ((M % D : Nat) : Int) := by
      conv => lhs; rw [← hM]
      push_cast; rfl
    have hD : (0 : Int) < (D : Int) := by omega
    generalize hq : M / D = q at *
    generalize hm : M % D = r at *
    rw [Nat.mul_comm] at hM
    by_cases h0 : r = 0
    · have h1 : q * D = M := by omega
      rw [decide_eq_true h1]
      show -((q : Nat) : Int) = -(M : Int) / D
      have := ((Int.ediv_emod_unique (a := -(M : Int)) (b := D) (r := 0) (q := -(q : Int)) hD).2 ⟨by rw [hcast, h0, Int.mul_neg]; omega, by omega, by omega⟩).1
      exact this.symm
    · have h1 : ¬ (q * D = M) := by omega
      rw [decide_eq_false h1]
      show -((q + 1 : Nat) : Int) = -(M : Int) / D
      have := ((Int.ediv_emod_unique (a := -(M : Int)) (b := D) (r := (D : Int) - r) (q := -((q + 1 : Nat) : Int)) hD).2 ⟨by
        have e2 : (D : Int) * -((q + 1 : Nat) : Int) = -((D : Int) * q) - D := by
          rw [Int.mul_neg, Int.natCast_add, Int.mul_add]
          show -((D : Int) * q + D * 1) = _
          omega
        rw [e2, hcast]; omega, by omega, by omega⟩).1
      exact this.symm

def wshift : Option Int → Int → Option Int
  | none, _ => none
  | some z, k => match decide (k < 0) with
    | true => clamp (z / 2 ^ (-k).toNat)
    | false => clamp (z * 2 ^ k.toNat)
theorem wshift_wf (A : Option Int) (k : Int) : WF (wshift A k) := by
  unfold wshift
  split
  · intro z h; cases h
  · split <;> exact clamp_wf _

theorem shiftUp_pc {z k : Int} (hz : z.natAbs < Hi) (h0 : 0 ≤ k) (hk : k ≤ 9223372036854775807) : PC Tryz.prog 48 [wv (some z), .int .i64 k] (wv (clamp (z * 2 ^ k.toNat))) := by
  have hT := Hi_T16
  have hb := bitLen_pc (N := z.natAbs) (by omega)
  have hfl : [wv (some z), .int .i64 k].all flat = true := by simp [flat_wv]; rfl
  have hb2 : bitLen z.natAbs ≤ 1023 := bitLen_Hi.2 hz
  by_cases hz0 : z = 0
  · subst hz0
    have e : bitLen (0 : Int).natAbs = 0 := by
      have := (bitLen_lt_iff (x := (0 : Int).natAbs) (n := 0)).2 (by simp)
      omega
    rw [e] at hb
    rw [Int.zero_mul, clamp_eq hz]
    exact PC.of_ev3 mixed Tryz.func48 400 _ (up0_key 0 _ k) hfl rfl ⟨QC.of_pc enters_bitLen hb, trivial⟩ (flat_wR _ _ _) rfl
  · have hM : z.natAbs ≠ 0 := by omega
    have hne : bitLen z.natAbs ≠ 0 := fun e => hM (by
      have := (bitLen_spec z.natAbs).1
      rw [e] at this
      simpa using this)
    have hbs := bitLen_shift hM k.toNat
    have hab : (z * 2 ^ k.toNat).natAbs = z.natAbs * 2 ^ k.toNat := by
      rw [Int.natAbs_mul, Int.natAbs_pow]; rfl
    have hw : IntKind.i64.wrap (1023 - (bitLen z.natAbs : Int)) = 1023 - (bitLen z.natAbs : Int) := i64_wrap (by omega) (by omega)
    have h1 : (!((bitLen z.natAbs : Int) == 0)) = true := by
      rw [Bool.not_eq_true', beq_eq_false_iff_ne]; omega
    by_cases hov : k > 1023 - (bitLen z.natAbs : Int)
    · have key := upO_key z.natAbs (decide (z < 0)) k (bitLen z.natAbs)
      have hc : clamp (z * 2 ^ k.toNat) = none := by
        unfold clamp
        rw [if_neg]
        intro h
        rw [hab] at h
        have := bitLen_Hi.2 h
        omega
      rw [hc]
      exact PC.of_ev3 mixed Tryz.func48 400 _ key hfl (by rw [conj_cons, conj_cons, conj_nil, h1, hw, decide_eq_true hov]; rfl) ⟨QC.of_pc enters_bitLen hb, trivial⟩ (flat_wR _ _ _) rfl
    · obtain ⟨o, L, t, e⟩ := wv_form (clamp (z * 2 ^ k.toNat))
      have hlt : z.natAbs * 2 ^ k.toNat < Hi := bitLen_Hi.1 (by omega)
      have hs := signed_pc (K := z.natAbs * 2 ^ k.toNat) (by omega) (decide (z < 0))
      have e2 : sgn (z.natAbs * 2 ^ k.toNat) (decide (z < 0)) = clamp (z * 2 ^ k.toNat) := by
        unfold sgn
        rw [sg_up, sg_natAbs]
      rw [e2, e] at hs
      have hu := shiftedUp_pc (N := z.natAbs) (c := k.toNat) (by omega) (by omega)
      rw [show ((k.toNat : Nat) : Int) = k by omega] at hu
      have key := upS_key z.natAbs (z.natAbs * 2 ^ k.toNat) L (decide (z < 0)) o t k (bitLen z.natAbs)
      rw [e]
      exact PC.of_ev3 mixed Tryz.func48 400 _ key hfl (by rw [conj_cons, conj_cons, conj_nil, h1, hw, decide_eq_false hov]; rfl)
        ⟨QC.of_pc enters_bitLen hb, QC.of_pc enters_shiftedUp hu, QC.of_pc enters_signed hs, trivial⟩ (flat_wR _ _ _) rfl
theorem enters_shiftUp : ∀ us w, (callFunc 48 us).run Tryz.prog w = .ok (.enter 48 us) w := enters Tryz.func48 rfl (by kernel_rfl)

def eqL (x y : Nat → Nat) : List Nat → Bool
  | [] => true
  | i :: l => ((x i : Int) == (y i : Int)) && eqL x y l
theorem eqL_iff {x y : Nat → Nat} : ∀ {l : List Nat}, eqL x y l = true ↔ ∀ i ∈ l, x i = y i
  | [] => by simp [eqL]
  | i :: l => by
    simp only [eqL, Bool.and_eq_true, eqL_iff, List.mem_cons, forall_eq_or_imp, beq_iff_eq, Int.natCast_inj]
theorem eqL_eq {M N : Nat} (hM : M < T16) (hN : N < T16) : eqL (wd M) (wd N) (List.range 16) = decide (M = N) := by
  rw [Bool.eq_iff_iff, eqL_iff, decide_eq_true_eq]
  constructor
  · intro h
    have := div_eq_of_words hM hN 16 0 rfl (fun i _ hi => h i (List.mem_range.2 hi))
    simpa using this
  · rintro rfl i _; rfl
def downC (k : Int) : Int := IntKind.i64.wrap (0 - if -1023 > k then -1023 else k)
theorem down2_key (M K J L : Nat) (s o t : Bool) (k : Int) : evFn3 Tryz.prog Tryz.f47 400 [wR false M s, .int .i64 k] [.res (mag K), .res (mag J), .res (wR o L t)] =
    some (true, [QC Tryz.prog 83 [mag M, .int .i64 (downC k)] (mag K), QC Tryz.prog 84 [mag K, .int .i64 (downC k)] (mag J),
      QC Tryz.prog 85 [mag K, .bool (eqL (wd J) (wd M) (List.range 16)), .bool s] (wR o L t)], wR o L t) := by cases o <;> kernel_rfl
theorem downC_eq {k : Int} (h0 : k < 0) (h1 : -9223372036854775808 ≤ k) : ∃ c : Nat, downC k = c ∧ c ≤ 1023 ∧ (c = (-k).toNat ∨ (c = 1023 ∧ 1023 ≤ (-k).toNat)) := by
  unfold downC
  by_cases h : -1023 > k
  · rw [if_pos h]
    exact ⟨1023, i64_wrap (by omega) (by omega), by omega, .inr ⟨rfl, by omega⟩⟩
  · rw [if_neg h]
    exact ⟨(-k).toNat, by rw [i64_wrap (by omega) (by omega)]; omega, by omega, .inl rfl⟩
theorem lt_Hi_pow {M c : Nat} (h : M < Hi) (hc : 1023 ≤ c) : M < 2 ^ c := bitLen_lt_iff.1 (Nat.le_trans (bitLen_Hi.2 h) hc)
theorem shiftDown_pc {z k : Int} (hz : z.natAbs < Hi) (h0 : k < 0) (hk : -9223372036854775808 ≤ k) : PC Tryz.prog 47 [wv (some z), .int .i64 k] (wv (clamp (z / 2 ^ (-k).toNat))) := by
  have hT := Hi_T16
  have hfl : [wv (some z), .int .i64 k].all flat = true := by simp [flat_wv]; rfl
  obtain ⟨c, hc, hc1, hc2⟩ := downC_eq h0 hk
  have hd := shiftedDown_pc (N := z.natAbs) (c := c) (by omega) (by omega)
  have hle : z.natAbs / 2 ^ c * 2 ^ c ≤ z.natAbs := Nat.div_mul_le_self _ _
  have hle2 : z.natAbs / 2 ^ c ≤ z.natAbs := Nat.div_le_self _ _
  have hu := shiftedUp_pc (N := z.natAbs / 2 ^ c) (c := c) (by omega) (by omega)
  have hr := rounded_pc (M := z.natAbs / 2 ^ c) (by have := Hi_pos; omega) (decide (z.natAbs / 2 ^ c * 2 ^ c = z.natAbs)) (decide (z < 0))
  have hsame : sgn (downK (z.natAbs / 2 ^ c) (decide (z.natAbs / 2 ^ c * 2 ^ c = z.natAbs)) (decide (z < 0))) (decide (z < 0)) = clamp (z / 2 ^ (-k).toNat) := by
    unfold sgn
    refine congrArg clamp ?_
    have e : ∀ n, sg (downK (z.natAbs / 2 ^ n) (decide (z.natAbs / 2 ^ n * 2 ^ n = z.natAbs)) (decide (z < 0))) (decide (z < 0)) = z / 2 ^ n := fun n => by
      rw [sg_down, sg_natAbs]
    rcases hc2 with hc2 | ⟨hc2, hc3⟩
    · rw [e c, ← hc2]
    · rw [← e (-k).toNat, Nat.div_eq_of_lt (lt_Hi_pow hz hc3), Nat.div_eq_of_lt (lt_Hi_pow hz (by omega)), Nat.zero_mul, Nat.zero_mul]
  rw [hsame] at hr
  obtain ⟨o, L, t, e⟩ := wv_form (clamp (z / 2 ^ (-k).toNat))
  rw [e] at hr ⊢
  rw [← hc] at hd hu
  rw [← eqL_eq (by omega) (by omega)] at hr
  exact PC.of_ev3 mixed Tryz.func47 400 _ (down2_key z.natAbs (z.natAbs / 2 ^ c) (z.natAbs / 2 ^ c * 2 ^ c) L (decide (z < 0)) o t k) hfl rfl
    ⟨QC.of_pc enters_shiftedDown hd, QC.of_pc enters_shiftedUp hu, QC.of_pc enters_rounded hr, trivial⟩ (flat_wR _ _ _) rfl
theorem enters_shiftDown : ∀ us w, (callFunc 47 us).run Tryz.prog w = .ok (.enter 47 us) w := enters Tryz.func47 rfl (by kernel_rfl)

theorem shiftO_key (k : Int) : evFn3 Tryz.prog Tryz.f15 400 [wR true 0 false, .int .i64 k] [] = some (true, [], wR true 0 false) := by kernel_rfl
theorem shiftN_key (M L : Nat) (s o t : Bool) (k : Int) : evFn3 Tryz.prog Tryz.f15 400 [wR false M s, .int .i64 k] [.auto, .tst true, .res (wR o L t)] =
    some (conj [decide (k < 0)], [QC Tryz.prog 47 [wR false M s, .int .i64 k] (wR o L t)], wR o L t) := by cases o <;> kernel_rfl
theorem shiftP_key (M L : Nat) (s o t : Bool) (k : Int) : evFn3 Tryz.prog Tryz.f15 400 [wR false M s, .int .i64 k] [.auto, .tst false, .res (wR o L t)] =
    some (conj [!decide (k < 0)], [QC Tryz.prog 48 [wR false M s, .int .i64 k] (wR o L t)], wR o L t) := by cases o <;> kernel_rfl
theorem shift_pc {A : Option Int} {k : Int} (h : WF A) (h0 : -9223372036854775808 ≤ k) (h1 : k ≤ 9223372036854775807) : PC Tryz.prog 15 [wv A, .int .i64 k] (wv (wshift A k)) := by
  cases A with
  | none => exact PC.of_ev3 mixed Tryz.func15 400 [] (shiftO_key k) (by simp [flat_wv]; rfl) rfl trivial (flat_wR _ _ _) rfl
  | some z =>
    have hz := h z rfl
    have hfl : [wv (some z), .int .i64 k].all flat = true := by simp [flat_wv]; rfl
    obtain ⟨o, L, t, e⟩ := wv_form (wshift (some z) k)
    by_cases hk : k < 0
    · have hs := shiftDown_pc hz hk h0
      rw [show clamp (z / 2 ^ (-k).toNat) = wshift (some z) k by simp only [wshift]; rw [decide_eq_true hk], e] at hs
      rw [e]
      exact PC.of_ev3 mixed Tryz.func15 400 _ (shiftN_key z.natAbs L (decide (z < 0)) o t k) hfl (by rw [conj_cons, conj_nil, decide_eq_true hk]; rfl) ⟨QC.of_pc enters_shiftDown hs, trivial⟩ (flat_wR _ _ _) rfl
    · have hs := shiftUp_pc hz (by omega) h1
      rw [show clamp (z * 2 ^ k.toNat) = wshift (some z) k by simp only [wshift]; rw [decide_eq_false hk], e] at hs
      rw [e]
      exact PC.of_ev3 mixed Tryz.func15 400 _ (shiftP_key z.natAbs L (decide (z < 0)) o t k) hfl (by rw [conj_cons, conj_nil, decide_eq_false hk]; rfl) ⟨QC.of_pc enters_shiftUp hs, trivial⟩ (flat_wR _ _ _) rfl
theorem enters_shift : ∀ us w, (callFunc 15 us).run Tryz.prog w = .ok (.enter 15 us) w := enters Tryz.func15 rfl (by kernel_rfl)
end Go.Proofs.YtljolfnpncjklaaGreat.W
/-! The program's times: two loops. -/
namespace Go.Proofs.YtljolfnpncjklaaGreat.W
open Go Go.Ev Go.Wide

def m32 (p : Nat → Nat) : List Value := (List.range 32).map fun i => .int .u64 (p i)
theorem map_set {f : Nat → Value} {n k : Nat} {v : Value} : ((List.range n).map f).set k v = (List.range n).map fun t => if t = k then v else f t := by
  apply List.ext_getElem
  · simp
  · intro t h1 h2
    rw [List.getElem_set]
    simp only [List.getElem_map, List.getElem_range]
    by_cases h : k = t
    · rw [if_pos h, if_pos h.symm]
    · rw [if_neg h, if_neg (fun e => h e.symm)]
theorem set32 (p : Nat → Nat) (k v : Nat) : (m32 p).set (0 + ((k : Nat) : Int).toNat * 1) (.int .u64 v) = m32 (fun t => if t = k then v else p t) := by
  unfold m32
  rw [map_set, Int.toNat_natCast, Nat.zero_add, Nat.mul_one]
  refine List.map_congr_left fun i _ => ?_
  by_cases h : i = k
  · rw [if_pos h]; simp only [if_pos h]
  · rw [if_neg h]; simp only [if_neg h]
theorem getD_map {f : Nat → Value} {n k : Nat} (h : k < n) : ((List.range n).map f).getD (0 + ((k : Nat) : Int).toNat * 1) undef = f k := by
  rw [Int.toNat_natCast, Nat.zero_add, Nat.mul_one, List.getD_eq_getElem?_getD, List.getElem?_map, List.getElem?_range h]
  rfl

def tmem (M N : Nat) (q : List Value) : Mem := [⟨words M, 29, true⟩, ⟨words N, 29, true⟩, ⟨List.replicate 16 (.int .u64 0), 29, true⟩, ⟨q, 119, true⟩]
def ptr (k : Nat) : Value := .pointer (some ⟨k, 0, none⟩)
def outS (M N r c i : Nat) (q : List Value) : St := ⟨slots 64 [(2, ptr 0), (3, ptr 1), (4, ptr 2), (6, ptr 3), (8, .int .i64 c), (18, .int .i64 r), (19, .int .i64 i)], tmem M N q⟩
def inS (M N r c i j k : Nat) (q : List Value) : St := ⟨slots 64 [(2, ptr 0), (3, ptr 1), (4, ptr 2), (6, ptr 3), (8, .int .i64 c), (9, .int .i64 i), (10, .int .u64 k), (18, .int .i64 r), (19, .int .i64 i), (22, .int .i64 c), (23, .int .i64 j)], tmem M N q⟩
def outL : List Nat := [2, 3, 4, 6, 8, 18, 19]
def inL : List Nat := [2, 3, 4, 6, 8, 9, 10, 18, 19, 22, 23]
def inAns (x y z lo hi i j : Nat) : List Ans := [.tst true, .at 4 (.int .i64 ((i + j : Nat) : Int)), .is 2 (.int .u64 x), .is 2 (.int .u64 y), .at 2 (.int .i64 ((i + j : Nat) : Int)), .is 1 (.int .u64 z), .res (.tuple #[.int .u64 lo, .int .u64 hi]), .at 7 (.int .i64 ((j + 1 : Nat) : Int))]
def inOk (c i j : Nat) : List Bool := [decide ((j : Int) < (c : Int)), decide (IntKind.i64.wrap ((i : Int) + (j : Int)) = ((i + j : Nat) : Int)), decide ((i : Int) < 16), decide (0 + (i : Int).toNat * 1 < 16), decide ((j : Int) < 16), decide (0 + (j : Int).toNat * 1 < 16),
  decide (IntKind.i64.wrap ((i : Int) + (j : Int)) = ((i + j : Nat) : Int)), decide (((i + j : Nat) : Int) < 32), decide (0 + ((i + j : Nat) : Int).toNat * 1 < 32), decide (((i + j : Nat) : Int) < 32), decide (0 + ((i + j : Nat) : Int).toNat * 1 < 32), decide (IntKind.i64.wrap ((j : Int) + 1) = ((j + 1 : Nat) : Int))]
theorem in_key (M N r c i j k x y z lo hi : Nat) (p : Nat → Nat) : evM Tryz.prog (loopN Tryz.f42 1) 400 inL (inS M N r c i j k (m32 p)) (inAns x y z lo hi i j) =
    some (conj (inOk c i j), [(words M).getD (0 + ((i : Nat) : Int).toNat * 1) undef = .int .u64 x, (words N).getD (0 + ((j : Nat) : Int).toNat * 1) undef = .int .u64 y, (m32 p).getD (0 + ((i + j : Nat) : Int).toNat * 1) undef = .int .u64 z,
      QC Tryz.prog 82 [.int .u64 x, .int .u64 y, .int .u64 z, .int .u64 k] (.tuple #[.int .u64 lo, .int .u64 hi])], .normal, inS M N r c i (j + 1) hi ((m32 p).set (0 + ((i + j : Nat) : Int).toNat * 1) (.int .u64 lo))) := by kernel_rfl
theorem in_end (M N r c i j k : Nat) (p : Nat → Nat) : evM Tryz.prog (loopN Tryz.f42 1) 400 inL (inS M N r c i j k (m32 p)) [.tst false] =
    some (conj [!decide ((j : Int) < (c : Int))], [], .exit 2, inS M N r c i j k (m32 p)) := by kernel_rfl
theorem out_key (M N r c i k : Nat) (p p' : Nat → Nat) : evM Tryz.prog (loopN Tryz.f42 0) 400 outL (outS M N r c i (m32 p)) [.tst true, .cut inL (.exit 2) (inS M N r c i c k (m32 p')), .at 2 (.int .i64 ((i + c : Nat) : Int)), .at 3 (.int .i64 ((i + 1 : Nat) : Int))] =
    some (conj [decide ((i : Int) < (r : Int)), decide (IntKind.i64.wrap ((i : Int) + (c : Int)) = ((i + c : Nat) : Int)), decide (((i + c : Nat) : Int) < 32), decide (0 + ((i + c : Nat) : Int).toNat * 1 < 32), decide (IntKind.i64.wrap ((i : Int) + 1) = ((i + 1 : Nat) : Int))],
      [TriL Tryz.prog (loopN Tryz.f42 1) (inS M N r c i 0 0 (m32 p)) (to (.exit 2) (inS M N r c i c k (m32 p')))], .normal, outS M N r c (i + 1) ((m32 p').set (0 + ((i + c : Nat) : Int).toNat * 1) (.int .u64 k))) := by kernel_rfl
theorem out_end (M N r c i : Nat) (p : Nat → Nat) : evM Tryz.prog (loopN Tryz.f42 0) 400 outL (outS M N r c i (m32 p)) [.tst false] =
    some (conj [!decide ((i : Int) < (r : Int))], [], .exit 0, outS M N r c i (m32 p)) := by kernel_rfl
def fourTo (p : Nat → Nat) (s : Nat) : Value := .agg ((List.range 16).map fun i => Value.int .u64 (p (i + s))).toArray
theorem times_key (M N r c : Nat) (p : Nat → Nat) (z : Bool) : evFn3 Tryz.prog Tryz.f42 400 [mag M, mag N] [.res (.int .i64 r), .res (.int .i64 c), .cut outL (.exit 0) (outS M N r c r (m32 p)), .res (.bool z)] =
    some (true, [QC Tryz.prog 81 [mag M] (.int .i64 r), QC Tryz.prog 81 [mag N] (.int .i64 c), TriL Tryz.prog (loopN Tryz.f42 0) (outS M N r c 0 (m32 fun _ => 0)) (to (.exit 0) (outS M N r c r (m32 p))),
      QC Tryz.prog 63 [fourTo p 16] (.bool z)], .tuple #[match z with | true => fourTo p 0 | false => .agg (List.replicate 16 (Value.int .u64 0)).toArray, .bool z]) := by cases z <;> kernel_rfl

theorem m32_congr {p p' : Nat → Nat} (h : ∀ t, p t = p' t) : m32 p = m32 p' := by rw [funext h]
theorem mul_in {M N r c : Nat} (hr : r ≤ 16) (hc : c ≤ 16) {i : Nat} (hi : i < r) :
    TriL Tryz.prog (loopN Tryz.f42 1) (inS M N r c i 0 0 (m32 fun t => wd (rowP M N i) t)) (to (.exit 2) (inS M N r c i c (carryK M N i c) (m32 fun t => prodW M N i c t))) := by
  have h := TriL.count (P := Tryz.prog) (c := loopN Tryz.f42 1) (e := .exit 2) (fun j => inS M N r c i j (carryK M N i j) (m32 fun t => prodW M N i j t)) (by simp) c (fun j hj => ?_)
    (Tri.of_ev mixed 400 inL [.tst false] (in_end M N r c i c (carryK M N i c) fun t => prodW M N i c t) (by rw [conj_cons, conj_nil, decide_eq_false (by omega)]; rfl) trivial)
  · have e : inS M N r c i 0 0 (m32 fun t => wd (rowP M N i) t) = inS M N r c i 0 (carryK M N i 0) (m32 fun t => prodW M N i 0 t) := by
      rw [carryK_zero, m32_congr (prodW_zero M N i)]
    rw [e]; exact h
  · have hk := carryK_lt M N i j
    have hx := wd_lt M i
    have hy := wd_lt N j
    have hz : prodW M N i j (i + j) < 18446744073709551616 := by unfold prodW; split <;> exact wd_lt _ _
    have hzz : prodW M N i j (i + j) = wd (rowP M N i) (i + j) := by unfold prodW; rw [decide_eq_false (by omega)]
    have hm := mulAdd_pc hx hy hz hk
    have hT : wd M i * wd N j + prodW M N i j (i + j) + carryK M N i j = colT M N i j := by rw [hzz]; rfl
    rw [hT] at hm
    have key := in_key M N r c i j (carryK M N i j) (wd M i) (wd N j) (prodW M N i j (i + j)) (colT M N i j % 18446744073709551616) (colT M N i j / 18446744073709551616) (fun t => prodW M N i j t)
    rw [set32, m32_congr (fun t => (prodW_succ M N i j t).symm), ← carryK_succ] at key
    refine Tri.of_ev mixed 400 inL _ key ?_ ⟨getD_map (by omega), getD_map (by omega), getD_map (by omega), ?_, trivial⟩
    · have w1 : IntKind.i64.wrap ((i : Int) + (j : Int)) = ((i + j : Nat) : Int) := by rw [i64_wrap (by omega) (by omega)]; omega
      have w2 : IntKind.i64.wrap ((j : Int) + 1) = ((j + 1 : Nat) : Int) := by rw [i64_wrap (by omega) (by omega)]; omega
      simp only [inOk, conj_cons, conj_nil, Bool.and_eq_true, decide_eq_true_eq, w1, w2, true_and, and_true, Int.toNat_natCast]
      omega
    · rw [carryK_succ]
      exact QC.of_pc enters_mulAdd hm
theorem mul_out {M N r c : Nat} (hr : r ≤ 16) (hc : c ≤ 16) (hN : N < 2 ^ (64 * c)) :
    TriL Tryz.prog (loopN Tryz.f42 0) (outS M N r c 0 (m32 fun _ => 0)) (to (.exit 0) (outS M N r c r (m32 fun t => wd (rowP M N r) t))) := by
  have h := TriL.count (P := Tryz.prog) (c := loopN Tryz.f42 0) (e := .exit 0) (fun i => outS M N r c i (m32 fun t => wd (rowP M N i) t)) (by simp) r (fun i hi => ?_)
    (Tri.of_ev mixed 400 outL [.tst false] (out_end M N r c r fun t => wd (rowP M N r) t) (by rw [conj_cons, conj_nil, decide_eq_false (by omega)]; rfl) trivial)
  · have e : (m32 fun _ => 0) = m32 fun t => wd (rowP M N 0) t := m32_congr fun t => by
      unfold rowP wd
      rw [Nat.mul_zero, Nat.pow_zero, Nat.mod_one, Nat.zero_mul, Nat.zero_div, Nat.zero_mod]
    rw [e]; exact h
  · have key := out_key M N r c i (carryK M N i c) (fun t => wd (rowP M N i) t) (fun t => prodW M N i c t)
    rw [set32, m32_congr (fun t => prodW_all M N i c t hN)] at key
    refine Tri.of_ev mixed 400 outL _ key ?_ ⟨mul_in hr hc hi, trivial⟩
    have w1 : IntKind.i64.wrap ((i : Int) + (c : Int)) = ((i + c : Nat) : Int) := by rw [i64_wrap (by omega) (by omega)]; omega
    have w2 : IntKind.i64.wrap ((i : Int) + 1) = ((i + 1 : Nat) : Int) := by rw [i64_wrap (by omega) (by omega)]; omega
    simp only [conj_cons, conj_nil, Bool.and_eq_true, decide_eq_true_eq, w1, w2, true_and, and_true, Int.toNat_natCast]
    omega
theorem wd_shift (P s i : Nat) : wd P (i + s) = wd (P / 2 ^ (64 * s)) i := by
  unfold wd
  rw [Nat.div_div_eq_div_mul, ← Nat.pow_add, show 64 * s + 64 * i = 64 * (i + s) by omega]
theorem fourTo_shift (P s : Nat) : fourTo (fun t => wd P t) s = mag (P / 2 ^ (64 * s)) := by
  unfold fourTo mag words
  refine congrArg (fun l : List Value => Value.agg l.toArray) (List.map_congr_left fun i _ => ?_)
  show Value.int .u64 ((wd P (i + s) : Nat) : Int) = _
  rw [wd_shift]
theorem T16_pow {s : Nat} (h : s = 16) : 2 ^ (64 * s) = T16 := by
  have : 64 * s = 64 * 15 + 64 := by omega
  rw [this, T16_eq, pw_eq]
theorem zeros_mag : Value.agg (List.replicate 16 (Value.int .u64 0)).toArray = mag 0 := by
  unfold mag words
  refine congrArg (fun l : List Value => Value.agg l.toArray) ?_
  have e : ∀ i, wd 0 i = 0 := fun i => by unfold wd; rw [Nat.zero_div, Nat.zero_mod]
  simp only [e]
  rfl
theorem times_pc {M N : Nat} (hM : M < T16) (hN : N < T16) : PC Tryz.prog 42 [mag M, mag N]
    (.tuple #[mag (if M * N < T16 then M * N else 0), .bool (decide (M * N < T16))]) := by
  have hfl : [mag M, mag N].all flat = true := by simp [flat_mag]
  have hr := nw_le16 hM
  have hc := nw_le16 hN
  have hlt : rowP M N (nw M) = M * N := by
    unfold rowP
    rw [Nat.mod_eq_of_lt (lt_nw M)]
  have hT : 0 < T16 := by have := Hi_pos; have := Hi_T16; omega
  obtain ⟨s, hs⟩ : ∃ s, s = 16 := ⟨16, rfl⟩
  have hP : M * N / 2 ^ (64 * s) < T16 := by
    rw [T16_pow hs, Nat.div_lt_iff_lt_mul hT]
    exact Nat.lt_of_le_of_lt (Nat.mul_le_mul_left M (Nat.le_of_lt hN)) (Nat.mul_lt_mul_of_pos_right hM hT)
  have hz := isZero_pc hP
  have hz2 : (M * N / 2 ^ (64 * s) = 0) = (M * N < T16) := by
    rw [T16_pow hs]
    exact propext ⟨fun h => (Nat.div_eq_zero_iff_lt hT).1 h, fun h => Nat.div_eq_of_lt h⟩
  simp only [hz2] at hz
  rw [← fourTo_shift, hs] at hz
  have hout := mul_out (M := M) (N := N) hr hc (lt_nw N)
  rw [hlt] at hout
  have key := times_key M N (nw M) (nw N) (fun t => wd (M * N) t) (decide (M * N < T16))
  refine PC.of_ev3 mixed Tryz.func42 400 _ key hfl rfl ⟨QC.of_pc enters_wordLen (wordLen_pc hM), QC.of_pc enters_wordLen (wordLen_pc hN), hout, QC.of_pc enters_isZero hz, trivial⟩ ?_ ?_
  · cases decide (M * N < T16) <;> kernel_rfl
  · by_cases h : M * N < T16
    · rw [decide_eq_true h, if_pos h]
      show Value.tuple #[fourTo (fun t => wd (M * N) t) 0, .bool true] = _
      rw [fourTo_shift, Nat.mul_zero, Nat.pow_zero, Nat.div_one]
    · rw [decide_eq_false h, if_neg h]
      show Value.tuple #[.agg (List.replicate 16 (Value.int .u64 0)).toArray, .bool false] = _
      rw [zeros_mag]
theorem enters_times : ∀ us w, (callFunc 42 us).run Tryz.prog w = .ok (.enter 42 us) w := enters Tryz.func42 rfl (by kernel_rfl)

/-! ### Mul -/
def wmul : Option Int → Option Int → Option Int
  | some a, some b => clamp (a * b)
  | _, _ => none
theorem wmul_wf (A B : Option Int) : WF (wmul A B) := by
  unfold wmul
  split
  · exact clamp_wf _
  · intro z h; cases h
theorem mulO_key1 (o : Bool) (N : Nat) (t : Bool) : evFn3 Tryz.prog Tryz.f12 400 [wR true 0 false, wR o N t] [] = some (true, [], wR true 0 false) := by cases o <;> kernel_rfl
theorem mulO_key2 (N : Nat) (t : Bool) : evFn3 Tryz.prog Tryz.f12 400 [wR false N t, wR true 0 false] [] = some (true, [], wR true 0 false) := by kernel_rfl
theorem mulB_key (M N : Nat) (s t : Bool) : evFn3 Tryz.prog Tryz.f12 400 [wR false M s, wR false N t] [.res (.tuple #[mag 0, .bool false])] =
    some (true, [QC Tryz.prog 42 [mag M, mag N] (.tuple #[mag 0, .bool false])], wR true 0 false) := by kernel_rfl
theorem mul_key (M N P L : Nat) (s t o q : Bool) : evFn3 Tryz.prog Tryz.f12 400 [wR false M s, wR false N t] [.res (.tuple #[mag P, .bool true]), .res (wR o L q)] =
    some (true, [QC Tryz.prog 42 [mag M, mag N] (.tuple #[mag P, .bool true]), QC Tryz.prog 38 [mag P, .bool (!(s == t))] (wR o L q)], wR o L q) := by cases o <;> cases s <;> cases t <;> kernel_rfl
theorem sg_mul (a b : Int) : sg (a.natAbs * b.natAbs) (!(decide (a < 0) == decide (b < 0))) = a * b := by
  have ep : ∀ z : Int, z < 0 → (z.natAbs : Int) = -z := fun z h => by omega
  have en : ∀ z : Int, ¬ z < 0 → (z.natAbs : Int) = z := fun z h => by omega
  by_cases h1 : a < 0 <;> by_cases h2 : b < 0
  · rw [decide_eq_true h1, decide_eq_true h2]
    show ((a.natAbs * b.natAbs : Nat) : Int) = a * b
    rw [Int.natCast_mul, ep a h1, ep b h2, Int.neg_mul_neg]
  · rw [decide_eq_true h1, decide_eq_false h2]
    show -((a.natAbs * b.natAbs : Nat) : Int) = a * b
    rw [Int.natCast_mul, ep a h1, en b h2, Int.neg_mul, Int.neg_neg]
  · rw [decide_eq_false h1, decide_eq_true h2]
    show -((a.natAbs * b.natAbs : Nat) : Int) = a * b
    rw [Int.natCast_mul, en a h1, ep b h2, Int.mul_neg, Int.neg_neg]
  · rw [decide_eq_false h1, decide_eq_false h2]
    show ((a.natAbs * b.natAbs : Nat) : Int) = a * b
    rw [Int.natCast_mul, en a h1, en b h2]
theorem mul_pc {A B : Option Int} (hA : WF A) (hB : WF B) : PC Tryz.prog 12 [wv A, wv B] (wv (wmul A B)) := by
  cases A with
  | none =>
    obtain ⟨o, K, s, e⟩ := wv_form B
    rw [e]
    exact PC.of_ev3 mixed Tryz.func12 400 [] (mulO_key1 o K s) (by simp [wv, flat_wR]) rfl trivial (flat_wR _ _ _) rfl
  | some a =>
    cases B with
    | none => exact PC.of_ev3 mixed Tryz.func12 400 [] (mulO_key2 _ _) (by simp [flat_wv]) rfl trivial (flat_wR _ _ _) rfl
    | some b =>
      have ha := hA a rfl
      have hb := hB b rfl
      have hT := Hi_T16
      have flats : [wv (some a), wv (some b)].all flat = true := by simp [flat_wv]
      have ht := times_pc (M := a.natAbs) (N := b.natAbs) (by omega) (by omega)
      show PC _ _ _ (wv (clamp (a * b)))
      by_cases h : a.natAbs * b.natAbs < T16
      · rw [if_pos h, decide_eq_true h] at ht
        have hs := signed_pc h (!(decide (a < 0) == decide (b < 0)))
        have e2 : sgn (a.natAbs * b.natAbs) (!(decide (a < 0) == decide (b < 0))) = clamp (a * b) := congrArg clamp (sg_mul a b)
        obtain ⟨o, L, q, e⟩ := wv_form (clamp (a * b))
        rw [e2, e] at hs
        rw [e]
        exact PC.of_ev3 mixed Tryz.func12 400 _ (mul_key a.natAbs b.natAbs (a.natAbs * b.natAbs) L (decide (a < 0)) (decide (b < 0)) o q) flats rfl ⟨QC.of_pc enters_times ht, QC.of_pc enters_signed hs, trivial⟩ (flat_wR _ _ _) rfl
      · rw [if_neg h, decide_eq_false h] at ht
        have hc : clamp (a * b) = none := by
          unfold clamp
          rw [if_neg]
          rw [Int.natAbs_mul]
          omega
        rw [hc]
        exact PC.of_ev3 mixed Tryz.func12 400 _ (mulB_key a.natAbs b.natAbs (decide (a < 0)) (decide (b < 0))) flats rfl ⟨QC.of_pc enters_times ht, trivial⟩ (flat_wR _ _ _) rfl
theorem enters_mul : ∀ us w, (callFunc 12 us).run Tryz.prog w = .ok (.enter 12 us) w := enters Tryz.func12 rfl (by kernel_rfl)
end Go.Proofs.YtljolfnpncjklaaGreat.W
/-! The program's digit and Text. -/
namespace Go.Proofs.YtljolfnpncjklaaGreat.W
open Go Go.Ev Go.Wide

/-! ### digit -/
def andI (x y : Int) : Int := IntKind.u64.wrap (BitVec.ofInt 64 x &&& BitVec.ofInt 64 y).toNat
theorem andI_15 {x : Nat} (hx : x < 18446744073709551616) : andI x 15 = ((x % 16 : Nat) : Int) := by
  unfold andI
  have e1 : (BitVec.ofInt 64 (x : Int)).toNat = x := by rw [BitVec.toNat_ofInt]; omega
  have e2 : (BitVec.ofInt 64 (15 : Int)).toNat = 15 := rfl
  rw [BitVec.toNat_and, e1, e2, u64_wrap]
  have : x &&& 15 = x % 16 := Nat.and_two_pow_sub_one_eq_mod x 4
  rw [this]
  omega
/-- The hexadecimal digit at a place. -/
def hexd (N p : Nat) : Nat := N / 2 ^ (4 * p) % 16
theorem wd_hexd (N p : Nat) : wd N (p / 16) / 2 ^ (4 * (p % 16)) % 16 = hexd N p := by
  unfold wd hexd
  have e : N / 2 ^ (4 * p) = N / 2 ^ (64 * (p / 16)) / 2 ^ (4 * (p % 16)) := by
    rw [Nat.div_div_eq_div_mul, ← Nat.pow_add, show 64 * (p / 16) + 4 * (p % 16) = 4 * p by omega]
  rw [e]
  generalize N / 2 ^ (64 * (p / 16)) = Q
  have h : 4 * (p % 16) ≤ 60 := by omega
  generalize 4 * (p % 16) = k at *
  have e2 : (18446744073709551616 : Nat) = 2 ^ k * (16 * 2 ^ (60 - k)) := by
    have : (16 : Nat) = 2 ^ 4 := rfl
    rw [this, ← Nat.pow_add, ← Nat.pow_add, show k + (4 + (60 - k)) = 64 by omega]
  rw [e2, Nat.mod_mul_right_div_self, Nat.mod_mul_right_mod]
/-! ### Text -/
def hexS : ByteArray := ⟨#[48, 49, 50, 51, 52, 53, 54, 55, 56, 57, 97, 98, 99, 100, 101, 102]⟩
def chr (d : Nat) : Int := (hexS.data.getD ((d : Nat) : Int).toNat 0).toNat
def wordsB (M : Nat) (s : Bool) : List Value := (List.range 16).map (fun i => Value.int .u64 (wd M i)) ++ [Value.bool s, Value.bool false]
def txM (M : Nat) (s : Bool) (q : List Value) : Mem := ⟨wordsB M s, 31, true⟩ :: ⟨q, 5, true⟩ :: (match s with | true => [⟨[.int .u8 45], 5, true⟩] | false => [])
def txS (M : Nat) (s : Bool) (len cap : Nat) (pl : Int) (q : List Value) : St := ⟨slots 39 [(1, ptr 0), (4, .slice (some ⟨1, 0, none⟩) len cap), (5, .int .i64 pl)], txM M s q⟩
def txL : List Nat := [1, 4, 5]
def txN (s : Bool) : Nat := match s with | true => 3 | false => 2
def txQ (L : Nat) (s : Bool) : List Value := match s with | true => (List.replicate ((L + 1 : Nat) : Int).toNat (Value.int .u8 0)).set (0 + 0 * 1) (.int .u8 45) | false => List.replicate ((L + 1 : Nat) : Int).toNat (Value.int .u8 0)
def sLen (s : Bool) : Nat := match s with | true => 1 | false => 0
def lenI (b : Int) : Int := if IntKind.i64.wrap ((IntKind.i64.wrap (IntKind.i64.wrap (b + 4) - 1)).tdiv 4) > 1 then IntKind.i64.wrap ((IntKind.i64.wrap (IntKind.i64.wrap (b + 4) - 1)).tdiv 4) else 1
/-- The character at place t of a text: a sign, then L digits. -/
def tc (M L : Nat) (s : Bool) (t : Nat) : Int := match decide (t < sLen s) with | true => 45 | false => chr (hexd M (L - 1 - (t - sLen s)))
def txq (M L : Nat) (s : Bool) (i : Nat) : List Value := (List.range (L + 1)).map fun t => Value.int .u8 (match decide (t < sLen s + i) with | true => tc M L s t | false => 0)
theorem txq_zero (M L : Nat) (s : Bool) : txQ L s = txq M L s 0 := by
  have hrep : List.replicate ((L + 1 : Nat) : Int).toNat (Value.int .u8 0) = (List.range (L + 1)).map fun _ => Value.int .u8 0 := by
    rw [Int.toNat_natCast, List.map_const', List.length_range]
  cases s with
  | false =>
    show List.replicate _ _ = _
    rw [hrep]
    unfold txq
    refine List.map_congr_left fun t _ => ?_
    rw [decide_eq_false (show ¬ t < sLen false + 0 from Nat.not_lt_zero t)]
  | true =>
    show (List.replicate _ _).set (0 + 0 * 1) _ = _
    rw [hrep, map_set]
    unfold txq
    refine List.map_congr_left fun t _ => ?_
    by_cases h : t = 0 + 0 * 1
    · rw [if_pos h]
      subst h
      rfl
    · rw [if_neg h, decide_eq_false (show ¬ t < sLen true + 0 by simp only [sLen]; omega)]
theorem txq_succ (M L : Nat) (s : Bool) (i : Nat) : (txq M L s i).set (0 + (sLen s + i) * 1) (.int .u8 (chr (hexd M (L - 1 - i)))) = txq M L s (i + 1) := by
  unfold txq
  rw [map_set]
  refine List.map_congr_left fun t _ => ?_
  by_cases h : t = 0 + (sLen s + i) * 1
  · rw [if_pos h, decide_eq_true (by omega)]
    unfold tc
    rw [decide_eq_false (by omega), show t - sLen s = i by omega]
  · rw [if_neg h]
    by_cases h1 : t < sLen s + i
    · rw [decide_eq_true h1, decide_eq_true (by omega)]
    · rw [decide_eq_false h1, decide_eq_false (by omega)]
theorem all_ints {α : Type} (p : Value → Bool) (f : α → Int) (h : ∀ x, p (Value.int .u8 x) = true) (l : List α) : (l.map fun t => Value.int .u8 (f t)).all p = true := by
  rw [List.all_map, List.all_eq_true]
  intro t _
  exact h _
theorem txq_all (M L : Nat) (s : Bool) (i n : Nat) : (txq M L s i).all (noNew1 n) = true := all_ints _ _ (fun _ => rfl) _
theorem txq_length (M L : Nat) (s : Bool) (i : Nat) : (txq M L s i).length = L + 1 := by unfold txq; simp
theorem sLen_le (s : Bool) : sLen s ≤ 1 := by cases s <;> simp [sLen]
/-- How many hexadecimal digits a number has. -/
def hexLen (M : Nat) : Nat := if (bitLen M + 3) / 4 ≤ 1 then 1 else (bitLen M + 3) / 4
def textB : Option Int → ByteArray
  | none => ⟨#[111, 118, 101, 114]⟩
  | some z => strOf ((List.range (sLen (decide (z < 0)) + hexLen z.natAbs)).map (tc z.natAbs (hexLen z.natAbs) (decide (z < 0))))
theorem lenI_eq {b : Nat} (h : b ≤ 1023) : lenI b = ((if (b + 3) / 4 ≤ 1 then 1 else (b + 3) / 4 : Nat) : Int) := by
  unfold lenI
  have w1 : IntKind.i64.wrap ((b : Int) + 4) = b + 4 := i64_wrap (by omega) (by omega)
  have w2 : IntKind.i64.wrap ((b : Int) + 4 - 1) = b + 3 := by rw [i64_wrap (by omega) (by omega)]; omega
  have w3 : ((b : Int) + 3).tdiv 4 = (((b + 3) / 4 : Nat) : Int) := by rw [Int.tdiv_eq_ediv_of_nonneg (by omega)]; omega
  have w4 : IntKind.i64.wrap (((b + 3) / 4 : Nat) : Int) = (((b + 3) / 4 : Nat) : Int) := i64_wrap (by omega) (by omega)
  rw [w1, w2, w3, w4]
  split <;> split <;> omega
end Go.Proofs.YtljolfnpncjklaaGreat.W
/-! Texts of known numbers. -/
namespace Go.Proofs.YtljolfnpncjklaaGreat.W
open Go Go.Ev Go.Wide

theorem bitLen_eq {x n : Nat} (h1 : 2 ^ n ≤ x) (h2 : x < 2 ^ (n + 1)) : bitLen x = n + 1 := by
  have a := bitLen_lt_iff.2 h2
  have b : ¬ bitLen x ≤ n := fun h => by have := bitLen_lt_iff.1 h; omega
  omega
theorem text_of {z : Int} {M L : Nat} {s : Bool} (hz : z.natAbs = M) (hs : decide (z < 0) = s) (hl : hexLen M = L) : textB (some z) = strOf ((List.range (sLen s + L)).map (tc M L s)) := by
  subst hz hs hl; rfl
theorem small_T16 {x : Nat} (h : x < 18446744073709551616) : x < T16 := by
  rw [T16_eq]
  exact bitLen_pw.1 (Nat.le_trans (bitLen_lt_iff.2 (show x < 2 ^ 64 from h)) (by omega))
theorem small_Hi {x n : Nat} (h : x < 2 ^ n) (hn : n ≤ 1023) : x < Hi := bitLen_Hi.1 (Nat.le_trans (bitLen_lt_iff.2 h) hn)
end Go.Proofs.YtljolfnpncjklaaGreat.W
/-! Numbers that are far from being over: the program's sums, differences and products of them are exact. -/
namespace Go.Proofs.YtljolfnpncjklaaGreat.W
open Go Go.Ev Go.Wide

/-- Below 2^k without its sign. -/
def Sm (k : Nat) (z : Int) : Prop := z.natAbs < 2 ^ k
theorem Sm.mono {j k : Nat} {z : Int} (h : Sm j z) (hj : j ≤ k) : Sm k z := Nat.lt_of_lt_of_le h (Nat.pow_le_pow_right (by omega) hj)
theorem Sm.neg {k : Nat} {z : Int} (h : Sm k z) : Sm k (-z) := by unfold Sm at *; omega
theorem Sm.add {k : Nat} {a b : Int} (ha : Sm k a) (hb : Sm k b) : Sm (k + 1) (a + b) := by
  unfold Sm at *
  rw [Nat.pow_succ]
  omega
theorem Sm.sub {k : Nat} {a b : Int} (ha : Sm k a) (hb : Sm k b) : Sm (k + 1) (a - b) := by
  unfold Sm at *
  rw [Nat.pow_succ]
  omega
theorem Sm.mul {j k : Nat} {a b : Int} (ha : Sm j a) (hb : Sm k b) : Sm (j + k) (a * b) := by
  unfold Sm at *
  rw [Int.natAbs_mul, Nat.pow_add]
  exact Nat.mul_lt_mul'' ha hb
theorem Sm.hi {k : Nat} {z : Int} (h : Sm k z) (hk : k ≤ 1023 := by omega) : z.natAbs < Hi := bitLen_Hi.1 (Nat.le_trans (bitLen_lt_iff.2 h) hk)
theorem Sm.wf {k : Nat} {z : Int} (h : Sm k z) (hk : k ≤ 1023 := by omega) : WF (some z) := fun y e => by cases e; exact h.hi hk
theorem Sm.i64 {z : Int} (h0 : -9223372036854775808 ≤ z) (h1 : z ≤ 9223372036854775807) : Sm 64 z := by
  unfold Sm
  have : (2 : Nat) ^ 64 = 18446744073709551616 := by decide
  omega
/-- A number of the program that is not over. -/
def wz (z : Int) : Value := wv (some z)
theorem wz_eq (z : Int) : wz z = wR false z.natAbs (decide (z < 0)) := rfl
theorem flat_wz (z : Int) : flat (wz z) = true := flat_wv _
theorem of_wz {n : Int} (h0 : -9223372036854775808 ≤ n) (h1 : n ≤ 9223372036854775807) : PC Tryz.prog 9 [.int .i64 n] (wz n) := of_pc h0 h1
theorem mul_wz {j k : Nat} {a b : Int} (ha : Sm j a) (hb : Sm k b) (hk : j + k ≤ 1023 := by omega) : PC Tryz.prog 12 [wz a, wz b] (wz (a * b)) := by
  have h := mul_pc (ha.wf (by omega)) (hb.wf (by omega))
  have e : wmul (some a) (some b) = some (a * b) := clamp_eq ((ha.mul hb).hi hk)
  rw [e] at h
  exact h
theorem add_wz {k : Nat} {a b : Int} (ha : Sm k a) (hb : Sm k b) (hk : k < 1023 := by omega) : PC Tryz.prog 11 [wz a, wz b] (wz (a + b)) := by
  have h := add_pc (ha.wf (by omega)) (hb.wf (by omega))
  have e : wadd (some a) (some b) = some (a + b) := clamp_eq ((ha.add hb).hi (by omega))
  rw [e] at h
  exact h
theorem sub_wz {k : Nat} {a b : Int} (ha : Sm k a) (hb : Sm k b) (hk : k < 1023 := by omega) : PC Tryz.prog 59 [wz a, wz b] (wz (a - b)) := by
  have h := sub_pc (ha.wf (by omega)) (hb.wf (by omega))
  have e : wsub (some a) (some b) = some (a - b) := by
    show clamp (a + -b) = _
    rw [clamp_eq ((ha.add hb.neg).hi (by omega)), Int.sub_eq_add_neg]
  rw [e] at h
  exact h
theorem shl_wz {k : Nat} {a : Int} (ha : Sm k a) (hk : k < 1023 := by omega) : PC Tryz.prog 15 [wz a, .int .i64 1] (wz (2 * a)) := by
  have h := shift_pc (k := 1) (ha.wf (by omega)) (by omega) (by omega)
  have e : wshift (some a) 1 = some (2 * a) := by
    show clamp (a * 2) = _
    have h2 : a * 2 = a + a := by omega
    rw [h2, clamp_eq ((ha.add ha).hi (by omega)), show a + a = 2 * a by omega]
  rw [e] at h
  exact h
theorem sign_wz {k : Nat} {a : Int} (ha : Sm k a) (hk : k ≤ 1023 := by omega) : PC Tryz.prog 23 [wz a] (.int .i64 (signI (some a))) := sign_pc (ha.wf hk)
theorem signI_nonneg {a : Int} : (signI (some a) ≥ 0) ↔ 0 ≤ a := by
  simp only [signI]
  split
  · omega
  · split <;> omega
end Go.Proofs.YtljolfnpncjklaaGreat.W
/-! The program's Int64. -/
namespace Go.Proofs.YtljolfnpncjklaaGreat.W
open Go Go.Ev Go.Wide

def fits64 (z : Int) : Bool := decide (-9223372036854775808 ≤ z) && decide (z ≤ 9223372036854775807)
def wint : Option Int → Value
  | none => .tuple #[.int .i64 0, .bool false]
  | some z => match fits64 z with
    | true => .tuple #[.int .i64 z, .bool true]
    | false => .tuple #[.int .i64 0, .bool false]
def lim (s : Bool) : Int := match s with | true => 9223372036854775808 | false => 9223372036854775807
theorem int64O_key : evFn3 Tryz.prog Tryz.f122 400 [wR true 0 false] [] = some (true, [], .tuple #[.int .i64 0, .bool false]) := by kernel_rfl
theorem int64A_key (M n : Nat) (s : Bool) : evFn3 Tryz.prog Tryz.f122 400 [wR false M s] [.res (.int .i64 n), .tst true] =
    some (conj [decide ((n : Int) > 1)], [QC Tryz.prog 81 [mag M] (.int .i64 n)], .tuple #[.int .i64 0, .bool false]) := by cases s <;> kernel_rfl
theorem int64B_key (M n : Nat) (s : Bool) : evFn3 Tryz.prog Tryz.f122 400 [wR false M s] [.res (.int .i64 n), .tst false, .tst true] =
    some (conj [!decide ((n : Int) > 1), decide ((wd M 0 : Int) > lim s)], [QC Tryz.prog 81 [mag M] (.int .i64 n)], .tuple #[.int .i64 0, .bool false]) := by cases s <;> kernel_rfl
theorem int64C_key (M n : Nat) (s : Bool) : evFn3 Tryz.prog Tryz.f122 400 [wR false M s] [.res (.int .i64 n), .tst false, .tst false] =
    some (conj [!decide ((n : Int) > 1), !decide ((wd M 0 : Int) > lim s)], [QC Tryz.prog 81 [mag M] (.int .i64 n)],
      .tuple #[.int .i64 (match s with | true => IntKind.i64.wrap (IntKind.u64.wrap (0 - (wd M 0 : Int))) | false => IntKind.i64.wrap (wd M 0)), .bool true]) := by cases s <;> kernel_rfl
theorem i64_wrap_back (x : Int) (h0 : 0 ≤ x) (h1 : x ≤ 9223372036854775808) : IntKind.i64.wrap (IntKind.u64.wrap (0 - x)) = -x := by
  rw [u64_wrap]
  by_cases hz : x = 0
  · subst hz; rfl
  · have e : (0 - x) % 18446744073709551616 = 18446744073709551616 - x := by omega
    rw [e]
    rw [IntKind.wrap_i64]; omega
theorem int64_pc {A : Option Int} (hA : WF A) : PC Tryz.prog 122 [wv A] (wint A) := by
  cases A with
  | none => exact PC.of_ev3 mixed Tryz.func122 400 [] int64O_key (by simp [flat_wv]) rfl trivial rfl rfl
  | some z =>
    have hz := hA z rfl
    have hT := Hi_T16
    have hw := wordLen_pc (N := z.natAbs) (by omega)
    have hfl : [wv (some z)].all flat = true := by simp [flat_wv]
    have hlim : lim (decide (z < 0)) = if z < 0 then 9223372036854775808 else 9223372036854775807 := by
      by_cases h : z < 0
      · rw [decide_eq_true h, if_pos h]; rfl
      · rw [decide_eq_false h, if_neg h]; rfl
    by_cases h1 : nw z.natAbs > 1
    · refine PC.of_ev3 mixed Tryz.func122 400 _ (int64A_key z.natAbs (nw z.natAbs) (decide (z < 0))) hfl (by rw [conj_cons, conj_nil, decide_eq_true (by omega)]; rfl) ⟨QC.of_pc enters_wordLen hw, trivial⟩ rfl ?_
      have hb : ¬ z.natAbs < 18446744073709551616 := fun h => by
        have := nw_le (N := z.natAbs) (k := 1) h
        omega
      have : fits64 z = false := by
        unfold fits64
        by_cases h : z < 0
        · rw [decide_eq_false (show ¬ -9223372036854775808 ≤ z by omega)]; rfl
        · rw [decide_eq_false (show ¬ z ≤ 9223372036854775807 by omega), Bool.and_false]
      simp only [wint, this]
    · have hlt : z.natAbs < 18446744073709551616 := by
        have h2 := lt_nw z.natAbs
        exact Nat.lt_of_lt_of_le h2 (show 2 ^ (64 * nw z.natAbs) ≤ 2 ^ 64 from Nat.pow_le_pow_right (by omega) (by omega))
      have h0 : wd z.natAbs 0 = z.natAbs := by
        unfold wd
        rw [Nat.mul_zero, Nat.pow_zero, Nat.div_one, Nat.mod_eq_of_lt hlt]
      by_cases h3 : (z.natAbs : Int) > lim (decide (z < 0))
      · refine PC.of_ev3 mixed Tryz.func122 400 _ (int64B_key z.natAbs (nw z.natAbs) (decide (z < 0))) hfl (by rw [conj_cons, conj_cons, conj_nil, h0, decide_eq_false (by omega), decide_eq_true h3]; rfl) ⟨QC.of_pc enters_wordLen hw, trivial⟩ rfl ?_
        have : fits64 z = false := by
          rw [hlim] at h3
          unfold fits64
          by_cases h : z < 0
          · rw [if_pos h] at h3
            rw [decide_eq_false (show ¬ -9223372036854775808 ≤ z by omega)]; rfl
          · rw [if_neg h] at h3
            rw [decide_eq_false (show ¬ z ≤ 9223372036854775807 by omega), Bool.and_false]
        simp only [wint, this]
      · refine PC.of_ev3 mixed Tryz.func122 400 _ (int64C_key z.natAbs (nw z.natAbs) (decide (z < 0))) hfl (by rw [conj_cons, conj_cons, conj_nil, h0, decide_eq_false (by omega), decide_eq_false h3]; rfl) ⟨QC.of_pc enters_wordLen hw, trivial⟩ rfl ?_
        rw [hlim] at h3
        rw [h0]
        by_cases h : z < 0
        · rw [if_pos h] at h3
          have : fits64 z = true := by
            unfold fits64
            rw [decide_eq_true (show -9223372036854775808 ≤ z by omega), decide_eq_true (show z ≤ 9223372036854775807 by omega)]; rfl
          simp only [wint, this]
          rw [decide_eq_true h]
          simp only
          rw [i64_wrap_back _ (by omega) (by omega), show -(z.natAbs : Int) = z by omega]
        · rw [if_neg h] at h3
          have : fits64 z = true := by
            unfold fits64
            rw [decide_eq_true (show -9223372036854775808 ≤ z by omega), decide_eq_true (show z ≤ 9223372036854775807 by omega)]; rfl
          simp only [wint, this]
          rw [decide_eq_false h]
          simp only
          rw [i64_wrap (by omega) (by omega), show (z.natAbs : Int) = z by omega]
theorem enters_int64 : ∀ us w, (callFunc 122 us).run Tryz.prog w = .ok (.enter 122 us) w := enters Tryz.func122 rfl (by kernel_rfl)
end Go.Proofs.YtljolfnpncjklaaGreat.W
