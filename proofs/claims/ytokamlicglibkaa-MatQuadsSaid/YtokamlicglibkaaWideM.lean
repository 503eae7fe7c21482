/-
  The program's digit and Text.
-/
import Derived.Test.YtokamlicglibkaaWideL
namespace Go.Proofs.Ytokamlicglibkaa.W
open Go Go.Ev Go.Wide

/-! ### digit -/
def andI (x y : Int) : Int := IntKind.u64.wrap (BitVec.ofInt 64 x &&& BitVec.ofInt 64 y).toNat
theorem digit_key (N p x : Nat) : evFn3 Try.prog Try.f33 400 [mag N, .int .i64 p] [.at 3 (.int .i64 ((p / 16 : Nat) : Int)), .is 1 (.int .u64 x), .at 1 (.int .i64 ((p % 16 : Nat) : Int)), .at 0 (.int .i64 ((4 * (p % 16) : Nat) : Int))] =
    some (conj [decide (IntKind.i64.wrap ((p : Int).tdiv 16) = ((p / 16 : Nat) : Int)), decide (((p / 16 : Nat) : Int) < 16), decide (0 + ((p / 16 : Nat) : Int).toNat * 1 < 16), decide ((p : Int).tmod 16 = ((p % 16 : Nat) : Int)), decide (IntKind.i64.wrap (4 * ((p % 16 : Nat) : Int)) = ((4 * (p % 16) : Nat) : Int))],
      [(words N).getD (0 + ((p / 16 : Nat) : Int).toNat * 1) undef = .int .u64 x], .int .u64 (andI (shrI x ((4 * (p % 16) : Nat) : Int)) 15)) := by kernel_rfl

theorem andI_15 {x : Nat} (hx : x < 18446744073709551616) : andI x 15 = ((x % 16 : Nat) : Int) := by
  unfold andI
  have e1 : (BitVec.ofInt 64 (x : Int)).toNat = x := by rw [BitVec.toNat_ofInt]; omega
  have e2 : (BitVec.ofInt 64 (15 : Int)).toNat = 15 := rfl
  rw [BitVec.toNat_and, e1, e2, u64_wrap]
  have : x &&& 15 = x % 16 := Nat.and_two_pow_sub_one_eq_mod x 4
  rw [this]
  omega
/-- The hexadecimal digit at a place. -/
def hexd (N p : Nat) : Nat := N / 2 ^ (4 * p) % 16
theorem wd_hexd (N p : Nat) : wd N (p / 16) / 2 ^ (4 * (p % 16)) % 16 = hexd N p := by
  unfold wd hexd
  have e : N / 2 ^ (4 * p) = N / 2 ^ (64 * (p / 16)) / 2 ^ (4 * (p % 16)) := by
    rw [Nat.div_div_eq_div_mul, ← Nat.pow_add, show 64 * (p / 16) + 4 * (p % 16) = 4 * p by omega]
  rw [e]
  generalize N / 2 ^ (64 * (p / 16)) = Q
  have h : 4 * (p % 16) ≤ 60 := by omega
  generalize 4 * (p % 16) = k at *
  have e2 : (18446744073709551616 : Nat) = 2 ^ k * (16 * 2 ^ (60 - k)) := by
    have : (16 : Nat) = 2 ^ 4 := rfl
    rw [this, ← Nat.pow_add, ← Nat.pow_add, show k + (4 + (60 - k)) = 64 by omega]
  rw [e2, Nat.mod_mul_right_div_self, Nat.mod_mul_right_mod]
theorem digit_pc {N p : Nat} (hp : p < 256) : PC Try.prog 33 [mag N, .int .i64 p] (.int .u64 (hexd N p)) := by
  have hx := wd_lt N (p / 16)
  refine PC.of_ev3 mixed Try.func33 400 _ (digit_key N p (wd N (p / 16))) (by simp [flat_mag]; rfl) ?_ ⟨getD_map (by omega), trivial⟩ rfl ?_
  · have w1 : IntKind.i64.wrap ((p : Int).tdiv 16) = ((p / 16 : Nat) : Int) := by
      rw [Int.tdiv_eq_ediv_of_nonneg (by omega), i64_wrap (by omega) (by omega)]; omega
    have w2 : (p : Int).tmod 16 = ((p % 16 : Nat) : Int) := by rw [Int.tmod_eq_emod_of_nonneg (by omega)]; omega
    have w3 : IntKind.i64.wrap (4 * ((p % 16 : Nat) : Int)) = ((4 * (p % 16) : Nat) : Int) := by rw [i64_wrap (by omega) (by omega)]; omega
    simp only [conj_cons, conj_nil, Bool.and_eq_true, decide_eq_true_eq, w1, w2, w3, true_and, and_true, Int.toNat_natCast]
    omega
  · rw [shrI_eq _ _ (by omega), andI_15 (Nat.lt_of_le_of_lt (Nat.div_le_self _ _) hx), wd_hexd]
theorem enters_digit : ∀ us w, (callFunc 33 us).run Try.prog w = .ok (.enter 33 us) w := enters Try.func33 rfl (by kernel_rfl)

/-! ### Text -/
def hexS : ByteArray := ⟨#[48, 49, 50, 51, 52, 53, 54, 55, 56, 57, 97, 98, 99, 100, 101, 102]⟩
def chr (d : Nat) : Int := (hexS.data.getD ((d : Nat) : Int).toNat 0).toNat
def wordsB (M : Nat) (s : Bool) : List Value := (List.range 16).map (fun i => Value.int .u64 (wd M i)) ++ [Value.bool s, Value.bool false]
def txM (M : Nat) (s : Bool) (q : List Value) : Mem := ⟨wordsB M s, 36, true⟩ :: ⟨q, 5, true⟩ :: (match s with | true => [⟨[.int .u8 45], 5, true⟩] | false => [])
def txS (M : Nat) (s : Bool) (len cap : Nat) (pl : Int) (q : List Value) : St := ⟨slots 39 [(1, ptr 0), (4, .slice (some ⟨1, 0, none⟩) len cap), (5, .int .i64 pl)], txM M s q⟩
def txL : List Nat := [1, 4, 5]
def txN (s : Bool) : Nat := match s with | true => 3 | false => 2
theorem tx_key (M : Nat) (s : Bool) (len cap d : Nat) (pl pl' : Int) (q : List Value) : evK Try.prog (loopN Try.f16 0) 400 txL (txN s) (txS M s len cap pl q) [.tst true, .res (.int .u64 d), .at 6 (.int .i64 pl')] =
    some (conj [decide (pl ≥ 0), decide (((d : Nat) : Int).toNat < 16), decide (len + 1 ≤ cap) && decide (0 + 1 * 1 ≤ 1) && decide (0 + len * 1 + 1 * 1 ≤ q.length), decide (IntKind.i64.wrap (pl - 1) = pl'), (q.set (0 + len * 1) (.int .u8 (chr d))).all (noNew1 (txN s))],
      [QC Try.prog 33 [mag M, .int .i64 pl] (.int .u64 d)], .normal, txS M s (len + 1) cap pl' (q.set (0 + len * 1) (.int .u8 (chr d)))) := by cases s <;> kernel_rfl
theorem tx_end (M : Nat) (s : Bool) (len cap : Nat) (pl : Int) (q : List Value) : evK Try.prog (loopN Try.f16 0) 400 txL (txN s) (txS M s len cap pl q) [.tst false] =
    some (conj [!decide (pl ≥ 0), q.all (noNew1 (txN s))], [], .exit 0, txS M s len cap pl q) := by cases s <;> kernel_rfl
def txQ (L : Nat) (s : Bool) : List Value := match s with | true => (List.replicate ((L + 1 : Nat) : Int).toNat (Value.int .u8 0)).set (0 + 0 * 1) (.int .u8 45) | false => List.replicate ((L + 1 : Nat) : Int).toNat (Value.int .u8 0)
def sLen (s : Bool) : Nat := match s with | true => 1 | false => 0
def lenI (b : Int) : Int := if IntKind.i64.wrap ((IntKind.i64.wrap (IntKind.i64.wrap (b + 4) - 1)).tdiv 4) > 1 then IntKind.i64.wrap ((IntKind.i64.wrap (IntKind.i64.wrap (b + 4) - 1)).tdiv 4) else 1
theorem text_key (M L b len : Nat) (s : Bool) (q : List Value) : evFn3 Try.prog Try.f16 400 [wR false M s] [.res (.int .i64 b), .at 4 (.int .i64 L), .at 2 (.int .i64 ((L + 1 : Nat) : Int)), .cut txL (.exit 0) (txS M s len (L + 1) (-1) q)] =
    some (conj ([decide (lenI b = (L : Int)), decide (IntKind.i64.wrap ((L : Int) + 1) = ((L + 1 : Nat) : Int)), Nat.ble (1 * ((L + 1 : Nat) : Int).toNat) 281474976710656 && Nat.ble ((L + 1 : Nat) : Int).toNat 281474976710656] ++
        (match s with | true => [decide (0 + 1 ≤ ((L + 1 : Nat) : Int).toNat) && decide (0 + 1 * 1 ≤ 1) && decide (0 + 0 * 1 + 1 * 1 ≤ (List.replicate ((L + 1 : Nat) : Int).toNat (Value.int .u8 0)).length)] | false => []) ++
        [decide (0 + len ≤ q.length) && ((q.drop 0).take len).all isByte]),
      [QC Try.prog 32 [mag M] (.int .i64 b), TriL Try.prog (loopN Try.f16 0) (txS M s (sLen s) (L + 1) (IntKind.i64.wrap ((L : Int) - 1)) (txQ L s)) (to (.exit 0) (txS M s len (L + 1) (-1) q))],
      .string (strOf (((q.drop 0).take len).map intOf))) := by cases s <;> kernel_rfl
theorem textO_key : evFn3 Try.prog Try.f16 400 [wR true 0 false] [] = some (true, [], .string ⟨#[111, 118, 101, 114]⟩) := by kernel_rfl

/-- The character at place t of a text: a sign, then L digits. -/
def tc (M L : Nat) (s : Bool) (t : Nat) : Int := match decide (t < sLen s) with | true => 45 | false => chr (hexd M (L - 1 - (t - sLen s)))
def txq (M L : Nat) (s : Bool) (i : Nat) : List Value := (List.range (L + 1)).map fun t => Value.int .u8 (match decide (t < sLen s + i) with | true => tc M L s t | false => 0)
theorem txq_zero (M L : Nat) (s : Bool) : txQ L s = txq M L s 0 := by
  have hrep : List.replicate ((L + 1 : Nat) : Int).toNat (Value.int .u8 0) = (List.range (L + 1)).map fun _ => Value.int .u8 0 := by
    rw [Int.toNat_natCast, List.map_const', List.length_range]
  cases s with
  | false =>
    show List.replicate _ _ = _
    rw [hrep]
    unfold txq
    refine List.map_congr_left fun t _ => ?_
    rw [decide_eq_false (show ¬ t < sLen false + 0 from Nat.not_lt_zero t)]
  | true =>
    show (List.replicate _ _).set (0 + 0 * 1) _ = _
    rw [hrep, map_set]
    unfold txq
    refine List.map_congr_left fun t _ => ?_
    by_cases h : t = 0 + 0 * 1
    · rw [if_pos h]
      subst h
      rfl
    · rw [if_neg h, decide_eq_false (show ¬ t < sLen true + 0 by simp only [sLen]; omega)]
theorem txq_succ (M L : Nat) (s : Bool) (i : Nat) : (txq M L s i).set (0 + (sLen s + i) * 1) (.int .u8 (chr (hexd M (L - 1 - i)))) = txq M L s (i + 1) := by
  unfold txq
  rw [map_set]
  refine List.map_congr_left fun t _ => ?_
  by_cases h : t = 0 + (sLen s + i) * 1
  · rw [if_pos h, decide_eq_true (by omega)]
    unfold tc
    rw [decide_eq_false (by omega), show t - sLen s = i by omega]
  · rw [if_neg h]
    by_cases h1 : t < sLen s + i
    · rw [decide_eq_true h1, decide_eq_true (by omega)]
    · rw [decide_eq_false h1, decide_eq_false (by omega)]
theorem all_ints {α : Type} (p : Value → Bool) (f : α → Int) (h : ∀ x, p (Value.int .u8 x) = true) (l : List α) : (l.map fun t => Value.int .u8 (f t)).all p = true := by
  rw [List.all_map, List.all_eq_true]
  intro t _
  exact h _
theorem txq_all (M L : Nat) (s : Bool) (i n : Nat) : (txq M L s i).all (noNew1 n) = true := all_ints _ _ (fun _ => rfl) _
theorem txq_length (M L : Nat) (s : Bool) (i : Nat) : (txq M L s i).length = L + 1 := by unfold txq; simp
theorem sLen_le (s : Bool) : sLen s ≤ 1 := by cases s <;> simp [sLen]
theorem tx_loop (M L : Nat) (s : Bool) (h1 : 1 ≤ L) (h2 : L ≤ 256) :
    TriL Try.prog (loopN Try.f16 0) (txS M s (sLen s) (L + 1) (IntKind.i64.wrap ((L : Int) - 1)) (txQ L s)) (to (.exit 0) (txS M s (sLen s + L) (L + 1) (-1) (txq M L s L))) := by
  have hs := sLen_le s
  have h := TriL.count (P := Try.prog) (c := loopN Try.f16 0) (e := .exit 0) (fun i => txS M s (sLen s + i) (L + 1) ((L : Int) - 1 - i) (txq M L s i)) (S' := txS M s (sLen s + L) (L + 1) ((L : Int) - 1 - L) (txq M L s L)) (by simp) L (fun i hi => ?_)
    (Tri.of_evK mixed 400 txL (txN s) [.tst false] (tx_end M s (sLen s + L) (L + 1) ((L : Int) - 1 - L) (txq M L s L)) (by rw [conj_cons, conj_cons, conj_nil, txq_all, decide_eq_false (by omega)]; rfl) trivial)
  · rw [txq_zero M L s, i64_wrap (by omega) (by omega)]
    rw [show ((L : Int) - 1 - L) = -1 by omega] at h
    simpa using h
  · have hd := digit_pc (N := M) (p := L - 1 - i) (by omega)
    rw [show ((L - 1 - i : Nat) : Int) = (L : Int) - 1 - i by omega] at hd
    have key := tx_key M s (sLen s + i) (L + 1) (hexd M (L - 1 - i)) ((L : Int) - 1 - i) ((L : Int) - 1 - (i + 1 : Nat)) (txq M L s i)
    rw [txq_succ] at key
    refine Tri.of_evK mixed 400 txL (txN s) _ key ?_ ⟨QC.of_pc enters_digit hd, trivial⟩
    have hx : hexd M (L - 1 - i) < 16 := Nat.mod_lt _ (by omega)
    have w1 : IntKind.i64.wrap ((L : Int) - 1 - i - 1) = (L : Int) - 1 - (i + 1 : Nat) := by rw [i64_wrap (by omega) (by omega)]; omega
    simp only [conj_cons, conj_nil, Bool.and_eq_true, decide_eq_true_eq, w1, and_true, Int.toNat_natCast, txq_all, txq_length, Bool.and_true]
    omega
/-- How many hexadecimal digits a number has. -/
def hexLen (M : Nat) : Nat := if (bitLen M + 3) / 4 ≤ 1 then 1 else (bitLen M + 3) / 4
def textB : Option Int → ByteArray
  | none => ⟨#[111, 118, 101, 114]⟩
  | some z => strOf ((List.range (sLen (decide (z < 0)) + hexLen z.natAbs)).map (tc z.natAbs (hexLen z.natAbs) (decide (z < 0))))
theorem lenI_eq {b : Nat} (h : b ≤ 1023) : lenI b = ((if (b + 3) / 4 ≤ 1 then 1 else (b + 3) / 4 : Nat) : Int) := by
  unfold lenI
  have w1 : IntKind.i64.wrap ((b : Int) + 4) = b + 4 := i64_wrap (by omega) (by omega)
  have w2 : IntKind.i64.wrap ((b : Int) + 4 - 1) = b + 3 := by rw [i64_wrap (by omega) (by omega)]; omega
  have w3 : ((b : Int) + 3).tdiv 4 = (((b + 3) / 4 : Nat) : Int) := by rw [Int.tdiv_eq_ediv_of_nonneg (by omega)]; omega
  have w4 : IntKind.i64.wrap (((b + 3) / 4 : Nat) : Int) = (((b + 3) / 4 : Nat) : Int) := i64_wrap (by omega) (by omega)
  rw [w1, w2, w3, w4]
  split <;> split <;> omega
theorem text_pc {A : Option Int} (hA : WF A) : PC Try.prog 16 [wv A] (.string (textB A)) := by
  cases A with
  | none => exact PC.of_ev3 mixed Try.func16 400 [] textO_key (by simp [flat_wv]) rfl trivial rfl rfl
  | some z =>
    have hz := hA z rfl
    have hT := Hi_T16
    have hb := bitLen_pc (N := z.natAbs) (by omega)
    have hb2 : bitLen z.natAbs ≤ 1023 := bitLen_Hi.2 hz
    have hfl : [wv (some z)].all flat = true := by simp [flat_wv]
    have hL : hexLen z.natAbs = if (bitLen z.natAbs + 3) / 4 ≤ 1 then 1 else (bitLen z.natAbs + 3) / 4 := rfl
    have hLI := lenI_eq hb2
    rw [← hL] at hLI
    have h1 : 1 ≤ hexLen z.natAbs := by rw [hL]; split <;> omega
    have h2 : hexLen z.natAbs ≤ 256 := by rw [hL]; split <;> omega
    rw [show Value.string (textB (some z)) = .string (strOf ((List.range (sLen (decide (z < 0)) + hexLen z.natAbs)).map (tc z.natAbs (hexLen z.natAbs) (decide (z < 0))))) from rfl]
    generalize hexLen z.natAbs = L at *
    have hloop := tx_loop z.natAbs L (decide (z < 0)) h1 h2
    have key := text_key z.natAbs L (bitLen z.natAbs) (sLen (decide (z < 0)) + L) (decide (z < 0)) (txq z.natAbs L (decide (z < 0)) L)
    have htk : ((txq z.natAbs L (decide (z < 0)) L).drop 0).take (sLen (decide (z < 0)) + L) = (List.range (sLen (decide (z < 0)) + L)).map fun t => Value.int .u8 (tc z.natAbs L (decide (z < 0)) t) := by
      have := sLen_le (decide (z < 0))
      unfold txq
      rw [List.drop_zero, ← List.map_take, List.take_range, Nat.min_eq_left (by omega)]
      refine List.map_congr_left fun t ht => ?_
      rw [decide_eq_true (by simpa using ht)]
    rw [htk] at key
    refine PC.of_ev3 mixed Try.func16 400 _ key hfl ?_ ⟨QC.of_pc enters_bitLen hb, hloop, trivial⟩ rfl ?_
    · have hs := sLen_le (decide (z < 0))
      have w1 : IntKind.i64.wrap ((L : Int) + 1) = ((L + 1 : Nat) : Int) := by rw [i64_wrap (by omega) (by omega)]; omega
      have w2 : ((List.range (sLen (decide (z < 0)) + L)).map fun t => Value.int .u8 (tc z.natAbs L (decide (z < 0)) t)).all isByte = true := all_ints _ _ (fun _ => rfl) _
      have w3 : Nat.ble (1 * ((L + 1 : Nat) : Int).toNat) 281474976710656 = true := Nat.ble_eq_true_of_le (by rw [Int.toNat_natCast]; omega)
      have w4 : Nat.ble ((L + 1 : Nat) : Int).toNat 281474976710656 = true := Nat.ble_eq_true_of_le (by rw [Int.toNat_natCast]; omega)
      rw [hLI, w1, w2, w3, w4, txq_length, decide_eq_true rfl, decide_eq_true rfl, decide_eq_true (show 0 + (sLen (decide (z < 0)) + L) ≤ L + 1 by omega)]
      cases decide (z < 0)
      · rfl
      · rw [List.length_replicate, Int.toNat_natCast, decide_eq_true (show 0 + 1 ≤ L + 1 by omega)]
        rfl
    · rw [List.map_map]
      rfl
theorem enters_text : ∀ us w, (callFunc 16 us).run Try.prog w = .ok (.enter 16 us) w := enters Try.func16 rfl (by kernel_rfl)
end Go.Proofs.Ytokamlicglibkaa.W
