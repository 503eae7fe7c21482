/-
  The program's times: two loops.
-/
import Derived.Test.YtjmdppnhpfdhdaaWideJ
import Derived.Test.YtjmdppnhpfdhdaaWideK
namespace Go.Proofs.Ytjmdppnhpfdhdaa.W
open Go Go.Ev Go.Wide

def m32 (p : Nat → Nat) : List Value := (List.range 32).map fun i => .int .u64 (p i)
theorem map_set {f : Nat → Value} {n k : Nat} {v : Value} : ((List.range n).map f).set k v = (List.range n).map fun t => if t = k then v else f t := by
  apply List.ext_getElem
  · simp
  · intro t h1 h2
    rw [List.getElem_set]
    simp only [List.getElem_map, List.getElem_range]
    by_cases h : k = t
    · rw [if_pos h, if_pos h.symm]
    · rw [if_neg h, if_neg (fun e => h e.symm)]
theorem set32 (p : Nat → Nat) (k v : Nat) : (m32 p).set (0 + ((k : Nat) : Int).toNat * 1) (.int .u64 v) = m32 (fun t => if t = k then v else p t) := by
  unfold m32
  rw [map_set, Int.toNat_natCast, Nat.zero_add, Nat.mul_one]
  refine List.map_congr_left fun i _ => ?_
  by_cases h : i = k
  · rw [if_pos h]; simp only [if_pos h]
  · rw [if_neg h]; simp only [if_neg h]
theorem getD_map {f : Nat → Value} {n k : Nat} (h : k < n) : ((List.range n).map f).getD (0 + ((k : Nat) : Int).toNat * 1) undef = f k := by
  rw [Int.toNat_natCast, Nat.zero_add, Nat.mul_one, List.getD_eq_getElem?_getD, List.getElem?_map, List.getElem?_range h]
  rfl

def tmem (M N : Nat) (q : List Value) : Mem := [⟨words M, 58, true⟩, ⟨words N, 58, true⟩, ⟨List.replicate 16 (.int .u64 0), 58, true⟩, ⟨q, 116, true⟩]
def ptr (k : Nat) : Value := .pointer (some ⟨k, 0, none⟩)
def outS (M N r c i : Nat) (q : List Value) : St := ⟨slots 64 [(2, ptr 0), (3, ptr 1), (4, ptr 2), (6, ptr 3), (8, .int .i64 c), (18, .int .i64 r), (19, .int .i64 i)], tmem M N q⟩
def inS (M N r c i j k : Nat) (q : List Value) : St := ⟨slots 64 [(2, ptr 0), (3, ptr 1), (4, ptr 2), (6, ptr 3), (8, .int .i64 c), (9, .int .i64 i), (10, .int .u64 k), (18, .int .i64 r), (19, .int .i64 i), (22, .int .i64 c), (23, .int .i64 j)], tmem M N q⟩
def outL : List Nat := [2, 3, 4, 6, 8, 18, 19]
def inL : List Nat := [2, 3, 4, 6, 8, 9, 10, 18, 19, 22, 23]
def inAns (x y z lo hi i j : Nat) : List Ans := [.tst true, .at 4 (.int .i64 ((i + j : Nat) : Int)), .is 2 (.int .u64 x), .is 2 (.int .u64 y), .at 2 (.int .i64 ((i + j : Nat) : Int)), .is 1 (.int .u64 z), .res (.tuple #[.int .u64 lo, .int .u64 hi]), .at 7 (.int .i64 ((j + 1 : Nat) : Int))]
def inOk (c i j : Nat) : List Bool := [decide ((j : Int) < (c : Int)), decide (IntKind.i64.wrap ((i : Int) + (j : Int)) = ((i + j : Nat) : Int)), decide ((i : Int) < 16), decide (0 + (i : Int).toNat * 1 < 16), decide ((j : Int) < 16), decide (0 + (j : Int).toNat * 1 < 16),
  decide (IntKind.i64.wrap ((i : Int) + (j : Int)) = ((i + j : Nat) : Int)), decide (((i + j : Nat) : Int) < 32), decide (0 + ((i + j : Nat) : Int).toNat * 1 < 32), decide (((i + j : Nat) : Int) < 32), decide (0 + ((i + j : Nat) : Int).toNat * 1 < 32), decide (IntKind.i64.wrap ((j : Int) + 1) = ((j + 1 : Nat) : Int))]
theorem in_key (M N r c i j k x y z lo hi : Nat) (p : Nat → Nat) : evM Try.prog (loopN Try.f85 1) 400 inL (inS M N r c i j k (m32 p)) (inAns x y z lo hi i j) =
    some (conj (inOk c i j), [(words M).getD (0 + ((i : Nat) : Int).toNat * 1) undef = .int .u64 x, (words N).getD (0 + ((j : Nat) : Int).toNat * 1) undef = .int .u64 y, (m32 p).getD (0 + ((i + j : Nat) : Int).toNat * 1) undef = .int .u64 z,
      QC Try.prog 96 [.int .u64 x, .int .u64 y, .int .u64 z, .int .u64 k] (.tuple #[.int .u64 lo, .int .u64 hi])], .normal, inS M N r c i (j + 1) hi ((m32 p).set (0 + ((i + j : Nat) : Int).toNat * 1) (.int .u64 lo))) := by kernel_rfl
theorem in_end (M N r c i j k : Nat) (p : Nat → Nat) : evM Try.prog (loopN Try.f85 1) 400 inL (inS M N r c i j k (m32 p)) [.tst false] =
    some (conj [!decide ((j : Int) < (c : Int))], [], .exit 2, inS M N r c i j k (m32 p)) := by kernel_rfl
theorem out_key (M N r c i k : Nat) (p p' : Nat → Nat) : evM Try.prog (loopN Try.f85 0) 400 outL (outS M N r c i (m32 p)) [.tst true, .cut inL (.exit 2) (inS M N r c i c k (m32 p')), .at 2 (.int .i64 ((i + c : Nat) : Int)), .at 3 (.int .i64 ((i + 1 : Nat) : Int))] =
    some (conj [decide ((i : Int) < (r : Int)), decide (IntKind.i64.wrap ((i : Int) + (c : Int)) = ((i + c : Nat) : Int)), decide (((i + c : Nat) : Int) < 32), decide (0 + ((i + c : Nat) : Int).toNat * 1 < 32), decide (IntKind.i64.wrap ((i : Int) + 1) = ((i + 1 : Nat) : Int))],
      [TriL Try.prog (loopN Try.f85 1) (inS M N r c i 0 0 (m32 p)) (to (.exit 2) (inS M N r c i c k (m32 p')))], .normal, outS M N r c (i + 1) ((m32 p').set (0 + ((i + c : Nat) : Int).toNat * 1) (.int .u64 k))) := by kernel_rfl
theorem out_end (M N r c i : Nat) (p : Nat → Nat) : evM Try.prog (loopN Try.f85 0) 400 outL (outS M N r c i (m32 p)) [.tst false] =
    some (conj [!decide ((i : Int) < (r : Int))], [], .exit 0, outS M N r c i (m32 p)) := by kernel_rfl
def fourTo (p : Nat → Nat) (s : Nat) : Value := .agg ((List.range 16).map fun i => Value.int .u64 (p (i + s))).toArray
theorem times_key (M N r c : Nat) (p : Nat → Nat) (z : Bool) : evFn3 Try.prog Try.f85 400 [mag M, mag N] [.res (.int .i64 r), .res (.int .i64 c), .cut outL (.exit 0) (outS M N r c r (m32 p)), .res (.bool z)] =
    some (true, [QC Try.prog 95 [mag M] (.int .i64 r), QC Try.prog 95 [mag N] (.int .i64 c), TriL Try.prog (loopN Try.f85 0) (outS M N r c 0 (m32 fun _ => 0)) (to (.exit 0) (outS M N r c r (m32 p))),
      QC Try.prog 56 [fourTo p 16] (.bool z)], .tuple #[match z with | true => fourTo p 0 | false => .agg (List.replicate 16 (Value.int .u64 0)).toArray, .bool z]) := by cases z <;> kernel_rfl

theorem m32_congr {p p' : Nat → Nat} (h : ∀ t, p t = p' t) : m32 p = m32 p' := by rw [funext h]
theorem mul_in {M N r c : Nat} (hr : r ≤ 16) (hc : c ≤ 16) {i : Nat} (hi : i < r) :
    TriL Try.prog (loopN Try.f85 1) (inS M N r c i 0 0 (m32 fun t => wd (rowP M N i) t)) (to (.exit 2) (inS M N r c i c (carryK M N i c) (m32 fun t => prodW M N i c t))) := by
  have h := TriL.count (P := Try.prog) (c := loopN Try.f85 1) (e := .exit 2) (fun j => inS M N r c i j (carryK M N i j) (m32 fun t => prodW M N i j t)) (by simp) c (fun j hj => ?_)
    (Tri.of_ev mixed 400 inL [.tst false] (in_end M N r c i c (carryK M N i c) fun t => prodW M N i c t) (by rw [conj_cons, conj_nil, decide_eq_false (by omega)]; rfl) trivial)
  · have e : inS M N r c i 0 0 (m32 fun t => wd (rowP M N i) t) = inS M N r c i 0 (carryK M N i 0) (m32 fun t => prodW M N i 0 t) := by
      rw [carryK_zero, m32_congr (prodW_zero M N i)]
    rw [e]; exact h
  · have hk := carryK_lt M N i j
    have hx := wd_lt M i
    have hy := wd_lt N j
    have hz : prodW M N i j (i + j) < 18446744073709551616 := by unfold prodW; split <;> exact wd_lt _ _
    have hzz : prodW M N i j (i + j) = wd (rowP M N i) (i + j) := by unfold prodW; rw [decide_eq_false (by omega)]
    have hm := mulAdd_pc hx hy hz hk
    have hT : wd M i * wd N j + prodW M N i j (i + j) + carryK M N i j = colT M N i j := by rw [hzz]; rfl
    rw [hT] at hm
    have key := in_key M N r c i j (carryK M N i j) (wd M i) (wd N j) (prodW M N i j (i + j)) (colT M N i j % 18446744073709551616) (colT M N i j / 18446744073709551616) (fun t => prodW M N i j t)
    rw [set32, m32_congr (fun t => (prodW_succ M N i j t).symm), ← carryK_succ] at key
    refine Tri.of_ev mixed 400 inL _ key ?_ ⟨getD_map (by omega), getD_map (by omega), getD_map (by omega), ?_, trivial⟩
    · have w1 : IntKind.i64.wrap ((i : Int) + (j : Int)) = ((i + j : Nat) : Int) := by rw [i64_wrap (by omega) (by omega)]; omega
      have w2 : IntKind.i64.wrap ((j : Int) + 1) = ((j + 1 : Nat) : Int) := by rw [i64_wrap (by omega) (by omega)]; omega
      simp only [inOk, conj_cons, conj_nil, Bool.and_eq_true, decide_eq_true_eq, w1, w2, true_and, and_true, Int.toNat_natCast]
      omega
    · rw [carryK_succ]
      exact QC.of_pc enters_mulAdd hm
theorem mul_out {M N r c : Nat} (hr : r ≤ 16) (hc : c ≤ 16) (hN : N < 2 ^ (64 * c)) :
    TriL Try.prog (loopN Try.f85 0) (outS M N r c 0 (m32 fun _ => 0)) (to (.exit 0) (outS M N r c r (m32 fun t => wd (rowP M N r) t))) := by
  have h := TriL.count (P := Try.prog) (c := loopN Try.f85 0) (e := .exit 0) (fun i => outS M N r c i (m32 fun t => wd (rowP M N i) t)) (by simp) r (fun i hi => ?_)
    (Tri.of_ev mixed 400 outL [.tst false] (out_end M N r c r fun t => wd (rowP M N r) t) (by rw [conj_cons, conj_nil, decide_eq_false (by omega)]; rfl) trivial)
  · have e : (m32 fun _ => 0) = m32 fun t => wd (rowP M N 0) t := m32_congr fun t => by
      unfold rowP wd
      rw [Nat.mul_zero, Nat.pow_zero, Nat.mod_one, Nat.zero_mul, Nat.zero_div, Nat.zero_mod]
    rw [e]; exact h
  · have key := out_key M N r c i (carryK M N i c) (fun t => wd (rowP M N i) t) (fun t => prodW M N i c t)
    rw [set32, m32_congr (fun t => prodW_all M N i c t hN)] at key
    refine Tri.of_ev mixed 400 outL _ key ?_ ⟨mul_in hr hc hi, trivial⟩
    have w1 : IntKind.i64.wrap ((i : Int) + (c : Int)) = ((i + c : Nat) : Int) := by rw [i64_wrap (by omega) (by omega)]; omega
    have w2 : IntKind.i64.wrap ((i : Int) + 1) = ((i + 1 : Nat) : Int) := by rw [i64_wrap (by omega) (by omega)]; omega
    simp only [conj_cons, conj_nil, Bool.and_eq_true, decide_eq_true_eq, w1, w2, true_and, and_true, Int.toNat_natCast]
    omega
theorem wd_shift (P s i : Nat) : wd P (i + s) = wd (P / 2 ^ (64 * s)) i := by
  unfold wd
  rw [Nat.div_div_eq_div_mul, ← Nat.pow_add, show 64 * s + 64 * i = 64 * (i + s) by omega]
theorem fourTo_shift (P s : Nat) : fourTo (fun t => wd P t) s = mag (P / 2 ^ (64 * s)) := by
  unfold fourTo mag words
  refine congrArg (fun l : List Value => Value.agg l.toArray) (List.map_congr_left fun i _ => ?_)
  show Value.int .u64 ((wd P (i + s) : Nat) : Int) = _
  rw [wd_shift]
theorem T16_pow {s : Nat} (h : s = 16) : 2 ^ (64 * s) = T16 := by
  have : 64 * s = 64 * 15 + 64 := by omega
  rw [this, T16_eq, pw_eq]
theorem zeros_mag : Value.agg (List.replicate 16 (Value.int .u64 0)).toArray = mag 0 := by
  unfold mag words
  refine congrArg (fun l : List Value => Value.agg l.toArray) ?_
  have e : ∀ i, wd 0 i = 0 := fun i => by unfold wd; rw [Nat.zero_div, Nat.zero_mod]
  simp only [e]
  rfl
theorem times_pc {M N : Nat} (hM : M < T16) (hN : N < T16) : PC Try.prog 85 [mag M, mag N]
    (.tuple #[mag (if M * N < T16 then M * N else 0), .bool (decide (M * N < T16))]) := by
  have hfl : [mag M, mag N].all flat = true := by simp [flat_mag]
  have hr := nw_le16 hM
  have hc := nw_le16 hN
  have hlt : rowP M N (nw M) = M * N := by
    unfold rowP
    rw [Nat.mod_eq_of_lt (lt_nw M)]
  have hT : 0 < T16 := by have := Hi_pos; have := Hi_T16; omega
  obtain ⟨s, hs⟩ : ∃ s, s = 16 := ⟨16, rfl⟩
  have hP : M * N / 2 ^ (64 * s) < T16 := by
    rw [T16_pow hs, Nat.div_lt_iff_lt_mul hT]
    exact Nat.lt_of_le_of_lt (Nat.mul_le_mul_left M (Nat.le_of_lt hN)) (Nat.mul_lt_mul_of_pos_right hM hT)
  have hz := isZero_pc hP
  have hz2 : (M * N / 2 ^ (64 * s) = 0) = (M * N < T16) := by
    rw [T16_pow hs]
    exact propext ⟨fun h => (Nat.div_eq_zero_iff_lt hT).1 h, fun h => Nat.div_eq_of_lt h⟩
  simp only [hz2] at hz
  rw [← fourTo_shift, hs] at hz
  have hout := mul_out (M := M) (N := N) hr hc (lt_nw N)
  rw [hlt] at hout
  have key := times_key M N (nw M) (nw N) (fun t => wd (M * N) t) (decide (M * N < T16))
  refine PC.of_ev3 mixed Try.func85 400 _ key hfl rfl ⟨QC.of_pc enters_wordLen (wordLen_pc hM), QC.of_pc enters_wordLen (wordLen_pc hN), hout, QC.of_pc enters_isZero hz, trivial⟩ ?_ ?_
  · cases decide (M * N < T16) <;> kernel_rfl
  · by_cases h : M * N < T16
    · rw [decide_eq_true h, if_pos h]
      show Value.tuple #[fourTo (fun t => wd (M * N) t) 0, .bool true] = _
      rw [fourTo_shift, Nat.mul_zero, Nat.pow_zero, Nat.div_one]
    · rw [decide_eq_false h, if_neg h]
      show Value.tuple #[.agg (List.replicate 16 (Value.int .u64 0)).toArray, .bool false] = _
      rw [zeros_mag]
theorem enters_times : ∀ us w, (callFunc 85 us).run Try.prog w = .ok (.enter 85 us) w := enters Try.func85 rfl (by kernel_rfl)

/-! ### Mul -/
def wmul : Option Int → Option Int → Option Int
  | some a, some b => clamp (a * b)
  | _, _ => none
theorem wmul_wf (A B : Option Int) : WF (wmul A B) := by
  unfold wmul
  split
  · exact clamp_wf _
  · intro z h; cases h
theorem mulO_key1 (o : Bool) (N : Nat) (t : Bool) : evFn3 Try.prog Try.f71 400 [wR true 0 false, wR o N t] [] = some (true, [], wR true 0 false) := by cases o <;> kernel_rfl
theorem mulO_key2 (N : Nat) (t : Bool) : evFn3 Try.prog Try.f71 400 [wR false N t, wR true 0 false] [] = some (true, [], wR true 0 false) := by kernel_rfl
theorem mulB_key (M N : Nat) (s t : Bool) : evFn3 Try.prog Try.f71 400 [wR false M s, wR false N t] [.res (.tuple #[mag 0, .bool false])] =
    some (true, [QC Try.prog 85 [mag M, mag N] (.tuple #[mag 0, .bool false])], wR true 0 false) := by kernel_rfl
theorem mul_key (M N P L : Nat) (s t o q : Bool) : evFn3 Try.prog Try.f71 400 [wR false M s, wR false N t] [.res (.tuple #[mag P, .bool true]), .res (wR o L q)] =
    some (true, [QC Try.prog 85 [mag M, mag N] (.tuple #[mag P, .bool true]), QC Try.prog 86 [mag P, .bool (!(s == t))] (wR o L q)], wR o L q) := by cases o <;> cases s <;> cases t <;> kernel_rfl
theorem sg_mul (a b : Int) : sg (a.natAbs * b.natAbs) (!(decide (a < 0) == decide (b < 0))) = a * b := by
  have ep : ∀ z : Int, z < 0 → (z.natAbs : Int) = -z := fun z h => by omega
  have en : ∀ z : Int, ¬ z < 0 → (z.natAbs : Int) = z := fun z h => by omega
  by_cases h1 : a < 0 <;> by_cases h2 : b < 0
  · rw [decide_eq_true h1, decide_eq_true h2]
    show ((a.natAbs * b.natAbs : Nat) : Int) = a * b
    rw [Int.natCast_mul, ep a h1, ep b h2, Int.neg_mul_neg]
  · rw [decide_eq_true h1, decide_eq_false h2]
    show -((a.natAbs * b.natAbs : Nat) : Int) = a * b
    rw [Int.natCast_mul, ep a h1, en b h2, Int.neg_mul, Int.neg_neg]
  · rw [decide_eq_false h1, decide_eq_true h2]
    show -((a.natAbs * b.natAbs : Nat) : Int) = a * b
    rw [Int.natCast_mul, en a h1, ep b h2, Int.mul_neg, Int.neg_neg]
  · rw [decide_eq_false h1, decide_eq_false h2]
    show ((a.natAbs * b.natAbs : Nat) : Int) = a * b
    rw [Int.natCast_mul, en a h1, en b h2]
theorem mul_pc {A B : Option Int} (hA : WF A) (hB : WF B) : PC Try.prog 71 [wv A, wv B] (wv (wmul A B)) := by
  cases A with
  | none =>
    obtain ⟨o, K, s, e⟩ := wv_form B
    rw [e]
    exact PC.of_ev3 mixed Try.func71 400 [] (mulO_key1 o K s) (by simp [wv, flat_wR]) rfl trivial (flat_wR _ _ _) rfl
  | some a =>
    cases B with
    | none => exact PC.of_ev3 mixed Try.func71 400 [] (mulO_key2 _ _) (by simp [flat_wv]) rfl trivial (flat_wR _ _ _) rfl
    | some b =>
      have ha := hA a rfl
      have hb := hB b rfl
      have hT := Hi_T16
      have flats : [wv (some a), wv (some b)].all flat = true := by simp [flat_wv]
      have ht := times_pc (M := a.natAbs) (N := b.natAbs) (by omega) (by omega)
      show PC _ _ _ (wv (clamp (a * b)))
      by_cases h : a.natAbs * b.natAbs < T16
      · rw [if_pos h, decide_eq_true h] at ht
        have hs := signed_pc h (!(decide (a < 0) == decide (b < 0)))
        have e2 : sgn (a.natAbs * b.natAbs) (!(decide (a < 0) == decide (b < 0))) = clamp (a * b) := congrArg clamp (sg_mul a b)
        obtain ⟨o, L, q, e⟩ := wv_form (clamp (a * b))
        rw [e2, e] at hs
        rw [e]
        exact PC.of_ev3 mixed Try.func71 400 _ (mul_key a.natAbs b.natAbs (a.natAbs * b.natAbs) L (decide (a < 0)) (decide (b < 0)) o q) flats rfl ⟨QC.of_pc enters_times ht, QC.of_pc enters_signed hs, trivial⟩ (flat_wR _ _ _) rfl
      · rw [if_neg h, decide_eq_false h] at ht
        have hc : clamp (a * b) = none := by
          unfold clamp
          rw [if_neg]
          rw [Int.natAbs_mul]
          omega
        rw [hc]
        exact PC.of_ev3 mixed Try.func71 400 _ (mulB_key a.natAbs b.natAbs (decide (a < 0)) (decide (b < 0))) flats rfl ⟨QC.of_pc enters_times ht, trivial⟩ (flat_wR _ _ _) rfl
theorem enters_mul : ∀ us w, (callFunc 71 us).run Try.prog w = .ok (.enter 71 us) w := enters Try.func71 rfl (by kernel_rfl)
end Go.Proofs.Ytjmdppnhpfdhdaa.W
