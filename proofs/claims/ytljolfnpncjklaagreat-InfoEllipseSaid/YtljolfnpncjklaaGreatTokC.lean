/-
  The reference, on numbers whose words nobody writes any more: left, right.
-/
import Derived.Test.YtljolfnpncjklaaGreatTokB
/-! The reference: left, right. -/
namespace Go.Proofs.YtljolfnpncjklaaGreat.R
open Go Go.Ev Go.W32
open Go.Proofs.YtljolfnpncjklaaGreat.W (mixed rsl i64_wrap u64_wrap u32_wrap bitLen_lt_iff enters_trim enters_rbits)

theorem qsC {p q : Prop} (h : p) (t : q) : p ∧ q := ⟨h, t⟩
/-! ### left -/
theorem orV {h lo w : Nat} (hh : h < 4294967296) (hl : lo < 4294967296) (hw : h ||| lo = w) : Value.int .u32 (IntKind.u32.wrap ((BitVec.ofInt 32 (h : Int) ||| BitVec.ofInt 32 (lo : Int)).toNat : Int)) = u3 w := by
  have hlt : h ||| lo < 2 ^ 32 := Nat.or_lt_two_pow hh hl
  have e : ∀ z : Nat, z < 4294967296 → (BitVec.ofInt 32 (z : Int)).toNat = z := fun z hz => by
    rw [BitVec.toNat_ofInt]; omega
  rw [BitVec.toNat_or, e h hh, e lo hl, u32_wrap, hw]
  rw [hw] at hlt
  unfold u3
  congr 1
  omega
theorem shlV {x r y : Nat} (hr : r ≤ 64) (hy : x * 2 ^ r = y) (hy2 : y < 18446744073709551616) : Value.int .u64 (IntKind.u64.wrap ((x : Int) * 2 ^ (min ((r : Int)).toNat 64))) = u6 y := by
  have e : (x : Int) * (2 : Int) ^ r = ((x * 2 ^ r : Nat) : Int) := by push_cast; rfl
  rw [Int.toNat_natCast, Nat.min_eq_left hr, e, hy, u64_wrap]
  unfold u6
  congr 1
  omega
theorem ltLs {m j k : Nat} {v : Value} {f : Nat → Nat} (h : j < m) : decide (0 + ((j : Nat) : Int).toNat * 1 < ((cells m f).set k v).length) = true := decide_eq_true (by rw [List.length_set, cells_len, Int.toNat_natCast]; omega)
theorem eqN {n : Int} {m : Nat} (h : n = m) : decide (n = (m : Int)) = true := decide_eq_true h
theorem tmod32 {n r : Nat} (h : n % 32 = r) : (n : Int).tmod 32 = (r : Int) := by rw [← h]; rfl
theorem tdiv32 {n s : Nat} (h : n / 32 = s) : (n : Int).tdiv 32 = (s : Int) := by rw [← h]; rfl
def lfS (A na M n i : Nat) (q : List Value) : St := ⟨slots 59 [(1, i6 n), (5, rsl 0 M M), (19, tk A na), (20, .int .i64 na), (21, .int .i64 i)], [⟨q, 77, true⟩]⟩
def lfL : List Nat := [1, 5, 19, 20, 21]
theorem lf_round {A na M n i x r s h y lo w hi is is1 m : Nat} {f : Nat → Nat} (h0 : i < na) (hx : wd A i = x) (hx2 : x < 4294967296) (hr : n % 32 = r) (hs : n / 32 = s) (hy : x * 2 ^ r = y) (hy2 : y < 18446744073709551616) (his : i + s = is) (his1 : is + 1 = is1) (hM : is1 < M) (hm : is1 < m) (hh : f is = h) (hh2 : h < 4294967296) (hlo : y % 4294967296 = lo) (hw : h ||| lo = w)
    (hz : f is1 = 0) (hhi : y / 4294967296 = hi) (hn : n < 1000000) (hna : na < 1000) :
    Tri Tryz.prog (loopN Tryz.f49 0) (lfS A na M n i (cells m f)) (to .normal (lfS A na M n (i + 1) (cells m (fun t => if t = is1 then hi else if t = is then w else f t)))) := by
  have e : cells m (fun t => if t = is1 then hi else if t = is then w else f t) = ((cells m f).set (0 + ((is : Nat) : Int).toNat * 1) (u3 w)).set (0 + ((is1 : Nat) : Int).toNat * 1) (u3 hi) := by
    unfold u3
    rw [cells_set, cells_set]
  rw [e]
  have o1 : word32 A ((i : Nat) : Int).toNat = u3 x := by rw [tk_get, hx]
  have o2 : (cells m f).getD (0 + ((is : Nat) : Int).toNat * 1) undef = u3 h := by rw [cells_get0 f (by omega), hh]; rfl
  have o3 : ((cells m f).set (0 + ((is : Nat) : Int).toNat * 1) (u3 w)).getD (0 + ((is1 : Nat) : Int).toNat * 1) undef = u3 0 := by
    unfold u3
    rw [cells_set, cells_get0 _ hm, if_neg (by omega), hz]
  exact Tri.go mixed lfL [.tst true, .is 2 (u3 x), .at 3 (u6 x), .at 1 (i6 r), .at 0 (u6 r), .is 0 (u6 y), .at 4 (i6 s), .at 0 (i6 is), .is 1 (u3 h), .at 1 (u3 lo), .is 0 (u3 w), .at 5 (i6 s), .at 0 (i6 is), .at 0 (i6 is1), .is 1 (u3 0), .at 1 (u6 hi), .at 0 (u3 hi), .is 0 (u3 hi), .at 2 (.int .i64 ((i + 1 : Nat) : Int))]
    (tsC (ltI h0) <| tsC (ltI h0) <| tsC (wrapU (n := (x : Int)) (m := x) rfl (by omega)) <| tsC (eqN (n := (n : Int).tmod 32) (m := r) (tmod32 hr)) <| tsC (wrapU (n := (r : Int)) (m := r) rfl (by omega)) <| tsC (wrapN (n := (n : Int).tdiv 32) (m := s) (tdiv32 hs) (by omega)) <| tsC (wrapN (n := (i : Int) + (s : Int)) (m := is) (by omega) (by omega)) <| tsC (ltI (j := is) (n := M) (by omega)) <| tsC (ltL (f := f) (m := m) (j := is) (by omega)) <|
      tsC (wrap32 hlo) <| tsC (ltI (j := is) (n := M) (by omega)) <| tsC (ltL (f := f) (m := m) (j := is) (by omega)) <| tsC (wrapN (n := (n : Int).tdiv 32) (m := s) (tdiv32 hs) (by omega)) <| tsC (wrapN (n := (i : Int) + (s : Int)) (m := is) (by omega) (by omega)) <| tsC (wrapN (n := (is : Int) + 1) (m := is1) (by omega) (by omega)) <| tsC (ltI (j := is1) (n := M) hM) <| tsC (ltLs (f := f) (k := 0 + ((is : Nat) : Int).toNat * 1) (v := u3 w) (m := m) (j := is1) hm) <|
      tsC (shr32 hhi) <| tsC (wrap32 (x := hi) (lo := hi) (by omega)) <| tsC (ltI (j := is1) (n := M) hM) <| tsC (ltLs (f := f) (k := 0 + ((is : Nat) : Int).toNat * 1) (v := u3 w) (m := m) (j := is1) hm) <| tsC (wrapN (n := (i : Int) + 1) (m := i + 1) (by omega) (by omega)) ts0)
    (qs6 o1 (shlV (by omega) hy hy2) o2 (orV hh2 (by omega) hw) o3 (orV (h := 0) (lo := hi) (w := hi) (by omega) (by omega) (Nat.zero_or hi))) (by kernel_rfl)
theorem lf_end {A na M n m : Nat} {f : Nat → Nat} : Tri Tryz.prog (loopN Tryz.f49 0) (lfS A na M n na (cells m f)) (to (.exit 0) (lfS A na M n na (cells m f))) :=
  Tri.go mixed lfL [.tst false] (tsC (tF (p := (na : Int) < (na : Int)) (by omega)) ts0) qs0 (by kernel_rfl)
/-- What of word d goes into the next word. -/
def hiP (A r : Nat) : Nat → Nat
  | 0 => 0
  | d + 1 => wd A d / 2 ^ (32 - r)
def lfW (A s r i t : Nat) : Nat := if t < i + s then wd (A * 2 ^ (32 * s + r)) t else if t = i + s then hiP A r i else 0
theorem hiP_lt (A r i : Nat) (hr : r < 32) : hiP A r i < 2 ^ r := by
  cases i with
  | zero => exact Nat.two_pow_pos r
  | succ d =>
    have hb := wd_lt A d
    show wd A d / 2 ^ (32 - r) < 2 ^ r
    rw [Nat.div_lt_iff_lt_mul (Nat.two_pow_pos _), ← Nat.pow_add, show r + (32 - r) = 32 by omega]
    exact hb
theorem lf_word (A s r i : Nat) (hr : r < 32) : hiP A r i ||| (wd A i * 2 ^ r % 4294967296) = wd (A * 2 ^ (32 * s + r)) (i + s) := by
  have h := wd_up A s r i hr
  have e : wd A i * 2 ^ r % 4294967296 = 2 ^ r * (wd A i % 2 ^ (32 - r)) := by
    have : (4294967296 : Nat) = 2 ^ (32 - r) * 2 ^ r := by rw [← Nat.pow_add, show 32 - r + r = 32 by omega]
    rw [this, Nat.mul_mod_mul_right, Nat.mul_comm]
  rw [h, Nat.or_comm, e, or_add (hiP_lt A r i hr)]
  cases i <;> rfl
theorem hiP_succ (A r i : Nat) (hr : r ≤ 32) : wd A i * 2 ^ r / 4294967296 = hiP A r (i + 1) := by
  show _ = wd A i / 2 ^ (32 - r)
  have : (4294967296 : Nat) = 2 ^ (32 - r) * 2 ^ r := by rw [← Nat.pow_add, show 32 - r + r = 32 by omega]
  rw [this]
  exact Nat.mul_div_mul_right _ _ (Nat.two_pow_pos _)
theorem lf_loop {A na s r : Nat} (hr : r < 32) (hn : 32 * s + r < 1000000) (hna : na < 1000) :
    TriL Tryz.prog (loopN Tryz.f49 0) (lfS A na (na + s + 1) (32 * s + r) 0 (cells (na + s + 1) fun _ => 0)) (to (.exit 0) (lfS A na (na + s + 1) (32 * s + r) na (cells (na + s + 1) (lfW A s r na)))) := by
  have h := TriL.count (P := Tryz.prog) (c := loopN Tryz.f49 0) (e := .exit 0) (fun i => lfS A na (na + s + 1) (32 * s + r) i (cells (na + s + 1) (lfW A s r i))) (by simp) na (fun i hi => ?_) lf_end
  · have e : lfW A s r 0 = fun _ => 0 := funext fun t => by
      unfold lfW
      by_cases h1 : t < 0 + s
      · rw [if_pos h1, wd_up_low A s r t (by omega)]
      · rw [if_neg h1]
        split
        · rfl
        · rfl
    rw [e] at h
    exact h
  · have hx := wd_lt A i
    have hp : 2 ^ r ≤ 2147483648 := by
      have : 2 ^ r ≤ 2 ^ 31 := Nat.pow_le_pow_right (by omega) (by omega)
      omega
    have hy2 : wd A i * 2 ^ r < 18446744073709551616 := by
      have : wd A i * 2 ^ r ≤ 4294967296 * 2147483648 := Nat.mul_le_mul (by omega) hp
      omega
    have hf : (fun t => if t = i + s + 1 then hiP A r (i + 1) else if t = i + s then wd (A * 2 ^ (32 * s + r)) (i + s) else lfW A s r i t) = lfW A s r (i + 1) := funext fun t => by
      unfold lfW
      by_cases h1 : t = i + s + 1
      · rw [if_pos h1, if_neg (by omega), if_pos (by omega)]
      · rw [if_neg h1]
        by_cases h2 : t = i + s
        · rw [if_pos h2, if_pos (by omega), h2]
        · rw [if_neg h2]
          by_cases h3 : t < i + s
          · rw [if_pos h3, if_pos (by omega)]
          · rw [if_neg h3, if_neg h2, if_neg (by omega), if_neg (by omega)]
    have hh2 : hiP A r i < 4294967296 := by
      have := hiP_lt A r i hr
      omega
    show Tri _ _ (lfS A na (na + s + 1) (32 * s + r) i (cells (na + s + 1) (lfW A s r i))) (to _ (lfS A na (na + s + 1) (32 * s + r) (i + 1) (cells (na + s + 1) (lfW A s r (i + 1)))))
    rw [← hf]
    exact lf_round (h := hiP A r i) hi rfl hx (by omega) (by omega) rfl hy2 rfl rfl (by omega) (by omega) (by unfold lfW; rw [if_neg (by omega), if_pos rfl]) hh2 rfl (lf_word A s r i hr) (by unfold lfW; rw [if_neg (by omega), if_neg (by omega)]) (hiP_succ A r i (by omega)) hn hna
theorem enters_rleft : ∀ us w, (callFunc 49 us).run Tryz.prog w = .ok (.enter 49 us) w := enters Tryz.func49 rfl (by kernel_rfl)
theorem lf_fn {A na M M0 n s t N : Nat} {f : Nat → Nat} (hne : na ≠ 0) (hs : n / 32 = s) (hM0 : na + s = M0) (hM : M0 + 1 = M) (hn : n < 10000) (hna : na < 1000)
    (hl : TriL Tryz.prog (loopN Tryz.f49 0) (lfS A na M n 0 (List.replicate (((M : Nat) : Int)).toNat (Value.int .u32 0))) (to (.exit 0) (lfS A na M n na (cells M f))))
    (ht : MC Tryz.prog 77 [rsl 0 M M] [out M f] (rsl 0 t M) [out M f]) (hz : Frz [out M f] (rsl 0 t M) (tk N t)) :
    MC Tryz.prog 49 [tk A na, i6 n] [] (tk N t) [] :=
  AC.run mixed Tryz.func49 [.tst false, .at 3 (i6 s), .at 0 (i6 M0), .at 0 (i6 M), .cut lfL (.exit 0) (lfS A na M n na (cells M f)), .mem (rsl 0 t M) [out M f]]
    ((tsC (tF (p := (na : Int) = 0) (by omega)) <| tsC (wrapN (n := (n : Int).tdiv 32) (m := s) (tdiv32 hs) (by omega)) <| tsC (wrapN (n := (na : Int) + (s : Int)) (m := M0) (by omega) (by omega)) <| tsC (wrapN (n := (M0 : Int) + 1) (m := M) (by omega) (by omega)) <| tsC (mkOk (n := M) (by omega)) ts0))
    (qs2 hl ht) hz enters_rleft (by kernel_rfl)
theorem lf_none {A na N : Nat} {n : Int} (h : na = 0) : MC Tryz.prog 49 [tk A na, i6 n] [] (tk N 0) [] :=
  AC.runN mixed Tryz.func49 [.tst true] (ts1 (tT (p := (na : Int) = 0) (by omega))) qs0 (fun _ => Frz.nil N) enters_rleft (by kernel_rfl)
/-- Shifted to the left. -/
theorem left_t {A na n : Nat} (hA : A < 2 ^ (32 * na)) (hna : na < 400) (hn : n < 10000) :
    MC Tryz.prog 49 [tk A na, i6 n] [] (tk (A * 2 ^ n) (nw (A * 2 ^ n))) [] := by
  by_cases hne : na = 0
  · have h0 : A = 0 := by subst hne; simpa using hA
    have e : nw (A * 2 ^ n) = 0 := by rw [h0, Nat.zero_mul]; rfl
    rw [e]
    exact lf_none hne
  have hn' : 32 * (n / 32) + n % 32 = n := by omega
  have hl := lf_loop (A := A) (na := na) (s := n / 32) (r := n % 32) (by omega) (by omega) (by omega)
  rw [hn', ← cells_rep] at hl
  have hb : A * 2 ^ n < 2 ^ (32 * (na + n / 32 + 1)) := by
    have h2 : 2 ^ n ≤ 2 ^ (32 * (n / 32 + 1)) := Nat.pow_le_pow_right (by omega) (by omega)
    have h3 : 2 ^ (32 * (na + n / 32 + 1)) = 2 ^ (32 * na) * 2 ^ (32 * (n / 32 + 1)) := by rw [← Nat.pow_add]; congr 1; omega
    rw [h3]
    exact Nat.lt_of_lt_of_le (Nat.mul_lt_mul_of_pos_right hA (Nat.two_pow_pos n)) (Nat.mul_le_mul_left _ h2)
  have e : out (na + n / 32 + 1) (lfW A (n / 32) (n % 32) na) = blk true (na + n / 32 + 1) (A * 2 ^ n) := by
    unfold out blk
    congr 1
    refine cells_congr fun t ht => ?_
    unfold lfW
    rw [hn']
    by_cases h2 : t < na + n / 32
    · rw [if_pos h2]
    · rw [if_neg h2, if_pos (by omega)]
      have ht' : t = na + n / 32 := by omega
      have h3 := lf_word A (n / 32) (n % 32) na (by omega)
      rw [hn', wd_eq_zero hA, Nat.zero_mul, Nat.zero_mod, Nat.or_zero] at h3
      rw [h3, ht']
  exact lf_fn (A := A) (n := n) (t := nw (A * 2 ^ n)) hne rfl rfl rfl hn (by omega) hl (by
    rw [e]
    exact trim_at (C := blk true (na + n / 32 + 1) (A * 2 ^ n)) hb (Nat.le_refl _) (by omega) rfl rfl) (by rw [e]; exact Frz.rsl (C := blk true (na + n / 32 + 1) (A * 2 ^ n)) rfl rfl (nw_le hb))

/-! ### right -/
def r0S (A na n s i : Nat) (l : Bool) : St := ⟨slots 92 [(0, tk A na), (1, i6 n), (6, .bool l), (24, tk A s), (25, .int .i64 s), (26, .int .i64 i)], []⟩
def r0L : List Nat := [0, 1, 6, 24, 25, 26]
theorem r0_t {A na n s i x : Nat} (h0 : i < s) (hx : wd A i = x) (hs : s < 1000000) : Tri Tryz.prog (loopN Tryz.f50 0) (r0S A na n s i true) (to .normal (r0S A na n s (i + 1) true)) := by
  have o1 : word32 A ((i : Nat) : Int).toNat = u3 x := by rw [tk_get, hx]
  exact Tri.go mixed r0L [.tst true, .is 1 (u3 x), .auto, .at 2 (.int .i64 ((i + 1 : Nat) : Int))]
    (tsC (ltI h0) <| tsC (ltI h0) <| tsC (wrapN (n := (i : Int) + 1) (m := i + 1) (by omega) (by omega)) ts0) (qs1 o1) (by kernel_rfl)
theorem r0_f {A na n s i x : Nat} {l : Bool} (h0 : i < s) (hx : wd A i = x) (hs : s < 1000000) (hl : (!decide ((x : Int) = 0)) = l) : Tri Tryz.prog (loopN Tryz.f50 0) (r0S A na n s i false) (to .normal (r0S A na n s (i + 1) l)) := by
  have o1 : word32 A ((i : Nat) : Int).toNat = u3 x := by rw [tk_get, hx]
  subst hl
  exact Tri.go mixed r0L [.tst true, .is 1 (u3 x), .auto, .at 4 (.int .i64 ((i + 1 : Nat) : Int))]
    (tsC (ltI h0) <| tsC (ltI h0) <| tsC (wrapN (n := (i : Int) + 1) (m := i + 1) (by omega) (by omega)) ts0) (qs1 o1) (by kernel_rfl)
theorem r0_end {A na n s : Nat} {l : Bool} : Tri Tryz.prog (loopN Tryz.f50 0) (r0S A na n s s l) (to (.exit 0) (r0S A na n s s l)) :=
  Tri.go mixed r0L [.tst false] (tsC (tF (p := (s : Int) < (s : Int)) (by omega)) ts0) qs0 (by kernel_rfl)
def lostW (A i : Nat) : Bool := !decide (A % 2 ^ (32 * i) = 0)
theorem lost_true {A i : Nat} (h : lostW A i = true) : lostW A (i + 1) = true := by
  unfold lostW at *
  rw [Bool.not_eq_true', decide_eq_false_iff_not] at *
  rw [mod_succ32]
  omega
theorem lost_false {A i : Nat} (h : lostW A i = false) : (!decide ((wd A i : Int) = 0)) = lostW A (i + 1) := by
  unfold lostW at *
  rw [Bool.not_eq_false', decide_eq_true_eq] at h
  rw [mod_succ32, h, Nat.zero_add]
  congr 1
  refine decide_eq_decide.2 ?_
  have hp : 0 < 2 ^ (32 * i) := Nat.two_pow_pos _
  constructor
  · intro e
    have : wd A i = 0 := by omega
    rw [this, Nat.zero_mul]
  · intro e
    rcases Nat.mul_eq_zero.1 e with e | e
    · omega
    · omega
theorem r0_loop {A na n s : Nat} (hs : s < 1000000) : TriL Tryz.prog (loopN Tryz.f50 0) (r0S A na n s 0 false) (to (.exit 0) (r0S A na n s s (lostW A s))) := by
  have h := TriL.count (P := Tryz.prog) (c := loopN Tryz.f50 0) (e := .exit 0) (fun i => r0S A na n s i (lostW A i)) (by simp) s (fun i hi => ?_) r0_end
  · have e : lostW A 0 = false := by unfold lostW; rw [Nat.mul_zero, Nat.pow_zero, Nat.mod_one]; rfl
    rw [e] at h
    exact h
  · show Tri _ _ (r0S A na n s i (lostW A i)) (to _ (r0S A na n s (i + 1) (lostW A (i + 1))))
    cases e : lostW A i with
    | true =>
      rw [lost_true e]
      exact r0_t hi rfl hs
    | false => exact r0_f hi rfl hs (lost_false e)
def r1S (A L r i : Nat) (l : Bool) (q : List Value) : St := ⟨slots 92 [(0, tk A L), (6, .bool l), (9, u6 r), (10, rsl 0 L L), (58, .int .i64 L), (59, .int .i64 i)], [⟨q, 77, true⟩]⟩
def r1L : List Nat := [0, 6, 9, 10, 58, 59]
theorem or64 {h lo w : Nat} (hh : h < 18446744073709551616) (hl : lo < 18446744073709551616) (hw : h ||| lo = w) : Value.int .u64 (IntKind.u64.wrap ((BitVec.ofInt 64 (h : Int) ||| BitVec.ofInt 64 (lo : Int)).toNat : Int)) = u6 w := by
  have hlt : h ||| lo < 2 ^ 64 := Nat.or_lt_two_pow hh hl
  have e : ∀ z : Nat, z < 18446744073709551616 → (BitVec.ofInt 64 (z : Int)).toNat = z := fun z hz => by
    rw [BitVec.toNat_ofInt]; omega
  rw [BitVec.toNat_or, e h hh, e lo hl, u64_wrap, hw]
  rw [hw] at hlt
  unfold u6
  congr 1
  omega
theorem shl32 {b c : Nat} (hc : b * 4294967296 = c) (hb : c < 18446744073709551616) : Value.int .u64 (IntKind.u64.wrap ((b : Int) * 2 ^ (min (Int.toNat 32) 64))) = u6 c :=
  shlV (x := b) (r := 32) (by omega) hc hb
theorem shrV {y r q : Nat} (hr : r ≤ 64) (hq : y / 2 ^ r = q) : Value.int .u64 ((y : Int).fdiv (2 ^ (min ((r : Int)).toNat 64))) = u6 q := by
  have e : ((2 : Int) ^ r) = ((2 ^ r : Nat) : Int) := by push_cast; rfl
  rw [Int.toNat_natCast, Nat.min_eq_left hr, e, Int.fdiv_eq_ediv_of_nonneg _ (Int.natCast_nonneg _), ← Int.natCast_ediv, hq]
  rfl
theorem r1_in {A L r i i1 a b c y q lo m : Nat} {l : Bool} {f : Nat → Nat} (h0 : i < L) (hi1 : i + 1 = i1) (h1 : i1 < L) (hf : i < m) (ha : wd A i = a) (hb : wd A i1 = b) (ha2 : a < 4294967296) (hb2 : b < 4294967296) (hc : b * 4294967296 = c) (hy : a ||| c = y) (hr : r < 32) (hq : y / 2 ^ r = q) (hlo : q % 4294967296 = lo) (hL : L < 1000000) :
    Tri Tryz.prog (loopN Tryz.f50 1) (r1S A L r i l (cells m f)) (to .normal (r1S A L r (i + 1) l (cells m (fun t => if t = i then lo else f t)))) := by
  rw [← cells_set]
  have o1 : word32 A ((i : Nat) : Int).toNat = u3 a := by rw [tk_get, ha]
  have o2 : word32 A ((i1 : Nat) : Int).toNat = u3 b := by rw [tk_get, hb]
  exact Tri.go mixed r1L [.tst true, .is 5 (u3 a), .at 0 (u6 a), .at 2 (i6 i1), .tst true, .at 3 (i6 i1), .is 1 (u3 b), .at 0 (u6 b), .is 0 (u6 c), .is 0 (u6 y), .is 5 (u6 q), .at 0 (u3 lo), .at 2 (.int .i64 ((i + 1 : Nat) : Int))]
    (tsC (ltI h0) <| tsC (ltI h0) <| tsC (wrapU (n := (a : Int)) (m := a) rfl (by omega)) <| tsC (wrapN (n := (i : Int) + 1) (m := i1) (by omega) (by omega)) <| tsC (ltI (j := i1) (n := L) h1) <| tsC (wrapN (n := (i : Int) + 1) (m := i1) (by omega) (by omega)) <| tsC (ltI (j := i1) (n := L) h1) <| tsC (wrapU (n := (b : Int)) (m := b) rfl (by omega)) <|
      tsC (wrap32 hlo) <| tsC (ltI h0) <| tsC (ltL (f := f) hf) <| tsC (wrapN (n := (i : Int) + 1) (m := i + 1) (by omega) (by omega)) ts0)
    (qs5 o1 o2 (shl32 hc (by omega)) (or64 (by omega) (by omega) hy) (shrV (by omega) hq)) (by kernel_rfl)
theorem r1_last {A L r i i1 a q lo m : Nat} {l : Bool} {f : Nat → Nat} (h0 : i < L) (hi1 : i + 1 = i1) (h1 : ¬ i1 < L) (hf : i < m) (ha : wd A i = a) (ha2 : a < 4294967296) (hr : r < 32) (hq : a / 2 ^ r = q) (hlo : q % 4294967296 = lo) (hL : L < 1000000) :
    Tri Tryz.prog (loopN Tryz.f50 1) (r1S A L r i l (cells m f)) (to .normal (r1S A L r (i + 1) l (cells m (fun t => if t = i then lo else f t)))) := by
  rw [← cells_set]
  have o1 : word32 A ((i : Nat) : Int).toNat = u3 a := by rw [tk_get, ha]
  exact Tri.go mixed r1L [.tst true, .is 5 (u3 a), .at 0 (u6 a), .at 2 (i6 i1), .tst false, .is 4 (u6 q), .at 0 (u3 lo), .at 2 (.int .i64 ((i + 1 : Nat) : Int))]
    (tsC (ltI h0) <| tsC (ltI h0) <| tsC (wrapU (n := (a : Int)) (m := a) rfl (by omega)) <| tsC (wrapN (n := (i : Int) + 1) (m := i1) (by omega) (by omega)) <| tsC (tF (p := (i1 : Int) < (L : Int)) (by omega)) <| tsC (wrap32 hlo) <| tsC (ltI h0) <| tsC (ltL (f := f) hf) <| tsC (wrapN (n := (i : Int) + 1) (m := i + 1) (by omega) (by omega)) ts0)
    (qs2 o1 (shrV (by omega) hq)) (by kernel_rfl)
theorem r1_end {A L r m : Nat} {l : Bool} {f : Nat → Nat} : Tri Tryz.prog (loopN Tryz.f50 1) (r1S A L r L l (cells m f)) (to (.exit 2) (r1S A L r L l (cells m f))) :=
  Tri.go mixed r1L [.tst false] (tsC (tF (p := (L : Int) < (L : Int)) (by omega)) ts0) qs0 (by kernel_rfl)
/-- Words of the number shifted, as far as they are made. -/
def rtW (A s r i t : Nat) : Nat := if t < i then wd (A / 2 ^ (32 * s + r)) t else 0
theorem rt_word (A s r i : Nat) (hr : r < 32) : (wd A (i + s) ||| wd A (i + s + 1) * 4294967296) / 2 ^ r % 4294967296 = wd (A / 2 ^ (32 * s + r)) i := by
  have ha := wd_lt A (i + s)
  have hb := wd_lt A (i + s + 1)
  have e : wd A (i + s) ||| wd A (i + s + 1) * 4294967296 = 4294967296 * wd A (i + s + 1) + wd A (i + s) := by
    rw [Nat.or_comm, Nat.mul_comm]
    exact or_add (k := 32) ha
  rw [e, pair_shift _ r (by omega), wd_down A s r i (by omega)]
  congr 1
  · congr 1; omega
  · congr 2; omega
theorem rt_last (A s r i : Nat) (hr : r < 32) (h : wd A (i + s + 1) = 0) : wd A (i + s) / 2 ^ r % 4294967296 = wd (A / 2 ^ (32 * s + r)) i := by
  have h2 := rt_word A s r i hr
  rw [h, Nat.zero_mul, Nat.or_zero] at h2
  exact h2
theorem rt_word0 (A r i : Nat) (hr : r < 32) : (wd A i ||| wd A (i + 1) * 4294967296) / 2 ^ r % 4294967296 = wd (A / 2 ^ r) i := by
  have h := rt_word A 0 r i hr
  rw [Nat.add_zero, Nat.mul_zero, Nat.zero_add] at h
  exact h
def rtV (A r i t : Nat) : Nat := if t < i then wd (A / 2 ^ r) t else 0
theorem r1_loop {A L r : Nat} {l : Bool} (hA : A < 2 ^ (32 * L)) (hr : r < 32) (hn : L < 1000) :
    TriL Tryz.prog (loopN Tryz.f50 1) (r1S A L r 0 l (cells L fun _ => 0)) (to (.exit 2) (r1S A L r L l (cells L (rtV A r L)))) := by
  have h := TriL.count (P := Tryz.prog) (c := loopN Tryz.f50 1) (e := .exit 2) (fun i => r1S A L r i l (cells L (rtV A r i))) (by simp) L (fun i hi => ?_) r1_end
  · have e : rtV A r 0 = fun _ => 0 := funext fun t => if_neg (by omega)
    rw [e] at h
    exact h
  · have ha := wd_lt A i
    have hb := wd_lt A (i + 1)
    have hf : (fun t => if t = i then wd (A / 2 ^ r) i else rtV A r i t) = rtV A r (i + 1) := funext fun t => by
      unfold rtV
      by_cases h1 : t = i
      · rw [if_pos h1, if_pos (by omega), h1]
      · rw [if_neg h1]
        by_cases h2 : t < i
        · rw [if_pos h2, if_pos (by omega)]
        · rw [if_neg h2, if_neg (by omega)]
    show Tri _ _ (r1S A L r i l (cells L (rtV A r i))) (to _ (r1S A L r (i + 1) l (cells L (rtV A r (i + 1)))))
    rw [← hf]
    have hw := rt_word0 A r i hr
    by_cases h2 : i + 1 < L
    · exact r1_in (i1 := i + 1) hi rfl h2 hi rfl rfl ha hb rfl rfl hr rfl hw (by omega)
    · have hz : wd A (i + 1) = 0 := wd_eq_zero (Nat.lt_of_lt_of_le hA (Nat.pow_le_pow_right (by omega) (by omega)))
      rw [hz, Nat.zero_mul, Nat.or_zero] at hw
      exact r1_last (i1 := i + 1) hi rfl h2 hi rfl ha hr rfl hw (by omega)
theorem enters_rright : ∀ us w, (callFunc 50 us).run Tryz.prog w = .ok (.enter 50 us) w := enters Tryz.func50 rfl (by kernel_rfl)
theorem shl1 {r p : Nat} (hr : r < 32) (hp : 2 ^ r = p) : Value.int .u32 (IntKind.u32.wrap ((1 : Int) * 2 ^ (min ((r : Int)).toNat 32))) = u3 p := by
  have e : (2 : Int) ^ r = ((2 ^ r : Nat) : Int) := by push_cast; rfl
  have h2 : 2 ^ r ≤ 2 ^ 31 := Nat.pow_le_pow_right (by omega) (by omega)
  rw [Int.toNat_natCast, Nat.min_eq_left (by omega), e, Int.one_mul, u32_wrap, hp]
  rw [hp] at h2
  unfold u3
  congr 1
  omega
theorem sub1 {p p1 : Nat} (h : p1 + 1 = p) (hp : p < 4294967296) : Value.int .u32 (IntKind.u32.wrap ((p : Int) - 1)) = u3 p1 := by
  rw [u32_wrap]
  unfold u3
  congr 1
  omega
theorem andV {c p1 y : Nat} (hc : c < 4294967296) (hp : p1 < 4294967296) (hy : c &&& p1 = y) : Value.int .u32 (IntKind.u32.wrap ((BitVec.ofInt 32 (c : Int) &&& BitVec.ofInt 32 (p1 : Int)).toNat : Int)) = u3 y := by
  have hlt : c &&& p1 ≤ c := Nat.and_le_left
  have e : ∀ z : Nat, z < 4294967296 → (BitVec.ofInt 32 (z : Int)).toNat = z := fun z hz => by
    rw [BitVec.toNat_ofInt]; omega
  rw [BitVec.toNat_and, e c hc, e p1 hp, u32_wrap, hy]
  rw [hy] at hlt
  unfold u3
  congr 1
  omega
theorem mul32 {na k : Nat} (hk : 32 * na = k) (hn : na < 100000) : Value.int .i64 (IntKind.i64.wrap ((32 : Int) * (na : Int))) = i6 k := by
  rw [i64_wrap (by omega) (by omega)]
  unfold i6
  congr 1
  omega
theorem tkA (A s : Nat) : sliceTok (A / 2 ^ (32 * 0)) (s - 0) = tk A s := by rw [Nat.mul_zero, Nat.pow_zero, Nat.div_one, Nat.sub_zero]
theorem Frz.pair {mem : Mem} {x v y w : Value} (h1 : Frz2 mem x v) (h2 : Frz2 mem y w) (hw : isWild [x, y] = false := by rfl) : Frz mem (.tuple #[x, y]) (.tuple #[v, w]) :=
  .inl ⟨#[x, y], #[v, w], rfl, rfl, hw, PW.cons h1 (PW.cons h2 PW.nil)⟩
theorem rt_t {A B na n s k L r t N : Nat} {f : Nat → Nat} (hB : A / 2 ^ (32 * s) = B) (hk : 32 * na = k) (hn : ¬ k ≤ n) (hs : n / 32 = s) (hsn : s < na) (hL : na - s = L) (hr : n % 32 = r) (hna : na < 1000)
    (h0 : TriL Tryz.prog (loopN Tryz.f50 0) (r0S A na n s 0 false) (to (.exit 0) (r0S A na n s s true)))
    (h1 : TriL Tryz.prog (loopN Tryz.f50 1) (r1S B L r 0 true (List.replicate (((L : Nat) : Int)).toNat (Value.int .u32 0))) (to (.exit 2) (r1S B L r L true (cells L f))))
    (ht : MC Tryz.prog 77 [rsl 0 L L] [out L f] (rsl 0 t L) [out L f]) (hz : Frz1 [out L f] (rsl 0 t L) (tk N t)) :
    MC Tryz.prog 50 [tk A na, i6 n] [] (.tuple #[tk N t, .bool true]) [] := by
  subst hL hB
  exact AC.run mixed Tryz.func50 [.is 5 (i6 k), .tst false, .at 3 (i6 s), .is 0 (tk A s), .cut r0L (.exit 0) (r0S A na n s s true), .at 2 (i6 s), .is 0 (tk (A / 2 ^ (32 * s)) (na - s)), .at 2 (i6 r), .at 0 (u6 r), .auto, .cut r1L (.exit 2) (r1S (A / 2 ^ (32 * s)) (na - s) r (na - s) true (cells (na - s) f)), .mem (rsl 0 t (na - s)) [out (na - s) f]]
    ((tsC (tF (p := (n : Int) ≥ (k : Int)) (by omega)) <| tsC (wrapN (n := (n : Int).tdiv 32) (m := s) (tdiv32 hs) (by omega)) <| tsC (show (decide ((s : Int) ≤ (na : Int)) && true) = true by rw [decide_eq_true (by omega)]; rfl) <| tsC (wrapN (n := (n : Int).tdiv 32) (m := s) (tdiv32 hs) (by omega)) <| tsC (show decide ((s : Int) ≤ (na : Int)) = true from decide_eq_true (by omega)) <| tsC (eqN (n := (n : Int).tmod 32) (m := r) (tmod32 hr)) <| tsC (wrapU (n := (r : Int)) (m := r) rfl (by omega)) <| tsC (mkOk (n := na - s) (by omega)) ts0))
    (qs6 (mul32 hk (by omega)) (tkA A s) h0 (rfl : sliceTok (A / 2 ^ (32 * s)) (na - s) = tk (A / 2 ^ (32 * s)) (na - s)) h1 ht) (Frz.pair (.inr hz) (Frz2.ofAbs rfl)) enters_rright (by kernel_rfl)
theorem rt_f {A B na n s k L r t c p p1 y N : Nat} {l : Bool} {f : Nat → Nat} (hB : A / 2 ^ (32 * s) = B) (hk : 32 * na = k) (hn : ¬ k ≤ n) (hs : n / 32 = s) (hsn : s < na) (hL : na - s = L) (hr : n % 32 = r) (hna : na < 1000) (hc : wd B 0 = c) (hp : 2 ^ r = p) (hp1 : p1 + 1 = p) (hy : c &&& p1 = y) (hl : (!decide ((y : Int) = 0)) = l)
    (h0 : TriL Tryz.prog (loopN Tryz.f50 0) (r0S A na n s 0 false) (to (.exit 0) (r0S A na n s s false)))
    (h1 : TriL Tryz.prog (loopN Tryz.f50 1) (r1S B L r 0 l (List.replicate (((L : Nat) : Int)).toNat (Value.int .u32 0))) (to (.exit 2) (r1S B L r L l (cells L f))))
    (ht : MC Tryz.prog 77 [rsl 0 L L] [out L f] (rsl 0 t L) [out L f]) (hz : Frz1 [out L f] (rsl 0 t L) (tk N t)) :
    MC Tryz.prog 50 [tk A na, i6 n] [] (.tuple #[tk N t, .bool l]) [] := by
  have h2 : 2 ^ r ≤ 2 ^ 31 := Nat.pow_le_pow_right (by omega) (by omega)
  have hcl := wd_lt B 0
  have o1 : word32 B ((0 : Nat) : Int).toNat = u3 c := by rw [tk_get, hc]
  subst hL hl hB
  exact AC.run mixed Tryz.func50 [.is 5 (i6 k), .tst false, .at 3 (i6 s), .is 0 (tk A s), .cut r0L (.exit 0) (r0S A na n s s false), .at 2 (i6 s), .is 0 (tk (A / 2 ^ (32 * s)) (na - s)), .at 2 (i6 r), .at 0 (u6 r), .auto, .is 2 (u3 c), .is 1 (u3 p), .is 0 (u3 p1), .is 0 (u3 y), .cut r1L (.exit 2) (r1S (A / 2 ^ (32 * s)) (na - s) r (na - s) (!decide ((y : Int) = 0)) (cells (na - s) f)), .mem (rsl 0 t (na - s)) [out (na - s) f]]
    ((tsC (tF (p := (n : Int) ≥ (k : Int)) (by omega)) <| tsC (wrapN (n := (n : Int).tdiv 32) (m := s) (tdiv32 hs) (by omega)) <| tsC (show (decide ((s : Int) ≤ (na : Int)) && true) = true by rw [decide_eq_true (by omega)]; rfl) <| tsC (wrapN (n := (n : Int).tdiv 32) (m := s) (tdiv32 hs) (by omega)) <| tsC (show decide ((s : Int) ≤ (na : Int)) = true from decide_eq_true (by omega)) <| tsC (eqN (n := (n : Int).tmod 32) (m := r) (tmod32 hr)) <| tsC (wrapU (n := (r : Int)) (m := r) rfl (by omega)) <| tsC (ltI (j := 0) (n := na - s) (by omega)) <| tsC (mkOk (n := na - s) (by omega)) ts0))
    (qsC (mul32 hk (by omega)) <| qsC (tkA A s) <| qsC h0 <| qsC (rfl : sliceTok (A / 2 ^ (32 * s)) (na - s) = tk (A / 2 ^ (32 * s)) (na - s)) <| qsC o1 <| qsC (shl1 (by omega) hp) <| qsC (sub1 hp1 (by omega)) <| qsC (andV (by omega) (by omega) hy) <| qsC h1 <| qsC ht qs0) (Frz.pair (.inr hz) (Frz2.ofAbs rfl)) enters_rright (by kernel_rfl)
/-- Nothing remains. -/
theorem rt_none {A na n k N : Nat} (hk : 32 * na = k) (hn : k ≤ n) (hna : na < 1000) : MC Tryz.prog 50 [tk A na, i6 n] [] (.tuple #[tk N 0, .bool (decide ((na : Int) > 0))]) [] :=
  AC.runN mixed Tryz.func50 [.is 5 (i6 k), .tst true] (ts1 (tT (p := (n : Int) ≥ (k : Int)) (by omega))) (qs1 (mul32 hk (by omega))) (fun _ => Frz.pair (.inr (Frz1.nil N)) (Frz2.ofAbs rfl)) enters_rright (by kernel_rfl)
/-- Is something lost? -/
def lostN (A n : Nat) : Bool := !decide (A % 2 ^ n = 0)
theorem lost_add (A s r : Nat) (hr : r < 32) (h : lostW A s = false) : (!decide ((((wd A s) &&& (2 ^ r - 1) : Nat) : Int) = 0)) = lostN A (32 * s + r) := by
  unfold lostW at h
  rw [Bool.not_eq_false', decide_eq_true_eq] at h
  unfold lostN
  congr 1
  refine decide_eq_decide.2 ?_
  rw [Nat.and_two_pow_sub_one_eq_mod]
  have e : A % 2 ^ (32 * s + r) = A % 2 ^ (32 * s) + 2 ^ (32 * s) * (A / 2 ^ (32 * s) % 2 ^ r) := by rw [Nat.pow_add, Nat.mod_mul]
  have e2 : wd A s % 2 ^ r = A / 2 ^ (32 * s) % 2 ^ r := by
    unfold wd
    have : (4294967296 : Nat) = 2 ^ r * 2 ^ (32 - r) := by rw [← Nat.pow_add, show r + (32 - r) = 32 by omega]
    rw [this, Nat.mod_mul_right_mod]
  rw [e, h, e2, Nat.zero_add]
  have hp : 0 < 2 ^ (32 * s) := Nat.two_pow_pos _
  constructor
  · intro hz
    have : A / 2 ^ (32 * s) % 2 ^ r = 0 := by omega
    rw [this, Nat.mul_zero]
  · intro hz
    rcases Nat.mul_eq_zero.1 hz with hz | hz
    · omega
    · omega
theorem lost_more (A s r : Nat) (h : lostW A s = true) : true = lostN A (32 * s + r) := by
  unfold lostW at h
  rw [Bool.not_eq_true', decide_eq_false_iff_not] at h
  unfold lostN
  rw [decide_eq_false]
  · rfl
  · intro e
    refine h ?_
    have : A % 2 ^ (32 * s) = A % 2 ^ (32 * s + r) % 2 ^ (32 * s) := by rw [Nat.pow_add, Nat.mod_mul_right_mod]
    rw [this, e, Nat.zero_mod]
theorem lost_none {A na n : Nat} (hA : A < 2 ^ (32 * na)) (hn : 32 * na ≤ n) (hc : na ≠ 0 → A ≠ 0) : decide ((na : Int) > 0) = lostN A n := by
  have h : A % 2 ^ n = A := Nat.mod_eq_of_lt (Nat.lt_of_lt_of_le hA (Nat.pow_le_pow_right (by omega) hn))
  unfold lostN
  rw [h, Bool.eq_iff_iff]
  by_cases h0 : na = 0
  · subst h0
    have : A = 0 := by simpa using hA
    simp [this]
  · have := hc h0
    simp [this]
    omega
/-- Shifted to the right; and is something lost? -/
theorem right_t {A n : Nat} (hna : nw A < 400) :
    MC Tryz.prog 50 [tk A (nw A), i6 n] [] (.tuple #[tk (A / 2 ^ n) (nw (A / 2 ^ n)), .bool (lostN A n)]) [] := by
  have hA := lt_nw A
  by_cases hn : 32 * nw A ≤ n
  · have hz : A / 2 ^ n = 0 := Nat.div_eq_of_lt (Nat.lt_of_lt_of_le hA (Nat.pow_le_pow_right (by omega) hn))
    rw [← lost_none hA hn (fun h => by rwa [← nw_pos, Nat.pos_iff_ne_zero]), hz, nw_zero]
    exact rt_none rfl hn (by omega)
  generalize nw A = na at *
  have hn' : 32 * (n / 32) + n % 32 = n := by omega
  have h0 := r0_loop (A := A) (na := na) (n := n) (s := n / 32) (by omega)
  have hd : A / 2 ^ (32 * (n / 32)) / 2 ^ (n % 32) = A / 2 ^ n := by rw [Nat.div_div_eq_div_mul, ← Nat.pow_add, hn']
  have hB : A / 2 ^ (32 * (n / 32)) < 2 ^ (32 * (na - n / 32)) := by
    rw [Nat.div_lt_iff_lt_mul (Nat.two_pow_pos _), ← Nat.pow_add]
    exact Nat.lt_of_lt_of_le hA (Nat.pow_le_pow_right (by omega) (by omega))
  have hb : A / 2 ^ n < 2 ^ (32 * (na - n / 32)) := by
    rw [← hd]
    exact Nat.lt_of_le_of_lt (Nat.div_le_self _ _) hB
  have e : out (na - n / 32) (rtV (A / 2 ^ (32 * (n / 32))) (n % 32) (na - n / 32)) = blk true (na - n / 32) (A / 2 ^ n) := by
    unfold out blk
    congr 1
    refine cells_congr fun t ht => ?_
    unfold rtV
    rw [hd, if_pos ht]
  have ht : MC Tryz.prog 77 [rsl 0 (na - n / 32) (na - n / 32)] [out (na - n / 32) (rtV (A / 2 ^ (32 * (n / 32))) (n % 32) (na - n / 32))] (rsl 0 (nw (A / 2 ^ n)) (na - n / 32)) [out (na - n / 32) (rtV (A / 2 ^ (32 * (n / 32))) (n % 32) (na - n / 32))] := by
    rw [e]
    exact trim_at (C := blk true (na - n / 32) (A / 2 ^ n)) hb (Nat.le_refl _) (by omega) rfl rfl
  have hz : Frz1 [out (na - n / 32) (rtV (A / 2 ^ (32 * (n / 32))) (n % 32) (na - n / 32))] (rsl 0 (nw (A / 2 ^ n)) (na - n / 32)) (tk (A / 2 ^ n) (nw (A / 2 ^ n))) := by
    rw [e]
    exact Frz1.rsl (C := blk true (na - n / 32) (A / 2 ^ n)) rfl rfl (nw_le hb)
  have hr1 : ∀ l, _ := fun l => r1_loop (A := A / 2 ^ (32 * (n / 32))) (L := na - n / 32) (r := n % 32) (l := l) hB (by omega) (by omega)
  cases hl : lostW A (n / 32) with
  | true =>
    rw [hl] at h0
    have h3 := hr1 true
    rw [← cells_rep] at h3
    have h2 := lost_more A (n / 32) (n % 32) hl
    rw [hn'] at h2
    rw [← h2]
    exact rt_t rfl rfl (by omega) rfl (by omega) rfl rfl (by omega) h0 h3 ht hz
  | false =>
    rw [hl] at h0
    have h2 := lost_add A (n / 32) (n % 32) (by omega) hl
    rw [hn'] at h2
    have h3 := hr1 (lostN A n)
    rw [← cells_rep] at h3
    have hp : 0 < 2 ^ (n % 32) := Nat.two_pow_pos _
    have h4 : wd (A / 2 ^ (32 * (n / 32))) 0 = wd A (n / 32) := by
      have := wd_shift A (n / 32) 0
      rw [Nat.zero_add] at this
      exact this.symm
    exact rt_f (p := 2 ^ (n % 32)) (p1 := 2 ^ (n % 32) - 1) rfl rfl (by omega) rfl (by omega) rfl rfl (by omega) h4 rfl (by omega) rfl h2 h0 h3 ht hz
end Go.Proofs.YtljolfnpncjklaaGreat.R
