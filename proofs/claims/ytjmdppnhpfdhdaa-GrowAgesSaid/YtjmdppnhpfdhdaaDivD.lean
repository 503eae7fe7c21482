/-
  Long division, the program's pieces: estimateDigit, subtractProduct, addBack, takeDigit.
-/
import Derived.Test.YtjmdppnhpfdhdaaDivC
namespace Go.Proofs.Ytjmdppnhpfdhdaa.W
open Go Go.Ev Go.Wide

theorem ltI {j n : Nat} (h : j < n) : decide ((j : Int) < (n : Int)) = true := decide_eq_true (by omega)
theorem ltA {i j n : Nat} (h : i + j < n) : decide (i + ((j : Nat) : Int).toNat * 1 < n) = true := decide_eq_true (by rw [Int.toNat_natCast]; omega)
theorem wrapN {n : Int} {m : Nat} (h : n = m) (hm : m ≤ 9223372036854775807) : decide (IntKind.i64.wrap n = (m : Int)) = true := by
  rw [h, i64_wrap (by omega) (by omega)]
  exact decide_eq_true rfl
theorem all17 (p : Nat → Nat) (i j v n : Nat) : ((m17 p).set (i + ((j : Nat) : Int).toNat * 1) (.int .u64 v)).all (noNew1 n) = true := by
  rw [set17]
  rfl
theorem enters_est : ∀ us w, (callFunc 108 us).run Try.prog w = .ok (.enter 108 us) w := enters Try.func108 rfl (by kernel_rfl)
theorem enters_subProd : ∀ us w, (callFunc 109 us).run Try.prog w = .ok (.enter 109 us) w := enters Try.func109 rfl (by kernel_rfl)
theorem enters_addBack : ∀ us w, (callFunc 110 us).run Try.prog w = .ok (.enter 110 us) w := enters Try.func110 rfl (by kernel_rfl)
theorem enters_take : ∀ us w, (callFunc 104 us).run Try.prog w = .ok (.enter 104 us) w := enters Try.func104 rfl (by kernel_rfl)

/-! ### estimateDigit -/
theorem est_high {M N V i k a v : Nat} {q p : Nat → Nat} (hk : i + (k + 1) < 17) (ha : p (i + (k + 1)) = a) (hv : wd V k = v) (h : v ≤ a) :
    MC Try.prog 108 [psl i (k + 1), dsl (k + 1)] (M5 M N V (q16 q) (m17 p)) (u 18446744073709551615) (M5 M N V (q16 q) (m17 p)) :=
  MC.run mixed Try.func108 [.at 3 (.int .i64 k), .at 3 (.int .i64 ((k + 1 : Nat) : Int)), .is 1 (u a), .is 3 (u v), .tst true]
    (ts1 (tsC (wrapN (n := ((k + 1 : Nat) : Int) - 1) (m := k) (by omega) (by omega)) <| tsC (wrapN (n := (k : Int) + 1) (m := k + 1) (by omega) (by omega)) <| tsC (ltI (j := k + 1) (n := k + 1 + 1) (by omega)) <| tsC (ltA (i := i) (j := k + 1) (n := 17) hk) <| tsC (ltI (j := k) (n := k + 1) (by omega)) <| tsC (ltA (i := 0) (j := k) (n := 16) (by omega)) <| tsC (tT (p := (a : Int) ≥ (v : Int)) (by omega)) ts0))
    (qs2 ((get17 p hk).trans (congrArg u ha)) ((getWord V (by omega)).trans (congrArg u hv))) rfl rfl enters_est (by kernel_rfl)
theorem est_low {M N V i k a b v d e : Nat} {q p : Nat → Nat} (hk : i + (k + 1) < 17) (ha : p (i + (k + 1)) = a) (hb : p (i + k) = b) (hv : wd V k = v) (h : ¬ v ≤ a) (hd : QC Try.prog 111 [u a, u b, u v] (.tuple #[u d, u e])) :
    MC Try.prog 108 [psl i (k + 1), dsl (k + 1)] (M5 M N V (q16 q) (m17 p)) (u d) (M5 M N V (q16 q) (m17 p)) :=
  MC.run mixed Try.func108 [.at 3 (.int .i64 k), .at 3 (.int .i64 ((k + 1 : Nat) : Int)), .is 1 (u a), .is 3 (u v), .tst false, .at 2 (.int .i64 ((k + 1 : Nat) : Int)), .is 1 (u a), .is 3 (u b), .is 3 (u v), .res (.tuple #[u d, u e])]
    (ts1 (tsC (wrapN (n := ((k + 1 : Nat) : Int) - 1) (m := k) (by omega) (by omega)) <| tsC (wrapN (n := (k : Int) + 1) (m := k + 1) (by omega) (by omega)) <| tsC (ltI (j := k + 1) (n := k + 1 + 1) (by omega)) <| tsC (ltA (i := i) (j := k + 1) (n := 17) hk) <| tsC (ltI (j := k) (n := k + 1) (by omega)) <| tsC (ltA (i := 0) (j := k) (n := 16) (by omega)) <| tsC (tF (p := (a : Int) ≥ (v : Int)) (by omega)) <|
      tsC (wrapN (n := (k : Int) + 1) (m := k + 1) (by omega) (by omega)) <| tsC (ltI (j := k + 1) (n := k + 1 + 1) (by omega)) <| tsC (ltA (i := i) (j := k + 1) (n := 17) hk) <| tsC (ltI (j := k) (n := k + 1 + 1) (by omega)) <| tsC (ltA (i := i) (j := k) (n := 17) (by omega)) <| tsC (ltI (j := k) (n := k + 1) (by omega)) <| tsC (ltA (i := 0) (j := k) (n := 16) (by omega)) ts0))
    (qs6 ((get17 p hk).trans (congrArg u ha)) ((getWord V (by omega)).trans (congrArg u hv)) ((get17 p hk).trans (congrArg u ha)) ((get17 p (by omega)).trans (congrArg u hb)) ((getWord V (by omega)).trans (congrArg u hv)) hd) rfl rfl enters_est (by kernel_rfl)

/-! ### subtractProduct -/
theorem sp_round {M N V i L j d c b v w lo hi x b' : Nat} {q p : Nat → Nat} (hi17 : i + L < 17) (hj : j < L) (hv : wd V j = v) (hw : p (i + j) = w)
    (h1 : QC Try.prog 96 [u v, u d, u c, .int .u64 0] (.tuple #[u lo, u hi])) (h2 : QC Try.prog 99 [u w, u lo, u b] (.tuple #[u x, u b'])) :
    Tri Try.prog (loopN Try.f109 0) (spS M N V i L j d c b (q16 q) p) (to .normal (spS M N V i L (j + 1) d hi b' (q16 q) (fun t => if t = i + j then x else p t))) := by
  have e := set17 p i j x
  have key : Tri Try.prog (loopN Try.f109 0) (spS M N V i L j d c b (q16 q) p) (to .normal ⟨(spS M N V i L (j + 1) d hi b' (q16 q) p).tmps, M5 M N V (q16 q) ((m17 p).set (i + ((j : Nat) : Int).toNat * 1) (.int .u64 x))⟩) :=
    Tri.run mixed spL [.tst true, .is 2 (u v), .res (.tuple #[u lo, u hi]), .is 11 (u w), .res (.tuple #[u x, u b']), .at 7 (.int .i64 ((j + 1 : Nat) : Int))]
      (tsC (ltI (j := j) (n := L) hj) <| tsC (ltI (j := j) (n := L) hj) <| tsC (ltA (i := 0) (j := j) (n := 16) (by omega)) <| tsC (ltI (j := j) (n := L + 1) (by omega)) <| tsC (ltA (i := i) (j := j) (n := 17) (by omega)) <| tsC (ltI (j := j) (n := L + 1) (by omega)) <| tsC (ltA (i := i) (j := j) (n := 17) (by omega)) <|
        tsC (wrapN (n := (j : Int) + 1) (m := j + 1) (by omega) (by omega)) ts0)
      (qs4 ((getWord V (by omega)).trans (congrArg u hv)) h1 ((get17 p (by omega)).trans (congrArg u hw)) h2) (by kernel_rfl)
  rw [e] at key
  exact key
theorem sp_end {M N V i L d c b : Nat} {q p : Nat → Nat} : Tri Try.prog (loopN Try.f109 0) (spS M N V i L L d c b (q16 q) p) (to (.exit 0) (spS M N V i L L d c b (q16 q) p)) :=
  Tri.run mixed spL [.tst false] (tsC (tF (p := (L : Int) < (L : Int)) (by omega)) ts0) qs0 (by kernel_rfl)
theorem sp_mc {M N V i L d c b w x b' : Nat} {q p p' : Nat → Nat} {r : Bool} (hi17 : i + L < 17) (hw : p' (i + L) = w) (hb : b' = match r with | true => 1 | false => 0)
    (hl : TriL Try.prog (loopN Try.f109 0) (spS M N V i L 0 d 0 0 (q16 q) p) (to (.exit 0) (spS M N V i L L d c b (q16 q) p'))) (h2 : QC Try.prog 99 [u w, u c, u b] (.tuple #[u x, u b'])) :
    MC Try.prog 109 [psl i L, dsl L, u d] (M5 M N V (q16 q) (m17 p)) (.bool r) (M5 M N V (q16 q) (m17 (fun t => if t = i + L then x else p' t))) := by
  have e := set17 p' i L x
  rw [← e]
  subst hb
  cases r
  · exact MC.run mixed Try.func109 [.cut spL (.exit 0) (spS M N V i L L d c b (q16 q) p'), .is 8 (u w), .res (.tuple #[u x, u 0])]
      (ts2 (tsC (ltI (j := L) (n := L + 1) (by omega)) <| tsC (ltA (i := i) (j := L) (n := 17) (by omega)) <| tsC (ltI (j := L) (n := L + 1) (by omega)) <| tsC (ltA (i := i) (j := L) (n := 17) (by omega)) ts0) (all17 p' i L x 5))
      (qs3 hl ((get17 p' hi17).trans (congrArg u hw)) h2) rfl rfl enters_subProd (by kernel_rfl)
  · exact MC.run mixed Try.func109 [.cut spL (.exit 0) (spS M N V i L L d c b (q16 q) p'), .is 8 (u w), .res (.tuple #[u x, u 1])]
      (ts2 (tsC (ltI (j := L) (n := L + 1) (by omega)) <| tsC (ltA (i := i) (j := L) (n := 17) (by omega)) <| tsC (ltI (j := L) (n := L + 1) (by omega)) <| tsC (ltA (i := i) (j := L) (n := 17) (by omega)) ts0) (all17 p' i L x 5))
      (qs3 hl ((get17 p' hi17).trans (congrArg u hw)) h2) rfl rfl enters_subProd (by kernel_rfl)

/-! ### addBack -/
theorem ab_round {M N V i L j c v w x c' : Nat} {q p : Nat → Nat} (hi17 : i + L < 17) (hj : j < L) (hv : wd V j = v) (hw : p (i + j) = w)
    (h2 : QC Try.prog 98 [u w, u v, u c] (.tuple #[u x, u c'])) :
    Tri Try.prog (loopN Try.f110 0) (abS M N V i L j c (q16 q) p) (to .normal (abS M N V i L (j + 1) c' (q16 q) (fun t => if t = i + j then x else p t))) := by
  have e := set17 p i j x
  have key : Tri Try.prog (loopN Try.f110 0) (abS M N V i L j c (q16 q) p) (to .normal ⟨(abS M N V i L (j + 1) c' (q16 q) p).tmps, M5 M N V (q16 q) ((m17 p).set (i + ((j : Nat) : Int).toNat * 1) (.int .u64 x))⟩) :=
    Tri.run mixed abL [.tst true, .is 2 (u v), .is 7 (u w), .res (.tuple #[u x, u c']), .at 7 (.int .i64 ((j + 1 : Nat) : Int))]
      (tsC (ltI (j := j) (n := L) hj) <| tsC (ltI (j := j) (n := L) hj) <| tsC (ltA (i := 0) (j := j) (n := 16) (by omega)) <| tsC (ltI (j := j) (n := L + 1) (by omega)) <| tsC (ltA (i := i) (j := j) (n := 17) (by omega)) <| tsC (ltI (j := j) (n := L + 1) (by omega)) <| tsC (ltA (i := i) (j := j) (n := 17) (by omega)) <|
        tsC (wrapN (n := (j : Int) + 1) (m := j + 1) (by omega) (by omega)) ts0)
      (qs3 ((getWord V (by omega)).trans (congrArg u hv)) ((get17 p (by omega)).trans (congrArg u hw)) h2) (by kernel_rfl)
  rw [e] at key
  exact key
theorem ab_end {M N V i L c : Nat} {q p : Nat → Nat} : Tri Try.prog (loopN Try.f110 0) (abS M N V i L L c (q16 q) p) (to (.exit 0) (abS M N V i L L c (q16 q) p)) :=
  Tri.run mixed abL [.tst false] (tsC (tF (p := (L : Int) < (L : Int)) (by omega)) ts0) qs0 (by kernel_rfl)
theorem ab_mc {M N V i L c w x b' : Nat} {q p p' : Nat → Nat} {r : Bool} (hi17 : i + L < 17) (hw : p' (i + L) = w) (hb : b' = match r with | true => 1 | false => 0)
    (hl : TriL Try.prog (loopN Try.f110 0) (abS M N V i L 0 0 (q16 q) p) (to (.exit 0) (abS M N V i L L c (q16 q) p'))) (h2 : QC Try.prog 98 [u w, .int .u64 0, u c] (.tuple #[u x, u b'])) :
    MC Try.prog 110 [psl i L, dsl L] (M5 M N V (q16 q) (m17 p)) (.bool r) (M5 M N V (q16 q) (m17 (fun t => if t = i + L then x else p' t))) := by
  have e := set17 p' i L x
  rw [← e]
  subst hb
  cases r
  · exact MC.run mixed Try.func110 [.cut abL (.exit 0) (abS M N V i L L c (q16 q) p'), .is 8 (u w), .res (.tuple #[u x, u 0])]
      (ts2 (tsC (ltI (j := L) (n := L + 1) (by omega)) <| tsC (ltA (i := i) (j := L) (n := 17) (by omega)) <| tsC (ltI (j := L) (n := L + 1) (by omega)) <| tsC (ltA (i := i) (j := L) (n := 17) (by omega)) ts0) (all17 p' i L x 5))
      (qs3 hl ((get17 p' hi17).trans (congrArg u hw)) h2) rfl rfl enters_addBack (by kernel_rfl)
  · exact MC.run mixed Try.func110 [.cut abL (.exit 0) (abS M N V i L L c (q16 q) p'), .is 8 (u w), .res (.tuple #[u x, u 1])]
      (ts2 (tsC (ltI (j := L) (n := L + 1) (by omega)) <| tsC (ltA (i := i) (j := L) (n := 17) (by omega)) <| tsC (ltI (j := L) (n := L + 1) (by omega)) <| tsC (ltA (i := i) (j := L) (n := 17) (by omega)) ts0) (all17 p' i L x 5))
      (qs3 hl ((get17 p' hi17).trans (congrArg u hw)) h2) rfl rfl enters_addBack (by kernel_rfl)

/-! ### takeDigit -/
theorem td_round {M N V i L d d' : Nat} {q p p' : Nat → Nat} {r : Bool} (hd : IntKind.u64.wrap ((d : Int) - 1) = d')
    (h : MC Try.prog 110 [psl i L, dsl L] (M5 M N V (q16 q) (m17 p)) (.bool r) (M5 M N V (q16 q) (m17 p'))) :
    Tri Try.prog (loopN Try.f104 0) (tdS M N V i L d true (q16 q) p) (to .normal (tdS M N V i L d' (!r) (q16 q) p')) :=
  Tri.run mixed tdL [.at 2 (u d'), .mem (.bool r) (M5 M N V (q16 q) (m17 p'))] (tsC (tT hd) ts0) (qs1 h) (by kernel_rfl)
theorem td_end {M N V i L d : Nat} {q p : Nat → Nat} : Tri Try.prog (loopN Try.f104 0) (tdS M N V i L d false (q16 q) p) (to (.exit 0) (tdS M N V i L d false (q16 q) p)) :=
  Tri.run mixed tdL [] ts0 qs0 (by kernel_rfl)
theorem td_mc {M N V i L d d' : Nat} {q p p1 p2 : Nat → Nat} {r : Bool} (h1 : MC Try.prog 108 [psl i L, dsl L] (M5 M N V (q16 q) (m17 p)) (u d) (M5 M N V (q16 q) (m17 p)))
    (h2 : MC Try.prog 109 [psl i L, dsl L, u d] (M5 M N V (q16 q) (m17 p)) (.bool r) (M5 M N V (q16 q) (m17 p1)))
    (hl : TriL Try.prog (loopN Try.f104 0) (tdS M N V i L d r (q16 q) p1) (to (.exit 0) (tdS M N V i L d' false (q16 q) p2))) :
    MC Try.prog 104 [psl i L, dsl L] (M5 M N V (q16 q) (m17 p)) (u d') (M5 M N V (q16 q) (m17 p2)) :=
  MC.run mixed Try.func104 [.mem (u d) (M5 M N V (q16 q) (m17 p)), .mem (.bool r) (M5 M N V (q16 q) (m17 p1)), .cut tdL (.exit 0) (tdS M N V i L d' false (q16 q) p2)] ts0 (qs3 h1 h2 hl) rfl rfl enters_take (by kernel_rfl)
end Go.Proofs.Ytjmdppnhpfdhdaa.W
