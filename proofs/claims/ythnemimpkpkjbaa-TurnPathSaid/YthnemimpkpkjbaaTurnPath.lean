/-
  Package turn: ways of up to 64 steps.
-/
import Derived.Test.YthnemimpkpkjbaaTurnTo
import Derived.Test.YthnemimpkpkjbaaTurnGroup
import Derived.Test.YthnemimpkpkjbaaPts
import Derived.Test.YthnemimpkpkjbaaRefC
import Derived.Test.YthnemimpkpkjbaaDiv
namespace Go.Proofs.Ythnemimpkpkjbaa.W
open Go Go.Ev Go.Wide Go.Flo

theorem ltN {i n : Nat} (h : i < n) : decide ((i : Int) < (n : Int)) = true := decide_eq_true (by omega)
def elP (l : List (Int × Int)) (i : Nat) : Int × Int := l.getD i (0, 0)
theorem elP_get {l : List (Int × Int)} {i : Nat} (h : i < l.length) : l[i]? = some ((elP l i).1, (elP l i).2) := by
  unfold elP
  rw [List.getD_eq_getElem?_getD, List.getElem?_eq_getElem h]
  rfl
/-- The headings, and the sums, as words. -/
def hdW (b : Nat × Nat) : Nat → Nat × Nat
  | 0 => b
  | i + 1 => (cMulBits (hdW b i).1 (hdW b i).2 b.1 b.2).getD (0, 0)
def moW (b : Nat × Nat) (l : List (Int × Int)) (i : Nat) : Nat × Nat := (cMulBits (floatOfInt .f64 (elP l i).1) (floatOfInt .f64 (elP l i).2) (hdW b i).1 (hdW b i).2).getD (0, 0)
def smW (b : Nat × Nat) (l : List (Int × Int)) : Nat → Nat × Nat
  | 0 => (0, 0)
  | i + 1 => (cSumBits .add .f64 (smW b l i).1 (smW b l i).2 (moW b l i).1 (moW b l i).2).getD (0, 0)
/-- The sums. -/
def sX (l : List (Int × Int)) (k : Int) : Nat → Int
  | 0 => 0
  | i + 1 => sX l k i + turX (((i + 1 : Nat) : Int) * k) (elP l i).1 (elP l i).2
def sY (l : List (Int × Int)) (k : Int) : Nat → Int
  | 0 => 0
  | i + 1 => sY l k i + turY (((i + 1 : Nat) : Int) * k) (elP l i).1 (elP l i).2
def pePt : Blk := ⟨[.int .i64 0, .int .i64 0], 23, true⟩
def pthS (l : List (Int × Int)) (c m i : Nat) (b h s : Nat × Nat) : St :=
  ⟨slots 42 [(4, .pointer (some ⟨1, 0, none⟩)), (5, .bool false), (6, cx b.1 b.2), (7, cx h.1 h.2), (8, cx s.1 s.2), (18, .slice (some ⟨0, 0, none⟩) m (c + 1)), (19, .int .i64 m), (20, .int .i64 i)], [rowB 23 (prL l), pePt]⟩
def pthL : List Nat := [4, 5, 6, 7, 8, 18, 19, 20]
theorem getCx {a : Option (Nat × Nat)} {p q : Nat} (h : a = some (p, q)) : a.getD (0, 0) = (p, q) := by rw [h]; rfl
theorem pth_round {l : List (Int × Int)} {c m i : Nat} {b h s mo h2 s2 : Nat × Nat} {x y : Int} (hi : i < m) (hl : i < l.length) (hm : i < 9223372036854775807) (hx : l[i]? = some (x, y)) (hs : mayP x y = true)
    (e1 : cMulBits (floatOfInt .f64 x) (floatOfInt .f64 y) h.1 h.2 = some mo) (e2 : cSumBits .add .f64 s.1 s.2 mo.1 mo.2 = some s2) (e3 : cMulBits h.1 h.2 b.1 b.2 = some h2) :
    Tri Try.prog (loopN Try.f9 0) (pthS l c m i b h s) (to .normal (pthS l c m (i + 1) b h2 s2)) := by
  obtain ⟨b1, b2⟩ := b
  obtain ⟨h1, hh⟩ := h
  obtain ⟨s1, ss⟩ := s
  obtain ⟨mo1, mo2⟩ := mo
  obtain ⟨h21, h22⟩ := h2
  obtain ⟨s21, s22⟩ := s2
  exact Tri.runK mixed pthL 2 [.tst true, .is 1 (pt x y), .res (.bool true), .res (cx (floatOfInt .f64 x) (floatOfInt .f64 y)), .is 2 (cx mo1 mo2), .is 0 (cx s21 s22), .is 3 (cx h21 h22), .at 1 (.int .i64 ((i + 1 : Nat) : Int))]
    (tsC (ltN hi) <| tsC (ltN hi) <| tsC (prL_in hl) <| tsC (smC e1) <| tsC (smC e2) <| tsC (smC e3) <| tsC (tT (p := IntKind.i64.wrap ((i : Int) + 1) = ((i + 1 : Nat) : Int)) (by rw [wrap_id (by omega)]; omega)) <| ts1 (prL_noNew 2 l))
    (qs6 (prL_row hx) (twithin_qc x y 4194304 (by omega) (by omega) _ hs) (complexOf_qc x y) (gdC e1) (gdC e2) (gdC e3)) (by kernel_rfl)
theorem pth_end {l : List (Int × Int)} {c m : Nat} {b h s : Nat × Nat} : Tri Try.prog (loopN Try.f9 0) (pthS l c m m b h s) (to (.exit 0) (pthS l c m m b h s)) :=
  Tri.runK mixed pthL 2 [.tst false] (tsC (tF (p := (m : Int) < (m : Int)) (by omega)) (ts1 (prL_noNew 2 l))) qs0 (by kernel_rfl)
def pthR (l : List (Int × Int)) : St := ⟨slots 42 [(4, .pointer (some ⟨1, 0, none⟩)), (5, .bool false)], [rowB 23 (prL l), pePt]⟩
theorem pth_bad {l : List (Int × Int)} {c m i : Nat} {b h s : Nat × Nat} {x y : Int} (hi : i < m) (hl : i < l.length) (hx : l[i]? = some (x, y)) (hs : mayP x y = false) :
    Tri Try.prog (loopN Try.f9 0) (pthS l c m i b h s) (to .ret (pthR l)) :=
  Tri.runK mixed [4, 5] 2 [.tst true, .is 1 (pt x y), .res (.bool false)] (tsC (ltN hi) <| tsC (ltN hi) <| tsC (prL_in hl) <| ts1 (prL_noNew 2 l))
    (qs2 (prL_row hx) (twithin_qc x y 4194304 (by omega) (by omega) _ hs)) (by kernel_rfl)
theorem pi_bd1 (j : Nat) : (piX j).natAbs ≤ 1 ∧ (piY j).natAbs ≤ 1 := by
  unfold piX piY
  split <;> decide
theorem hd_rep {b : Nat × Nat} {k : Int} (h1 : Rep b.1 (piX (k4 k))) (h2 : Rep b.2 (piY (k4 k))) : ∀ i : Nat, Rep (hdW b i).1 (piX (k4 (((i + 1 : Nat) : Int) * k))) ∧ Rep (hdW b i).2 (piY (k4 (((i + 1 : Nat) : Int) * k))) ∧ cMulBits (hdW b i).1 (hdW b i).2 b.1 b.2 = some (hdW b (i + 1))
  | i => by
    have key : Rep (hdW b i).1 (piX (k4 (((i + 1 : Nat) : Int) * k))) ∧ Rep (hdW b i).2 (piY (k4 (((i + 1 : Nat) : Int) * k))) := by
      cases i with
      | zero =>
        have e : (((0 + 1 : Nat) : Int) * k) = k := by rw [show ((0 + 1 : Nat) : Int) = 1 from rfl, Int.one_mul]
        rw [e]
        exact ⟨h1, h2⟩
      | succ i =>
        obtain ⟨g1, g2, g3⟩ := hd_rep h1 h2 i
        have a1 := pi_bd1 (k4 (((i + 1 : Nat) : Int) * k))
        have a2 := pi_bd1 (k4 k)
        obtain ⟨p, q, e, r1, r2⟩ := rep_cmul g1 g2 h1 h2 (by omega) (by omega) (by omega) (by omega)
        rw [g3] at e
        have ee : hdW b (i + 1) = (p, q) := Option.some.inj e
        have hk : (((i + 1 + 1 : Nat) : Int) * k) = ((i + 1 : Nat) : Int) * k + k := by
          rw [show ((i + 1 + 1 : Nat) : Int) = ((i + 1 : Nat) : Int) + 1 by omega, Int.add_mul, Int.one_mul]
        have h := pi_add ⟨k4 (((i + 1 : Nat) : Int) * k), k4_lt _⟩ ⟨k4 k, k4_lt k⟩
        simp only at h
        rw [ee, hk, k4_add, h.1, h.2]
        exact ⟨r1, r2⟩
    refine ⟨key.1, key.2, ?_⟩
    have a1 := pi_bd1 (k4 (((i + 1 : Nat) : Int) * k))
    have a2 := pi_bd1 (k4 k)
    obtain ⟨p, q, e, r1, r2⟩ := rep_cmul key.1 key.2 h1 h2 (by omega) (by omega) (by omega) (by omega)
    rw [e]
    show _ = some ((cMulBits (hdW b i).1 (hdW b i).2 b.1 b.2).getD (0, 0))
    rw [e]
    rfl
theorem tur_bd (k : Int) {x y : Int} (h : mayP x y = true) : (turX k x y).natAbs ≤ 4194304 ∧ (turY k x y).natAbs ≤ 4194304 := by
  have m := mayP_iff.1 (tur_may k h)
  omega
/-- What the sums are, as long as all are steps. -/
theorem sm_rep {b : Nat × Nat} {k : Int} {l : List (Int × Int)} (h1 : Rep b.1 (piX (k4 k))) (h2 : Rep b.2 (piY (k4 k))) : ∀ i : Nat, i ≤ 64 → (∀ j, j < i → mayP (elP l j).1 (elP l j).2 = true) →
    (Rep (smW b l i).1 (sX l k i) ∧ Rep (smW b l i).2 (sY l k i)) ∧ (sX l k i).natAbs ≤ i * 4194304 ∧ (sY l k i).natAbs ≤ i * 4194304
  | 0, _, _ => ⟨⟨⟨false, by kernel_rfl, rfl⟩, ⟨false, by kernel_rfl, rfl⟩⟩, Nat.zero_le _, Nat.zero_le _⟩
  | i + 1, hi, hs => by
    obtain ⟨⟨g1, g2⟩, g3, g4⟩ := sm_rep (l := l) h1 h2 i (by omega) fun j hj => hs j (by omega)
    obtain ⟨r1, r2, _⟩ := hd_rep h1 h2 i
    have hm := hs i (by omega)
    have hp := mayP_iff.1 hm
    have a1 := pi_bd1 (k4 (((i + 1 : Nat) : Int) * k))
    have a2 := tur_bd (((i + 1 : Nat) : Int) * k) hm
    obtain ⟨p, q, e, t1, t2⟩ := rep_cmul (rep_int (elP l i).1) (rep_int (elP l i).2) r1 r2 (by omega) (by omega) (by omega) (by omega)
    have em : moW b l i = (p, q) := by unfold moW; rw [e]; rfl
    obtain ⟨p', q', e', t3, t4⟩ := rep_cadd (x := sX l k i) (y := sY l k i) (u := turX (((i + 1 : Nat) : Int) * k) (elP l i).1 (elP l i).2) (v := turY (((i + 1 : Nat) : Int) * k) (elP l i).1 (elP l i).2) g1 g2 t1 t2 (by omega) (by omega) (by omega) (by omega)
    have es : smW b l (i + 1) = (p', q') := by
      show (cSumBits .add .f64 (smW b l i).1 (smW b l i).2 (moW b l i).1 (moW b l i).2).getD (0, 0) = _
      rw [em, e']
      rfl
    rw [es]
    refine ⟨⟨t3, t4⟩, ?_, ?_⟩
    · show (sX l k i + turX (((i + 1 : Nat) : Int) * k) (elP l i).1 (elP l i).2).natAbs ≤ _
      omega
    · show (sY l k i + turY (((i + 1 : Nat) : Int) * k) (elP l i).1 (elP l i).2).natAbs ≤ _
      omega
theorem mo_some {b : Nat × Nat} {k : Int} {l : List (Int × Int)} (h1 : Rep b.1 (piX (k4 k))) (h2 : Rep b.2 (piY (k4 k))) (i : Nat) (hm : mayP (elP l i).1 (elP l i).2 = true) : cMulBits (floatOfInt .f64 (elP l i).1) (floatOfInt .f64 (elP l i).2) (hdW b i).1 (hdW b i).2 = some (moW b l i) := by
  obtain ⟨r1, r2, _⟩ := hd_rep h1 h2 i
  have hp := mayP_iff.1 hm
  have a1 := pi_bd1 (k4 (((i + 1 : Nat) : Int) * k))
  obtain ⟨p, q, e, t1, t2⟩ := rep_cmul (rep_int (elP l i).1) (rep_int (elP l i).2) r1 r2 (by omega) (by omega) (by omega) (by omega)
  unfold moW
  rw [e]
  rfl
theorem sm_some {b : Nat × Nat} {k : Int} {l : List (Int × Int)} (h1 : Rep b.1 (piX (k4 k))) (h2 : Rep b.2 (piY (k4 k))) (i : Nat) (hi : i < 64) (hs : ∀ j, j < i + 1 → mayP (elP l j).1 (elP l j).2 = true) : cSumBits .add .f64 (smW b l i).1 (smW b l i).2 (moW b l i).1 (moW b l i).2 = some (smW b l (i + 1)) := by
  obtain ⟨⟨g1, g2⟩, g3, g4⟩ := sm_rep (l := l) h1 h2 i (by omega) fun j hj => hs j (by omega)
  obtain ⟨r1, r2, _⟩ := hd_rep h1 h2 i
  have hm := hs i (by omega)
  have hp := mayP_iff.1 hm
  have a1 := pi_bd1 (k4 (((i + 1 : Nat) : Int) * k))
  have a2 := tur_bd (((i + 1 : Nat) : Int) * k) hm
  obtain ⟨p, q, e, t1, t2⟩ := rep_cmul (rep_int (elP l i).1) (rep_int (elP l i).2) r1 r2 (by omega) (by omega) (by omega) (by omega)
  have em : moW b l i = (p, q) := by unfold moW; rw [e]; rfl
  obtain ⟨p', q', e', t3, t4⟩ := rep_cadd (x := sX l k i) (y := sY l k i) (u := turX (((i + 1 : Nat) : Int) * k) (elP l i).1 (elP l i).2) (v := turY (((i + 1 : Nat) : Int) * k) (elP l i).1 (elP l i).2) g1 g2 t1 t2 (by omega) (by omega) (by omega) (by omega)
  show _ = some ((cSumBits .add .f64 (smW b l i).1 (smW b l i).2 (moW b l i).1 (moW b l i).2).getD (0, 0))
  rw [em, e']
  rfl
/-- The first that is no step, if there is one among the first m. -/
theorem first_bad (l : List (Int × Int)) : ∀ m : Nat, (∀ j, j < m → mayP (elP l j).1 (elP l j).2 = true) ∨ ∃ i, i < m ∧ mayP (elP l i).1 (elP l i).2 = false ∧ ∀ j, j < i → mayP (elP l j).1 (elP l j).2 = true
  | 0 => .inl fun j hj => absurd hj (Nat.not_lt_zero j)
  | m + 1 => by
    rcases first_bad l m with h | ⟨i, h1, h2, h3⟩
    · cases hm : mayP (elP l m).1 (elP l m).2
      · exact .inr ⟨m, by omega, hm, h⟩
      · refine .inl fun j hj => ?_
        rcases Nat.lt_or_ge j m with h' | h'
        · exact h j h'
        · obtain rfl : j = m := by omega
          exact hm
    · exact .inr ⟨i, by omega, h2, h3⟩
theorem pth_steps {l : List (Int × Int)} {c m n : Nat} {b : Nat × Nat} {k : Int} (h1 : Rep b.1 (piX (k4 k))) (h2 : Rep b.2 (piY (k4 k))) (hml : m ≤ l.length) (hm : m ≤ 64) (hn : n ≤ m) (hs : ∀ j, j < n → mayP (elP l j).1 (elP l j).2 = true) (i : Nat) (hi : i < n) :
    Tri Try.prog (loopN Try.f9 0) (pthS l c m i b (hdW b i) (smW b l i)) (to .normal (pthS l c m (i + 1) b (hdW b (i + 1)) (smW b l (i + 1)))) :=
  pth_round (by omega) (by omega) (by omega) (elP_get (by omega)) (hs i hi) (mo_some h1 h2 i (hs i hi)) (sm_some h1 h2 i (by omega) fun j hj => hs j (by omega)) (hd_rep h1 h2 i).2.2
theorem pth_good {l : List (Int × Int)} {c m : Nat} {b : Nat × Nat} {k : Int} (h1 : Rep b.1 (piX (k4 k))) (h2 : Rep b.2 (piY (k4 k))) (hml : m ≤ l.length) (hm : m ≤ 64) (hs : ∀ j, j < m → mayP (elP l j).1 (elP l j).2 = true) :
    TriL Try.prog (loopN Try.f9 0) (pthS l c m 0 b b (0, 0)) (to (.exit 0) (pthS l c m m b (hdW b m) (smW b l m))) :=
  TriL.count (P := Try.prog) (c := loopN Try.f9 0) (e := .exit 0) (S' := pthS l c m m b (hdW b m) (smW b l m)) (fun i => pthS l c m i b (hdW b i) (smW b l i)) (by simp) m (fun i hi => pth_steps h1 h2 hml hm (Nat.le_refl m) hs i hi) pth_end
theorem pth_out {l : List (Int × Int)} {c m n : Nat} {b : Nat × Nat} {k : Int} (h1 : Rep b.1 (piX (k4 k))) (h2 : Rep b.2 (piY (k4 k))) (hml : m ≤ l.length) (hm : m ≤ 64) (hn : n < m) (hs : ∀ j, j < n → mayP (elP l j).1 (elP l j).2 = true) (hb : mayP (elP l n).1 (elP l n).2 = false) :
    TriL Try.prog (loopN Try.f9 0) (pthS l c m 0 b b (0, 0)) (to .ret (pthR l)) :=
  TriL.count (P := Try.prog) (c := loopN Try.f9 0) (e := .ret) (S' := pthR l) (fun i => pthS l c m i b (hdW b i) (smW b l i)) (by simp) n (fun i hi => pth_steps h1 h2 hml hm (by omega) hs i hi) (pth_bad hn (by omega) (elP_get (by omega)) hb)
theorem enters_path : ∀ us w, (callFunc 9 us).run Try.prog w = .ok (.enter 9 us) w := enters Try.func9 rfl (by kernel_rfl)
def slP (c n : Nat) : Value := .slice (some ⟨0, 0, none⟩) n (c + 1)
theorem path_run {l : List (Int × Int)} {c n m : Nat} {b h s : Nat × Nat} {k : Int} {X Y : Int} {r : Bool} (hb : QC Try.prog 23 [.int .i64 k] (cx b.1 b.2)) (hmin : Value.int .i64 (if (64 : Int) < (n : Int) then 64 else (n : Int)) = .int .i64 m) (hc : m ≤ c + 1)
    (hl : TriL Try.prog (loopN Try.f9 0) (pthS l c m 0 b b (0, 0)) (to (.exit 0) (pthS l c m m b h s))) (ht : QC Try.prog 20 [cx s.1 s.2] (ptB X Y r)) :
    MC Try.prog 9 [slP c n, .int .i64 k] [rowB 23 (prL l)] (ptB X Y r) [rowB 23 (prL l)] := by
  obtain ⟨b1, b2⟩ := b
  obtain ⟨h1, hh⟩ := h
  obtain ⟨s1, ss⟩ := s
  exact MC.run5 mixed Try.func9 [.res (cx b1 b2), .is 8 (.int .i64 m), .cut pthL (.exit 0) (pthS l c m m (b1, b2) (h1, hh) (s1, ss)), .res (ptB X Y r)] (tsC (by rw [decide_eq_true (by omega)]; rfl : (decide ((m : Int) ≤ ((c + 1 : Nat) : Int)) && true) = true) (ts1 (prL_noNew 1 l))) (qs4 hb hmin hl ht) rfl rfl enters_path (by kernel_rfl)
theorem path_runB {l : List (Int × Int)} {c n m : Nat} {b : Nat × Nat} {k : Int} (hb : QC Try.prog 23 [.int .i64 k] (cx b.1 b.2)) (hmin : Value.int .i64 (if (64 : Int) < (n : Int) then 64 else (n : Int)) = .int .i64 m) (hc : m ≤ c + 1)
    (hl : TriL Try.prog (loopN Try.f9 0) (pthS l c m 0 b b (0, 0)) (to .ret (pthR l))) :
    MC Try.prog 9 [slP c n, .int .i64 k] [rowB 23 (prL l)] (ptB 0 0 false) [rowB 23 (prL l)] := by
  obtain ⟨b1, b2⟩ := b
  exact MC.run5 mixed Try.func9 [.res (cx b1 b2), .is 8 (.int .i64 m), .cut pthL .ret (pthR l)] (tsC (by rw [decide_eq_true (by omega)]; rfl : (decide ((m : Int) ≤ ((c + 1 : Nat) : Int)) && true) = true) (ts1 (prL_noNew 1 l))) (qs3 hb hmin hl) rfl rfl enters_path (by kernel_rfl)
theorem path_nil {b : Nat × Nat} {k : Int} (hb : QC Try.prog 23 [.int .i64 k] (cx b.1 b.2)) (ht : QC Try.prog 20 [cx 0 0] (ptB 0 0 true)) :
    MC Try.prog 9 [sliceTok 0 0, .int .i64 k] [] (ptB 0 0 true) [] := by
  obtain ⟨b1, b2⟩ := b
  exact MC.run5 mixed Try.func9 [.res (cx b1 b2), .res (ptB 0 0 true)] ts0 (qs2 hb ht) rfl rfl enters_path (by kernel_rfl)
/-- What a way gives: its end, and whether it is one. -/
def allS (l : List (Int × Int)) (m : Nat) : Bool := (List.range m).all fun j => mayP (elP l j).1 (elP l j).2
theorem allS_iff {l : List (Int × Int)} {m : Nat} : allS l m = true ↔ ∀ j, j < m → mayP (elP l j).1 (elP l j).2 = true := by
  unfold allS
  simp only [List.all_eq_true, List.mem_range]
theorem allS_f {l : List (Int × Int)} {m i : Nat} (hi : i < m) (h : mayP (elP l i).1 (elP l i).2 = false) : allS l m = false := by
  cases e : allS l m
  · rfl
  · have := allS_iff.1 e i hi
    rw [h] at this
    cases this
def pathV (l : List (Int × Int)) (k : Int) : Value := match allS l (min l.length 64) && mayP (sX l k (min l.length 64)) (sY l k (min l.length 64)) with
  | true => ptB (sX l k (min l.length 64)) (sY l k (min l.length 64)) true
  | false => ptB 0 0 false
theorem val_rep {w : Nat} {n : Int} (h : Rep w n) (hn : n.natAbs < 9007199254740992) : val w = some (n * U) := by
  obtain ⟨s, rfl, e⟩ := h
  rw [val_wd s hn, e]
theorem rep_lt {w : Nat} {n : Int} (h : Rep w n) : w < 18446744073709551616 := by
  obtain ⟨s, rfl, e⟩ := h
  exact FloatKind.f64.format.nearest_lt s n.natAbs 0
theorem co_rep {w : Nat} {n : Int} (h : Rep w n) (hn : n.natAbs < 9007199254740992) : coB w = (decide (-4194304 ≤ n) && decide (n ≤ 4194304)) ∧ nI w = n := by
  have hv := val_rep h hn
  have hU := U_pos
  have hd : (n * U).tdiv U = n := Int.mul_tdiv_cancel _ (by omega)
  have hw : whB w = true := by
    unfold whB
    rw [hv]
    simp only [decide_eq_true_eq]
    rw [hd]
  have hf : finB w = (decide (-4194304 ≤ n) && decide (n ≤ 4194304)) := by
    unfold finB
    rw [hv]
    simp only
    rw [Bool.eq_iff_iff]
    simp only [Bool.and_eq_true, decide_eq_true_eq]
    unfold MU
    rw [← Int.neg_mul]
    constructor
    · rintro ⟨a, b⟩
      exact ⟨Int.le_of_mul_le_mul_right a hU, Int.le_of_mul_le_mul_right b hU⟩
    · rintro ⟨a, b⟩
      exact ⟨Int.mul_le_mul_of_nonneg_right a (by omega), Int.mul_le_mul_of_nonneg_right b (by omega)⟩
  refine ⟨?_, ?_⟩
  · unfold coB
    rw [hf, hw]
    cases (decide (-4194304 ≤ n) && decide (n ≤ 4194304)) <;> rfl
  · unfold nI
    rw [hv]
    exact hd
theorem to_rep {p q : Nat} {X Y : Int} (hp : Rep p X) (hq : Rep q Y) (h1 : X.natAbs < 9007199254740992) (h2 : Y.natAbs < 9007199254740992) {v : Value} (hv : (match mayP X Y with | true => ptB X Y true | false => ptB 0 0 false) = v) : QC Try.prog 20 [cx p q] v := by
  subst hv
  obtain ⟨c1, n1⟩ := co_rep hp h1
  obtain ⟨c2, n2⟩ := co_rep hq h2
  have hc : (coB p && coB q) = mayP X Y := by
    rw [c1, c2]
    unfold mayP within
    rw [Bool.and_assoc]
  cases h : mayP X Y
  · rw [h] at hc
    exact to_f (rep_lt hp) (rep_lt hq) hc
  · rw [h, Bool.and_eq_true] at hc
    exact to_t (rep_lt hp) (rep_lt hq) hc.1 hc.2 n1 n2
theorem min64 (n : Nat) : Value.int .i64 (if (64 : Int) < (n : Int) then 64 else (n : Int)) = .int .i64 ((min n 64 : Nat) : Int) := by
  congr 1
  split <;> omega
theorem path0_mc {l : List (Int × Int)} {c : Nat} (k : Int) (hl : l.length ≤ c + 1) : MC Try.prog 9 [slP c l.length, .int .i64 k] [rowB 23 (prL l)] (pathV l k) [rowB 23 (prL l)] := by
  obtain ⟨b1, b2, h1, h2, hpw⟩ := power_pc k
  have hb : QC Try.prog 23 [.int .i64 k] (cx (b1, b2).1 (b1, b2).2) := QC.of_pc enters_power hpw
  rcases first_bad l (min l.length 64) with hs | ⟨i, hi, hbad, hs⟩
  · obtain ⟨⟨g1, g2⟩, g3, g4⟩ := sm_rep (b := (b1, b2)) (l := l) h1 h2 (min l.length 64) (by omega) hs
    have hloop := pth_good (c := c) (b := (b1, b2)) h1 h2 (show min l.length 64 ≤ l.length by omega) (by omega) hs
    unfold pathV
    rw [allS_iff.2 hs, Bool.true_and]
    have ht := to_rep g1 g2 (by omega) (by omega) rfl
    cases hm : mayP (sX l k (min l.length 64)) (sY l k (min l.length 64))
    · rw [hm] at ht
      exact path_run hb (min64 _) (by omega) hloop ht
    · rw [hm] at ht
      exact path_run hb (min64 _) (by omega) hloop ht
  · have hloop := pth_out (c := c) (b := (b1, b2)) h1 h2 (show min l.length 64 ≤ l.length by omega) (by omega) hi hs hbad
    unfold pathV
    rw [allS_f hi hbad]
    exact path_runB hb (min64 _) (by omega) hloop
theorem pathV_form (l : List (Int × Int)) (k : Int) : ∃ X Y r, pathV l k = ptB X Y r := by
  unfold pathV
  split
  · exact ⟨_, _, _, rfl⟩
  · exact ⟨_, _, _, rfl⟩
theorem abs_ptB (X Y : Int) (r : Bool) : absV (ptB X Y r) = true := rfl
theorem ok_ptB (n : Nat) (X Y : Int) (r : Bool) : okV n (ptB X Y r) = true := rfl
/-- A way, in whatever memory its steps lie. -/
theorem path_at {l : List (Int × Int)} {c j : Nat} (k : Int) {mem : Mem} {C : Blk} (hl : l.length ≤ c + 1) (hC : mem[j]? = some C) (hc : C.cells = prL l) : MC Try.prog 9 [prX l.isEmpty j l.length c, .int .i64 k] mem (pathV l k) mem := by
  obtain ⟨X, Y, r, hv⟩ := pathV_form l k
  cases l with
  | nil =>
    obtain ⟨b1, b2, h1, h2, hpw⟩ := power_pc k
    have hb : QC Try.prog 23 [.int .i64 k] (cx (b1, b2).1 (b1, b2).2) := QC.of_pc enters_power hpw
    have ht : QC Try.prog 20 [cx 0 0] (ptB 0 0 true) := to_rep (p := 0) (q := 0) (X := 0) (Y := 0) ⟨false, by kernel_rfl, rfl⟩ ⟨false, by kernel_rfl, rfl⟩ (by decide) (by decide) (by rw [show mayP 0 0 = true from mayP_iff.2 (by omega)])
    have e : pathV [] k = ptB 0 0 true := by
      unfold pathV
      rw [show mayP (sX [] k (min ([] : List (Int × Int)).length 64)) (sY [] k (min ([] : List (Int × Int)).length 64)) = true from mayP_iff.2 (by show (-4194304 ≤ (0 : Int) ∧ (0 : Int) ≤ 4194304) ∧ (-4194304 ≤ (0 : Int) ∧ (0 : Int) ≤ 4194304); omega)]
      rfl
    rw [e]
    have key := MC.frame (σ := []) (mem0 := []) (news := []) (mem := mem) (path_nil hb ht) rfl (fun X hX => by cases hX) (fun X hX => by cases hX) (fun i' k' X h1 h2 => by cases h1) rfl (fun i hi => absurd hi (Nat.not_lt_zero i)) rfl
    rw [show fV [] mem.length (ptB 0 0 true) = ptB 0 0 true from rfl, List.append_nil] at key
    exact key
  | cons a l =>
    have h := path0_mc (c := c) k hl
    rw [hv] at h ⊢
    have key := MC.frame (σ := [j]) (mem0 := [rowB 23 (prL (a :: l))]) (news := []) (mem := mem) h rfl (fun X hX => by
      cases hX with
      | head => exact ⟨rfl, prL_flat (a :: l)⟩
      | tail _ h => cases h) (fun X hX => by cases hX) (fun i k' X h1 h2 => by
      cases i with
      | zero => cases h1; cases h2; exact ⟨C, hC, hc⟩
      | succ i => cases h1) rfl (fun i hi => by
      have : i = 0 := by simpa using hi
      subst this
      rfl) (ok_ptB _ _ _ _)
    rw [show fV [j] mem.length (ptB X Y r) = ptB X Y r from rfl, List.append_nil] at key
    exact key
end Go.Proofs.Ythnemimpkpkjbaa.W
