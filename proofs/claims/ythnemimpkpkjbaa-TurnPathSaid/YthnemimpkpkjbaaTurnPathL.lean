/-
  TurnPath: a way straight on is its steps, added; four alike with a quarter between come back.
-/
import Derived.Test.YthnemimpkpkjbaaTurnPath
namespace Go.Proofs.Ythnemimpkpkjbaa.W
open Go Go.Ev Go.Wide Go.Flo

/-- What the law adds: the sums and whether all were steps. -/
def tpS (l : List (Int × Int)) : Nat → Int × Int × Bool
  | 0 => (0, 0, true)
  | i + 1 => match decide (i < 64), (tpS l i).2.2, mayP (elP l i).1 (elP l i).2 with
    | false, _, _ => tpS l i
    | true, true, true => ((tpS l i).1 + (elP l i).1, (tpS l i).2.1 + (elP l i).2, true)
    | true, true, false => ((tpS l i).1, (tpS l i).2.1, false)
    | true, false, _ => ((tpS l i).1, (tpS l i).2.1, false)
def tptS (l : List (Int × Int)) (x y k : Int) (c n i : Nat) (X Y : Int) (r : Bool) : St :=
  ⟨slots 88 [(0, slP c n), (2, .int .i64 k), (4, .pointer (some ⟨1, 0, none⟩)), (6, .bool false), (7, .int .i64 X), (8, .int .i64 Y), (9, .bool r), (17, slP c n), (18, .int .i64 n), (19, .int .i64 i)], [rowB 23 (prL l), ⟨[.int .i64 x, .int .i64 y], 23, true⟩]⟩
def tptL : List Nat := [0, 2, 4, 6, 7, 8, 9, 17, 18, 19]
theorem tpt_64 {l : List (Int × Int)} {x y k : Int} {c n i : Nat} {X Y u v : Int} {r : Bool} (hi : i < n) (hl : i < l.length) (hm : i < 9223372036854775807) (hx : l[i]? = some (u, v)) (h64 : ¬ i < 64) :
    Tri Try.prog (loopN Try.f6 0) (tptS l x y k c n i X Y r) (to .normal (tptS l x y k c n (i + 1) X Y r)) :=
  Tri.runK mixed tptL 2 [.tst true, .is 2 (pt u v), .is 4 (.bool false), .at 0 (.int .i64 ((i + 1 : Nat) : Int))]
    (tsC (ltN hi) <| tsC (ltN hi) <| tsC (prL_in hl) <| tsC (tT (p := IntKind.i64.wrap ((i : Int) + 1) = ((i + 1 : Nat) : Int)) (by rw [wrap_id (by omega)]; omega)) <| ts1 (prL_noNew 2 l))
    (qs2 (prL_row hx) (show Value.bool (decide ((i : Int) < 64)) = .bool false by rw [decide_eq_false (by omega)])) (by kernel_rfl)
theorem tpt_no {l : List (Int × Int)} {x y k : Int} {c n i : Nat} {X Y u v : Int} (hi : i < n) (hl : i < l.length) (hm : i < 9223372036854775807) (hx : l[i]? = some (u, v)) (h64 : i < 64) :
    Tri Try.prog (loopN Try.f6 0) (tptS l x y k c n i X Y false) (to .normal (tptS l x y k c n (i + 1) X Y false)) :=
  Tri.runK mixed tptL 2 [.tst true, .is 2 (pt u v), .is 4 (.bool true), .at 5 (.int .i64 ((i + 1 : Nat) : Int))]
    (tsC (ltN hi) <| tsC (ltN hi) <| tsC (prL_in hl) <| tsC (tT (p := IntKind.i64.wrap ((i : Int) + 1) = ((i + 1 : Nat) : Int)) (by rw [wrap_id (by omega)]; omega)) <| ts1 (prL_noNew 2 l))
    (qs2 (prL_row hx) (show Value.bool (decide ((i : Int) < 64)) = .bool true by rw [decide_eq_true (by omega)])) (by kernel_rfl)
theorem tpt_bad {l : List (Int × Int)} {x y k : Int} {c n i : Nat} {X Y u v : Int} (hi : i < n) (hl : i < l.length) (hm : i < 9223372036854775807) (hx : l[i]? = some (u, v)) (h64 : i < 64) (hs : mayP u v = false) :
    Tri Try.prog (loopN Try.f6 0) (tptS l x y k c n i X Y true) (to .normal (tptS l x y k c n (i + 1) X Y false)) :=
  Tri.runK mixed tptL 2 [.tst true, .is 2 (pt u v), .is 4 (.bool true), .res (.bool false), .at 4 (.int .i64 ((i + 1 : Nat) : Int))]
    (tsC (ltN hi) <| tsC (ltN hi) <| tsC (prL_in hl) <| tsC (tT (p := IntKind.i64.wrap ((i : Int) + 1) = ((i + 1 : Nat) : Int)) (by rw [wrap_id (by omega)]; omega)) <| ts1 (prL_noNew 2 l))
    (qs3 (prL_row hx) (show Value.bool (decide ((i : Int) < 64)) = .bool true by rw [decide_eq_true (by omega)]) (mayStep_qc u v hs)) (by kernel_rfl)
theorem tpt_add {l : List (Int × Int)} {x y k : Int} {c n i : Nat} {X Y u v : Int} (hi : i < n) (hl : i < l.length) (hm : i < 9223372036854775807) (hx : l[i]? = some (u, v)) (h64 : i < 64) (hs : mayP u v = true) (hX : X.natAbs ≤ i * 4194304) (hY : Y.natAbs ≤ i * 4194304) :
    Tri Try.prog (loopN Try.f6 0) (tptS l x y k c n i X Y true) (to .normal (tptS l x y k c n (i + 1) (X + u) (Y + v) true)) :=
  have hp := mayP_iff.1 hs
  Tri.runK mixed tptL 2 [.tst true, .is 2 (pt u v), .is 4 (.bool true), .res (.bool true), .at 7 (.int .i64 (X + u)), .at 3 (.int .i64 (Y + v)), .at 2 (.int .i64 ((i + 1 : Nat) : Int))]
    (tsC (ltN hi) <| tsC (ltN hi) <| tsC (prL_in hl) <| tsC (tT (wrap_id (z := X + u) (by omega))) <| tsC (tT (wrap_id (z := Y + v) (by omega))) <| tsC (tT (p := IntKind.i64.wrap ((i : Int) + 1) = ((i + 1 : Nat) : Int)) (by rw [wrap_id (by omega)]; omega)) <| ts1 (prL_noNew 2 l))
    (qs3 (prL_row hx) (show Value.bool (decide ((i : Int) < 64)) = .bool true by rw [decide_eq_true (by omega)]) (mayStep_qc u v hs)) (by kernel_rfl)
theorem tpt_end {l : List (Int × Int)} {x y k : Int} {c n : Nat} {X Y : Int} {r : Bool} : Tri Try.prog (loopN Try.f6 0) (tptS l x y k c n n X Y r) (to (.exit 0) (tptS l x y k c n n X Y r)) :=
  Tri.runK mixed tptL 2 [.tst false] (tsC (tF (p := (n : Int) < (n : Int)) (by omega)) (ts1 (prL_noNew 2 l))) qs0 (by kernel_rfl)
theorem k4_zero {k : Int} (h : k4 k = 0) (i : Nat) : k4 ((i : Int) * k) = 0 := by
  unfold k4 at *
  have h1 : k % 4 = 0 := by omega
  have h2 : (i : Int) * k % 4 = 0 := by rw [Int.mul_emod, h1, Int.mul_zero]; rfl
  rw [h2]
  rfl
theorem tur_flat {k : Int} (h : k4 k = 0) (x y : Int) : turX k x y = x ∧ turY k x y = y := by
  unfold turX turY
  rw [h, pi_vals.1, pi_vals.2.2.2.2.1]
  omega
theorem tpS_add {l : List (Int × Int)} {i : Nat} (h : i < 64) (h1 : (tpS l i).2.2 = true) (h2 : mayP (elP l i).1 (elP l i).2 = true) : tpS l (i + 1) = ((tpS l i).1 + (elP l i).1, (tpS l i).2.1 + (elP l i).2, true) := by
  show (match decide (i < 64), (tpS l i).2.2, mayP (elP l i).1 (elP l i).2 with
    | false, _, _ => tpS l i
    | true, true, true => ((tpS l i).1 + (elP l i).1, (tpS l i).2.1 + (elP l i).2, true)
    | true, true, false => ((tpS l i).1, (tpS l i).2.1, false)
    | true, false, _ => ((tpS l i).1, (tpS l i).2.1, false)) = _
  rw [decide_eq_true h, h1, h2]
theorem tpS_bad {l : List (Int × Int)} {i : Nat} (h : i < 64) (h1 : (tpS l i).2.2 = true) (h2 : mayP (elP l i).1 (elP l i).2 = false) : tpS l (i + 1) = ((tpS l i).1, (tpS l i).2.1, false) := by
  show (match decide (i < 64), (tpS l i).2.2, mayP (elP l i).1 (elP l i).2 with
    | false, _, _ => tpS l i
    | true, true, true => ((tpS l i).1 + (elP l i).1, (tpS l i).2.1 + (elP l i).2, true)
    | true, true, false => ((tpS l i).1, (tpS l i).2.1, false)
    | true, false, _ => ((tpS l i).1, (tpS l i).2.1, false)) = _
  rw [decide_eq_true h, h1, h2]
theorem tpS_no {l : List (Int × Int)} {i : Nat} (h : i < 64) (h1 : (tpS l i).2.2 = false) : tpS l (i + 1) = ((tpS l i).1, (tpS l i).2.1, false) := by
  show (match decide (i < 64), (tpS l i).2.2, mayP (elP l i).1 (elP l i).2 with
    | false, _, _ => tpS l i
    | true, true, true => ((tpS l i).1 + (elP l i).1, (tpS l i).2.1 + (elP l i).2, true)
    | true, true, false => ((tpS l i).1, (tpS l i).2.1, false)
    | true, false, _ => ((tpS l i).1, (tpS l i).2.1, false)) = _
  rw [decide_eq_true h, h1]
theorem tpS_64 {l : List (Int × Int)} {i : Nat} (h : ¬ i < 64) : tpS l (i + 1) = tpS l i := by
  show (match decide (i < 64), (tpS l i).2.2, mayP (elP l i).1 (elP l i).2 with
    | false, _, _ => tpS l i
    | true, true, true => ((tpS l i).1 + (elP l i).1, (tpS l i).2.1 + (elP l i).2, true)
    | true, true, false => ((tpS l i).1, (tpS l i).2.1, false)
    | true, false, _ => ((tpS l i).1, (tpS l i).2.1, false)) = _
  rw [decide_eq_false h]
theorem tpS_bd (l : List (Int × Int)) : ∀ i : Nat, (tpS l i).1.natAbs ≤ i * 4194304 ∧ (tpS l i).2.1.natAbs ≤ i * 4194304
  | 0 => ⟨Nat.zero_le _, Nat.zero_le _⟩
  | i + 1 => by
    have ih := tpS_bd l i
    by_cases h : i < 64
    · cases h1 : (tpS l i).2.2
      · rw [tpS_no h h1]; exact ⟨show (tpS l i).1.natAbs ≤ _ by omega, show (tpS l i).2.1.natAbs ≤ _ by omega⟩
      · cases h2 : mayP (elP l i).1 (elP l i).2
        · rw [tpS_bad h h1 h2]; exact ⟨show (tpS l i).1.natAbs ≤ _ by omega, show (tpS l i).2.1.natAbs ≤ _ by omega⟩
        · have := mayP_iff.1 h2
          rw [tpS_add h h1 h2]
          constructor
          · show ((tpS l i).1 + (elP l i).1).natAbs ≤ _
            omega
          · show ((tpS l i).2.1 + (elP l i).2).natAbs ≤ _
            omega
    · rw [tpS_64 h]
      exact ⟨Nat.le_trans ih.1 (Nat.mul_le_mul_right _ (Nat.le_succ i)), Nat.le_trans ih.2 (Nat.mul_le_mul_right _ (Nat.le_succ i))⟩
/-- The law's sums are the way's. -/
theorem tpS_all {k : Int} (hk : k4 k = 0) (l : List (Int × Int)) (i : Nat) : (allS l (min i 64) = true → tpS l i = (sX l k (min i 64), sY l k (min i 64), true)) ∧ (allS l (min i 64) = false → (tpS l i).2.2 = false) := by
  induction i with
  | zero =>
    rw [Nat.zero_min]
    have e0 : allS l 0 = true := allS_iff.2 fun j hj => absurd hj (Nat.not_lt_zero j)
    have e1 : tpS l 0 = (sX l k 0, sY l k 0, true) := by
      unfold tpS sX sY
      rfl
    rw [e0, e1]
    exact ⟨fun _ => rfl, fun h => absurd h (by simp)⟩
  | succ i ih =>
    obtain ⟨g1, g2⟩ := ih
    by_cases h : i < 64
    · rw [show min (i + 1) 64 = i + 1 by omega]
      rw [show min i 64 = i by omega] at g1 g2
      constructor
      · intro ha
        have ha' := allS_iff.1 ha
        have e := g1 (allS_iff.2 fun j hj => ha' j (by omega))
        have hm := ha' i (by omega)
        rw [tpS_add h (by rw [e]) hm, e]
        have ht := tur_flat (k4_zero hk (i + 1)) (elP l i).1 (elP l i).2
        show _ = (sX l k i + turX (((i + 1 : Nat) : Int) * k) (elP l i).1 (elP l i).2, sY l k i + turY (((i + 1 : Nat) : Int) * k) (elP l i).1 (elP l i).2, true)
        rw [ht.1, ht.2]
      · intro ha
        cases hp : allS l i
        · rw [tpS_no h (g2 hp)]
        · have e := g1 hp
          cases hm : mayP (elP l i).1 (elP l i).2
          · rw [tpS_bad h (by rw [e]) hm]
          · exfalso
            have : allS l (i + 1) = true := allS_iff.2 fun j hj => by
              rcases Nat.lt_or_ge j i with h' | h'
              · exact allS_iff.1 hp j h'
              · obtain rfl : j = i := by omega
                exact hm
            rw [this] at ha
            cases ha
    · rw [show min (i + 1) 64 = min i 64 by omega, tpS_64 h]
      exact ⟨g1, g2⟩
theorem tpt_loop {l : List (Int × Int)} {x y k : Int} {c : Nat} (hm : l.length ≤ 9223372036854775807) :
    TriL Try.prog (loopN Try.f6 0) (tptS l x y k c l.length 0 0 0 true) (to (.exit 0) (tptS l x y k c l.length l.length (tpS l l.length).1 (tpS l l.length).2.1 (tpS l l.length).2.2)) :=
  TriL.count (P := Try.prog) (c := loopN Try.f6 0) (e := .exit 0) (S' := tptS l x y k c l.length l.length (tpS l l.length).1 (tpS l l.length).2.1 (tpS l l.length).2.2)
    (fun i => tptS l x y k c l.length i (tpS l i).1 (tpS l i).2.1 (tpS l i).2.2) (by simp) l.length (fun i hi => by
      have hx := elP_get hi
      have hb := tpS_bd l i
      by_cases h : i < 64
      · cases h1 : (tpS l i).2.2
        · rw [tpS_no h h1]
          exact tpt_no hi hi (by omega) hx h
        · cases h2 : mayP (elP l i).1 (elP l i).2
          · rw [tpS_bad h h1 h2]
            exact tpt_bad hi hi (by omega) hx h h2
          · rw [tpS_add h h1 h2]
            exact tpt_add hi hi (by omega) hx h h2 hb.1 hb.2
      · rw [tpS_64 h]
        exact tpt_64 hi hi (by omega) hx h) tpt_end
theorem enters_turnPath : ∀ us w, (callFunc 6 us).run Try.prog w = .ok (.enter 6 us) w := enters Try.func6 rfl (by kernel_rfl)
/-- Four steps alike, with a quarter between. -/
theorem four_all (x y : Int) : allS [(x, y), (x, y), (x, y), (x, y)] 4 = mayP x y := by
  show (mayP x y && (mayP x y && (mayP x y && (mayP x y && true)))) = mayP x y
  cases mayP x y <;> rfl
theorem four_back (x y : Int) : sX [(x, y), (x, y), (x, y), (x, y)] 1 4 = 0 ∧ sY [(x, y), (x, y), (x, y), (x, y)] 1 4 = 0 := by
  have v := pi_vals
  have k1 : k4 (((0 + 1 : Nat) : Int) * 1) = 1 := rfl
  have k2 : k4 (((1 + 1 : Nat) : Int) * 1) = 2 := rfl
  have k3 : k4 (((2 + 1 : Nat) : Int) * 1) = 3 := rfl
  have k0 : k4 (((3 + 1 : Nat) : Int) * 1) = 0 := rfl
  constructor
  · show 0 + turX (((0 + 1 : Nat) : Int) * 1) x y + turX (((1 + 1 : Nat) : Int) * 1) x y + turX (((2 + 1 : Nat) : Int) * 1) x y + turX (((3 + 1 : Nat) : Int) * 1) x y = 0
    unfold turX
    rw [k1, k2, k3, k0, v.1, v.2.1, v.2.2.1, v.2.2.2.1, v.2.2.2.2.1, v.2.2.2.2.2.1, v.2.2.2.2.2.2.1, v.2.2.2.2.2.2.2]
    omega
  · show 0 + turY (((0 + 1 : Nat) : Int) * 1) x y + turY (((1 + 1 : Nat) : Int) * 1) x y + turY (((2 + 1 : Nat) : Int) * 1) x y + turY (((3 + 1 : Nat) : Int) * 1) x y = 0
    unfold turY
    rw [k1, k2, k3, k0, v.1, v.2.1, v.2.2.1, v.2.2.2.1, v.2.2.2.2.1, v.2.2.2.2.2.1, v.2.2.2.2.2.2.1, v.2.2.2.2.2.2.2]
    omega
theorem four_path (x y : Int) : pathV [(x, y), (x, y), (x, y), (x, y)] 1 = ptB 0 0 (mayP x y) := by
  unfold pathV
  have e : min [(x, y), (x, y), (x, y), (x, y)].length 64 = 4 := rfl
  rw [e, four_all, (four_back x y).1, (four_back x y).2]
  cases h : mayP x y
  · rfl
  · rw [show mayP 0 0 = true from mayP_iff.2 (by omega)]
    rfl
def ptBk (x y : Int) : Blk := ⟨[.int .i64 x, .int .i64 y], 23, true⟩
def foBk (x y : Int) : Blk := ⟨prL [(x, y), (x, y), (x, y), (x, y)], 23, true⟩
/-- The memory at the calls of Path. -/
def mem1 (l : List (Int × Int)) (x y X Y : Int) : Mem := [rowB 23 (prL l), ptBk x y, ptBk X Y]
def mem2 (l : List (Int × Int)) (x y X Y P Q : Int) : Mem := [rowB 23 (prL l), ptBk x y, ptBk X Y, ptBk P Q, foBk x y]
theorem tp_run1 {l : List (Int × Int)} {x y k m : Int} {c n : Nat} {X Y : Int} {r : Bool} (hm : IntKind.i64.wrap (4 * k.tmod 1000) = m)
    (hl : TriL Try.prog (loopN Try.f6 0) (tptS l x y k c n 0 0 0 true) (to (.exit 0) (tptS l x y k c n n X Y false)))
    (h1 : MC Try.prog 9 [slP c n, .int .i64 m] (mem1 l x y X Y) (ptB 0 0 false) (mem1 l x y X Y))
    (h2 : MC Try.prog 9 [.slice (some ⟨4, 0, none⟩) 4 4, .int .i64 1] (mem2 l x y X Y 0 0) (ptB 0 0 r) (mem2 l x y X Y 0 0)) (h3 : QC Try.prog 22 [pt x y] (.bool r)) :
    MC Try.prog 6 [slP c n, pt x y, .int .i64 k] [rowB 23 (prL l)] (.bool true) [rowB 23 (prL l)] := by
  cases r with
  | false => exact MC.run5 mixed Try.func6 [.cut tptL (.exit 0) (tptS l x y k c n n X Y false), .at 8 (.int .i64 m), .rd (ptB 0 0 false), .rd (ptB 0 0 false), .res (.bool false), .res (.bool true)] (tsC (tT hm) <| tsC (prL_low 3 l) <| tsC (prL_low 5 l) <| ts1 (prL_noNew 1 l)) (qs5 hl h1 h2 h3 awakeT) rfl rfl enters_turnPath (by kernel_rfl)
  | true => exact MC.run5 mixed Try.func6 [.cut tptL (.exit 0) (tptS l x y k c n n X Y false), .at 8 (.int .i64 m), .rd (ptB 0 0 false), .rd (ptB 0 0 true), .res (.bool true), .res (.bool true)] (tsC (tT hm) <| tsC (prL_low 3 l) <| tsC (prL_low 5 l) <| ts1 (prL_noNew 1 l)) (qs5 hl h1 h2 h3 awakeT) rfl rfl enters_turnPath (by kernel_rfl)
theorem tp_run2 {l : List (Int × Int)} {x y k m : Int} {c n : Nat} {X Y : Int} {r : Bool} (hm : IntKind.i64.wrap (4 * k.tmod 1000) = m)
    (hl : TriL Try.prog (loopN Try.f6 0) (tptS l x y k c n 0 0 0 true) (to (.exit 0) (tptS l x y k c n n X Y true)))
    (h1 : MC Try.prog 9 [slP c n, .int .i64 m] (mem1 l x y X Y) (ptB 0 0 false) (mem1 l x y X Y))
    (h2 : MC Try.prog 9 [.slice (some ⟨4, 0, none⟩) 4 4, .int .i64 1] (mem2 l x y X Y 0 0) (ptB 0 0 r) (mem2 l x y X Y 0 0)) (h3 : QC Try.prog 22 [pt x y] (.bool r)) (h4 : QC Try.prog 22 [pt X Y] (.bool false)) :
    MC Try.prog 6 [slP c n, pt x y, .int .i64 k] [rowB 23 (prL l)] (.bool true) [rowB 23 (prL l)] := by
  cases r with
  | false => exact MC.run5 mixed Try.func6 [.cut tptL (.exit 0) (tptS l x y k c n n X Y true), .at 8 (.int .i64 m), .rd (ptB 0 0 false), .res (.bool false), .rd (ptB 0 0 false), .res (.bool false), .res (.bool true)] (tsC (tT hm) <| tsC (prL_low 3 l) <| tsC (prL_low 5 l) <| ts1 (prL_noNew 1 l)) (qs6 hl h1 h4 h2 h3 awakeT) rfl rfl enters_turnPath (by kernel_rfl)
  | true => exact MC.run5 mixed Try.func6 [.cut tptL (.exit 0) (tptS l x y k c n n X Y true), .at 8 (.int .i64 m), .rd (ptB 0 0 false), .res (.bool false), .rd (ptB 0 0 true), .res (.bool true), .res (.bool true)] (tsC (tT hm) <| tsC (prL_low 3 l) <| tsC (prL_low 5 l) <| ts1 (prL_noNew 1 l)) (qs6 hl h1 h4 h2 h3 awakeT) rfl rfl enters_turnPath (by kernel_rfl)
theorem tp_run3 {l : List (Int × Int)} {x y k m : Int} {c n : Nat} {X Y : Int} {r : Bool} (hm : IntKind.i64.wrap (4 * k.tmod 1000) = m)
    (hl : TriL Try.prog (loopN Try.f6 0) (tptS l x y k c n 0 0 0 true) (to (.exit 0) (tptS l x y k c n n X Y true)))
    (h1 : MC Try.prog 9 [slP c n, .int .i64 m] (mem1 l x y X Y) (ptB X Y true) (mem1 l x y X Y))
    (h2 : MC Try.prog 9 [.slice (some ⟨4, 0, none⟩) 4 4, .int .i64 1] (mem2 l x y X Y X Y) (ptB 0 0 r) (mem2 l x y X Y X Y)) (h3 : QC Try.prog 22 [pt x y] (.bool r)) (h4 : QC Try.prog 22 [pt X Y] (.bool true)) :
    MC Try.prog 6 [slP c n, pt x y, .int .i64 k] [rowB 23 (prL l)] (.bool true) [rowB 23 (prL l)] := by
  cases r with
  | false => exact MC.run5 mixed Try.func6 [.cut tptL (.exit 0) (tptS l x y k c n n X Y true), .at 8 (.int .i64 m), .rd (ptB X Y true), .res (.bool true), .auto, .auto, .tst false, .rd (ptB 0 0 false), .res (.bool false), .res (.bool true)] (tsC (tT hm) <| tsC (prL_low 3 l) <| tsC (pt_eqN (a := X) rfl (rfl : Y = Y)) <| tsC (prL_low 5 l) <| ts1 (prL_noNew 1 l)) (qs6 hl h1 h4 h2 h3 awakeT) rfl rfl enters_turnPath (by kernel_rfl)
  | true => exact MC.run5 mixed Try.func6 [.cut tptL (.exit 0) (tptS l x y k c n n X Y true), .at 8 (.int .i64 m), .rd (ptB X Y true), .res (.bool true), .auto, .auto, .tst false, .rd (ptB 0 0 true), .res (.bool true), .res (.bool true)] (tsC (tT hm) <| tsC (prL_low 3 l) <| tsC (pt_eqN (a := X) rfl (rfl : Y = Y)) <| tsC (prL_low 5 l) <| ts1 (prL_noNew 1 l)) (qs6 hl h1 h4 h2 h3 awakeT) rfl rfl enters_turnPath (by kernel_rfl)
theorem m4_eq (k : Int) : IntKind.i64.wrap (4 * k.tmod 1000) = 4 * mt1000 k ∧ k4 (4 * mt1000 k) = 0 := by
  have := mt1000_lt k
  refine ⟨wrap_id (z := 4 * mt1000 k) (by omega), ?_⟩
  unfold k4
  omega
theorem tp_nil {x y k m : Int} {r : Bool} (hm : IntKind.i64.wrap (4 * k.tmod 1000) = m)
    (h1 : MC Try.prog 9 [sliceTok 0 0, .int .i64 m] (mem1 [] x y 0 0) (ptB 0 0 true) (mem1 [] x y 0 0))
    (h2 : MC Try.prog 9 [.slice (some ⟨4, 0, none⟩) 4 4, .int .i64 1] (mem2 [] x y 0 0 0 0) (ptB 0 0 r) (mem2 [] x y 0 0 0 0)) (h3 : QC Try.prog 22 [pt x y] (.bool r)) (h4 : QC Try.prog 22 [pt 0 0] (.bool true)) :
    MC Try.prog 6 [sliceTok 0 0, pt x y, .int .i64 k] [rowB 23 (prL [])] (.bool true) [rowB 23 (prL [])] := by
  cases r with
  | false => exact MC.run5 mixed Try.func6 [.at 17 (.int .i64 m), .rd (ptB 0 0 true), .res (.bool true), .rd (ptB 0 0 false), .res (.bool false), .res (.bool true)] (ts1 (tT hm)) (qs5 h1 h4 h2 h3 awakeT) rfl rfl enters_turnPath (by kernel_rfl)
  | true => exact MC.run5 mixed Try.func6 [.at 17 (.int .i64 m), .rd (ptB 0 0 true), .res (.bool true), .rd (ptB 0 0 true), .res (.bool true), .res (.bool true)] (ts1 (tT hm)) (qs5 h1 h4 h2 h3 awakeT) rfl rfl enters_turnPath (by kernel_rfl)
theorem turnPath_mc {l : List (Int × Int)} {c : Nat} (x y k : Int) (hl : l.length ≤ c + 1) (hm : l.length ≤ 9223372036854775807) :
    MC Try.prog 6 [prX l.isEmpty 0 l.length c, pt x y, .int .i64 k] [rowB 23 (prL l)] (.bool true) [rowB 23 (prL l)] := by
  obtain ⟨hm4, hk4⟩ := m4_eq k
  have h2 : ∀ X Y P Q : Int, MC Try.prog 9 [.slice (some ⟨4, 0, none⟩) 4 4, .int .i64 1] (mem2 l x y X Y P Q) (ptB 0 0 (mayP x y)) (mem2 l x y X Y P Q) := fun X Y P Q => by
    have := path_at (l := [(x, y), (x, y), (x, y), (x, y)]) (c := 3) (j := 4) 1 (mem := mem2 l x y X Y P Q) (C := foBk x y) (Nat.le_refl 4) rfl rfl
    rw [four_path] at this
    exact this
  have h3 := mayStep_qc x y (r := mayP x y) rfl
  have h1 : ∀ X Y : Int, MC Try.prog 9 [prX l.isEmpty 0 l.length c, .int .i64 (4 * mt1000 k)] (mem1 l x y X Y) (pathV l (4 * mt1000 k)) (mem1 l x y X Y) := fun X Y => path_at (4 * mt1000 k) hl rfl rfl
  cases l with
  | nil =>
    have e : pathV [] (4 * mt1000 k) = ptB 0 0 true := by
      unfold pathV
      rw [show mayP (sX [] (4 * mt1000 k) (min ([] : List (Int × Int)).length 64)) (sY [] (4 * mt1000 k) (min ([] : List (Int × Int)).length 64)) = true from mayP_iff.2 (by show (-4194304 ≤ (0 : Int) ∧ (0 : Int) ≤ 4194304) ∧ (-4194304 ≤ (0 : Int) ∧ (0 : Int) ≤ 4194304); omega)]
      rfl
    have h1' := h1 0 0
    rw [e] at h1'
    exact tp_nil hm4 h1' (h2 0 0 0 0) h3 (mayStep_qc 0 0 (mayP_iff.2 (by omega)))
  | cons a l =>
    have hloop := tpt_loop (l := a :: l) (x := x) (y := y) (k := k) (c := c) hm
    obtain ⟨t1, t2⟩ := tpS_all hk4 (a :: l) (a :: l).length
    unfold pathV at h1
    cases hall : allS (a :: l) (min (a :: l).length 64)
    · rw [hall] at h1
      rw [t2 hall] at hloop
      exact tp_run1 hm4 hloop (h1 _ _) (h2 _ _ 0 0) h3
    · rw [hall, Bool.true_and] at h1
      rw [t1 hall] at hloop
      simp only at hloop
      generalize sX (a :: l) (4 * mt1000 k) (min (a :: l).length 64) = X at *
      generalize sY (a :: l) (4 * mt1000 k) (min (a :: l).length 64) = Y at *
      cases hs : mayP X Y
      · rw [hs] at h1
        exact tp_run2 hm4 hloop (h1 _ _) (h2 _ _ 0 0) h3 (mayStep_qc X Y hs)
      · rw [hs] at h1
        exact tp_run3 hm4 hloop (h1 _ _) (h2 _ _ X Y) h3 (mayStep_qc X Y hs)
end Go.Proofs.Ythnemimpkpkjbaa.W
