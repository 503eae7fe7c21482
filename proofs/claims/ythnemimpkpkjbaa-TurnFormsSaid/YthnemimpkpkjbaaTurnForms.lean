/-
  TurnForms: Quarter, Mul, Norm, Dist and Path are as the chapter says.
-/
import Derived.Test.YthnemimpkpkjbaaTurnPathL
import Derived.Test.YthnemimpkpkjbaaTokS
namespace Go.Proofs.Ythnemimpkpkjbaa.W
open Go Go.Ev Go.Wide Go.Flo

theorem rot_eq (k : Int) : (IntKind.i64.wrap (k.tmod 4 + 4)).tmod 4 = (k4 k : Nat) := by
  have h1 := Int.tmod_lt_of_pos k (show (0 : Int) < 4 by omega)
  have h2 := Int.lt_tmod_of_pos k (show (0 : Int) < 4 by omega)
  rw [wrap_id (by omega)]
  have h3 : (k.tmod 4 + 4).tmod 4 = (k.tmod 4 + 4) % 4 := Int.tmod_eq_emod_of_nonneg (by omega)
  have h4 : k.tmod 4 = k - 4 * k.tdiv 4 := by have := Int.mul_tdiv_add_tmod k 4; omega
  unfold k4
  omega
theorem neg_w {x : Int} (h : x.natAbs ≤ 4194304) : IntKind.i64.wrap (0 - x) = -x := by rw [wrap_id (by omega)]; omega
theorem tur_j {k : Int} (x y : Int) : (k4 k = 0 → turX k x y = x ∧ turY k x y = y) ∧ (k4 k = 1 → turX k x y = -y ∧ turY k x y = x) ∧ (k4 k = 2 → turX k x y = -x ∧ turY k x y = -y) ∧ (k4 k = 3 → turX k x y = y ∧ turY k x y = -x) := by
  have v := pi_vals
  unfold turX turY
  refine ⟨fun h => ?_, fun h => ?_, fun h => ?_, fun h => ?_⟩
  · rw [h, v.1, v.2.2.2.2.1]; omega
  · rw [h, v.2.1, v.2.2.2.2.2.1]; omega
  · rw [h, v.2.2.1, v.2.2.2.2.2.2.1]; omega
  · rw [h, v.2.2.2.1, v.2.2.2.2.2.2.2]; omega
theorem enters_rQuarter : ∀ us w, (callFunc 12 us).run Try.prog w = .ok (.enter 12 us) w := enters Try.func12 rfl (by kernel_rfl)
theorem rQuarter_pc (x y k : Int) : PC Try.prog 12 [pt x y, .int .i64 k] (pt (turX k (stx x y) (sty x y)) (turY k (stx x y) (sty x y))) := by
  have hfl : [pt x y, Value.int .i64 k].all flat = true := by simp [flat_pt]; rfl
  have v := pi_vals
  cases h : mayP x y
  · rw [stx_f h, sty_f h]
    have e : turX k 0 0 = 0 ∧ turY k 0 0 = 0 := by unfold turX turY; omega
    rw [e.1, e.2]
    exact PC.run mixed Try.func12 [.res (.bool false)] hfl ts0 (qs1 (mayStep_qc x y h)) rfl rfl (by kernel_rfl)
  · rw [stx_t h, sty_t h]
    have hm := mayP_iff.1 h
    have n1 := neg_w (x := x) (by omega)
    have n2 := neg_w (x := y) (by omega)
    have n3 : IntKind.i64.wrap (0 - -y) = y := by rw [neg_w (x := -y) (by omega)]; omega
    have hr := rot_eq k
    have hl := k4_lt k
    obtain ⟨t0, t1, t2, t3⟩ := tur_j (k := k) x y
    obtain ⟨j, hj⟩ : ∃ j, j = k4 k := ⟨_, rfl⟩
    rw [← hj] at hr hl t0 t1 t2 t3
    match j, hl with
    | 0, _ =>
      rw [(t0 rfl).1, (t0 rfl).2]
      exact PC.run mixed Try.func12 [.res (.bool true), .at 5 (.int .i64 0)] hfl (ts1 (tT hr)) (qs1 (mayStep_qc x y h)) rfl rfl (by kernel_rfl)
    | 1, _ =>
      rw [(t1 rfl).1, (t1 rfl).2]
      exact PC.run mixed Try.func12 [.res (.bool true), .at 5 (.int .i64 1), .at 4 (.int .i64 (-y))] hfl (ts2 (tT hr) (tT n2)) (qs1 (mayStep_qc x y h)) rfl rfl (by kernel_rfl)
    | 2, _ =>
      rw [(t2 rfl).1, (t2 rfl).2]
      exact PC.run mixed Try.func12 [.res (.bool true), .at 5 (.int .i64 2), .at 4 (.int .i64 (-y)), .at 9 (.int .i64 (-x))] hfl (ts3 (tT hr) (tT n2) (tT n1)) (qs1 (mayStep_qc x y h)) rfl rfl (by kernel_rfl)
    | 3, _ =>
      rw [(t3 rfl).1, (t3 rfl).2]
      exact PC.run mixed Try.func12 [.res (.bool true), .at 5 (.int .i64 3), .at 4 (.int .i64 (-y)), .at 9 (.int .i64 (-x)), .at 9 (.int .i64 y)] hfl (ts4 (tT hr) (tT n2) (tT n1) (tT n3)) (qs1 (mayStep_qc x y h)) rfl rfl (by kernel_rfl)
theorem rQuarter_qc (x y k : Int) {X Y : Int} (h1 : turX k (stx x y) (sty x y) = X) (h2 : turY k (stx x y) (sty x y) = Y) : QC Try.prog 12 [pt x y, .int .i64 k] (pt X Y) := by
  subst h1 h2
  exact QC.of_pc enters_rQuarter (rQuarter_pc x y k)
theorem enters_rMulT : ∀ us w, (callFunc 14 us).run Try.prog w = .ok (.enter 14 us) w := enters Try.func14 rfl (by kernel_rfl)
theorem rMulT_pc (x y u v : Int) : PC Try.prog 14 [pt x y, pt u v] (pt (stx x y * stx u v - sty x y * sty u v) (stx x y * sty u v + sty x y * stx u v)) := by
  have hfl : [pt x y, pt u v].all flat = true := by simp [flat_pt]
  cases h1 : mayP x y
  · rw [stx_f h1, sty_f h1]
    simp only [Int.zero_mul]
    exact PC.run mixed Try.func14 [.res (.bool false)] hfl ts0 (qs1 (mayStep_qc x y h1)) rfl rfl (by kernel_rfl)
  · cases h2 : mayP u v
    · rw [stx_f h2, sty_f h2]
      simp only [Int.mul_zero]
      exact PC.run mixed Try.func14 [.res (.bool true), .res (.bool false)] hfl ts0 (qs2 (mayStep_qc x y h1) (mayStep_qc u v h2)) rfl rfl (by kernel_rfl)
    · rw [stx_t h1, sty_t h1, stx_t h2, sty_t h2]
      have m1 := mayP_iff.1 h1
      have m2 := mayP_iff.1 h2
      have b1 := mulA_bd (a := x) (b := u) (m := 4194304) (n := 4194304) (by omega) (by omega) (Nat.le_refl _)
      have b2 := mulA_bd (a := y) (b := v) (m := 4194304) (n := 4194304) (by omega) (by omega) (Nat.le_refl _)
      have b3 := mulA_bd (a := x) (b := v) (m := 4194304) (n := 4194304) (by omega) (by omega) (Nat.le_refl _)
      have b4 := mulA_bd (a := y) (b := u) (m := 4194304) (n := 4194304) (by omega) (by omega) (Nat.le_refl _)
      exact PC.run mixed Try.func14 [.res (.bool true), .res (.bool true), .at 7 (.int .i64 (x * u)), .at 4 (.int .i64 (y * v)), .at 0 (.int .i64 (x * u - y * v)), .at 4 (.int .i64 (x * v)), .at 4 (.int .i64 (y * u)), .at 0 (.int .i64 (x * v + y * u))] hfl
        (tsC (tT (wrap_id (z := x * u) (by omega))) <| tsC (tT (wrap_id (z := y * v) (by omega))) <| tsC (tT (wrap_id (z := x * u - y * v) (by omega))) <| tsC (tT (wrap_id (z := x * v) (by omega))) <| tsC (tT (wrap_id (z := y * u) (by omega))) <| tsC (tT (wrap_id (z := x * v + y * u) (by omega))) ts0)
        (qs2 (mayStep_qc x y h1) (mayStep_qc u v h2)) rfl rfl (by kernel_rfl)
theorem rMulT_qc (x y u v : Int) {X Y : Int} (h1 : stx x y * stx u v - sty x y * sty u v = X) (h2 : stx x y * sty u v + sty x y * stx u v = Y) : QC Try.prog 14 [pt x y, pt u v] (pt X Y) := by
  subst h1 h2
  exact QC.of_pc enters_rMulT (rMulT_pc x y u v)
theorem enters_rNorm : ∀ us w, (callFunc 16 us).run Try.prog w = .ok (.enter 16 us) w := enters Try.func16 rfl (by kernel_rfl)
theorem rNorm_pc (x y : Int) : PC Try.prog 16 [pt x y] (.int .i64 (stx x y * stx x y + sty x y * sty x y)) := by
  have hfl : [pt x y].all flat = true := by simp [flat_pt]
  cases h1 : mayP x y
  · rw [stx_f h1, sty_f h1]
    exact PC.run mixed Try.func16 [.res (.bool false)] hfl ts0 (qs1 (mayStep_qc x y h1)) rfl rfl (by kernel_rfl)
  · rw [stx_t h1, sty_t h1]
    have m1 := mayP_iff.1 h1
    have b1 := mulA_bd (a := x) (b := x) (m := 4194304) (n := 4194304) (by omega) (by omega) (Nat.le_refl _)
    have b2 := mulA_bd (a := y) (b := y) (m := 4194304) (n := 4194304) (by omega) (by omega) (Nat.le_refl _)
    exact PC.run mixed Try.func16 [.res (.bool true), .at 6 (.int .i64 (x * x)), .at 4 (.int .i64 (y * y)), .at 0 (.int .i64 (x * x + y * y))] hfl
      (ts3 (tT (wrap_id (z := x * x) (by omega))) (tT (wrap_id (z := y * y) (by omega))) (tT (wrap_id (z := x * x + y * y) (by omega)))) (qs1 (mayStep_qc x y h1)) rfl rfl (by kernel_rfl)
theorem rNorm_qc (x y : Int) {r : Int} (h : stx x y * stx x y + sty x y * sty x y = r) : QC Try.prog 16 [pt x y] (.int .i64 r) := h ▸ QC.of_pc enters_rNorm (rNorm_pc x y)
theorem enters_rDistT : ∀ us w, (callFunc 18 us).run Try.prog w = .ok (.enter 18 us) w := enters Try.func18 rfl (by kernel_rfl)
theorem rDistT_mc (x y u v : Int) : MC Try.prog 18 [pt x y, pt u v] [] (.int .i64 (distI x y u v)) [] := by
  unfold distI
  cases h1 : mayP x y
  · exact AC.runA mixed Try.func18 [.res (.bool false)] ts0 (qs1 (R.ePoint_qc x y _ h1)) rfl enters_rDistT (by kernel_rfl)
  · cases h2 : mayP u v
    · exact AC.runA mixed Try.func18 [.res (.bool true), .res (.bool false)] ts0 (qs2 (R.ePoint_qc x y _ h1) (R.ePoint_qc u v _ h2)) rfl enters_rDistT (by kernel_rfl)
    · have m1 := mayP_iff.1 h1
      have m2 := mayP_iff.1 h2
      have b1 := mulA_bd (a := x - u) (b := x - u) (m := 8388608) (n := 8388608) (by omega) (by omega) (Nat.le_refl _)
      have b2 := mulA_bd (a := y - v) (b := y - v) (m := 8388608) (n := 8388608) (by omega) (by omega) (Nat.le_refl _)
      exact AC.runA mixed Try.func18 [.res (.bool true), .res (.bool true), .at 7 (.int .i64 (x - u)), .at 4 (.int .i64 (y - v)), .at 4 (.int .i64 ((x - u) * (x - u))), .at 2 (.int .i64 ((y - v) * (y - v))), .at 0 (.int .i64 ((x - u) * (x - u) + (y - v) * (y - v))), .ab (.int .i64 (sqI ((x - u) * (x - u) + (y - v) * (y - v))))]
        (ts5 (tT (wrap_id (z := x - u) (by omega))) (tT (wrap_id (z := y - v) (by omega))) (tT (wrap_id (z := (x - u) * (x - u)) (by omega))) (tT (wrap_id (z := (y - v) * (y - v)) (by omega))) (tT (wrap_id (z := (x - u) * (x - u) + (y - v) * (y - v)) (by omega))))
        (qs3 (R.ePoint_qc x y _ h1) (R.ePoint_qc u v _ h2) (R.rIsqrt_t (n := (x - u) * (x - u) + (y - v) * (y - v)) ⟨by omega, by omega⟩)) rfl enters_rDistT (by kernel_rfl)
def ptBk2 (x y : Int) : Blk := ⟨[.int .i64 x, .int .i64 y], 23, true⟩
def rpS (l : List (Int × Int)) (c n kk i : Nat) (X Y : Int) : St :=
  ⟨slots 52 [(1, .int .i64 kk), (4, .pointer (some ⟨1, 0, none⟩)), (5, .bool false), (6, .pointer (some ⟨2, 0, none⟩)), (15, slP c n), (16, .int .i64 n), (17, .int .i64 i)], [rowB 23 (prL l), ptBk2 0 0, ptBk2 X Y]⟩
def rpL : List Nat := [1, 4, 5, 6, 15, 16, 17]
def rpR (l : List (Int × Int)) (X Y : Int) : St := ⟨slots 52 [(4, .pointer (some ⟨1, 0, none⟩)), (5, .bool false)], [rowB 23 (prL l), ptBk2 0 0, ptBk2 X Y]⟩
theorem rp_round {l : List (Int × Int)} {c n kk i : Nat} {X Y u v a b : Int} (hi : i < n) (hl : i < l.length) (h64 : i < 64) (hk : kk < 4) (hx : l[i]? = some (u, v)) (hs : mayP u v = true) (hq : QC Try.prog 12 [pt u v, .int .i64 ((kk : Int) * ((i + 1 : Nat) : Int))] (pt a b))
    (hX : X.natAbs ≤ i * 4194304) (hY : Y.natAbs ≤ i * 4194304) (ha : a.natAbs ≤ 4194304) (hb : b.natAbs ≤ 4194304) :
    Tri Try.prog (loopN Try.f10 0) (rpS l c n kk i X Y) (to .normal (rpS l c n kk (i + 1) (X + a) (Y + b))) := by
  have hm := mulA_bd (a := (kk : Int)) (b := ((i + 1 : Nat) : Int)) (m := 4) (n := 64) (by omega) (by omega) (Nat.le_refl _)
  have e1 : IntKind.i64.wrap ((i : Int) + 1) = ((i + 1 : Nat) : Int) := by rw [wrap_id (by omega)]; omega
  exact Tri.runK mixed rpL 3 [.tst true, .is 2 (pt u v), .is 4 (.bool false), .res (.bool true), .at 5 (.int .i64 ((i + 1 : Nat) : Int)), .at 0 (.int .i64 ((kk : Int) * ((i + 1 : Nat) : Int))), .res (pt a b), .at 7 (.int .i64 (X + a)), .at 6 (.int .i64 (Y + b)), .at 2 (.int .i64 ((i + 1 : Nat) : Int))]
    (tsC (ltN hi) <| tsC (ltN hi) <| tsC (prL_in hl) <| tsC (tT e1) <| tsC (tT (wrap_id (z := (kk : Int) * ((i + 1 : Nat) : Int)) (by omega))) <| tsC (tT (wrap_id (z := X + a) (by omega))) <| tsC (tT (wrap_id (z := Y + b) (by omega))) <| tsC (tT e1) <| ts1 (prL_noNew 3 l))
    (qs4 (prL_row hx) (show Value.bool (decide ((i : Int) ≥ 64)) = .bool false by rw [decide_eq_false (by omega)]) (mayStep_qc u v hs) hq) (by kernel_rfl)
theorem rp_end {l : List (Int × Int)} {c n kk : Nat} {X Y : Int} : Tri Try.prog (loopN Try.f10 0) (rpS l c n kk n X Y) (to (.exit 0) (rpS l c n kk n X Y)) :=
  Tri.runK mixed rpL 3 [.tst false] (tsC (tF (p := (n : Int) < (n : Int)) (by omega)) (ts1 (prL_noNew 3 l))) qs0 (by kernel_rfl)
theorem rp_end64 {l : List (Int × Int)} {c n kk i : Nat} {X Y u v : Int} (hi : i < n) (hl : i < l.length) (h64 : ¬ i < 64) (hx : l[i]? = some (u, v)) : Tri Try.prog (loopN Try.f10 0) (rpS l c n kk i X Y) (to (.exit 0) (rpS l c n kk i X Y)) :=
  Tri.runK mixed rpL 3 [.tst true, .is 2 (pt u v), .is 4 (.bool true)] (tsC (ltN hi) <| tsC (ltN hi) <| tsC (prL_in hl) <| ts1 (prL_noNew 3 l)) (qs2 (prL_row hx) (show Value.bool (decide ((i : Int) ≥ 64)) = .bool true by rw [decide_eq_true (by omega)])) (by kernel_rfl)
theorem rp_bad {l : List (Int × Int)} {c n kk i : Nat} {X Y u v : Int} (hi : i < n) (hl : i < l.length) (h64 : i < 64) (hx : l[i]? = some (u, v)) (hs : mayP u v = false) : Tri Try.prog (loopN Try.f10 0) (rpS l c n kk i X Y) (to .ret (rpR l X Y)) :=
  Tri.runK mixed [4, 5] 3 [.tst true, .is 2 (pt u v), .is 4 (.bool false), .res (.bool false)] (tsC (ltN hi) <| tsC (ltN hi) <| tsC (prL_in hl) <| ts1 (prL_noNew 3 l)) (qs3 (prL_row hx) (show Value.bool (decide ((i : Int) ≥ 64)) = .bool false by rw [decide_eq_false (by omega)]) (mayStep_qc u v hs)) (by kernel_rfl)
theorem k4_mul (k : Int) (i : Nat) : k4 (((k4 k : Nat) : Int) * ((i : Nat) : Int)) = k4 ((i : Int) * k) := by
  unfold k4
  have h : ((((k % 4).toNat : Nat) : Int) * (i : Int)) % 4 = ((i : Int) * k) % 4 := by
    rw [Int.toNat_of_nonneg (by omega), Int.mul_comm, Int.mul_emod, Int.emod_emod_of_dvd _ (by omega), ← Int.mul_emod]
  rw [h]
theorem tur_k {j k : Int} (h : k4 j = k4 k) (x y : Int) : turX j x y = turX k x y ∧ turY j x y = turY k x y := by
  unfold turX turY
  rw [h]
  exact ⟨rfl, rfl⟩
theorem sX_bd {l : List (Int × Int)} {k : Int} : ∀ i : Nat, (∀ j, j < i → mayP (elP l j).1 (elP l j).2 = true) → (sX l k i).natAbs ≤ i * 4194304 ∧ (sY l k i).natAbs ≤ i * 4194304
  | 0, _ => ⟨Nat.zero_le _, Nat.zero_le _⟩
  | i + 1, hs => by
    have ih := sX_bd (l := l) (k := k) i fun j hj => hs j (by omega)
    have h := tur_bd (((i + 1 : Nat) : Int) * k) (hs i (by omega))
    constructor
    · show (sX l k i + turX (((i + 1 : Nat) : Int) * k) (elP l i).1 (elP l i).2).natAbs ≤ _
      omega
    · show (sY l k i + turY (((i + 1 : Nat) : Int) * k) (elP l i).1 (elP l i).2).natAbs ≤ _
      omega
theorem rp_steps {l : List (Int × Int)} {c : Nat} {k : Int} {m : Nat} (hm : m ≤ min l.length 64) (hs : ∀ j, j < m → mayP (elP l j).1 (elP l j).2 = true) (i : Nat) (hi : i < m) :
    Tri Try.prog (loopN Try.f10 0) (rpS l c l.length (k4 k) i (sX l k i) (sY l k i)) (to .normal (rpS l c l.length (k4 k) (i + 1) (sX l k (i + 1)) (sY l k (i + 1)))) := by
  have hb := sX_bd (l := l) (k := k) i fun j hj => hs j (by omega)
  have h := tur_bd (((i + 1 : Nat) : Int) * k) (hs i hi)
  have hk := k4_mul k (i + 1)
  have ht := tur_k hk (elP l i).1 (elP l i).2
  have hmay := hs i hi
  exact rp_round (by omega) (by omega) (by omega) (k4_lt k) (elP_get (by omega)) hmay (rQuarter_qc _ _ _ (by rw [stx_t hmay, sty_t hmay]; exact ht.1) (by rw [stx_t hmay, sty_t hmay]; exact ht.2)) hb.1 hb.2 h.1 h.2
theorem rp_good {l : List (Int × Int)} {c : Nat} {k : Int} (hs : ∀ j, j < min l.length 64 → mayP (elP l j).1 (elP l j).2 = true) :
    TriL Try.prog (loopN Try.f10 0) (rpS l c l.length (k4 k) 0 0 0) (to (.exit 0) (rpS l c l.length (k4 k) (min l.length 64) (sX l k (min l.length 64)) (sY l k (min l.length 64)))) :=
  TriL.count (P := Try.prog) (c := loopN Try.f10 0) (e := .exit 0) (S' := rpS l c l.length (k4 k) (min l.length 64) (sX l k (min l.length 64)) (sY l k (min l.length 64))) (fun i => rpS l c l.length (k4 k) i (sX l k i) (sY l k i)) (by simp) (min l.length 64) (fun i hi => rp_steps (Nat.le_refl _) hs i hi) (by
    rcases Nat.lt_or_ge 64 l.length with h | h
    · rw [Nat.min_eq_right (Nat.le_of_lt h)]
      exact rp_end64 h h (by omega) (elP_get h)
    · rw [Nat.min_eq_left h]
      exact rp_end)
theorem rp_out {l : List (Int × Int)} {c n : Nat} {k : Int} (hn : n < min l.length 64) (hs : ∀ j, j < n → mayP (elP l j).1 (elP l j).2 = true) (hb : mayP (elP l n).1 (elP l n).2 = false) :
    TriL Try.prog (loopN Try.f10 0) (rpS l c l.length (k4 k) 0 0 0) (to .ret (rpR l (sX l k n) (sY l k n))) :=
  TriL.count (P := Try.prog) (c := loopN Try.f10 0) (e := .ret) (S' := rpR l (sX l k n) (sY l k n)) (fun i => rpS l c l.length (k4 k) i (sX l k i) (sY l k i)) (by simp) n (fun i hi => rp_steps (by omega) hs i hi) (rp_bad (by omega) (by omega) (by omega) (elP_get (by omega)) hb)
theorem enters_rPath : ∀ us w, (callFunc 10 us).run Try.prog w = .ok (.enter 10 us) w := enters Try.func10 rfl (by kernel_rfl)
theorem rpath_run {l : List (Int × Int)} {c n kk m : Nat} {k X Y : Int} (hk : (IntKind.i64.wrap (k.tmod 4 + 4)).tmod 4 = (kk : Nat))
    (hl : TriL Try.prog (loopN Try.f10 0) (rpS l c n kk 0 0 0) (to (.exit 0) (rpS l c n kk m X Y))) {r : Bool} (ht : QC Try.prog 22 [pt X Y] (.bool r)) :
    MC Try.prog 10 [slP c n, .int .i64 k] [rowB 23 (prL l)] (match r with | true => ptB X Y true | false => ptB 0 0 false) [rowB 23 (prL l)] := by
  cases r with
  | true => exact MC.run5 mixed Try.func10 [.at 8 (.int .i64 kk), .cut rpL (.exit 0) (rpS l c n kk m X Y), .res (.bool true)] (tsC (tT hk) <| ts1 (prL_noNew 1 l)) (qs2 hl ht) rfl rfl enters_rPath (by kernel_rfl)
  | false => exact MC.run5 mixed Try.func10 [.at 8 (.int .i64 kk), .cut rpL (.exit 0) (rpS l c n kk m X Y), .res (.bool false)] (tsC (tT hk) <| ts1 (prL_noNew 1 l)) (qs2 hl ht) rfl rfl enters_rPath (by kernel_rfl)
theorem rpath_runB {l : List (Int × Int)} {c n kk : Nat} {k X Y : Int} (hk : (IntKind.i64.wrap (k.tmod 4 + 4)).tmod 4 = (kk : Nat))
    (hl : TriL Try.prog (loopN Try.f10 0) (rpS l c n kk 0 0 0) (to .ret (rpR l X Y))) :
    MC Try.prog 10 [slP c n, .int .i64 k] [rowB 23 (prL l)] (ptB 0 0 false) [rowB 23 (prL l)] :=
  MC.run5 mixed Try.func10 [.at 8 (.int .i64 kk), .cut rpL .ret (rpR l X Y)] (tsC (tT hk) <| ts1 (prL_noNew 1 l)) (qs1 hl) rfl rfl enters_rPath (by kernel_rfl)
theorem rpath_nil {kk : Nat} {k : Int} (hk : (IntKind.i64.wrap (k.tmod 4 + 4)).tmod 4 = (kk : Nat)) (ht : QC Try.prog 22 [pt 0 0] (.bool true)) :
    MC Try.prog 10 [sliceTok 0 0, .int .i64 k] [] (ptB 0 0 true) [] :=
  MC.run5 mixed Try.func10 [.at 8 (.int .i64 kk), .res (.bool true)] (ts1 (tT hk)) (qs1 ht) rfl rfl enters_rPath (by kernel_rfl)
theorem rpath0_mc {l : List (Int × Int)} {c : Nat} (k : Int) : MC Try.prog 10 [slP c l.length, .int .i64 k] [rowB 23 (prL l)] (pathV l k) [rowB 23 (prL l)] := by
  rcases first_bad l (min l.length 64) with hs | ⟨i, hi, hbad, hs⟩
  · unfold pathV
    rw [allS_iff.2 hs, Bool.true_and]
    cases hm : mayP (sX l k (min l.length 64)) (sY l k (min l.length 64))
    · exact rpath_run (r := false) (rot_eq k) (rp_good (c := c) hs) (mayStep_qc _ _ hm)
    · exact rpath_run (r := true) (rot_eq k) (rp_good (c := c) hs) (mayStep_qc _ _ hm)
  · unfold pathV
    rw [allS_f hi hbad]
    exact rpath_runB (rot_eq k) (rp_out hi hs hbad)
theorem pathV_nil (k : Int) : pathV [] k = ptB 0 0 true := by
  unfold pathV
  rw [show mayP (sX [] k (min ([] : List (Int × Int)).length 64)) (sY [] k (min ([] : List (Int × Int)).length 64)) = true from mayP_iff.2 (by show (-4194304 ≤ (0 : Int) ∧ (0 : Int) ≤ 4194304) ∧ (-4194304 ≤ (0 : Int) ∧ (0 : Int) ≤ 4194304); omega)]
  rfl
theorem rpath_at {l : List (Int × Int)} {c j : Nat} (k : Int) {mem : Mem} {C : Blk} (hC : mem[j]? = some C) (hc : C.cells = prL l) : MC Try.prog 10 [prX l.isEmpty j l.length c, .int .i64 k] mem (pathV l k) mem := by
  obtain ⟨X, Y, r, hv⟩ := pathV_form l k
  cases l with
  | nil =>
    rw [pathV_nil]
    have key := MC.frame (σ := []) (mem0 := []) (news := []) (mem := mem) (rpath_nil (rot_eq k) (mayStep_qc 0 0 (mayP_iff.2 (by omega)))) rfl (fun X hX => by cases hX) (fun X hX => by cases hX) (fun i' k' X h1 h2 => by cases h1) rfl (fun i hi => absurd hi (Nat.not_lt_zero i)) rfl
    rw [show fV [] mem.length (ptB 0 0 true) = ptB 0 0 true from rfl, List.append_nil] at key
    exact key
  | cons a l =>
    have h := rpath0_mc (l := a :: l) (c := c) k
    rw [hv] at h ⊢
    have key := MC.frame (σ := [j]) (mem0 := [rowB 23 (prL (a :: l))]) (news := []) (mem := mem) h rfl (fun X hX => by
      cases hX with
      | head => exact ⟨rfl, prL_flat (a :: l)⟩
      | tail _ h => cases h) (fun X hX => by cases hX) (fun i k' X h1 h2 => by
      cases i with
      | zero => cases h1; cases h2; exact ⟨C, hC, hc⟩
      | succ i => cases h1) rfl (fun i hi => by
      have : i = 0 := by simpa using hi
      subst this
      rfl) (ok_ptB _ _ _ _)
    rw [show fV [j] mem.length (ptB X Y r) = ptB X Y r from rfl, List.append_nil] at key
    exact key
theorem enters_turnForms : ∀ us w, (callFunc 3 us).run Try.prog w = .ok (.enter 3 us) w := enters Try.func3 rfl (by kernel_rfl)
/-- The memory at the calls of Path and at the reference's. -/
def memF1 (l : List (Int × Int)) (x y u v : Int) : Mem := [rowB 23 (prL l), ptBk2 x y, ptBk2 u v]
def memF2 (l : List (Int × Int)) (x y u v X Y : Int) : Mem := [rowB 23 (prL l), ptBk2 x y, ptBk2 u v, ptBk2 X Y]
theorem forms_run {l : List (Int × Int)} {c n : Nat} {x y u v k X Y A B C D N E : Int} {r : Bool} (em : Bool)
    (h1 : MC Try.prog 9 [prX em 0 n c, .int .i64 k] (memF1 l x y u v) (ptB X Y r) (memF1 l x y u v)) (h2 : MC Try.prog 10 [prX em 0 n c, .int .i64 k] (memF2 l x y u v X Y) (ptB X Y r) (memF2 l x y u v X Y))
    (h3 : QC Try.prog 11 [pt x y, .int .i64 k] (pt A B)) (h4 : QC Try.prog 12 [pt x y, .int .i64 k] (pt A B)) (h5 : QC Try.prog 13 [pt x y, pt u v] (pt C D)) (h6 : QC Try.prog 14 [pt x y, pt u v] (pt C D))
    (h7 : QC Try.prog 15 [pt x y] (.int .i64 N)) (h8 : QC Try.prog 16 [pt x y] (.int .i64 N)) (h9 : QC Try.prog 17 [pt x y, pt u v] (.int .i64 E)) (h10 : MC Try.prog 18 [pt x y, pt u v] [] (.int .i64 E) []) :
    MC Try.prog 3 [pt x y, pt u v, .int .i64 k, prX em 0 n c] [rowB 23 (prL l)] (.bool true) [rowB 23 (prL l)] := by
  have s1 := tT (p := N = N) rfl
  have s2 := tT (p := E = E) rfl
  cases em <;> cases r
  · exact MC.run5 mixed Try.func3 [.rd (ptB X Y false), .rd (ptB X Y false), .res (pt A B), .res (pt A B), .tst true, .res (pt C D), .res (pt C D), .tst true, .res (.int .i64 N), .res (.int .i64 N), .tst true, .res (.int .i64 E), .ab (.int .i64 E), .tst true, .tst true, .res (.bool true)] (tsC (prL_low 3 l) <| tsC (prL_low 4 l) <| tsC (pt_eqT (a := A) rfl (rfl : B = B)) <| tsC (pt_eqT (a := C) rfl (rfl : D = D)) <| tsC s1 <| tsC s2 <| tsC (pt_eqT (a := X) rfl (rfl : Y = Y)) <| ts1 (prL_noNew 1 l)) (qs11 h1 h2 h3 h4 h5 h6 h7 h8 h9 h10 awakeT) rfl rfl enters_turnForms (by kernel_rfl)
  · exact MC.run5 mixed Try.func3 [.rd (ptB X Y true), .rd (ptB X Y true), .res (pt A B), .res (pt A B), .tst true, .res (pt C D), .res (pt C D), .tst true, .res (.int .i64 N), .res (.int .i64 N), .tst true, .res (.int .i64 E), .ab (.int .i64 E), .tst true, .tst true, .res (.bool true)] (tsC (prL_low 3 l) <| tsC (prL_low 4 l) <| tsC (pt_eqT (a := A) rfl (rfl : B = B)) <| tsC (pt_eqT (a := C) rfl (rfl : D = D)) <| tsC s1 <| tsC s2 <| tsC (pt_eqT (a := X) rfl (rfl : Y = Y)) <| ts1 (prL_noNew 1 l)) (qs11 h1 h2 h3 h4 h5 h6 h7 h8 h9 h10 awakeT) rfl rfl enters_turnForms (by kernel_rfl)
  · exact MC.run5 mixed Try.func3 [.rd (ptB X Y false), .rd (ptB X Y false), .res (pt A B), .res (pt A B), .tst true, .res (pt C D), .res (pt C D), .tst true, .res (.int .i64 N), .res (.int .i64 N), .tst true, .res (.int .i64 E), .ab (.int .i64 E), .tst true, .tst true, .res (.bool true)] (tsC (prL_low 3 l) <| tsC (prL_low 4 l) <| tsC (pt_eqT (a := A) rfl (rfl : B = B)) <| tsC (pt_eqT (a := C) rfl (rfl : D = D)) <| tsC s1 <| tsC s2 <| tsC (pt_eqT (a := X) rfl (rfl : Y = Y)) <| ts1 (prL_noNew 1 l)) (qs11 h1 h2 h3 h4 h5 h6 h7 h8 h9 h10 awakeT) rfl rfl enters_turnForms (by kernel_rfl)
  · exact MC.run5 mixed Try.func3 [.rd (ptB X Y true), .rd (ptB X Y true), .res (pt A B), .res (pt A B), .tst true, .res (pt C D), .res (pt C D), .tst true, .res (.int .i64 N), .res (.int .i64 N), .tst true, .res (.int .i64 E), .ab (.int .i64 E), .tst true, .tst true, .res (.bool true)] (tsC (prL_low 3 l) <| tsC (prL_low 4 l) <| tsC (pt_eqT (a := A) rfl (rfl : B = B)) <| tsC (pt_eqT (a := C) rfl (rfl : D = D)) <| tsC s1 <| tsC s2 <| tsC (pt_eqT (a := X) rfl (rfl : Y = Y)) <| ts1 (prL_noNew 1 l)) (qs11 h1 h2 h3 h4 h5 h6 h7 h8 h9 h10 awakeT) rfl rfl enters_turnForms (by kernel_rfl)
theorem turnForms_mc {l : List (Int × Int)} {c : Nat} (x y u v k : Int) (hl : l.length ≤ c + 1) :
    MC Try.prog 3 [pt x y, pt u v, .int .i64 k, prX l.isEmpty 0 l.length c] [rowB 23 (prL l)] (.bool true) [rowB 23 (prL l)] := by
  obtain ⟨X, Y, r, hv⟩ := pathV_form l k
  have h1 := path_at (j := 0) k (mem := memF1 l x y u v) (C := rowB 23 (prL l)) hl rfl rfl
  have h2 := rpath_at (j := 0) (c := c) k (mem := memF2 l x y u v X Y) (C := rowB 23 (prL l)) rfl rfl
  rw [hv] at h1 h2
  exact forms_run l.isEmpty h1 h2 (quarter_qc x y k rfl rfl) (rQuarter_qc x y k rfl rfl) (tmul_qc x y u v rfl rfl) (rMulT_qc x y u v rfl rfl) (norm_qc x y rfl) (rNorm_qc x y rfl) (dist_qc x y u v rfl) (rDistT_mc x y u v)
end Go.Proofs.Ythnemimpkpkjbaa.W
