/-
  EllipHolds: what an ellipse holds is within its bounds.
-/
import Derived.Test.YtpbkkechkcalgaaEllH
import Derived.Test.YtpbkkechkcalgaaEvT
import Derived.Test.YtpbkkechkcalgaaEvU
namespace Go.Proofs.Ytpbkkechkcalgaa.W
open Go Go.Ev Go.Wide

theorem and2 {a b : Bool} (h : (a && b) = true) : a = true ∧ b = true := by simpa using h
theorem and3 {a b c : Bool} (h : (a && (b && c)) = true) : a = true ∧ b = true ∧ c = true := by simpa using h
theorem ball_sum {a b d s t : Int} (h : holdsI a b d s t = true) : s * s + t * t ≤ a + d := by
  obtain ⟨h1, h2⟩ := holds_sq h
  omega
theorem ball_facts {e f r p q : Int} (d1 : mayP e f = true) (d2 : mayR r = true) (z0 : p ≥ -1073741824) (z1 : p ≤ 1073741824) (z2 : q ≥ -1073741824) (z3 : q ≤ 1073741824) : ∃ (ex ey exx eyy es er : Int) (B : Bool), IntKind.i64.wrap (p - e) = ex ∧ IntKind.i64.wrap (q - f) = ey ∧
    QC Try.prog 8 [ell e f (r * r) 0 (r * r), pt p q] (.bool B) ∧ IntKind.i64.wrap (ex * ex) = exx ∧ IntKind.i64.wrap (ey * ey) = eyy ∧ IntKind.i64.wrap (exx + eyy) = es ∧ IntKind.i64.wrap (r * r) = er ∧ (B = decide (es ≤ er)) := by
  have r2 := r_sq d2
  have rr : I64 (r * r) := ⟨by omega, by omega⟩
  have de := within_iff.1 d1
  have y1 := sq_le (z := p - e) (n := 1077936128) (by omega)
  have y2 := sq_le (z := q - f) (n := 1077936128) (by omega)
  have y3 := sq_nn (p - e)
  have y4 := sq_nn (q - f)
  exact ⟨p - e, q - f, (p - e) * (p - e), (q - f) * (q - f), (p - e) * (p - e) + (q - f) * (q - f), r * r, inE e f (r * r) 0 (r * r) p q, wrapS (by omega), wrapS (by omega), inE_qc (a := r * r) (b := 0) (d := r * r) e f p q rr .lit rr _ rfl, wrapS (by omega), wrapS (by omega), wrapS (by omega), wrapS (by omega), ball_in d1 d2 (by omega)⟩
theorem facts3 {x y a b d p q : Int} (ha : I64 a) (hb : I64 b) (hd : I64 d) (h1 : inE x y a b d p q = true) : ∃ dx dy s t n nx ny xx yy sm nn : Int, dx = p - x ∧ dy = q - y ∧ IntKind.i64.wrap (p - x) = dx ∧ IntKind.i64.wrap (q - y) = dy ∧ QC Try.prog 11 [ell x y a b d] (twoI s t) ∧ QC Try.prog 12 [ell x y a b d] (.int .i64 n) ∧
    ¬ dx > s ∧ IntKind.i64.wrap (0 - dx) = nx ∧ ¬ nx > s ∧ ¬ dy > t ∧ IntKind.i64.wrap (0 - dy) = ny ∧ ¬ ny > t ∧ IntKind.i64.wrap (dx * dx) = xx ∧ IntKind.i64.wrap (dy * dy) = yy ∧ IntKind.i64.wrap (xx + yy) = sm ∧ IntKind.i64.wrap (n * n) = nn ∧ ¬ sm > nn := by
  obtain ⟨m1, _, m3, m4, m5⟩ := inE_near h1
  have mm := mayL_iff.1 m1
  obtain ⟨s1, s2⟩ := holds_sq m3
  have s3 := ball_sum m3
  obtain ⟨ua0, ua1, ua2⟩ := upI_bounds (m := a) (K := 8388608) (by omega) (by omega) (by omega)
  obtain ⟨ud0, ud1, ud2⟩ := upI_bounds (m := d) (K := 8388608) (by omega) (by omega) (by omega)
  have tr : trI x y a b d = a + d := by unfold trI; rw [m1]
  obtain ⟨un0, un1, un2⟩ := upI_bounds (m := a + d) (K := 16777216) (by omega) (by omega) (by omega)
  have er : radI x y a b d = upI (a + d) := by unfold radI; rw [tr]
  rw [← er] at un0 un1 un2
  have un3 := sq_le (z := radI x y a b d) (n := 16777216) (by omega)
  have un4 := sq_nn (radI x y a b d)
  have n1 : IntKind.i64.wrap (0 - (p - x)) = -(p - x) := by rw [i64_wrap (by omega) (by omega)]; omega
  have n2 : IntKind.i64.wrap (0 - (q - y)) = -(q - y) := by rw [i64_wrap (by omega) (by omega)]; omega
  have q1 := sq_nn (p - x)
  have q2 := sq_nn (q - y)
  have qa := sq_abs ua0 (Int.le_trans s1 ua2)
  have qd := sq_abs ud0 (Int.le_trans s2 ud2)
  exact ⟨p - x, q - y, upI a, upI d, radI x y a b d, -(p - x), -(q - y), (p - x) * (p - x), (q - y) * (q - y), (p - x) * (p - x) + (q - y) * (q - y), radI x y a b d * radI x y a b d, rfl, rfl, wrapS (by omega), wrapS (by omega), hull_qc x y ha hb hd _ (by unfold hullV; rw [m1]), radius_qc x y ha hb hd,
    by omega, n1, by omega, by omega, n2, by omega, wrapS (by omega), wrapS (by omega), wrapS (by omega), wrapS (by omega), by omega⟩
theorem factsA {x y a b d p q g k dx dy : Int} (ha : I64 a) (hb : I64 b) (hd : I64 d) (h1 : inE x y a b d p q = true) (w1 : within g k 16777216 = true) (D1 : dx = p - x) (D2 : dy = q - y) : ∃ w gs kt ss ns : Int, QC Try.prog 13 [ell x y a b d, pt g k] (errI w 0) ∧
    IntKind.i64.wrap (g * dx) = gs ∧ IntKind.i64.wrap (k * dy) = kt ∧ IntKind.i64.wrap (gs + kt) = ss ∧ ¬ ss > w ∧ IntKind.i64.wrap (0 - ss) = ns ∧ ¬ ns > w := by
  obtain ⟨m1, _, m3, m4, m5⟩ := inE_near h1
  subst D1 D2
  obtain ⟨a0, a1⟩ := along_facts m1 w1
  have wg := within_iff.1 w1
  have b1' := mul_abs (g := g) (s := p - x) (n := 16777216) (m := 8388608) (by omega) (by omega)
  have b2' := mul_abs (g := k) (s := q - y) (n := 16777216) (m := 8388608) (by omega) (by omega)
  obtain ⟨o1, o2⟩ := along_holds (g := g) (k := k) m3 a0
  have b6 : IntKind.i64.wrap (0 - (g * (p - x) + k * (q - y))) = -(g * (p - x) + k * (q - y)) := by rw [i64_wrap (by omega) (by omega)]; omega
  have hA : alongV x y a b d g k = errI ((csq (quadI a b d g k).natAbs : Nat) : Int) 0 := by unfold alongV; rw [m1, w1]; rfl
  have qA := QC.of_pc enters_along (along_pc (x := x) (y := y) (p := g) (q := k) ha hb hd fun l1 l2 => ⟨(along_facts l1 l2).1, Nat.le_trans (along_facts l1 l2).2 (by omega)⟩)
  rw [hA] at qA
  exact ⟨_, g * (p - x), k * (q - y), g * (p - x) + k * (q - y), -(g * (p - x) + k * (q - y)), qA, wrapS (by omega), wrapS (by omega), wrapS (by omega), by omega, b6, by omega⟩
noncomputable def ehB : Code := bodyOf Try.f3
def ehM (x y a b d e f p q g k u v : Int) : Mem := [⟨[.int .i64 x, .int .i64 y, .int .i64 a, .int .i64 b, .int .i64 d], 27, true⟩, ⟨[.int .i64 e, .int .i64 f], 23, true⟩, ⟨[.int .i64 p, .int .i64 q], 23, true⟩, ⟨[.int .i64 g, .int .i64 k], 23, true⟩, ⟨[.int .i64 u, .int .i64 v], 23, true⟩]
noncomputable def ehS0 (x y a b d e f p q g k r i j u v : Int) : St := ⟨[ell x y a b d, pt e f, pt p q, pt g k, .int .i64 (r), .int .i64 (i), .int .i64 (j), pt u v] ++ List.replicate ((Try.f3).ntmps - 8) undef, []⟩
def ehS1 (x y a b d e f p q g k i j u v : Int) : St := ⟨slots 255 [(5, .int .i64 i), (6, .int .i64 j), (8, ptr 0), (9, ptr 1), (10, ptr 2), (11, ptr 3), (15, ptr 4), (16, .bool false)], ehM x y a b d e f p q g k u v⟩
def ehS2 (x y a b d e f p q g k u v : Int) : St := ⟨slots 255 [(8, ptr 0), (10, ptr 2), (11, ptr 3), (15, ptr 4), (16, .bool false)], ehM x y a b d e f p q g k u v⟩
def ehS3 (x y a b d e f p q g k u v : Int) : St := ⟨slots 255 [(16, .bool true)], ehM x y a b d e f p q g k u v⟩
theorem ehA4 {x y a b d e f p q g k r i j u v : Int} (bl : (mayP e f && mayR r) = true) (z0 : p ≥ -1073741824) (z1 : p ≤ 1073741824) (z2 : q ≥ -1073741824) (z3 : q ≤ 1073741824) : TriN Try.prog (takeS 2 ehB) (ehS0 x y a b d e f p q g k r i j u v) (to .normal (ehS1 x y a b d e f p q g k i j u v)) := by
  obtain ⟨d1, d2⟩ := and2 bl
  obtain ⟨ex, ey, exx, eyy, es, er, B, E1, E2, EB, E3, E4, E5, E6, E7⟩ := ball_facts d1 d2 z0 z1 z2 z3
  exact TriN.run mixed [5, 6, 8, 9, 10, 11, 15, 16] 5 [.res (ellT e f (r * r) 0 (r * r) 0), .auto, .tst true, .tst true, .tst true, .tst true, .at 4 (.int .i64 (ex)), .at 4 (.int .i64 (ey)), .res (.bool B), .at 3 (.int .i64 (exx)), .at 2 (.int .i64 (eyy)), .at 0 (.int .i64 (es)), .at 2 (.int .i64 (er)), .tst false] (ts11 (tT z0) (tT z1) (tT z2) (tT z3) (tT E1) (tT E2) (tT E3) (tT E4) (tT E5) (tT E6) (tN E7)) (qs2 (ball_qc e f r _ (by unfold ballV; rw [bl])) (EB)) (by kernel_rfl)
theorem ehA3 {x y a b d e f p q g k r i j u v : Int} (bl : (mayP e f && mayR r) = true) (z0 : p ≥ -1073741824) (z1 : p ≤ 1073741824) (z2 : q ≥ -1073741824) (z3 : ¬ q ≤ 1073741824) : TriN Try.prog (takeS 2 ehB) (ehS0 x y a b d e f p q g k r i j u v) (to .normal (ehS1 x y a b d e f p q g k i j u v)) := by
  exact TriN.run mixed [5, 6, 8, 9, 10, 11, 15, 16] 5 [.res (ellT e f (r * r) 0 (r * r) 0), .auto, .tst true, .tst true, .tst true, .tst false] (ts4 (tT z0) (tT z1) (tT z2) (tF z3)) (qs1 (ball_qc e f r _ (by unfold ballV; rw [bl]))) (by kernel_rfl)
theorem ehA2 {x y a b d e f p q g k r i j u v : Int} (bl : (mayP e f && mayR r) = true) (z0 : p ≥ -1073741824) (z1 : p ≤ 1073741824) (z2 : ¬ q ≥ -1073741824) : TriN Try.prog (takeS 2 ehB) (ehS0 x y a b d e f p q g k r i j u v) (to .normal (ehS1 x y a b d e f p q g k i j u v)) := by
  exact TriN.run mixed [5, 6, 8, 9, 10, 11, 15, 16] 5 [.res (ellT e f (r * r) 0 (r * r) 0), .auto, .tst true, .tst true, .tst false] (ts3 (tT z0) (tT z1) (tF z2)) (qs1 (ball_qc e f r _ (by unfold ballV; rw [bl]))) (by kernel_rfl)
theorem ehA1 {x y a b d e f p q g k r i j u v : Int} (bl : (mayP e f && mayR r) = true) (z0 : p ≥ -1073741824) (z1 : ¬ p ≤ 1073741824) : TriN Try.prog (takeS 2 ehB) (ehS0 x y a b d e f p q g k r i j u v) (to .normal (ehS1 x y a b d e f p q g k i j u v)) := by
  exact TriN.run mixed [5, 6, 8, 9, 10, 11, 15, 16] 5 [.res (ellT e f (r * r) 0 (r * r) 0), .auto, .tst true, .tst false] (ts2 (tT z0) (tF z1)) (qs1 (ball_qc e f r _ (by unfold ballV; rw [bl]))) (by kernel_rfl)
theorem ehA0 {x y a b d e f p q g k r i j u v : Int} (bl : (mayP e f && mayR r) = true) (z0 : ¬ p ≥ -1073741824) : TriN Try.prog (takeS 2 ehB) (ehS0 x y a b d e f p q g k r i j u v) (to .normal (ehS1 x y a b d e f p q g k i j u v)) := by
  exact TriN.run mixed [5, 6, 8, 9, 10, 11, 15, 16] 5 [.res (ellT e f (r * r) 0 (r * r) 0), .auto, .tst false] (ts1 (tF z0)) (qs1 (ball_qc e f r _ (by unfold ballV; rw [bl]))) (by kernel_rfl)
theorem ehAerr {x y a b d e f p q g k r i j u v : Int} (bl : (mayP e f && mayR r) = false) : TriN Try.prog (takeS 2 ehB) (ehS0 x y a b d e f p q g k r i j u v) (to .normal (ehS1 x y a b d e f p q g k i j u v)) := by
  exact TriN.run mixed [5, 6, 8, 9, 10, 11, 15, 16] 5 [.res (ellT 0 0 0 0 0 1)] (ts0 ) (qs1 (ball_qc e f r _ (by unfold ballV; rw [bl]))) (by kernel_rfl)
theorem ehBTrue {x y a b d e f p q g k i j u v : Int} (bx : (mayP e f && (mayR i && mayR j)) = true) : TriN Try.prog (takeS 1 (dropS 2 ehB)) (ehS1 x y a b d e f p q g k i j u v) (to .normal (ehS2 x y a b d e f p q g k u v)) := by
  obtain ⟨c1, c2, c3⟩ := and3 bx
  have xi : I64 (2 * i * i) := by have := box_sq c2; exact ⟨by omega, by omega⟩
  have xj : I64 (2 * j * j) := by have := box_sq c3; exact ⟨by omega, by omega⟩
  exact TriN.run mixed [8, 10, 11, 15, 16] 5 [.res (ellT e f (2 * i * i) 0 (2 * j * j) 0), .res (.bool true), .res (.bool true), .res (.bool true), .res (.bool true), .res (.bool true)] (ts0 ) (qs6 (box_qc e f i j _ (by unfold boxV; rw [bx])) (inE_qc (a := 2 * i * i) (b := 0) (d := 2 * j * j) e f (wa e i) (wa f j) xi .lit xj _ (box_in c1 c2 c3 (.inl rfl) (.inl rfl))) (inE_qc (a := 2 * i * i) (b := 0) (d := 2 * j * j) e f (wa e (nH i)) (wa f j) xi .lit xj _ (box_in c1 c2 c3 (.inr rfl) (.inl rfl))) (inE_qc (a := 2 * i * i) (b := 0) (d := 2 * j * j) e f (wa e i) (wa f (nH j)) xi .lit xj _ (box_in c1 c2 c3 (.inl rfl) (.inr rfl))) (inE_qc (a := 2 * i * i) (b := 0) (d := 2 * j * j) e f (wa e (nH i)) (wa f (nH j)) xi .lit xj _ (box_in c1 c2 c3 (.inr rfl) (.inr rfl))) (inE_qc (a := 2 * i * i) (b := 0) (d := 2 * j * j) e f (wa e 0) (wa f 0) xi .lit xj _ (box_in0 c1 c2 c3))) (by kernel_rfl)
theorem ehBFalse {x y a b d e f p q g k i j u v : Int} (bx : (mayP e f && (mayR i && mayR j)) = false) : TriN Try.prog (takeS 1 (dropS 2 ehB)) (ehS1 x y a b d e f p q g k i j u v) (to .normal (ehS2 x y a b d e f p q g k u v)) := by
  exact TriN.run mixed [8, 10, 11, 15, 16] 5 [.res (ellT 0 0 0 0 0 1)] (ts0 ) (qs1 (box_qc e f i j _ (by unfold boxV; rw [bx]))) (by kernel_rfl)
theorem ehA (x y a b d e f p q g k r i j u v : Int) : TriN Try.prog (takeS 2 ehB) (ehS0 x y a b d e f p q g k r i j u v) (to .normal (ehS1 x y a b d e f p q g k i j u v)) := by
  cases bl : mayP e f && mayR r with
  | true =>
    by_cases z0 : p ≥ -1073741824
    ·
      by_cases z1 : p ≤ 1073741824
      ·
        by_cases z2 : q ≥ -1073741824
        ·
          by_cases z3 : q ≤ 1073741824
          ·
            exact ehA4 bl z0 z1 z2 z3
          ·
            exact ehA3 bl z0 z1 z2 z3
        ·
          exact ehA2 bl z0 z1 z2
      ·
        exact ehA1 bl z0 z1
    ·
      exact ehA0 bl z0
  | false =>
    exact ehAerr bl
theorem ehC {x y a b d e f p q g k u v : Int} (ha : I64 a) (hb : I64 b) (hd : I64 d) : Tri Try.prog (dropS 1 (dropS 2 ehB)) (ehS2 x y a b d e f p q g k u v) (to .ret (ehS3 x y a b d e f p q g k u v)) := by
  cases h1 : inE x y a b d p q with
  | true =>
    obtain ⟨m1, _, _, _, _⟩ := inE_near h1
    obtain ⟨dx, dy, s, t, n, nx, ny, xx, yy, sm, nn, D1, D2, T1, T2, HU, HR, T3, N1, T4, T5, N2, T6, X1, X2, X3, X4, T7⟩ := facts3 ha hb hd h1
    have al : ∀ w, alongV x y a b d g k = w → QC Try.prog 13 [ell x y a b d, pt g k] w := fun w hw => hw ▸ QC.of_pc enters_along (along_pc ha hb hd fun l1 l2 => ⟨(along_facts l1 l2).1, Nat.le_trans (along_facts l1 l2).2 (by omega)⟩)
    cases w1 : within g k 16777216 with
    | true =>
      obtain ⟨w, gs, kt, ss, ns, HA, B1, B2, B3, T8, B6, T9⟩ := factsA ha hb hd h1 w1 D1 D2
      cases w2 : within u v 4194304 with
      | true =>
        cases w3 : mayP (x + u) (y + v) with
        | true =>
          exact Tri.runK mixed [16] 5 [.res (.bool true), .at 7 (.int .i64 (dx)), .at 5 (.int .i64 (dy)), .res (twoI s t), .res (.int .i64 (n)), .tst false, .at 1 (.int .i64 (nx)), .tst false, .tst false, .at 1 (.int .i64 (ny)), .tst false, .at 2 (.int .i64 (xx)), .at 2 (.int .i64 (yy)), .at 0 (.int .i64 (sm)), .at 2 (.int .i64 (nn)), .tst false, .res (errI w 0), .at 12 (.int .i64 (gs)), .at 3 (.int .i64 (kt)), .at 0 (.int .i64 (ss)), .tst false, .at 3 (.int .i64 (gs)), .at 3 (.int .i64 (kt)), .at 0 (.int .i64 (ss)), .at 0 (.int .i64 (ns)), .tst false, .res (ellT (x + u) (y + v) a b d 0), .res (.bool true), .res (.bool true), .res (.bool true)] (tsC (tT T1) (tsC (tT T2) (tsC (tF T3) (tsC (tT N1) (tsC (tF T4) (tsC (tF T5) (tsC (tT N2) (tsC (tF T6) (tsC (tT X1) (tsC (tT X2) (tsC (tT X3) (tsC (tT X4) (tsC (tF T7) (tsC (tT B1) (tsC (tT B2) (tsC (tT B3) (tsC (tF T8) (tsC (tT B1) (tsC (tT B2) (tsC (tT B3) (tsC (tT B6) (tsC (tF T9) ts0)))))))))))))))))))))) (qs8 (inE_qc x y p q ha hb hd _ h1) (HU) (HR) (HA) (shiftL_qc x y u v ha hb hd (ellT (x + u) (y + v) a b d 0) (by simp [shiftV, m1, w2, w3])) (inE_qc (x + u) (y + v) (IntKind.i64.wrap (p + u)) (IntKind.i64.wrap (q + v)) ha hb hd _ (inE_shift h1 w2 w3)) (inE_qc x y x y ha hb hd _ (inE_centre m1)) (awakeL)) (by kernel_rfl)
        | false =>
          exact Tri.runK mixed [16] 5 [.res (.bool true), .at 7 (.int .i64 (dx)), .at 5 (.int .i64 (dy)), .res (twoI s t), .res (.int .i64 (n)), .tst false, .at 1 (.int .i64 (nx)), .tst false, .tst false, .at 1 (.int .i64 (ny)), .tst false, .at 2 (.int .i64 (xx)), .at 2 (.int .i64 (yy)), .at 0 (.int .i64 (sm)), .at 2 (.int .i64 (nn)), .tst false, .res (errI w 0), .at 12 (.int .i64 (gs)), .at 3 (.int .i64 (kt)), .at 0 (.int .i64 (ss)), .tst false, .at 3 (.int .i64 (gs)), .at 3 (.int .i64 (kt)), .at 0 (.int .i64 (ss)), .at 0 (.int .i64 (ns)), .tst false, .res (ellT 0 0 0 0 0 2), .res (.bool true), .res (.bool true)] (tsC (tT T1) (tsC (tT T2) (tsC (tF T3) (tsC (tT N1) (tsC (tF T4) (tsC (tF T5) (tsC (tT N2) (tsC (tF T6) (tsC (tT X1) (tsC (tT X2) (tsC (tT X3) (tsC (tT X4) (tsC (tF T7) (tsC (tT B1) (tsC (tT B2) (tsC (tT B3) (tsC (tF T8) (tsC (tT B1) (tsC (tT B2) (tsC (tT B3) (tsC (tT B6) (tsC (tF T9) ts0)))))))))))))))))))))) (qs7 (inE_qc x y p q ha hb hd _ h1) (HU) (HR) (HA) (shiftL_qc x y u v ha hb hd (ellT 0 0 0 0 0 2) (by simp [shiftV, m1, w2, w3])) (inE_qc x y x y ha hb hd _ (inE_centre m1)) (awakeL)) (by kernel_rfl)
      | false =>
        exact Tri.runK mixed [16] 5 [.res (.bool true), .at 7 (.int .i64 (dx)), .at 5 (.int .i64 (dy)), .res (twoI s t), .res (.int .i64 (n)), .tst false, .at 1 (.int .i64 (nx)), .tst false, .tst false, .at 1 (.int .i64 (ny)), .tst false, .at 2 (.int .i64 (xx)), .at 2 (.int .i64 (yy)), .at 0 (.int .i64 (sm)), .at 2 (.int .i64 (nn)), .tst false, .res (errI w 0), .at 12 (.int .i64 (gs)), .at 3 (.int .i64 (kt)), .at 0 (.int .i64 (ss)), .tst false, .at 3 (.int .i64 (gs)), .at 3 (.int .i64 (kt)), .at 0 (.int .i64 (ss)), .at 0 (.int .i64 (ns)), .tst false, .res (ellT 0 0 0 0 0 1), .res (.bool true), .res (.bool true)] (tsC (tT T1) (tsC (tT T2) (tsC (tF T3) (tsC (tT N1) (tsC (tF T4) (tsC (tF T5) (tsC (tT N2) (tsC (tF T6) (tsC (tT X1) (tsC (tT X2) (tsC (tT X3) (tsC (tT X4) (tsC (tF T7) (tsC (tT B1) (tsC (tT B2) (tsC (tT B3) (tsC (tF T8) (tsC (tT B1) (tsC (tT B2) (tsC (tT B3) (tsC (tT B6) (tsC (tF T9) ts0)))))))))))))))))))))) (qs7 (inE_qc x y p q ha hb hd _ h1) (HU) (HR) (HA) (shiftL_qc x y u v ha hb hd (ellT 0 0 0 0 0 1) (by simp [shiftV, m1, w2])) (inE_qc x y x y ha hb hd _ (inE_centre m1)) (awakeL)) (by kernel_rfl)
    | false =>
      cases w2 : within u v 4194304 with
      | true =>
        cases w3 : mayP (x + u) (y + v) with
        | true =>
          exact Tri.runK mixed [16] 5 [.res (.bool true), .at 7 (.int .i64 (dx)), .at 5 (.int .i64 (dy)), .res (twoI s t), .res (.int .i64 (n)), .tst false, .at 1 (.int .i64 (nx)), .tst false, .tst false, .at 1 (.int .i64 (ny)), .tst false, .at 2 (.int .i64 (xx)), .at 2 (.int .i64 (yy)), .at 0 (.int .i64 (sm)), .at 2 (.int .i64 (nn)), .tst false, .res (errI 0 1), .res (ellT (x + u) (y + v) a b d 0), .res (.bool true), .res (.bool true), .res (.bool true)] (tsC (tT T1) (tsC (tT T2) (tsC (tF T3) (tsC (tT N1) (tsC (tF T4) (tsC (tF T5) (tsC (tT N2) (tsC (tF T6) (tsC (tT X1) (tsC (tT X2) (tsC (tT X3) (tsC (tT X4) (tsC (tF T7) ts0))))))))))))) (qs8 (inE_qc x y p q ha hb hd _ h1) (HU) (HR) (al _ (by unfold alongV; rw [m1, w1])) (shiftL_qc x y u v ha hb hd (ellT (x + u) (y + v) a b d 0) (by simp [shiftV, m1, w2, w3])) (inE_qc (x + u) (y + v) (IntKind.i64.wrap (p + u)) (IntKind.i64.wrap (q + v)) ha hb hd _ (inE_shift h1 w2 w3)) (inE_qc x y x y ha hb hd _ (inE_centre m1)) (awakeL)) (by kernel_rfl)
        | false =>
          exact Tri.runK mixed [16] 5 [.res (.bool true), .at 7 (.int .i64 (dx)), .at 5 (.int .i64 (dy)), .res (twoI s t), .res (.int .i64 (n)), .tst false, .at 1 (.int .i64 (nx)), .tst false, .tst false, .at 1 (.int .i64 (ny)), .tst false, .at 2 (.int .i64 (xx)), .at 2 (.int .i64 (yy)), .at 0 (.int .i64 (sm)), .at 2 (.int .i64 (nn)), .tst false, .res (errI 0 1), .res (ellT 0 0 0 0 0 2), .res (.bool true), .res (.bool true)] (tsC (tT T1) (tsC (tT T2) (tsC (tF T3) (tsC (tT N1) (tsC (tF T4) (tsC (tF T5) (tsC (tT N2) (tsC (tF T6) (tsC (tT X1) (tsC (tT X2) (tsC (tT X3) (tsC (tT X4) (tsC (tF T7) ts0))))))))))))) (qs7 (inE_qc x y p q ha hb hd _ h1) (HU) (HR) (al _ (by unfold alongV; rw [m1, w1])) (shiftL_qc x y u v ha hb hd (ellT 0 0 0 0 0 2) (by simp [shiftV, m1, w2, w3])) (inE_qc x y x y ha hb hd _ (inE_centre m1)) (awakeL)) (by kernel_rfl)
      | false =>
        exact Tri.runK mixed [16] 5 [.res (.bool true), .at 7 (.int .i64 (dx)), .at 5 (.int .i64 (dy)), .res (twoI s t), .res (.int .i64 (n)), .tst false, .at 1 (.int .i64 (nx)), .tst false, .tst false, .at 1 (.int .i64 (ny)), .tst false, .at 2 (.int .i64 (xx)), .at 2 (.int .i64 (yy)), .at 0 (.int .i64 (sm)), .at 2 (.int .i64 (nn)), .tst false, .res (errI 0 1), .res (ellT 0 0 0 0 0 1), .res (.bool true), .res (.bool true)] (tsC (tT T1) (tsC (tT T2) (tsC (tF T3) (tsC (tT N1) (tsC (tF T4) (tsC (tF T5) (tsC (tT N2) (tsC (tF T6) (tsC (tT X1) (tsC (tT X2) (tsC (tT X3) (tsC (tT X4) (tsC (tF T7) ts0))))))))))))) (qs7 (inE_qc x y p q ha hb hd _ h1) (HU) (HR) (al _ (by unfold alongV; rw [m1, w1])) (shiftL_qc x y u v ha hb hd (ellT 0 0 0 0 0 1) (by simp [shiftV, m1, w2])) (inE_qc x y x y ha hb hd _ (inE_centre m1)) (awakeL)) (by kernel_rfl)
  | false =>
    exact Tri.runK mixed [16] 5 [.res (.bool false), .res (.bool true)] (ts0 ) (qs2 (inE_qc x y p q ha hb hd _ h1) (awakeL)) (by kernel_rfl)
theorem ellipHolds_pc {x y a b d e f p q g k r i j u v : Int} (ha : I64 a) (hb : I64 b) (hd : I64 d) : PC Try.prog 3 [ell x y a b d, pt e f, pt p q, pt g k, .int .i64 (r), .int .i64 (i), .int .i64 (j), pt u v] (.bool true) := by
  have hfl : [ell x y a b d, pt e f, pt p q, pt g k, .int .i64 (r), .int .i64 (i), .int .i64 (j), pt u v].all flat = true := by simp [flat_ell, flat_pt, show flat (Value.int .i64 r) = true from rfl, show flat (Value.int .i64 i) = true from rfl, show flat (Value.int .i64 j) = true from rfl]
  have hB : TriN Try.prog (takeS 1 (dropS 2 ehB)) (ehS1 x y a b d e f p q g k i j u v) (to .normal (ehS2 x y a b d e f p q g k u v)) := by
    cases bx : mayP e f && (mayR i && mayR j) with
    | true => exact ehBTrue bx
    | false => exact ehBFalse bx
  exact PC.of_body (c := ehB) Try.func3 rfl hfl (Tri.segs 2 (by kernel_rfl) (ehA x y a b d e f p q g k r i j u v) (Tri.segs 1 (by kernel_rfl) hB (ehC ha hb hd))) rfl (by kernel_rfl) rfl
theorem enters_ellipHolds : ∀ us w, (callFunc 3 us).run Try.prog w = .ok (.enter 3 us) w := enters Try.func3 rfl (by kernel_rfl)
end Go.Proofs.Ytpbkkechkcalgaa.W
