/-
  The reference's ellipses: what may be, radii, sums, growth.
-/
import Derived.Test.YtljolfnpncjklaaGreatTokR
import Derived.Test.YtljolfnpncjklaaGreatGrow
namespace Go.Proofs.YtljolfnpncjklaaGreat.R
open Go Go.Ev Go.W32
open Go.Proofs.YtljolfnpncjklaaGreat.W (mixed i64_wrap WF signI Sm I64 ell flat_ell ellT flat_ellT pt flat_pt sym within within_iff mayP mayV mayV_iff mayR mayR_iff mayL mayL_iff detI detI_sm signI_pos trI trI_i64 radI upI ballV gsumV gsumR gballV gageV mayG3 errI mdV muV cdiv muV_fits mdV_fits fits64_iff rad_facts str_bounds strA strB sumA sumB r_sq gage_prod tdiv_wrap gsumV_form gballV_form gageV_form ball_may)

/-! ### What may be -/
def win (n m : Int) : Bool := decide (-m ≤ n) && decide (n ≤ m)
theorem win_iff {n m : Int} : win n m = true ↔ -m ≤ n ∧ n ≤ m := by simp [win]
theorem within_win (x y m : Int) : within x y m = (win x m && win y m) := by
  unfold within win
  rw [Bool.and_assoc]
theorem ewithin_pc {n m : Int} (h0 : 0 ≤ m) (h1 : m ≤ 9223372036854775807) : PC Tryz.prog 73 [.int .i64 n, .int .i64 m] (.bool (win n m)) := by
  have e : IntKind.i64.wrap (0 - m) = -m := by rw [i64_wrap (by omega) (by omega)]; omega
  unfold win
  by_cases c1 : -m ≤ n
  · have d1 : n ≥ IntKind.i64.wrap (0 - m) := by rw [e]; exact c1
    rw [decide_eq_true c1, Bool.true_and]
    exact PC.run mixed Tryz.func73 [.tst true] rfl (ts1 (tT d1)) qs0 rfl rfl (by kernel_rfl)
  · have d1 : ¬ n ≥ IntKind.i64.wrap (0 - m) := by rw [e]; exact c1
    rw [decide_eq_false c1, Bool.false_and]
    exact PC.run mixed Tryz.func73 [.tst false] rfl (ts1 (tF d1)) qs0 rfl rfl (by kernel_rfl)
theorem enters_ewithin : ∀ us w, (callFunc 73 us).run Tryz.prog w = .ok (.enter 73 us) w := enters Tryz.func73 rfl (by kernel_rfl)
theorem ewithin_qc (n m : Int) (h0 : 0 ≤ m) (h1 : m ≤ 9223372036854775807) (r : Bool) (h : win n m = r) : QC Tryz.prog 73 [.int .i64 n, .int .i64 m] (.bool r) := h ▸ QC.of_pc enters_ewithin (ewithin_pc h0 h1)
theorem ePoint_pc (x y : Int) : PC Tryz.prog 72 [pt x y] (.bool (mayP x y)) := by
  have hfl : [pt x y].all flat = true := by simp [flat_pt]
  unfold mayP
  rw [within_win]
  cases h : win x 4194304 with
  | true => exact PC.run mixed Tryz.func72 [.res (.bool true), .res (.bool (win y 4194304))] hfl ts0 (qs2 (ewithin_qc x _ (by omega) (by omega) _ h) (ewithin_qc y 4194304 (by omega) (by omega) _ rfl)) rfl rfl (by kernel_rfl)
  | false => exact PC.run mixed Tryz.func72 [.res (.bool false)] hfl ts0 (qs1 (ewithin_qc x _ (by omega) (by omega) _ h)) rfl rfl (by kernel_rfl)
theorem enters_ePoint : ∀ us w, (callFunc 72 us).run Tryz.prog w = .ok (.enter 72 us) w := enters Tryz.func72 rfl (by kernel_rfl)
theorem ePoint_qc (x y : Int) (r : Bool) (h : mayP x y = r) : QC Tryz.prog 72 [pt x y] (.bool r) := h ▸ QC.of_pc enters_ePoint (ePoint_pc x y)
theorem eMay_pc {x y a b d : Int} (ha : I64 a) (hb : I64 b) (hd : I64 d) : PC Tryz.prog 35 [ell x y a b d] (.bool (mayL x y a b d)) := by
  have hfl : [ell x y a b d].all flat = true := by simp [flat_ell]
  unfold mayL mayV
  rw [show (decide (-70368744177664 ≤ b) && (decide (b ≤ 70368744177664) && decide (0 < detI a b d))) = (win b 70368744177664 && decide (0 < detI a b d)) by unfold win; rw [Bool.and_assoc]]
  cases h1 : mayP x y with
  | false => exact PC.run mixed Tryz.func35 [.res (.bool false)] hfl ts0 (qs1 (ePoint_qc x y _ h1)) rfl rfl (by kernel_rfl)
  | true =>
    by_cases c1 : 1 ≤ a
    · rw [decide_eq_true c1]
      by_cases c2 : a ≤ 70368744177664
      · rw [decide_eq_true c2]
        by_cases c3 : 1 ≤ d
        · rw [decide_eq_true c3]
          by_cases c4 : d ≤ 70368744177664
          · rw [decide_eq_true c4]
            cases h5 : win b 70368744177664 with
            | true =>
              exact PC.run mixed Tryz.func35 [.res (.bool true), .auto, .tst true, .tst true, .tst true, .tst true, .res (.bool true), .ab (rz (detI a b d)), .ab (i6 (signI (some (detI a b d))))] (v := .bool (decide (signI (some (detI a b d)) > 0))) hfl (ts4 (tT (p := a ≥ 1) c1) (tT c2) (tT (p := d ≥ 1) c3) (tT c4))
                (qs4 (ePoint_qc x y _ h1) (ewithin_qc b 70368744177664 (by omega) (by omega) _ h5) (rDet ha hb hd) (rsign (detI a b d))) rfl (by simp only [Bool.true_and]; exact congrArg Value.bool (decide_eq_decide.2 signI_pos)) (by kernel_rfl)
            | false => exact PC.run mixed Tryz.func35 [.res (.bool true), .auto, .tst true, .tst true, .tst true, .tst true, .res (.bool false)] hfl (ts4 (tT (p := a ≥ 1) c1) (tT c2) (tT (p := d ≥ 1) c3) (tT c4)) (qs2 (ePoint_qc x y _ h1) (ewithin_qc b 70368744177664 (by omega) (by omega) _ h5)) rfl rfl (by kernel_rfl)
          · rw [decide_eq_false c4]
            exact PC.run mixed Tryz.func35 [.res (.bool true), .auto, .tst true, .tst true, .tst true, .tst false] hfl (ts4 (tT (p := a ≥ 1) c1) (tT c2) (tT (p := d ≥ 1) c3) (tF c4)) (qs1 (ePoint_qc x y _ h1)) rfl rfl (by kernel_rfl)
        · rw [decide_eq_false c3]
          exact PC.run mixed Tryz.func35 [.res (.bool true), .auto, .tst true, .tst true, .tst false] hfl (ts3 (tT (p := a ≥ 1) c1) (tT c2) (tF (p := d ≥ 1) c3)) (qs1 (ePoint_qc x y _ h1)) rfl rfl (by kernel_rfl)
      · rw [decide_eq_false c2]
        exact PC.run mixed Tryz.func35 [.res (.bool true), .auto, .tst true, .tst false] hfl (ts2 (tT (p := a ≥ 1) c1) (tF c2)) (qs1 (ePoint_qc x y _ h1)) rfl rfl (by kernel_rfl)
    · rw [decide_eq_false c1]
      exact PC.run mixed Tryz.func35 [.res (.bool true), .auto, .tst false] hfl (ts1 (tF (p := a ≥ 1) c1)) (qs1 (ePoint_qc x y _ h1)) rfl rfl (by kernel_rfl)
theorem enters_eMay : ∀ us w, (callFunc 35 us).run Tryz.prog w = .ok (.enter 35 us) w := enters Tryz.func35 rfl (by kernel_rfl)
theorem eMay_qc {a b d : Int} (x y : Int) (ha : I64 a) (hb : I64 b) (hd : I64 d) (r : Bool) (h : mayL x y a b d = r) : QC Tryz.prog 35 [ell x y a b d] (.bool r) := h ▸ QC.of_pc enters_eMay (eMay_pc ha hb hd)
/-! ### Traces, radii, balls -/
theorem eTrace_pc {x y a b d : Int} (ha : I64 a) (hb : I64 b) (hd : I64 d) : PC Tryz.prog 120 [ell x y a b d] (.int .i64 (trI x y a b d)) := by
  have hfl : [ell x y a b d].all flat = true := by simp [flat_ell]
  unfold trI
  cases h1 : mayL x y a b d with
  | false => exact PC.run mixed Tryz.func120 [.res (.bool false)] hfl ts0 (qs1 (eMay_qc x y ha hb hd _ h1)) rfl rfl (by kernel_rfl)
  | true =>
    have g1 := mayL_iff.1 h1
    have e1 : IntKind.i64.wrap (a + d) = a + d := i64_wrap (by omega) (by omega)
    have h := PC.run (args := [ell x y a b d]) (v := .int .i64 (IntKind.i64.wrap (a + d))) mixed Tryz.func120 [.res (.bool true)] hfl ts0 (qs1 (eMay_qc x y ha hb hd _ h1)) rfl rfl (by kernel_rfl)
    rw [e1] at h
    exact h
theorem enters_eTrace : ∀ us w, (callFunc 120 us).run Tryz.prog w = .ok (.enter 120 us) w := enters Tryz.func120 rfl (by kernel_rfl)
theorem eTrace_qc {a b d : Int} (x y : Int) (ha : I64 a) (hb : I64 b) (hd : I64 d) : QC Tryz.prog 120 [ell x y a b d] (.int .i64 (trI x y a b d)) := QC.of_pc enters_eTrace (eTrace_pc ha hb hd)
theorem eRadius_pc {x y a b d : Int} (ha : I64 a) (hb : I64 b) (hd : I64 d) : PC Tryz.prog 104 [ell x y a b d] (.int .i64 (radI x y a b d)) :=
  PC.run mixed Tryz.func104 [.res (.int .i64 (trI x y a b d)), .ab (.int .i64 (radI x y a b d))] (by simp [flat_ell]) ts0 (qs2 (eTrace_qc x y ha hb hd) (rUp_t (trI_i64 x y a b d).1)) rfl rfl (by kernel_rfl)
theorem enters_eRadius : ∀ us w, (callFunc 104 us).run Tryz.prog w = .ok (.enter 104 us) w := enters Tryz.func104 rfl (by kernel_rfl)
theorem eRadius_qc {a b d : Int} (x y : Int) (ha : I64 a) (hb : I64 b) (hd : I64 d) : QC Tryz.prog 104 [ell x y a b d] (.int .i64 (radI x y a b d)) := QC.of_pc enters_eRadius (eRadius_pc ha hb hd)
theorem eBall_pc (x y r : Int) : PC Tryz.prog 75 [pt x y, .int .i64 r] (ballV x y r) := by
  have hfl : [pt x y, Value.int .i64 r].all flat = true := by simp [flat_pt]; rfl
  unfold ballV mayR
  cases h1 : mayP x y with
  | false => exact PC.run mixed Tryz.func75 [.res (.bool false)] hfl ts0 (qs1 (ePoint_qc x y _ h1)) (flat_ellT 0 0 0 0 0 1) rfl (by kernel_rfl)
  | true =>
    by_cases c1 : 1 ≤ r
    · rw [decide_eq_true c1]
      by_cases c2 : r ≤ 4194304
      · rw [decide_eq_true c2]
        have g := r_sq (mayR_iff.2 ⟨c1, c2⟩)
        have e : IntKind.i64.wrap (r * r) = r * r := i64_wrap (by omega) (by omega)
        have h := PC.run (args := [pt x y, Value.int .i64 r]) (v := ellT x y (IntKind.i64.wrap (r * r)) 0 (IntKind.i64.wrap (r * r)) 0) mixed Tryz.func75 [.res (.bool true), .auto, .tst false, .tst false] hfl (ts2 (tF (p := r < 1) (by omega)) (tF (p := r > 4194304) (by omega))) (qs1 (ePoint_qc x y _ h1)) (flat_ellT _ _ _ _ _ _) rfl (by kernel_rfl)
        rw [e] at h
        exact h
      · rw [decide_eq_false c2]
        exact PC.run mixed Tryz.func75 [.res (.bool true), .auto, .tst false, .tst true] hfl (ts2 (tF (p := r < 1) (by omega)) (tT (p := r > 4194304) (by omega))) (qs1 (ePoint_qc x y _ h1)) (flat_ellT 0 0 0 0 0 1) rfl (by kernel_rfl)
    · rw [decide_eq_false c1]
      exact PC.run mixed Tryz.func75 [.res (.bool true), .auto, .tst true] hfl (ts1 (tT (p := r < 1) (by omega))) (qs1 (ePoint_qc x y _ h1)) (flat_ellT 0 0 0 0 0 1) rfl (by kernel_rfl)
theorem enters_eBall : ∀ us w, (callFunc 75 us).run Tryz.prog w = .ok (.enter 75 us) w := enters Tryz.func75 rfl (by kernel_rfl)
theorem eBall_qc (x y r : Int) (v : Value) (h : ballV x y r = v) : QC Tryz.prog 75 [pt x y, .int .i64 r] v := h ▸ QC.of_pc enters_eBall (eBall_pc x y r)
/-! ### Sums -/
theorem es_ok {x y a b d x' y' a' b' d' s t A B D A' B' D' : Int} (h1 : QC Tryz.prog 35 [ell x y a b d] (.bool true)) (h2 : QC Tryz.prog 35 [ell x' y' a' b' d'] (.bool true)) (h3 : QC Tryz.prog 104 [ell x y a b d] (.int .i64 s)) (h4 : QC Tryz.prog 104 [ell x' y' a' b' d'] (.int .i64 t))
    (g1 : MC Tryz.prog 105 [.int .i64 (IntKind.i64.wrap (s + t)), .int .i64 a, .int .i64 s] [] (errI A 0) []) (g2 : MC Tryz.prog 105 [.int .i64 (IntKind.i64.wrap (s + t)), .int .i64 a', .int .i64 t] [] (errI A' 0) []) (g3 : MC Tryz.prog 105 [.int .i64 (IntKind.i64.wrap (s + t)), .int .i64 d, .int .i64 s] [] (errI D 0) []) (g4 : MC Tryz.prog 105 [.int .i64 (IntKind.i64.wrap (s + t)), .int .i64 d', .int .i64 t] [] (errI D' 0) []) (g5 : MC Tryz.prog 106 [.int .i64 (IntKind.i64.wrap (s + t)), .int .i64 b, .int .i64 s] [] (errI B 0) []) (g6 : MC Tryz.prog 106 [.int .i64 (IntKind.i64.wrap (s + t)), .int .i64 b', .int .i64 t] [] (errI B' 0) []) (c0 : ¬ A > 70368744177664) (c1 : ¬ A' > 70368744177664) (c2 : ¬ D > 70368744177664) (c3 : ¬ D' > 70368744177664) (h5 : QC Tryz.prog 35 [ell (IntKind.i64.wrap (x + x')) (IntKind.i64.wrap (y + y')) (IntKind.i64.wrap (IntKind.i64.wrap (A + A') + 2)) (IntKind.i64.wrap (B + B')) (IntKind.i64.wrap (IntKind.i64.wrap (D + D') + 2))] (.bool true)) :
    PC Tryz.prog 76 [ell x y a b d, ell x' y' a' b' d'] (ellT (IntKind.i64.wrap (x + x')) (IntKind.i64.wrap (y + y')) (IntKind.i64.wrap (IntKind.i64.wrap (A + A') + 2)) (IntKind.i64.wrap (B + B')) (IntKind.i64.wrap (IntKind.i64.wrap (D + D') + 2)) 0) :=
  PC.run mixed Tryz.func76 [.res (.bool true), .res (.bool true), .res (.int .i64 s), .res (.int .i64 t), .ab (errI A 0), .ab (errI A' 0), .ab (errI D 0), .ab (errI D' 0), .ab (errI B 0), .ab (errI B' 0), .auto, .auto, .auto, .auto, .auto, .auto, .auto, .auto, .auto, .auto, .auto, .auto, .auto, .tst false, .tst false, .tst false, .tst false, .res (.bool true)] (by simp [flat_ell]) (ts4 (tF c0) (tF c1) (tF c2) (tF c3)) (qsC h1 <| qsC h2 <| qsC h3 <| qsC h4 <| qsC g1 <| qsC g2 <| qsC g3 <| qsC g4 <| qsC g5 <| qsC g6 <| qsC h5 qs0) (flat_ellT _ _ _ _ _ _) rfl (by kernel_rfl)
theorem es_no {x y a b d x' y' a' b' d' s t A B D A' B' D' : Int} (h1 : QC Tryz.prog 35 [ell x y a b d] (.bool true)) (h2 : QC Tryz.prog 35 [ell x' y' a' b' d'] (.bool true)) (h3 : QC Tryz.prog 104 [ell x y a b d] (.int .i64 s)) (h4 : QC Tryz.prog 104 [ell x' y' a' b' d'] (.int .i64 t))
    (g1 : MC Tryz.prog 105 [.int .i64 (IntKind.i64.wrap (s + t)), .int .i64 a, .int .i64 s] [] (errI A 0) []) (g2 : MC Tryz.prog 105 [.int .i64 (IntKind.i64.wrap (s + t)), .int .i64 a', .int .i64 t] [] (errI A' 0) []) (g3 : MC Tryz.prog 105 [.int .i64 (IntKind.i64.wrap (s + t)), .int .i64 d, .int .i64 s] [] (errI D 0) []) (g4 : MC Tryz.prog 105 [.int .i64 (IntKind.i64.wrap (s + t)), .int .i64 d', .int .i64 t] [] (errI D' 0) []) (g5 : MC Tryz.prog 106 [.int .i64 (IntKind.i64.wrap (s + t)), .int .i64 b, .int .i64 s] [] (errI B 0) []) (g6 : MC Tryz.prog 106 [.int .i64 (IntKind.i64.wrap (s + t)), .int .i64 b', .int .i64 t] [] (errI B' 0) []) (c0 : ¬ A > 70368744177664) (c1 : ¬ A' > 70368744177664) (c2 : ¬ D > 70368744177664) (c3 : ¬ D' > 70368744177664) (h5 : QC Tryz.prog 35 [ell (IntKind.i64.wrap (x + x')) (IntKind.i64.wrap (y + y')) (IntKind.i64.wrap (IntKind.i64.wrap (A + A') + 2)) (IntKind.i64.wrap (B + B')) (IntKind.i64.wrap (IntKind.i64.wrap (D + D') + 2))] (.bool false)) :
    PC Tryz.prog 76 [ell x y a b d, ell x' y' a' b' d'] (ellT 0 0 0 0 0 2) :=
  PC.run mixed Tryz.func76 [.res (.bool true), .res (.bool true), .res (.int .i64 s), .res (.int .i64 t), .ab (errI A 0), .ab (errI A' 0), .ab (errI D 0), .ab (errI D' 0), .ab (errI B 0), .ab (errI B' 0), .auto, .auto, .auto, .auto, .auto, .auto, .auto, .auto, .auto, .auto, .auto, .auto, .auto, .tst false, .tst false, .tst false, .tst false, .res (.bool false)] (by simp [flat_ell]) (ts4 (tF c0) (tF c1) (tF c2) (tF c3)) (qsC h1 <| qsC h2 <| qsC h3 <| qsC h4 <| qsC g1 <| qsC g2 <| qsC g3 <| qsC g4 <| qsC g5 <| qsC g6 <| qsC h5 qs0) (flat_ellT _ _ _ _ _ _) rfl (by kernel_rfl)
theorem es_big0 {x y a b d x' y' a' b' d' s t A B D A' B' D' : Int} (h1 : QC Tryz.prog 35 [ell x y a b d] (.bool true)) (h2 : QC Tryz.prog 35 [ell x' y' a' b' d'] (.bool true)) (h3 : QC Tryz.prog 104 [ell x y a b d] (.int .i64 s)) (h4 : QC Tryz.prog 104 [ell x' y' a' b' d'] (.int .i64 t))
    (g1 : MC Tryz.prog 105 [.int .i64 (IntKind.i64.wrap (s + t)), .int .i64 a, .int .i64 s] [] (errI A 0) []) (g2 : MC Tryz.prog 105 [.int .i64 (IntKind.i64.wrap (s + t)), .int .i64 a', .int .i64 t] [] (errI A' 0) []) (g3 : MC Tryz.prog 105 [.int .i64 (IntKind.i64.wrap (s + t)), .int .i64 d, .int .i64 s] [] (errI D 0) []) (g4 : MC Tryz.prog 105 [.int .i64 (IntKind.i64.wrap (s + t)), .int .i64 d', .int .i64 t] [] (errI D' 0) []) (g5 : MC Tryz.prog 106 [.int .i64 (IntKind.i64.wrap (s + t)), .int .i64 b, .int .i64 s] [] (errI B 0) []) (g6 : MC Tryz.prog 106 [.int .i64 (IntKind.i64.wrap (s + t)), .int .i64 b', .int .i64 t] [] (errI B' 0) [])  (c0 : A > 70368744177664) : PC Tryz.prog 76 [ell x y a b d, ell x' y' a' b' d'] (ellT 0 0 0 0 0 2) :=
  PC.run mixed Tryz.func76 [.res (.bool true), .res (.bool true), .res (.int .i64 s), .res (.int .i64 t), .ab (errI A 0), .ab (errI A' 0), .ab (errI D 0), .ab (errI D' 0), .ab (errI B 0), .ab (errI B' 0), .auto, .auto, .auto, .auto, .auto, .auto, .auto, .auto, .auto, .auto, .auto, .auto, .auto, .tst true] (by simp [flat_ell]) (ts1  (tT c0)) (qsC h1 <| qsC h2 <| qsC h3 <| qsC h4 <| qsC g1 <| qsC g2 <| qsC g3 <| qsC g4 <| qsC g5 <| qsC g6 <| qs0) (flat_ellT _ _ _ _ _ _) rfl (by kernel_rfl)
theorem es_big1 {x y a b d x' y' a' b' d' s t A B D A' B' D' : Int} (h1 : QC Tryz.prog 35 [ell x y a b d] (.bool true)) (h2 : QC Tryz.prog 35 [ell x' y' a' b' d'] (.bool true)) (h3 : QC Tryz.prog 104 [ell x y a b d] (.int .i64 s)) (h4 : QC Tryz.prog 104 [ell x' y' a' b' d'] (.int .i64 t))
    (g1 : MC Tryz.prog 105 [.int .i64 (IntKind.i64.wrap (s + t)), .int .i64 a, .int .i64 s] [] (errI A 0) []) (g2 : MC Tryz.prog 105 [.int .i64 (IntKind.i64.wrap (s + t)), .int .i64 a', .int .i64 t] [] (errI A' 0) []) (g3 : MC Tryz.prog 105 [.int .i64 (IntKind.i64.wrap (s + t)), .int .i64 d, .int .i64 s] [] (errI D 0) []) (g4 : MC Tryz.prog 105 [.int .i64 (IntKind.i64.wrap (s + t)), .int .i64 d', .int .i64 t] [] (errI D' 0) []) (g5 : MC Tryz.prog 106 [.int .i64 (IntKind.i64.wrap (s + t)), .int .i64 b, .int .i64 s] [] (errI B 0) []) (g6 : MC Tryz.prog 106 [.int .i64 (IntKind.i64.wrap (s + t)), .int .i64 b', .int .i64 t] [] (errI B' 0) []) (c0 : ¬ A > 70368744177664) (c1 : A' > 70368744177664) : PC Tryz.prog 76 [ell x y a b d, ell x' y' a' b' d'] (ellT 0 0 0 0 0 2) :=
  PC.run mixed Tryz.func76 [.res (.bool true), .res (.bool true), .res (.int .i64 s), .res (.int .i64 t), .ab (errI A 0), .ab (errI A' 0), .ab (errI D 0), .ab (errI D' 0), .ab (errI B 0), .ab (errI B' 0), .auto, .auto, .auto, .auto, .auto, .auto, .auto, .auto, .auto, .auto, .auto, .auto, .auto, .tst false, .tst true] (by simp [flat_ell]) (ts2 (tF c0) (tT c1)) (qsC h1 <| qsC h2 <| qsC h3 <| qsC h4 <| qsC g1 <| qsC g2 <| qsC g3 <| qsC g4 <| qsC g5 <| qsC g6 <| qs0) (flat_ellT _ _ _ _ _ _) rfl (by kernel_rfl)
theorem es_big2 {x y a b d x' y' a' b' d' s t A B D A' B' D' : Int} (h1 : QC Tryz.prog 35 [ell x y a b d] (.bool true)) (h2 : QC Tryz.prog 35 [ell x' y' a' b' d'] (.bool true)) (h3 : QC Tryz.prog 104 [ell x y a b d] (.int .i64 s)) (h4 : QC Tryz.prog 104 [ell x' y' a' b' d'] (.int .i64 t))
    (g1 : MC Tryz.prog 105 [.int .i64 (IntKind.i64.wrap (s + t)), .int .i64 a, .int .i64 s] [] (errI A 0) []) (g2 : MC Tryz.prog 105 [.int .i64 (IntKind.i64.wrap (s + t)), .int .i64 a', .int .i64 t] [] (errI A' 0) []) (g3 : MC Tryz.prog 105 [.int .i64 (IntKind.i64.wrap (s + t)), .int .i64 d, .int .i64 s] [] (errI D 0) []) (g4 : MC Tryz.prog 105 [.int .i64 (IntKind.i64.wrap (s + t)), .int .i64 d', .int .i64 t] [] (errI D' 0) []) (g5 : MC Tryz.prog 106 [.int .i64 (IntKind.i64.wrap (s + t)), .int .i64 b, .int .i64 s] [] (errI B 0) []) (g6 : MC Tryz.prog 106 [.int .i64 (IntKind.i64.wrap (s + t)), .int .i64 b', .int .i64 t] [] (errI B' 0) []) (c0 : ¬ A > 70368744177664) (c1 : ¬ A' > 70368744177664) (c2 : D > 70368744177664) : PC Tryz.prog 76 [ell x y a b d, ell x' y' a' b' d'] (ellT 0 0 0 0 0 2) :=
  PC.run mixed Tryz.func76 [.res (.bool true), .res (.bool true), .res (.int .i64 s), .res (.int .i64 t), .ab (errI A 0), .ab (errI A' 0), .ab (errI D 0), .ab (errI D' 0), .ab (errI B 0), .ab (errI B' 0), .auto, .auto, .auto, .auto, .auto, .auto, .auto, .auto, .auto, .auto, .auto, .auto, .auto, .tst false, .tst false, .tst true] (by simp [flat_ell]) (ts3 (tF c0) (tF c1) (tT c2)) (qsC h1 <| qsC h2 <| qsC h3 <| qsC h4 <| qsC g1 <| qsC g2 <| qsC g3 <| qsC g4 <| qsC g5 <| qsC g6 <| qs0) (flat_ellT _ _ _ _ _ _) rfl (by kernel_rfl)
theorem es_big3 {x y a b d x' y' a' b' d' s t A B D A' B' D' : Int} (h1 : QC Tryz.prog 35 [ell x y a b d] (.bool true)) (h2 : QC Tryz.prog 35 [ell x' y' a' b' d'] (.bool true)) (h3 : QC Tryz.prog 104 [ell x y a b d] (.int .i64 s)) (h4 : QC Tryz.prog 104 [ell x' y' a' b' d'] (.int .i64 t))
    (g1 : MC Tryz.prog 105 [.int .i64 (IntKind.i64.wrap (s + t)), .int .i64 a, .int .i64 s] [] (errI A 0) []) (g2 : MC Tryz.prog 105 [.int .i64 (IntKind.i64.wrap (s + t)), .int .i64 a', .int .i64 t] [] (errI A' 0) []) (g3 : MC Tryz.prog 105 [.int .i64 (IntKind.i64.wrap (s + t)), .int .i64 d, .int .i64 s] [] (errI D 0) []) (g4 : MC Tryz.prog 105 [.int .i64 (IntKind.i64.wrap (s + t)), .int .i64 d', .int .i64 t] [] (errI D' 0) []) (g5 : MC Tryz.prog 106 [.int .i64 (IntKind.i64.wrap (s + t)), .int .i64 b, .int .i64 s] [] (errI B 0) []) (g6 : MC Tryz.prog 106 [.int .i64 (IntKind.i64.wrap (s + t)), .int .i64 b', .int .i64 t] [] (errI B' 0) []) (c0 : ¬ A > 70368744177664) (c1 : ¬ A' > 70368744177664) (c2 : ¬ D > 70368744177664) (c3 : D' > 70368744177664) : PC Tryz.prog 76 [ell x y a b d, ell x' y' a' b' d'] (ellT 0 0 0 0 0 2) :=
  PC.run mixed Tryz.func76 [.res (.bool true), .res (.bool true), .res (.int .i64 s), .res (.int .i64 t), .ab (errI A 0), .ab (errI A' 0), .ab (errI D 0), .ab (errI D' 0), .ab (errI B 0), .ab (errI B' 0), .auto, .auto, .auto, .auto, .auto, .auto, .auto, .auto, .auto, .auto, .auto, .auto, .auto, .tst false, .tst false, .tst false, .tst true] (by simp [flat_ell]) (ts4 (tF c0) (tF c1) (tF c2) (tT c3)) (qsC h1 <| qsC h2 <| qsC h3 <| qsC h4 <| qsC g1 <| qsC g2 <| qsC g3 <| qsC g4 <| qsC g5 <| qsC g6 <| qs0) (flat_ellT _ _ _ _ _ _) rfl (by kernel_rfl)
theorem cdiv_nn {z c : Int} (hc : 0 < c) (hz : 0 ≤ z) : 0 ≤ cdiv z c := by
  have h := (Go.Proofs.YtljolfnpncjklaaGreat.W.cdiv_bounds (z := z) hc).1
  refine Int.not_lt.1 fun h2 => ?_
  have := Int.mul_le_mul_of_nonneg_left (show cdiv z c ≤ -1 by omega) (show 0 ≤ c by omega)
  omega
theorem eSum_pc {x y a b d x' y' a' b' d' : Int} (ha : I64 a) (hb : I64 b) (hd : I64 d) (ha' : I64 a') (hb' : I64 b') (hd' : I64 d') : PC Tryz.prog 76 [ell x y a b d, ell x' y' a' b' d'] (gsumV x y a b d x' y' a' b' d') := by
  have hfl : [ell x y a b d, ell x' y' a' b' d'].all flat = true := by simp [flat_ell]
  unfold gsumV
  cases h1 : mayL x y a b d with
  | false => exact PC.run mixed Tryz.func76 [.res (.bool false)] hfl ts0 (qs1 (eMay_qc x y ha hb hd _ h1)) (flat_ellT 0 0 0 0 0 1) rfl (by kernel_rfl)
  | true =>
    cases h2 : mayL x' y' a' b' d' with
    | false => exact PC.run mixed Tryz.func76 [.res (.bool true), .res (.bool false)] hfl ts0 (qs2 (eMay_qc x y ha hb hd _ h1) (eMay_qc x' y' ha' hb' hd' _ h2)) (flat_ellT 0 0 0 0 0 1) rfl (by kernel_rfl)
    | true =>
      have g := mayL_iff.1 h1
      have g' := mayL_iff.1 h2
      obtain ⟨s0, s1, sa, sb, sd, sr⟩ := rad_facts h1
      obtain ⟨t0, t1, ta, tb, td, tr⟩ := rad_facts h2
      have h3 := eRadius_qc (a := a) (b := b) (d := d) x y ha hb hd
      have h4 := eRadius_qc (a := a') (b := b') (d := d') x' y' ha' hb' hd'
      rw [sr] at h3
      rw [tr] at h4
      simp only [Bool.and_self]
      unfold gsumR
      generalize upI (a + d) = s at *
      generalize upI (a' + d') = t at *
      have ew : IntKind.i64.wrap (s + t) = s + t := i64_wrap (by omega) (by omega)
      have ex : IntKind.i64.wrap (x + x') = x + x' := i64_wrap (by omega) (by omega)
      have ey : IntKind.i64.wrap (y + y') = y + y' := i64_wrap (by omega) (by omega)
      have b1 := str_bounds s0 s1 (w := s + t) (by omega) (by omega) sa.1 sa.2
      have b2 := str_bounds s0 s1 (w := s + t) (by omega) (by omega) sb.1 sb.2
      have b3 := str_bounds s0 s1 (w := s + t) (by omega) (by omega) sd.1 sd.2
      have b4 := str_bounds t0 t1 (w := s + t) (by omega) (by omega) ta.1 ta.2
      have b5 := str_bounds t0 t1 (w := s + t) (by omega) (by omega) tb.1 tb.2
      have b6 := str_bounds t0 t1 (w := s + t) (by omega) (by omega) td.1 td.2
      have iw : I64 (IntKind.i64.wrap (s + t)) := by rw [ew]; exact ⟨by omega, by omega⟩
      have is : I64 s := ⟨by omega, by omega⟩
      have it : I64 t := ⟨by omega, by omega⟩
      have up : ∀ n p : Int, I64 n → I64 p → p ≠ 0 → I64 (cdiv ((s + t) * n) p) → MC Tryz.prog 105 [.int .i64 (IntKind.i64.wrap (s + t)), .int .i64 n, .int .i64 p] [] (errI (cdiv ((s + t) * n) p) 0) [] := fun n p hn hp h0 hf => by
        have h := rMulDivUp_t iw hn hp
        rw [ew, muV_fits h0 (fits64_iff.2 hf)] at h
        rw [ew]
        exact h
      have dn : ∀ n p : Int, I64 n → I64 p → p ≠ 0 → I64 (((s + t) * n).fdiv p) → MC Tryz.prog 106 [.int .i64 (IntKind.i64.wrap (s + t)), .int .i64 n, .int .i64 p] [] (errI (((s + t) * n).fdiv p) 0) [] := fun n p hn hp h0 hf => by
        have h := rMulDiv_t iw hn hp
        rw [ew, mdV_fits h0 (fits64_iff.2 hf)] at h
        rw [ew]
        exact h
      have g1 := up a s ha is (by omega) ⟨by omega, by omega⟩
      have g2 := up a' t ha' it (by omega) ⟨by omega, by omega⟩
      have g3 := up d s hd is (by omega) ⟨by omega, by omega⟩
      have g4 := up d' t hd' it (by omega) ⟨by omega, by omega⟩
      have g5 := dn b s hb is (by omega) ⟨by omega, by omega⟩
      have g6 := dn b' t hb' it (by omega) ⟨by omega, by omega⟩
      have n1 := cdiv_nn s0 (Int.mul_nonneg (show 0 ≤ s + t by omega) (show 0 ≤ a by omega))
      have n2 := cdiv_nn t0 (Int.mul_nonneg (show 0 ≤ s + t by omega) (show 0 ≤ a' by omega))
      have n3 := cdiv_nn s0 (Int.mul_nonneg (show 0 ≤ s + t by omega) (show 0 ≤ d by omega))
      have n4 := cdiv_nn t0 (Int.mul_nonneg (show 0 ≤ s + t by omega) (show 0 ≤ d' by omega))
      have q1 := eMay_qc x y ha hb hd _ h1
      have q2 := eMay_qc x' y' ha' hb' hd' _ h2
      have eA : sumA s t a a' = cdiv ((s + t) * a) s + cdiv ((s + t) * a') t + 2 := by unfold sumA strA; omega
      have eD : sumA s t d d' = cdiv ((s + t) * d) s + cdiv ((s + t) * d') t + 2 := by unfold sumA strA; omega
      have eB : sumB s t b b' = ((s + t) * b).fdiv s + ((s + t) * b').fdiv t := rfl
      rw [eA, eB, eD]
      generalize cdiv ((s + t) * a) s = A at *
      generalize cdiv ((s + t) * a') t = A' at *
      generalize cdiv ((s + t) * d) s = D at *
      generalize cdiv ((s + t) * d') t = D' at *
      generalize ((s + t) * b).fdiv s = B at *
      generalize ((s + t) * b').fdiv t = B' at *
      have hbig : (A > 70368744177664 ∨ A' > 70368744177664 ∨ D > 70368744177664 ∨ D' > 70368744177664) → mayL (x + x') (y + y') (A + A' + 2) (B + B') (D + D' + 2) = false := fun h => by
        cases hm : mayL (x + x') (y + y') (A + A' + 2) (B + B') (D + D' + 2) with
        | false => rfl
        | true =>
          have := mayL_iff.1 hm
          omega
      by_cases c0 : A > 70368744177664
      · rw [hbig (by omega)]
        exact es_big0 q1 q2 h3 h4 g1 g2 g3 g4 g5 g6 c0
      by_cases c1 : A' > 70368744177664
      · rw [hbig (by omega)]
        exact es_big1 q1 q2 h3 h4 g1 g2 g3 g4 g5 g6 c0 c1
      by_cases c2 : D > 70368744177664
      · rw [hbig (by omega)]
        exact es_big2 q1 q2 h3 h4 g1 g2 g3 g4 g5 g6 c0 c1 c2
      by_cases c3 : D' > 70368744177664
      · rw [hbig (by omega)]
        exact es_big3 q1 q2 h3 h4 g1 g2 g3 g4 g5 g6 c0 c1 c2 c3
      have e1 : IntKind.i64.wrap (A + A') = A + A' := i64_wrap (by omega) (by omega)
      have e2 : IntKind.i64.wrap (A + A' + 2) = A + A' + 2 := i64_wrap (by omega) (by omega)
      have e3 : IntKind.i64.wrap (D + D') = D + D' := i64_wrap (by omega) (by omega)
      have e4 : IntKind.i64.wrap (D + D' + 2) = D + D' + 2 := i64_wrap (by omega) (by omega)
      have e5 : IntKind.i64.wrap (B + B') = B + B' := i64_wrap (by omega) (by omega)
      have h5 : ∀ r, mayL (x + x') (y + y') (A + A' + 2) (B + B') (D + D' + 2) = r → QC Tryz.prog 35 [ell (IntKind.i64.wrap (x + x')) (IntKind.i64.wrap (y + y')) (IntKind.i64.wrap (IntKind.i64.wrap (A + A') + 2)) (IntKind.i64.wrap (B + B')) (IntKind.i64.wrap (IntKind.i64.wrap (D + D') + 2))] (.bool r) := fun r hr => by
        rw [ex, ey, e1, e2, e3, e4, e5]
        exact eMay_qc _ _ ⟨by omega, by omega⟩ ⟨by omega, by omega⟩ ⟨by omega, by omega⟩ r hr
      cases hm : mayL (x + x') (y + y') (A + A' + 2) (B + B') (D + D' + 2) with
      | true =>
        have hr := es_ok q1 q2 h3 h4 g1 g2 g3 g4 g5 g6 c0 c1 c2 c3 (h5 _ hm)
        rw [ex, ey, e1, e2, e3, e4, e5] at hr
        exact hr
      | false => exact es_no q1 q2 h3 h4 g1 g2 g3 g4 g5 g6 c0 c1 c2 c3 (h5 _ hm)
theorem enters_eSum : ∀ us w, (callFunc 76 us).run Tryz.prog w = .ok (.enter 76 us) w := enters Tryz.func76 rfl (by kernel_rfl)
theorem eSum_qc {a b d a' b' d' : Int} (x y x' y' : Int) (ha : I64 a) (hb : I64 b) (hd : I64 d) (ha' : I64 a') (hb' : I64 b') (hd' : I64 d') (v : Value) (h : gsumV x y a b d x' y' a' b' d' = v) : QC Tryz.prog 76 [ell x y a b d, ell x' y' a' b' d'] v := h ▸ QC.of_pc enters_eSum (eSum_pc ha hb hd ha' hb' hd')
/-! ### Growth -/
theorem eg_run {x y a b d r p q A B D : Int} {e : Nat} (c1 : ¬ r < 0) (c2 : ¬ r > 4194304) (h0 : ¬ r = 0) (h1 : QC Tryz.prog 35 [ell x y a b d] (.bool true)) (h2 : QC Tryz.prog 75 [pt 0 0, .int .i64 r] (ellT 0 0 (r * r) 0 (r * r) 0)) (h3 : QC Tryz.prog 76 [ell x y a b d, ell 0 0 (r * r) 0 (r * r)] (ellT p q A B D e)) :
    PC Tryz.prog 36 [ell x y a b d, .int .i64 r] (ellT p q A B D e) :=
  PC.run mixed Tryz.func36 [.res (.bool true), .auto, .tst false, .tst false, .tst false, .res (ellT 0 0 (r * r) 0 (r * r) 0), .res (ellT p q A B D e)] (by simp [flat_ell]; rfl) (ts3 (tF c1) (tF c2) (tF h0)) (qs3 h1 h2 h3) (flat_ellT _ _ _ _ _ _) rfl (by kernel_rfl)
theorem eGrow_pc {x y a b d r : Int} (ha : I64 a) (hb : I64 b) (hd : I64 d) : PC Tryz.prog 36 [ell x y a b d, .int .i64 r] (gballV x y a b d r) := by
  have hfl : [ell x y a b d, Value.int .i64 r].all flat = true := by simp [flat_ell]; rfl
  unfold gballV
  cases h1 : mayL x y a b d with
  | false => exact PC.run mixed Tryz.func36 [.res (.bool false)] hfl ts0 (qs1 (eMay_qc x y ha hb hd _ h1)) (flat_ellT 0 0 0 0 0 1) rfl (by kernel_rfl)
  | true =>
    simp only
    by_cases h0 : r = 0
    · rw [if_pos h0]
      exact PC.run mixed Tryz.func36 [.res (.bool true), .auto, .tst false, .tst false, .tst true] hfl (ts3 (tF (p := r < 0) (by omega)) (tF (p := r > 4194304) (by omega)) (tT h0)) (qs1 (eMay_qc x y ha hb hd _ h1)) (flat_ellT _ _ _ _ _ _) rfl (by kernel_rfl)
    · rw [if_neg h0]
      by_cases c1 : r < 0
      · have h2 : mayR r = false := by unfold mayR; rw [decide_eq_false (by omega), Bool.false_and]
        rw [h2]
        exact PC.run mixed Tryz.func36 [.res (.bool true), .auto, .tst true] hfl (ts1 (tT c1)) (qs1 (eMay_qc x y ha hb hd _ h1)) (flat_ellT 0 0 0 0 0 1) rfl (by kernel_rfl)
      · by_cases c2 : r > 4194304
        · have h2 : mayR r = false := by unfold mayR; rw [decide_eq_false (show ¬ r ≤ 4194304 by omega), Bool.and_false]
          rw [h2]
          exact PC.run mixed Tryz.func36 [.res (.bool true), .auto, .tst false, .tst true] hfl (ts2 (tF c1) (tT c2)) (qs1 (eMay_qc x y ha hb hd _ h1)) (flat_ellT 0 0 0 0 0 1) rfl (by kernel_rfl)
        · have h2 : mayR r = true := mayR_iff.2 ⟨by omega, by omega⟩
          rw [h2]
          have hp : mayP 0 0 = true := by decide
          have hb2 : ballV 0 0 r = ellT 0 0 (r * r) 0 (r * r) 0 := by unfold ballV; rw [h2, hp]; rfl
          have hr := r_sq h2
          have i1 : I64 (r * r) := ⟨by omega, by omega⟩
          obtain ⟨p, q, A, B, D, e, he⟩ := gsumV_form x y a b d 0 0 (r * r) 0 (r * r)
          simp only
          rw [he]
          exact eg_run c1 c2 h0 (eMay_qc x y ha hb hd _ h1) (eBall_qc 0 0 r _ hb2) (eSum_qc x y 0 0 ha hb hd i1 ⟨by omega, by omega⟩ i1 _ he)
theorem enters_eGrow : ∀ us w, (callFunc 36 us).run Tryz.prog w = .ok (.enter 36 us) w := enters Tryz.func36 rfl (by kernel_rfl)
theorem eGrow_qc {a b d : Int} (x y r : Int) (ha : I64 a) (hb : I64 b) (hd : I64 d) (v : Value) (h : gballV x y a b d r = v) : QC Tryz.prog 36 [ell x y a b d, .int .i64 r] v := h ▸ QC.of_pc enters_eGrow (eGrow_pc ha hb hd)
end Go.Proofs.YtljolfnpncjklaaGreat.R
