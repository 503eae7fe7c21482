/-
  Package info: the ellipse of an inequality, strips, Of, Fuse, Cut.
-/
import Derived.Test.YtljolfnpncjklaaGreatInfo
/-! Package info: the exact ellipse. -/
namespace Go.Proofs.YtljolfnpncjklaaGreat.W
open Go Go.Ev Go.Wide

def exC (k q r x y a b d : Int) : List Value := wzC k ++ wzC q ++ wzC r ++ wzC x ++ wzC y ++ wzC a ++ wzC b ++ wzC d
def exV (k q r x y a b d : Int) : Value := .agg (exC k q r x y a b d).toArray
theorem flat_exV (k q r x y a b d : Int) : flat (exV k q r x y a b d) = true := by
  show (exC k q r x y a b d).all flat1 = true
  simp only [exC, List.all_append, wzC_flat, Bool.and_self]
/-- The number R of an inequality. -/
def sizI (a b d u v z n k : Int) : Int := (n - z) * k + d * (u * u) - 2 * b * u * v + a * (v * v)
structure Low (a b d u v z n : Int) : Prop where
  a : Sm 170 a
  b : Sm 170 b
  d : Sm 170 d
  u : Sm 195 u
  v : Sm 195 v
  z : Sm 220 z
  n : Sm 220 n
theorem Low.det {a b d u v z n : Int} (h : Low a b d u v z n) : Sm 341 (detI a b d) := detI_sm h.a h.b h.d
theorem Low.s1 {a b d u v z n k : Int} (h : Low a b d u v z n) (hk : Sm 341 k) : Sm 566 ((n - z) * k) := ((h.n.sub h.z).mul hk).mono (by omega)
theorem Low.s2 {a b d u v z n k : Int} (h : Low a b d u v z n) (hk : Sm 341 k) : Sm 567 ((n - z) * k + d * (u * u)) := (h.s1 hk).add ((h.d.mul (h.u.mul h.u)).mono (by omega))
theorem sm2 : Sm 2 (2 : Int) := by unfold Sm; decide
theorem Low.s3 {a b d u v z n k : Int} (h : Low a b d u v z n) (hk : Sm 341 k) : Sm 568 ((n - z) * k + d * (u * u) - 2 * b * u * v) := (h.s2 hk).sub ((((sm2.mul h.b).mul h.u).mul h.v).mono (by omega))
theorem Low.siz {a b d u v z n k : Int} (h : Low a b d u v z n) (hk : Sm 341 k) : Sm 569 (sizI a b d u v z n k) := (h.s3 hk).add ((h.a.mul (h.v.mul h.v)).mono (by omega))
theorem enters_sizeOf : ∀ us w, (callFunc 60 us).run Tryz.prog w = .ok (.enter 60 us) w := enters Tryz.func60 rfl (by kernel_rfl)
theorem sizeOf_qc {a b d u v z n k : Int} (h : Low a b d u v z n) (hk : Sm 341 k) : QC Tryz.prog 60 [infoV a b d u v z n, wz k] (wz (sizI a b d u v z n k)) :=
  QC.of_pc enters_sizeOf (PC.run mixed Tryz.func60 [.res (wz (n - z)), .res (wz ((n - z) * k)), .res (wz (u * u)), .res (wz (d * (u * u))), .res (wz ((n - z) * k + d * (u * u))), .res (wz 2), .rd (wz (2 * b * u * v)), .res (wz ((n - z) * k + d * (u * u) - 2 * b * u * v)), .res (wz (v * v)), .res (wz (a * (v * v))), .res (wz (sizI a b d u v z n k))]
    (by simp only [List.all_cons, List.all_nil, flat_infoV, flat_wz, Bool.and_self]) ts0
    (qs11 (qsub h.n h.z) (qmul (h.n.sub h.z) hk) (qmul h.u h.u) (qmul h.d (h.u.mul h.u)) (qadd (h.s1 hk) ((h.d.mul (h.u.mul h.u)).mono (k := 566) (by omega))) (QC.of_pc enters_of (of_wz (n := 2) (by omega) (by omega)))
      (prod4_at sm2 h.b h.u h.v [iBlk (infoC a b d u v z n), wBlk (wzC k), wBlk (wzC 0), wBlk (wzC ((n - z) * k + d * (u * u))), wBlk (wzC 2 ++ wzC b ++ wzC u ++ wzC v)] 4 rfl)
      (qsub (h.s2 hk) ((((sm2.mul h.b).mul h.u).mul h.v).mono (k := 567) (by omega))) (qmul h.v h.v) (qmul h.a (h.v.mul h.v))
      (show QC Tryz.prog 11 [wz ((n - z) * k + d * (u * u) - 2 * b * u * v), wz (a * (v * v))] (wz (sizI a b d u v z n k)) from qadd (h.s3 hk) ((h.a.mul (h.v.mul h.v)).mono (k := 568) (by omega))))
    (flat_wz _) rfl (by kernel_rfl))
theorem enters_exactOf : ∀ us w, (callFunc 21 us).run Tryz.prog w = .ok (.enter 21 us) w := enters Tryz.func21 rfl (by kernel_rfl)
theorem exactOf_run {a b d u v z n k r : Int} (h : Low a b d u v z n) (hk : Sm 341 k) (hr : Sm 569 r) (q3 : QC Tryz.prog 59 [wz (a * d), wz (b * b)] (wz k)) (q4 : QC Tryz.prog 60 [infoV a b d u v z n, wz k] (wz r)) :
    QC Tryz.prog 21 [infoV a b d u v z n] (exV k (k * k) r (d * u - b * v) (a * v - b * u) (r * d) (-(r * b)) (r * a)) :=
  QC.of_pc enters_exactOf (PC.run mixed Tryz.func21 [.res (wz (a * d)), .res (wz (b * b)), .res (wz k), .res (wz r), .res (wz (k * k)), .res (wz (d * u)), .res (wz (b * v)), .res (wz (d * u - b * v)), .res (wz (a * v)), .res (wz (b * u)), .res (wz (a * v - b * u)),
      .res (wz (r * d)), .res (wz (r * b)), .res (wz (-(r * b))), .res (wz (r * a))]
    (by simp only [List.all_cons, List.all_nil, flat_infoV, Bool.and_self]) ts0
    (qs15 (qmul h.a h.d) (qmul h.b h.b) q3 q4 (qmul hk hk) (qmul h.d h.u) (qmul h.b h.v) (qsub (h.d.mul h.u) (h.b.mul h.v)) (qmul h.a h.v) (qmul h.b h.u) (qsub (h.a.mul h.v) (h.b.mul h.u)) (qmul hr h.d) (qmul hr h.b) (neg_qc ((hr.mul h.b).wf (by omega))) (qmul hr h.a))
    (flat_exV _ _ _ _ _ _ _ _) rfl (by kernel_rfl))
theorem enters_isOver : ∀ us w, (callFunc 22 us).run Tryz.prog w = .ok (.enter 22 us) w := enters Tryz.func22 rfl (by kernel_rfl)
theorem isOver_qc (k q r x y a b d : Int) : QC Tryz.prog 22 [exV k q r x y a b d] (.bool false) :=
  QC.of_pc enters_isOver (PC.run mixed Tryz.func22 [.res (.bool false), .res (.bool false), .res (.bool false), .res (.bool false), .res (.bool false), .res (.bool false), .res (.bool false), .res (.bool false)]
    (by simp only [List.all_cons, List.all_nil, flat_exV, Bool.and_self]) ts0 (qs8 (over_qc k) (over_qc q) (over_qc r) (over_qc x) (over_qc y) (over_qc a) (over_qc b) (over_qc d)) rfl rfl (by kernel_rfl))

/-! ### Rounding -/
def tBlk (f : Bool) : Blk := ⟨[.bool f], 102, true⟩
theorem enters_itake : ∀ us w, (callFunc 64 us).run Tryz.prog w = .ok (.enter 64 us) w := enters Tryz.func64 rfl (by kernel_rfl)
theorem take_mc (f : Bool) (n : Int) (e : Nat) : MC Tryz.prog 64 [ptr 0, .int .i64 n, .int .i64 e] [tBlk f] (.int .i64 n) [tBlk (f || !decide ((e : Int) = 0))] := by
  cases f with
  | true => exact MC.run mixed Tryz.func64 [] ts0 qs0 rfl rfl enters_itake (by kernel_rfl)
  | false => exact MC.run mixed Tryz.func64 [] ts0 qs0 rfl rfl enters_itake (by kernel_rfl)
theorem take_qo (k : Nat) (f : Bool) (n : Int) (e : Nat) : QO Tryz.prog 64 [ptr k, .int .i64 n, .int .i64 e] (.int .i64 n) k (tBlk f) (tBlk (f || !decide ((e : Int) = 0))) :=
  QO.of_mc (k := k) (take_mc f n e) rfl rfl rfl rfl rfl rfl 0
def rdF (ex ey ea eb ed : Nat) : Bool := ((((false || !decide ((ex : Int) = 0)) || !decide ((ey : Int) = 0)) || !decide ((ea : Int) = 0)) || !decide ((eb : Int) = 0)) || !decide ((ed : Int) = 0)
def sumE (a b d : Int) (e : Nat) : Value := .tuple #[sym a b d, .int .i64 e]
theorem sumV_form (a b d a' b' d' : Int) : ∃ A B D e, sumV a b d a' b' d' = sumE A B D e := by
  unfold sumV sumE
  split
  · split <;> exact ⟨_, _, _, _, rfl⟩
  · exact ⟨_, _, _, _, rfl⟩
theorem enters_irounded : ∀ us w, (callFunc 24 us).run Tryz.prog w = .ok (.enter 24 us) w := enters Tryz.func24 rfl (by kernel_rfl)
theorem rounded_fail {k q r x y a b d rx ry ra rb rd A B D : Int} {ex ey ea eb ed e : Nat} (hF : rdF ex ey ea eb ed = true)
    (q1 : QC Tryz.prog 65 [wz x, wz k] (errI rx ex)) (q2 : QC Tryz.prog 65 [wz y, wz k] (errI ry ey)) (q3 : QC Tryz.prog 66 [wz a, wz q] (errI ra ea)) (q4 : QC Tryz.prog 67 [wz b, wz q] (errI rb eb)) (q5 : QC Tryz.prog 66 [wz d, wz q] (errI rd ed))
    (q6 : QC Tryz.prog 68 [sym ra rb rd, sym 1 0 1] (sumE A B D e)) : PC Tryz.prog 24 [exV k q r x y a b d] (ellT 0 0 0 0 0 2) :=
  PC.run mixed Tryz.func24 [.res (errI rx ex), .own 2 (.int .i64 rx) (tBlk (false || !decide ((ex : Int) = 0))), .res (errI ry ey), .own 2 (.int .i64 ry) (tBlk ((false || !decide ((ex : Int) = 0)) || !decide ((ey : Int) = 0))),
      .res (errI ra ea), .own 2 (.int .i64 ra) (tBlk (((false || !decide ((ex : Int) = 0)) || !decide ((ey : Int) = 0)) || !decide ((ea : Int) = 0))), .res (errI rb eb), .own 2 (.int .i64 rb) (tBlk ((((false || !decide ((ex : Int) = 0)) || !decide ((ey : Int) = 0)) || !decide ((ea : Int) = 0)) || !decide ((eb : Int) = 0))),
      .res (errI rd ed), .own 2 (.int .i64 rd) (tBlk (rdF ex ey ea eb ed)), .res (sumE A B D e), .tst true]
    (by simp only [List.all_cons, List.all_nil, flat_exV, Bool.and_self]) (ts1 hF)
    (qs11 q1 (take_qo 2 false rx ex) q2 (take_qo 2 (false || !decide ((ex : Int) = 0)) ry ey) q3 (take_qo 2 ((false || !decide ((ex : Int) = 0)) || !decide ((ey : Int) = 0)) ra ea) q4 (take_qo 2 (((false || !decide ((ex : Int) = 0)) || !decide ((ey : Int) = 0)) || !decide ((ea : Int) = 0)) rb eb) q5
      (take_qo 2 ((((false || !decide ((ex : Int) = 0)) || !decide ((ey : Int) = 0)) || !decide ((ea : Int) = 0)) || !decide ((eb : Int) = 0)) rd ed) q6)
    (flat_ellT _ _ _ _ _ _) rfl (by kernel_rfl)
def rdW (t : Bool) (x y a b d : Int) : Value := match t with | true => ellT x y a b d 0 | false => ellT 0 0 0 0 0 2
theorem rounded_run {k q r x y a b d rx ry ra rb rd A B D : Int} {e : Nat} {t : Bool}
    (q1 : QC Tryz.prog 65 [wz x, wz k] (errI rx 0)) (q2 : QC Tryz.prog 65 [wz y, wz k] (errI ry 0)) (q3 : QC Tryz.prog 66 [wz a, wz q] (errI ra 0)) (q4 : QC Tryz.prog 67 [wz b, wz q] (errI rb 0)) (q5 : QC Tryz.prog 66 [wz d, wz q] (errI rd 0))
    (q6 : QC Tryz.prog 68 [sym ra rb rd, sym 1 0 1] (sumE A B D e)) (q7 : QC Tryz.prog 56 [ell rx ry A B D] (.bool t)) : PC Tryz.prog 24 [exV k q r x y a b d] (rdW t rx ry A B D) := by
  have hfl : [exV k q r x y a b d].all flat = true := by simp only [List.all_cons, List.all_nil, flat_exV, Bool.and_self]
  cases t with
  | true =>
    exact PC.run mixed Tryz.func24 [.res (errI rx 0), .own 2 (.int .i64 rx) (tBlk false), .res (errI ry 0), .own 2 (.int .i64 ry) (tBlk false), .res (errI ra 0), .own 2 (.int .i64 ra) (tBlk false), .res (errI rb 0), .own 2 (.int .i64 rb) (tBlk false), .res (errI rd 0), .own 2 (.int .i64 rd) (tBlk false), .res (sumE A B D e), .res (.bool true)]
      hfl ts0 (qs12 q1 (take_qo 2 false rx 0) q2 (take_qo 2 false ry 0) q3 (take_qo 2 false ra 0) q4 (take_qo 2 false rb 0) q5 (take_qo 2 false rd 0) q6 q7) (flat_ellT _ _ _ _ _ _) rfl (by kernel_rfl)
  | false =>
    exact PC.run mixed Tryz.func24 [.res (errI rx 0), .own 2 (.int .i64 rx) (tBlk false), .res (errI ry 0), .own 2 (.int .i64 ry) (tBlk false), .res (errI ra 0), .own 2 (.int .i64 ra) (tBlk false), .res (errI rb 0), .own 2 (.int .i64 rb) (tBlk false), .res (errI rd 0), .own 2 (.int .i64 rd) (tBlk false), .res (sumE A B D e), .res (.bool false)]
      hfl ts0 (qs12 q1 (take_qo 2 false rx 0) q2 (take_qo 2 false ry 0) q3 (take_qo 2 false ra 0) q4 (take_qo 2 false rb 0) q5 (take_qo 2 false rd 0) q6 q7) (flat_ellT _ _ _ _ _ _) rfl (by kernel_rfl)
def nearI (x k : Int) : Int := (2 * x + k).fdiv (2 * k)
theorem near_qc {m : Nat} {x k : Int} (hx : Sm m x) (hk : Sm m k) (h0 : 0 < k) (hm : m + 2 < 1023 := by omega) : QC Tryz.prog 65 [wz x, wz k] (wnar (some (nearI x k))) := by
  have two : ∀ {y : Int}, Sm m y → Sm (m + 1) (2 * y) := fun {y} h => by
    have := h.add h
    rwa [show y + y = 2 * y by omega] at this
  have h1 := (two hx).add (hk.mono (k := m + 1) (by omega))
  have h2 := two hk
  have hq := qdown_pc (a := 2 * x + k) (b := 2 * k) (h1.wf (by omega)) (h2.wf (by omega))
  unfold mdV at hq
  rw [if_neg (by omega)] at hq
  unfold nearI
  obtain ⟨r, e, he⟩ := wnar_form (some ((2 * x + k).fdiv (2 * k)))
  rw [he] at hq ⊢
  exact QC.of_pc enters_near (near_run (QC.of_pc enters_check (check_pc (hk.wf (by omega)) h0)) (qshl hx (by omega)) (qadd (two hx) (hk.mono (k := m + 1) (by omega)) (by omega)) (qshl hk (by omega)) (QC.of_pc enters_qdown hq))
theorem ceil_qc {m : Nat} {a q : Int} (ha : Sm m a) (hq : Sm m q) (h0 : 0 < q) (hm : m ≤ 1023 := by omega) : QC Tryz.prog 66 [wz a, wz q] (wnar (some (cdiv a q))) := by
  have h := qup_pc (a := a) (b := q) (ha.wf hm) (hq.wf hm)
  unfold muV at h
  rw [if_neg (by omega)] at h
  obtain ⟨r, e, he⟩ := wnar_form (some (cdiv a q))
  rw [he] at h ⊢
  exact QC.of_pc enters_ceil (ceil_run (QC.of_pc enters_check (check_pc (hq.wf hm) h0)) (QC.of_pc enters_qup h))
theorem floor_qc {m : Nat} {a q : Int} (ha : Sm m a) (hq : Sm m q) (h0 : 0 < q) (hm : m ≤ 1023 := by omega) : QC Tryz.prog 67 [wz a, wz q] (wnar (some (a.fdiv q))) := by
  have h := qdown_pc (a := a) (b := q) (ha.wf hm) (hq.wf hm)
  unfold mdV at h
  rw [if_neg (by omega)] at h
  obtain ⟨r, e, he⟩ := wnar_form (some (a.fdiv q))
  rw [he] at h ⊢
  exact QC.of_pc enters_floor (floor_run (QC.of_pc enters_check (check_pc (hq.wf hm) h0)) (QC.of_pc enters_qdown h))
theorem wnar_fits {z : Int} (h : fits64 z = true) : wnar (some z) = errI z 0 := by
  unfold wnar
  simp only
  rw [h]
theorem wnar_not {z : Int} (h : fits64 z = false) : wnar (some z) = errI 0 2 := by
  unfold wnar
  simp only
  rw [h]
theorem mayL_fits {x y a b d : Int} (h : mayL x y (a + 1) b (d + 1) = true) : (fits64 x && (fits64 y && (fits64 a && (fits64 b && fits64 d)))) = true := by
  have g := mayL_iff.1 h
  simp only [Bool.and_eq_true, fits64_iff]
  omega
/-- What is rounded. -/
def rdV (x y a b d : Int) : Value := rdW (mayL x y (a + 1) b (d + 1)) x y (a + 1) b (d + 1)
theorem irounded_pc {m : Nat} {k q r x y a b d : Int} (hk : Sm m k) (hq : Sm m q) (hx : Sm m x) (hy : Sm m y) (ha : Sm m a) (hb : Sm m b) (hd : Sm m d) (k0 : 0 < k) (q0 : 0 < q) (hm : m + 2 < 1023 := by omega) :
    PC Tryz.prog 24 [exV k q r x y a b d] (rdV (nearI x k) (nearI y k) (cdiv a q) (b.fdiv q) (cdiv d q)) := by
  have n1 := near_qc hx hk k0 hm
  have n2 := near_qc hy hk k0 hm
  have n3 := ceil_qc ha hq q0 (by omega)
  have n4 := floor_qc hb hq q0 (by omega)
  have n5 := ceil_qc hd hq q0 (by omega)
  generalize nearI x k = X at *
  generalize nearI y k = Y at *
  generalize cdiv a q = A at *
  generalize b.fdiv q = B at *
  generalize cdiv d q = D at *
  cases hf : fits64 X && (fits64 Y && (fits64 A && (fits64 B && fits64 D))) with
  | true =>
    simp only [Bool.and_eq_true] at hf
    rw [wnar_fits hf.1] at n1
    rw [wnar_fits hf.2.1] at n2
    rw [wnar_fits hf.2.2.1] at n3
    rw [wnar_fits hf.2.2.2.1] at n4
    rw [wnar_fits hf.2.2.2.2] at n5
    have n6 := QC.of_pc enters_addM (addM_pc A B D 1 0 1)
    unfold rdV
    unfold sumV at n6
    rw [show mayM 1 0 1 = true by decide] at n6
    have zero : ∀ e, QC Tryz.prog 68 [sym A B D, sym 1 0 1] (sumE 0 0 0 e) → mayL X Y (A + 1) B (D + 1) = false → PC Tryz.prog 24 [exV k q r x y a b d] (rdW (mayL X Y (A + 1) B (D + 1)) X Y (A + 1) B (D + 1)) := fun e h hl => by
      rw [hl]
      have := rounded_run (t := false) (r := r) n1 n2 n3 n4 n5 h (mayL_qc X Y (a := 0) (b := 0) (d := 0) .lit .lit .lit false (by unfold mayL mayV; simp))
      exact this
    have hnot : ∀ {P : Prop}, (mayL X Y (A + 1) B (D + 1) = true → P) → ¬ P → mayL X Y (A + 1) B (D + 1) = false := fun h hn => by
      cases hl : mayL X Y (A + 1) B (D + 1) with
      | true => exact absurd (h hl) hn
      | false => rfl
    cases h1 : mayM A B D with
    | false =>
      rw [h1] at n6
      exact zero 1 n6 (hnot (P := mayM A B D = true) (fun hl => by have g := mayL_iff.1 hl; exact mayM_iff.2 (by omega)) (by rw [h1]; simp))
    | true =>
      rw [h1] at n6
      cases h2 : mayM (A + 1) (B + 0) (D + 1) with
      | false =>
        rw [h2] at n6
        exact zero 2 n6 (hnot (P := mayM (A + 1) (B + 0) (D + 1) = true) (fun hl => by have g := mayL_iff.1 hl; exact mayM_iff.2 (by omega)) (by rw [h2]; simp))
      | true =>
        rw [h2, Int.add_zero] at n6
        have g := mayM_iff.1 h1
        exact rounded_run n1 n2 n3 n4 n5 (e := 0) n6 (mayL_qc X Y (a := A + 1) (b := B) (d := D + 1) ⟨by omega, by omega⟩ ⟨by omega, by omega⟩ ⟨by omega, by omega⟩ _ rfl)
  | false =>
    have hl : mayL X Y (A + 1) B (D + 1) = false := by
      cases hl : mayL X Y (A + 1) B (D + 1) with
      | true => rw [mayL_fits hl] at hf; cases hf
      | false => rfl
    unfold rdV
    rw [hl]
    have key : ∀ z, ∃ r e, wnar (some z) = errI r e ∧ (fits64 z = false → (!decide ((e : Int) = 0)) = true) := fun z => by
      cases h : fits64 z with
      | true => exact ⟨z, 0, wnar_fits h, fun h => by cases h⟩
      | false => exact ⟨0, 2, wnar_not h, fun _ => rfl⟩
    obtain ⟨r1, e1, w1, f1⟩ := key X
    obtain ⟨r2, e2, w2, f2⟩ := key Y
    obtain ⟨r3, e3, w3, f3⟩ := key A
    obtain ⟨r4, e4, w4, f4⟩ := key B
    obtain ⟨r5, e5, w5, f5⟩ := key D
    rw [w1] at n1
    rw [w2] at n2
    rw [w3] at n3
    rw [w4] at n4
    rw [w5] at n5
    obtain ⟨A', B', D', e', h6⟩ := sumV_form r3 r4 r5 1 0 1
    have n6 := QC.of_pc enters_addM (addM_pc r3 r4 r5 1 0 1)
    rw [h6] at n6
    refine rounded_fail ?_ n1 n2 n3 n4 n5 n6
    unfold rdF
    simp only [Bool.and_eq_false_iff] at hf
    rcases hf with h | h | h | h | h
    · rw [f1 h]; simp
    · rw [f2 h]; simp
    · rw [f3 h]; simp
    · rw [f4 h]; simp
    · rw [f5 h]; simp
theorem irounded_qc {m : Nat} {k q r x y a b d : Int} (hk : Sm m k) (hq : Sm m q) (hx : Sm m x) (hy : Sm m y) (ha : Sm m a) (hb : Sm m b) (hd : Sm m d) (k0 : 0 < k) (q0 : 0 < q) (hm : m + 2 < 1023 := by omega) :
    QC Tryz.prog 24 [exV k q r x y a b d] (rdV (nearI x k) (nearI y k) (cdiv a q) (b.fdiv q) (cdiv d q)) := QC.of_pc enters_irounded (irounded_pc hk hq hx hy ha hb hd k0 q0 hm)
theorem rdV_form (x y a b d : Int) : (mayL x y (a + 1) b (d + 1) = true ∧ rdV x y a b d = ellT x y (a + 1) b (d + 1) 0) ∨ (mayL x y (a + 1) b (d + 1) = false ∧ rdV x y a b d = ellT 0 0 0 0 0 2) := by
  unfold rdV
  cases mayL x y (a + 1) b (d + 1) with
  | true => exact .inl ⟨rfl, rfl⟩
  | false => exact .inr ⟨rfl, rfl⟩

/-! ### Ellipse -/
def ellW (X Y A B D : Int) : Value := match mayL X Y (A + 1) B (D + 1) with | true => gballV X Y (A + 1) B (D + 1) 1 | false => ellT 0 0 0 0 0 2
def ellI (a b d u v z n : Int) : Value :=
  if a ≤ 0 then ellT 0 0 0 0 0 1 else if detI a b d ≤ 0 then ellT 0 0 0 0 0 1 else if sizI a b d u v z n (detI a b d) < 0 then ellT 0 0 0 0 0 3 else
    ellW (nearI (d * u - b * v) (detI a b d)) (nearI (a * v - b * u) (detI a b d)) (cdiv (sizI a b d u v z n (detI a b d) * d) (detI a b d * detI a b d)) ((-(sizI a b d u v z n (detI a b d) * b)).fdiv (detI a b d * detI a b d)) (cdiv (sizI a b d u v z n (detI a b d) * a) (detI a b d * detI a b d))
theorem signI_le0 {q : Int} : signI (some q) ≤ 0 ↔ q ≤ 0 := by
  simp only [signI]
  split
  · omega
  · split <;> omega
theorem signI_lt0 {q : Int} : signI (some q) < 0 ↔ q < 0 := by
  simp only [signI]
  split
  · omega
  · split <;> omega
theorem enters_ellI : ∀ us w, (callFunc 7 us).run Tryz.prog w = .ok (.enter 7 us) w := enters Tryz.func7 rfl (by kernel_rfl)
theorem ellI_arg1 {a b d u v z n k q r x y e f g : Int} (q1 : QC Tryz.prog 21 [infoV a b d u v z n] (exV k q r x y e f g)) (q2 : QC Tryz.prog 23 [wz a] (.int .i64 (signI (some a)))) (h : signI (some a) ≤ 0) : PC Tryz.prog 7 [infoV a b d u v z n] (ellT 0 0 0 0 0 1) :=
  PC.run mixed Tryz.func7 [.res (exV k q r x y e f g), .res (.bool false), .auto, .res (.int .i64 (signI (some a))), .tst true] (by simp only [List.all_cons, List.all_nil, flat_infoV, Bool.and_self]) (ts1 (tT h)) (qs3 q1 (isOver_qc k q r x y e f g) q2) (flat_ellT _ _ _ _ _ _) rfl (by kernel_rfl)
end Go.Proofs.YtljolfnpncjklaaGreat.W
