/-
  Package strip: the geometry of a ring: what is so far from a point of one ellipse lies between the strip's bounds.
  Package strip: what is seen, Ring, Acquire, Update.
-/
import Derived.Test.YtaibhjphgdjcmaaGreatGrow
import Derived.Test.YtaibhjphgdjcmaaGreatGold4
/-! Package strip: the geometry of a ring: what is so far from a point of one ellipse lies between the strip's bounds. -/
namespace Go.Proofs.YtaibhjphgdjcmaaGreat.W
open Go Go.Ev Go.Wide

theorem isq_of {z n : Int} (h0 : 0 ≤ n) (hz : 0 ≤ z) (h : n ≤ z * z) : ((isq n.natAbs : Nat) : Int) ≤ z := by
  have h1 := (isq_spec n.natAbs).1
  have h2 : ((isq n.natAbs * isq n.natAbs : Nat) : Int) = (isq n.natAbs : Int) * (isq n.natAbs : Int) := Int.natCast_mul _ _
  exact (sq_abs (x := (isq n.natAbs : Nat)) (n := z) hz (by omega)).2
/-- WideDown, with 0 where it refuses. -/
def dnI (z : Int) : Int := if z < 0 then 0 else (isq z.natAbs : Nat)
theorem dnI_of {z n : Int} (hz : 0 ≤ z) (h : n ≤ z * z) : dnI n ≤ z := by
  unfold dnI
  split
  · exact hz
  · exact isq_of (by omega) hz h
def sqH (p q : Int) : Int := p * p + q * q
/-- The strip's bounds. -/
def ringL (h w k m : Int) : Int := if h - w ≤ 0 then h - w else max (h - w) (dnI (h * (m * m) - k * k))
def ringU (h w R : Int) : Int := min (h + w) (csq (h * (R * R)).natAbs : Nat)
end Go.Proofs.YtaibhjphgdjcmaaGreat.W
/-! Package strip: what is seen, Ring, Acquire, Update. -/
namespace Go.Proofs.YtaibhjphgdjcmaaGreat.W
open Go Go.Ev Go.Wide

/-! ### A distance -/
def measB (e n : El) (lo hi : Int) : Bool := e.may && (n.may && (decide (0 ≤ lo) && (decide (lo ≤ hi) && decide (hi ≤ 4194304))))
theorem measB_iff {e n : El} {lo hi : Int} : measB e n lo hi = true ↔ e.may = true ∧ n.may = true ∧ 0 ≤ lo ∧ lo ≤ hi ∧ hi ≤ 4194304 := by simp [measB]
theorem enters_meas : ∀ us w, (callFunc 21 us).run Tryz.prog w = .ok (.enter 21 us) w := enters Tryz.func21 rfl (by kernel_rfl)
theorem meas_pc {e n : El} (he : e.Ok) (hn : n.Ok) (lo hi : Int) : PC Tryz.prog 21 [e.val, n.val, .int .i64 lo, .int .i64 hi] (.bool (measB e n lo hi)) := by
  have hfl : [e.val, n.val, .int .i64 lo, .int .i64 hi].all flat = true := rfl
  unfold measB
  cases h1 : e.may with
  | false => exact PC.run mixed Tryz.func21 [.res (.bool false)] hfl ts0 (qs1 (emay_qc he _ h1)) rfl rfl (by kernel_rfl)
  | true =>
    cases h2 : n.may with
    | false => exact PC.run mixed Tryz.func21 [.res (.bool true), .res (.bool false)] hfl ts0 (qs2 (emay_qc he _ h1) (emay_qc hn _ h2)) rfl rfl (by kernel_rfl)
    | true =>
      by_cases c1 : 0 ≤ lo
      · rw [decide_eq_true c1]
        by_cases c2 : lo ≤ hi
        · rw [decide_eq_true c2]
          exact PC.run mixed Tryz.func21 [.res (.bool true), .res (.bool true), .auto, .tst true, .tst true] (v := .bool (decide (hi ≤ 4194304))) hfl (ts2 (tT c1) (tT c2)) (qs2 (emay_qc he _ h1) (emay_qc hn _ h2)) rfl (by simp only [Bool.true_and]) (by kernel_rfl)
        · rw [decide_eq_false c2]
          exact PC.run mixed Tryz.func21 [.res (.bool true), .res (.bool true), .auto, .tst true, .tst false] hfl (ts2 (tT c1) (tF c2)) (qs2 (emay_qc he _ h1) (emay_qc hn _ h2)) rfl rfl (by kernel_rfl)
      · rw [decide_eq_false c1]
        exact PC.run mixed Tryz.func21 [.res (.bool true), .res (.bool true), .auto, .tst false] hfl (ts1 (tF c1)) (qs2 (emay_qc he _ h1) (emay_qc hn _ h2)) rfl rfl (by kernel_rfl)
theorem meas_qc {e n : El} (he : e.Ok) (hn : n.Ok) (lo hi : Int) (r : Bool) (h : measB e n lo hi = r) : QC Tryz.prog 21 [e.val, n.val, .int .i64 lo, .int .i64 hi] (.bool r) := h ▸ QC.of_pc enters_meas (meas_pc he hn lo hi)

/-! ### What is seen -/
def El.rad (e : El) : Int := radI e.x e.y e.a e.b e.d
def El.al (e : El) (p q : Int) : Int := (csq (quadI e.a e.b e.d p q).natAbs : Nat)
theorem rad_qc {e : El} (h : e.Ok) : QC Tryz.prog 23 [e.val] (.int .i64 e.rad) := radius_qc e.x e.y h.a h.b h.d
theorem rad_bd {e : El} (h : e.may = true) : 1 ≤ e.rad ∧ e.rad ≤ 16777216 := by
  obtain ⟨h1, h2, _, _, _, h6⟩ := rad_facts (x := e.x) (y := e.y) h
  unfold El.rad
  rw [h6]
  exact ⟨by omega, h2⟩
theorem al_bd {e : El} (h : e.may = true) {p q : Int} (hw : within p q 16777216 = true) : 0 ≤ quadI e.a e.b e.d p q ∧ 0 ≤ e.al p q ∧ e.al p q ≤ 281474976710656 := by
  obtain ⟨h1, h2⟩ := along_facts (x := e.x) (y := e.y) h hw
  unfold El.al
  exact ⟨h1, by omega, by omega⟩
theorem al_qc {e : El} (he : e.Ok) (h : e.may = true) {p q : Int} (hw : within p q 16777216 = true) (r : Int) (hr : e.al p q = r) : QC Tryz.prog 49 [e.val, pt p q] (errI r 0) := by
  subst hr
  have hp := along_pc (x := e.x) (y := e.y) (p := p) (q := q) he.a he.b he.d fun h1 h2 => by
    obtain ⟨g1, g2⟩ := along_facts h1 h2
    exact ⟨g1, by omega⟩
  unfold alongV at hp
  rw [show mayL e.x e.y e.a e.b e.d = true from h, hw] at hp
  exact QC.of_pc enters_along hp
def viewV (s w c : Int) : Value := .agg #[.int .i64 s, .int .i64 w, .int .i64 c]
theorem enters_viewOf : ∀ us w, (callFunc 22 us).run Tryz.prog w = .ok (.enter 22 us) w := enters Tryz.func22 rfl (by kernel_rfl)
theorem viewOf_run {e : El} {p q m w c : Int} (hm : IntKind.i64.wrap (0 - q) = m) (q1 : QC Tryz.prog 49 [e.val, pt p q] (errI w 0)) (q2 : QC Tryz.prog 49 [e.val, pt m p] (errI c 0)) :
    PC Tryz.prog 22 [e.val, pt p q] (viewV (IntKind.i64.wrap (IntKind.i64.wrap (p * p) + IntKind.i64.wrap (q * q))) w c) := by
  subst hm
  exact PC.run mixed Tryz.func22 [.res (errI w 0), .res (errI c 0)] rfl ts0 (qs2 q1 q2) rfl rfl (by kernel_rfl)
theorem viewOf_qc {e : El} (he : e.Ok) (h : e.may = true) {p q : Int} (hp : -8388608 ≤ p ∧ p ≤ 8388608) (hq : -8388608 ≤ q ∧ q ≤ 8388608) : QC Tryz.prog 22 [e.val, pt p q] (viewV (sqH p q) (e.al p q) (e.al (-q) p)) := by
  have w1 : within p q 16777216 = true := within_iff.2 (by omega)
  have w2 : within (-q) p 16777216 = true := within_iff.2 (by omega)
  have b1 := sq_le hp
  have b2 := sq_le hq
  have n1 := sq_nn p
  have n2 := sq_nn q
  have hr := viewOf_run (e := e) (p := p) (q := q) (m := -q) (by rw [wrapS (by omega)]; omega) (al_qc he h w1 _ rfl) (al_qc he h w2 _ rfl)
  rw [wrapS (z := p * p) (by omega), wrapS (z := q * q) (by omega), wrapS (by omega)] at hr
  exact QC.of_pc enters_viewOf hr
theorem quad_low (h m k : Int) : quadI h 0 (-1) m k = h * (m * m) - k * k := by rw [quadI_eq]; grind
theorem quad_up (h r : Int) : quadI h 0 0 r 0 = h * (r * r) := by rw [quadI_eq]; grind
theorem enters_vleast : ∀ us w, (callFunc 24 us).run Tryz.prog w = .ok (.enter 24 us) w := enters Tryz.func24 rfl (by kernel_rfl)
theorem enters_vmost : ∀ us w, (callFunc 25 us).run Tryz.prog w = .ok (.enter 25 us) w := enters Tryz.func25 rfl (by kernel_rfl)
theorem vleast_run1 {s w c m l : Int} (hl : IntKind.i64.wrap (s - w) = l) (h0 : l ≤ 0) : PC Tryz.prog 24 [viewV s w c, .int .i64 m] (.int .i64 l) :=
  PC.run mixed Tryz.func24 [.is 6 (.int .i64 l), .tst true] rfl (ts1 (tT h0)) (qs1 (congrArg (Value.int .i64) hl)) rfl rfl (by kernel_rfl)
theorem vleast_run2 {s w c m l z D : Int} {e : Nat} (hl : IntKind.i64.wrap (s - w) = l) (h0 : ¬ l ≤ 0) (q1 : QC Tryz.prog 51 [sym s 0 (-1), pt m c] (wz z)) (q2 : QC Tryz.prog 52 [wz z] (errI D e)) :
    PC Tryz.prog 24 [viewV s w c, .int .i64 m] (.int .i64 (if D > l then D else l)) :=
  PC.run mixed Tryz.func24 [.is 6 (.int .i64 l), .tst false, .res (wz z), .res (errI D e)] rfl (ts1 (tF h0)) (qs3 (congrArg (Value.int .i64) hl) q1 q2) rfl rfl (by kernel_rfl)
theorem vmost_run {s w c r t z U : Int} (ht : IntKind.i64.wrap (s + w) = t) (q1 : QC Tryz.prog 51 [sym s 0 0, pt r 0] (wz z)) (q2 : QC Tryz.prog 53 [wz z] (errI U 0)) :
    PC Tryz.prog 25 [viewV s w c, .int .i64 r] (.int .i64 (if U < t then U else t)) :=
  PC.run mixed Tryz.func25 [.res (wz z), .res (errI U 0), .is 10 (.int .i64 t)] rfl ts0 (qs3 q1 q2 (congrArg (Value.int .i64) ht)) rfl rfl (by kernel_rfl)
theorem max_if {D l : Int} : (if D > l then D else l) = max l D := by split <;> omega
theorem min_if {U t : Int} : (if U < t then U else t) = min t U := by split <;> omega
theorem down_qc {z : Int} (hz : WF (some z)) (hk : z ≤ 9223372036854775807 * 9223372036854775807) : ∃ e : Nat, QC Tryz.prog 52 [wz z] (errI (dnI z) e) := by
  unfold dnI
  by_cases h : z < 0
  · rw [if_pos h]
    exact ⟨1, QC.of_pc enters_wideDown (wideDown_neg h hz)⟩
  · rw [if_neg h]
    have := isq_of (z := 9223372036854775807) (n := z) (by omega) (by omega) hk
    exact ⟨0, wideDown_qc (by omega) hz (by omega)⟩
/-- The bounds within which a ring is reckoned. -/
structure Seen (s w c : Int) : Prop where
  s : 0 ≤ s ∧ s ≤ 140737488355328
  w : 0 ≤ w ∧ w ≤ 281474976710656
  c : 0 ≤ c ∧ c ≤ 281474976710656
theorem vleast_qc {s w c m : Int} (h : Seen s w c) (hm : 0 ≤ m ∧ m ≤ 4194304) (L : Int) (hL : ringL s w c m = L) : QC Tryz.prog 24 [viewV s w c, .int .i64 m] (.int .i64 L) := by
  have h1 := h.s
  have h2 := h.w
  have h3 := h.c
  subst hL
  refine QC.of_pc enters_vleast ?_
  unfold ringL
  by_cases h0 : s - w ≤ 0
  · rw [if_pos h0]
    exact vleast_run1 (wrapS (by omega)) h0
  · rw [if_neg h0]
    have i1 : I64 s := ⟨by omega, by omega⟩
    have i2 : I64 m := ⟨by omega, by omega⟩
    have i3 : I64 c := ⟨by omega, by omega⟩
    have i4 : I64 0 := ⟨by omega, by omega⟩
    have i5 : I64 (-1) := ⟨by omega, by omega⟩
    have q1 := QC.of_pc enters_quadM (quadM_pc i1 i4 i5 i2 i3)
    have hz := (quadI_sm i1 i4 i5 i2 i3).wf (by omega)
    rw [quad_low] at q1 hz
    have m2 : m * m ≤ 4194304 * 4194304 := sq_le (n := 4194304) ⟨by omega, hm.2⟩
    have s2 : s * (m * m) ≤ 140737488355328 * (4194304 * 4194304) := Int.mul_le_mul h1.2 m2 (sq_nn m) (by omega)
    have c2 := sq_nn c
    obtain ⟨e, q2⟩ := down_qc hz (by omega)
    rw [← max_if]
    exact vleast_run2 (wrapS (by omega)) h0 q1 q2
theorem up_le {z K : Int} (h0 : 0 ≤ K) (hz : 0 ≤ z) (h : z ≤ K * K) : csq z.natAbs ≤ K.natAbs := by
  refine csq_min ?_
  have : ((K.natAbs * K.natAbs : Nat) : Int) = K * K := by rw [Int.natCast_mul, Int.natAbs_of_nonneg h0]
  omega
theorem ringU_in {s r : Int} (hs : 0 ≤ s ∧ s ≤ 140737488355328) (hr : 0 ≤ r ∧ r ≤ 20971520) : 0 ≤ s * (r * r) ∧ csq (s * (r * r)).natAbs ≤ 562949953421312 := by
  have m2 : r * r ≤ 20971520 * 20971520 := sq_le (n := 20971520) ⟨by omega, hr.2⟩
  have s2 : s * (r * r) ≤ 140737488355328 * (20971520 * 20971520) := Int.mul_le_mul hs.2 m2 (sq_nn r) (by omega)
  have s0 : 0 ≤ s * (r * r) := Int.mul_nonneg hs.1 (sq_nn r)
  have := up_le (K := 562949953421312) (by omega) s0 (by omega)
  exact ⟨s0, by omega⟩
theorem vmost_qc {s w c r : Int} (h : Seen s w c) (hr : 0 ≤ r ∧ r ≤ 20971520) (U : Int) (hU : ringU s w r = U) : QC Tryz.prog 25 [viewV s w c, .int .i64 r] (.int .i64 U) := by
  have h1 := h.s
  have h2 := h.w
  subst hU
  refine QC.of_pc enters_vmost ?_
  unfold ringU
  have i1 : I64 s := ⟨by omega, by omega⟩
  have i2 : I64 r := ⟨by omega, by omega⟩
  have i4 : I64 0 := ⟨by omega, by omega⟩
  have q1 := QC.of_pc enters_quadM (quadM_pc i1 i4 i4 i2 i4)
  have hz := (quadI_sm i1 i4 i4 i2 i4).wf (by omega)
  rw [quad_up] at q1 hz
  obtain ⟨s0, s1⟩ := ringU_in h1 hr
  have q2 := wideUp_qc s0 hz (by omega)
  rw [← min_if]
  exact vmost_run (wrapS (by omega)) q1 q2

/-! ### Ring -/
def rgX (e n : El) : Int := e.x - n.x
def rgY (e n : El) : Int := e.y - n.y
def rgL (e n : El) (lo : Int) : Int := ringL (sqH (rgX e n) (rgY e n)) (e.al (rgX e n) (rgY e n)) (e.al (-rgY e n) (rgX e n)) (max (lo - n.rad) 0)
def rgU (e n : El) (hi : Int) : Int := ringU (sqH (rgX e n) (rgY e n)) (e.al (rgX e n) (rgY e n)) (hi + n.rad)
def rgS (e n : El) (lo hi : Int) : Sp := ⟨n.x, n.y, rgX e n, rgY e n, rgL e n lo, if rgU e n hi = rgL e n lo then rgU e n hi + 1 else rgU e n hi⟩
structure Sr where
  s : Sp
  n : Nat
def Sr.val (r : Sr) : Value := .tuple #[r.s.val, .int .i64 r.n]
def Sp.zero : Sp := ⟨0, 0, 0, 0, 0, 0⟩
def ringV (e n : El) (lo hi : Int) : Sr := match measB e n lo hi with
  | false => ⟨.zero, 1⟩
  | true => match isO (rgX e n) (rgY e n) with
    | true => ⟨.zero, 7⟩
    | false => match decide (rgU e n hi < rgL e n lo) with
      | true => ⟨.zero, 3⟩
      | false => ⟨rgS e n lo hi, 0⟩
theorem rg_seen {e n : El} (he : e.may = true) (hn : n.may = true) : (-8388608 ≤ rgX e n ∧ rgX e n ≤ 8388608) ∧ (-8388608 ≤ rgY e n ∧ rgY e n ≤ 8388608) ∧ Seen (sqH (rgX e n) (rgY e n)) (e.al (rgX e n) (rgY e n)) (e.al (-rgY e n) (rgX e n)) := by
  have g1 := mayL_iff.1 (show mayL e.x e.y e.a e.b e.d = true from he)
  have g2 := mayL_iff.1 (show mayL n.x n.y n.a n.b n.d = true from hn)
  have hx : -8388608 ≤ rgX e n ∧ rgX e n ≤ 8388608 := by unfold rgX; omega
  have hy : -8388608 ≤ rgY e n ∧ rgY e n ≤ 8388608 := by unfold rgY; omega
  have b1 := sq_le hx
  have b2 := sq_le hy
  have n1 := sq_nn (rgX e n)
  have n2 := sq_nn (rgY e n)
  refine ⟨hx, hy, ⟨by unfold sqH; omega, (al_bd he (within_iff.2 (by omega))).2, (al_bd he (within_iff.2 (by omega))).2⟩⟩
theorem enters_ring : ∀ us w, (callFunc 8 us).run Tryz.prog w = .ok (.enter 8 us) w := enters Tryz.func8 rfl (by kernel_rfl)
def srT (s : Sp) (e : Nat) : Value := (Sr.mk s e).val
theorem ring_none {e n : El} {lo hi : Int} (q0 : QC Tryz.prog 21 [e.val, n.val, .int .i64 lo, .int .i64 hi] (.bool true)) (hx : IntKind.i64.wrap (e.x - n.x) = 0) (hy : IntKind.i64.wrap (e.y - n.y) = 0) :
    PC Tryz.prog 8 [e.val, n.val, .int .i64 lo, .int .i64 hi] (srT .zero 7) :=
  PC.run mixed Tryz.func8 [.res (.bool true), .is 8 (.int .i64 0), .is 6 (.int .i64 0)] rfl ts0 (qs3 q0 (congrArg (Value.int .i64) hx) (congrArg (Value.int .i64) hy)) rfl rfl (by kernel_rfl)
section
variable {e n : El} {lo hi hx hy s w c r m l R L U : Int} (q0 : QC Tryz.prog 21 [e.val, n.val, .int .i64 lo, .int .i64 hi] (.bool true)) (ex : IntKind.i64.wrap (e.x - n.x) = hx) (ey : IntKind.i64.wrap (e.y - n.y) = hy)
  (ho : isO hx hy = false) (q1 : QC Tryz.prog 22 [e.val, pt hx hy] (viewV s w c)) (q2 : QC Tryz.prog 23 [n.val] (.int .i64 r)) (el : IntKind.i64.wrap (lo - r) = l) (em : (if 0 > l then 0 else l) = m)
  (q3 : QC Tryz.prog 24 [viewV s w c, .int .i64 m] (.int .i64 L)) (eR : IntKind.i64.wrap (hi + r) = R) (q4 : QC Tryz.prog 25 [viewV s w c, .int .i64 R] (.int .i64 U))
include q0 ex ey ho q1 q2 el em q3 eR q4
theorem ring_empty (h : U < L) : PC Tryz.prog 8 [e.val, n.val, .int .i64 lo, .int .i64 hi] (srT .zero 3) :=
  PC.run mixed Tryz.func8 [.res (.bool true), .is 8 (.int .i64 hx), .is 6 (.int .i64 hy), .tst false, .res (viewV s w c), .res (.int .i64 r), .is 10 (.int .i64 l), .is 0 (.int .i64 m), .res (.int .i64 L), .is 4 (.int .i64 R), .res (.int .i64 U), .tst true]
    rfl (ts2 (show (!isO hx hy) = true by rw [ho]; rfl) (tT h)) (qs10 q0 (congrArg (Value.int .i64) ex) (congrArg (Value.int .i64) ey) q1 q2 (congrArg (Value.int .i64) el) (congrArg (Value.int .i64) em) q3 (congrArg (Value.int .i64) eR) q4) rfl rfl (by kernel_rfl)
theorem ring_wide (h : ¬ U < L) (h2 : ¬ U = L) : PC Tryz.prog 8 [e.val, n.val, .int .i64 lo, .int .i64 hi] (srT ⟨n.x, n.y, hx, hy, L, U⟩ 0) :=
  PC.run mixed Tryz.func8 [.res (.bool true), .is 8 (.int .i64 hx), .is 6 (.int .i64 hy), .tst false, .res (viewV s w c), .res (.int .i64 r), .is 10 (.int .i64 l), .is 0 (.int .i64 m), .res (.int .i64 L), .is 4 (.int .i64 R), .res (.int .i64 U), .tst false, .tst false]
    rfl (ts3 (show (!isO hx hy) = true by rw [ho]; rfl) (tF h) (tF h2)) (qs10 q0 (congrArg (Value.int .i64) ex) (congrArg (Value.int .i64) ey) q1 q2 (congrArg (Value.int .i64) el) (congrArg (Value.int .i64) em) q3 (congrArg (Value.int .i64) eR) q4) rfl rfl (by kernel_rfl)
theorem ring_thin {U' : Int} (h : ¬ U < L) (h2 : U = L) (eU : IntKind.i64.wrap (U + 1) = U') : PC Tryz.prog 8 [e.val, n.val, .int .i64 lo, .int .i64 hi] (srT ⟨n.x, n.y, hx, hy, L, U'⟩ 0) :=
  PC.run mixed Tryz.func8 [.res (.bool true), .is 8 (.int .i64 hx), .is 6 (.int .i64 hy), .tst false, .res (viewV s w c), .res (.int .i64 r), .is 10 (.int .i64 l), .is 0 (.int .i64 m), .res (.int .i64 L), .is 4 (.int .i64 R), .res (.int .i64 U), .tst false, .tst true, .is 2 (.int .i64 U')]
    rfl (ts3 (show (!isO hx hy) = true by rw [ho]; rfl) (tF h) (tT h2)) (qs11 q0 (congrArg (Value.int .i64) ex) (congrArg (Value.int .i64) ey) q1 q2 (congrArg (Value.int .i64) el) (congrArg (Value.int .i64) em) q3 (congrArg (Value.int .i64) eR) q4 (congrArg (Value.int .i64) eU)) rfl rfl (by kernel_rfl)
end
theorem dnI_le {z K : Int} (h0 : 0 ≤ K) (h : z ≤ K * K) : 0 ≤ dnI z ∧ dnI z ≤ K := by
  refine ⟨?_, dnI_of h0 h⟩
  unfold dnI
  split <;> omega
theorem ringL_bd {s w c m : Int} (h : Seen s w c) (hm : 0 ≤ m ∧ m ≤ 4194304) : -281474976710656 ≤ ringL s w c m ∧ ringL s w c m ≤ 140737488355328 := by
  have h1 := h.s
  have h2 := h.w
  unfold ringL
  split
  · omega
  · have m2 : m * m ≤ 4194304 * 4194304 := sq_le (n := 4194304) ⟨by omega, hm.2⟩
    have s2 : s * (m * m) ≤ 140737488355328 * (4194304 * 4194304) := Int.mul_le_mul h1.2 m2 (sq_nn m) (by omega)
    have c2 := sq_nn c
    have := dnI_le (z := s * (m * m) - c * c) (K := 70368744177664) (by omega) (by omega)
    omega
theorem ringU_bd {s w c R : Int} (h : Seen s w c) (hr : 0 ≤ R ∧ R ≤ 20971520) : 0 ≤ ringU s w R ∧ ringU s w R ≤ 562949953421312 := by
  have h1 := h.s
  have h2 := h.w
  have h3 := (ringU_in h1 hr).2
  unfold ringU
  omega
theorem rgL_bd {e n : El} {lo hi : Int} (h : measB e n lo hi = true) : -281474976710656 ≤ rgL e n lo ∧ rgL e n lo ≤ 140737488355328 := by
  obtain ⟨he, hn, h0, h1, h2⟩ := measB_iff.1 h
  have hr := rad_bd hn
  exact ringL_bd (rg_seen he hn).2.2 (by omega)
theorem rgU_bd {e n : El} {lo hi : Int} (h : measB e n lo hi = true) : 0 ≤ rgU e n hi ∧ rgU e n hi ≤ 562949953421312 := by
  obtain ⟨he, hn, h0, h1, h2⟩ := measB_iff.1 h
  have hr := rad_bd hn
  exact ringU_bd (rg_seen he hn).2.2 (by omega)
theorem ring_pc {e n : El} (he : e.Ok) (hn : n.Ok) (lo hi : Int) : PC Tryz.prog 8 [e.val, n.val, .int .i64 lo, .int .i64 hi] (ringV e n lo hi).val := by
  unfold ringV
  cases h1 : measB e n lo hi with
  | false => exact PC.run mixed Tryz.func8 [.res (.bool false)] rfl ts0 (qs1 (meas_qc he hn lo hi _ h1)) rfl rfl (by kernel_rfl)
  | true =>
    have q0 := meas_qc he hn lo hi _ h1
    obtain ⟨m1, m2, l0, l1, l2⟩ := measB_iff.1 h1
    obtain ⟨bx, by', sn⟩ := rg_seen m1 m2
    have hr := rad_bd m2
    have ex : IntKind.i64.wrap (e.x - n.x) = rgX e n := wrapS (show -4611686018427387904 ≤ rgX e n ∧ rgX e n ≤ 4611686018427387904 by omega)
    have ey : IntKind.i64.wrap (e.y - n.y) = rgY e n := wrapS (show -4611686018427387904 ≤ rgY e n ∧ rgY e n ≤ 4611686018427387904 by omega)
    have eL : rgL e n lo = ringL (sqH (rgX e n) (rgY e n)) (e.al (rgX e n) (rgY e n)) (e.al (-rgY e n) (rgX e n)) (max (lo - n.rad) 0) := rfl
    have eU : rgU e n hi = ringU (sqH (rgX e n) (rgY e n)) (e.al (rgX e n) (rgY e n)) (hi + n.rad) := rfl
    have bU := rgU_bd h1
    have q1 := viewOf_qc he m1 bx by'
    cases h2 : isO (rgX e n) (rgY e n) with
    | true =>
      simp only [isO, Bool.and_eq_true, decide_eq_true_eq] at h2
      exact ring_none q0 (ex.trans h2.1) (ey.trans h2.2.1)
    | false =>
      have em : (if 0 > lo - n.rad then 0 else lo - n.rad) = max (lo - n.rad) 0 := by split <;> omega
      have q3 := vleast_qc sn (m := max (lo - n.rad) 0) (by omega) _ eL.symm
      have q4 := vmost_qc sn (r := hi + n.rad) (by omega) _ eU.symm
      by_cases h3 : rgU e n hi < rgL e n lo
      · rw [decide_eq_true h3]
        exact ring_empty q0 ex ey h2 q1 (rad_qc hn) (wrapS (by omega)) em q3 (wrapS (by omega)) q4 h3
      · rw [decide_eq_false h3]
        unfold rgS
        by_cases h4 : rgU e n hi = rgL e n lo
        · rw [if_pos h4]
          exact ring_thin q0 ex ey h2 q1 (rad_qc hn) (wrapS (by omega)) em q3 (wrapS (by omega)) q4 h3 h4 (wrapS (by omega))
        · rw [if_neg h4]
          exact ring_wide q0 ex ey h2 q1 (rad_qc hn) (wrapS (by omega)) em q3 (wrapS (by omega)) q4 h3 h4
theorem ring_qc {e n : El} (he : e.Ok) (hn : n.Ok) (lo hi : Int) (v : Sr) (h : ringV e n lo hi = v) : QC Tryz.prog 8 [e.val, n.val, .int .i64 lo, .int .i64 hi] v.val := h ▸ QC.of_pc enters_ring (ring_pc he hn lo hi)
theorem rgS_may {e n : El} {lo hi : Int} (h : measB e n lo hi = true) (h2 : isO (rgX e n) (rgY e n) = false) (h3 : ¬ rgU e n hi < rgL e n lo) : (rgS e n lo hi).may = true := by
  obtain ⟨m1, m2, _⟩ := measB_iff.1 h
  obtain ⟨bx, by', _⟩ := rg_seen m1 m2
  have b1 := rgL_bd h
  have b2 := rgU_bd h
  have g2 := mayL_iff.1 (show mayL n.x n.y n.a n.b n.d = true from m2)
  have ho : ¬ (rgX e n = 0 ∧ rgY e n = 0) := fun ⟨h4, h5⟩ => by rw [h4, h5] at h2; cases h2
  show mayS n.x n.y (rgX e n) (rgY e n) (rgL e n lo) (if rgU e n hi = rgL e n lo then rgU e n hi + 1 else rgU e n hi) = true
  refine mayS_iff.2 ⟨by omega, by omega, ho, by omega, ?_, ?_⟩ <;> split <;> omega

/-! ### Acquire, Update -/
def El.ball (n : El) (r : Int) : El := ⟨n.x, n.y, r * r, 0, r * r⟩
def acqV (n : El) (hi : Int) : Mk := match n.may && (decide (0 ≤ hi) && decide (hi ≤ 4194304)) with
  | false => ⟨.zero, 1⟩
  | true => match decide (hi + n.rad ≤ 4194304) with
    | false => ⟨.zero, 2⟩
    | true => ⟨n.ball (hi + n.rad), 0⟩
theorem enters_acq : ∀ us w, (callFunc 12 us).run Tryz.prog w = .ok (.enter 12 us) w := enters Tryz.func12 rfl (by kernel_rfl)
theorem acq_over {n : El} {hi r R : Int} (q0 : QC Tryz.prog 17 [n.val] (.bool true)) (h0 : ¬ hi < 0) (h1 : ¬ hi > 4194304) (q1 : QC Tryz.prog 23 [n.val] (.int .i64 r)) (eR : IntKind.i64.wrap (hi + r) = R) (h2 : R > 4194304) :
    PC Tryz.prog 12 [n.val, .int .i64 hi] (Mk.mk .zero 2).val :=
  PC.run mixed Tryz.func12 [.res (.bool true), .auto, .tst false, .tst false, .res (.int .i64 r), .is 1 (.int .i64 R), .tst true] rfl (ts3 (tF h0) (tF h1) (tT h2)) (qs3 q0 q1 (congrArg (Value.int .i64) eR)) rfl rfl (by kernel_rfl)
theorem acq_ok {n : El} {hi r R : Int} {m : Mk} (q0 : QC Tryz.prog 17 [n.val] (.bool true)) (h0 : ¬ hi < 0) (h1 : ¬ hi > 4194304) (q1 : QC Tryz.prog 23 [n.val] (.int .i64 r)) (eR : IntKind.i64.wrap (hi + r) = R) (h2 : ¬ R > 4194304)
    (em : (if 1 > R then 1 else R) = R) (q2 : QC Tryz.prog 20 [pt n.x n.y, .int .i64 R] m.val) : PC Tryz.prog 12 [n.val, .int .i64 hi] m.val :=
  PC.run mixed Tryz.func12 [.res (.bool true), .auto, .tst false, .tst false, .res (.int .i64 r), .is 1 (.int .i64 R), .tst false, .is 3 (.int .i64 R), .res m.val] rfl (ts3 (tF h0) (tF h1) (tF h2)) (qs5 q0 q1 (congrArg (Value.int .i64) eR) (congrArg (Value.int .i64) em) q2) rfl rfl (by kernel_rfl)
theorem acq_pc {n : El} (hn : n.Ok) (hi : Int) : PC Tryz.prog 12 [n.val, .int .i64 hi] (acqV n hi).val := by
  have hfl : [n.val, .int .i64 hi].all flat = true := rfl
  unfold acqV
  cases h1 : n.may with
  | false => exact PC.run mixed Tryz.func12 [.res (.bool false)] hfl ts0 (qs1 (emay_qc hn _ h1)) rfl rfl (by kernel_rfl)
  | true =>
    by_cases h2 : 0 ≤ hi
    · rw [decide_eq_true h2]
      by_cases h3 : hi ≤ 4194304
      · rw [decide_eq_true h3]
        have hr := rad_bd h1
        have g := mayL_iff.1 (show mayL n.x n.y n.a n.b n.d = true from h1)
        by_cases h4 : hi + n.rad ≤ 4194304
        · rw [decide_eq_true h4]
          have hb : ballV n.x n.y (hi + n.rad) = (Mk.mk (n.ball (hi + n.rad)) 0).val := by
            unfold ballV
            rw [show mayP n.x n.y = true from within_iff.2 (by omega), show mayR (hi + n.rad) = true from mayR_iff.2 (by omega)]
            rfl
          exact acq_ok (emay_qc hn _ h1) (by omega) (by omega) (rad_qc hn) (wrapS (by omega)) (by omega) (if_neg (by omega)) (ball_qc n.x n.y _ _ hb)
        · rw [decide_eq_false h4]
          exact acq_over (emay_qc hn _ h1) (by omega) (by omega) (rad_qc hn) (wrapS (by omega)) (by omega)
      · rw [decide_eq_false h3]
        exact PC.run mixed Tryz.func12 [.res (.bool true), .auto, .tst false, .tst true] hfl (ts2 (tF (p := hi < 0) (by omega)) (tT (p := hi > 4194304) (by omega))) (qs1 (emay_qc hn _ h1)) rfl rfl (by kernel_rfl)
    · rw [decide_eq_false h2]
      exact PC.run mixed Tryz.func12 [.res (.bool true), .auto, .tst true] hfl (ts1 (tT (p := hi < 0) (by omega))) (qs1 (emay_qc hn _ h1)) rfl rfl (by kernel_rfl)
theorem acq_qc {n : El} (hn : n.Ok) (hi : Int) (m : Mk) (h : acqV n hi = m) : QC Tryz.prog 12 [n.val, .int .i64 hi] m.val := h ▸ QC.of_pc enters_acq (acq_pc hn hi)
theorem ball_ok {n : El} {r : Int} (hn : n.may = true) (h : 1 ≤ r ∧ r ≤ 4194304) : (n.ball r).may = true := by
  have g := mayL_iff.1 (show mayL n.x n.y n.a n.b n.d = true from hn)
  show mayL n.x n.y (r * r) 0 (r * r) = true
  exact ball_may (within_iff.2 (by omega)) (mayR_iff.2 h)
/-- What remains within the ball. -/
def nearV (e n : El) (hi : Int) : Mk := match acqV n hi with
  | ⟨b, 0⟩ => gFuse e b
  | ⟨_, _ + 1⟩ => ⟨e, 0⟩
theorem enters_wball : ∀ us w, (callFunc 36 us).run Tryz.prog w = .ok (.enter 36 us) w := enters Tryz.func36 rfl (by kernel_rfl)
theorem acqV_cases (n : El) (hi : Int) : acqV n hi = ⟨.zero, 1⟩ ∨ acqV n hi = ⟨.zero, 2⟩ ∨ (n.may = true ∧ 0 ≤ hi ∧ hi ≤ 4194304 ∧ hi + n.rad ≤ 4194304 ∧ acqV n hi = ⟨n.ball (hi + n.rad), 0⟩ ∧ (n.ball (hi + n.rad)).may = true) := by
  unfold acqV
  split
  · exact .inl rfl
  · rename_i h
    simp only [Bool.and_eq_true, decide_eq_true_eq] at h
    have hr := rad_bd h.1
    split
    · exact .inr (.inl rfl)
    · rename_i h2
      have h3 := of_decide_eq_true h2
      exact .inr (.inr ⟨h.1, h.2.1, h.2.2, h3, rfl, ball_ok h.1 (by omega)⟩)
theorem near_pc {e n : El} (he : e.Ok) (hn : n.Ok) (hi : Int) : PC Tryz.prog 36 [e.val, n.val, .int .i64 hi] (nearV e n hi).val := by
  unfold nearV
  rcases acqV_cases n hi with h | h | ⟨h0, h1, h2, h3, h, hb⟩
  · rw [h]
    exact PC.run mixed Tryz.func36 [.res (Mk.mk .zero 1).val] rfl ts0 (qs1 (acq_qc hn hi _ h)) rfl rfl (by kernel_rfl)
  · rw [h]
    exact PC.run mixed Tryz.func36 [.res (Mk.mk .zero 2).val] rfl ts0 (qs1 (acq_qc hn hi _ h)) rfl rfl (by kernel_rfl)
  · rw [h]
    exact PC.run mixed Tryz.func36 [.res (Mk.mk (n.ball (hi + n.rad)) 0).val, .res (gFuse e (n.ball (hi + n.rad))).val] rfl ts0 (qs2 (acq_qc hn hi _ h) (gFuse_qc he (may_ok hb) _ rfl)) rfl rfl (by kernel_rfl)
theorem wball_qc {e n : El} (he : e.Ok) (hn : n.Ok) (hi : Int) (m : Mk) (h : nearV e n hi = m) : QC Tryz.prog 36 [e.val, n.val, .int .i64 hi] m.val := h ▸ QC.of_pc enters_wball (near_pc he hn hi)
/-- What remains within the ring. -/
def inRing (e n : El) (lo hi : Int) : Mk := match measB e n lo hi with
  | false => ⟨e, 0⟩
  | true => match isO (rgX e n) (rgY e n) with
    | true => ⟨e, 0⟩
    | false => match decide (rgU e n hi < rgL e n lo) with
      | true => ⟨.zero, 3⟩
      | false => gCut e (rgS e n lo hi)
theorem enters_wring : ∀ us w, (callFunc 37 us).run Tryz.prog w = .ok (.enter 37 us) w := enters Tryz.func37 rfl (by kernel_rfl)
theorem inRing_pc {e n : El} (he : e.Ok) (hn : n.Ok) (lo hi : Int) : PC Tryz.prog 37 [e.val, n.val, .int .i64 lo, .int .i64 hi] (inRing e n lo hi).val := by
  have hq := ring_qc he hn lo hi _ rfl
  unfold ringV at hq
  unfold inRing
  cases h1 : measB e n lo hi with
  | false =>
    rw [h1] at hq
    exact PC.run mixed Tryz.func37 [.res (Sr.mk .zero 1).val] rfl ts0 (qs1 hq) rfl rfl (by kernel_rfl)
  | true =>
    rw [h1] at hq
    cases h2 : isO (rgX e n) (rgY e n) with
    | true =>
      rw [h2] at hq
      exact PC.run mixed Tryz.func37 [.res (Sr.mk .zero 7).val] rfl ts0 (qs1 hq) rfl rfl (by kernel_rfl)
    | false =>
      rw [h2] at hq
      cases h3 : decide (rgU e n hi < rgL e n lo) with
      | true =>
        rw [h3] at hq
        exact PC.run mixed Tryz.func37 [.res (Sr.mk .zero 3).val] rfl ts0 (qs1 hq) rfl rfl (by kernel_rfl)
      | false =>
        rw [h3] at hq
        exact PC.run mixed Tryz.func37 [.res (Sr.mk (rgS e n lo hi) 0).val, .res (gCut e (rgS e n lo hi)).val] rfl ts0 (qs2 hq (gCut_qc (rgS e n lo hi) he _ rfl)) rfl rfl (by kernel_rfl)
theorem inRing_qc {e n : El} (he : e.Ok) (hn : n.Ok) (lo hi : Int) (m : Mk) (h : inRing e n lo hi = m) : QC Tryz.prog 37 [e.val, n.val, .int .i64 lo, .int .i64 hi] m.val := h ▸ QC.of_pc enters_wring (inRing_pc he hn lo hi)
def updV (e n : El) (lo hi : Int) : Mk := match measB e n lo hi with
  | false => ⟨.zero, 1⟩
  | true => match decide ((((nearV e n hi).n : Nat) : Int) = 0) with
    | true => inRing (nearV e n hi).e n lo hi
    | false => ⟨.zero, (nearV e n hi).n⟩
theorem enters_upd : ∀ us w, (callFunc 10 us).run Tryz.prog w = .ok (.enter 10 us) w := enters Tryz.func10 rfl (by kernel_rfl)
theorem nearV_ok {e : El} (n : El) (he : e.Ok) (hi : Int) : (nearV e n hi).e.Ok := by
  unfold nearV
  rcases acqV_cases n hi with h | h | ⟨h0, h1, h2, h3, h, hb⟩
  · rw [h]; exact he
  · rw [h]; exact he
  · rw [h]
    show (gFuse e (n.ball (hi + n.rad))).e.Ok
    unfold gFuse
    split
    · split
      · exact El.zero_ok
      · exact lesser_ok (smE_ok (mk := mkF e (n.ball (hi + n.rad))) (oraF he (may_ok hb)).ok he) (may_ok hb)
    · exact El.zero_ok
theorem upd_pc {e n : El} (he : e.Ok) (hn : n.Ok) (lo hi : Int) : PC Tryz.prog 10 [e.val, n.val, .int .i64 lo, .int .i64 hi] (updV e n lo hi).val := by
  unfold updV
  have hno := nearV_ok n he hi
  have q1 := wball_qc he hn hi _ rfl
  cases h1 : measB e n lo hi with
  | false => exact PC.run mixed Tryz.func10 [.res (.bool false)] rfl ts0 (qs1 (meas_qc he hn lo hi _ h1)) rfl rfl (by kernel_rfl)
  | true =>
    generalize nearV e n hi = m at *
    by_cases h2 : ((m.n : Nat) : Int) = 0
    · rw [decide_eq_true h2]
      exact PC.run mixed Tryz.func10 [.res (.bool true), .res m.val, .tst false, .res (inRing m.e n lo hi).val] rfl (ts1 (tN h2)) (qs3 (meas_qc he hn lo hi _ h1) q1 (inRing_qc hno hn lo hi _ rfl)) rfl rfl (by kernel_rfl)
    · rw [decide_eq_false h2]
      exact PC.run mixed Tryz.func10 [.res (.bool true), .res m.val, .tst true] rfl (ts1 (tF h2)) (qs2 (meas_qc he hn lo hi _ h1) q1) rfl rfl (by kernel_rfl)
theorem upd_qc {e n : El} (he : e.Ok) (hn : n.Ok) (lo hi : Int) (m : Mk) (h : updV e n lo hi = m) : QC Tryz.prog 10 [e.val, n.val, .int .i64 lo, .int .i64 hi] m.val := h ▸ QC.of_pc enters_upd (upd_pc he hn lo hi)
end Go.Proofs.YtaibhjphgdjcmaaGreat.W
