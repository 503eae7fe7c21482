/-
  The reference's inequalities: Of, OfStrip, Mix.
-/
import Derived.Test.YtljolfnpncjklaaGreatTokS
import Derived.Test.YtljolfnpncjklaaGreatInfo5
namespace Go.Proofs.YtljolfnpncjklaaGreat.R
open Go Go.Ev Go.W32
open Go.Proofs.YtljolfnpncjklaaGreat.W (mixed i64_wrap clamp clamp_eq WF signI Sm I64 ell flat_ell ellT flat_ellT pt flat_pt sym within within_iff mayP mayL mayL_iff mayM mayM_iff adjV errI quadI quadI_sm detI detI_sm wnar cdiv nearI fits64 fits64_iff Inq ofQ noQ osQ mixQ mixI midI mid_facts strip_sm mayS mayS_iff strV flat_strV isO fdiv_wf neg_wf wadd)

/-! ### Quotients -/
theorem enters_rFloor : ∀ us w, (callFunc 34 us).run Tryz.prog w = .ok (.enter 34 us) w := enters Tryz.func34 rfl (by kernel_rfl)
theorem enters_rCeil : ∀ us w, (callFunc 33 us).run Tryz.prog w = .ok (.enter 33 us) w := enters Tryz.func33 rfl (by kernel_rfl)
theorem enters_rNear : ∀ us w, (callFunc 32 us).run Tryz.prog w = .ok (.enter 32 us) w := enters Tryz.func32 rfl (by kernel_rfl)
theorem signI_not {q : Int} (h : 0 < q) : ¬ signI (some q) ≤ 0 := by
  show ¬ (if q < 0 then (-1 : Int) else if q = 0 then 0 else 1) ≤ 0
  rw [if_neg (by omega), if_neg (by omega)]
  omega
theorem rf_1 {a b q : Int} (hs : ¬ signI (some b) ≤ 0) (h1 : MC Tryz.prog 70 [rz a, rz b] [] (.tuple #[rz q, .int .i64 ((0 : Nat) : Int)]) []) (h2 : MC Tryz.prog 71 [rz q] [] (.tuple #[.int .i64 q, .bool true]) []) : MC Tryz.prog 34 [rz a, rz b] [] (errI q 0) [] :=
  AC.runA mixed Tryz.func34 [.ab (i6 (signI (some b))), .tst false, .ab (.tuple #[rz q, .int .i64 ((0 : Nat) : Int)]), .ab (.tuple #[.int .i64 q, .bool true])] (ts1 (tF hs)) (qs3 (rsign b) h1 h2) rfl enters_rFloor (by kernel_rfl)
theorem rf_2 {a b q : Int} (hs : ¬ signI (some b) ≤ 0) (h1 : MC Tryz.prog 70 [rz a, rz b] [] (.tuple #[rz q, .int .i64 ((0 : Nat) : Int)]) []) (h2 : MC Tryz.prog 71 [rz q] [] (.tuple #[.int .i64 0, .bool false]) []) : MC Tryz.prog 34 [rz a, rz b] [] (errI 0 2) [] :=
  AC.runA mixed Tryz.func34 [.ab (i6 (signI (some b))), .tst false, .ab (.tuple #[rz q, .int .i64 ((0 : Nat) : Int)]), .ab (.tuple #[.int .i64 0, .bool false])] (ts1 (tF hs)) (qs3 (rsign b) h1 h2) rfl enters_rFloor (by kernel_rfl)
theorem rFloor_t {a b : Int} (ha : WF (some a)) (hb : WF (some b)) (h0 : 0 < b) : MC Tryz.prog 34 [rz a, rz b] [] (wnar (some (a.fdiv b))) [] := by
  have h1 := rdiv ha hb (by omega)
  have hq := fdiv_wf (b := b) ha (by omega)
  cases hf : fits64 (a.fdiv b) with
  | true =>
    rw [wnar_fits hf]
    exact rf_1 (signI_not h0) h1 (rint_fits hf hq)
  | false =>
    rw [wnar_over hf]
    exact rf_2 (signI_not h0) h1 (rint_over hf hq)
theorem rc_1 {a b m q n : Int} (hs : ¬ signI (some b) ≤ 0) (h0 : MC Tryz.prog 28 [rz a] [] (rz m) []) (h1 : MC Tryz.prog 70 [rz m, rz b] [] (.tuple #[rz q, .int .i64 ((0 : Nat) : Int)]) []) (h3 : MC Tryz.prog 28 [rz q] [] (rz n) []) (h2 : MC Tryz.prog 71 [rz n] [] (.tuple #[.int .i64 n, .bool true]) []) : MC Tryz.prog 33 [rz a, rz b] [] (errI n 0) [] :=
  AC.runA mixed Tryz.func33 [.ab (i6 (signI (some b))), .tst false, .ab (rz m), .ab (.tuple #[rz q, .int .i64 ((0 : Nat) : Int)]), .ab (rz n), .ab (.tuple #[.int .i64 n, .bool true])] (ts1 (tF hs)) (qs5 (rsign b) h0 h1 h3 h2) rfl enters_rCeil (by kernel_rfl)
theorem rc_2 {a b m q n : Int} (hs : ¬ signI (some b) ≤ 0) (h0 : MC Tryz.prog 28 [rz a] [] (rz m) []) (h1 : MC Tryz.prog 70 [rz m, rz b] [] (.tuple #[rz q, .int .i64 ((0 : Nat) : Int)]) []) (h3 : MC Tryz.prog 28 [rz q] [] (rz n) []) (h2 : MC Tryz.prog 71 [rz n] [] (.tuple #[.int .i64 0, .bool false]) []) : MC Tryz.prog 33 [rz a, rz b] [] (errI 0 2) [] :=
  AC.runA mixed Tryz.func33 [.ab (i6 (signI (some b))), .tst false, .ab (rz m), .ab (.tuple #[rz q, .int .i64 ((0 : Nat) : Int)]), .ab (rz n), .ab (.tuple #[.int .i64 0, .bool false])] (ts1 (tF hs)) (qs5 (rsign b) h0 h1 h3 h2) rfl enters_rCeil (by kernel_rfl)
theorem rCeil_t {a b : Int} (ha : WF (some a)) (hb : WF (some b)) (h0 : 0 < b) : MC Tryz.prog 33 [rz a, rz b] [] (wnar (some (cdiv a b))) [] := by
  have hm := neg_wf ha
  have h1 := rdiv hm hb (by omega)
  have hq := fdiv_wf (b := b) hm (by omega)
  have hn := neg_wf hq
  unfold cdiv
  cases hf : fits64 (-((-a).fdiv b)) with
  | true =>
    rw [wnar_fits hf]
    exact rc_1 (signI_not h0) (rneg ha) h1 (rneg hq) (rint_fits hf hn)
  | false =>
    rw [wnar_over hf]
    exact rc_2 (signI_not h0) (rneg ha) h1 (rneg hq) (rint_over hf hn)
theorem rn_1 {a b x y z r : Int} {e : Nat} (hs : ¬ signI (some b) ≤ 0) (h1 : MC Tryz.prog 13 [rz a, rz a] [] (rz x) []) (h2 : MC Tryz.prog 13 [rz x, rz b] [] (rz y) []) (h3 : MC Tryz.prog 13 [rz b, rz b] [] (rz z) []) (h4 : MC Tryz.prog 34 [rz y, rz z] [] (errI r e) []) : MC Tryz.prog 32 [rz a, rz b] [] (errI r e) [] :=
  AC.runA mixed Tryz.func32 [.ab (i6 (signI (some b))), .tst false, .ab (rz x), .ab (rz y), .ab (rz z), .ab (errI r e)] (ts1 (tF hs)) (qs5 (rsign b) h1 h2 h3 h4) rfl enters_rNear (by kernel_rfl)
theorem rNear_t {m : Nat} {a b : Int} (ha : Sm m a) (hb : Sm m b) (h0 : 0 < b) (hm : m + 2 < 1023 := by omega) : MC Tryz.prog 32 [rz a, rz b] [] (wnar (some (nearI a b))) [] := by
  have s1 := ha.add ha
  have s2 := s1.add (hb.mono (k := m + 1) (by omega))
  have s3 := hb.add hb
  have h4 := rFloor_t (s2.wf (by omega)) (s3.wf (by omega)) (by omega)
  have e : (a + a + b).fdiv (b + b) = nearI a b := by
    unfold nearI
    rw [show a + a + b = 2 * a + b by omega, show b + b = 2 * b by omega]
  rw [e] at h4
  obtain ⟨r, k, he⟩ := Go.Proofs.YtljolfnpncjklaaGreat.W.wnar_form (some (nearI a b))
  rw [he] at h4 ⊢
  exact rn_1 (signI_not h0) (radd ha ha) (radd s1 (hb.mono (by omega))) (radd hb hb) h4
/-! ### Inequalities -/
def rzC (z : Int) : List Value := [.bool (decide (z < 0)), .bool false, tk z.natAbs (nw z.natAbs)]
def riC (i : Inq) : List Value := rzC i.a ++ (rzC i.b ++ (rzC i.d ++ (rzC i.u ++ (rzC i.v ++ (rzC i.z ++ rzC i.n)))))
def riV (i : Inq) : Value := .agg (riC i).toArray
def riT (i : Inq) (e : Nat) : Value := .tuple #[riV i, .int .i64 e]
theorem enters_ebig : ∀ us w, (callFunc 29 us).run Tryz.prog w = .ok (.enter 29 us) w := enters Tryz.func29 rfl (by kernel_rfl)
theorem ebig {n : Int} (h : I64 n) : MC Tryz.prog 29 [.int .i64 n] [] (rz n) [] :=
  AC.runA mixed Tryz.func29 [.ab (rz n)] ts0 (qs1 (rof h)) rfl enters_ebig (by kernel_rfl)
theorem enters_edot : ∀ us w, (callFunc 27 us).run Tryz.prog w = .ok (.enter 27 us) w := enters Tryz.func27 rfl (by kernel_rfl)
theorem edot_run {a x b y p q s : Int} (h1 : MC Tryz.prog 14 [rz a, rz x] [] (rz p) []) (h2 : MC Tryz.prog 14 [rz b, rz y] [] (rz q) []) (h3 : MC Tryz.prog 13 [rz p, rz q] [] (rz s) []) : MC Tryz.prog 27 [rz a, rz x, rz b, rz y] [] (rz s) [] :=
  AC.runA mixed Tryz.func27 [.ab (rz p), .ab (rz q), .ab (rz s)] ts0 (qs3 h1 h2 h3) rfl enters_edot (by kernel_rfl)
theorem edot {j k : Nat} {a x b y : Int} (ha : Sm j a) (hx : Sm k x) (hb : Sm j b) (hy : Sm k y) (h : j + k < 1023 := by omega) : MC Tryz.prog 27 [rz a, rz x, rz b, rz y] [] (rz (a * x + b * y)) [] :=
  edot_run (rmul ha hx) (rmul hb hy) (radd (ha.mul hx) (hb.mul hy))
theorem frz_nilI (mem : Mem) (e : Nat) : Frz mem (.tuple #[.agg ((List.replicate 7 [Value.bool false, .bool false, .slice none 0 0]).flatten).toArray, .int .i64 e]) (riT noQ e) :=
  Frz.pair (.inl ⟨_, _, rfl, rfl, by
    have h : PW (Frz1 mem) [Value.bool false, .bool false, .slice none 0 0] (rzC 0) := PW.cons (Frz1.ofAbs rfl) (PW.cons (Frz1.ofAbs rfl) (PW.cons (Frz1.nil 0) PW.nil))
    exact h.append (h.append (h.append (h.append (h.append (h.append (h.append PW.nil))))))⟩) (Frz2.ofAbs rfl)
/-! ### Of -/
def eofV (x y a b d : Int) : Value := match mayL x y a b d with | true => riT (ofQ x y a b d) 0 | false => riT noQ 1
/-! ### Strips -/
theorem mayS_win (ox oy hx hy lo hi : Int) : mayS ox oy hx hy lo hi = (mayP ox oy && (win hx 16777216 && (win hy 16777216 && (!isO hx hy && (win lo 1125899906842624 && (win hi 1125899906842624 && decide (lo < hi))))))) := by
  unfold mayS
  rw [within_win, Bool.and_assoc]
  congr 4
  rw [Bool.eq_iff_iff]
  simp only [win, Bool.and_eq_true, decide_eq_true_eq]
  omega
def eosV (ox oy hx hy lo hi : Int) : Value := match mayS ox oy hx hy lo hi with | true => riT (osQ ox oy hx hy lo hi) 0 | false => riT noQ 1
/-! ### Mix -/
theorem mixI_eq (w n n' x y : Int) : x * (w * n') + y * ((34 - w) * n) = mixI w (34 - w) n n' x y := by
  unfold mixI
  rw [Int.mul_assoc, Int.mul_assoc]
end Go.Proofs.YtljolfnpncjklaaGreat.R
