/-
  The reference's inequalities: Of, OfStrip, Mix.
-/
import Derived.Test.YtaibhjphgdjcmaaGreatTokS
import Derived.Test.YtaibhjphgdjcmaaGreatInfo5
namespace Go.Proofs.YtaibhjphgdjcmaaGreat.R
open Go Go.Ev Go.W32
open Go.Proofs.YtaibhjphgdjcmaaGreat.W (mixed i64_wrap clamp clamp_eq WF signI Sm I64 ell flat_ell ellT flat_ellT pt flat_pt sym within within_iff mayP mayL mayL_iff mayM mayM_iff adjV errI quadI quadI_sm detI detI_sm wnar cdiv nearI fits64 fits64_iff Inq ofQ noQ osQ mixQ mixI midI mid_facts strip_sm mayS mayS_iff strV flat_strV isO fdiv_wf neg_wf wadd)

/-! ### Quotients -/
theorem enters_rFloor : ∀ us w, (callFunc 162 us).run Tryz.prog w = .ok (.enter 162 us) w := enters Tryz.func162 rfl (by kernel_rfl)
theorem enters_rCeil : ∀ us w, (callFunc 161 us).run Tryz.prog w = .ok (.enter 161 us) w := enters Tryz.func161 rfl (by kernel_rfl)
theorem enters_rNear : ∀ us w, (callFunc 160 us).run Tryz.prog w = .ok (.enter 160 us) w := enters Tryz.func160 rfl (by kernel_rfl)
theorem signI_not {q : Int} (h : 0 < q) : ¬ signI (some q) ≤ 0 := by
  show ¬ (if q < 0 then (-1 : Int) else if q = 0 then 0 else 1) ≤ 0
  rw [if_neg (by omega), if_neg (by omega)]
  omega
theorem rf_1 {a b q : Int} (hs : ¬ signI (some b) ≤ 0) (h1 : MC Tryz.prog 177 [rz a, rz b] [] (.tuple #[rz q, .int .i64 ((0 : Nat) : Int)]) []) (h2 : MC Tryz.prog 66 [rz q] [] (.tuple #[.int .i64 q, .bool true]) []) : MC Tryz.prog 162 [rz a, rz b] [] (errI q 0) [] :=
  AC.runA mixed Tryz.func162 [.ab (i6 (signI (some b))), .tst false, .ab (.tuple #[rz q, .int .i64 ((0 : Nat) : Int)]), .ab (.tuple #[.int .i64 q, .bool true])] (ts1 (tF hs)) (qs3 (rsign b) h1 h2) rfl enters_rFloor (by kernel_rfl)
theorem rf_2 {a b q : Int} (hs : ¬ signI (some b) ≤ 0) (h1 : MC Tryz.prog 177 [rz a, rz b] [] (.tuple #[rz q, .int .i64 ((0 : Nat) : Int)]) []) (h2 : MC Tryz.prog 66 [rz q] [] (.tuple #[.int .i64 0, .bool false]) []) : MC Tryz.prog 162 [rz a, rz b] [] (errI 0 2) [] :=
  AC.runA mixed Tryz.func162 [.ab (i6 (signI (some b))), .tst false, .ab (.tuple #[rz q, .int .i64 ((0 : Nat) : Int)]), .ab (.tuple #[.int .i64 0, .bool false])] (ts1 (tF hs)) (qs3 (rsign b) h1 h2) rfl enters_rFloor (by kernel_rfl)
theorem rFloor_t {a b : Int} (ha : WF (some a)) (hb : WF (some b)) (h0 : 0 < b) : MC Tryz.prog 162 [rz a, rz b] [] (wnar (some (a.fdiv b))) [] := by
  have h1 := rdiv ha hb (by omega)
  have hq := fdiv_wf (b := b) ha (by omega)
  cases hf : fits64 (a.fdiv b) with
  | true =>
    rw [wnar_fits hf]
    exact rf_1 (signI_not h0) h1 (rint_fits hf hq)
  | false =>
    rw [wnar_over hf]
    exact rf_2 (signI_not h0) h1 (rint_over hf hq)
theorem rc_1 {a b m q n : Int} (hs : ¬ signI (some b) ≤ 0) (h0 : MC Tryz.prog 62 [rz a] [] (rz m) []) (h1 : MC Tryz.prog 177 [rz m, rz b] [] (.tuple #[rz q, .int .i64 ((0 : Nat) : Int)]) []) (h3 : MC Tryz.prog 62 [rz q] [] (rz n) []) (h2 : MC Tryz.prog 66 [rz n] [] (.tuple #[.int .i64 n, .bool true]) []) : MC Tryz.prog 161 [rz a, rz b] [] (errI n 0) [] :=
  AC.runA mixed Tryz.func161 [.ab (i6 (signI (some b))), .tst false, .ab (rz m), .ab (.tuple #[rz q, .int .i64 ((0 : Nat) : Int)]), .ab (rz n), .ab (.tuple #[.int .i64 n, .bool true])] (ts1 (tF hs)) (qs5 (rsign b) h0 h1 h3 h2) rfl enters_rCeil (by kernel_rfl)
theorem rc_2 {a b m q n : Int} (hs : ¬ signI (some b) ≤ 0) (h0 : MC Tryz.prog 62 [rz a] [] (rz m) []) (h1 : MC Tryz.prog 177 [rz m, rz b] [] (.tuple #[rz q, .int .i64 ((0 : Nat) : Int)]) []) (h3 : MC Tryz.prog 62 [rz q] [] (rz n) []) (h2 : MC Tryz.prog 66 [rz n] [] (.tuple #[.int .i64 0, .bool false]) []) : MC Tryz.prog 161 [rz a, rz b] [] (errI 0 2) [] :=
  AC.runA mixed Tryz.func161 [.ab (i6 (signI (some b))), .tst false, .ab (rz m), .ab (.tuple #[rz q, .int .i64 ((0 : Nat) : Int)]), .ab (rz n), .ab (.tuple #[.int .i64 0, .bool false])] (ts1 (tF hs)) (qs5 (rsign b) h0 h1 h3 h2) rfl enters_rCeil (by kernel_rfl)
theorem rCeil_t {a b : Int} (ha : WF (some a)) (hb : WF (some b)) (h0 : 0 < b) : MC Tryz.prog 161 [rz a, rz b] [] (wnar (some (cdiv a b))) [] := by
  have hm := neg_wf ha
  have h1 := rdiv hm hb (by omega)
  have hq := fdiv_wf (b := b) hm (by omega)
  have hn := neg_wf hq
  unfold cdiv
  cases hf : fits64 (-((-a).fdiv b)) with
  | true =>
    rw [wnar_fits hf]
    exact rc_1 (signI_not h0) (rneg ha) h1 (rneg hq) (rint_fits hf hn)
  | false =>
    rw [wnar_over hf]
    exact rc_2 (signI_not h0) (rneg ha) h1 (rneg hq) (rint_over hf hn)
theorem rn_1 {a b x y z r : Int} {e : Nat} (hs : ¬ signI (some b) ≤ 0) (h1 : MC Tryz.prog 61 [rz a, rz a] [] (rz x) []) (h2 : MC Tryz.prog 61 [rz x, rz b] [] (rz y) []) (h3 : MC Tryz.prog 61 [rz b, rz b] [] (rz z) []) (h4 : MC Tryz.prog 162 [rz y, rz z] [] (errI r e) []) : MC Tryz.prog 160 [rz a, rz b] [] (errI r e) [] :=
  AC.runA mixed Tryz.func160 [.ab (i6 (signI (some b))), .tst false, .ab (rz x), .ab (rz y), .ab (rz z), .ab (errI r e)] (ts1 (tF hs)) (qs5 (rsign b) h1 h2 h3 h4) rfl enters_rNear (by kernel_rfl)
theorem rNear_t {m : Nat} {a b : Int} (ha : Sm m a) (hb : Sm m b) (h0 : 0 < b) (hm : m + 2 < 1023 := by omega) : MC Tryz.prog 160 [rz a, rz b] [] (wnar (some (nearI a b))) [] := by
  have s1 := ha.add ha
  have s2 := s1.add (hb.mono (k := m + 1) (by omega))
  have s3 := hb.add hb
  have h4 := rFloor_t (s2.wf (by omega)) (s3.wf (by omega)) (by omega)
  have e : (a + a + b).fdiv (b + b) = nearI a b := by
    unfold nearI
    rw [show a + a + b = 2 * a + b by omega, show b + b = 2 * b by omega]
  rw [e] at h4
  obtain ⟨r, k, he⟩ := Go.Proofs.YtaibhjphgdjcmaaGreat.W.wnar_form (some (nearI a b))
  rw [he] at h4 ⊢
  exact rn_1 (signI_not h0) (radd ha ha) (radd s1 (hb.mono (by omega))) (radd hb hb) h4
/-! ### Inequalities -/
def rzC (z : Int) : List Value := [.bool (decide (z < 0)), .bool false, tk z.natAbs (nw z.natAbs)]
def riC (i : Inq) : List Value := rzC i.a ++ (rzC i.b ++ (rzC i.d ++ (rzC i.u ++ (rzC i.v ++ (rzC i.z ++ rzC i.n)))))
def riV (i : Inq) : Value := .agg (riC i).toArray
def riT (i : Inq) (e : Nat) : Value := .tuple #[riV i, .int .i64 e]
theorem enters_ebig : ∀ us w, (callFunc 29 us).run Tryz.prog w = .ok (.enter 29 us) w := enters Tryz.func29 rfl (by kernel_rfl)
theorem ebig {n : Int} (h : I64 n) : MC Tryz.prog 29 [.int .i64 n] [] (rz n) [] :=
  AC.runA mixed Tryz.func29 [.ab (rz n)] ts0 (qs1 (rof h)) rfl enters_ebig (by kernel_rfl)
theorem enters_edot : ∀ us w, (callFunc 158 us).run Tryz.prog w = .ok (.enter 158 us) w := enters Tryz.func158 rfl (by kernel_rfl)
theorem edot_run {a x b y p q s : Int} (h1 : MC Tryz.prog 32 [rz a, rz x] [] (rz p) []) (h2 : MC Tryz.prog 32 [rz b, rz y] [] (rz q) []) (h3 : MC Tryz.prog 61 [rz p, rz q] [] (rz s) []) : MC Tryz.prog 158 [rz a, rz x, rz b, rz y] [] (rz s) [] :=
  AC.runA mixed Tryz.func158 [.ab (rz p), .ab (rz q), .ab (rz s)] ts0 (qs3 h1 h2 h3) rfl enters_edot (by kernel_rfl)
theorem edot {j k : Nat} {a x b y : Int} (ha : Sm j a) (hx : Sm k x) (hb : Sm j b) (hy : Sm k y) (h : j + k < 1023 := by omega) : MC Tryz.prog 158 [rz a, rz x, rz b, rz y] [] (rz (a * x + b * y)) [] :=
  edot_run (rmul ha hx) (rmul hb hy) (radd (ha.mul hx) (hb.mul hy))
theorem frz_nilI (mem : Mem) (e : Nat) : Frz mem (.tuple #[.agg ((List.replicate 7 [Value.bool false, .bool false, .slice none 0 0]).flatten).toArray, .int .i64 e]) (riT noQ e) :=
  Frz.pair (.inl ⟨_, _, rfl, rfl, by
    have h : PW (Frz1 mem) [Value.bool false, .bool false, .slice none 0 0] (rzC 0) := PW.cons (Frz1.ofAbs rfl) (PW.cons (Frz1.ofAbs rfl) (PW.cons (Frz1.nil 0) PW.nil))
    exact h.append (h.append (h.append (h.append (h.append (h.append (h.append PW.nil))))))⟩) (Frz2.ofAbs rfl)
/-! ### Of -/
theorem enters_eOf : ∀ us w, (callFunc 139 us).run Tryz.prog w = .ok (.enter 139 us) w := enters Tryz.func139 rfl (by kernel_rfl)
theorem eOf_bad {x y a b d : Int} (h : QC Tryz.prog 26 [ell x y a b d] (.bool false)) : MC Tryz.prog 139 [ell x y a b d] [] (riT noQ 1) [] :=
  AC.runN mixed Tryz.func139 [.res (.bool false)] ts0 (qs1 h) (fun mem => frz_nilI mem 1) enters_eOf (by kernel_rfl)
theorem eOf_run {x y a b d m u v z n : Int} (h0 : QC Tryz.prog 26 [ell x y a b d] (.bool true)) (h1 : MC Tryz.prog 157 [sym a b d] [] (sym d m a) []) (b1 : MC Tryz.prog 29 [.int .i64 x] [] (rz x) []) (b2 : MC Tryz.prog 29 [.int .i64 y] [] (rz y) [])
    (b3 : MC Tryz.prog 29 [.int .i64 d] [] (rz d) []) (b4 : MC Tryz.prog 29 [.int .i64 m] [] (rz m) []) (b5 : MC Tryz.prog 29 [.int .i64 a] [] (rz a) []) (d1 : MC Tryz.prog 158 [rz d, rz x, rz m, rz y] [] (rz u) []) (d2 : MC Tryz.prog 158 [rz m, rz x, rz a, rz y] [] (rz v) [])
    (q1 : MC Tryz.prog 60 [sym d m a, pt x y] [] (rz z) []) (q2 : MC Tryz.prog 56 [sym a b d] [] (rz n) []) : MC Tryz.prog 139 [ell x y a b d] [] (riT ⟨d, m, a, u, v, z, n⟩ 0) [] :=
  AC.runA mixed Tryz.func139 [.res (.bool true), .ab (sym d m a), .ab (rz x), .ab (rz y), .ab (rz d), .ab (rz m), .ab (rz a), .ab (rz d), .ab (rz m), .ab (rz u), .ab (rz m), .ab (rz a), .ab (rz v), .ab (rz z), .ab (rz n)] ts0
    (qsC h0 <| qsC h1 <| qsC b1 <| qsC b2 <| qsC b3 <| qsC b4 <| qsC b5 <| qsC b3 <| qsC b4 <| qsC d1 <| qsC b4 <| qsC b5 <| qsC d2 <| qsC q1 <| qsC q2 qs0) rfl enters_eOf (by kernel_rfl)
def eofV (x y a b d : Int) : Value := match mayL x y a b d with | true => riT (ofQ x y a b d) 0 | false => riT noQ 1
theorem eOf_t {x y a b d : Int} (ha : I64 a) (hb : I64 b) (hd : I64 d) : MC Tryz.prog 139 [ell x y a b d] [] (eofV x y a b d) [] := by
  unfold eofV
  cases h : mayL x y a b d with
  | false => exact eOf_bad (eMay_qc x y ha hb hd _ h)
  | true =>
    have g := mayL_iff.1 h
    have sa : Sm 47 a := .of_le 70368744177664 (by decide) (by omega) (by omega)
    have sb : Sm 47 b := .of_le 70368744177664 (by decide) (by omega) (by omega)
    have sd : Sm 47 d := .of_le 70368744177664 (by decide) (by omega) (by omega)
    have sx : Sm 23 x := .of_le 4194304 (by decide) (by omega) (by omega)
    have sy : Sm 23 y := .of_le 4194304 (by decide) (by omega) (by omega)
    have hnb : I64 (-b) := ⟨by omega, by omega⟩
    have hxI : I64 x := ⟨by omega, by omega⟩
    have hyI : I64 y := ⟨by omega, by omega⟩
    have qa := rAdj a b d
    unfold adjV at qa
    rw [mayM_iff.2 (by omega)] at qa
    exact eOf_run (eMay_qc x y ha hb hd _ h) qa (ebig hxI) (ebig hyI) (ebig hd) (ebig hnb) (ebig ha) (edot sd sx sb.neg sy) (edot sb.neg sx sa sy) (rQuad hd hnb ha hxI hyI) (rDet ha hb hd)
/-! ### Strips -/
theorem mayS_win (ox oy hx hy lo hi : Int) : mayS ox oy hx hy lo hi = (mayP ox oy && (win hx 16777216 && (win hy 16777216 && (!isO hx hy && (win lo 1125899906842624 && (win hi 1125899906842624 && decide (lo < hi))))))) := by
  unfold mayS
  rw [within_win, Bool.and_assoc]
  congr 4
  rw [Bool.eq_iff_iff]
  simp only [win, Bool.and_eq_true, decide_eq_true_eq]
  omega
theorem enters_eStrip : ∀ us w, (callFunc 71 us).run Tryz.prog w = .ok (.enter 71 us) w := enters Tryz.func71 rfl (by kernel_rfl)
theorem eStrip_pc (ox oy hx hy lo hi : Int) : PC Tryz.prog 71 [strV ox oy hx hy lo hi] (.bool (mayS ox oy hx hy lo hi)) := by
  have hfl : [strV ox oy hx hy lo hi].all flat = true := by simp [flat_strV]
  rw [mayS_win]
  cases h1 : mayP ox oy with
  | false => exact PC.run mixed Tryz.func71 [.res (.bool false)] hfl ts0 (qs1 (ePoint_qc ox oy _ h1)) rfl rfl (by kernel_rfl)
  | true =>
    have m1 := ePoint_qc ox oy _ h1
    cases h2 : win hx 16777216 with
    | false => exact PC.run mixed Tryz.func71 [.res (.bool true), .res (.bool false)] hfl ts0 (qs2 m1 (ewithin_qc hx _ (by omega) (by omega) _ h2)) rfl rfl (by kernel_rfl)
    | true =>
      have m2 := ewithin_qc hx _ (by omega) (by omega) _ h2
      cases h3 : win hy 16777216 with
      | false => exact PC.run mixed Tryz.func71 [.res (.bool true), .res (.bool true), .res (.bool false)] hfl ts0 (qs3 m1 m2 (ewithin_qc hy _ (by omega) (by omega) _ h3)) rfl rfl (by kernel_rfl)
      | true =>
        have m3 := ewithin_qc hy _ (by omega) (by omega) _ h3
        cases h4 : isO hx hy with
        | true =>
          have t : (!!isO hx hy) = true := by rw [h4]; rfl
          exact PC.run mixed Tryz.func71 [.res (.bool true), .res (.bool true), .res (.bool true), .auto, .tst false] hfl (ts1 t) (qs3 m1 m2 m3) rfl rfl (by kernel_rfl)
        | false =>
          have t : (!isO hx hy) = true := by rw [h4]; rfl
          cases h5 : win lo 1125899906842624 with
          | false => exact PC.run mixed Tryz.func71 [.res (.bool true), .res (.bool true), .res (.bool true), .auto, .tst true, .res (.bool false)] hfl (ts1 t) (qs4 m1 m2 m3 (ewithin_qc lo _ (by omega) (by omega) _ h5)) rfl rfl (by kernel_rfl)
          | true =>
            have m5 := ewithin_qc lo _ (by omega) (by omega) _ h5
            cases h6 : win hi 1125899906842624 with
            | false => exact PC.run mixed Tryz.func71 [.res (.bool true), .res (.bool true), .res (.bool true), .auto, .tst true, .res (.bool true), .res (.bool false)] hfl (ts1 t) (qs5 m1 m2 m3 m5 (ewithin_qc hi _ (by omega) (by omega) _ h6)) rfl rfl (by kernel_rfl)
            | true => exact PC.run mixed Tryz.func71 [.res (.bool true), .res (.bool true), .res (.bool true), .auto, .tst true, .res (.bool true), .res (.bool true)] (v := .bool (decide (lo < hi))) hfl (ts1 t) (qs5 m1 m2 m3 m5 (ewithin_qc hi _ (by omega) (by omega) _ h6)) rfl (by simp only [Bool.true_and, Bool.not_false]) (by kernel_rfl)
theorem eStrip_qc (ox oy hx hy lo hi : Int) (r : Bool) (h : mayS ox oy hx hy lo hi = r) : QC Tryz.prog 71 [strV ox oy hx hy lo hi] (.bool r) := h ▸ QC.of_pc enters_eStrip (eStrip_pc ox oy hx hy lo hi)
theorem enters_eOs : ∀ us w, (callFunc 142 us).run Tryz.prog w = .ok (.enter 142 us) w := enters Tryz.func142 rfl (by kernel_rfl)
theorem eOs_bad {ox oy hx hy lo hi : Int} (h : QC Tryz.prog 71 [strV ox oy hx hy lo hi] (.bool false)) : MC Tryz.prog 142 [strV ox oy hx hy lo hi] [] (riT noQ 1) [] :=
  AC.runN mixed Tryz.func142 [.res (.bool false)] ts0 (qs1 h) (fun mem => frz_nilI mem 1) enters_eOs (by kernel_rfl)
theorem eOs_run {ox oy hx hy lo hi g h l s m w : Int} (h0 : QC Tryz.prog 71 [strV ox oy hx hy lo hi] (.bool true)) (b1 : MC Tryz.prog 29 [.int .i64 (IntKind.i64.wrap (2 * hx))] [] (rz g) []) (b2 : MC Tryz.prog 29 [.int .i64 (IntKind.i64.wrap (2 * hy))] [] (rz h) []) (b3 : MC Tryz.prog 29 [.int .i64 (IntKind.i64.wrap (lo + hi))] [] (rz l) []) (b4 : MC Tryz.prog 29 [.int .i64 ox] [] (rz ox) []) (b5 : MC Tryz.prog 29 [.int .i64 oy] [] (rz oy) []) (d1 : MC Tryz.prog 158 [rz g, rz ox, rz h, rz oy] [] (rz s) []) (a1 : MC Tryz.prog 61 [rz l, rz s] [] (rz m) []) (b6 : MC Tryz.prog 29 [.int .i64 (IntKind.i64.wrap (hi - lo))] [] (rz w) []) (m1 : MC Tryz.prog 32 [rz g, rz g] [] (rz (g * g)) []) (m2 : MC Tryz.prog 32 [rz g, rz h] [] (rz (g * h)) []) (m3 : MC Tryz.prog 32 [rz h, rz h] [] (rz (h * h)) []) (m4 : MC Tryz.prog 32 [rz m, rz g] [] (rz (m * g)) []) (m5 : MC Tryz.prog 32 [rz m, rz h] [] (rz (m * h)) []) (m6 : MC Tryz.prog 32 [rz m, rz m] [] (rz (m * m)) []) (m7 : MC Tryz.prog 32 [rz w, rz w] [] (rz (w * w)) []) : MC Tryz.prog 142 [strV ox oy hx hy lo hi] [] (riT ⟨g * g, g * h, h * h, m * g, m * h, m * m, w * w⟩ 0) [] :=
  AC.runA mixed Tryz.func142 [.res (.bool true), .ab (rz g), .ab (rz h), .ab (rz l), .ab (rz ox), .ab (rz oy), .ab (rz s), .ab (rz m), .ab (rz w), .ab (rz (g * g)), .ab (rz (g * h)), .ab (rz (h * h)), .ab (rz (m * g)), .ab (rz (m * h)), .ab (rz (m * m)), .ab (rz (w * w))] ts0 (qsC h0 <| qsC b1 <| qsC b2 <| qsC b3 <| qsC b4 <| qsC b5 <| qsC d1 <| qsC a1 <| qsC b6 <| qsC m1 <| qsC m2 <| qsC m3 <| qsC m4 <| qsC m5 <| qsC m6 <| qsC m7 <| qs0) rfl enters_eOs (by kernel_rfl)
def eosV (ox oy hx hy lo hi : Int) : Value := match mayS ox oy hx hy lo hi with | true => riT (osQ ox oy hx hy lo hi) 0 | false => riT noQ 1
theorem eOs_t (ox oy hx hy lo hi : Int) : MC Tryz.prog 142 [strV ox oy hx hy lo hi] [] (eosV ox oy hx hy lo hi) [] := by
  unfold eosV
  cases h : mayS ox oy hx hy lo hi with
  | false => exact eOs_bad (eStrip_qc _ _ _ _ _ _ _ h)
  | true =>
    have g := mayS_iff.1 h
    obtain ⟨e1, e2, e3, _, _⟩ := mid_facts h
    obtain ⟨sx, sy, sm, sw⟩ := strip_sm h
    have e4 : IntKind.i64.wrap (lo + hi) = lo + hi := i64_wrap (by omega) (by omega)
    have ix : Sm 23 ox := .of_le 4194304 (by decide) (by omega) (by omega)
    have iy : Sm 23 oy := .of_le 4194304 (by decide) (by omega) (by omega)
    have sl : Sm 52 (lo + hi) := .of_le 2251799813685248 (by decide) (by omega) (by omega)
    have sd := (sx.mul ix).add (sy.mul iy)
    have ha := radd (sl.mono (k := 52) (by omega)) (sd.mono (k := 52) (by omega))
    have em : lo + hi + (2 * hx * ox + 2 * hy * oy) = midI ox oy hx hy lo hi := by unfold midI; omega
    rw [em] at ha
    exact eOs_run (eStrip_qc _ _ _ _ _ _ _ h) (by rw [e1]; exact ebig ⟨by omega, by omega⟩) (by rw [e2]; exact ebig ⟨by omega, by omega⟩) (by rw [e4]; exact ebig ⟨by omega, by omega⟩) (ebig ⟨by omega, by omega⟩) (ebig ⟨by omega, by omega⟩) (edot sx ix sy iy) ha (by rw [e3]; exact ebig ⟨by omega, by omega⟩)
      (rmul sx sx) (rmul sx sy) (rmul sy sy) (rmul sm sx) (rmul sm sy) (rmul sm sm) (rmul sw sw)
/-! ### Mix -/
theorem enters_eMix : ∀ us w, (callFunc 140 us).run Tryz.prog w = .ok (.enter 140 us) w := enters Tryz.func140 rfl (by kernel_rfl)
theorem eMix_lo {i j : Inq} {w : Int} (h : w < 0) : MC Tryz.prog 140 [riV i, riV j, .int .i64 w] [] (riT noQ 1) [] :=
  AC.runN mixed Tryz.func140 [.tst true] (ts1 (tT h)) qs0 (fun mem => frz_nilI mem 1) enters_eMix (by kernel_rfl)
theorem eMix_hi {i j : Inq} {w : Int} (h : ¬ w < 0) (h2 : w > 34) : MC Tryz.prog 140 [riV i, riV j, .int .i64 w] [] (riT noQ 1) [] :=
  AC.runN mixed Tryz.func140 [.tst false, .tst true] (ts2 (tF h) (tT h2)) qs0 (fun mem => frz_nilI mem 1) enters_eMix (by kernel_rfl)
theorem eMix_run {i j : Inq} {w w' X Y N M r0 r1 r2 r3 r4 r5 : Int} (f0 : ¬ w < 0) (f1 : ¬ w > 34) (b1 : MC Tryz.prog 29 [.int .i64 w] [] (rz w) []) (m1 : MC Tryz.prog 32 [rz w, rz j.n] [] (rz X) []) (b2 : MC Tryz.prog 29 [.int .i64 (IntKind.i64.wrap (34 - w))] [] (rz w') []) (m2 : MC Tryz.prog 32 [rz w', rz i.n] [] (rz Y) []) (d0 : MC Tryz.prog 158 [rz i.a, rz X, rz j.a, rz Y] [] (rz r0) []) (d1 : MC Tryz.prog 158 [rz i.b, rz X, rz j.b, rz Y] [] (rz r1) []) (d2 : MC Tryz.prog 158 [rz i.d, rz X, rz j.d, rz Y] [] (rz r2) []) (d3 : MC Tryz.prog 158 [rz i.u, rz X, rz j.u, rz Y] [] (rz r3) []) (d4 : MC Tryz.prog 158 [rz i.v, rz X, rz j.v, rz Y] [] (rz r4) []) (d5 : MC Tryz.prog 158 [rz i.z, rz X, rz j.z, rz Y] [] (rz r5) []) (b3 : MC Tryz.prog 29 [.int .i64 34] [] (rz 34) []) (m3 : MC Tryz.prog 32 [rz i.n, rz j.n] [] (rz N) []) (m4 : MC Tryz.prog 32 [rz 34, rz N] [] (rz M) []) : MC Tryz.prog 140 [riV i, riV j, .int .i64 w] [] (riT ⟨r0, r1, r2, r3, r4, r5, M⟩ 0) [] :=
  AC.runA mixed Tryz.func140 [.tst false, .tst false, .ab (rz w), .ab (rz X), .ab (rz w'), .ab (rz Y), .ab (rz r0), .ab (rz r1), .ab (rz r2), .ab (rz r3), .ab (rz r4), .ab (rz r5), .ab (rz 34), .ab (rz N), .ab (rz M)] (ts2 (tF f0) (tF f1)) (qsC b1 <| qsC m1 <| qsC b2 <| qsC m2 <| qsC d0 <| qsC d1 <| qsC d2 <| qsC d3 <| qsC d4 <| qsC d5 <| qsC b3 <| qsC m3 <| qsC m4 <| qs0) rfl enters_eMix (by kernel_rfl)
theorem mixI_eq (w n n' x y : Int) : x * (w * n') + y * ((34 - w) * n) = mixI w (34 - w) n n' x y := by
  unfold mixI
  rw [Int.mul_assoc, Int.mul_assoc]
theorem eMix_t {i j : Inq} {w : Int} (h0 : 0 ≤ w) (h1 : w ≤ 34) (hi : i.Inp) (hj : j.Inp) : MC Tryz.prog 140 [riV i, riV j, .int .i64 w] [] (riT (mixQ i j w) 0) [] := by
  have e7 : (2 : Nat) ^ 7 = 128 := by decide
  have sw : Sm 7 w := by unfold Sm; omega
  have sw' : Sm 7 (34 - w) := by unfold Sm; omega
  have s34 : Sm 7 (34 : Int) := by unfold Sm; decide
  have e : IntKind.i64.wrap (34 - w) = 34 - w := i64_wrap (by omega) (by omega)
  have sX := sw.mul hj.n
  have sY := sw'.mul hi.n
  have hN := rmul s34 (hi.n.mul hj.n)
  rw [show 34 * (i.n * j.n) = 34 * i.n * j.n by rw [Int.mul_assoc]] at hN
  have dd : ∀ {k : Nat} {x y : Int}, Sm k x → Sm k y → k ≤ 120 → MC Tryz.prog 158 [rz x, rz (w * j.n), rz y, rz ((34 - w) * i.n)] [] (rz (mixI w (34 - w) i.n j.n x y)) [] := fun {k} {x} {y} hx hy hk => by
    have h := edot hx sX hy sY (by omega)
    rw [mixI_eq] at h
    exact h
  exact eMix_run (by omega) (by omega) (ebig ⟨by omega, by omega⟩) (rmul sw hj.n) (by rw [e]; exact ebig ⟨by omega, by omega⟩) (rmul sw' hi.n) (dd hi.a hj.a (by omega)) (dd hi.b hj.b (by omega)) (dd hi.d hj.d (by omega)) (dd hi.u hj.u (by omega)) (dd hi.v hj.v (by omega)) (dd hi.z hj.z (by omega)) (ebig ⟨by omega, by omega⟩) (rmul hi.n hj.n) hN
end Go.Proofs.YtaibhjphgdjcmaaGreat.R
