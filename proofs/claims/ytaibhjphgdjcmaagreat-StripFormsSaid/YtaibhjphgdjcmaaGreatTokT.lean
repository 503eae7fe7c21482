/-
  The reference's ellipses: points, boxes, shifts, hulls, how far along.
-/
import Derived.Test.YtaibhjphgdjcmaaGreatTokS
namespace Go.Proofs.YtaibhjphgdjcmaaGreat.R
open Go Go.Ev Go.W32
open Go.Proofs.YtaibhjphgdjcmaaGreat.W (mixed i64_wrap clamp clamp_eq WF signI Sm I64 ell flat_ell ellT flat_ellT pt flat_pt sym within within_iff mayP mayR mayR_iff mayL mayL_iff upI errI inE holdsI boxV shiftV hullV alongV twoI quadI quadI_sm csq csq_le isq isq_self isq_spec ordI wcmp wnar wadd wmul small_Hi fits64_iff box_sq)

/-! ### The root of a number, up -/
theorem enters_rWideUp : ∀ us w, (callFunc 35 us).run Tryz.prog w = .ok (.enter 35 us) w := enters Tryz.func35 rfl (by kernel_rfl)
theorem rwu_1 {z s q o : Int} (ho : ¬ o < 0) (h1 : MC Tryz.prog 65 [rz z] [] (.tuple #[rz s, .int .i64 ((0 : Nat) : Int)]) []) (h2 : MC Tryz.prog 32 [rz s, rz s] [] (rz q) []) (h3 : MC Tryz.prog 67 [rz q, rz z] [] (.tuple #[.int .i64 o, .bool true]) [])
    (h4 : MC Tryz.prog 66 [rz s] [] (.tuple #[.int .i64 s, .bool true]) []) : MC Tryz.prog 35 [rz z] [] (errI s 0) [] :=
  AC.runA mixed Tryz.func35 [.ab (.tuple #[rz s, .int .i64 ((0 : Nat) : Int)]), .ab (rz q), .ab (.tuple #[.int .i64 o, .bool true]), .tst false, .ab (.tuple #[.int .i64 s, .bool true])] (ts1 (tF ho)) (qs4 h1 h2 h3 h4) rfl enters_rWideUp (by kernel_rfl)
theorem rwu_2 {z s q o t : Int} (ho : o < 0) (h1 : MC Tryz.prog 65 [rz z] [] (.tuple #[rz s, .int .i64 ((0 : Nat) : Int)]) []) (h2 : MC Tryz.prog 32 [rz s, rz s] [] (rz q) []) (h3 : MC Tryz.prog 67 [rz q, rz z] [] (.tuple #[.int .i64 o, .bool true]) [])
    (h5 : MC Tryz.prog 59 [.int .i64 1] [] (rz 1) []) (h6 : MC Tryz.prog 61 [rz s, rz 1] [] (rz t) []) (h4 : MC Tryz.prog 66 [rz t] [] (.tuple #[.int .i64 t, .bool true]) []) : MC Tryz.prog 35 [rz z] [] (errI t 0) [] :=
  AC.runA mixed Tryz.func35 [.ab (.tuple #[rz s, .int .i64 ((0 : Nat) : Int)]), .ab (rz q), .ab (.tuple #[.int .i64 o, .bool true]), .tst true, .ab (rz 1), .ab (rz t), .ab (.tuple #[.int .i64 t, .bool true])] (ts1 (tT ho)) (qs6 h1 h2 h3 h5 h6 h4) rfl enters_rWideUp (by kernel_rfl)
theorem rWideUp_t {z : Int} (h0 : 0 ≤ z) (hz : WF (some z)) (hc : csq z.natAbs ≤ 9223372036854775807) : MC Tryz.prog 35 [rz z] [] (errI (csq z.natAbs : Nat) 0) [] := by
  have hH := hz z rfl
  have hs := isq_self z.natAbs
  have hcl := csq_le z.natAbs
  have hsq := (isq_spec z.natAbs).1
  have hw : WF (some ((isq z.natAbs : Nat) : Int)) := fun y e => by cases e; omega
  have hwc : WF (some ((csq z.natAbs : Nat) : Int)) := fun y e => by cases e; omega
  have hm := rMul_t hw hw
  have em : wmul (some ((isq z.natAbs : Nat) : Int)) (some ((isq z.natAbs : Nat) : Int)) = some ((isq z.natAbs * isq z.natAbs : Nat) : Int) := by
    show clamp _ = _
    rw [← Int.natCast_mul, clamp_eq (by omega)]
  rw [em] at hm
  have hwq : WF (some ((isq z.natAbs * isq z.natAbs : Nat) : Int)) := fun y e => by cases e; omega
  have hcmp := rCmp_t hwq hz
  have hn := rint_fits (fits64_iff.2 (by omega)) hwc
  by_cases h : isq z.natAbs * isq z.natAbs < z.natAbs
  · have ec : csq z.natAbs = isq z.natAbs + 1 := if_pos h
    rw [ec] at hn ⊢
    have ho : ordI ((isq z.natAbs * isq z.natAbs : Nat) : Int) z < 0 := by
      unfold ordI
      rw [if_pos (by omega)]
      omega
    have hw1 : WF (some 1) := fun y e => by cases e; have := small_Hi (x := 1) (n := 1) (by omega) (by omega); omega
    have ha := rAdd_t hw hw1
    have ea : wadd (some ((isq z.natAbs : Nat) : Int)) (some 1) = some ((isq z.natAbs + 1 : Nat) : Int) := by
      show clamp _ = _
      rw [show ((isq z.natAbs : Nat) : Int) + 1 = ((isq z.natAbs + 1 : Nat) : Int) by omega, clamp_eq (by omega)]
    rw [ea] at ha
    exact rwu_2 ho (rsqrt h0 hz) hm hcmp (rOf_t (n := 1) (by omega) (by omega)) ha hn
  · have ec : csq z.natAbs = isq z.natAbs := if_neg h
    rw [ec] at hn ⊢
    have ho : ¬ ordI ((isq z.natAbs * isq z.natAbs : Nat) : Int) z < 0 := by
      unfold ordI
      rw [if_neg (by omega)]
      split <;> omega
    exact rwu_1 ho (rsqrt h0 hz) hm hcmp hn
/-! ### In -/
/-! ### Boxes, shifts -/
/-! ### Hull, Along -/
theorem eAlong_pc {x y a b d p q : Int} (ha : I64 a) (hb : I64 b) (hd : I64 d) (hq : mayL x y a b d = true → within p q 16777216 = true → 0 ≤ quadI a b d p q ∧ csq (quadI a b d p q).natAbs ≤ 9223372036854775807) :
    PC Tryz.prog 30 [ell x y a b d, pt p q] (alongV x y a b d p q) := by
  have hfl : [ell x y a b d, pt p q].all flat = true := by simp [flat_ell, flat_pt]
  unfold alongV
  cases h1 : mayL x y a b d with
  | false => exact PC.run mixed Tryz.func30 [.res (.bool false)] hfl ts0 (qs1 (eMay_qc x y ha hb hd _ h1)) rfl rfl (by kernel_rfl)
  | true =>
    rw [within_win] at hq ⊢
    cases h2 : win p 16777216 with
    | false => exact PC.run mixed Tryz.func30 [.res (.bool true), .res (.bool false)] hfl ts0 (qs2 (eMay_qc x y ha hb hd _ h1) (ewithin_qc p 16777216 (by omega) (by omega) _ h2)) rfl rfl (by kernel_rfl)
    | true =>
      cases h3 : win q 16777216 with
      | false => exact PC.run mixed Tryz.func30 [.res (.bool true), .res (.bool true), .res (.bool false)] hfl ts0 (qs3 (eMay_qc x y ha hb hd _ h1) (ewithin_qc p 16777216 (by omega) (by omega) _ h2) (ewithin_qc q 16777216 (by omega) (by omega) _ h3)) rfl rfl (by kernel_rfl)
      | true =>
        have g2 := win_iff.1 h2
        have g3 := win_iff.1 h3
        obtain ⟨q0, q1⟩ := hq h1 (by rw [h2, h3]; rfl)
        have hp : I64 p := ⟨by omega, by omega⟩
        have hq' : I64 q := ⟨by omega, by omega⟩
        have hup := rWideUp_t q0 ((quadI_sm ha hb hd hp hq').wf (by omega)) q1
        exact PC.run mixed Tryz.func30 [.res (.bool true), .res (.bool true), .res (.bool true), .ab (rz (quadI a b d p q)), .ab (errI (csq (quadI a b d p q).natAbs : Nat) 0)] hfl ts0 (qs5 (eMay_qc x y ha hb hd _ h1) (ewithin_qc p 16777216 (by omega) (by omega) _ h2) (ewithin_qc q 16777216 (by omega) (by omega) _ h3) (rQuad ha hb hd hp hq') hup) rfl rfl (by kernel_rfl)
theorem enters_eAlong : ∀ us w, (callFunc 30 us).run Tryz.prog w = .ok (.enter 30 us) w := enters Tryz.func30 rfl (by kernel_rfl)
end Go.Proofs.YtaibhjphgdjcmaaGreat.R
