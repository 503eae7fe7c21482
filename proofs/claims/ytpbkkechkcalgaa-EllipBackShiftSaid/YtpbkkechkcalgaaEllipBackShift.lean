/-
  EllipBackShift: a shift there and back.
-/
import Derived.Test.YtpbkkechkcalgaaEllM
import Derived.Test.YtpbkkechkcalgaaEvT
namespace Go.Proofs.Ytpbkkechkcalgaa.W
open Go Go.Ev Go.Wide

def nC (n : Int) : Int := IntKind.i64.wrap (0 - n)
theorem nC_eq {n : Int} (h : -4194304 ≤ n ∧ n ≤ 4194304) : nC n = -n := by
  unfold nC
  rw [i64_wrap (by omega) (by omega)]; omega
theorem shift_back {x y a b d p q : Int} (h1 : mayL x y a b d = true) (h2 : within p q 4194304 = true) (h3 : mayP (x + p) (y + q) = true) : shiftV (x + p) (y + q) a b d (nC p) (nC q) = ellT x y a b d 0 := by
  have g := within_iff.1 h2
  have hm := mayL_move h1 h3
  have hw : within (nC p) (nC q) 4194304 = true := by
    rw [nC_eq (by omega), nC_eq (by omega)]
    exact within_iff.2 (by omega)
  have hp : mayP x y = true := by
    have := mayL_iff.1 h1
    exact within_iff.2 (by omega)
  unfold shiftV
  rw [hm, hw]
  simp only [Bool.and_self]
  rw [nC_eq (by omega), nC_eq (by omega), show x + p + -p = x by omega, show y + q + -q = y by omega, hp]
theorem ellipBackShift_pc {x y a b d p q : Int} (ha : I64 a) (hb : I64 b) (hd : I64 d) : PC Try.prog 5 [ell x y a b d, pt p q] (.bool true) := by
  have hfl : [ell x y a b d, pt p q].all flat = true := by simp [flat_ell, flat_sym, flat_pt]
  cases h1 : mayL x y a b d with
  | true =>
    cases h2 : within p q 4194304 with
    | true =>
      cases h3 : mayP (x + p) (y + q) with
      | true =>
        have hm := mayL_move h1 h3
        have et := trI_move h1 hm
        have er : radI (x + p) (y + q) a b d = radI x y a b d := congrArg upI et
        exact PC.run mixed Try.func5 [.res (ellT (x + p) (y + q) a b d 0), .res (ellT x y a b d 0), .auto, .tst true, .res (.int .i64 (trI (x + p) (y + q) a b d)), .res (.int .i64 (trI x y a b d)), .tst true, .res (.int .i64 (radI (x + p) (y + q) a b d)), .res (.int .i64 (radI x y a b d)), .tst true, .res (.bool true)] hfl (ts3 (ell_refl x y a b d) (tT et) (tT er)) (qs7 (shiftL_qc x y p q ha hb hd (ellT (x + p) (y + q) a b d 0) (by simp [shiftV, h1, h2, h3])) (shiftL_qc (x + p) (y + q) (nC p) (nC q) ha hb hd _ (shift_back h1 h2 h3)) (trace_qc (x + p) (y + q) ha hb hd) (trace_qc x y ha hb hd) (radius_qc (x + p) (y + q) ha hb hd) (radius_qc x y ha hb hd) (awakeL)) (rfl) (rfl) (by kernel_rfl)
      | false =>
        exact PC.run mixed Try.func5 [.res (ellT 0 0 0 0 0 2), .res (.bool true)] hfl (ts0 ) (qs2 (shiftL_qc x y p q ha hb hd (ellT 0 0 0 0 0 2) (by simp [shiftV, h1, h2, h3])) (awakeL)) (rfl) (rfl) (by kernel_rfl)
    | false =>
      exact PC.run mixed Try.func5 [.res (ellT 0 0 0 0 0 1), .res (.bool true)] hfl (ts0 ) (qs2 (shiftL_qc x y p q ha hb hd (ellT 0 0 0 0 0 1) (by simp [shiftV, h1, h2])) (awakeL)) (rfl) (rfl) (by kernel_rfl)
  | false =>
    exact PC.run mixed Try.func5 [.res (ellT 0 0 0 0 0 1), .res (.bool true)] hfl (ts0 ) (qs2 (shiftL_qc x y p q ha hb hd (ellT 0 0 0 0 0 1) (by simp [shiftV, h1])) (awakeL)) (rfl) (rfl) (by kernel_rfl)
theorem enters_ellipBackShift : ∀ us w, (callFunc 5 us).run Try.prog w = .ok (.enter 5 us) w := enters Try.func5 rfl (by kernel_rfl)
end Go.Proofs.Ytpbkkechkcalgaa.W
