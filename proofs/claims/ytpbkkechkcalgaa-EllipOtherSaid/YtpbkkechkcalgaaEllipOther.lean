/-
  EllipOther: the opposite point and the middle of two.
-/
import Derived.Test.YtpbkkechkcalgaaEllM
import Derived.Test.YtpbkkechkcalgaaEvT
namespace Go.Proofs.Ytpbkkechkcalgaa.W
open Go Go.Ev Go.Wide

def w2 (x p : Int) : Int := IntKind.i64.wrap (IntKind.i64.wrap (2 * x) - p)
def wp (p u : Int) : Int := IntKind.i64.wrap (p + u)
def wh (p u : Int) : Int := IntKind.i64.wrap ((wp p u).tdiv 2)
theorem w2_eq {x p : Int} (hx : -4194304 ≤ x ∧ x ≤ 4194304) (hp : -1073741824 ≤ p ∧ p ≤ 1073741824) : w2 x p = 2 * x - p := by
  unfold w2
  have e : IntKind.i64.wrap (2 * x) = 2 * x := i64_wrap (by omega) (by omega)
  rw [e, i64_wrap (by omega) (by omega)]
theorem wp_eq {p u : Int} (hp : -1073741824 ≤ p ∧ p ≤ 1073741824) (hu : -1073741824 ≤ u ∧ u ≤ 1073741824) : wp p u = p + u := i64_wrap (by omega) (by omega)
theorem wh_eq {p u : Int} (hp : -1073741824 ≤ p ∧ p ≤ 1073741824) (hu : -1073741824 ≤ u ∧ u ≤ 1073741824) (h : (wp p u).tmod 2 = 0) : p + u = 2 * wh p u := by
  unfold wh
  rw [wp_eq hp hu] at *
  have h1 := Int.mul_tdiv_add_tmod (p + u) 2
  rw [i64_wrap (by omega) (by omega)]
  omega
theorem inE_w2 {x y a b d p q : Int} (h : inE x y a b d p q = true) : inE x y a b d (w2 x p) (w2 y q) = true := by
  obtain ⟨h1, h2, _, _, _⟩ := inE_near h
  have g := mayL_iff.1 h1
  have g2 := within_iff.1 h2
  rw [w2_eq (by omega) (by omega), w2_eq (by omega) (by omega)]
  exact inE_other h
theorem inE_wh {x y a b d p q u v : Int} (h : inE x y a b d p q = true) (h' : inE x y a b d u v = true) (e1 : (wp p u).tmod 2 = 0) (e2 : (wp q v).tmod 2 = 0) : inE x y a b d (wh p u) (wh q v) = true := by
  obtain ⟨_, h2, _, _, _⟩ := inE_near h
  obtain ⟨_, h2', _, _, _⟩ := inE_near h'
  have g := within_iff.1 h2
  have g' := within_iff.1 h2'
  exact inE_mid (wh_eq (by omega) (by omega) e1) (wh_eq (by omega) (by omega) e2) h h'
theorem ellipOther_pc {x y a b d p q u v : Int} (ha : I64 a) (hb : I64 b) (hd : I64 d) : PC Try.prog 6 [ell x y a b d, pt p q, pt u v] (.bool true) := by
  have hfl : [ell x y a b d, pt p q, pt u v].all flat = true := by simp [flat_ell, flat_sym, flat_pt]
  cases h1 : inE x y a b d p q with
  | true =>
    cases h2 : inE x y a b d u v with
    | true =>
      by_cases e1 : (wp p u).tmod 2 = 0
      ·
        by_cases e2 : (wp q v).tmod 2 = 0
        ·
          exact PC.run mixed Try.func6 [.res (.bool true), .res (.bool true), .res (.bool true), .auto, .tst false, .tst false, .res (.bool true), .res (.bool true)] hfl (ts2 (tN e1) (tN e2)) (qs5 (inE_qc x y p q ha hb hd _ h1) (inE_qc x y (w2 x p) (w2 y q) ha hb hd _ (inE_w2 h1)) (inE_qc x y u v ha hb hd _ h2) (inE_qc x y (wh p u) (wh q v) ha hb hd _ (inE_wh h1 h2 e1 e2)) (awakeL)) (rfl) (rfl) (by kernel_rfl)
        ·
          exact PC.run mixed Try.func6 [.res (.bool true), .res (.bool true), .res (.bool true), .auto, .tst false, .tst true, .res (.bool true)] hfl (ts2 (tN e1) (tF e2)) (qs4 (inE_qc x y p q ha hb hd _ h1) (inE_qc x y (w2 x p) (w2 y q) ha hb hd _ (inE_w2 h1)) (inE_qc x y u v ha hb hd _ h2) (awakeL)) (rfl) (rfl) (by kernel_rfl)
      ·
        exact PC.run mixed Try.func6 [.res (.bool true), .res (.bool true), .res (.bool true), .auto, .tst true, .res (.bool true)] hfl (ts1 (tF e1)) (qs4 (inE_qc x y p q ha hb hd _ h1) (inE_qc x y (w2 x p) (w2 y q) ha hb hd _ (inE_w2 h1)) (inE_qc x y u v ha hb hd _ h2) (awakeL)) (rfl) (rfl) (by kernel_rfl)
    | false =>
      exact PC.run mixed Try.func6 [.res (.bool true), .res (.bool true), .res (.bool false), .res (.bool true)] hfl (ts0 ) (qs4 (inE_qc x y p q ha hb hd _ h1) (inE_qc x y (w2 x p) (w2 y q) ha hb hd _ (inE_w2 h1)) (inE_qc x y u v ha hb hd _ h2) (awakeL)) (rfl) (rfl) (by kernel_rfl)
  | false =>
    exact PC.run mixed Try.func6 [.res (.bool false), .res (.bool true)] hfl (ts0 ) (qs2 (inE_qc x y p q ha hb hd _ h1) (awakeL)) (rfl) (rfl) (by kernel_rfl)
theorem enters_ellipOther : ∀ us w, (callFunc 6 us).run Try.prog w = .ok (.enter 6 us) w := enters Try.func6 rfl (by kernel_rfl)
end Go.Proofs.Ytpbkkechkcalgaa.W
