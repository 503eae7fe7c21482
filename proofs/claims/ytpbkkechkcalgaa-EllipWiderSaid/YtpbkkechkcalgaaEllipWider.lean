/-
  EllipWider: a greater matrix holds more.
-/
import Derived.Test.YtpbkkechkcalgaaEllM
import Derived.Test.YtpbkkechkcalgaaEvT
namespace Go.Proofs.Ytpbkkechkcalgaa.W
open Go Go.Ev Go.Wide

theorem ellipWider_pc {x y a b d a' b' d' p q : Int} (ha : I64 a) (hb : I64 b) (hd : I64 d) (ha' : I64 a') (hb' : I64 b') (hd' : I64 d') : PC Try.prog 4 [ell x y a b d, sym a' b' d', pt p q] (.bool true) := by
  have hfl : [ell x y a b d, sym a' b' d', pt p q].all flat = true := by simp [flat_ell, flat_sym, flat_pt]
  cases h1 : mayL x y a b d with
  | true =>
    cases h2 : mayL x y a' b' d' with
    | true =>
      cases h3 : leastI a' b' d' a b d with
      | true =>
        cases h4 : inE x y a b d p q with
        | true =>
          exact PC.run mixed Try.func4 [.res (.bool true), .res (.bool true), .res (.bool true), .res (.bool true), .res (.bool true), .res (.int .i64 (trI x y a' b' d')), .res (.int .i64 (trI x y a b d)), .tst true, .res (.bool true)] hfl (ts1 (tT (trI_wider h1 h2 h3))) (qs8 (mayL_qc x y ha hb hd _ h1) (mayL_qc x y ha' hb' hd' _ h2) (leastM_qc ha' hb' hd' ha hb hd _ h3) (inE_qc x y p q ha hb hd _ h4) (inE_qc x y p q ha' hb' hd' _ (inE_wider h2 h3 h4)) (trace_qc x y ha' hb' hd') (trace_qc x y ha hb hd) (awakeL)) (rfl) (rfl) (by kernel_rfl)
        | false =>
          exact PC.run mixed Try.func4 [.res (.bool true), .res (.bool true), .res (.bool true), .res (.bool false), .res (.int .i64 (trI x y a' b' d')), .res (.int .i64 (trI x y a b d)), .tst true, .res (.bool true)] hfl (ts1 (tT (trI_wider h1 h2 h3))) (qs7 (mayL_qc x y ha hb hd _ h1) (mayL_qc x y ha' hb' hd' _ h2) (leastM_qc ha' hb' hd' ha hb hd _ h3) (inE_qc x y p q ha hb hd _ h4) (trace_qc x y ha' hb' hd') (trace_qc x y ha hb hd) (awakeL)) (rfl) (rfl) (by kernel_rfl)
      | false =>
        exact PC.run mixed Try.func4 [.res (.bool true), .res (.bool true), .res (.bool false), .res (.bool true)] hfl (ts0 ) (qs4 (mayL_qc x y ha hb hd _ h1) (mayL_qc x y ha' hb' hd' _ h2) (leastM_qc ha' hb' hd' ha hb hd _ h3) (awakeL)) (rfl) (rfl) (by kernel_rfl)
    | false =>
      exact PC.run mixed Try.func4 [.res (.bool true), .res (.bool false), .res (.bool true)] hfl (ts0 ) (qs3 (mayL_qc x y ha hb hd _ h1) (mayL_qc x y ha' hb' hd' _ h2) (awakeL)) (rfl) (rfl) (by kernel_rfl)
  | false =>
    exact PC.run mixed Try.func4 [.res (.bool false), .res (.bool true)] hfl (ts0 ) (qs2 (mayL_qc x y ha hb hd _ h1) (awakeL)) (rfl) (rfl) (by kernel_rfl)
theorem enters_ellipWider : ∀ us w, (callFunc 4 us).run Try.prog w = .ok (.enter 4 us) w := enters Try.func4 rfl (by kernel_rfl)
end Go.Proofs.Ytpbkkechkcalgaa.W
