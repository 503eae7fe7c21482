/-
  MatOrder: a partial order.
-/
import Derived.Test.YtokamlicglibkaaMatM
import Derived.Test.YtokamlicglibkaaEvS
namespace Go.Proofs.Ytokamlicglibkaa.W
open Go Go.Ev Go.Wide

theorem matOrder_pc {a b d a' b' d' a'' b'' d'' : Int} (ha : I64 a) (hb : I64 b) (hd : I64 d) (ha' : I64 a') (hb' : I64 b') (hd' : I64 d') (ha'' : I64 a'') (hb'' : I64 b'') (hd'' : I64 d'') : PC Try.prog 5 [sym a b d, sym a' b' d', sym a'' b'' d''] (.bool true) := by
  have hfl : [sym a b d, sym a' b' d', sym a'' b'' d''].all flat = true := by simp [flat_sym, flat_pt]
  cases h1 : leastI a b d a' b' d' with
  | true =>
    cases h2 : leastI a' b' d' a'' b'' d'' with
    | true =>
      cases h4 : mayM a b d with
      | true =>
        cases h5 : leastI a' b' d' a b d with
        | true =>
          obtain ⟨rfl, rfl, rfl⟩ := least_antisymm h1 h5
          exact PC.run mixed Try.func5 [.res (.bool true), .res (.bool true), .res (.bool true), .res (.bool true), .res (.bool true), .res (.bool true), .res (.bool true), .auto, .tst true, .res (.bool true)] hfl (ts1 (sym_refl a b d)) (qs8 (leastM_qc ha hb hd ha' hb' hd' _ h1) (leastM_qc ha' hb' hd' ha'' hb'' hd'' _ h2) (leastM_qc ha hb hd ha'' hb'' hd'' _ (least_trans h1 h2)) (may_qc a b d _ h4) (leastM_qc ha hb hd ha hb hd _ (least_refl h4)) (leastM_qc ha hb hd ha' hb' hd' _ h1) (leastM_qc ha' hb' hd' ha hb hd _ h5) (awakeM)) (rfl) (rfl) (by kernel_rfl)
        | false =>
          exact PC.run mixed Try.func5 [.res (.bool true), .res (.bool true), .res (.bool true), .res (.bool true), .res (.bool true), .res (.bool true), .res (.bool false), .res (.bool true)] hfl (ts0 ) (qs8 (leastM_qc ha hb hd ha' hb' hd' _ h1) (leastM_qc ha' hb' hd' ha'' hb'' hd'' _ h2) (leastM_qc ha hb hd ha'' hb'' hd'' _ (least_trans h1 h2)) (may_qc a b d _ h4) (leastM_qc ha hb hd ha hb hd _ (least_refl h4)) (leastM_qc ha hb hd ha' hb' hd' _ h1) (leastM_qc ha' hb' hd' ha hb hd _ h5) (awakeM)) (rfl) (rfl) (by kernel_rfl)
      | false =>
        cases h5 : leastI a' b' d' a b d with
        | true =>
          obtain ⟨rfl, rfl, rfl⟩ := least_antisymm h1 h5
          exact PC.run mixed Try.func5 [.res (.bool true), .res (.bool true), .res (.bool true), .res (.bool false), .res (.bool true), .res (.bool true), .auto, .tst true, .res (.bool true)] hfl (ts1 (sym_refl a b d)) (qs7 (leastM_qc ha hb hd ha' hb' hd' _ h1) (leastM_qc ha' hb' hd' ha'' hb'' hd'' _ h2) (leastM_qc ha hb hd ha'' hb'' hd'' _ (least_trans h1 h2)) (may_qc a b d _ h4) (leastM_qc ha hb hd ha' hb' hd' _ h1) (leastM_qc ha' hb' hd' ha hb hd _ h5) (awakeM)) (rfl) (rfl) (by kernel_rfl)
        | false =>
          exact PC.run mixed Try.func5 [.res (.bool true), .res (.bool true), .res (.bool true), .res (.bool false), .res (.bool true), .res (.bool false), .res (.bool true)] hfl (ts0 ) (qs7 (leastM_qc ha hb hd ha' hb' hd' _ h1) (leastM_qc ha' hb' hd' ha'' hb'' hd'' _ h2) (leastM_qc ha hb hd ha'' hb'' hd'' _ (least_trans h1 h2)) (may_qc a b d _ h4) (leastM_qc ha hb hd ha' hb' hd' _ h1) (leastM_qc ha' hb' hd' ha hb hd _ h5) (awakeM)) (rfl) (rfl) (by kernel_rfl)
    | false =>
      cases h4 : mayM a b d with
      | true =>
        cases h5 : leastI a' b' d' a b d with
        | true =>
          obtain ⟨rfl, rfl, rfl⟩ := least_antisymm h1 h5
          exact PC.run mixed Try.func5 [.res (.bool true), .res (.bool false), .res (.bool true), .res (.bool true), .res (.bool true), .res (.bool true), .auto, .tst true, .res (.bool true)] hfl (ts1 (sym_refl a b d)) (qs7 (leastM_qc ha hb hd ha' hb' hd' _ h1) (leastM_qc ha' hb' hd' ha'' hb'' hd'' _ h2) (may_qc a b d _ h4) (leastM_qc ha hb hd ha hb hd _ (least_refl h4)) (leastM_qc ha hb hd ha' hb' hd' _ h1) (leastM_qc ha' hb' hd' ha hb hd _ h5) (awakeM)) (rfl) (rfl) (by kernel_rfl)
        | false =>
          exact PC.run mixed Try.func5 [.res (.bool true), .res (.bool false), .res (.bool true), .res (.bool true), .res (.bool true), .res (.bool false), .res (.bool true)] hfl (ts0 ) (qs7 (leastM_qc ha hb hd ha' hb' hd' _ h1) (leastM_qc ha' hb' hd' ha'' hb'' hd'' _ h2) (may_qc a b d _ h4) (leastM_qc ha hb hd ha hb hd _ (least_refl h4)) (leastM_qc ha hb hd ha' hb' hd' _ h1) (leastM_qc ha' hb' hd' ha hb hd _ h5) (awakeM)) (rfl) (rfl) (by kernel_rfl)
      | false =>
        cases h5 : leastI a' b' d' a b d with
        | true =>
          obtain ⟨rfl, rfl, rfl⟩ := least_antisymm h1 h5
          exact PC.run mixed Try.func5 [.res (.bool true), .res (.bool false), .res (.bool false), .res (.bool true), .res (.bool true), .auto, .tst true, .res (.bool true)] hfl (ts1 (sym_refl a b d)) (qs6 (leastM_qc ha hb hd ha' hb' hd' _ h1) (leastM_qc ha' hb' hd' ha'' hb'' hd'' _ h2) (may_qc a b d _ h4) (leastM_qc ha hb hd ha' hb' hd' _ h1) (leastM_qc ha' hb' hd' ha hb hd _ h5) (awakeM)) (rfl) (rfl) (by kernel_rfl)
        | false =>
          exact PC.run mixed Try.func5 [.res (.bool true), .res (.bool false), .res (.bool false), .res (.bool true), .res (.bool false), .res (.bool true)] hfl (ts0 ) (qs6 (leastM_qc ha hb hd ha' hb' hd' _ h1) (leastM_qc ha' hb' hd' ha'' hb'' hd'' _ h2) (may_qc a b d _ h4) (leastM_qc ha hb hd ha' hb' hd' _ h1) (leastM_qc ha' hb' hd' ha hb hd _ h5) (awakeM)) (rfl) (rfl) (by kernel_rfl)
  | false =>
    cases h4 : mayM a b d with
    | true =>
      exact PC.run mixed Try.func5 [.res (.bool false), .res (.bool true), .res (.bool true), .res (.bool false), .res (.bool true)] hfl (ts0 ) (qs5 (leastM_qc ha hb hd ha' hb' hd' _ h1) (may_qc a b d _ h4) (leastM_qc ha hb hd ha hb hd _ (least_refl h4)) (leastM_qc ha hb hd ha' hb' hd' _ h1) (awakeM)) (rfl) (rfl) (by kernel_rfl)
    | false =>
      exact PC.run mixed Try.func5 [.res (.bool false), .res (.bool false), .res (.bool false), .res (.bool true)] hfl (ts0 ) (qs4 (leastM_qc ha hb hd ha' hb' hd' _ h1) (may_qc a b d _ h4) (leastM_qc ha hb hd ha' hb' hd' _ h1) (awakeM)) (rfl) (rfl) (by kernel_rfl)
theorem enters_matOrder : ∀ us w, (callFunc 5 us).run Try.prog w = .ok (.enter 5 us) w := enters Try.func5 rfl (by kernel_rfl)
end Go.Proofs.Ytokamlicglibkaa.W
