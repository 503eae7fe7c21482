/-
  MatForms: the program's matrices answer as the reference's.
-/
import Derived.Test.YtfgnjkjnhakihaaTokM
namespace Go.Proofs.Ytfgnjkjnhakihaa.W
open Go Go.Ev Go.Wide
open Go.Proofs.Ytfgnjkjnhakihaa.R (rz rAddMat rAdj rMay rDet rQuad rtext rPsd rLeast rHolds qsC)

theorem symN (x y z : Int) : (!(!(decide (x = x) && (decide (y = y) && (decide (z = z) && true))))) = true := by simp
theorem intN (e : Int) : (!(!decide (e = e))) = true := by simp
theorem boolN (m : Bool) : (!(!decide (m = m))) = true := by simp
theorem boolE (m : Bool) : decide (m = m) = true := by simp
theorem sumV_form (a b d a' b' d' : Int) : ∃ x y z e, sumV a b d a' b' d' = .tuple #[sym x y z, .int .i64 e] := by
  unfold sumV
  split
  · split
    · exact ⟨_, _, _, _, rfl⟩
    · exact ⟨_, _, _, _, rfl⟩
  · exact ⟨_, _, _, _, rfl⟩
theorem adjV_form (a b d : Int) : ∃ x y z, adjV a b d = sym x y z := by
  unfold adjV
  split
  · exact ⟨_, _, _, rfl⟩
  · exact ⟨_, _, _, rfl⟩
theorem conj_c {b : Bool} {l : List Bool} (h : b = true) (t : conj l = true) : conj (b :: l) = true := by rw [conj_cons, h, t]; rfl
theorem matForms_pc {a b d a' b' d' x y : Int} (ha : I64 a) (hb : I64 b) (hd : I64 d) (ha' : I64 a') (hb' : I64 b') (hd' : I64 d') (hx : I64 x) (hy : I64 y) : PC Try.prog 11 [sym a b d, sym a' b' d', pt x y] (.bool true) := by
  have hfl : [sym a b d, sym a' b' d', pt x y].all flat = true := by simp [flat_sym, flat_pt]
  obtain ⟨p, q, r, e, es⟩ := sumV_form a b d a' b' d'
  obtain ⟨u, v, w, ea⟩ := adjV_form a b d
  have h1 := QC.of_pc enters_addM (addM_pc a b d a' b' d')
  have h2 := rAddMat a b d a' b' d'
  have h3 := QC.of_pc enters_adj (adj_pc a b d)
  have h4 := rAdj a b d
  rw [es] at h1 h2
  rw [ea] at h3 h4
  have sD := detI_sm ha.sm hb.sm hd.sm
  have sQ := quadI_sm ha hb hd hx hy
  exact PC.run mixed Try.func11 [.res (.tuple #[sym p q r, .int .i64 e]), .ab (.tuple #[sym p q r, .int .i64 e]), .tst false, .tst false, .res (sym u v w), .ab (sym u v w), .tst false, .res (.bool (mayM a b d)), .ab (.bool (mayM a b d)), .tst false,
      .res (wz (detI a b d)), .res (.string (textB (some (detI a b d)))), .ab (rz (detI a b d)), .ab (.string (textB (some (detI a b d)))), .tst true, .res (wz (quadI a b d x y)), .res (.string (textB (some (quadI a b d x y)))), .ab (rz (quadI a b d x y)), .ab (.string (textB (some (quadI a b d x y)))), .tst true,
      .res (.bool (psdI a b d)), .ab (.bool (psdI a b d)), .tst true, .res (.bool (leastI a b d a' b' d')), .ab (.bool (leastI a b d a' b' d')), .tst true, .res (.bool (holdsI a b d x y)), .ab (.bool (holdsI a b d x y)), .tst true, .res (.bool true)] hfl
    (conj_c (symN p q r) <| conj_c (intN e) <| conj_c (symN u v w) <| conj_c (boolN (mayM a b d)) <| conj_c (str_refl (textB (some (detI a b d)))) <| conj_c (str_refl (textB (some (quadI a b d x y)))) <| conj_c (boolE (psdI a b d)) <| conj_c (boolE (leastI a b d a' b' d')) <| conj_c (boolE (holdsI a b d x y)) ts0)
    (qsC h1 <| qsC h2 <| qsC h3 <| qsC h4 <| qsC (may_qc a b d _ rfl) <| qsC (rMay a b d) <| qsC (QC.of_pc enters_detM (detM_pc ha hb hd)) <| qsC (text_wz sD _ rfl) <| qsC (rDet ha hb hd) <| qsC (rtext sD _ rfl) <|
      qsC (QC.of_pc enters_quadM (quadM_pc ha hb hd hx hy)) <| qsC (text_wz sQ _ rfl) <| qsC (rQuad ha hb hd hx hy) <| qsC (rtext sQ _ rfl) <| qsC (psdM_qc ha hb hd _ rfl) <| qsC (rPsd ha hb hd) <| qsC (leastM_qc ha hb hd ha' hb' hd' _ rfl) <| qsC (rLeast a b d a' b' d') <|
      qsC (holdsM_qc ha hb hd hx hy _ rfl) <| qsC (rHolds ha hb hd hx hy) <| qsC awakeM qs0) rfl rfl (by kernel_rfl)
theorem enters_matForms : ∀ us w, (callFunc 11 us).run Try.prog w = .ok (.enter 11 us) w := enters Try.func11 rfl (by kernel_rfl)
end Go.Proofs.Ytfgnjkjnhakihaa.W
