/-
  InfoOf: the program's inequalities, mixtures and who is in answer as the reference's.
-/
import Derived.Test.YtlbdfgpdgcldhaaGreatTokK
import Derived.Test.YtlbdfgpdgcldhaaGreatInfoFuses
namespace Go.Proofs.YtlbdfgpdgcldhaaGreat.W
open Go Go.Ev Go.Wide
open Go.Proofs.YtlbdfgpdgcldhaaGreat.R (riV riT eofV eosV eOf_t eOs_t eMix_lo eMix_hi eMix_t eStrip_qc eHas_t isame qsC okW okW_iff okW_not)

theorem int_reflN (e : Int) : (!(!decide (e = e))) = true := by simp
theorem bool_reflN (m : Bool) : (!(!decide (m = m))) = true := by simp
theorem bool_reflP (m : Bool) : decide (m = m) = true := by simp
theorem noQ_inp : noQ.Inp := ⟨by unfold Sm noQ; decide, by unfold Sm noQ; decide, by unfold Sm noQ; decide, by unfold Sm noQ; decide, by unfold Sm noQ; decide, by unfold Sm noQ; decide, by unfold Sm noQ; decide⟩
theorem of_both (x y a b d : Int) : ∃ (i : Inq) (e : Nat), i.Inp ∧ ofV x y a b d = i.res e ∧ eofV x y a b d = riT i e := by
  unfold ofV eofV
  cases h : mayL x y a b d with
  | true => exact ⟨_, _, ofQ_inp h, rfl, rfl⟩
  | false => exact ⟨_, _, noQ_inp, rfl, rfl⟩
theorem os_both (ox oy hx hy lo hi : Int) : ∃ (i : Inq) (e : Nat), i.Inp ∧ osV ox oy hx hy lo hi = i.res e ∧ eosV ox oy hx hy lo hi = riT i e := by
  unfold osV eosV
  cases h : mayS ox oy hx hy lo hi with
  | true => exact ⟨_, _, osQ_inp h, rfl, rfl⟩
  | false => exact ⟨_, _, noQ_inp, rfl, rfl⟩
theorem mix_both {i j : Inq} (w : Int) (hi : i.Inp) (hj : j.Inp) : ∃ (m : Inq) (e : Nat), Low m.a m.b m.d m.u m.v m.z m.n ∧ QC Tryz.prog 15 [i.val, j.val, .int .i64 w] (m.res e) ∧ MC Tryz.prog 16 [riV i, riV j, .int .i64 w] [] (riT m e) [] := by
  cases h : okW w with
  | true =>
    have g := okW_iff.1 h
    exact ⟨_, 0, mixQ_low g.1 g.2 hi hj, mixQ_qc g.1 g.2 hi hj, eMix_t g.1 g.2 hi hj⟩
  | false =>
    refine ⟨noQ, 1, noQ_inp.low, mix_bad h, ?_⟩
    rcases okW_not h with h4 | ⟨h4, h5⟩
    · exact eMix_lo h4
    · exact eMix_hi h4 h5
theorem io_run {x y a b d x' y' a' b' d' ox oy hx hy lo hi w p q : Int} {i j g m k : Inq} {e1 e2 e3 e4 e5 : Nat} {mS n1 n2 n3 n4 : Bool} (h1 : QC Tryz.prog 6 [ell x y a b d] (i.res e1)) (f1 : MC Tryz.prog 7 [ell x y a b d] [] (riT i e1) []) (h2 : QC Tryz.prog 8 [strV ox oy hx hy lo hi] (j.res e2)) (f2 : MC Tryz.prog 9 [strV ox oy hx hy lo hi] [] (riT j e2) [])
    (s1 : MC Tryz.prog 10 [i.val, riV i] [] (.bool true) []) (s2 : MC Tryz.prog 10 [j.val, riV j] [] (.bool true) []) (h3 : QC Tryz.prog 11 [strV ox oy hx hy lo hi] (.bool mS)) (f3 : QC Tryz.prog 12 [strV ox oy hx hy lo hi] (.bool mS))
    (h4 : QC Tryz.prog 13 [i.val, pt p q] (.bool n1)) (f4 : MC Tryz.prog 14 [riV i, pt p q] [] (.bool n1) []) (h5 : QC Tryz.prog 13 [j.val, pt p q] (.bool n2)) (f5 : MC Tryz.prog 14 [riV j, pt p q] [] (.bool n2) [])
    (h6 : QC Tryz.prog 6 [ell x' y' a' b' d'] (g.res e3)) (f6 : MC Tryz.prog 7 [ell x' y' a' b' d'] [] (riT g e3) []) (h7 : QC Tryz.prog 15 [i.val, g.val, .int .i64 w] (m.res e4)) (f7 : MC Tryz.prog 16 [riV i, riV g, .int .i64 w] [] (riT m e4) []) (h8 : QC Tryz.prog 15 [i.val, j.val, .int .i64 w] (k.res e5)) (f8 : MC Tryz.prog 16 [riV i, riV j, .int .i64 w] [] (riT k e5) [])
    (s3 : MC Tryz.prog 10 [m.val, riV m] [] (.bool true) []) (s4 : MC Tryz.prog 10 [k.val, riV k] [] (.bool true) []) (h9 : QC Tryz.prog 13 [m.val, pt p q] (.bool n3)) (f9 : MC Tryz.prog 14 [riV m, pt p q] [] (.bool n3) []) (h10 : QC Tryz.prog 13 [k.val, pt p q] (.bool n4)) (f10 : MC Tryz.prog 14 [riV k, pt p q] [] (.bool n4) []) :
    PC Tryz.prog 3 [ell x y a b d, ell x' y' a' b' d', strV ox oy hx hy lo hi, .int .i64 w, pt p q] (.bool true) :=
  PC.run mixed Tryz.func3 [.res (i.res e1), .ab (riT i e1), .res (j.res e2), .ab (riT j e2), .tst false, .ab (.bool true), .auto, .tst false, .ab (.bool true), .res (.bool mS), .res (.bool mS), .tst false, .res (.bool n1), .ab (.bool n1), .tst false, .res (.bool n2), .ab (.bool n2), .tst false,
    .res (g.res e3), .ab (riT g e3), .res (m.res e4), .ab (riT m e4), .res (k.res e5), .ab (riT k e5), .tst true, .ab (.bool true), .auto, .tst true, .ab (.bool true), .res (.bool n3), .ab (.bool n3), .tst true, .res (.bool n4), .ab (.bool n4), .tst true, .res (.bool true)] (by simp [flat_ell, flat_strV, flat_pt]; rfl)
    (Go.Ev.tsC (int_reflN e1) <| Go.Ev.tsC (int_reflN e2) <| Go.Ev.tsC (bool_reflN mS) <| Go.Ev.tsC (bool_reflN n1) <| Go.Ev.tsC (bool_reflN n2) <| Go.Ev.tsC (tT (rfl : (e4 : Int) = e4)) <| Go.Ev.tsC (tT (rfl : (e5 : Int) = e5)) <| Go.Ev.tsC (bool_reflP n3) <| Go.Ev.tsC (bool_reflP n4) ts0)
    (qsC h1 <| qsC f1 <| qsC h2 <| qsC f2 <| qsC s1 <| qsC s2 <| qsC h3 <| qsC f3 <| qsC h4 <| qsC f4 <| qsC h5 <| qsC f5 <| qsC h6 <| qsC f6 <| qsC h7 <| qsC f7 <| qsC h8 <| qsC f8 <| qsC s3 <| qsC s4 <| qsC h9 <| qsC f9 <| qsC h10 <| qsC f10 <| qsC awakeI qs0) rfl rfl (by kernel_rfl)
theorem infoOf_pc {x y a b d x' y' a' b' d' ox oy hx hy lo hi w p q : Int} (ha : I64 a) (hb : I64 b) (hd : I64 d) (ha' : I64 a') (hb' : I64 b') (hd' : I64 d') : PC Tryz.prog 3 [ell x y a b d, ell x' y' a' b' d', strV ox oy hx hy lo hi, .int .i64 w, pt p q] (.bool true) := by
  obtain ⟨i, e1, i1, k1, k2⟩ := of_both x y a b d
  obtain ⟨j, e2, i2, k3, k4⟩ := os_both ox oy hx hy lo hi
  obtain ⟨g, e3, i3, k5, k6⟩ := of_both x' y' a' b' d'
  obtain ⟨m, e4, lm, h7, f7⟩ := mix_both w i1 i3
  obtain ⟨k, e5, lk, h8, f8⟩ := mix_both w i1 i2
  have f1 := eOf_t (x := x) (y := y) ha hb hd
  have f2 := eOs_t ox oy hx hy lo hi
  have f6 := eOf_t (x := x') (y := y') ha' hb' hd'
  rw [k2] at f1
  rw [k4] at f2
  rw [k6] at f6
  exact io_run (iof_qc x y ha hb hd _ k1) f1 (ios_qc ox oy hx hy lo hi _ k3) f2 (isame i1.low) (isame i2.low) (mayS_qc ox oy hx hy lo hi _ rfl) (eStrip_qc ox oy hx hy lo hi _ rfl) (inQ_qc i1.low p q _ rfl) (eHas_t i1.low p q) (inQ_qc i2.low p q _ rfl) (eHas_t i2.low p q) (iof_qc x' y' ha' hb' hd' _ k5) f6 h7 f7 h8 f8 (isame lm) (isame lk) (inQ_qc lm p q _ rfl) (eHas_t lm p q) (inQ_qc lk p q _ rfl) (eHas_t lk p q)
theorem enters_infoOf : ∀ us w, (callFunc 3 us).run Tryz.prog w = .ok (.enter 3 us) w := enters Tryz.func3 rfl (by kernel_rfl)
end Go.Proofs.YtlbdfgpdgcldhaaGreat.W
