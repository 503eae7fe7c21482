/-
  InfoSides: an inequality is its ellipse, or its strip; a mixture holds where both do.
-/
import Derived.Test.YtkfkfodaikpjoaaInfoMeets
namespace Go.Proofs.Ytkfkfodaikpjoaa.W
open Go Go.Ev Go.Wide

theorem inQ_of {x y a b d p q : Int} (h : mayL x y a b d = true) : inQ (ofQ x y a b d) p q = inE x y a b d p q := by
  unfold inQ inE
  rw [h, Bool.true_and]
  congr 1
  rw [Bool.eq_iff_iff, decide_eq_true_iff]
  exact of_in h
theorem inQ_os {ox oy hx hy lo hi p q : Int} (h : mayS ox oy hx hy lo hi = true) (hw : within p q 1073741824 = true) : inQ (osQ ox oy hx hy lo hi) p q = (decide (atI ox oy hx hy p q ≥ lo) && decide (atI ox oy hx hy p q ≤ hi)) := by
  have g := mayS_iff.1 h
  unfold inQ
  rw [hw, Bool.true_and, Bool.eq_iff_iff, decide_eq_true_iff, Bool.and_eq_true, decide_eq_true_iff, decide_eq_true_iff]
  exact os_in g.2.2.2.2.1
theorem inQ_mix {i j : Inq} {w p q : Int} (h0 : 0 ≤ w) (h1 : w ≤ 34) (hi : 0 ≤ i.n) (hj : 0 ≤ j.n) (h : inQ i p q = true) (h' : inQ j p q = true) : inQ (mixQ i j w) p q = true := by
  unfold inQ at *
  simp only [Bool.and_eq_true, decide_eq_true_iff] at *
  exact ⟨h.1, mix_holds h0 h1 hi hj h.2 h'.2⟩
theorem eqB2 {b c : Bool} (h : b = c) : (!(!(b == c))) = true := by subst h; cases b <;> rfl
theorem infoSides_pc {x y a b d ox oy hx hy lo hi w p q : Int} (ha : I64 a) (hb : I64 b) (hd : I64 d) : PC Try.prog 4 [ell x y a b d, strV ox oy hx hy lo hi, Value.int .i64 w, pt p q] (.bool true) := by
  have hfl : [ell x y a b d, strV ox oy hx hy lo hi, Value.int .i64 w, pt p q].all flat = true := by simp [flat_ell, flat_pt, flat_strV]; rfl --]
  have hn : 0 ≤ n35 w ∧ n35 w < 35 := u64_mod w (by omega) (by omega)
  by_cases p0 : p < -67108864
  ·
    exact PC.run mixed Try.func4 [.tst true, .res (.bool true)] hfl (ts1 (tT p0)) (qs1 (awakeI)) (rfl) (rfl) (by kernel_rfl)
  ·
    by_cases p1 : p > 67108864
    ·
      exact PC.run mixed Try.func4 [.tst false, .tst true, .res (.bool true)] hfl (ts2 (tF p0) (tT p1)) (qs1 (awakeI)) (rfl) (rfl) (by kernel_rfl)
    ·
      by_cases q0 : q < -67108864
      ·
        exact PC.run mixed Try.func4 [.tst false, .tst false, .tst true, .res (.bool true)] hfl (ts3 (tF p0) (tF p1) (tT q0)) (qs1 (awakeI)) (rfl) (rfl) (by kernel_rfl)
      ·
        by_cases q1 : q > 67108864
        ·
          exact PC.run mixed Try.func4 [.tst false, .tst false, .tst false, .tst true, .res (.bool true)] hfl (ts4 (tF p0) (tF p1) (tF q0) (tT q1)) (qs1 (awakeI)) (rfl) (rfl) (by kernel_rfl)
        ·
          cases h1 : mayL x y a b d with
          | true =>
            cases h2 : mayS ox oy hx hy lo hi with
            | true =>
              have g := mayL_iff.1 h1
              have hw : within p q 1073741824 = true := within_iff.2 (by omega)
              have hat := atW_eq (p := p) (q := q) h2 (by omega) (by omega)
              cases h4 : inE x y a b d p q with
              | true =>
                have k1 : inQ (ofQ x y a b d) p q = true := (inQ_of h1).trans h4
                by_cases c1 : atW ox oy hx hy p q ≥ lo
                ·
                  by_cases c2 : atW ox oy hx hy p q ≤ hi
                  ·
                    have k2 : inQ (osQ ox oy hx hy lo hi) p q = true := by rw [inQ_os h2 hw, ← hat]; simp; omega
                    exact PC.run mixed Try.func4 [.tst false, .tst false, .tst false, .tst false, .res (.bool true), .res (.bool true), .res ((ofQ x y a b d).res 0), .res ((osQ ox oy hx hy lo hi).res 0), .res ((mixQ (ofQ x y a b d) (osQ ox oy hx hy lo hi) (n35 w)).res 0), .res (.bool true), .res (.bool true), .res (.bool true), .auto, .tst true, .tst false, .res (.bool true), .res (.bool true)] hfl (ts6 (tF p0) (tF p1) (tF q0) (tF q1) (tT c1) (eqB2 (b := true) (c := decide (atW ox oy hx hy p q ≤ hi)) (decide_eq_true c2).symm)) (qs10 (mayL_qc x y ha hb hd _ h1) (mayS_qc _ _ _ _ _ _ _ h2) (iof_qc x y ha hb hd _ (by unfold ofV; rw [h1])) (ios_qc ox oy hx hy lo hi _ (by unfold osV; rw [h2])) (mixQ_qc hn.1 (by omega) (ofQ_inp h1) (osQ_inp h2)) (inQ_qc (ofQ_inp h1).low p q _ k1) (inQ_qc (osQ_inp h2).low p q _ k2) (inE_qc x y p q ha hb hd _ h4) (inQ_qc (mixQ_low hn.1 (by omega) (ofQ_inp h1) (osQ_inp h2)) p q _ (inQ_mix hn.1 (by omega) (show 0 ≤ detI a b d by omega) (show 0 ≤ (hi - lo) * (hi - lo) from sq_nn _) k1 k2)) (awakeI)) (rfl) (rfl) (by kernel_rfl)
                  ·
                    have k2 : inQ (osQ ox oy hx hy lo hi) p q = false := by rw [inQ_os h2 hw, ← hat]; simp; omega
                    exact PC.run mixed Try.func4 [.tst false, .tst false, .tst false, .tst false, .res (.bool true), .res (.bool true), .res ((ofQ x y a b d).res 0), .res ((osQ ox oy hx hy lo hi).res 0), .res ((mixQ (ofQ x y a b d) (osQ ox oy hx hy lo hi) (n35 w)).res 0), .res (.bool true), .res (.bool false), .res (.bool true), .auto, .tst true, .tst false, .res (.bool true)] hfl (ts6 (tF p0) (tF p1) (tF q0) (tF q1) (tT c1) (eqB2 (b := false) (c := decide (atW ox oy hx hy p q ≤ hi)) (decide_eq_false c2).symm)) (qs9 (mayL_qc x y ha hb hd _ h1) (mayS_qc _ _ _ _ _ _ _ h2) (iof_qc x y ha hb hd _ (by unfold ofV; rw [h1])) (ios_qc ox oy hx hy lo hi _ (by unfold osV; rw [h2])) (mixQ_qc hn.1 (by omega) (ofQ_inp h1) (osQ_inp h2)) (inQ_qc (ofQ_inp h1).low p q _ k1) (inQ_qc (osQ_inp h2).low p q _ k2) (inE_qc x y p q ha hb hd _ h4) (awakeI)) (rfl) (rfl) (by kernel_rfl)
                ·
                  have k2 : inQ (osQ ox oy hx hy lo hi) p q = false := by rw [inQ_os h2 hw, ← hat]; simp; omega
                  exact PC.run mixed Try.func4 [.tst false, .tst false, .tst false, .tst false, .res (.bool true), .res (.bool true), .res ((ofQ x y a b d).res 0), .res ((osQ ox oy hx hy lo hi).res 0), .res ((mixQ (ofQ x y a b d) (osQ ox oy hx hy lo hi) (n35 w)).res 0), .res (.bool true), .res (.bool false), .res (.bool true), .auto, .tst false, .res (.bool true)] hfl (ts5 (tF p0) (tF p1) (tF q0) (tF q1) (tF c1)) (qs9 (mayL_qc x y ha hb hd _ h1) (mayS_qc _ _ _ _ _ _ _ h2) (iof_qc x y ha hb hd _ (by unfold ofV; rw [h1])) (ios_qc ox oy hx hy lo hi _ (by unfold osV; rw [h2])) (mixQ_qc hn.1 (by omega) (ofQ_inp h1) (osQ_inp h2)) (inQ_qc (ofQ_inp h1).low p q _ k1) (inQ_qc (osQ_inp h2).low p q _ k2) (inE_qc x y p q ha hb hd _ h4) (awakeI)) (rfl) (rfl) (by kernel_rfl)
              | false =>
                have k1 : inQ (ofQ x y a b d) p q = false := (inQ_of h1).trans h4
                by_cases c1 : atW ox oy hx hy p q ≥ lo
                ·
                  by_cases c2 : atW ox oy hx hy p q ≤ hi
                  ·
                    have k2 : inQ (osQ ox oy hx hy lo hi) p q = true := by rw [inQ_os h2 hw, ← hat]; simp; omega
                    exact PC.run mixed Try.func4 [.tst false, .tst false, .tst false, .tst false, .res (.bool true), .res (.bool true), .res ((ofQ x y a b d).res 0), .res ((osQ ox oy hx hy lo hi).res 0), .res ((mixQ (ofQ x y a b d) (osQ ox oy hx hy lo hi) (n35 w)).res 0), .res (.bool false), .res (.bool true), .res (.bool false), .auto, .tst true, .tst false, .res (.bool true)] hfl (ts6 (tF p0) (tF p1) (tF q0) (tF q1) (tT c1) (eqB2 (b := true) (c := decide (atW ox oy hx hy p q ≤ hi)) (decide_eq_true c2).symm)) (qs9 (mayL_qc x y ha hb hd _ h1) (mayS_qc _ _ _ _ _ _ _ h2) (iof_qc x y ha hb hd _ (by unfold ofV; rw [h1])) (ios_qc ox oy hx hy lo hi _ (by unfold osV; rw [h2])) (mixQ_qc hn.1 (by omega) (ofQ_inp h1) (osQ_inp h2)) (inQ_qc (ofQ_inp h1).low p q _ k1) (inQ_qc (osQ_inp h2).low p q _ k2) (inE_qc x y p q ha hb hd _ h4) (awakeI)) (rfl) (rfl) (by kernel_rfl)
                  ·
                    have k2 : inQ (osQ ox oy hx hy lo hi) p q = false := by rw [inQ_os h2 hw, ← hat]; simp; omega
                    exact PC.run mixed Try.func4 [.tst false, .tst false, .tst false, .tst false, .res (.bool true), .res (.bool true), .res ((ofQ x y a b d).res 0), .res ((osQ ox oy hx hy lo hi).res 0), .res ((mixQ (ofQ x y a b d) (osQ ox oy hx hy lo hi) (n35 w)).res 0), .res (.bool false), .res (.bool false), .res (.bool false), .auto, .tst true, .tst false, .res (.bool true)] hfl (ts6 (tF p0) (tF p1) (tF q0) (tF q1) (tT c1) (eqB2 (b := false) (c := decide (atW ox oy hx hy p q ≤ hi)) (decide_eq_false c2).symm)) (qs9 (mayL_qc x y ha hb hd _ h1) (mayS_qc _ _ _ _ _ _ _ h2) (iof_qc x y ha hb hd _ (by unfold ofV; rw [h1])) (ios_qc ox oy hx hy lo hi _ (by unfold osV; rw [h2])) (mixQ_qc hn.1 (by omega) (ofQ_inp h1) (osQ_inp h2)) (inQ_qc (ofQ_inp h1).low p q _ k1) (inQ_qc (osQ_inp h2).low p q _ k2) (inE_qc x y p q ha hb hd _ h4) (awakeI)) (rfl) (rfl) (by kernel_rfl)
                ·
                  have k2 : inQ (osQ ox oy hx hy lo hi) p q = false := by rw [inQ_os h2 hw, ← hat]; simp; omega
                  exact PC.run mixed Try.func4 [.tst false, .tst false, .tst false, .tst false, .res (.bool true), .res (.bool true), .res ((ofQ x y a b d).res 0), .res ((osQ ox oy hx hy lo hi).res 0), .res ((mixQ (ofQ x y a b d) (osQ ox oy hx hy lo hi) (n35 w)).res 0), .res (.bool false), .res (.bool false), .res (.bool false), .auto, .tst false, .res (.bool true)] hfl (ts5 (tF p0) (tF p1) (tF q0) (tF q1) (tF c1)) (qs9 (mayL_qc x y ha hb hd _ h1) (mayS_qc _ _ _ _ _ _ _ h2) (iof_qc x y ha hb hd _ (by unfold ofV; rw [h1])) (ios_qc ox oy hx hy lo hi _ (by unfold osV; rw [h2])) (mixQ_qc hn.1 (by omega) (ofQ_inp h1) (osQ_inp h2)) (inQ_qc (ofQ_inp h1).low p q _ k1) (inQ_qc (osQ_inp h2).low p q _ k2) (inE_qc x y p q ha hb hd _ h4) (awakeI)) (rfl) (rfl) (by kernel_rfl)
            | false =>
              exact PC.run mixed Try.func4 [.tst false, .tst false, .tst false, .tst false, .res (.bool true), .res (.bool false), .res (.bool true)] hfl (ts4 (tF p0) (tF p1) (tF q0) (tF q1)) (qs3 (mayL_qc x y ha hb hd _ h1) (mayS_qc _ _ _ _ _ _ _ h2) (awakeI)) (rfl) (rfl) (by kernel_rfl)
          | false =>
            exact PC.run mixed Try.func4 [.tst false, .tst false, .tst false, .tst false, .res (.bool false), .res (.bool true)] hfl (ts4 (tF p0) (tF p1) (tF q0) (tF q1)) (qs2 (mayL_qc x y ha hb hd _ h1) (awakeI)) (rfl) (rfl) (by kernel_rfl)
theorem enters_infoSides : ∀ us w, (callFunc 4 us).run Try.prog w = .ok (.enter 4 us) w := enters Try.func4 rfl (by kernel_rfl)
end Go.Proofs.Ytkfkfodaikpjoaa.W
