/-
  InfoFuses: the program fuses and cuts as the reference does, by any weight.
-/
import Derived.Test.YtlbdfgpdgcldhaaGreatTokJ
namespace Go.Proofs.YtlbdfgpdgcldhaaGreat.W
open Go Go.Ev Go.Wide
open Go.Proofs.YtlbdfgpdgcldhaaGreat.R (okW okW_iff okW_not fuseW cutW eFuseAt_t eCutAt_t qsC)

theorem mix_bad {i j : Inq} {w : Int} (h : okW w = false) : QC Tryz.prog 15 [i.val, j.val, .int .i64 w] (noQ.res 1) := by
  have hfl : [i.val, j.val, Value.int .i64 w].all flat = true := by simp only [List.all_cons, List.all_nil, Inq.flat_val, Bool.true_and, Bool.and_true]; rfl
  refine QC.of_pc enters_mix ?_
  rcases okW_not h with h4 | ⟨h4, h5⟩
  · exact PC.run mixed Tryz.func15 [.tst true] hfl (ts1 (tT h4)) qs0 (flat_infoT _ _ _ _ _ _ _ _) rfl (by kernel_rfl)
  · exact PC.run mixed Tryz.func15 [.tst false, .tst true] hfl (ts2 (tF h4) (tT h5)) qs0 (flat_infoT _ _ _ _ _ _ _ _) rfl (by kernel_rfl)
theorem eom_bad {i j : Inq} {w : Int} (h : okW w = false) : QC Tryz.prog 72 [i.val, j.val, .int .i64 w] (ellT 0 0 0 0 0 1) :=
  QC.of_pc enters_eom (PC.run mixed Tryz.func72 [.res (noQ.res 1)] (by simp only [List.all_cons, List.all_nil, Inq.flat_val, Bool.true_and, Bool.and_true]; rfl) ts0 (qs1 (mix_bad (i := i) (j := j) h)) (flat_ellT _ _ _ _ _ _) rfl (by kernel_rfl))
theorem fuse_any {a b d a' b' d' w : Int} (x y x' y' : Int) (ha : I64 a) (hb : I64 b) (hd : I64 d) (ha' : I64 a') (hb' : I64 b') (hd' : I64 d') : QC Tryz.prog 22 [ell x y a b d, ell x' y' a' b' d', .int .i64 w] (fuseW x y a b d x' y' a' b' d' w) := by
  unfold fuseW
  have q1 := iof_qc x y ha hb hd _ rfl
  have q2 := iof_qc x' y' ha' hb' hd' _ rfl
  unfold ofV at q1 q2
  cases h : mayL x y a b d with
  | true =>
    rw [h] at q1
    cases h' : mayL x' y' a' b' d' with
    | true =>
      rw [h'] at q2
      cases h3 : okW w with
      | true =>
        have g := okW_iff.1 h3
        have q3 := eom_qc g.1 g.2 (ofQ_inp h) (ofQ_inp h')
        obtain ⟨X, Y, A, B, D, e, he⟩ := ellQ_form (mixQ (ofQ x y a b d) (ofQ x' y' a' b' d') w)
        simp only [Bool.and_self]
        rw [he] at q3 ⊢
        exact QC.of_pc enters_fuse (fuse_run q1 q2 q3)
      | false => exact QC.of_pc enters_fuse (fuse_run q1 q2 (eom_bad h3))
    | false =>
      rw [h'] at q2
      exact QC.of_pc enters_fuse (fuse_bad q1 q2 or01)
  | false =>
    rw [h] at q1
    cases h' : mayL x' y' a' b' d' with
    | true =>
      rw [h'] at q2
      exact QC.of_pc enters_fuse (fuse_bad q1 q2 or10)
    | false =>
      rw [h'] at q2
      exact QC.of_pc enters_fuse (fuse_bad q1 q2 or11)
theorem cut_any {a b d w : Int} (x y ox oy hx hy lo hi : Int) (ha : I64 a) (hb : I64 b) (hd : I64 d) : QC Tryz.prog 24 [ell x y a b d, strV ox oy hx hy lo hi, .int .i64 w] (cutW x y a b d ox oy hx hy lo hi w) := by
  unfold cutW
  have q1 := iof_qc x y ha hb hd _ rfl
  have q2 := ios_qc ox oy hx hy lo hi _ rfl
  unfold ofV at q1
  unfold osV at q2
  cases h : mayL x y a b d with
  | true =>
    rw [h] at q1
    cases h' : mayS ox oy hx hy lo hi with
    | true =>
      rw [h'] at q2
      cases h3 : okW w with
      | true =>
        have g := okW_iff.1 h3
        have q3 := eom_qc g.1 g.2 (ofQ_inp h) (osQ_inp h')
        obtain ⟨X, Y, A, B, D, e, he⟩ := ellQ_form (mixQ (ofQ x y a b d) (osQ ox oy hx hy lo hi) w)
        simp only [Bool.and_self]
        rw [he] at q3 ⊢
        exact QC.of_pc enters_cut (cut_run q1 q2 q3)
      | false => exact QC.of_pc enters_cut (cut_run q1 q2 (eom_bad h3))
    | false =>
      rw [h'] at q2
      exact QC.of_pc enters_cut (cut_bad q1 q2 or01)
  | false =>
    rw [h] at q1
    cases h' : mayS ox oy hx hy lo hi with
    | true =>
      rw [h'] at q2
      exact QC.of_pc enters_cut (cut_bad q1 q2 or10)
    | false =>
      rw [h'] at q2
      exact QC.of_pc enters_cut (cut_bad q1 q2 or11)
theorem fuseW_form (x y a b d x' y' a' b' d' w : Int) : ∃ X Y A B D e, fuseW x y a b d x' y' a' b' d' w = ellT X Y A B D e := by
  unfold fuseW
  split
  · exact ellQ_form _
  · exact ⟨_, _, _, _, _, _, rfl⟩
theorem cutW_form (x y a b d ox oy hx hy lo hi w : Int) : ∃ X Y A B D e, cutW x y a b d ox oy hx hy lo hi w = ellT X Y A B D e := by
  unfold cutW
  split
  · exact ellQ_form _
  · exact ⟨_, _, _, _, _, _, rfl⟩
theorem if_run {x y a b d x' y' a' b' d' ox oy hx hy lo hi w p1 q1 A1 B1 D1 p2 q2 A2 B2 D2 : Int} {e1 e2 : Nat} (h1 : QC Tryz.prog 22 [ell x y a b d, ell x' y' a' b' d', .int .i64 w] (ellT p1 q1 A1 B1 D1 e1)) (f1 : MC Tryz.prog 23 [ell x y a b d, ell x' y' a' b' d', .int .i64 w] [] (ellT p1 q1 A1 B1 D1 e1) [])
    (h2 : QC Tryz.prog 24 [ell x y a b d, strV ox oy hx hy lo hi, .int .i64 w] (ellT p2 q2 A2 B2 D2 e2)) (f2 : MC Tryz.prog 25 [ell x y a b d, strV ox oy hx hy lo hi, .int .i64 w] [] (ellT p2 q2 A2 B2 D2 e2) []) :
    PC Tryz.prog 5 [ell x y a b d, ell x' y' a' b' d', strV ox oy hx hy lo hi, .int .i64 w] (.bool true) :=
  PC.run mixed Tryz.func5 [.res (ellT p1 q1 A1 B1 D1 e1), .ab (ellT p1 q1 A1 B1 D1 e1), .res (ellT p2 q2 A2 B2 D2 e2), .ab (ellT p2 q2 A2 B2 D2 e2), .tst true, .tst true, .tst true, .tst true, .res (.bool true)] (by simp [flat_ell, flat_strV]; rfl)
    (Go.Ev.tsC (ell_refl p1 q1 A1 B1 D1) <| Go.Ev.tsC (tT (rfl : (e1 : Int) = e1)) <| Go.Ev.tsC (ell_refl p2 q2 A2 B2 D2) <| Go.Ev.tsC (tT (rfl : (e2 : Int) = e2)) ts0) (qs5 h1 f1 h2 f2 awakeI) rfl rfl (by kernel_rfl)
theorem infoFuses_pc {x y a b d x' y' a' b' d' ox oy hx hy lo hi w : Int} (ha : I64 a) (hb : I64 b) (hd : I64 d) (ha' : I64 a') (hb' : I64 b') (hd' : I64 d') : PC Tryz.prog 5 [ell x y a b d, ell x' y' a' b' d', strV ox oy hx hy lo hi, .int .i64 w] (.bool true) := by
  have h1 := fuse_any (w := w) x y x' y' ha hb hd ha' hb' hd'
  have f1 := eFuseAt_t (x := x) (y := y) (x' := x') (y' := y') (w := w) ha hb hd ha' hb' hd'
  have h2 := cut_any (w := w) x y ox oy hx hy lo hi ha hb hd
  have f2 := eCutAt_t (x := x) (y := y) (ox := ox) (oy := oy) (hx := hx) (hy := hy) (lo := lo) (hi := hi) (w := w) ha hb hd
  obtain ⟨p1, q1, A1, B1, D1, e1, k1⟩ := fuseW_form x y a b d x' y' a' b' d' w
  obtain ⟨p2, q2, A2, B2, D2, e2, k2⟩ := cutW_form x y a b d ox oy hx hy lo hi w
  rw [k1] at h1 f1
  rw [k2] at h2 f2
  exact if_run h1 f1 h2 f2
theorem enters_infoFuses : ∀ us w, (callFunc 5 us).run Tryz.prog w = .ok (.enter 5 us) w := enters Tryz.func5 rfl (by kernel_rfl)
end Go.Proofs.YtlbdfgpdgcldhaaGreat.W
