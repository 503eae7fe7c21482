/-
  The reference's search: Fuse and Cut answer as the program's do.
-/
import Derived.Test.YtcpaajjeoeejaaaGreatTokP
import Derived.Test.YtcpaajjeoeejaaaGreatGoldM
namespace Go.Proofs.YtcpaajjeoeejaaaGreat.R
open Go Go.Ev Go.W32
open Go.Proofs.YtcpaajjeoeejaaaGreat.W (mixed ell ellT flat_ellT mayL mayS strV eBlk sBlk ellC El Mk Sp SS mkF mkC ptr empM foldS foldS_spec foldS_gfin oM gfin lesser smE smV gFuse gCut fuseV cutV fuseV_good cutV_good mkF_good mkC_good toMk flat_mk may_ok trI)

theorem tr_qr {e : El} (h : e.Ok) : QC Tryz.prog 48 [e.val] (.int .i64 e.tr) := eTrace_qc e.x e.y h.a h.b h.d
theorem may_qr {e : El} (h : e.Ok) {r : Bool} (hr : e.may = r) : QC Tryz.prog 41 [e.val] (.bool r) := eMay_qc e.x e.y h.a h.b h.d r hr
theorem mays_qr {p : Sp} {r : Bool} (hr : p.may = r) : QC Tryz.prog 52 [p.val] (.bool r) := eStrip_qc p.ox p.oy p.hx p.hy p.lo p.hi r hr
theorem enters_rFuse : ∀ us w, (callFunc 11 us).run Tryz.prog w = .ok (.enter 11 us) w := enters Tryz.func11 rfl (by kernel_rfl)
theorem enters_rCut : ∀ us w, (callFunc 13 us).run Tryz.prog w = .ok (.enter 13 us) w := enters Tryz.func13 rfl (by kernel_rfl)
theorem askF_val {e f : El} (he : e.Ok) (hf : f.Ok) : AsksF e f (mkF e f) := by
  refine asksF (fun w h1 h2 => ?_) (fun w _ _ => (fuseV_good _ _ _ _ _ _ _ _ _ _ w).mk.2.1) fun w hn => ?_
  · have h := eFuseAt_t (x := e.x) (y := e.y) (x' := f.x) (y' := f.y) (w := w) he.a he.b he.d hf.a hf.b hf.d
    have hv : fuseW e.x e.y e.a e.b e.d f.x f.y f.a f.b f.d w = fuseV e.x e.y e.a e.b e.d f.x f.y f.a f.b f.d w := by
      unfold fuseW fuseV
      rw [okW_iff.2 (by omega), Bool.and_true]
      cases mayL e.x e.y e.a e.b e.d <;> cases mayL f.x f.y f.a f.b f.d <;> rfl
    rw [hv, ← (fuseV_good e.x e.y e.a e.b e.d f.x f.y f.a f.b f.d w).mk.1] at h
    exact h
  · rcases mkF_good e f w with ⟨h, _⟩ | ⟨_, h⟩
    · exact absurd h hn
    · rw [h]; rfl
theorem askC_val {e : El} {p : Sp} (he : e.Ok) : AsksC e p (mkC e p) := by
  refine asksC (fun w h1 h2 => ?_) (fun w _ _ => (cutV_good _ _ _ _ _ _ _ _ _ _ _ w).mk.2.1) fun w hn => ?_
  · have h := eCutAt_t (x := e.x) (y := e.y) (ox := p.ox) (oy := p.oy) (hx := p.hx) (hy := p.hy) (lo := p.lo) (hi := p.hi) (w := w) he.a he.b he.d
    have hv : cutW e.x e.y e.a e.b e.d p.ox p.oy p.hx p.hy p.lo p.hi w = cutV e.x e.y e.a e.b e.d p.ox p.oy p.hx p.hy p.lo p.hi w := by
      unfold cutW cutV
      rw [okW_iff.2 (by omega), Bool.and_true]
      cases mayL e.x e.y e.a e.b e.d <;> cases mayS p.ox p.oy p.hx p.hy p.lo p.hi <;> rfl
    rw [hv, ← (cutV_good e.x e.y e.a e.b e.d p.ox p.oy p.hx p.hy p.lo p.hi w).mk.1] at h
    exact h
  · rcases mkC_good e p w with ⟨h, _⟩ | ⟨_, h⟩
    · exact absurd h hn
    · rw [h]; rfl
section
variable {e f : El} {p : Sp} {em : Bool} {n : Nat} {cs : List Value} {s : SS}
theorem rfuse_em (qe : QC Tryz.prog 41 [e.val] (.bool true)) (qf : QC Tryz.prog 41 [f.val] (.bool true)) (hb : MC Tryz.prog 47 [ptr 3] (mem0F e f) (resS s) (memF e f true n cs s)) :
    PC Tryz.prog 11 [e.val, f.val] (Mk.mk .zero 3).val :=
  PC.run mixed Tryz.func11 [.res (.bool true), .res (.bool true), .mem (resS s) (memF e f true n cs s)] rfl ts0 (qs3 qe qf hb) rfl rfl (by kernel_rfl)
theorem rfuse_non (qe : QC Tryz.prog 41 [e.val] (.bool true)) (qf : QC Tryz.prog 41 [f.val] (.bool true)) (hb : MC Tryz.prog 47 [ptr 3] (mem0F e f) (resS s) (memF e f false n cs s))
    (hs : s.has = false) (te : QC Tryz.prog 48 [e.val] (.int .i64 e.tr)) (tf : QC Tryz.prog 48 [f.val] (.int .i64 f.tr)) : PC Tryz.prog 11 [e.val, f.val] (Mk.mk (lesser e f) 0).val := by
  obtain ⟨sw, sv, sh, se⟩ := s
  simp only at hs
  subst hs
  by_cases h : f.tr < e.tr
  · rw [show lesser e f = f by unfold lesser; rw [decide_eq_true h]]
    exact PC.run mixed Tryz.func11 [.res (.bool true), .res (.bool true), .mem (resS ⟨sw, sv, false, se⟩) (memF e f false n cs ⟨sw, sv, false, se⟩), .res (.int .i64 f.tr), .res (.int .i64 e.tr), .tst true] rfl (ts1 (tT h)) (qs5 qe qf hb tf te) rfl rfl (by kernel_rfl)
  · rw [show lesser e f = e by unfold lesser; rw [decide_eq_false h]]
    exact PC.run mixed Tryz.func11 [.res (.bool true), .res (.bool true), .mem (resS ⟨sw, sv, false, se⟩) (memF e f false n cs ⟨sw, sv, false, se⟩), .res (.int .i64 f.tr), .res (.int .i64 e.tr), .tst false] rfl (ts1 (tF h)) (qs5 qe qf hb tf te) rfl rfl (by kernel_rfl)
theorem rfuse_has (qe : QC Tryz.prog 41 [e.val] (.bool true)) (qf : QC Tryz.prog 41 [f.val] (.bool true)) (hb : MC Tryz.prog 47 [ptr 3] (mem0F e f) (resS s) (memF e f false n cs s))
    (hs : s.has = true) (hv : s.v = s.e.tr) (te : QC Tryz.prog 48 [e.val] (.int .i64 e.tr)) (tf : QC Tryz.prog 48 [f.val] (.int .i64 f.tr)) (ts : QC Tryz.prog 48 [s.e.val] (.int .i64 s.e.tr)) :
    PC Tryz.prog 11 [e.val, f.val] (Mk.mk (lesser (lesser e s.e) f) 0).val := by
  obtain ⟨sw, sv, sh, se⟩ := s
  simp only at hs hv ts ⊢
  subst hs hv
  by_cases h : se.tr < e.tr
  · rw [show lesser e se = se by unfold lesser; rw [decide_eq_true h]]
    by_cases h' : f.tr < se.tr
    · rw [show lesser se f = f by unfold lesser; rw [decide_eq_true h']]
      exact PC.run mixed Tryz.func11 [.res (.bool true), .res (.bool true), .mem (resS ⟨sw, se.tr, true, se⟩) (memF e f false n cs ⟨sw, se.tr, true, se⟩), .res (.int .i64 e.tr), .tst true, .res (.int .i64 f.tr), .res (.int .i64 se.tr), .tst true] rfl (ts2 (tT h) (tT h')) (qs6 qe qf hb te tf ts) rfl rfl (by kernel_rfl)
    · rw [show lesser se f = se by unfold lesser; rw [decide_eq_false h']]
      exact PC.run mixed Tryz.func11 [.res (.bool true), .res (.bool true), .mem (resS ⟨sw, se.tr, true, se⟩) (memF e f false n cs ⟨sw, se.tr, true, se⟩), .res (.int .i64 e.tr), .tst true, .res (.int .i64 f.tr), .res (.int .i64 se.tr), .tst false] rfl (ts2 (tT h) (tF h')) (qs6 qe qf hb te tf ts) rfl rfl (by kernel_rfl)
  · rw [show lesser e se = e by unfold lesser; rw [decide_eq_false h]]
    by_cases h' : f.tr < e.tr
    · rw [show lesser e f = f by unfold lesser; rw [decide_eq_true h']]
      exact PC.run mixed Tryz.func11 [.res (.bool true), .res (.bool true), .mem (resS ⟨sw, se.tr, true, se⟩) (memF e f false n cs ⟨sw, se.tr, true, se⟩), .res (.int .i64 e.tr), .tst false, .res (.int .i64 f.tr), .res (.int .i64 e.tr), .tst true] rfl (ts2 (tF h) (tT h')) (qs6 qe qf hb te tf te) rfl rfl (by kernel_rfl)
    · rw [show lesser e f = e by unfold lesser; rw [decide_eq_false h']]
      exact PC.run mixed Tryz.func11 [.res (.bool true), .res (.bool true), .mem (resS ⟨sw, se.tr, true, se⟩) (memF e f false n cs ⟨sw, se.tr, true, se⟩), .res (.int .i64 e.tr), .tst false, .res (.int .i64 f.tr), .res (.int .i64 e.tr), .tst false] rfl (ts2 (tF h) (tF h')) (qs6 qe qf hb te tf te) rfl rfl (by kernel_rfl)
theorem rcut_em (qe : QC Tryz.prog 41 [e.val] (.bool true)) (qf : QC Tryz.prog 52 [p.val] (.bool true)) (hb : MC Tryz.prog 47 [ptr 3] (mem0C e p) (resS s) (memC e p true n cs s)) :
    PC Tryz.prog 13 [e.val, p.val] (Mk.mk .zero 3).val :=
  PC.run mixed Tryz.func13 [.res (.bool true), .res (.bool true), .mem (resS s) (memC e p true n cs s)] rfl ts0 (qs3 qe qf hb) rfl rfl (by kernel_rfl)
theorem rcut_non (qe : QC Tryz.prog 41 [e.val] (.bool true)) (qf : QC Tryz.prog 52 [p.val] (.bool true)) (hb : MC Tryz.prog 47 [ptr 3] (mem0C e p) (resS s) (memC e p false n cs s))
    (hs : s.has = false) : PC Tryz.prog 13 [e.val, p.val] (Mk.mk e 0).val := by
  obtain ⟨sw, sv, sh, se⟩ := s
  simp only at hs
  subst hs
  exact PC.run mixed Tryz.func13 [.res (.bool true), .res (.bool true), .mem (resS ⟨sw, sv, false, se⟩) (memC e p false n cs ⟨sw, sv, false, se⟩)] rfl ts0 (qs3 qe qf hb) rfl rfl (by kernel_rfl)
theorem rcut_has (qe : QC Tryz.prog 41 [e.val] (.bool true)) (qf : QC Tryz.prog 52 [p.val] (.bool true)) (hb : MC Tryz.prog 47 [ptr 3] (mem0C e p) (resS s) (memC e p false n cs s))
    (hs : s.has = true) (hv : s.v = s.e.tr) (te : QC Tryz.prog 48 [e.val] (.int .i64 e.tr)) : PC Tryz.prog 13 [e.val, p.val] (Mk.mk (lesser e s.e) 0).val := by
  obtain ⟨sw, sv, sh, se⟩ := s
  simp only at hs hv ⊢
  subst hs hv
  by_cases h : se.tr < e.tr
  · rw [show lesser e se = se by unfold lesser; rw [decide_eq_true h]]
    exact PC.run mixed Tryz.func13 [.res (.bool true), .res (.bool true), .mem (resS ⟨sw, se.tr, true, se⟩) (memC e p false n cs ⟨sw, se.tr, true, se⟩), .res (.int .i64 e.tr), .tst true] rfl (ts1 (tT h)) (qs4 qe qf hb te) rfl rfl (by kernel_rfl)
  · rw [show lesser e se = e by unfold lesser; rw [decide_eq_false h]]
    exact PC.run mixed Tryz.func13 [.res (.bool true), .res (.bool true), .mem (resS ⟨sw, se.tr, true, se⟩) (memC e p false n cs ⟨sw, se.tr, true, se⟩), .res (.int .i64 e.tr), .tst false] rfl (ts1 (tF h)) (qs4 qe qf hb te) rfl rfl (by kernel_rfl)
end
/-- What the fold and the search find. -/
theorem smE_fold (mk : Int → Mk) (e : El) : smE mk e = match (foldS mk (gfin (oM mk)).2.2).has with | true => lesser e (foldS mk (gfin (oM mk)).2.2).e | false => e := by
  rw [foldS_gfin]
  unfold smE
  cases (gfin (oM mk)).1.has <;> rfl
theorem rFuse_pc {e f : El} (he : e.Ok) (hf : f.Ok) : PC Tryz.prog 11 [e.val, f.val] (gFuse e f).val := by
  have hb := rbest0F (askF_val he hf)
  have hsp := foldS_spec (mkF e f) (gfin (oM (mkF e f))).2.2
  have hok : ∀ w, (mkF e f w).e.Ok := fun w => (fuseV_good _ _ _ _ _ _ _ _ _ _ w).mk.2.1
  unfold gFuse
  rw [smE_fold]
  unfold memLF at hb
  generalize foldS (mkF e f) (gfin (oM (mkF e f))).2.2 = s at *
  generalize (gfin (oM (mkF e f))).2.2 = L at *
  cases h1 : e.may with
  | false => exact PC.run mixed Tryz.func11 [.res (.bool false)] rfl ts0 (qs1 (may_qr he h1)) rfl rfl (by kernel_rfl)
  | true => cases h2 : f.may with
    | false => exact PC.run mixed Tryz.func11 [.res (.bool true), .res (.bool false)] rfl ts0 (qs2 (may_qr he h1) (may_qr hf h2)) rfl rfl (by kernel_rfl)
    | true =>
      simp only [Bool.and_self]
      cases hm : empM (mkF e f) L with
      | true =>
        rw [hm] at hb
        exact rfuse_em (may_qr he h1) (may_qr hf h2) hb
      | false =>
        rw [hm] at hb
        cases hh : s.has with
        | true =>
          obtain ⟨_, _, g3, g4⟩ := hsp.one hh
          exact rfuse_has (may_qr he h1) (may_qr hf h2) hb hh (by rw [g4]; exact g3) (tr_qr he) (tr_qr hf) (tr_qr (by rw [g4]; exact hok _))
        | false => exact rfuse_non (may_qr he h1) (may_qr hf h2) hb hh (tr_qr he) (tr_qr hf)
theorem rFuse_qc {e f : El} (he : e.Ok) (hf : f.Ok) (m : Mk) (h : gFuse e f = m) : QC Tryz.prog 11 [e.val, f.val] m.val := h ▸ QC.of_pc enters_rFuse (rFuse_pc he hf)
theorem rCut_pc {e : El} (p : Sp) (he : e.Ok) : PC Tryz.prog 13 [e.val, p.val] (gCut e p).val := by
  have hb := rbest0C (askC_val (p := p) he)
  have hsp := foldS_spec (mkC e p) (gfin (oM (mkC e p))).2.2
  unfold gCut smV
  rw [smE_fold]
  unfold memLC at hb
  generalize foldS (mkC e p) (gfin (oM (mkC e p))).2.2 = s at *
  generalize (gfin (oM (mkC e p))).2.2 = L at *
  cases h1 : e.may with
  | false => exact PC.run mixed Tryz.func13 [.res (.bool false)] rfl ts0 (qs1 (may_qr he h1)) rfl rfl (by kernel_rfl)
  | true => cases h2 : p.may with
    | false => exact PC.run mixed Tryz.func13 [.res (.bool true), .res (.bool false)] rfl ts0 (qs2 (may_qr he h1) (mays_qr h2)) rfl rfl (by kernel_rfl)
    | true =>
      simp only [Bool.and_self]
      cases hm : empM (mkC e p) L with
      | true =>
        rw [hm] at hb
        exact rcut_em (may_qr he h1) (mays_qr h2) hb
      | false =>
        rw [hm] at hb
        cases hh : s.has with
        | true =>
          obtain ⟨_, _, g3, g4⟩ := hsp.one hh
          exact rcut_has (may_qr he h1) (mays_qr h2) hb hh (by rw [g4]; exact g3) (tr_qr he)
        | false => exact rcut_non (may_qr he h1) (mays_qr h2) hb hh
theorem rCut_qc {e : El} (p : Sp) (he : e.Ok) (m : Mk) (h : gCut e p = m) : QC Tryz.prog 13 [e.val, p.val] m.val := h ▸ QC.of_pc enters_rCut (rCut_pc p he)
end Go.Proofs.YtcpaajjeoeejaaaGreat.R
