/-
  GoldenWithin: what is fused is no greater than what the weights 13 and 21 make.
-/
import Derived.Test.YtdgpcjihbfbflaaGoldM
namespace Go.Proofs.Ytdgpcjihbfbflaa.W
open Go Go.Ev Go.Wide

theorem flat_within7 (e f : El) : [e.val, f.val].all flat = true := by simp [flat_el]
theorem enters_goldenWithin : ∀ us w, (callFunc 5 us).run Try.prog w = .ok (.enter 5 us) w := enters Try.func5 rfl (by kernel_rfl)
/-- What is chosen is no greater than what any asked weight made. -/
theorem smE_least {mk : Int → Mk} {e : El} {w : Int} (hw : w ∈ (gfin (oM mk)).2.2) (h0 : ((mk w).n : Int) = 0) : (smE mk e).tr ≤ (mk w).e.tr := by
  have gb := gfin_best (oM mk)
  obtain ⟨hh, hv⟩ := gb.low w hw (decide_eq_true h0)
  have hx := gb.mx
  unfold smE
  generalize (gfin (oM mk)).1 = x at *
  rw [hh]
  show (lesser e (mk x.w).e).tr ≤ _
  have h1 := (lesser_tr e (mk x.w).e).2
  have h2 : x.v = (mk x.w).e.tr := by
    cases hp : (oM mk x.w).2 with
    | false => unfold mkA at hx; rw [hp] at hx; rw [hx] at hh; cases hh
    | true => rw [mkA_has hp] at hx; rw [hx]; rfl
  have h3 : x.v ≤ (mk w).e.tr := hv
  omega
theorem mkF_qc {e f : El} (he : e.Ok) (hf : f.Ok) {w : Int} (h1 : 0 ≤ w) (h2 : w ≤ 34) (m : Mk) (hm : mkF e f w = m) : QC Try.prog 13 [e.val, f.val, .int .i64 w] m.val :=
  hm ▸ fuse_qc e.x e.y f.x f.y h1 h2 he.a he.b he.d hf.a hf.b hf.d _ (fuseV_good _ _ _ _ _ _ _ _ _ _ w).mk.1.symm
theorem within_tt {e f g : El} {m k : Mk} (he : e.Ok) (hf : f.Ok) (hg : gFuse e f = ⟨g, 0⟩) (hgo : g.Ok) (mo : m.e.Ok) (ko : k.e.Ok) (p : QC Try.prog 13 [e.val, f.val, .int .i64 13] m.val) (r : QC Try.prog 13 [e.val, f.val, .int .i64 21] k.val) (m0 : ((m.n : Nat) : Int) = 0) (m1 : ¬ m.e.tr < g.tr) (k0 : ((k.n : Nat) : Int) = 0) (k1 : ¬ k.e.tr < g.tr) : PC Try.prog 5 [e.val, f.val] (.bool true) :=
  PC.run mixed Try.func5 [.res (Mk.mk g 0).val, .res m.val, .tst true, .res (.int .i64 m.e.tr), .res (.int .i64 g.tr), .tst false, .res k.val, .tst true, .res (.int .i64 k.e.tr), .res (.int .i64 g.tr), .tst false, .res (.bool true)] (flat_within7 e f) (ts4 (tT m0) (tF m1) (tT k0) (tF k1)) (qs8 (gFuse_qc he hf _ hg) p (tr_qc mo) (tr_qc hgo) r (tr_qc ko) (tr_qc hgo) awake7) rfl rfl (by kernel_rfl)
theorem within_tf {e f g : El} {m k : Mk} (he : e.Ok) (hf : f.Ok) (hg : gFuse e f = ⟨g, 0⟩) (hgo : g.Ok) (mo : m.e.Ok) (ko : k.e.Ok) (p : QC Try.prog 13 [e.val, f.val, .int .i64 13] m.val) (r : QC Try.prog 13 [e.val, f.val, .int .i64 21] k.val) (m0 : ((m.n : Nat) : Int) = 0) (m1 : ¬ m.e.tr < g.tr) (k0 : ¬ ((k.n : Nat) : Int) = 0) : PC Try.prog 5 [e.val, f.val] (.bool true) :=
  PC.run mixed Try.func5 [.res (Mk.mk g 0).val, .res m.val, .tst true, .res (.int .i64 m.e.tr), .res (.int .i64 g.tr), .tst false, .res k.val, .tst false, .res (.bool true)] (flat_within7 e f) (ts3 (tT m0) (tF m1) (tF k0)) (qs6 (gFuse_qc he hf _ hg) p (tr_qc mo) (tr_qc hgo) r awake7) rfl rfl (by kernel_rfl)
theorem within_ft {e f g : El} {m k : Mk} (he : e.Ok) (hf : f.Ok) (hg : gFuse e f = ⟨g, 0⟩) (hgo : g.Ok) (mo : m.e.Ok) (ko : k.e.Ok) (p : QC Try.prog 13 [e.val, f.val, .int .i64 13] m.val) (r : QC Try.prog 13 [e.val, f.val, .int .i64 21] k.val) (m0 : ¬ ((m.n : Nat) : Int) = 0) (k0 : ((k.n : Nat) : Int) = 0) (k1 : ¬ k.e.tr < g.tr) : PC Try.prog 5 [e.val, f.val] (.bool true) :=
  PC.run mixed Try.func5 [.res (Mk.mk g 0).val, .res m.val, .tst false, .res k.val, .tst true, .res (.int .i64 k.e.tr), .res (.int .i64 g.tr), .tst false, .res (.bool true)] (flat_within7 e f) (ts3 (tF m0) (tT k0) (tF k1)) (qs6 (gFuse_qc he hf _ hg) p r (tr_qc ko) (tr_qc hgo) awake7) rfl rfl (by kernel_rfl)
theorem within_ff {e f g : El} {m k : Mk} (he : e.Ok) (hf : f.Ok) (hg : gFuse e f = ⟨g, 0⟩) (hgo : g.Ok) (mo : m.e.Ok) (ko : k.e.Ok) (p : QC Try.prog 13 [e.val, f.val, .int .i64 13] m.val) (r : QC Try.prog 13 [e.val, f.val, .int .i64 21] k.val) (m0 : ¬ ((m.n : Nat) : Int) = 0) (k0 : ¬ ((k.n : Nat) : Int) = 0) : PC Try.prog 5 [e.val, f.val] (.bool true) :=
  PC.run mixed Try.func5 [.res (Mk.mk g 0).val, .res m.val, .tst false, .res k.val, .tst false, .res (.bool true)] (flat_within7 e f) (ts2 (tF m0) (tF k0)) (qs4 (gFuse_qc he hf _ hg) p r awake7) rfl rfl (by kernel_rfl)
theorem goldenWithin_pc {e f : El} (he : e.Ok) (hf : f.Ok) : PC Try.prog 5 [e.val, f.val] (.bool true) := by
  have hfl := flat_within7 e f
  have bad : ∀ n : Nat, n = 1 ∨ n = 3 → gFuse e f = ⟨.zero, n⟩ → PC Try.prog 5 [e.val, f.val] (.bool true) := fun n hn hg => by
    rcases hn with rfl | rfl
    · exact PC.run mixed Try.func5 [.res (Mk.mk .zero 1).val, .res (.bool true)] hfl ts0 (qs2 (gFuse_qc he hf _ hg) awake7) rfl rfl (by kernel_rfl)
    · exact PC.run mixed Try.func5 [.res (Mk.mk .zero 3).val, .res (.bool true)] hfl ts0 (qs2 (gFuse_qc he hf _ hg) awake7) rfl rfl (by kernel_rfl)
  cases h1 : e.may && f.may with
  | false => exact bad 1 (.inl rfl) (by unfold gFuse; rw [h1])
  | true =>
    cases hm : empM (mkF e f) (gfin (oM (mkF e f))).2.2 with
    | true => exact bad 3 (.inr rfl) (by unfold gFuse; rw [h1, hm])
    | false =>
      have hg : gFuse e f = ⟨lesser (smE (mkF e f) e) f, 0⟩ := by unfold gFuse; rw [h1, hm]
      have hgo : (lesser (smE (mkF e f) e) f).Ok := lesser_ok (smE_ok (mk := mkF e f) (oraF he hf).ok he) hf
      have mo := (oraF he hf).ok 13 (by decide) (by decide)
      have ko := (oraF he hf).ok 21 (by decide) (by decide)
      have gb := gfin_best (oM (mkF e f))
      have l0 : (lesser (smE (mkF e f) e) f).tr ≤ (smE (mkF e f) e).tr := (lesser_tr _ _).1
      have p := mkF_qc he hf (w := 13) (by decide) (by decide) _ rfl
      have r := mkF_qc he hf (w := 21) (by decide) (by decide) _ rfl
      by_cases m0 : (((mkF e f 13).n : Nat) : Int) = 0
      · have a1 := smE_least (e := e) gb.l13 m0
        by_cases k0 : (((mkF e f 21).n : Nat) : Int) = 0
        · have a2 := smE_least (e := e) gb.l21 k0
          exact within_tt he hf hg hgo mo ko p r m0 (by omega) k0 (by omega)
        · exact within_tf he hf hg hgo mo ko p r m0 (by omega) k0
      · by_cases k0 : (((mkF e f 21).n : Nat) : Int) = 0
        · have a2 := smE_least (e := e) gb.l21 k0
          exact within_ft he hf hg hgo mo ko p r m0 k0 (by omega)
        · exact within_ff he hf hg hgo mo ko p r m0 k0
end Go.Proofs.Ytdgpcjihbfbflaa.W
