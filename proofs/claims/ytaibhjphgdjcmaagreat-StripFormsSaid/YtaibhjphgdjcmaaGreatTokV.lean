/-
  The reference's rings: MayDist, Ring.
-/
import Derived.Test.YtaibhjphgdjcmaaGreatSrch
import Derived.Test.YtaibhjphgdjcmaaGreatTokT
import Derived.Test.YtaibhjphgdjcmaaGreatStrip
namespace Go.Proofs.YtaibhjphgdjcmaaGreat.R
open Go Go.Ev Go.W32
open Go.Proofs.YtaibhjphgdjcmaaGreat.W (mixed ell ellT I64 Sm El Mk Sp Sr srT pt errI isO isq isq_self isq_spec csq WF wrapS measB measB_iff rgX rgY rgL rgU rgS ringL ringU ringV ringL_bd rgL_bd rgU_bd rg_seen rad_bd al_bd Seen sqH dnI quadI mayL mayL_iff within within_iff along_facts alongV ballV sq_le sq_nn signI fits64_iff max_if min_if ringU_in acqV acqV_cases nearV nearV_ok inRing updV gFuse gCut may_ok rgS_may smV smE dnI_le mayR mayR_iff mayP ball_ok)

theorem rsign_pos {z : Int} : signI (some z) > 0 ↔ z > 0 := by
  simp only [signI]
  split <;> (try split) <;> omega
theorem enters_rWideDown : ∀ us w, (callFunc 34 us).run Tryz.prog w = .ok (.enter 34 us) w := enters Tryz.func34 rfl (by kernel_rfl)
theorem rwd_run {z s : Int} (h1 : MC Tryz.prog 65 [rz z] [] (.tuple #[rz s, .int .i64 ((0 : Nat) : Int)]) []) (h4 : MC Tryz.prog 66 [rz s] [] (.tuple #[.int .i64 s, .bool true]) []) : MC Tryz.prog 34 [rz z] [] (errI s 0) [] :=
  AC.runA mixed Tryz.func34 [.ab (.tuple #[rz s, .int .i64 ((0 : Nat) : Int)]), .ab (.tuple #[.int .i64 s, .bool true])] ts0 (qs2 h1 h4) rfl enters_rWideDown (by kernel_rfl)
theorem rWideDown_t {z : Int} (h0 : 0 ≤ z) (hz : WF (some z)) (hc : isq z.natAbs ≤ 9223372036854775807) : MC Tryz.prog 34 [rz z] [] (errI (isq z.natAbs : Nat) 0) [] := by
  have hH := hz z rfl
  have hs := isq_self z.natAbs
  have hw : WF (some ((isq z.natAbs : Nat) : Int)) := fun y e => by cases e; omega
  exact rwd_run (rsqrt h0 hz) (rint_fits (fits64_iff.2 (by omega)) hw)
theorem enters_rDist : ∀ us w, (callFunc 27 us).run Tryz.prog w = .ok (.enter 27 us) w := enters Tryz.func27 rfl (by kernel_rfl)
def distB (lo hi : Int) : Bool := decide (0 ≤ lo) && (decide (lo ≤ hi) && decide (hi ≤ 4194304))
theorem rDist_pc (lo hi : Int) : PC Tryz.prog 27 [.int .i64 lo, .int .i64 hi] (.bool (distB lo hi)) := by
  unfold distB
  by_cases c1 : 0 ≤ lo
  · rw [decide_eq_true c1]
    by_cases c2 : lo ≤ hi
    · rw [decide_eq_true c2]
      exact PC.run mixed Tryz.func27 [.tst true, .tst true] (v := .bool (decide (hi ≤ 4194304))) rfl (ts2 (tT (p := lo ≥ 0) c1) (tT c2)) qs0 rfl (by simp only [Bool.true_and]) (by kernel_rfl)
    · rw [decide_eq_false c2]
      exact PC.run mixed Tryz.func27 [.tst true, .tst false] rfl (ts2 (tT (p := lo ≥ 0) c1) (tF c2)) qs0 rfl rfl (by kernel_rfl)
  · rw [decide_eq_false c1]
    exact PC.run mixed Tryz.func27 [.tst false] rfl (ts1 (tF (p := lo ≥ 0) c1)) qs0 rfl rfl (by kernel_rfl)
theorem rDist_qc (lo hi : Int) {r : Bool} (h : distB lo hi = r) : QC Tryz.prog 27 [.int .i64 lo, .int .i64 hi] (.bool r) := h ▸ QC.of_pc enters_rDist (rDist_pc lo hi)
theorem rad_qr {e : El} (h : e.Ok) : QC Tryz.prog 28 [e.val] (.int .i64 e.rad) := eRadius_qc e.x e.y h.a h.b h.d
theorem al_qr {e : El} (he : e.Ok) (h : e.may = true) {p q : Int} (hw : within p q 16777216 = true) : QC Tryz.prog 30 [e.val, pt p q] (errI (e.al p q) 0) := by
  have hp := eAlong_pc (x := e.x) (y := e.y) (p := p) (q := q) he.a he.b he.d fun h1 h2 => by
    obtain ⟨g1, g2⟩ := along_facts h1 h2
    exact ⟨g1, by omega⟩
  unfold alongV at hp
  rw [show mayL e.x e.y e.a e.b e.d = true from h, hw] at hp
  exact QC.of_pc enters_eAlong hp
theorem enters_rRing : ∀ us w, (callFunc 9 us).run Tryz.prog w = .ok (.enter 9 us) w := enters Tryz.func9 rfl (by kernel_rfl)
section
variable {e n : El} {lo hi X Y r R l m h w mY k l0 mm hmm kk i D L ff hff U0 U U' : Int} {De : Nat}
theorem rring_ae (ho : isO X Y = false) (q1 : QC Tryz.prog 26 [e.val] (.bool true)) (q2 : QC Tryz.prog 26 [n.val] (.bool true)) (q3 : QC Tryz.prog 27 [.int .i64 lo, .int .i64 hi] (.bool true)) (ex : IntKind.i64.wrap (e.x - n.x) = X) (ey : IntKind.i64.wrap (e.y - n.y) = Y) (qr : QC Tryz.prog 28 [n.val] (.int .i64 r)) (eR : IntKind.i64.wrap (hi + r) = R) (bR : MC Tryz.prog 29 [.int .i64 R] [] (rz R) []) (el : IntKind.i64.wrap (lo - r) = l) (em : (if l > 0 then l else 0) = m) (bm : MC Tryz.prog 29 [.int .i64 m] [] (rz m) []) (eh : IntKind.i64.wrap (IntKind.i64.wrap (X * X) + IntKind.i64.wrap (Y * Y)) = h) (qw : QC Tryz.prog 30 [e.val, pt X Y] (errI w 0)) (eY : IntKind.i64.wrap (0 - Y) = mY) (qk : QC Tryz.prog 30 [e.val, pt mY X] (errI k 0)) (e0 : IntKind.i64.wrap (h - w) = l0) (bh : MC Tryz.prog 29 [.int .i64 h] [] (rz h) []) (p5 : MC Tryz.prog 32 [rz R, rz R] [] (rz ff) []) (p6 : MC Tryz.prog 32 [rz h, rz ff] [] (rz hff) []) (up : MC Tryz.prog 35 [rz hff] [] (errI U0 0) []) (eU : (if U0 < IntKind.i64.wrap (h + w) then U0 else IntKind.i64.wrap (h + w)) = U) (c0 : ¬ l0 > 0) (c2 : U < l0) :
    PC Tryz.prog 9 [e.val, n.val, .int .i64 lo, .int .i64 hi] (srT ⟨0, 0, 0, 0, 0, 0⟩ 3) :=
  PC.run mixed Tryz.func9 [.res (.bool true), .res (.bool true), .res (.bool true), .is 11 (.int .i64 X), .is 6 (.int .i64 Y), .tst false, .res (.int .i64 r), .is 4 (.int .i64 R), .ab (rz R), .is 3 (.int .i64 l), .is 0 (.int .i64 m), .ab (rz m), .is 19 (.int .i64 h), .res (errI w 0), .is 10 (.int .i64 mY), .res (errI k 0), .is 8 (.int .i64 l0), .tst false, .ab (rz h), .ab (rz ff), .ab (rz hff), .ab (errI U0 0), .is 10 (.int .i64 U), .tst true] rfl (ts3 (show (!isO X Y) = true by rw [ho]; rfl) (tF c0) (tT c2)) (qsC q1 <| qsC q2 <| qsC q3 <| qsC (congrArg (Value.int .i64) ex) <| qsC (congrArg (Value.int .i64) ey) <| qsC qr <| qsC (congrArg (Value.int .i64) eR) <| qsC bR <| qsC (congrArg (Value.int .i64) el) <| qsC (congrArg (Value.int .i64) em) <| qsC bm <| qsC (congrArg (Value.int .i64) eh) <| qsC qw <| qsC (congrArg (Value.int .i64) eY) <| qsC qk <| qsC (congrArg (Value.int .i64) e0) <| qsC bh <| qsC p5 <| qsC p6 <| qsC up <| qsC (congrArg (Value.int .i64) eU) <| qs0) rfl rfl (by kernel_rfl)
theorem rring_aw (ho : isO X Y = false) (q1 : QC Tryz.prog 26 [e.val] (.bool true)) (q2 : QC Tryz.prog 26 [n.val] (.bool true)) (q3 : QC Tryz.prog 27 [.int .i64 lo, .int .i64 hi] (.bool true)) (ex : IntKind.i64.wrap (e.x - n.x) = X) (ey : IntKind.i64.wrap (e.y - n.y) = Y) (qr : QC Tryz.prog 28 [n.val] (.int .i64 r)) (eR : IntKind.i64.wrap (hi + r) = R) (bR : MC Tryz.prog 29 [.int .i64 R] [] (rz R) []) (el : IntKind.i64.wrap (lo - r) = l) (em : (if l > 0 then l else 0) = m) (bm : MC Tryz.prog 29 [.int .i64 m] [] (rz m) []) (eh : IntKind.i64.wrap (IntKind.i64.wrap (X * X) + IntKind.i64.wrap (Y * Y)) = h) (qw : QC Tryz.prog 30 [e.val, pt X Y] (errI w 0)) (eY : IntKind.i64.wrap (0 - Y) = mY) (qk : QC Tryz.prog 30 [e.val, pt mY X] (errI k 0)) (e0 : IntKind.i64.wrap (h - w) = l0) (bh : MC Tryz.prog 29 [.int .i64 h] [] (rz h) []) (p5 : MC Tryz.prog 32 [rz R, rz R] [] (rz ff) []) (p6 : MC Tryz.prog 32 [rz h, rz ff] [] (rz hff) []) (up : MC Tryz.prog 35 [rz hff] [] (errI U0 0) []) (eU : (if U0 < IntKind.i64.wrap (h + w) then U0 else IntKind.i64.wrap (h + w)) = U) (c0 : ¬ l0 > 0) (c2 : ¬ U < l0) (c3 : ¬ U = l0) :
    PC Tryz.prog 9 [e.val, n.val, .int .i64 lo, .int .i64 hi] (srT ⟨n.x, n.y, X, Y, l0, U⟩ 0) :=
  PC.run mixed Tryz.func9 [.res (.bool true), .res (.bool true), .res (.bool true), .is 11 (.int .i64 X), .is 6 (.int .i64 Y), .tst false, .res (.int .i64 r), .is 4 (.int .i64 R), .ab (rz R), .is 3 (.int .i64 l), .is 0 (.int .i64 m), .ab (rz m), .is 19 (.int .i64 h), .res (errI w 0), .is 10 (.int .i64 mY), .res (errI k 0), .is 8 (.int .i64 l0), .tst false, .ab (rz h), .ab (rz ff), .ab (rz hff), .ab (errI U0 0), .is 10 (.int .i64 U), .tst false, .tst false] rfl (ts4 (show (!isO X Y) = true by rw [ho]; rfl) (tF c0) (tF c2) (tF c3)) (qsC q1 <| qsC q2 <| qsC q3 <| qsC (congrArg (Value.int .i64) ex) <| qsC (congrArg (Value.int .i64) ey) <| qsC qr <| qsC (congrArg (Value.int .i64) eR) <| qsC bR <| qsC (congrArg (Value.int .i64) el) <| qsC (congrArg (Value.int .i64) em) <| qsC bm <| qsC (congrArg (Value.int .i64) eh) <| qsC qw <| qsC (congrArg (Value.int .i64) eY) <| qsC qk <| qsC (congrArg (Value.int .i64) e0) <| qsC bh <| qsC p5 <| qsC p6 <| qsC up <| qsC (congrArg (Value.int .i64) eU) <| qs0) rfl rfl (by kernel_rfl)
theorem rring_at (ho : isO X Y = false) (q1 : QC Tryz.prog 26 [e.val] (.bool true)) (q2 : QC Tryz.prog 26 [n.val] (.bool true)) (q3 : QC Tryz.prog 27 [.int .i64 lo, .int .i64 hi] (.bool true)) (ex : IntKind.i64.wrap (e.x - n.x) = X) (ey : IntKind.i64.wrap (e.y - n.y) = Y) (qr : QC Tryz.prog 28 [n.val] (.int .i64 r)) (eR : IntKind.i64.wrap (hi + r) = R) (bR : MC Tryz.prog 29 [.int .i64 R] [] (rz R) []) (el : IntKind.i64.wrap (lo - r) = l) (em : (if l > 0 then l else 0) = m) (bm : MC Tryz.prog 29 [.int .i64 m] [] (rz m) []) (eh : IntKind.i64.wrap (IntKind.i64.wrap (X * X) + IntKind.i64.wrap (Y * Y)) = h) (qw : QC Tryz.prog 30 [e.val, pt X Y] (errI w 0)) (eY : IntKind.i64.wrap (0 - Y) = mY) (qk : QC Tryz.prog 30 [e.val, pt mY X] (errI k 0)) (e0 : IntKind.i64.wrap (h - w) = l0) (bh : MC Tryz.prog 29 [.int .i64 h] [] (rz h) []) (p5 : MC Tryz.prog 32 [rz R, rz R] [] (rz ff) []) (p6 : MC Tryz.prog 32 [rz h, rz ff] [] (rz hff) []) (up : MC Tryz.prog 35 [rz hff] [] (errI U0 0) []) (eU : (if U0 < IntKind.i64.wrap (h + w) then U0 else IntKind.i64.wrap (h + w)) = U) (eV : IntKind.i64.wrap (U + 1) = U') (c0 : ¬ l0 > 0) (c2 : ¬ U < l0) (c3 : U = l0) :
    PC Tryz.prog 9 [e.val, n.val, .int .i64 lo, .int .i64 hi] (srT ⟨n.x, n.y, X, Y, l0, U'⟩ 0) :=
  PC.run mixed Tryz.func9 [.res (.bool true), .res (.bool true), .res (.bool true), .is 11 (.int .i64 X), .is 6 (.int .i64 Y), .tst false, .res (.int .i64 r), .is 4 (.int .i64 R), .ab (rz R), .is 3 (.int .i64 l), .is 0 (.int .i64 m), .ab (rz m), .is 19 (.int .i64 h), .res (errI w 0), .is 10 (.int .i64 mY), .res (errI k 0), .is 8 (.int .i64 l0), .tst false, .ab (rz h), .ab (rz ff), .ab (rz hff), .ab (errI U0 0), .is 10 (.int .i64 U), .tst false, .tst true, .is 2 (.int .i64 U')] rfl (ts4 (show (!isO X Y) = true by rw [ho]; rfl) (tF c0) (tF c2) (tT c3)) (qsC q1 <| qsC q2 <| qsC q3 <| qsC (congrArg (Value.int .i64) ex) <| qsC (congrArg (Value.int .i64) ey) <| qsC qr <| qsC (congrArg (Value.int .i64) eR) <| qsC bR <| qsC (congrArg (Value.int .i64) el) <| qsC (congrArg (Value.int .i64) em) <| qsC bm <| qsC (congrArg (Value.int .i64) eh) <| qsC qw <| qsC (congrArg (Value.int .i64) eY) <| qsC qk <| qsC (congrArg (Value.int .i64) e0) <| qsC bh <| qsC p5 <| qsC p6 <| qsC up <| qsC (congrArg (Value.int .i64) eU) <| qsC (congrArg (Value.int .i64) eV) <| qs0) rfl rfl (by kernel_rfl)
theorem rring_be (ho : isO X Y = false) (q1 : QC Tryz.prog 26 [e.val] (.bool true)) (q2 : QC Tryz.prog 26 [n.val] (.bool true)) (q3 : QC Tryz.prog 27 [.int .i64 lo, .int .i64 hi] (.bool true)) (ex : IntKind.i64.wrap (e.x - n.x) = X) (ey : IntKind.i64.wrap (e.y - n.y) = Y) (qr : QC Tryz.prog 28 [n.val] (.int .i64 r)) (eR : IntKind.i64.wrap (hi + r) = R) (bR : MC Tryz.prog 29 [.int .i64 R] [] (rz R) []) (el : IntKind.i64.wrap (lo - r) = l) (em : (if l > 0 then l else 0) = m) (bm : MC Tryz.prog 29 [.int .i64 m] [] (rz m) []) (eh : IntKind.i64.wrap (IntKind.i64.wrap (X * X) + IntKind.i64.wrap (Y * Y)) = h) (qw : QC Tryz.prog 30 [e.val, pt X Y] (errI w 0)) (eY : IntKind.i64.wrap (0 - Y) = mY) (qk : QC Tryz.prog 30 [e.val, pt mY X] (errI k 0)) (e0 : IntKind.i64.wrap (h - w) = l0) (bh : MC Tryz.prog 29 [.int .i64 h] [] (rz h) []) (p1 : MC Tryz.prog 32 [rz m, rz m] [] (rz mm) []) (p2 : MC Tryz.prog 32 [rz h, rz mm] [] (rz hmm) []) (bk : MC Tryz.prog 29 [.int .i64 k] [] (rz k) []) (p3 : MC Tryz.prog 32 [rz k, rz k] [] (rz kk) []) (p4 : MC Tryz.prog 31 [rz hmm, rz kk] [] (rz i) []) (sg : MC Tryz.prog 33 [rz i] [] (i6 (signI (some i))) []) (p5 : MC Tryz.prog 32 [rz R, rz R] [] (rz ff) []) (p6 : MC Tryz.prog 32 [rz h, rz ff] [] (rz hff) []) (up : MC Tryz.prog 35 [rz hff] [] (errI U0 0) []) (eU : (if U0 < IntKind.i64.wrap (h + w) then U0 else IntKind.i64.wrap (h + w)) = U) (c0 : l0 > 0) (c1 : ¬ signI (some i) > 0) (c2 : U < l0) :
    PC Tryz.prog 9 [e.val, n.val, .int .i64 lo, .int .i64 hi] (srT ⟨0, 0, 0, 0, 0, 0⟩ 3) :=
  PC.run mixed Tryz.func9 [.res (.bool true), .res (.bool true), .res (.bool true), .is 11 (.int .i64 X), .is 6 (.int .i64 Y), .tst false, .res (.int .i64 r), .is 4 (.int .i64 R), .ab (rz R), .is 3 (.int .i64 l), .is 0 (.int .i64 m), .ab (rz m), .is 19 (.int .i64 h), .res (errI w 0), .is 10 (.int .i64 mY), .res (errI k 0), .is 8 (.int .i64 l0), .tst true, .ab (rz h), .ab (rz mm), .ab (rz hmm), .ab (rz k), .ab (rz k), .ab (rz kk), .ab (rz i), .ab (i6 (signI (some i))), .tst false, .ab (rz h), .ab (rz ff), .ab (rz hff), .ab (errI U0 0), .is 10 (.int .i64 U), .tst true] rfl (ts4 (show (!isO X Y) = true by rw [ho]; rfl) (tT c0) (tF c1) (tT c2)) (qsC q1 <| qsC q2 <| qsC q3 <| qsC (congrArg (Value.int .i64) ex) <| qsC (congrArg (Value.int .i64) ey) <| qsC qr <| qsC (congrArg (Value.int .i64) eR) <| qsC bR <| qsC (congrArg (Value.int .i64) el) <| qsC (congrArg (Value.int .i64) em) <| qsC bm <| qsC (congrArg (Value.int .i64) eh) <| qsC qw <| qsC (congrArg (Value.int .i64) eY) <| qsC qk <| qsC (congrArg (Value.int .i64) e0) <| qsC bh <| qsC p1 <| qsC p2 <| qsC bk <| qsC bk <| qsC p3 <| qsC p4 <| qsC sg <| qsC bh <| qsC p5 <| qsC p6 <| qsC up <| qsC (congrArg (Value.int .i64) eU) <| qs0) rfl rfl (by kernel_rfl)
theorem rring_bw (ho : isO X Y = false) (q1 : QC Tryz.prog 26 [e.val] (.bool true)) (q2 : QC Tryz.prog 26 [n.val] (.bool true)) (q3 : QC Tryz.prog 27 [.int .i64 lo, .int .i64 hi] (.bool true)) (ex : IntKind.i64.wrap (e.x - n.x) = X) (ey : IntKind.i64.wrap (e.y - n.y) = Y) (qr : QC Tryz.prog 28 [n.val] (.int .i64 r)) (eR : IntKind.i64.wrap (hi + r) = R) (bR : MC Tryz.prog 29 [.int .i64 R] [] (rz R) []) (el : IntKind.i64.wrap (lo - r) = l) (em : (if l > 0 then l else 0) = m) (bm : MC Tryz.prog 29 [.int .i64 m] [] (rz m) []) (eh : IntKind.i64.wrap (IntKind.i64.wrap (X * X) + IntKind.i64.wrap (Y * Y)) = h) (qw : QC Tryz.prog 30 [e.val, pt X Y] (errI w 0)) (eY : IntKind.i64.wrap (0 - Y) = mY) (qk : QC Tryz.prog 30 [e.val, pt mY X] (errI k 0)) (e0 : IntKind.i64.wrap (h - w) = l0) (bh : MC Tryz.prog 29 [.int .i64 h] [] (rz h) []) (p1 : MC Tryz.prog 32 [rz m, rz m] [] (rz mm) []) (p2 : MC Tryz.prog 32 [rz h, rz mm] [] (rz hmm) []) (bk : MC Tryz.prog 29 [.int .i64 k] [] (rz k) []) (p3 : MC Tryz.prog 32 [rz k, rz k] [] (rz kk) []) (p4 : MC Tryz.prog 31 [rz hmm, rz kk] [] (rz i) []) (sg : MC Tryz.prog 33 [rz i] [] (i6 (signI (some i))) []) (p5 : MC Tryz.prog 32 [rz R, rz R] [] (rz ff) []) (p6 : MC Tryz.prog 32 [rz h, rz ff] [] (rz hff) []) (up : MC Tryz.prog 35 [rz hff] [] (errI U0 0) []) (eU : (if U0 < IntKind.i64.wrap (h + w) then U0 else IntKind.i64.wrap (h + w)) = U) (c0 : l0 > 0) (c1 : ¬ signI (some i) > 0) (c2 : ¬ U < l0) (c3 : ¬ U = l0) :
    PC Tryz.prog 9 [e.val, n.val, .int .i64 lo, .int .i64 hi] (srT ⟨n.x, n.y, X, Y, l0, U⟩ 0) :=
  PC.run mixed Tryz.func9 [.res (.bool true), .res (.bool true), .res (.bool true), .is 11 (.int .i64 X), .is 6 (.int .i64 Y), .tst false, .res (.int .i64 r), .is 4 (.int .i64 R), .ab (rz R), .is 3 (.int .i64 l), .is 0 (.int .i64 m), .ab (rz m), .is 19 (.int .i64 h), .res (errI w 0), .is 10 (.int .i64 mY), .res (errI k 0), .is 8 (.int .i64 l0), .tst true, .ab (rz h), .ab (rz mm), .ab (rz hmm), .ab (rz k), .ab (rz k), .ab (rz kk), .ab (rz i), .ab (i6 (signI (some i))), .tst false, .ab (rz h), .ab (rz ff), .ab (rz hff), .ab (errI U0 0), .is 10 (.int .i64 U), .tst false, .tst false] rfl (ts5 (show (!isO X Y) = true by rw [ho]; rfl) (tT c0) (tF c1) (tF c2) (tF c3)) (qsC q1 <| qsC q2 <| qsC q3 <| qsC (congrArg (Value.int .i64) ex) <| qsC (congrArg (Value.int .i64) ey) <| qsC qr <| qsC (congrArg (Value.int .i64) eR) <| qsC bR <| qsC (congrArg (Value.int .i64) el) <| qsC (congrArg (Value.int .i64) em) <| qsC bm <| qsC (congrArg (Value.int .i64) eh) <| qsC qw <| qsC (congrArg (Value.int .i64) eY) <| qsC qk <| qsC (congrArg (Value.int .i64) e0) <| qsC bh <| qsC p1 <| qsC p2 <| qsC bk <| qsC bk <| qsC p3 <| qsC p4 <| qsC sg <| qsC bh <| qsC p5 <| qsC p6 <| qsC up <| qsC (congrArg (Value.int .i64) eU) <| qs0) rfl rfl (by kernel_rfl)
theorem rring_bt (ho : isO X Y = false) (q1 : QC Tryz.prog 26 [e.val] (.bool true)) (q2 : QC Tryz.prog 26 [n.val] (.bool true)) (q3 : QC Tryz.prog 27 [.int .i64 lo, .int .i64 hi] (.bool true)) (ex : IntKind.i64.wrap (e.x - n.x) = X) (ey : IntKind.i64.wrap (e.y - n.y) = Y) (qr : QC Tryz.prog 28 [n.val] (.int .i64 r)) (eR : IntKind.i64.wrap (hi + r) = R) (bR : MC Tryz.prog 29 [.int .i64 R] [] (rz R) []) (el : IntKind.i64.wrap (lo - r) = l) (em : (if l > 0 then l else 0) = m) (bm : MC Tryz.prog 29 [.int .i64 m] [] (rz m) []) (eh : IntKind.i64.wrap (IntKind.i64.wrap (X * X) + IntKind.i64.wrap (Y * Y)) = h) (qw : QC Tryz.prog 30 [e.val, pt X Y] (errI w 0)) (eY : IntKind.i64.wrap (0 - Y) = mY) (qk : QC Tryz.prog 30 [e.val, pt mY X] (errI k 0)) (e0 : IntKind.i64.wrap (h - w) = l0) (bh : MC Tryz.prog 29 [.int .i64 h] [] (rz h) []) (p1 : MC Tryz.prog 32 [rz m, rz m] [] (rz mm) []) (p2 : MC Tryz.prog 32 [rz h, rz mm] [] (rz hmm) []) (bk : MC Tryz.prog 29 [.int .i64 k] [] (rz k) []) (p3 : MC Tryz.prog 32 [rz k, rz k] [] (rz kk) []) (p4 : MC Tryz.prog 31 [rz hmm, rz kk] [] (rz i) []) (sg : MC Tryz.prog 33 [rz i] [] (i6 (signI (some i))) []) (p5 : MC Tryz.prog 32 [rz R, rz R] [] (rz ff) []) (p6 : MC Tryz.prog 32 [rz h, rz ff] [] (rz hff) []) (up : MC Tryz.prog 35 [rz hff] [] (errI U0 0) []) (eU : (if U0 < IntKind.i64.wrap (h + w) then U0 else IntKind.i64.wrap (h + w)) = U) (eV : IntKind.i64.wrap (U + 1) = U') (c0 : l0 > 0) (c1 : ¬ signI (some i) > 0) (c2 : ¬ U < l0) (c3 : U = l0) :
    PC Tryz.prog 9 [e.val, n.val, .int .i64 lo, .int .i64 hi] (srT ⟨n.x, n.y, X, Y, l0, U'⟩ 0) :=
  PC.run mixed Tryz.func9 [.res (.bool true), .res (.bool true), .res (.bool true), .is 11 (.int .i64 X), .is 6 (.int .i64 Y), .tst false, .res (.int .i64 r), .is 4 (.int .i64 R), .ab (rz R), .is 3 (.int .i64 l), .is 0 (.int .i64 m), .ab (rz m), .is 19 (.int .i64 h), .res (errI w 0), .is 10 (.int .i64 mY), .res (errI k 0), .is 8 (.int .i64 l0), .tst true, .ab (rz h), .ab (rz mm), .ab (rz hmm), .ab (rz k), .ab (rz k), .ab (rz kk), .ab (rz i), .ab (i6 (signI (some i))), .tst false, .ab (rz h), .ab (rz ff), .ab (rz hff), .ab (errI U0 0), .is 10 (.int .i64 U), .tst false, .tst true, .is 2 (.int .i64 U')] rfl (ts5 (show (!isO X Y) = true by rw [ho]; rfl) (tT c0) (tF c1) (tF c2) (tT c3)) (qsC q1 <| qsC q2 <| qsC q3 <| qsC (congrArg (Value.int .i64) ex) <| qsC (congrArg (Value.int .i64) ey) <| qsC qr <| qsC (congrArg (Value.int .i64) eR) <| qsC bR <| qsC (congrArg (Value.int .i64) el) <| qsC (congrArg (Value.int .i64) em) <| qsC bm <| qsC (congrArg (Value.int .i64) eh) <| qsC qw <| qsC (congrArg (Value.int .i64) eY) <| qsC qk <| qsC (congrArg (Value.int .i64) e0) <| qsC bh <| qsC p1 <| qsC p2 <| qsC bk <| qsC bk <| qsC p3 <| qsC p4 <| qsC sg <| qsC bh <| qsC p5 <| qsC p6 <| qsC up <| qsC (congrArg (Value.int .i64) eU) <| qsC (congrArg (Value.int .i64) eV) <| qs0) rfl rfl (by kernel_rfl)
theorem rring_ce (ho : isO X Y = false) (q1 : QC Tryz.prog 26 [e.val] (.bool true)) (q2 : QC Tryz.prog 26 [n.val] (.bool true)) (q3 : QC Tryz.prog 27 [.int .i64 lo, .int .i64 hi] (.bool true)) (ex : IntKind.i64.wrap (e.x - n.x) = X) (ey : IntKind.i64.wrap (e.y - n.y) = Y) (qr : QC Tryz.prog 28 [n.val] (.int .i64 r)) (eR : IntKind.i64.wrap (hi + r) = R) (bR : MC Tryz.prog 29 [.int .i64 R] [] (rz R) []) (el : IntKind.i64.wrap (lo - r) = l) (em : (if l > 0 then l else 0) = m) (bm : MC Tryz.prog 29 [.int .i64 m] [] (rz m) []) (eh : IntKind.i64.wrap (IntKind.i64.wrap (X * X) + IntKind.i64.wrap (Y * Y)) = h) (qw : QC Tryz.prog 30 [e.val, pt X Y] (errI w 0)) (eY : IntKind.i64.wrap (0 - Y) = mY) (qk : QC Tryz.prog 30 [e.val, pt mY X] (errI k 0)) (e0 : IntKind.i64.wrap (h - w) = l0) (bh : MC Tryz.prog 29 [.int .i64 h] [] (rz h) []) (p1 : MC Tryz.prog 32 [rz m, rz m] [] (rz mm) []) (p2 : MC Tryz.prog 32 [rz h, rz mm] [] (rz hmm) []) (bk : MC Tryz.prog 29 [.int .i64 k] [] (rz k) []) (p3 : MC Tryz.prog 32 [rz k, rz k] [] (rz kk) []) (p4 : MC Tryz.prog 31 [rz hmm, rz kk] [] (rz i) []) (sg : MC Tryz.prog 33 [rz i] [] (i6 (signI (some i))) []) (dn : MC Tryz.prog 34 [rz i] [] (errI D De) []) (eL : (if D > l0 then D else l0) = L) (p5 : MC Tryz.prog 32 [rz R, rz R] [] (rz ff) []) (p6 : MC Tryz.prog 32 [rz h, rz ff] [] (rz hff) []) (up : MC Tryz.prog 35 [rz hff] [] (errI U0 0) []) (eU : (if U0 < IntKind.i64.wrap (h + w) then U0 else IntKind.i64.wrap (h + w)) = U) (c0 : l0 > 0) (c1 : signI (some i) > 0) (c2 : U < L) :
    PC Tryz.prog 9 [e.val, n.val, .int .i64 lo, .int .i64 hi] (srT ⟨0, 0, 0, 0, 0, 0⟩ 3) :=
  PC.run mixed Tryz.func9 [.res (.bool true), .res (.bool true), .res (.bool true), .is 11 (.int .i64 X), .is 6 (.int .i64 Y), .tst false, .res (.int .i64 r), .is 4 (.int .i64 R), .ab (rz R), .is 3 (.int .i64 l), .is 0 (.int .i64 m), .ab (rz m), .is 19 (.int .i64 h), .res (errI w 0), .is 10 (.int .i64 mY), .res (errI k 0), .is 8 (.int .i64 l0), .tst true, .ab (rz h), .ab (rz mm), .ab (rz hmm), .ab (rz k), .ab (rz k), .ab (rz kk), .ab (rz i), .ab (i6 (signI (some i))), .tst true, .ab (errI D De), .is 9 (.int .i64 L), .ab (rz h), .ab (rz ff), .ab (rz hff), .ab (errI U0 0), .is 10 (.int .i64 U), .tst true] rfl (ts4 (show (!isO X Y) = true by rw [ho]; rfl) (tT c0) (tT c1) (tT c2)) (qsC q1 <| qsC q2 <| qsC q3 <| qsC (congrArg (Value.int .i64) ex) <| qsC (congrArg (Value.int .i64) ey) <| qsC qr <| qsC (congrArg (Value.int .i64) eR) <| qsC bR <| qsC (congrArg (Value.int .i64) el) <| qsC (congrArg (Value.int .i64) em) <| qsC bm <| qsC (congrArg (Value.int .i64) eh) <| qsC qw <| qsC (congrArg (Value.int .i64) eY) <| qsC qk <| qsC (congrArg (Value.int .i64) e0) <| qsC bh <| qsC p1 <| qsC p2 <| qsC bk <| qsC bk <| qsC p3 <| qsC p4 <| qsC sg <| qsC dn <| qsC (congrArg (Value.int .i64) eL) <| qsC bh <| qsC p5 <| qsC p6 <| qsC up <| qsC (congrArg (Value.int .i64) eU) <| qs0) rfl rfl (by kernel_rfl)
theorem rring_cw (ho : isO X Y = false) (q1 : QC Tryz.prog 26 [e.val] (.bool true)) (q2 : QC Tryz.prog 26 [n.val] (.bool true)) (q3 : QC Tryz.prog 27 [.int .i64 lo, .int .i64 hi] (.bool true)) (ex : IntKind.i64.wrap (e.x - n.x) = X) (ey : IntKind.i64.wrap (e.y - n.y) = Y) (qr : QC Tryz.prog 28 [n.val] (.int .i64 r)) (eR : IntKind.i64.wrap (hi + r) = R) (bR : MC Tryz.prog 29 [.int .i64 R] [] (rz R) []) (el : IntKind.i64.wrap (lo - r) = l) (em : (if l > 0 then l else 0) = m) (bm : MC Tryz.prog 29 [.int .i64 m] [] (rz m) []) (eh : IntKind.i64.wrap (IntKind.i64.wrap (X * X) + IntKind.i64.wrap (Y * Y)) = h) (qw : QC Tryz.prog 30 [e.val, pt X Y] (errI w 0)) (eY : IntKind.i64.wrap (0 - Y) = mY) (qk : QC Tryz.prog 30 [e.val, pt mY X] (errI k 0)) (e0 : IntKind.i64.wrap (h - w) = l0) (bh : MC Tryz.prog 29 [.int .i64 h] [] (rz h) []) (p1 : MC Tryz.prog 32 [rz m, rz m] [] (rz mm) []) (p2 : MC Tryz.prog 32 [rz h, rz mm] [] (rz hmm) []) (bk : MC Tryz.prog 29 [.int .i64 k] [] (rz k) []) (p3 : MC Tryz.prog 32 [rz k, rz k] [] (rz kk) []) (p4 : MC Tryz.prog 31 [rz hmm, rz kk] [] (rz i) []) (sg : MC Tryz.prog 33 [rz i] [] (i6 (signI (some i))) []) (dn : MC Tryz.prog 34 [rz i] [] (errI D De) []) (eL : (if D > l0 then D else l0) = L) (p5 : MC Tryz.prog 32 [rz R, rz R] [] (rz ff) []) (p6 : MC Tryz.prog 32 [rz h, rz ff] [] (rz hff) []) (up : MC Tryz.prog 35 [rz hff] [] (errI U0 0) []) (eU : (if U0 < IntKind.i64.wrap (h + w) then U0 else IntKind.i64.wrap (h + w)) = U) (c0 : l0 > 0) (c1 : signI (some i) > 0) (c2 : ¬ U < L) (c3 : ¬ U = L) :
    PC Tryz.prog 9 [e.val, n.val, .int .i64 lo, .int .i64 hi] (srT ⟨n.x, n.y, X, Y, L, U⟩ 0) :=
  PC.run mixed Tryz.func9 [.res (.bool true), .res (.bool true), .res (.bool true), .is 11 (.int .i64 X), .is 6 (.int .i64 Y), .tst false, .res (.int .i64 r), .is 4 (.int .i64 R), .ab (rz R), .is 3 (.int .i64 l), .is 0 (.int .i64 m), .ab (rz m), .is 19 (.int .i64 h), .res (errI w 0), .is 10 (.int .i64 mY), .res (errI k 0), .is 8 (.int .i64 l0), .tst true, .ab (rz h), .ab (rz mm), .ab (rz hmm), .ab (rz k), .ab (rz k), .ab (rz kk), .ab (rz i), .ab (i6 (signI (some i))), .tst true, .ab (errI D De), .is 9 (.int .i64 L), .ab (rz h), .ab (rz ff), .ab (rz hff), .ab (errI U0 0), .is 10 (.int .i64 U), .tst false, .tst false] rfl (ts5 (show (!isO X Y) = true by rw [ho]; rfl) (tT c0) (tT c1) (tF c2) (tF c3)) (qsC q1 <| qsC q2 <| qsC q3 <| qsC (congrArg (Value.int .i64) ex) <| qsC (congrArg (Value.int .i64) ey) <| qsC qr <| qsC (congrArg (Value.int .i64) eR) <| qsC bR <| qsC (congrArg (Value.int .i64) el) <| qsC (congrArg (Value.int .i64) em) <| qsC bm <| qsC (congrArg (Value.int .i64) eh) <| qsC qw <| qsC (congrArg (Value.int .i64) eY) <| qsC qk <| qsC (congrArg (Value.int .i64) e0) <| qsC bh <| qsC p1 <| qsC p2 <| qsC bk <| qsC bk <| qsC p3 <| qsC p4 <| qsC sg <| qsC dn <| qsC (congrArg (Value.int .i64) eL) <| qsC bh <| qsC p5 <| qsC p6 <| qsC up <| qsC (congrArg (Value.int .i64) eU) <| qs0) rfl rfl (by kernel_rfl)
theorem rring_ct (ho : isO X Y = false) (q1 : QC Tryz.prog 26 [e.val] (.bool true)) (q2 : QC Tryz.prog 26 [n.val] (.bool true)) (q3 : QC Tryz.prog 27 [.int .i64 lo, .int .i64 hi] (.bool true)) (ex : IntKind.i64.wrap (e.x - n.x) = X) (ey : IntKind.i64.wrap (e.y - n.y) = Y) (qr : QC Tryz.prog 28 [n.val] (.int .i64 r)) (eR : IntKind.i64.wrap (hi + r) = R) (bR : MC Tryz.prog 29 [.int .i64 R] [] (rz R) []) (el : IntKind.i64.wrap (lo - r) = l) (em : (if l > 0 then l else 0) = m) (bm : MC Tryz.prog 29 [.int .i64 m] [] (rz m) []) (eh : IntKind.i64.wrap (IntKind.i64.wrap (X * X) + IntKind.i64.wrap (Y * Y)) = h) (qw : QC Tryz.prog 30 [e.val, pt X Y] (errI w 0)) (eY : IntKind.i64.wrap (0 - Y) = mY) (qk : QC Tryz.prog 30 [e.val, pt mY X] (errI k 0)) (e0 : IntKind.i64.wrap (h - w) = l0) (bh : MC Tryz.prog 29 [.int .i64 h] [] (rz h) []) (p1 : MC Tryz.prog 32 [rz m, rz m] [] (rz mm) []) (p2 : MC Tryz.prog 32 [rz h, rz mm] [] (rz hmm) []) (bk : MC Tryz.prog 29 [.int .i64 k] [] (rz k) []) (p3 : MC Tryz.prog 32 [rz k, rz k] [] (rz kk) []) (p4 : MC Tryz.prog 31 [rz hmm, rz kk] [] (rz i) []) (sg : MC Tryz.prog 33 [rz i] [] (i6 (signI (some i))) []) (dn : MC Tryz.prog 34 [rz i] [] (errI D De) []) (eL : (if D > l0 then D else l0) = L) (p5 : MC Tryz.prog 32 [rz R, rz R] [] (rz ff) []) (p6 : MC Tryz.prog 32 [rz h, rz ff] [] (rz hff) []) (up : MC Tryz.prog 35 [rz hff] [] (errI U0 0) []) (eU : (if U0 < IntKind.i64.wrap (h + w) then U0 else IntKind.i64.wrap (h + w)) = U) (eV : IntKind.i64.wrap (U + 1) = U') (c0 : l0 > 0) (c1 : signI (some i) > 0) (c2 : ¬ U < L) (c3 : U = L) :
    PC Tryz.prog 9 [e.val, n.val, .int .i64 lo, .int .i64 hi] (srT ⟨n.x, n.y, X, Y, L, U'⟩ 0) :=
  PC.run mixed Tryz.func9 [.res (.bool true), .res (.bool true), .res (.bool true), .is 11 (.int .i64 X), .is 6 (.int .i64 Y), .tst false, .res (.int .i64 r), .is 4 (.int .i64 R), .ab (rz R), .is 3 (.int .i64 l), .is 0 (.int .i64 m), .ab (rz m), .is 19 (.int .i64 h), .res (errI w 0), .is 10 (.int .i64 mY), .res (errI k 0), .is 8 (.int .i64 l0), .tst true, .ab (rz h), .ab (rz mm), .ab (rz hmm), .ab (rz k), .ab (rz k), .ab (rz kk), .ab (rz i), .ab (i6 (signI (some i))), .tst true, .ab (errI D De), .is 9 (.int .i64 L), .ab (rz h), .ab (rz ff), .ab (rz hff), .ab (errI U0 0), .is 10 (.int .i64 U), .tst false, .tst true, .is 2 (.int .i64 U')] rfl (ts5 (show (!isO X Y) = true by rw [ho]; rfl) (tT c0) (tT c1) (tF c2) (tT c3)) (qsC q1 <| qsC q2 <| qsC q3 <| qsC (congrArg (Value.int .i64) ex) <| qsC (congrArg (Value.int .i64) ey) <| qsC qr <| qsC (congrArg (Value.int .i64) eR) <| qsC bR <| qsC (congrArg (Value.int .i64) el) <| qsC (congrArg (Value.int .i64) em) <| qsC bm <| qsC (congrArg (Value.int .i64) eh) <| qsC qw <| qsC (congrArg (Value.int .i64) eY) <| qsC qk <| qsC (congrArg (Value.int .i64) e0) <| qsC bh <| qsC p1 <| qsC p2 <| qsC bk <| qsC bk <| qsC p3 <| qsC p4 <| qsC sg <| qsC dn <| qsC (congrArg (Value.int .i64) eL) <| qsC bh <| qsC p5 <| qsC p6 <| qsC up <| qsC (congrArg (Value.int .i64) eU) <| qsC (congrArg (Value.int .i64) eV) <| qs0) rfl rfl (by kernel_rfl)
theorem rring_none (q1 : QC Tryz.prog 26 [e.val] (.bool true)) (q2 : QC Tryz.prog 26 [n.val] (.bool true)) (q3 : QC Tryz.prog 27 [.int .i64 lo, .int .i64 hi] (.bool true)) (ex : IntKind.i64.wrap (e.x - n.x) = 0) (ey : IntKind.i64.wrap (e.y - n.y) = 0) : PC Tryz.prog 9 [e.val, n.val, .int .i64 lo, .int .i64 hi] (srT ⟨0, 0, 0, 0, 0, 0⟩ 7) :=
  PC.run mixed Tryz.func9 [.res (.bool true), .res (.bool true), .res (.bool true), .is 11 (.int .i64 0), .is 6 (.int .i64 0)] rfl ts0 (qsC q1 <| qsC q2 <| qsC q3 <| qsC (congrArg (Value.int .i64) ex) <| qsC (congrArg (Value.int .i64) ey) <| qs0) rfl rfl (by kernel_rfl)
end
theorem rRing_pc {e n : El} (he : e.Ok) (hn : n.Ok) (lo hi : Int) : PC Tryz.prog 9 [e.val, n.val, .int .i64 lo, .int .i64 hi] (ringV e n lo hi).val := by
  unfold ringV
  cases h1 : measB e n lo hi with
  | false =>
    cases a1 : e.may with
    | false => exact PC.run mixed Tryz.func9 [.res (.bool false)] rfl ts0 (qs1 (may_qr he a1)) rfl rfl (by kernel_rfl)
    | true => cases a2 : n.may with
      | false => exact PC.run mixed Tryz.func9 [.res (.bool true), .res (.bool false)] rfl ts0 (qs2 (may_qr he a1) (may_qr hn a2)) rfl rfl (by kernel_rfl)
      | true =>
        have a3 : distB lo hi = false := by
          unfold measB at h1
          rw [a1, a2] at h1
          exact h1
        exact PC.run mixed Tryz.func9 [.res (.bool true), .res (.bool true), .res (.bool false)] rfl ts0 (qs3 (may_qr he a1) (may_qr hn a2) (rDist_qc lo hi a3)) rfl rfl (by kernel_rfl)
  | true =>
    obtain ⟨m1, m2, l0, l1, l2⟩ := measB_iff.1 h1
    have q1 := may_qr he m1
    have q2 := may_qr hn m2
    have q3 := rDist_qc lo hi (r := true) (by unfold distB; rw [decide_eq_true l0, decide_eq_true l1, decide_eq_true l2]; rfl)
    obtain ⟨bx, by', sn⟩ := rg_seen m1 m2
    have hr := rad_bd m2
    have ex : IntKind.i64.wrap (e.x - n.x) = rgX e n := wrapS (show -4611686018427387904 ≤ rgX e n ∧ rgX e n ≤ 4611686018427387904 by omega)
    have ey : IntKind.i64.wrap (e.y - n.y) = rgY e n := wrapS (show -4611686018427387904 ≤ rgY e n ∧ rgY e n ≤ 4611686018427387904 by omega)
    have bU := rgU_bd h1
    cases h2 : isO (rgX e n) (rgY e n) with
    | true =>
      simp only [isO, Bool.and_eq_true, decide_eq_true_eq] at h2
      exact rring_none q1 q2 q3 (ex.trans h2.1) (ey.trans h2.2.1)
    | false =>
      have qr := rad_qr hn
      have qw := al_qr he m1 (p := rgX e n) (q := rgY e n) (Go.Proofs.YtaibhjphgdjcmaaGreat.W.within_iff.2 (by omega))
      have qk := al_qr he m1 (p := -rgY e n) (q := rgX e n) (Go.Proofs.YtaibhjphgdjcmaaGreat.W.within_iff.2 (by omega))
      have eh : IntKind.i64.wrap (IntKind.i64.wrap (rgX e n * rgX e n) + IntKind.i64.wrap (rgY e n * rgY e n)) = sqH (rgX e n) (rgY e n) := by
        have b1 := sq_le bx
        have b2 := sq_le by'
        have n1 := sq_nn (rgX e n)
        have n2 := sq_nn (rgY e n)
        rw [wrapS (z := rgX e n * rgX e n) (by omega), wrapS (z := rgY e n * rgY e n) (by omega), wrapS (by omega)]
        rfl
      have eY : IntKind.i64.wrap (0 - rgY e n) = -rgY e n := by rw [wrapS (by omega)]; omega
      have eLd : rgL e n lo = ringL (sqH (rgX e n) (rgY e n)) (e.al (rgX e n) (rgY e n)) (e.al (-rgY e n) (rgX e n)) (max (lo - n.rad) 0) := rfl
      obtain ⟨R, hRd⟩ : ∃ R, R = hi + n.rad := ⟨_, rfl⟩
      have eUd : rgU e n hi = ringU (sqH (rgX e n) (rgY e n)) (e.al (rgX e n) (rgY e n)) R := by rw [hRd]; rfl
      have eR : IntKind.i64.wrap (hi + n.rad) = R := by rw [hRd]; exact wrapS (by omega)
      have el : IntKind.i64.wrap (lo - n.rad) = lo - n.rad := wrapS (by omega)
      have em : (if lo - n.rad > 0 then lo - n.rad else 0) = max (lo - n.rad) 0 := by split <;> omega
      have bm : 0 ≤ max (lo - n.rad) 0 ∧ max (lo - n.rad) 0 ≤ 4194304 := by omega
      have bRR : 0 ≤ R ∧ R ≤ 20971520 := by omega
      unfold rgS
      generalize rgX e n = X at *
      generalize rgY e n = Y at *
      generalize rgL e n lo = L at *
      generalize rgU e n hi = U at *
      generalize sqH X Y = s at *
      generalize e.al X Y = w at *
      generalize e.al (-Y) X = c at *
      generalize max (lo - n.rad) 0 = m at *
      have hs := sn.s
      have hw := sn.w
      have hc := sn.c
      have e0 : IntKind.i64.wrap (s - w) = s - w := wrapS (by omega)
      have is : I64 s := ⟨by omega, by omega⟩
      have im : I64 m := ⟨by omega, by omega⟩
      have ic : I64 c := ⟨by omega, by omega⟩
      have iR : I64 R := ⟨by omega, by omega⟩
      have p1 := rmul im.sm im.sm
      have p2 := rmul is.sm (im.sm.mul im.sm)
      have p3 := rmul ic.sm ic.sm
      have s1 : Sm 192 (s * (m * m)) := (is.sm.mul (im.sm.mul im.sm)).mono (by omega)
      have s2 : Sm 192 (c * c) := (ic.sm.mul ic.sm).mono (by omega)
      have p4 := rsub s1 s2
      have p5 := rmul iR.sm iR.sm
      have p6 := rmul is.sm (iR.sm.mul iR.sm)
      obtain ⟨u0, u1⟩ := ringU_in hs bRR
      have up := rWideUp_t u0 ((is.sm.mul (iR.sm.mul iR.sm)).wf (by omega)) (by omega)
      have eU : (if ((csq (s * (R * R)).natAbs : Nat) : Int) < IntKind.i64.wrap (s + w) then ((csq (s * (R * R)).natAbs : Nat) : Int) else IntKind.i64.wrap (s + w)) = U := by
        rw [wrapS (by omega), eUd]
        exact min_if
      unfold ringL at eLd
      by_cases c0 : s - w > 0
      · rw [if_neg (by omega)] at eLd
        by_cases c1 : s * (m * m) - c * c > 0
        · have hd : dnI (s * (m * m) - c * c) = ((isq (s * (m * m) - c * c).natAbs : Nat) : Int) := by unfold dnI; rw [if_neg (by omega)]
          rw [hd] at eLd
          have hk : ((isq (s * (m * m) - c * c).natAbs : Nat) : Int) ≤ 70368744177664 := by
            have m2 : m * m ≤ 4194304 * 4194304 := sq_le (n := 4194304) ⟨by omega, bm.2⟩
            have s3 : s * (m * m) ≤ 140737488355328 * (4194304 * 4194304) := Int.mul_le_mul hs.2 m2 (sq_nn m) (by omega)
            have c2 := sq_nn c
            have := dnI_le (z := s * (m * m) - c * c) (K := 70368744177664) (by omega) (by omega)
            omega
          have dn := rWideDown_t (z := s * (m * m) - c * c) (by omega) ((s1.sub s2).wf (by omega)) (by omega)
          have eL : (if ((isq (s * (m * m) - c * c).natAbs : Nat) : Int) > s - w then ((isq (s * (m * m) - c * c).natAbs : Nat) : Int) else s - w) = L := by rw [eLd]; exact max_if
          by_cases h3 : U < L
          · rw [decide_eq_true h3]
            exact rring_ce h2 q1 q2 q3 ex ey qr eR (ebig iR) el em (ebig im) eh qw eY qk e0 (ebig is) p1 p2 (ebig ic) p3 p4 (rsign _) dn eL p5 p6 up eU c0 (rsign_pos.2 c1) h3
          · rw [decide_eq_false h3]
            by_cases h4 : U = L
            · rw [if_pos h4]
              exact rring_ct h2 q1 q2 q3 ex ey qr eR (ebig iR) el em (ebig im) eh qw eY qk e0 (ebig is) p1 p2 (ebig ic) p3 p4 (rsign _) dn eL p5 p6 up eU (wrapS (by omega)) c0 (rsign_pos.2 c1) h3 h4
            · rw [if_neg h4]
              exact rring_cw h2 q1 q2 q3 ex ey qr eR (ebig iR) el em (ebig im) eh qw eY qk e0 (ebig is) p1 p2 (ebig ic) p3 p4 (rsign _) dn eL p5 p6 up eU c0 (rsign_pos.2 c1) h3 h4
        · have hd : dnI (s * (m * m) - c * c) = 0 := by
            unfold dnI
            by_cases hz : s * (m * m) - c * c < 0
            · rw [if_pos hz]
            · rw [if_neg hz, show s * (m * m) - c * c = 0 by omega]; rfl
          rw [hd, show max (s - w) 0 = s - w by omega] at eLd
          subst eLd
          by_cases h3 : U < s - w
          · rw [decide_eq_true h3]
            exact rring_be h2 q1 q2 q3 ex ey qr eR (ebig iR) el em (ebig im) eh qw eY qk e0 (ebig is) p1 p2 (ebig ic) p3 p4 (rsign _) p5 p6 up eU c0 (fun h => c1 (rsign_pos.1 h)) h3
          · rw [decide_eq_false h3]
            by_cases h4 : U = s - w
            · rw [if_pos h4]
              exact rring_bt h2 q1 q2 q3 ex ey qr eR (ebig iR) el em (ebig im) eh qw eY qk e0 (ebig is) p1 p2 (ebig ic) p3 p4 (rsign _) p5 p6 up eU (wrapS (by omega)) c0 (fun h => c1 (rsign_pos.1 h)) h3 h4
            · rw [if_neg h4]
              exact rring_bw h2 q1 q2 q3 ex ey qr eR (ebig iR) el em (ebig im) eh qw eY qk e0 (ebig is) p1 p2 (ebig ic) p3 p4 (rsign _) p5 p6 up eU c0 (fun h => c1 (rsign_pos.1 h)) h3 h4
      · rw [if_pos (by omega)] at eLd
        subst eLd
        by_cases h3 : U < s - w
        · rw [decide_eq_true h3]
          exact rring_ae h2 q1 q2 q3 ex ey qr eR (ebig iR) el em (ebig im) eh qw eY qk e0 (ebig is) p5 p6 up eU c0 h3
        · rw [decide_eq_false h3]
          by_cases h4 : U = s - w
          · rw [if_pos h4]
            exact rring_at h2 q1 q2 q3 ex ey qr eR (ebig iR) el em (ebig im) eh qw eY qk e0 (ebig is) p5 p6 up eU (wrapS (by omega)) c0 h3 h4
          · rw [if_neg h4]
            exact rring_aw h2 q1 q2 q3 ex ey qr eR (ebig iR) el em (ebig im) eh qw eY qk e0 (ebig is) p5 p6 up eU c0 h3 h4
theorem rRing_qc {e n : El} (he : e.Ok) (hn : n.Ok) (lo hi : Int) (v : Sr) (h : ringV e n lo hi = v) : QC Tryz.prog 9 [e.val, n.val, .int .i64 lo, .int .i64 hi] v.val := h ▸ QC.of_pc enters_rRing (rRing_pc he hn lo hi)

/-! ### Update and Acquire -/
theorem gFuse_one {e f : El} (he : e.may = true) (hf : f.may = true) : gFuse e f = ⟨.zero, 3⟩ ∨ ∃ g, gFuse e f = ⟨g, 0⟩ := by
  unfold gFuse
  rw [he, hf]
  simp only [Bool.and_self]
  split
  · exact .inl rfl
  · exact .inr ⟨_, rfl⟩
theorem gCut_one {e : El} {s : Sp} (he : e.may = true) (hs : s.may = true) : gCut e s = ⟨.zero, 3⟩ ∨ ∃ g, gCut e s = ⟨g, 0⟩ := by
  unfold gCut
  rw [he, hs]
  simp only [Bool.and_self]
  unfold smV
  split
  · exact .inl rfl
  · exact .inr ⟨_, rfl⟩
theorem upd_tail {T : Value → Prop} {g n : El} (hg : g.Ok) (hn : n.Ok) (lo hi : Int) (r3 : QC Tryz.prog 9 [g.val, n.val, .int .i64 lo, .int .i64 hi] (srT ⟨0, 0, 0, 0, 0, 0⟩ 3) → T (Mk.mk .zero 3).val)
    (r1 : QC Tryz.prog 9 [g.val, n.val, .int .i64 lo, .int .i64 hi] (srT ⟨0, 0, 0, 0, 0, 0⟩ 1) → T (Mk.mk g 0).val) (r7 : QC Tryz.prog 9 [g.val, n.val, .int .i64 lo, .int .i64 hi] (srT ⟨0, 0, 0, 0, 0, 0⟩ 7) → T (Mk.mk g 0).val)
    (c3 : ∀ s : Sp, QC Tryz.prog 9 [g.val, n.val, .int .i64 lo, .int .i64 hi] (srT s 0) → QC Tryz.prog 40 [g.val, s.val] (Mk.mk .zero 3).val → T (Mk.mk .zero 3).val)
    (c0 : ∀ (s : Sp) (f : El), QC Tryz.prog 9 [g.val, n.val, .int .i64 lo, .int .i64 hi] (srT s 0) → QC Tryz.prog 40 [g.val, s.val] (Mk.mk f 0).val → T (Mk.mk f 0).val) : T (inRing g n lo hi).val := by
  have hq := rRing_qc hg hn lo hi _ rfl
  unfold ringV at hq
  unfold inRing
  cases h1 : measB g n lo hi with
  | false => rw [h1] at hq; exact r1 hq
  | true =>
    rw [h1] at hq
    cases h2 : isO (rgX g n) (rgY g n) with
    | true => rw [h2] at hq; exact r7 hq
    | false =>
      rw [h2] at hq
      by_cases h3 : rgU g n hi < rgL g n lo
      · rw [decide_eq_true h3] at hq ⊢; exact r3 hq
      · rw [decide_eq_false h3] at hq ⊢
        have hm := (measB_iff.1 h1).1
        have hs := rgS_may h1 h2 h3
        show T (gCut g (rgS g n lo hi)).val
        rcases gCut_one hm hs with hc | ⟨f, hc⟩
        · rw [hc]; exact c3 _ hq (rCut_qc _ hg _ hc)
        · rw [hc]; exact c0 _ f hq (rCut_qc _ hg _ hc)
theorem enters_rUpd : ∀ us w, (callFunc 11 us).run Tryz.prog w = .ok (.enter 11 us) w := enters Tryz.func11 rfl (by kernel_rfl)
theorem enters_rAcq : ∀ us w, (callFunc 13 us).run Tryz.prog w = .ok (.enter 13 us) w := enters Tryz.func13 rfl (by kernel_rfl)
section
variable {e n b g f : El} {lo hi r R : Int} {s : Sp} (q1 : QC Tryz.prog 26 [e.val] (.bool true)) (q2 : QC Tryz.prog 26 [n.val] (.bool true)) (q3 : QC Tryz.prog 27 [.int .i64 lo, .int .i64 hi] (.bool true)) (qr : QC Tryz.prog 28 [n.val] (.int .i64 r)) (eR : IntKind.i64.wrap (hi + r) = R)
include q1 q2 q3 qr eR
theorem rupd_f3 (qb : QC Tryz.prog 38 [pt n.x n.y, .int .i64 R] (Mk.mk b 0).val) (qf : QC Tryz.prog 39 [e.val, b.val] (Mk.mk .zero 3).val) : PC Tryz.prog 11 [e.val, n.val, .int .i64 lo, .int .i64 hi] (Mk.mk .zero 3).val :=
  PC.run mixed Tryz.func11 [.res (.bool true), .res (.bool true), .res (.bool true), .res (.int .i64 r), .is 1 (.int .i64 R), .res (Mk.mk b 0).val, .res (Mk.mk .zero 3).val] rfl ts0 (qsC q1 <| qsC q2 <| qsC q3 <| qsC qr <| qsC (congrArg (Value.int .i64) eR) <| qsC qb <| qsC qf <| qs0) rfl rfl (by kernel_rfl)
theorem rupd_b3 (qb : QC Tryz.prog 38 [pt n.x n.y, .int .i64 R] (Mk.mk b 0).val) (qf : QC Tryz.prog 39 [e.val, b.val] (Mk.mk g 0).val) (qg : QC Tryz.prog 9 [g.val, n.val, .int .i64 lo, .int .i64 hi] (srT ⟨0, 0, 0, 0, 0, 0⟩ 3)) : PC Tryz.prog 11 [e.val, n.val, .int .i64 lo, .int .i64 hi] (Mk.mk .zero 3).val :=
  PC.run mixed Tryz.func11 [.res (.bool true), .res (.bool true), .res (.bool true), .res (.int .i64 r), .is 1 (.int .i64 R), .res (Mk.mk b 0).val, .res (Mk.mk g 0).val, .res (srT ⟨0, 0, 0, 0, 0, 0⟩ 3)] rfl ts0 (qsC q1 <| qsC q2 <| qsC q3 <| qsC qr <| qsC (congrArg (Value.int .i64) eR) <| qsC qb <| qsC qf <| qsC qg <| qs0) rfl rfl (by kernel_rfl)
theorem rupd_b1 (qb : QC Tryz.prog 38 [pt n.x n.y, .int .i64 R] (Mk.mk b 0).val) (qf : QC Tryz.prog 39 [e.val, b.val] (Mk.mk g 0).val) (qg : QC Tryz.prog 9 [g.val, n.val, .int .i64 lo, .int .i64 hi] (srT ⟨0, 0, 0, 0, 0, 0⟩ 1)) : PC Tryz.prog 11 [e.val, n.val, .int .i64 lo, .int .i64 hi] (Mk.mk g 0).val :=
  PC.run mixed Tryz.func11 [.res (.bool true), .res (.bool true), .res (.bool true), .res (.int .i64 r), .is 1 (.int .i64 R), .res (Mk.mk b 0).val, .res (Mk.mk g 0).val, .res (srT ⟨0, 0, 0, 0, 0, 0⟩ 1)] rfl ts0 (qsC q1 <| qsC q2 <| qsC q3 <| qsC qr <| qsC (congrArg (Value.int .i64) eR) <| qsC qb <| qsC qf <| qsC qg <| qs0) rfl rfl (by kernel_rfl)
theorem rupd_b7 (qb : QC Tryz.prog 38 [pt n.x n.y, .int .i64 R] (Mk.mk b 0).val) (qf : QC Tryz.prog 39 [e.val, b.val] (Mk.mk g 0).val) (qg : QC Tryz.prog 9 [g.val, n.val, .int .i64 lo, .int .i64 hi] (srT ⟨0, 0, 0, 0, 0, 0⟩ 7)) : PC Tryz.prog 11 [e.val, n.val, .int .i64 lo, .int .i64 hi] (Mk.mk g 0).val :=
  PC.run mixed Tryz.func11 [.res (.bool true), .res (.bool true), .res (.bool true), .res (.int .i64 r), .is 1 (.int .i64 R), .res (Mk.mk b 0).val, .res (Mk.mk g 0).val, .res (srT ⟨0, 0, 0, 0, 0, 0⟩ 7)] rfl ts0 (qsC q1 <| qsC q2 <| qsC q3 <| qsC qr <| qsC (congrArg (Value.int .i64) eR) <| qsC qb <| qsC qf <| qsC qg <| qs0) rfl rfl (by kernel_rfl)
theorem rupd_bc3 (qb : QC Tryz.prog 38 [pt n.x n.y, .int .i64 R] (Mk.mk b 0).val) (qf : QC Tryz.prog 39 [e.val, b.val] (Mk.mk g 0).val) (qg : QC Tryz.prog 9 [g.val, n.val, .int .i64 lo, .int .i64 hi] (srT s 0)) (qc : QC Tryz.prog 40 [g.val, s.val] (Mk.mk .zero 3).val) : PC Tryz.prog 11 [e.val, n.val, .int .i64 lo, .int .i64 hi] (Mk.mk .zero 3).val :=
  PC.run mixed Tryz.func11 [.res (.bool true), .res (.bool true), .res (.bool true), .res (.int .i64 r), .is 1 (.int .i64 R), .res (Mk.mk b 0).val, .res (Mk.mk g 0).val, .res (srT s 0), .res (Mk.mk .zero 3).val] rfl ts0 (qsC q1 <| qsC q2 <| qsC q3 <| qsC qr <| qsC (congrArg (Value.int .i64) eR) <| qsC qb <| qsC qf <| qsC qg <| qsC qc <| qs0) rfl rfl (by kernel_rfl)
theorem rupd_bc0 (qb : QC Tryz.prog 38 [pt n.x n.y, .int .i64 R] (Mk.mk b 0).val) (qf : QC Tryz.prog 39 [e.val, b.val] (Mk.mk g 0).val) (qg : QC Tryz.prog 9 [g.val, n.val, .int .i64 lo, .int .i64 hi] (srT s 0)) (qc : QC Tryz.prog 40 [g.val, s.val] (Mk.mk f 0).val) : PC Tryz.prog 11 [e.val, n.val, .int .i64 lo, .int .i64 hi] (Mk.mk f 0).val :=
  PC.run mixed Tryz.func11 [.res (.bool true), .res (.bool true), .res (.bool true), .res (.int .i64 r), .is 1 (.int .i64 R), .res (Mk.mk b 0).val, .res (Mk.mk g 0).val, .res (srT s 0), .res (Mk.mk f 0).val] rfl ts0 (qsC q1 <| qsC q2 <| qsC q3 <| qsC qr <| qsC (congrArg (Value.int .i64) eR) <| qsC qb <| qsC qf <| qsC qg <| qsC qc <| qs0) rfl rfl (by kernel_rfl)
theorem rupd_n3 (qb : QC Tryz.prog 38 [pt n.x n.y, .int .i64 R] (Mk.mk .zero 1).val) (qg : QC Tryz.prog 9 [e.val, n.val, .int .i64 lo, .int .i64 hi] (srT ⟨0, 0, 0, 0, 0, 0⟩ 3)) : PC Tryz.prog 11 [e.val, n.val, .int .i64 lo, .int .i64 hi] (Mk.mk .zero 3).val :=
  PC.run mixed Tryz.func11 [.res (.bool true), .res (.bool true), .res (.bool true), .res (.int .i64 r), .is 1 (.int .i64 R), .res (Mk.mk .zero 1).val, .res (srT ⟨0, 0, 0, 0, 0, 0⟩ 3)] rfl ts0 (qsC q1 <| qsC q2 <| qsC q3 <| qsC qr <| qsC (congrArg (Value.int .i64) eR) <| qsC qb <| qsC qg <| qs0) rfl rfl (by kernel_rfl)
theorem rupd_n1 (qb : QC Tryz.prog 38 [pt n.x n.y, .int .i64 R] (Mk.mk .zero 1).val) (qg : QC Tryz.prog 9 [e.val, n.val, .int .i64 lo, .int .i64 hi] (srT ⟨0, 0, 0, 0, 0, 0⟩ 1)) : PC Tryz.prog 11 [e.val, n.val, .int .i64 lo, .int .i64 hi] (Mk.mk e 0).val :=
  PC.run mixed Tryz.func11 [.res (.bool true), .res (.bool true), .res (.bool true), .res (.int .i64 r), .is 1 (.int .i64 R), .res (Mk.mk .zero 1).val, .res (srT ⟨0, 0, 0, 0, 0, 0⟩ 1)] rfl ts0 (qsC q1 <| qsC q2 <| qsC q3 <| qsC qr <| qsC (congrArg (Value.int .i64) eR) <| qsC qb <| qsC qg <| qs0) rfl rfl (by kernel_rfl)
theorem rupd_n7 (qb : QC Tryz.prog 38 [pt n.x n.y, .int .i64 R] (Mk.mk .zero 1).val) (qg : QC Tryz.prog 9 [e.val, n.val, .int .i64 lo, .int .i64 hi] (srT ⟨0, 0, 0, 0, 0, 0⟩ 7)) : PC Tryz.prog 11 [e.val, n.val, .int .i64 lo, .int .i64 hi] (Mk.mk e 0).val :=
  PC.run mixed Tryz.func11 [.res (.bool true), .res (.bool true), .res (.bool true), .res (.int .i64 r), .is 1 (.int .i64 R), .res (Mk.mk .zero 1).val, .res (srT ⟨0, 0, 0, 0, 0, 0⟩ 7)] rfl ts0 (qsC q1 <| qsC q2 <| qsC q3 <| qsC qr <| qsC (congrArg (Value.int .i64) eR) <| qsC qb <| qsC qg <| qs0) rfl rfl (by kernel_rfl)
theorem rupd_nc3 (qb : QC Tryz.prog 38 [pt n.x n.y, .int .i64 R] (Mk.mk .zero 1).val) (qg : QC Tryz.prog 9 [e.val, n.val, .int .i64 lo, .int .i64 hi] (srT s 0)) (qc : QC Tryz.prog 40 [e.val, s.val] (Mk.mk .zero 3).val) : PC Tryz.prog 11 [e.val, n.val, .int .i64 lo, .int .i64 hi] (Mk.mk .zero 3).val :=
  PC.run mixed Tryz.func11 [.res (.bool true), .res (.bool true), .res (.bool true), .res (.int .i64 r), .is 1 (.int .i64 R), .res (Mk.mk .zero 1).val, .res (srT s 0), .res (Mk.mk .zero 3).val] rfl ts0 (qsC q1 <| qsC q2 <| qsC q3 <| qsC qr <| qsC (congrArg (Value.int .i64) eR) <| qsC qb <| qsC qg <| qsC qc <| qs0) rfl rfl (by kernel_rfl)
theorem rupd_nc0 (qb : QC Tryz.prog 38 [pt n.x n.y, .int .i64 R] (Mk.mk .zero 1).val) (qg : QC Tryz.prog 9 [e.val, n.val, .int .i64 lo, .int .i64 hi] (srT s 0)) (qc : QC Tryz.prog 40 [e.val, s.val] (Mk.mk f 0).val) : PC Tryz.prog 11 [e.val, n.val, .int .i64 lo, .int .i64 hi] (Mk.mk f 0).val :=
  PC.run mixed Tryz.func11 [.res (.bool true), .res (.bool true), .res (.bool true), .res (.int .i64 r), .is 1 (.int .i64 R), .res (Mk.mk .zero 1).val, .res (srT s 0), .res (Mk.mk f 0).val] rfl ts0 (qsC q1 <| qsC q2 <| qsC q3 <| qsC qr <| qsC (congrArg (Value.int .i64) eR) <| qsC qb <| qsC qg <| qsC qc <| qs0) rfl rfl (by kernel_rfl)
end
theorem ballV_big {x y r : Int} (h : r > 4194304) : ballV x y r = (Mk.mk .zero 1).val := by
  unfold ballV
  rw [show mayR r = false from by
    cases hm : mayR r with
    | false => rfl
    | true => have := mayR_iff.1 hm; omega, Bool.and_false]
  rfl
theorem ballV_ok {n : El} {r : Int} (hn : n.may = true) (h : 1 ≤ r ∧ r ≤ 4194304) : ballV n.x n.y r = (Mk.mk (n.ball r) 0).val := by
  have g := mayL_iff.1 (show mayL n.x n.y n.a n.b n.d = true from hn)
  unfold ballV
  rw [show mayP n.x n.y = true from Go.Proofs.YtaibhjphgdjcmaaGreat.W.within_iff.2 (by omega), show mayR r = true from mayR_iff.2 h]
  rfl
theorem rBall_qc (x y r : Int) {v : Value} (h : ballV x y r = v) : QC Tryz.prog 38 [pt x y, .int .i64 r] v := h ▸ QC.of_pc enters_eBall (eBall_pc x y r)
theorem rUpd_pc {e n : El} (he : e.Ok) (hn : n.Ok) (lo hi : Int) : PC Tryz.prog 11 [e.val, n.val, .int .i64 lo, .int .i64 hi] (updV e n lo hi).val := by
  unfold updV
  cases h1 : measB e n lo hi with
  | false =>
    cases a1 : e.may with
    | false => exact PC.run mixed Tryz.func11 [.res (.bool false)] rfl ts0 (qs1 (may_qr he a1)) rfl rfl (by kernel_rfl)
    | true => cases a2 : n.may with
      | false => exact PC.run mixed Tryz.func11 [.res (.bool true), .res (.bool false)] rfl ts0 (qs2 (may_qr he a1) (may_qr hn a2)) rfl rfl (by kernel_rfl)
      | true =>
        have a3 : distB lo hi = false := by
          unfold measB at h1
          rw [a1, a2] at h1
          exact h1
        exact PC.run mixed Tryz.func11 [.res (.bool true), .res (.bool true), .res (.bool false)] rfl ts0 (qs3 (may_qr he a1) (may_qr hn a2) (rDist_qc lo hi a3)) rfl rfl (by kernel_rfl)
  | true =>
    obtain ⟨m1, m2, l0, l1, l2⟩ := measB_iff.1 h1
    have q1 := may_qr he m1
    have q2 := may_qr hn m2
    have q3 := rDist_qc lo hi (r := true) (by unfold distB; rw [decide_eq_true l0, decide_eq_true l1, decide_eq_true l2]; rfl)
    have hr := rad_bd m2
    have qr := rad_qr hn
    have eR : IntKind.i64.wrap (hi + n.rad) = hi + n.rad := wrapS (by omega)
    have hno := nearV_ok n he hi
    by_cases hR : hi + n.rad ≤ 4194304
    · have ha : acqV n hi = ⟨n.ball (hi + n.rad), 0⟩ := by
        unfold acqV
        rw [m2, decide_eq_true (show 0 ≤ hi by omega), decide_eq_true l2, decide_eq_true hR]
        rfl
      have hb := ball_ok m2 (r := hi + n.rad) (by omega)
      have qb := rBall_qc n.x n.y (hi + n.rad) (ballV_ok m2 (by omega))
      have en : nearV e n hi = gFuse e (n.ball (hi + n.rad)) := by unfold nearV; rw [ha]
      rcases gFuse_one m1 hb with hf | ⟨g, hf⟩
      · have qf := rFuse_qc he (may_ok hb) _ hf
        rw [en, hf]
        exact rupd_f3 q1 q2 q3 qr eR qb qf
      · have qf := rFuse_qc he (may_ok hb) _ hf
        rw [en, hf] at hno ⊢
        exact upd_tail (T := fun v => PC Tryz.prog 11 [e.val, n.val, .int .i64 lo, .int .i64 hi] v) hno hn lo hi (rupd_b3 q1 q2 q3 qr eR qb qf) (rupd_b1 q1 q2 q3 qr eR qb qf) (rupd_b7 q1 q2 q3 qr eR qb qf)
          (fun s h h' => rupd_bc3 q1 q2 q3 qr eR qb qf h h') fun s f h h' => rupd_bc0 q1 q2 q3 qr eR qb qf h h'
    · have ha : acqV n hi = ⟨.zero, 2⟩ := by
        unfold acqV
        rw [m2, decide_eq_true (show 0 ≤ hi by omega), decide_eq_true l2, decide_eq_false hR]
        rfl
      have qb := rBall_qc n.x n.y (hi + n.rad) (ballV_big (by omega))
      have en : nearV e n hi = ⟨e, 0⟩ := by unfold nearV; rw [ha]
      rw [en]
      exact upd_tail (T := fun v => PC Tryz.prog 11 [e.val, n.val, .int .i64 lo, .int .i64 hi] v) he hn lo hi (rupd_n3 q1 q2 q3 qr eR qb) (rupd_n1 q1 q2 q3 qr eR qb) (rupd_n7 q1 q2 q3 qr eR qb)
        (fun s h h' => rupd_nc3 q1 q2 q3 qr eR qb h h') fun s f h h' => rupd_nc0 q1 q2 q3 qr eR qb h h'
theorem rUpd_qc {e n : El} (he : e.Ok) (hn : n.Ok) (lo hi : Int) (m : Mk) (h : updV e n lo hi = m) : QC Tryz.prog 11 [e.val, n.val, .int .i64 lo, .int .i64 hi] m.val := h ▸ QC.of_pc enters_rUpd (rUpd_pc he hn lo hi)
theorem racq_over {n : El} {hi r R : Int} (q0 : QC Tryz.prog 26 [n.val] (.bool true)) (h0 : ¬ hi < 0) (h1 : ¬ hi > 4194304) (q1 : QC Tryz.prog 28 [n.val] (.int .i64 r)) (eR : IntKind.i64.wrap (hi + r) = R) (h2 : R > 4194304) :
    PC Tryz.prog 13 [n.val, .int .i64 hi] (Mk.mk .zero 2).val :=
  PC.run mixed Tryz.func13 [.res (.bool true), .auto, .tst false, .tst false, .res (.int .i64 r), .is 1 (.int .i64 R), .tst true] rfl (ts3 (tF h0) (tF h1) (tT h2)) (qs3 q0 q1 (congrArg (Value.int .i64) eR)) rfl rfl (by kernel_rfl)
theorem racq_ok {n : El} {hi r R : Int} {m : Mk} (q0 : QC Tryz.prog 26 [n.val] (.bool true)) (h0 : ¬ hi < 0) (h1 : ¬ hi > 4194304) (q1 : QC Tryz.prog 28 [n.val] (.int .i64 r)) (eR : IntKind.i64.wrap (hi + r) = R) (h2 : ¬ R > 4194304)
    (em : (if R > 1 then R else 1) = R) (q2 : QC Tryz.prog 38 [pt n.x n.y, .int .i64 R] m.val) : PC Tryz.prog 13 [n.val, .int .i64 hi] m.val :=
  PC.run mixed Tryz.func13 [.res (.bool true), .auto, .tst false, .tst false, .res (.int .i64 r), .is 1 (.int .i64 R), .tst false, .is 3 (.int .i64 R), .res m.val] rfl (ts3 (tF h0) (tF h1) (tF h2)) (qs5 q0 q1 (congrArg (Value.int .i64) eR) (congrArg (Value.int .i64) em) q2) rfl rfl (by kernel_rfl)
theorem rAcq_pc {n : El} (hn : n.Ok) (hi : Int) : PC Tryz.prog 13 [n.val, .int .i64 hi] (acqV n hi).val := by
  unfold acqV
  cases h1 : n.may with
  | false => exact PC.run mixed Tryz.func13 [.res (.bool false)] rfl ts0 (qs1 (may_qr hn h1)) rfl rfl (by kernel_rfl)
  | true =>
    by_cases h2 : 0 ≤ hi
    · rw [decide_eq_true h2]
      by_cases h3 : hi ≤ 4194304
      · rw [decide_eq_true h3]
        have hr := rad_bd h1
        by_cases h4 : hi + n.rad ≤ 4194304
        · rw [decide_eq_true h4]
          exact racq_ok (may_qr hn h1) (by omega) (by omega) (rad_qr hn) (wrapS (by omega)) (by omega) (by split <;> omega) (rBall_qc n.x n.y _ (ballV_ok h1 (by omega)))
        · rw [decide_eq_false h4]
          exact racq_over (may_qr hn h1) (by omega) (by omega) (rad_qr hn) (wrapS (by omega)) (by omega)
      · rw [decide_eq_false h3]
        exact PC.run mixed Tryz.func13 [.res (.bool true), .auto, .tst false, .tst true] rfl (ts2 (tF (p := hi < 0) (by omega)) (tT (p := hi > 4194304) (by omega))) (qs1 (may_qr hn h1)) rfl rfl (by kernel_rfl)
    · rw [decide_eq_false h2]
      exact PC.run mixed Tryz.func13 [.res (.bool true), .auto, .tst true] rfl (ts1 (tT (p := hi < 0) (by omega))) (qs1 (may_qr hn h1)) rfl rfl (by kernel_rfl)
theorem rAcq_qc {n : El} (hn : n.Ok) (hi : Int) (m : Mk) (h : acqV n hi = m) : QC Tryz.prog 13 [n.val, .int .i64 hi] m.val := h ▸ QC.of_pc enters_rAcq (rAcq_pc hn hi)
end Go.Proofs.YtaibhjphgdjcmaaGreat.R
