/-
  The reference's search: Best.
-/
import Derived.Test.YtcpaajjeoeejaaaGreatTokL
namespace Go.Proofs.YtcpaajjeoeejaaaGreat.R
open Go Go.Ev Go.W32
open Go.Proofs.YtcpaajjeoeejaaaGreat.W (mixed ell ellT mayL mayS strV eBlk sBlk ellC El Mk Sp SS mkF mkC ptr betterS stepS An lessA noNews lows empM empM_snoc foldS foldS_snoc foldS_spec mkA mkA_has mkA_w oM InvG srch fb fb_pos zOf lOf gfin wrapS)

theorem atMost_pc (x y : An) : PC Tryz.prog 99 [valV x.v x.has, valV y.v y.has] (.bool (!lessA y x)) := by
  obtain ⟨w, v, b⟩ := x
  obtain ⟨w', v', b'⟩ := y
  cases b <;> cases b'
  · exact PC.run mixed Tryz.func99 [] rfl ts0 qs0 rfl rfl (by kernel_rfl)
  · exact PC.run mixed Tryz.func99 [] rfl ts0 qs0 rfl rfl (by kernel_rfl)
  · exact PC.run mixed Tryz.func99 [] rfl ts0 qs0 rfl rfl (by kernel_rfl)
  · refine PC.run (v := .bool (decide (v ≤ v'))) mixed Tryz.func99 [] rfl ts0 qs0 rfl ?_ (by kernel_rfl)
    refine congrArg Value.bool ?_
    show decide (v ≤ v') = !(true && (!true || decide (v' < v)))
    by_cases h : v ≤ v'
    · rw [decide_eq_true h, decide_eq_false (by omega)]; rfl
    · rw [decide_eq_false h, decide_eq_true (by omega)]; rfl
theorem enters_atMost : ∀ us w, (callFunc 99 us).run Tryz.prog w = .ok (.enter 99 us) w := enters Tryz.func99 rfl (by kernel_rfl)
theorem atMost_qc (x y : An) {r : Bool} (h : (!lessA y x) = r) : QC Tryz.prog 99 [valV x.v x.has, valV y.v y.has] (.bool r) := h ▸ QC.of_pc enters_atMost (atMost_pc x y)
theorem enters_rbest : ∀ us w, (callFunc 47 us).run Tryz.prog w = .ok (.enter 47 us) w := enters Tryz.func47 rfl (by kernel_rfl)
def pBlk (x : An) : Blk := ⟨[.int .i64 x.v, .bool x.has], 90, true⟩
def evT4 (P : Program) (c : Code) (live : List Nat) (n : Nat) (S : St) (ans : List Ans) : Option (Bool × Prop × Exit × St) :=
  match evC P 400 c S ans with
  | some r => some (allB (r.ok ++ (decide (S.mem.length ≤ n) :: keepL n (maskD live n r.S))), allP r.obs, r.e, maskD live n r.S)
  | none => none
theorem Tri_run {P : Program} (hm : P.follows .mixedOrders = true) {c : Code} (live : List Nat) (n : Nat) (ans : List Ans) {S S' : St} {x : Exit} {X : Bool} {A : Prop} (hx : X = true) (ha : A) (e : evT4 P c live n S ans = some (X, A, x, S')) : Tri P c S (to x S') := by
  unfold evT4 at e
  split at e
  · rename_i r hr
    cases e
    rw [allB_append, allB_cons, Bool.and_eq_true, Bool.and_eq_true, decide_eq_true_eq] at hx
    exact Tri.drop (evC_sound hm _ _ _ _ _ hr hx.1 (allP_iff ha)).1 live hx.2.1 hx.2.2
  · cases e
theorem TriL_again {P : Program} {c : Code} {S S1 : St} {Q : Exit → St → Prop} (h : Tri P c S (to .normal S1)) (h' : TriL P c S1 Q) : TriL P c S Q := TriL.step (h.mono fun e S2 => by
  rintro ⟨rfl, rfl⟩
  exact h')
theorem TriL_leave {P : Program} {c : Code} {S S1 : St} {x : Nat} (h : Tri P c S (to (.exit x) S1)) : TriL P c S (to (.exit x) S1) := TriL.step (h.mono fun e S2 => by
  rintro ⟨rfl, rfl⟩
  exact ⟨rfl, rfl⟩)
noncomputable def rbL : Code := loopN Tryz.f47 0
theorem NET {p : Prop} [Decidable p] (h : ¬ p) : (!decide p) = true := by rw [decide_eq_false h]; rfl
theorem NEF {p : Prop} [Decidable p] (h : p) : (!(!decide p)) = true := by rw [decide_eq_true h]; rfl
theorem intsF (L : List Int) : (L.map (Value.int .i64)).all flat1 = true := by
  rw [List.all_map, List.all_eq_true]
  intro i _
  rfl
def resS (s : SS) : Value := .tuple #[.int .i64 s.w, .int .i64 s.v, .bool s.has]
def rbV : List Nat := [0, 5, 6, 7, 8, 9, 10]
theorem cs_new {n : Nat} {cs : List Value} (h : cs.all flat1 = true) : cs.all (noNew1 n) = true := noNews h
def stF (e f : El) (a b : Int) (x y : An) (em : Bool) (n : Nat) (cs : List Value) (s : SS) : St :=
  ⟨slots 67 [(0, ptr 3), (5, .int .i64 a), (6, .int .i64 b), (7, .int .i64 x.w), (8, .int .i64 y.w), (9, ptr 5), (10, ptr 6)], memF e f em n cs s ++ [pBlk x, pBlk y]⟩
def enF (e f : El) (x y : An) (em : Bool) (n : Nat) (cs : List Value) (s : SS) : St := ⟨slots 67 [(0, ptr 3)], memF e f em n cs s ++ [pBlk x, pBlk y]⟩
section
variable {e f : El} {em em' : Bool} {n n' : Nat} {cs cs' : List Value} {s s' : SS} {a b w : Int} {x y z : An}
theorem rbF_end (hc : cs.all (noNew1 7) = true) (hab : ¬ IntKind.i64.wrap (b - a) > 2) : Tri Tryz.prog rbL (stF e f a b x y em n cs s) (to (.exit 0) (enF e f x y em n cs s)) :=
  Tri_run mixed [0] 7 [.tst false] (ts2 (tF hab) hc) qs0 (by kernel_rfl)
theorem rbF_loS (hc : cs.all (noNew1 7) = true) (hab : IntKind.i64.wrap (b - a) > 2) (hl : (!lessA y x) = true) (w1 : IntKind.i64.wrap (a + y.w) = a + y.w) (w2 : IntKind.i64.wrap (a + y.w - x.w) = w) (hk : w = x.w) (hz : z = x) : Tri Tryz.prog rbL (stF e f a b x y em n cs s) (to .normal (stF e f a y.w z x em n cs s)) := by
  subst hk
  rw [hz]
  exact Tri_run mixed rbV 7 [.tst true, .res (.bool true), .is 9 (.int .i64 (a + y.w)), .is 2 (.int .i64 x.w), .tst false] (ts3 (tT hab) (NEF (p := x.w = x.w) rfl) hc) (qs3 (atMost_qc x y hl) (congrArg (Value.int .i64) w1) (congrArg (Value.int .i64) w2)) (by kernel_rfl)
theorem rbF_loA (hc : cs'.all (noNew1 7) = true) (hab : IntKind.i64.wrap (b - a) > 2) (hl : (!lessA y x) = true) (w1 : IntKind.i64.wrap (a + y.w) = a + y.w) (w2 : IntKind.i64.wrap (a + y.w - x.w) = w) (hk : ¬ w = x.w) (hz : z.w = w) (h : MC Tryz.prog 98 [ptr 3, .int .i64 w] (memF e f em n cs s ++ [pBlk x, pBlk x]) (valV z.v z.has) (memF e f em' n' cs' s' ++ [pBlk x, pBlk x])) : Tri Tryz.prog rbL (stF e f a b x y em n cs s) (to .normal (stF e f a y.w z x em' n' cs' s')) := by
  obtain ⟨zw, zv, zh⟩ := z
  simp only at hz
  subst hz
  exact Tri_run mixed rbV 7 [.tst true, .res (.bool true), .is 9 (.int .i64 (a + y.w)), .is 2 (.int .i64 zw), .tst true, .mem (valV zv zh) (memF e f em' n' cs' s' ++ [pBlk x, pBlk x])] (ts3 (tT hab) (NET (p := zw = x.w) hk) hc) (qs4 (atMost_qc x y hl) (congrArg (Value.int .i64) w1) (congrArg (Value.int .i64) w2) h) (by kernel_rfl)
theorem rbF_upS (hc : cs.all (noNew1 7) = true) (hab : IntKind.i64.wrap (b - a) > 2) (hl : (!lessA y x) = false) (w1 : IntKind.i64.wrap (x.w + b) = x.w + b) (w2 : IntKind.i64.wrap (x.w + b - y.w) = w) (hk : w = y.w) (hz : z = y) : Tri Tryz.prog rbL (stF e f a b x y em n cs s) (to .normal (stF e f x.w b y z em n cs s)) := by
  subst hk
  rw [hz]
  exact Tri_run mixed rbV 7 [.tst true, .res (.bool false), .is 9 (.int .i64 (x.w + b)), .is 2 (.int .i64 y.w), .tst false] (ts3 (tT hab) (NEF (p := y.w = y.w) rfl) hc) (qs3 (atMost_qc x y hl) (congrArg (Value.int .i64) w1) (congrArg (Value.int .i64) w2)) (by kernel_rfl)
theorem rbF_upA (hc : cs'.all (noNew1 7) = true) (hab : IntKind.i64.wrap (b - a) > 2) (hl : (!lessA y x) = false) (w1 : IntKind.i64.wrap (x.w + b) = x.w + b) (w2 : IntKind.i64.wrap (x.w + b - y.w) = w) (hk : ¬ w = y.w) (hz : z.w = w) (h : MC Tryz.prog 98 [ptr 3, .int .i64 w] (memF e f em n cs s ++ [pBlk y, pBlk y]) (valV z.v z.has) (memF e f em' n' cs' s' ++ [pBlk y, pBlk y])) : Tri Tryz.prog rbL (stF e f a b x y em n cs s) (to .normal (stF e f x.w b y z em' n' cs' s')) := by
  obtain ⟨zw, zv, zh⟩ := z
  simp only at hz
  subst hz
  exact Tri_run mixed rbV 7 [.tst true, .res (.bool false), .is 9 (.int .i64 (x.w + b)), .is 2 (.int .i64 zw), .tst true, .mem (valV zv zh) (memF e f em' n' cs' s' ++ [pBlk y, pBlk y])] (ts3 (tT hab) (NET (p := zw = y.w) hk) hc) (qs4 (atMost_qc x y hl) (congrArg (Value.int .i64) w1) (congrArg (Value.int .i64) w2) h) (by kernel_rfl)
theorem rbestF_some {x' y' : An} {em0 em1 : Bool} {n0 n1 : Nat} {cs0 cs1 : List Value} {s0 s1 : SS} (hc : cs'.all (noNew1 5) = true) (hx : x.w = 13) (hy : y.w = 21) (hs : s'.has = true) (h0 : MC Tryz.prog 98 [ptr 3, .int .i64 13] (memF e f em0 n0 cs0 s0) (valV x.v x.has) (memF e f em1 n1 cs1 s1)) (h1 : MC Tryz.prog 98 [ptr 3, .int .i64 21] (memF e f em1 n1 cs1 s1) (valV y.v y.has) (memF e f em n cs s))
    (hl : TriL Tryz.prog rbL (stF e f 0 34 x y em n cs s) (to (.exit 0) (enF e f x' y' em' n' cs' s'))) : MC Tryz.prog 47 [ptr 3] (memF e f em0 n0 cs0 s0) (.tuple #[.int .i64 s'.w, .int .i64 s'.v, .bool true]) (memF e f em' n' cs' s') := by
  obtain ⟨xw, xv, xh⟩ := x
  obtain ⟨yw, yv, yh⟩ := y
  obtain ⟨sw, sv, sh, se⟩ := s'
  simp only at hx hy hs
  subst hx hy hs
  exact MC.run5 mixed Tryz.func47 [.mem (valV xv xh) (memF e f em1 n1 cs1 s1), .mem (valV yv yh) (memF e f em n cs s), .cut rbV (.exit 0) (enF e f x' y' em' n' cs' ⟨sw, sv, true, se⟩)] (ts1 hc) (qs3 h0 h1 hl) rfl rfl enters_rbest (by kernel_rfl)
theorem rbestF_none {x' y' : An} {em0 em1 : Bool} {n0 n1 : Nat} {cs0 cs1 : List Value} {s0 s1 : SS} (hc : cs'.all (noNew1 5) = true) (hx : x.w = 13) (hy : y.w = 21) (hs : s'.has = false) (h0 : MC Tryz.prog 98 [ptr 3, .int .i64 13] (memF e f em0 n0 cs0 s0) (valV x.v x.has) (memF e f em1 n1 cs1 s1)) (h1 : MC Tryz.prog 98 [ptr 3, .int .i64 21] (memF e f em1 n1 cs1 s1) (valV y.v y.has) (memF e f em n cs s))
    (hl : TriL Tryz.prog rbL (stF e f 0 34 x y em n cs s) (to (.exit 0) (enF e f x' y' em' n' cs' s'))) : MC Tryz.prog 47 [ptr 3] (memF e f em0 n0 cs0 s0) (.tuple #[.int .i64 0, .int .i64 0, .bool false]) (memF e f em' n' cs' s') := by
  obtain ⟨xw, xv, xh⟩ := x
  obtain ⟨yw, yv, yh⟩ := y
  obtain ⟨sw, sv, sh, se⟩ := s'
  simp only at hx hy hs
  subst hx hy hs
  exact MC.run5 mixed Tryz.func47 [.mem (valV xv xh) (memF e f em1 n1 cs1 s1), .mem (valV yv yh) (memF e f em n cs s), .cut rbV (.exit 0) (enF e f x' y' em' n' cs' ⟨sw, sv, false, se⟩)] (ts1 hc) (qs3 h0 h1 hl) rfl rfl enters_rbest (by kernel_rfl)
def memLF (e f : El) (mk : Int → Mk) (L : List Int) : Mem := memF e f (empM mk L) L.length (L.map (Value.int .i64)) (foldS mk L)
theorem lowF (hc : cs.all flat1 = true) : ∀ B ∈ memF e f em n cs s, B.cells.all (low1 5) = true := by
  intro B hB
  simp only [memF, memR, List.mem_cons, List.not_mem_nil, or_false] at hB
  rcases hB with rfl | rfl | rfl | rfl | rfl
  · rfl
  · rfl
  · rfl
  · rfl
  · exact lows hc
theorem padKF {v : Value} (hc : cs.all flat1 = true) (hc' : cs'.all flat1 = true) (hv : lowV 5 v = true) (h : MC Tryz.prog 98 [ptr 3, .int .i64 w] (memF e f em n cs s) v (memF e f em' n' cs' s')) (x y : An) : MC Tryz.prog 98 [ptr 3, .int .i64 w] (memF e f em n cs s ++ [pBlk x, pBlk y]) v (memF e f em' n' cs' s' ++ [pBlk x, pBlk y]) :=
  h.pad [pBlk x, pBlk y] rfl rfl (lowF hc) (lowF hc') hv
end
def AsksF (e f : El) (mk : Int → Mk) : Prop := ∀ (L : List Int) (w : Int), 1 ≤ w → w ≤ 33 → L.length ≤ 40 → MC Tryz.prog 98 [ptr 3, .int .i64 w] (memLF e f mk L) (valV (mkA w (oM mk w)).v (mkA w (oM mk w)).has) (memLF e f mk (L ++ [w]))
section
variable {e f : El} {mk : Int → Mk}
theorem asksF (q1 : ∀ w, 1 ≤ w → w ≤ 33 → MC Tryz.prog 134 [e.val, f.val, .int .i64 w] [] (mk w).val []) (ok : ∀ w, 1 ≤ w → w ≤ 33 → (mk w).e.Ok) (hz : ∀ w, ¬ (mk w).n = 0 → (mk w).e.tr = 0) : AsksF e f mk := by
  intro L w h1 h2 hL
  have o := ok w h1 h2
  have em : (L ++ [w]).map (Value.int .i64) = L.map (Value.int .i64) ++ [.int .i64 w] := by simp
  have h := raskF (mk := mk) (s := foldS mk L) (em := empM mk L) rfl (room_ok hL) (by rw [← em]; exact ints_new 5 _) (q1 w h1 h2) (eTrace_qc (mk w).e.x (mk w).e.y o.a o.b o.d)
  unfold memLF
  rw [em, empM_snoc, foldS_snoc, List.length_append]
  have ev : valV (mkA w (oM mk w)).v (mkA w (oM mk w)).has = valV (mk w).e.tr (decide (((mk w).n : Int) = 0)) := by
    by_cases h0 : (mk w).n = 0
    · have : decide (((mk w).n : Int) = 0) = true := by rw [h0]; rfl
      rw [this, mkA_has (show (oM mk w).2 = true from this)]
      rfl
    · have : decide (((mk w).n : Int) = 0) = false := decide_eq_false (by omega)
      rw [this, hz w h0]
      unfold mkA
      rw [show (oM mk w).2 = false from this]
  rw [ev]
  exact h
theorem rloopF (h : AsksF e f mk) : ∀ (k : Nat) (a b : Int) (x y : An) (L : List Int), InvG k a b x y → L.length + k ≤ 8 →
    TriL Tryz.prog rbL (stF e f a b x y (empM mk L) L.length (L.map (Value.int .i64)) (foldS mk L))
      (to (.exit 0) (enF e f (srch (oM mk) k a b x y L).1 (srch (oM mk) k a b x y L).2.1 (empM mk (srch (oM mk) k a b x y L).2.2) (srch (oM mk) k a b x y L).2.2.length ((srch (oM mk) k a b x y L).2.2.map (Value.int .i64)) (foldS mk (srch (oM mk) k a b x y L).2.2)))
  | 0, a, b, x, y, L, i, _ => by
    have e1 := i.hb
    have e2 : fb (0 + 2) = 2 := rfl
    exact TriL_leave (rbF_end (ints_new 7 L) (by rw [wrapS (by have := i.lo; have := i.hi; omega)]; omega))
  | k + 1, a, b, x, y, L, i, hL => by
    have c1 := i.lo
    have c2 := i.hi
    have p1 := fb_pos (k + 1)
    have p2 := i.hx
    have p3 := i.hy
    unfold srch
    cases hl : lessA y x with
    | true =>
      obtain ⟨i', hw, h2, h3, h4, h5⟩ := i.up (oM mk)
      have i1 := i'.lo
      have i2 := i'.hi
      by_cases hk : x.w + b - y.w = y.w
      · have el : lOf y (x.w + b - y.w) L = L := if_pos hk
        refine TriL_again ?_ (rloopF h k _ _ _ _ _ i' (by rw [el]; omega))
        rw [el]
        exact rbF_upS (ints_new 7 L) (by rw [wrapS (by omega)]; omega) (by rw [hl]; rfl) (wrapS (by omega)) (wrapS (by omega)) hk (if_pos hk)
      · have el : lOf y (x.w + b - y.w) L = L ++ [x.w + b - y.w] := if_neg hk
        refine TriL_again ?_ (rloopF h k _ _ _ _ _ i' (by rw [el, List.length_append]; simp only [List.length_singleton]; omega))
        rw [el, show zOf (oM mk) y (x.w + b - y.w) = mkA (x.w + b - y.w) (oM mk (x.w + b - y.w)) from if_neg hk]
        exact rbF_upA (ints_new 7 _) (by rw [wrapS (by omega)]; omega) (by rw [hl]; rfl) (wrapS (by omega)) (wrapS (by omega)) hk (mkA_w _ _) (padKF (intsF _) (intsF _) rfl (h L _ hw.1 hw.2 (by omega)) y y)
    | false =>
      obtain ⟨i', hw, h2, h3, h4, h5⟩ := i.down (oM mk)
      have i1 := i'.lo
      have i2 := i'.hi
      by_cases hk : a + y.w - x.w = x.w
      · have el : lOf x (a + y.w - x.w) L = L := if_pos hk
        refine TriL_again ?_ (rloopF h k _ _ _ _ _ i' (by rw [el]; omega))
        rw [el]
        exact rbF_loS (ints_new 7 L) (by rw [wrapS (by omega)]; omega) (by rw [hl]; rfl) (wrapS (by omega)) (wrapS (by omega)) hk (if_pos hk)
      · have el : lOf x (a + y.w - x.w) L = L ++ [a + y.w - x.w] := if_neg hk
        refine TriL_again ?_ (rloopF h k _ _ _ _ _ i' (by rw [el, List.length_append]; simp only [List.length_singleton]; omega))
        rw [el, show zOf (oM mk) x (a + y.w - x.w) = mkA (a + y.w - x.w) (oM mk (a + y.w - x.w)) from if_neg hk]
        exact rbF_loA (ints_new 7 _) (by rw [wrapS (by omega)]; omega) (by rw [hl]; rfl) (wrapS (by omega)) (wrapS (by omega)) hk (mkA_w _ _) (padKF (intsF _) (intsF _) rfl (h L _ hw.1 hw.2 (by omega)) x x)
theorem rbestF (h : AsksF e f mk) : MC Tryz.prog 47 [ptr 3] (memLF e f mk []) (resS (foldS mk (gfin (oM mk)).2.2)) (memLF e f mk (gfin (oM mk)).2.2) := by
  have h0 := h [] 13 (by decide) (by decide) (by decide)
  have h1 := h [13] 21 (by decide) (by decide) (by decide)
  have hl := rloopF h 6 0 34 _ _ [13, 21] (InvG.start (oM mk)) (by decide)
  have hf := foldS_spec mk (gfin (oM mk)).2.2
  have ew := mkA_w 13 (oM mk 13)
  have ey := mkA_w 21 (oM mk 21)
  have hl' : TriL Tryz.prog rbL (stF e f 0 34 (mkA 13 (oM mk 13)) (mkA 21 (oM mk 21)) (empM mk [13, 21]) [13, 21].length ([13, 21].map (Value.int .i64)) (foldS mk [13, 21])) (to (.exit 0) (enF e f (gfin (oM mk)).1 (gfin (oM mk)).2.1 (empM mk (gfin (oM mk)).2.2) (gfin (oM mk)).2.2.length ((gfin (oM mk)).2.2.map (Value.int .i64)) (foldS mk (gfin (oM mk)).2.2))) := hl
  unfold memLF at h0 h1 ⊢
  generalize (gfin (oM mk)).2.2 = L at *
  generalize hs : foldS mk L = s at *
  cases hh : s.has with
  | true =>
    have := rbestF_some (ints_new 5 L) ew ey hh h0 h1 hl'
    unfold resS
    rw [hh]
    exact this
  | false =>
    have := rbestF_none (ints_new 5 L) ew ey hh h0 h1 hl'
    rw [hf.non hh] at this ⊢
    exact this
def mem0F (e f : El) : Mem := [eBlk e.cells, eBlk f.cells, eBlk (ellC 0 0 0 0 0), ⟨schC (ptr 1) nilP false (.slice none 0 0) .nil, schT, true⟩]
theorem rbest0F (h : AsksF e f mk) : MC Tryz.prog 47 [ptr 3] (mem0F e f) (resS (foldS mk (gfin (oM mk)).2.2)) (memLF e f mk (gfin (oM mk)).2.2) :=
  MC.born 3 5 0 rfl rfl rfl (rbestF h)
end
def stC (e : El) (p : Sp) (a b : Int) (x y : An) (em : Bool) (n : Nat) (cs : List Value) (s : SS) : St :=
  ⟨slots 67 [(0, ptr 3), (5, .int .i64 a), (6, .int .i64 b), (7, .int .i64 x.w), (8, .int .i64 y.w), (9, ptr 5), (10, ptr 6)], memC e p em n cs s ++ [pBlk x, pBlk y]⟩
def enC (e : El) (p : Sp) (x y : An) (em : Bool) (n : Nat) (cs : List Value) (s : SS) : St := ⟨slots 67 [(0, ptr 3)], memC e p em n cs s ++ [pBlk x, pBlk y]⟩
section
variable {e : El} {p : Sp} {em em' : Bool} {n n' : Nat} {cs cs' : List Value} {s s' : SS} {a b w : Int} {x y z : An}
theorem rbC_end (hc : cs.all (noNew1 7) = true) (hab : ¬ IntKind.i64.wrap (b - a) > 2) : Tri Tryz.prog rbL (stC e p a b x y em n cs s) (to (.exit 0) (enC e p x y em n cs s)) :=
  Tri_run mixed [0] 7 [.tst false] (ts2 (tF hab) hc) qs0 (by kernel_rfl)
theorem rbC_loS (hc : cs.all (noNew1 7) = true) (hab : IntKind.i64.wrap (b - a) > 2) (hl : (!lessA y x) = true) (w1 : IntKind.i64.wrap (a + y.w) = a + y.w) (w2 : IntKind.i64.wrap (a + y.w - x.w) = w) (hk : w = x.w) (hz : z = x) : Tri Tryz.prog rbL (stC e p a b x y em n cs s) (to .normal (stC e p a y.w z x em n cs s)) := by
  subst hk
  rw [hz]
  exact Tri_run mixed rbV 7 [.tst true, .res (.bool true), .is 9 (.int .i64 (a + y.w)), .is 2 (.int .i64 x.w), .tst false] (ts3 (tT hab) (NEF (p := x.w = x.w) rfl) hc) (qs3 (atMost_qc x y hl) (congrArg (Value.int .i64) w1) (congrArg (Value.int .i64) w2)) (by kernel_rfl)
theorem rbC_loA (hc : cs'.all (noNew1 7) = true) (hab : IntKind.i64.wrap (b - a) > 2) (hl : (!lessA y x) = true) (w1 : IntKind.i64.wrap (a + y.w) = a + y.w) (w2 : IntKind.i64.wrap (a + y.w - x.w) = w) (hk : ¬ w = x.w) (hz : z.w = w) (h : MC Tryz.prog 98 [ptr 3, .int .i64 w] (memC e p em n cs s ++ [pBlk x, pBlk x]) (valV z.v z.has) (memC e p em' n' cs' s' ++ [pBlk x, pBlk x])) : Tri Tryz.prog rbL (stC e p a b x y em n cs s) (to .normal (stC e p a y.w z x em' n' cs' s')) := by
  obtain ⟨zw, zv, zh⟩ := z
  simp only at hz
  subst hz
  exact Tri_run mixed rbV 7 [.tst true, .res (.bool true), .is 9 (.int .i64 (a + y.w)), .is 2 (.int .i64 zw), .tst true, .mem (valV zv zh) (memC e p em' n' cs' s' ++ [pBlk x, pBlk x])] (ts3 (tT hab) (NET (p := zw = x.w) hk) hc) (qs4 (atMost_qc x y hl) (congrArg (Value.int .i64) w1) (congrArg (Value.int .i64) w2) h) (by kernel_rfl)
theorem rbC_upS (hc : cs.all (noNew1 7) = true) (hab : IntKind.i64.wrap (b - a) > 2) (hl : (!lessA y x) = false) (w1 : IntKind.i64.wrap (x.w + b) = x.w + b) (w2 : IntKind.i64.wrap (x.w + b - y.w) = w) (hk : w = y.w) (hz : z = y) : Tri Tryz.prog rbL (stC e p a b x y em n cs s) (to .normal (stC e p x.w b y z em n cs s)) := by
  subst hk
  rw [hz]
  exact Tri_run mixed rbV 7 [.tst true, .res (.bool false), .is 9 (.int .i64 (x.w + b)), .is 2 (.int .i64 y.w), .tst false] (ts3 (tT hab) (NEF (p := y.w = y.w) rfl) hc) (qs3 (atMost_qc x y hl) (congrArg (Value.int .i64) w1) (congrArg (Value.int .i64) w2)) (by kernel_rfl)
theorem rbC_upA (hc : cs'.all (noNew1 7) = true) (hab : IntKind.i64.wrap (b - a) > 2) (hl : (!lessA y x) = false) (w1 : IntKind.i64.wrap (x.w + b) = x.w + b) (w2 : IntKind.i64.wrap (x.w + b - y.w) = w) (hk : ¬ w = y.w) (hz : z.w = w) (h : MC Tryz.prog 98 [ptr 3, .int .i64 w] (memC e p em n cs s ++ [pBlk y, pBlk y]) (valV z.v z.has) (memC e p em' n' cs' s' ++ [pBlk y, pBlk y])) : Tri Tryz.prog rbL (stC e p a b x y em n cs s) (to .normal (stC e p x.w b y z em' n' cs' s')) := by
  obtain ⟨zw, zv, zh⟩ := z
  simp only at hz
  subst hz
  exact Tri_run mixed rbV 7 [.tst true, .res (.bool false), .is 9 (.int .i64 (x.w + b)), .is 2 (.int .i64 zw), .tst true, .mem (valV zv zh) (memC e p em' n' cs' s' ++ [pBlk y, pBlk y])] (ts3 (tT hab) (NET (p := zw = y.w) hk) hc) (qs4 (atMost_qc x y hl) (congrArg (Value.int .i64) w1) (congrArg (Value.int .i64) w2) h) (by kernel_rfl)
theorem rbestC_some {x' y' : An} {em0 em1 : Bool} {n0 n1 : Nat} {cs0 cs1 : List Value} {s0 s1 : SS} (hc : cs'.all (noNew1 5) = true) (hx : x.w = 13) (hy : y.w = 21) (hs : s'.has = true) (h0 : MC Tryz.prog 98 [ptr 3, .int .i64 13] (memC e p em0 n0 cs0 s0) (valV x.v x.has) (memC e p em1 n1 cs1 s1)) (h1 : MC Tryz.prog 98 [ptr 3, .int .i64 21] (memC e p em1 n1 cs1 s1) (valV y.v y.has) (memC e p em n cs s))
    (hl : TriL Tryz.prog rbL (stC e p 0 34 x y em n cs s) (to (.exit 0) (enC e p x' y' em' n' cs' s'))) : MC Tryz.prog 47 [ptr 3] (memC e p em0 n0 cs0 s0) (.tuple #[.int .i64 s'.w, .int .i64 s'.v, .bool true]) (memC e p em' n' cs' s') := by
  obtain ⟨xw, xv, xh⟩ := x
  obtain ⟨yw, yv, yh⟩ := y
  obtain ⟨sw, sv, sh, se⟩ := s'
  simp only at hx hy hs
  subst hx hy hs
  exact MC.run5 mixed Tryz.func47 [.mem (valV xv xh) (memC e p em1 n1 cs1 s1), .mem (valV yv yh) (memC e p em n cs s), .cut rbV (.exit 0) (enC e p x' y' em' n' cs' ⟨sw, sv, true, se⟩)] (ts1 hc) (qs3 h0 h1 hl) rfl rfl enters_rbest (by kernel_rfl)
theorem rbestC_none {x' y' : An} {em0 em1 : Bool} {n0 n1 : Nat} {cs0 cs1 : List Value} {s0 s1 : SS} (hc : cs'.all (noNew1 5) = true) (hx : x.w = 13) (hy : y.w = 21) (hs : s'.has = false) (h0 : MC Tryz.prog 98 [ptr 3, .int .i64 13] (memC e p em0 n0 cs0 s0) (valV x.v x.has) (memC e p em1 n1 cs1 s1)) (h1 : MC Tryz.prog 98 [ptr 3, .int .i64 21] (memC e p em1 n1 cs1 s1) (valV y.v y.has) (memC e p em n cs s))
    (hl : TriL Tryz.prog rbL (stC e p 0 34 x y em n cs s) (to (.exit 0) (enC e p x' y' em' n' cs' s'))) : MC Tryz.prog 47 [ptr 3] (memC e p em0 n0 cs0 s0) (.tuple #[.int .i64 0, .int .i64 0, .bool false]) (memC e p em' n' cs' s') := by
  obtain ⟨xw, xv, xh⟩ := x
  obtain ⟨yw, yv, yh⟩ := y
  obtain ⟨sw, sv, sh, se⟩ := s'
  simp only at hx hy hs
  subst hx hy hs
  exact MC.run5 mixed Tryz.func47 [.mem (valV xv xh) (memC e p em1 n1 cs1 s1), .mem (valV yv yh) (memC e p em n cs s), .cut rbV (.exit 0) (enC e p x' y' em' n' cs' ⟨sw, sv, false, se⟩)] (ts1 hc) (qs3 h0 h1 hl) rfl rfl enters_rbest (by kernel_rfl)
def memLC (e : El) (p : Sp) (mk : Int → Mk) (L : List Int) : Mem := memC e p (empM mk L) L.length (L.map (Value.int .i64)) (foldS mk L)
theorem lowC (hc : cs.all flat1 = true) : ∀ B ∈ memC e p em n cs s, B.cells.all (low1 5) = true := by
  intro B hB
  simp only [memC, memR, List.mem_cons, List.not_mem_nil, or_false] at hB
  rcases hB with rfl | rfl | rfl | rfl | rfl
  · rfl
  · rfl
  · rfl
  · rfl
  · exact lows hc
theorem padKC {v : Value} (hc : cs.all flat1 = true) (hc' : cs'.all flat1 = true) (hv : lowV 5 v = true) (h : MC Tryz.prog 98 [ptr 3, .int .i64 w] (memC e p em n cs s) v (memC e p em' n' cs' s')) (x y : An) : MC Tryz.prog 98 [ptr 3, .int .i64 w] (memC e p em n cs s ++ [pBlk x, pBlk y]) v (memC e p em' n' cs' s' ++ [pBlk x, pBlk y]) :=
  h.pad [pBlk x, pBlk y] rfl rfl (lowC hc) (lowC hc') hv
end
def AsksC (e : El) (p : Sp) (mk : Int → Mk) : Prop := ∀ (L : List Int) (w : Int), 1 ≤ w → w ≤ 33 → L.length ≤ 40 → MC Tryz.prog 98 [ptr 3, .int .i64 w] (memLC e p mk L) (valV (mkA w (oM mk w)).v (mkA w (oM mk w)).has) (memLC e p mk (L ++ [w]))
section
variable {e : El} {p : Sp} {mk : Int → Mk}
theorem asksC (q1 : ∀ w, 1 ≤ w → w ≤ 33 → MC Tryz.prog 135 [e.val, p.val, .int .i64 w] [] (mk w).val []) (ok : ∀ w, 1 ≤ w → w ≤ 33 → (mk w).e.Ok) (hz : ∀ w, ¬ (mk w).n = 0 → (mk w).e.tr = 0) : AsksC e p mk := by
  intro L w h1 h2 hL
  have o := ok w h1 h2
  have em : (L ++ [w]).map (Value.int .i64) = L.map (Value.int .i64) ++ [.int .i64 w] := by simp
  have h := raskC (mk := mk) (s := foldS mk L) (em := empM mk L) rfl (room_ok hL) (by rw [← em]; exact ints_new 5 _) (q1 w h1 h2) (eTrace_qc (mk w).e.x (mk w).e.y o.a o.b o.d)
  unfold memLC
  rw [em, empM_snoc, foldS_snoc, List.length_append]
  have ev : valV (mkA w (oM mk w)).v (mkA w (oM mk w)).has = valV (mk w).e.tr (decide (((mk w).n : Int) = 0)) := by
    by_cases h0 : (mk w).n = 0
    · have : decide (((mk w).n : Int) = 0) = true := by rw [h0]; rfl
      rw [this, mkA_has (show (oM mk w).2 = true from this)]
      rfl
    · have : decide (((mk w).n : Int) = 0) = false := decide_eq_false (by omega)
      rw [this, hz w h0]
      unfold mkA
      rw [show (oM mk w).2 = false from this]
  rw [ev]
  exact h
theorem rloopC (h : AsksC e p mk) : ∀ (k : Nat) (a b : Int) (x y : An) (L : List Int), InvG k a b x y → L.length + k ≤ 8 →
    TriL Tryz.prog rbL (stC e p a b x y (empM mk L) L.length (L.map (Value.int .i64)) (foldS mk L))
      (to (.exit 0) (enC e p (srch (oM mk) k a b x y L).1 (srch (oM mk) k a b x y L).2.1 (empM mk (srch (oM mk) k a b x y L).2.2) (srch (oM mk) k a b x y L).2.2.length ((srch (oM mk) k a b x y L).2.2.map (Value.int .i64)) (foldS mk (srch (oM mk) k a b x y L).2.2)))
  | 0, a, b, x, y, L, i, _ => by
    have e1 := i.hb
    have e2 : fb (0 + 2) = 2 := rfl
    exact TriL_leave (rbC_end (ints_new 7 L) (by rw [wrapS (by have := i.lo; have := i.hi; omega)]; omega))
  | k + 1, a, b, x, y, L, i, hL => by
    have c1 := i.lo
    have c2 := i.hi
    have p1 := fb_pos (k + 1)
    have p2 := i.hx
    have p3 := i.hy
    unfold srch
    cases hl : lessA y x with
    | true =>
      obtain ⟨i', hw, h2, h3, h4, h5⟩ := i.up (oM mk)
      have i1 := i'.lo
      have i2 := i'.hi
      by_cases hk : x.w + b - y.w = y.w
      · have el : lOf y (x.w + b - y.w) L = L := if_pos hk
        refine TriL_again ?_ (rloopC h k _ _ _ _ _ i' (by rw [el]; omega))
        rw [el]
        exact rbC_upS (ints_new 7 L) (by rw [wrapS (by omega)]; omega) (by rw [hl]; rfl) (wrapS (by omega)) (wrapS (by omega)) hk (if_pos hk)
      · have el : lOf y (x.w + b - y.w) L = L ++ [x.w + b - y.w] := if_neg hk
        refine TriL_again ?_ (rloopC h k _ _ _ _ _ i' (by rw [el, List.length_append]; simp only [List.length_singleton]; omega))
        rw [el, show zOf (oM mk) y (x.w + b - y.w) = mkA (x.w + b - y.w) (oM mk (x.w + b - y.w)) from if_neg hk]
        exact rbC_upA (ints_new 7 _) (by rw [wrapS (by omega)]; omega) (by rw [hl]; rfl) (wrapS (by omega)) (wrapS (by omega)) hk (mkA_w _ _) (padKC (intsF _) (intsF _) rfl (h L _ hw.1 hw.2 (by omega)) y y)
    | false =>
      obtain ⟨i', hw, h2, h3, h4, h5⟩ := i.down (oM mk)
      have i1 := i'.lo
      have i2 := i'.hi
      by_cases hk : a + y.w - x.w = x.w
      · have el : lOf x (a + y.w - x.w) L = L := if_pos hk
        refine TriL_again ?_ (rloopC h k _ _ _ _ _ i' (by rw [el]; omega))
        rw [el]
        exact rbC_loS (ints_new 7 L) (by rw [wrapS (by omega)]; omega) (by rw [hl]; rfl) (wrapS (by omega)) (wrapS (by omega)) hk (if_pos hk)
      · have el : lOf x (a + y.w - x.w) L = L ++ [a + y.w - x.w] := if_neg hk
        refine TriL_again ?_ (rloopC h k _ _ _ _ _ i' (by rw [el, List.length_append]; simp only [List.length_singleton]; omega))
        rw [el, show zOf (oM mk) x (a + y.w - x.w) = mkA (a + y.w - x.w) (oM mk (a + y.w - x.w)) from if_neg hk]
        exact rbC_loA (ints_new 7 _) (by rw [wrapS (by omega)]; omega) (by rw [hl]; rfl) (wrapS (by omega)) (wrapS (by omega)) hk (mkA_w _ _) (padKC (intsF _) (intsF _) rfl (h L _ hw.1 hw.2 (by omega)) x x)
theorem rbestC (h : AsksC e p mk) : MC Tryz.prog 47 [ptr 3] (memLC e p mk []) (resS (foldS mk (gfin (oM mk)).2.2)) (memLC e p mk (gfin (oM mk)).2.2) := by
  have h0 := h [] 13 (by decide) (by decide) (by decide)
  have h1 := h [13] 21 (by decide) (by decide) (by decide)
  have hl := rloopC h 6 0 34 _ _ [13, 21] (InvG.start (oM mk)) (by decide)
  have hf := foldS_spec mk (gfin (oM mk)).2.2
  have ew := mkA_w 13 (oM mk 13)
  have ey := mkA_w 21 (oM mk 21)
  have hl' : TriL Tryz.prog rbL (stC e p 0 34 (mkA 13 (oM mk 13)) (mkA 21 (oM mk 21)) (empM mk [13, 21]) [13, 21].length ([13, 21].map (Value.int .i64)) (foldS mk [13, 21])) (to (.exit 0) (enC e p (gfin (oM mk)).1 (gfin (oM mk)).2.1 (empM mk (gfin (oM mk)).2.2) (gfin (oM mk)).2.2.length ((gfin (oM mk)).2.2.map (Value.int .i64)) (foldS mk (gfin (oM mk)).2.2))) := hl
  unfold memLC at h0 h1 ⊢
  generalize (gfin (oM mk)).2.2 = L at *
  generalize hs : foldS mk L = s at *
  cases hh : s.has with
  | true =>
    have := rbestC_some (ints_new 5 L) ew ey hh h0 h1 hl'
    unfold resS
    rw [hh]
    exact this
  | false =>
    have := rbestC_none (ints_new 5 L) ew ey hh h0 h1 hl'
    rw [hf.non hh] at this ⊢
    exact this
def mem0C (e : El) (p : Sp) : Mem := [eBlk e.cells, sBlk p.cells, eBlk (ellC 0 0 0 0 0), ⟨schC nilP (ptr 1) false (.slice none 0 0) .nil, schT, true⟩]
theorem rbest0C (h : AsksC e p mk) : MC Tryz.prog 47 [ptr 3] (mem0C e p) (resS (foldS mk (gfin (oM mk)).2.2)) (memLC e p mk (gfin (oM mk)).2.2) :=
  MC.born 3 5 0 rfl rfl rfl (rbestC h)
end
end Go.Proofs.YtcpaajjeoeejaaaGreat.R
