/-
  Package golden: smallest, Fuse and Cut.
-/
import Derived.Test.YtaibhjphgdjcmaaGreatGold3
namespace Go.Proofs.YtaibhjphgdjcmaaGreat.W
open Go Go.Ev Go.Wide

theorem enters_smallest : ∀ us w, (callFunc 95 us).run Tryz.prog w = .ok (.enter 95 us) w := enters Tryz.func95 rfl (by kernel_rfl)
def mixF (g : FuncId) : Value := .func (.func g) #[] #[ptr 0, ptr 1]
/-- What the mixtures of two things are by weight: a closure that reads them. -/
structure OraM (B0 B1 : Blk) (g : FuncId) (mk : Int → Mk) : Prop where
  b0 : B0.cells.all flat1 = true
  b1 : B1.cells.all flat1 = true
  ok : ∀ w, 1 ≤ w → w ≤ 33 → (mk w).e.Ok
  call : ∀ w, 1 ≤ w → w ≤ 33 → MC Tryz.prog g [.int .i64 w, ptr 0, ptr 1] [B0, B1] (mk w).val [B0, B1]
section S
variable {B0 B1 : Blk} {g : FuncId} {mk : Int → Mk}
theorem OraM.ora (h : OraM B0 B1 g mk) (e : El) : OraS B0 B1 e.cells g (oM mk) (arrM mk) (empM mk) := by
  refine ⟨h.b0, h.b1, rfl, arrM_flat mk, fun L w h1 h2 => ?_⟩
  rw [arrM_snoc, empM_snoc]
  obtain ⟨n, rfl⟩ : ∃ n : Nat, w = n := ⟨w.toNat, by omega⟩
  have hp := (h.call _ h1 h2).pad [eBlk e.cells, ⟨[.func (.func g) #[] #[ptr 0, ptr 1]], 126, true⟩, eBlk (ellC 0 0 0 0 0), ⟨arrM mk L, 139, true⟩, ⟨[.bool (empM mk L)], 4, true⟩] rfl rfl
    (fun B hB => by rcases List.mem_cons.1 hB with rfl | hB; exact lows h.b0; obtain rfl := List.mem_singleton.1 hB; exact lows h.b1) (fun B hB => by rcases List.mem_cons.1 hB with rfl | hB; exact lows h.b0; obtain rfl := List.mem_singleton.1 hB; exact lows h.b1) rfl
  have hC : (setE (arrM mk L) n (mk n).e).all flat1 = true := setL_flat _ _ _ (arrM_flat mk L) rfl
  exact one_run _ h.b0 h.b1 rfl hC (by omega) (by omega) (by rw [arrM_len]; omega) (h.ok _ h1 h2) hp
/-- What smallest answers. -/
def smE (mk : Int → Mk) (e : El) : El := match (gfin (oM mk)).1.has with | true => lesser e (mk (gfin (oM mk)).1.w).e | false => e
def smV (mk : Int → Mk) (e : El) : Mk := match empM mk (gfin (oM mk)).2.2 with | true => ⟨.zero, 3⟩ | false => ⟨smE mk e, 0⟩
theorem lesser_ok {e f : El} (he : e.Ok) (hf : f.Ok) : (lesser e f).Ok := by unfold lesser; split <;> assumption
theorem smallest_mc (h : OraM B0 B1 g mk) {e : El} (he : e.Ok) : MC Tryz.prog 95 [e.val, mixF g] [B0, B1] (smV mk e).val [B0, B1] := by
  have hb := best_mc (h.ora e)
  have gb := gfin_best (oM mk)
  have hget := arrM_get mk gb.rng gb.xl
  have hl := arrM_len mk (gfin (oM mk)).2.2
  have hr := gb.rng _ gb.xl
  have hok := h.ok _ hr.1 hr.2
  unfold smV smE
  generalize gfin (oM mk) = r at *
  obtain ⟨⟨w, v, has⟩, y, L⟩ := r
  dsimp only at *
  generalize hm : empM mk L = em at *
  cases em with
  | true => cases has with
    | true => exact MC.run5 mixed Tryz.func95 [.mem (resG ⟨w, v, true⟩) (memS B0 B1 e.cells g (arrM mk L) true)] (ts2 (noNews (n := 2) h.b0) (noNews (n := 2) h.b1)) (qs1 hb) rfl rfl enters_smallest (by kernel_rfl)
    | false => exact MC.run5 mixed Tryz.func95 [.mem (resG ⟨w, v, false⟩) (memS B0 B1 e.cells g (arrM mk L) true)] (ts2 (noNews (n := 2) h.b0) (noNews (n := 2) h.b1)) (qs1 hb) rfl rfl enters_smallest (by kernel_rfl)
  | false => cases has with
    | false => exact MC.run5 mixed Tryz.func95 [.mem (resG ⟨w, v, false⟩) (memS B0 B1 e.cells g (arrM mk L) false)] (ts2 (noNews (n := 2) h.b0) (noNews (n := 2) h.b1)) (qs1 hb) rfl rfl enters_smallest (by kernel_rfl)
    | true =>
      obtain ⟨n, rfl⟩ : ∃ n : Nat, w = n := ⟨w.toNat, by omega⟩
      have hrr : (decide ((0 : Int) ≤ (n : Int)) && decide ((n : Int) < 34)) = true := by rw [decide_eq_true (by omega), decide_eq_true (by omega)]; rfl
      have hlen : 0 + n * 5 + 5 ≤ (arrM mk L).length := by omega
      have hv : Value.agg (((arrM mk L).drop (0 + n * 5)).take 5).toArray = (mk n).e.val := congrArg (fun l : List Value => Value.agg l.toArray) hget
      exact MC.run5 mixed Tryz.func95 [.mem (resG ⟨(n : Int), v, true⟩) (memS B0 B1 e.cells g (arrM mk L) false), .is 16 (mk n).e.val, .res (lesser e (mk n).e).val]
        (tsC hrr <| tsC (tT hlen) <| ts2 (noNews (n := 2) h.b0) (noNews (n := 2) h.b1)) (qs3 hb hv (lesser_qc he hok)) rfl rfl enters_smallest (by kernel_rfl)
end S

/-! ### Fuse, Cut -/
def toMk : Value → Mk
  | .tuple vs => match vs.toList with
    | [.agg cs, .int _ n] => match cs.toList with
      | [.int _ x, .int _ y, .int _ a, .int _ b, .int _ d] => ⟨⟨x, y, a, b, d⟩, n.toNat⟩
      | _ => ⟨.zero, 0⟩
    | _ => ⟨.zero, 0⟩
  | _ => ⟨.zero, 0⟩
/-- A valid ellipse and OK, or nothing and an error. -/
def GoodT (v : Value) : Prop := ∃ x y a b d e, v = ellT x y a b d e ∧ ((e = 0 ∧ mayL x y a b d = true) ∨ (e ≠ 0 ∧ v = ellT 0 0 0 0 0 e))
theorem GoodT.err {e : Nat} (h : e ≠ 0) : GoodT (ellT 0 0 0 0 0 e) := ⟨_, _, _, _, _, _, rfl, .inr ⟨h, rfl⟩⟩
theorem GoodT.ok {x y a b d : Int} (h : mayL x y a b d = true) : GoodT (ellT x y a b d 0) := ⟨_, _, _, _, _, _, rfl, .inl ⟨rfl, h⟩⟩
theorem gsumV_good (x y a b d x' y' a' b' d' : Int) : GoodT (gsumV x y a b d x' y' a' b' d') := by
  unfold gsumV gsumR
  split
  · split
    · exact .ok (by assumption)
    · exact .err (by decide)
  · exact .err (by decide)
theorem gballV_good (x y a b d r : Int) : GoodT (gballV x y a b d r) := by
  unfold gballV
  split
  · split
    · exact .ok (by assumption)
    · split
      · exact gsumV_good _ _ _ _ _ _ _ _ _ _
      · exact .err (by decide)
  · exact .err (by decide)
theorem ellI_good (a b d u v z n : Int) : GoodT (ellI a b d u v z n) := by
  unfold ellI ellW
  split
  · exact .err (by decide)
  split
  · exact .err (by decide)
  split
  · exact .err (by decide)
  split
  · exact gballV_good _ _ _ _ _ _
  · exact .err (by decide)
theorem fuseV_good (x y a b d x' y' a' b' d' w : Int) : GoodT (fuseV x y a b d x' y' a' b' d' w) := by
  unfold fuseV
  split
  · exact ellI_good _ _ _ _ _ _ _
  · exact .err (by decide)
theorem cutV_good (x y a b d ox oy hx hy lo hi w : Int) : GoodT (cutV x y a b d ox oy hx hy lo hi w) := by
  unfold cutV
  split
  · exact ellI_good _ _ _ _ _ _ _
  · exact .err (by decide)
theorem may_ok {e : El} (h : e.may = true) : e.Ok := by
  have g := mayL_iff.1 h
  exact ⟨⟨by omega, by omega⟩, ⟨by omega, by omega⟩, by omega, by omega⟩
theorem El.zero_ok : El.zero.Ok := ⟨⟨by decide, by decide⟩, ⟨by decide, by decide⟩, by decide, by decide⟩
theorem GoodT.mk {v : Value} (h : GoodT v) : (toMk v).val = v ∧ (toMk v).e.Ok ∧ (((toMk v).n = 0 ∧ (toMk v).e.may = true) ∨ ((toMk v).n ≠ 0 ∧ (toMk v).e = .zero)) := by
  obtain ⟨x, y, a, b, d, e, rfl, h | ⟨h1, h2⟩⟩ := h
  · exact ⟨rfl, may_ok (e := ⟨x, y, a, b, d⟩) h.2, .inl h⟩
  · rw [h2]
    exact ⟨rfl, El.zero_ok, .inr ⟨h1, rfl⟩⟩
def mkF (e f : El) (w : Int) : Mk := toMk (fuseV e.x e.y e.a e.b e.d f.x f.y f.a f.b f.d w)
structure Sp where
  ox : Int
  oy : Int
  hx : Int
  hy : Int
  lo : Int
  hi : Int
def Sp.val (s : Sp) : Value := strV s.ox s.oy s.hx s.hy s.lo s.hi
def Sp.cells (s : Sp) : List Value := strC s.ox s.oy s.hx s.hy s.lo s.hi
def Sp.may (s : Sp) : Bool := mayS s.ox s.oy s.hx s.hy s.lo s.hi
def mkC (e : El) (s : Sp) (w : Int) : Mk := toMk (cutV e.x e.y e.a e.b e.d s.ox s.oy s.hx s.hy s.lo s.hi w)
theorem enters_fuse1 : ∀ us w, (callFunc 96 us).run Tryz.prog w = .ok (.enter 96 us) w := enters Tryz.func96 rfl (by kernel_rfl)
theorem enters_cut1 : ∀ us w, (callFunc 100 us).run Tryz.prog w = .ok (.enter 100 us) w := enters Tryz.func100 rfl (by kernel_rfl)
theorem fuse1_run {e f : El} {w : Int} {m : Mk} (q : QC Tryz.prog 97 [e.val, f.val, .int .i64 w] m.val) :
    MC Tryz.prog 96 [.int .i64 w, ptr 0, ptr 1] [eBlk e.cells, eBlk f.cells] m.val [eBlk e.cells, eBlk f.cells] :=
  MC.run5 mixed Tryz.func96 [.res m.val] ts0 (qs1 q) rfl rfl enters_fuse1 (by kernel_rfl)
theorem cut1_run {e : El} {s : Sp} {w : Int} {m : Mk} (q : QC Tryz.prog 101 [e.val, s.val, .int .i64 w] m.val) :
    MC Tryz.prog 100 [.int .i64 w, ptr 0, ptr 1] [eBlk e.cells, sBlk s.cells] m.val [eBlk e.cells, sBlk s.cells] :=
  MC.run5 mixed Tryz.func100 [.res m.val] ts0 (qs1 q) rfl rfl enters_cut1 (by kernel_rfl)
theorem oraF {e f : El} (he : e.Ok) (hf : f.Ok) : OraM (eBlk e.cells) (eBlk f.cells) 96 (mkF e f) := by
  refine ⟨rfl, rfl, fun w _ _ => (fuseV_good _ _ _ _ _ _ _ _ _ _ w).mk.2.1, fun w h1 h2 => fuse1_run ?_⟩
  exact fuse_qc e.x e.y f.x f.y (by omega) (by omega) he.a he.b he.d hf.a hf.b hf.d _ (fuseV_good _ _ _ _ _ _ _ _ _ _ w).mk.1.symm
theorem oraC {e : El} {s : Sp} (he : e.Ok) : OraM (eBlk e.cells) (sBlk s.cells) 100 (mkC e s) := by
  refine ⟨rfl, rfl, fun w _ _ => (cutV_good _ _ _ _ _ _ _ _ _ _ _ w).mk.2.1, fun w h1 h2 => cut1_run ?_⟩
  exact cut_qc e.x e.y s.ox s.oy s.hx s.hy s.lo s.hi (by omega) (by omega) he.a he.b he.d _ (cutV_good _ _ _ _ _ _ _ _ _ _ _ w).mk.1.symm
/-- What golden.Fuse and golden.Cut answer. -/
def gFuse (e f : El) : Mk := match e.may && f.may with
  | true => match empM (mkF e f) (gfin (oM (mkF e f))).2.2 with | true => ⟨.zero, 3⟩ | false => ⟨lesser (smE (mkF e f) e) f, 0⟩
  | false => ⟨.zero, 1⟩
def gCut (e : El) (s : Sp) : Mk := match e.may && s.may with
  | true => smV (mkC e s) e
  | false => ⟨.zero, 1⟩
theorem enters_gFuse : ∀ us w, (callFunc 68 us).run Tryz.prog w = .ok (.enter 68 us) w := enters Tryz.func68 rfl (by kernel_rfl)
theorem enters_gCut : ∀ us w, (callFunc 69 us).run Tryz.prog w = .ok (.enter 69 us) w := enters Tryz.func69 rfl (by kernel_rfl)
theorem flat_mk (m : Mk) : flat m.val = true := flat_ellT _ _ _ _ _ _
theorem emay_qc {e : El} (h : e.Ok) (r : Bool) (hr : e.may = r) : QC Tryz.prog 17 [e.val] (.bool r) := mayL_qc e.x e.y h.a h.b h.d r hr
theorem smE_ok {mk : Int → Mk} {e : El} (h : ∀ w, 1 ≤ w → w ≤ 33 → (mk w).e.Ok) (he : e.Ok) : (smE mk e).Ok := by
  have gb := gfin_best (oM mk)
  have hr := gb.rng _ gb.xl
  unfold smE
  split
  · exact lesser_ok he (h _ hr.1 hr.2)
  · exact he
theorem gFuse_pc {e f : El} (he : e.Ok) (hf : f.Ok) : PC Tryz.prog 68 [e.val, f.val] (gFuse e f).val := by
  have hs := (smallest_mc (oraF he hf) he).pad [eBlk (ellC 0 0 0 0 0)] rfl rfl (fun B hB => by rcases List.mem_cons.1 hB with rfl | hB; rfl; obtain rfl := List.mem_singleton.1 hB; rfl) (fun B hB => by rcases List.mem_cons.1 hB with rfl | hB; rfl; obtain rfl := List.mem_singleton.1 hB; rfl) rfl
  have ho := smE_ok (mk := mkF e f) (oraF he hf).ok he
  unfold gFuse
  unfold smV at hs
  cases h1 : e.may with
  | false => exact PC.run mixed Tryz.func68 [.res (.bool false)] rfl ts0 (qs1 (emay_qc he _ h1)) rfl rfl (by kernel_rfl)
  | true => cases h2 : f.may with
    | false => exact PC.run mixed Tryz.func68 [.res (.bool true), .res (.bool false)] rfl ts0 (qs2 (emay_qc he _ h1) (emay_qc hf _ h2)) rfl rfl (by kernel_rfl)
    | true =>
      simp only [Bool.and_self]
      cases hm : empM (mkF e f) (gfin (oM (mkF e f))).2.2 with
      | true =>
        rw [hm] at hs
        exact PC.run mixed Tryz.func68 [.res (.bool true), .res (.bool true), .mem (Mk.mk .zero 3).val [eBlk e.cells, eBlk f.cells, eBlk (ellC 0 0 0 0 0)]] rfl ts0 (qs3 (emay_qc he _ h1) (emay_qc hf _ h2) hs) rfl rfl (by kernel_rfl)
      | false =>
        rw [hm] at hs
        exact PC.run mixed Tryz.func68 [.res (.bool true), .res (.bool true), .mem (Mk.mk (smE (mkF e f) e) 0).val [eBlk e.cells, eBlk f.cells, eBlk (ellC 0 0 0 0 0)], .res (lesser (smE (mkF e f) e) f).val] rfl ts0 (qs4 (emay_qc he _ h1) (emay_qc hf _ h2) hs (lesser_qc ho hf)) (flat_mk _) rfl (by kernel_rfl)
theorem gFuse_qc {e f : El} (he : e.Ok) (hf : f.Ok) (m : Mk) (h : gFuse e f = m) : QC Tryz.prog 68 [e.val, f.val] m.val := h ▸ QC.of_pc enters_gFuse (gFuse_pc he hf)
theorem gCut_pc {e : El} (s : Sp) (he : e.Ok) : PC Tryz.prog 69 [e.val, s.val] (gCut e s).val := by
  have hs := (smallest_mc (oraC (s := s) he) he).pad [eBlk (ellC 0 0 0 0 0)] rfl rfl (fun B hB => by rcases List.mem_cons.1 hB with rfl | hB; rfl; obtain rfl := List.mem_singleton.1 hB; rfl) (fun B hB => by rcases List.mem_cons.1 hB with rfl | hB; rfl; obtain rfl := List.mem_singleton.1 hB; rfl) rfl
  have q2 := mayS_qc s.ox s.oy s.hx s.hy s.lo s.hi
  unfold gCut
  cases h1 : e.may with
  | false => exact PC.run mixed Tryz.func69 [.res (.bool false)] rfl ts0 (qs1 (emay_qc he _ h1)) rfl rfl (by kernel_rfl)
  | true => cases h2 : s.may with
    | false => exact PC.run mixed Tryz.func69 [.res (.bool true), .res (.bool false)] rfl ts0 (qs2 (emay_qc he _ h1) (q2 _ h2)) rfl rfl (by kernel_rfl)
    | true =>
      simp only [Bool.and_self]
      exact PC.run mixed Tryz.func69 [.res (.bool true), .res (.bool true), .mem (smV (mkC e s) e).val [eBlk e.cells, sBlk s.cells, eBlk (ellC 0 0 0 0 0)]] rfl ts0 (qs3 (emay_qc he _ h1) (q2 _ h2) hs) (flat_mk _) rfl (by kernel_rfl)
theorem gCut_qc {e : El} (s : Sp) (he : e.Ok) (m : Mk) (h : gCut e s = m) : QC Tryz.prog 69 [e.val, s.val] m.val := h ▸ QC.of_pc enters_gCut (gCut_pc s he)
end Go.Proofs.YtaibhjphgdjcmaaGreat.W
