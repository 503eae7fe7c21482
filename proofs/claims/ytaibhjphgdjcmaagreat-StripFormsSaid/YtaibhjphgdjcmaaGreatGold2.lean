/-
  Package golden: the search, in smallest's memory.
-/
import Derived.Test.YtaibhjphgdjcmaaGreatGold
namespace Go.Proofs.YtaibhjphgdjcmaaGreat.W
open Go Go.Ev Go.Wide

def zOf (o : Int → Int × Bool) (k : An) (w : Int) : An := if w = k.w then k else mkA w (o w)
def lOf (k : An) (w : Int) (L : List Int) : List Int := if w = k.w then L else L ++ [w]
/-- Fibonacci's numbers. -/
def fb : Nat → Int
  | 0 => 1
  | 1 => 1
  | n + 2 => fb n + fb (n + 1)
/-- The search from an interval of the k-th width. -/
def srch (o : Int → Int × Bool) : Nat → Int → Int → An → An → List Int → An × An × List Int
  | 0, _, _, x, y, L => (x, y, L)
  | k + 1, a, b, x, y, L => match lessA y x with
    | true => srch o k x.w b y (zOf o y (x.w + b - y.w)) (lOf y (x.w + b - y.w) L)
    | false => srch o k a y.w (zOf o x (a + y.w - x.w)) x (lOf x (a + y.w - x.w) L)
structure InvG (k : Nat) (a b : Int) (x y : An) : Prop where
  lo : 0 ≤ a
  hi : b ≤ 34
  hb : b = a + fb (k + 2)
  hx : x.w = a + fb k
  hy : y.w = a + fb (k + 1)
theorem fb_pos : ∀ n, 1 ≤ fb n ∧ 1 ≤ fb (n + 1)
  | 0 => ⟨by decide, by decide⟩
  | n + 1 => ⟨(fb_pos n).2, by have := fb_pos n; show 1 ≤ fb n + fb (n + 1); omega⟩
theorem mkA_w (w : Int) (p : Int × Bool) : (mkA w p).w = w := by unfold mkA; split <;> rfl
theorem zOf_w (o : Int → Int × Bool) (k : An) (w : Int) : (zOf o k w).w = w := by
  unfold zOf
  split
  · rename_i h; exact h.symm
  · exact mkA_w _ _
theorem InvG.down {k : Nat} {a b : Int} {x y : An} (h : InvG (k + 1) a b x y) (o : Int → Int × Bool) : InvG k a y.w (zOf o x (a + y.w - x.w)) x ∧ (1 ≤ a + y.w - x.w ∧ a + y.w - x.w ≤ 33) ∧ ¬ b - a ≤ 2 ∧ b - a ≤ 34 ∧ (0 ≤ x.w ∧ x.w ≤ 34) ∧ 0 ≤ y.w ∧ y.w ≤ 34 := by
  obtain ⟨lo, hi, hb, hx, hy⟩ := h
  have p1 := fb_pos k
  have p2 := fb_pos (k + 1)
  have e1 : fb (k + 2) = fb k + fb (k + 1) := rfl
  have e2 : fb (k + 3) = fb (k + 1) + fb (k + 2) := rfl
  have e3 : fb (k + 1 + 1) = fb (k + 2) := rfl
  have e4 : fb (k + 1 + 2) = fb (k + 3) := rfl
  rw [e3] at hy
  rw [e4] at hb
  exact ⟨⟨lo, by omega, by omega, by rw [zOf_w]; omega, by omega⟩, by omega, by omega, by omega, by omega, by omega, by omega⟩
theorem InvG.up {k : Nat} {a b : Int} {x y : An} (h : InvG (k + 1) a b x y) (o : Int → Int × Bool) : InvG k x.w b y (zOf o y (x.w + b - y.w)) ∧ (1 ≤ x.w + b - y.w ∧ x.w + b - y.w ≤ 33) ∧ ¬ b - a ≤ 2 ∧ b - a ≤ 34 ∧ (0 ≤ x.w ∧ x.w ≤ 34) ∧ 0 ≤ y.w ∧ y.w ≤ 34 := by
  obtain ⟨lo, hi, hb, hx, hy⟩ := h
  have p1 := fb_pos k
  have p2 := fb_pos (k + 1)
  have e1 : fb (k + 2) = fb k + fb (k + 1) := rfl
  have e2 : fb (k + 3) = fb (k + 1) + fb (k + 2) := rfl
  have e3 : fb (k + 1 + 1) = fb (k + 2) := rfl
  have e4 : fb (k + 1 + 2) = fb (k + 3) := rfl
  rw [e3] at hy
  rw [e4] at hb
  exact ⟨⟨by omega, by omega, by omega, by omega, by rw [zOf_w]; omega⟩, by omega, by omega, by omega, by omega, by omega, by omega⟩
def scopeOf : Code → Code
  | .scope b => b
  | .seq _ c => scopeOf c
  | _ => .skip
noncomputable def bstB : Code := scopeOf (bodyOf Tryz.f113)
noncomputable def bstR : Code := match findLabel bstB 1 with | some c => c | none => .skip
theorem enters_best : ∀ us w, (callFunc 113 us).run Tryz.prog w = .ok (.enter 113 us) w := enters Tryz.func113 rfl (by kernel_rfl)
theorem enters_askU : ∀ us w, (callFunc 135 us).run Tryz.prog w = .ok (.enter 135 us) w := enters Tryz.func135 rfl (by kernel_rfl)
def resG (x : An) : Value := .tuple #[.int .i64 (match x.has with | true => x.w | false => 0), .int .i64 (match x.has with | true => x.v | false => 0), .bool x.has]


section S
variable {B0 B1 : Blk} {E : List Value} {g : FuncId} {C C' : List Value} {e e' : Bool}
theorem askUS_same {k x y : An} {w : Int} (h0 : B0.cells.all flat1 = true) (h1 : B1.cells.all flat1 = true) (hE : E.all flat1 = true) (hC : C.all flat1 = true) (hw : w = k.w) :
    MC Tryz.prog 135 [k.val, clS, .int .i64 w] (memS B0 B1 E g C e ++ [aBlk x, aBlk y]) k.val (memS B0 B1 E g C e ++ [aBlk x, aBlk y]) :=
  MC.run5 mixed Tryz.func135 [.tst true] (tsC (tT hw) <| ts4 (noNews (n := 9) h0) (noNews (n := 9) h1) (noNews (n := 9) hE) (noNews (n := 9) hC)) qs0 rfl rfl enters_askU (by kernel_rfl)
theorem askUS_ask {k x y z : An} {w : Int} (h0 : B0.cells.all flat1 = true) (h1 : B1.cells.all flat1 = true) (hE : E.all flat1 = true) (hC : C.all flat1 = true) (hC' : C'.all flat1 = true) (hw : ¬ w = k.w)
    (h : MC Tryz.prog 133 [clS, .int .i64 w] (memS B0 B1 E g C e) z.val (memS B0 B1 E g C' e')) :
    MC Tryz.prog 135 [k.val, clS, .int .i64 w] (memS B0 B1 E g C e ++ [aBlk x, aBlk y]) z.val (memS B0 B1 E g C' e' ++ [aBlk x, aBlk y]) :=
  MC.run5 mixed Tryz.func135 [.tst false, .mem z.val (memS B0 B1 E g C' e' ++ [aBlk x, aBlk y, aBlk k, aBlk ⟨0, 0, false⟩])] (tsC (tF hw) <| ts4 (noNews (n := 9) h0) (noNews (n := 9) h1) (noNews (n := 9) hE) (noNews (n := 9) hC'))
    (qs1 (h.pad [aBlk x, aBlk y, aBlk k, aBlk ⟨0, 0, false⟩] rfl rfl (lowS h0 h1 hE hC) (lowS h0 h1 hE hC') rfl)) rfl rfl enters_askU (by kernel_rfl)
end S

/-- What a weight's call does in the search's memory. -/
structure OraS (B0 B1 : Blk) (E : List Value) (g : FuncId) (o : Int → Int × Bool) (Cs : List Int → List Value) (es : List Int → Bool) : Prop where
  b0 : B0.cells.all flat1 = true
  b1 : B1.cells.all flat1 = true
  e : E.all flat1 = true
  c : ∀ L, (Cs L).all flat1 = true
  call : ∀ L w, 1 ≤ w → w ≤ 33 → MC Tryz.prog 114 [.int .i64 w, ptr 3, ptr 5, ptr 6] (memS B0 B1 E g (Cs L) (es L)) (.tuple #[.int .i64 (o w).1, .bool (o w).2]) (memS B0 B1 E g (Cs (L ++ [w])) (es (L ++ [w])))
section S
variable {B0 B1 : Blk} {E : List Value} {g : FuncId} {o : Int → Int × Bool} {Cs : List Int → List Value} {es : List Int → Bool}
theorem askUS (h : OraS B0 B1 E g o Cs es) (k x y : An) {w : Int} (h1 : 1 ≤ w) (h2 : w ≤ 33) (L : List Int) :
    MC Tryz.prog 135 [k.val, clS, .int .i64 w] (memS B0 B1 E g (Cs L) (es L) ++ [aBlk x, aBlk y]) (zOf o k w).val (memS B0 B1 E g (Cs (lOf k w L)) (es (lOf k w L)) ++ [aBlk x, aBlk y]) := by
  unfold zOf lOf
  by_cases hw : w = k.w
  · rw [if_pos hw, if_pos hw]
    exact askUS_same h.b0 h.b1 h.e (h.c L) hw
  · rw [if_neg hw, if_neg hw]
    exact askUS_ask h.b0 h.b1 h.e (h.c L) (h.c _) hw (askS h.b0 h.b1 h.e (h.c L) (h.c _) (h.call L w h1 h2))
/-- The search's state: at the head of a round; at its end. -/
def stG (B0 B1 : Blk) (E : List Value) (g : FuncId) (C : List Value) (e : Bool) (a b : Int) (x y : An) : St :=
  ⟨slots 53 [(0, clS), (5, .int .i64 a), (6, .int .i64 b), (7, ptr 7), (8, ptr 8)], memS B0 B1 E g C e ++ [aBlk x, aBlk y]⟩
def endG (B0 B1 : Blk) (E : List Value) (g : FuncId) (C : List Value) (e : Bool) (x y : An) : St :=
  ⟨slots 53 [(2, .int .i64 (match x.has with | true => x.w | false => 0)), (3, .int .i64 (match x.has with | true => x.v | false => 0)), (4, .bool x.has)], memS B0 B1 E g C e ++ [aBlk x, aBlk y]⟩
def gL : List Nat := [0, 5, 6, 7, 8]
theorem gend {a b : Int} {x y : An} {C : List Value} {e : Bool} (hab : IntKind.i64.wrap (b - a) ≤ 2) : TriG Tryz.prog bstB bstR (stG B0 B1 E g C e a b x y) (to .ret (endG B0 B1 E g C e x y)) := by
  obtain ⟨w, v, has⟩ := x
  cases has with
  | true => exact TriG.run mixed [2, 3, 4] [.tst true] (ts1 (tT hab)) qs0 (by kernel_rfl)
  | false => exact TriG.run mixed [2, 3, 4] [.tst true] (ts1 (tT hab)) qs0 (by kernel_rfl)

theorem ground_lo {a b : Int} {x y x' y' z : An} {C C' C2 : List Value} {e e' e2 : Bool} (hab : ¬ IntKind.i64.wrap (b - a) ≤ 2) (hl : lessA y x = false) (w1 : IntKind.i64.wrap (a + y.w) = a + y.w) (w2 : IntKind.i64.wrap (a + y.w - x.w) = a + y.w - x.w)
    (h : MC Tryz.prog 135 [x.val, clS, .int .i64 (a + y.w - x.w)] (memS B0 B1 E g C e ++ [aBlk x, aBlk x]) z.val (memS B0 B1 E g C' e' ++ [aBlk x, aBlk x]))
    (ih : TriG Tryz.prog bstB bstR (stG B0 B1 E g C' e' a y.w z x) (to .ret (endG B0 B1 E g C2 e2 x' y'))) : TriG Tryz.prog bstB bstR (stG B0 B1 E g C e a b x y) (to .ret (endG B0 B1 E g C2 e2 x' y')) :=
  TriG.run mixed [2, 3, 4] [.tst false, .res (.bool false), .is 10 (.int .i64 (a + y.w)), .is 2 (.int .i64 (a + y.w - x.w)), .mem z.val (memS B0 B1 E g C' e' ++ [aBlk x, aBlk x]), .cut gL .ret (endG B0 B1 E g C2 e2 x' y')] (ts1 (tF hab))
    (qs5 (lessA_qc y x _ hl) (congrArg (Value.int .i64) w1) (congrArg (Value.int .i64) w2) h ih) (by kernel_rfl)
theorem ground_up {a b : Int} {x y x' y' z : An} {C C' C2 : List Value} {e e' e2 : Bool} (hab : ¬ IntKind.i64.wrap (b - a) ≤ 2) (hl : lessA y x = true) (w1 : IntKind.i64.wrap (x.w + b) = x.w + b) (w2 : IntKind.i64.wrap (x.w + b - y.w) = x.w + b - y.w)
    (h : MC Tryz.prog 135 [y.val, clS, .int .i64 (x.w + b - y.w)] (memS B0 B1 E g C e ++ [aBlk y, aBlk y]) z.val (memS B0 B1 E g C' e' ++ [aBlk y, aBlk y]))
    (ih : TriG Tryz.prog bstB bstR (stG B0 B1 E g C' e' x.w b y z) (to .ret (endG B0 B1 E g C2 e2 x' y'))) : TriG Tryz.prog bstB bstR (stG B0 B1 E g C e a b x y) (to .ret (endG B0 B1 E g C2 e2 x' y')) :=
  TriG.run mixed [2, 3, 4] [.tst false, .res (.bool true), .is 10 (.int .i64 (x.w + b)), .is 2 (.int .i64 (x.w + b - y.w)), .mem z.val (memS B0 B1 E g C' e' ++ [aBlk y, aBlk y]), .cut gL .ret (endG B0 B1 E g C2 e2 x' y')] (ts1 (tF hab))
    (qs5 (lessA_qc y x _ hl) (congrArg (Value.int .i64) w1) (congrArg (Value.int .i64) w2) h ih) (by kernel_rfl)
theorem gloop (h : OraS B0 B1 E g o Cs es) : ∀ (k : Nat) (a b : Int) (x y : An) (L : List Int), InvG k a b x y → TriG Tryz.prog bstB bstR (stG B0 B1 E g (Cs L) (es L) a b x y)
    (to .ret (endG B0 B1 E g (Cs (srch o k a b x y L).2.2) (es (srch o k a b x y L).2.2) (srch o k a b x y L).1 (srch o k a b x y L).2.1))
  | 0, a, b, x, y, L, i => by
    have e1 := i.hb
    have e2 : fb (0 + 2) = 2 := rfl
    exact gend (by rw [wrapS (by have := i.lo; have := i.hi; omega)]; omega)
  | k + 1, a, b, x, y, L, i => by
    have c1 := i.lo
    have c2 := i.hi
    unfold srch
    cases hl : lessA y x with
    | true =>
      obtain ⟨i', hw, h2, h3, h4, h5⟩ := i.up o
      have i1 := i'.lo
      have i2 := i'.hi
      have p1 := fb_pos (k + 1)
      have p2 := i.hx
      have p3 := i.hy
      exact ground_up (by rw [wrapS (by omega)]; exact h2) hl (wrapS (by omega)) (wrapS (by omega)) (askUS h y y y hw.1 hw.2 L) (gloop h k _ _ _ _ _ i')
    | false =>
      obtain ⟨i', hw, h2, h3, h4, h5⟩ := i.down o
      have i1 := i'.lo
      have i2 := i'.hi
      have p2 := i.hx
      have p3 := i.hy
      exact ground_lo (by rw [wrapS (by omega)]; exact h2) hl (wrapS (by omega)) (wrapS (by omega)) (askUS h x x x hw.1 hw.2 L) (gloop h k _ _ _ _ _ i')

theorem gstart_lo {x y x' y' z : An} {C C0 C1 C' C2 : List Value} {e e0 e1 e' e2 : Bool} (f0 : B0.cells.all flat1 = true) (f1 : B1.cells.all flat1 = true) (fE : E.all flat1 = true) (fC : C2.all flat1 = true)
    (h0 : MC Tryz.prog 133 [clS, .int .i64 13] (memS B0 B1 E g C0 e0) x.val (memS B0 B1 E g C1 e1)) (h1 : MC Tryz.prog 133 [clS, .int .i64 21] (memS B0 B1 E g C1 e1) y.val (memS B0 B1 E g C e))
    (hl : lessA y x = false) (w1 : IntKind.i64.wrap (0 + y.w) = 0 + y.w) (w2 : IntKind.i64.wrap (0 + y.w - x.w) = 0 + y.w - x.w)
    (h : MC Tryz.prog 135 [x.val, clS, .int .i64 (0 + y.w - x.w)] (memS B0 B1 E g C e ++ [aBlk x, aBlk x]) z.val (memS B0 B1 E g C' e' ++ [aBlk x, aBlk x]))
    (ih : TriG Tryz.prog bstB bstR (stG B0 B1 E g C' e' 0 y.w z x) (to .ret (endG B0 B1 E g C2 e2 x' y'))) : MC Tryz.prog 113 [clS] (memS B0 B1 E g C0 e0) (resG x') (memS B0 B1 E g C2 e2) :=
  MC.run5 mixed Tryz.func113 [.mem x.val (memS B0 B1 E g C1 e1), .mem y.val (memS B0 B1 E g C e), .res (.bool false), .is 10 (.int .i64 (0 + y.w)), .is 2 (.int .i64 (0 + y.w - x.w)), .mem z.val (memS B0 B1 E g C' e' ++ [aBlk x, aBlk x]), .cut gL .ret (endG B0 B1 E g C2 e2 x' y')]
    (ts4 (noNews (n := 7) f0) (noNews (n := 7) f1) (noNews (n := 7) fE) (noNews (n := 7) fC)) (qs7 h0 h1 (lessA_qc y x _ hl) (congrArg (Value.int .i64) w1) (congrArg (Value.int .i64) w2) h ih) rfl rfl enters_best (by kernel_rfl)
theorem gstart_up {x y x' y' z : An} {C C0 C1 C' C2 : List Value} {e e0 e1 e' e2 : Bool} (f0 : B0.cells.all flat1 = true) (f1 : B1.cells.all flat1 = true) (fE : E.all flat1 = true) (fC : C2.all flat1 = true)
    (h0 : MC Tryz.prog 133 [clS, .int .i64 13] (memS B0 B1 E g C0 e0) x.val (memS B0 B1 E g C1 e1)) (h1 : MC Tryz.prog 133 [clS, .int .i64 21] (memS B0 B1 E g C1 e1) y.val (memS B0 B1 E g C e))
    (hl : lessA y x = true) (w1 : IntKind.i64.wrap (x.w + 34) = x.w + 34) (w2 : IntKind.i64.wrap (x.w + 34 - y.w) = x.w + 34 - y.w)
    (h : MC Tryz.prog 135 [y.val, clS, .int .i64 (x.w + 34 - y.w)] (memS B0 B1 E g C e ++ [aBlk y, aBlk y]) z.val (memS B0 B1 E g C' e' ++ [aBlk y, aBlk y]))
    (ih : TriG Tryz.prog bstB bstR (stG B0 B1 E g C' e' x.w 34 y z) (to .ret (endG B0 B1 E g C2 e2 x' y'))) : MC Tryz.prog 113 [clS] (memS B0 B1 E g C0 e0) (resG x') (memS B0 B1 E g C2 e2) :=
  MC.run5 mixed Tryz.func113 [.mem x.val (memS B0 B1 E g C1 e1), .mem y.val (memS B0 B1 E g C e), .res (.bool true), .is 10 (.int .i64 (x.w + 34)), .is 2 (.int .i64 (x.w + 34 - y.w)), .mem z.val (memS B0 B1 E g C' e' ++ [aBlk y, aBlk y]), .cut gL .ret (endG B0 B1 E g C2 e2 x' y')]
    (ts4 (noNews (n := 7) f0) (noNews (n := 7) f1) (noNews (n := 7) fE) (noNews (n := 7) fC)) (qs7 h0 h1 (lessA_qc y x _ hl) (congrArg (Value.int .i64) w1) (congrArg (Value.int .i64) w2) h ih) rfl rfl enters_best (by kernel_rfl)
/-- What the search comes to. -/
def gfin (o : Int → Int × Bool) : An × An × List Int := srch o 6 0 34 (mkA 13 (o 13)) (mkA 21 (o 21)) [13, 21]
theorem InvG.start (o : Int → Int × Bool) : InvG 6 0 34 (mkA 13 (o 13)) (mkA 21 (o 21)) := ⟨by decide, by decide, by decide, by rw [mkA_w]; decide, by rw [mkA_w]; decide⟩
theorem best_mc (h : OraS B0 B1 E g o Cs es) : MC Tryz.prog 113 [clS] (memS B0 B1 E g (Cs []) (es [])) (resG (gfin o).1) (memS B0 B1 E g (Cs (gfin o).2.2) (es (gfin o).2.2)) := by
  have q1 := askS h.b0 h.b1 h.e (h.c _) (h.c _) (h.call [] 13 (by decide) (by decide))
  have q2 := askS h.b0 h.b1 h.e (h.c _) (h.c _) (h.call [13] 21 (by decide) (by decide))
  have i := InvG.start o
  have e1 := mkA_w 13 (o 13)
  have e2 := mkA_w 21 (o 21)
  unfold gfin
  generalize hx : mkA 13 (o 13) = x at *
  generalize hy : mkA 21 (o 21) = y at *
  unfold srch
  cases hl : lessA y x with
  | true =>
    obtain ⟨i', hw, _⟩ := i.up o
    exact gstart_up h.b0 h.b1 h.e (h.c _) q1 q2 hl (wrapS (by omega)) (wrapS (by omega)) (askUS h y y y hw.1 hw.2 [13, 21]) (gloop h 5 _ _ _ _ _ i')
  | false =>
    obtain ⟨i', hw, _⟩ := i.down o
    exact gstart_lo h.b0 h.b1 h.e (h.c _) q1 q2 hl (wrapS (by omega)) (wrapS (by omega)) (askUS h x x x hw.1 hw.2 [13, 21]) (gloop h 5 _ _ _ _ _ i')
end S
end Go.Proofs.YtaibhjphgdjcmaaGreat.W
