/-
  Package golden: the search on a closure that captures nothing; the law's awake.
-/
import Derived.Test.YtcpaajjeoeejaaaGreatGold4
namespace Go.Proofs.YtcpaajjeoeejaaaGreat.W
open Go Go.Ev Go.Wide

def clA (g : FuncId) : Value := .func (.func g) #[] #[]
section A
variable {g : FuncId} {o : Int → Int × Bool}
theorem askA {w : Int} {p : Int × Bool} (h : MC Tryz.prog g [.int .i64 w] [] (.tuple #[.int .i64 p.1, .bool p.2]) []) : MC Tryz.prog 102 [clA g, .int .i64 w] [] (mkA w p).val [] := by
  obtain ⟨v, b⟩ := p
  have hp := h.pad [aBlk ⟨w, 0, false⟩] rfl rfl (fun B hB => by cases hB) (fun B hB => by cases hB) rfl
  cases b with
  | true => exact MC.runD mixed Tryz.func102 2 136 enters_ask1 ask1_idle [.mem (.tuple #[.int .i64 v, .bool true]) [aBlk ⟨w, 0, false⟩]] ts0 (qs1 hp) rfl rfl enters_ask (by kernel_rfl)
  | false => exact MC.runD mixed Tryz.func102 2 136 enters_ask1 ask1_idle [.mem (.tuple #[.int .i64 v, .bool false]) [aBlk ⟨w, 0, false⟩]] ts0 (qs1 hp) rfl rfl enters_ask (by kernel_rfl)
theorem askUA_same {k x y : An} {w : Int} (hw : w = k.w) : MC Tryz.prog 104 [k.val, clA g, .int .i64 w] [aBlk x, aBlk y] k.val [aBlk x, aBlk y] :=
  MC.run5 mixed Tryz.func104 [.tst true] (ts1 (tT hw)) qs0 rfl rfl enters_askU (by kernel_rfl)
theorem askUA_ask {k x y z : An} {w : Int} (hw : ¬ w = k.w) (h : MC Tryz.prog 102 [clA g, .int .i64 w] [] z.val []) : MC Tryz.prog 104 [k.val, clA g, .int .i64 w] [aBlk x, aBlk y] z.val [aBlk x, aBlk y] :=
  MC.run5 mixed Tryz.func104 [.tst false, .mem z.val [aBlk x, aBlk y, aBlk k, aBlk ⟨0, 0, false⟩]] (ts1 (tF hw)) (qs1 (h.pad [aBlk x, aBlk y, aBlk k, aBlk ⟨0, 0, false⟩] rfl rfl (fun B hB => by cases hB) (fun B hB => by cases hB) rfl)) rfl rfl enters_askU (by kernel_rfl)
def OraA (g : FuncId) (o : Int → Int × Bool) : Prop := ∀ w, 1 ≤ w → w ≤ 33 → MC Tryz.prog g [.int .i64 w] [] (.tuple #[.int .i64 (o w).1, .bool (o w).2]) []
theorem askUA (h : OraA g o) (k x y : An) {w : Int} (h1 : 1 ≤ w) (h2 : w ≤ 33) : MC Tryz.prog 104 [k.val, clA g, .int .i64 w] [aBlk x, aBlk y] (zOf o k w).val [aBlk x, aBlk y] := by
  unfold zOf
  by_cases hw : w = k.w
  · rw [if_pos hw]
    exact askUA_same hw
  · rw [if_neg hw]
    exact askUA_ask hw (askA (h w h1 h2))
def stA (g : FuncId) (a b : Int) (x y : An) : St := ⟨slots 53 [(0, clA g), (5, .int .i64 a), (6, .int .i64 b), (7, ptr 0), (8, ptr 1)], [aBlk x, aBlk y]⟩
def endA (x y : An) : St :=
  ⟨slots 53 [(2, .int .i64 (match x.has with | true => x.w | false => 0)), (3, .int .i64 (match x.has with | true => x.v | false => 0)), (4, .bool x.has)], [aBlk x, aBlk y]⟩
theorem aend {a b : Int} {x y : An} (hab : IntKind.i64.wrap (b - a) ≤ 2) : TriG Tryz.prog bstB bstR (stA g a b x y) (to .ret (endA x y)) := by
  obtain ⟨w, v, has⟩ := x
  cases has with
  | true => exact TriG.run mixed [2, 3, 4] [.tst true] (ts1 (tT hab)) qs0 (by kernel_rfl)
  | false => exact TriG.run mixed [2, 3, 4] [.tst true] (ts1 (tT hab)) qs0 (by kernel_rfl)
theorem around_lo {a b : Int} {x y x' y' z : An} (hab : ¬ IntKind.i64.wrap (b - a) ≤ 2) (hl : lessA y x = false) (w1 : IntKind.i64.wrap (a + y.w) = a + y.w) (w2 : IntKind.i64.wrap (a + y.w - x.w) = a + y.w - x.w)
    (h : MC Tryz.prog 104 [x.val, clA g, .int .i64 (a + y.w - x.w)] [aBlk x, aBlk x] z.val [aBlk x, aBlk x])
    (ih : TriG Tryz.prog bstB bstR (stA g a y.w z x) (to .ret (endA x' y'))) : TriG Tryz.prog bstB bstR (stA g a b x y) (to .ret (endA x' y')) :=
  TriG.run mixed [2, 3, 4] [.tst false, .res (.bool false), .is 10 (.int .i64 (a + y.w)), .is 2 (.int .i64 (a + y.w - x.w)), .mem z.val [aBlk x, aBlk x], .cut gL .ret (endA x' y')] (ts1 (tF hab))
    (qs5 (lessA_qc y x _ hl) (congrArg (Value.int .i64) w1) (congrArg (Value.int .i64) w2) h ih) (by kernel_rfl)
theorem around_up {a b : Int} {x y x' y' z : An} (hab : ¬ IntKind.i64.wrap (b - a) ≤ 2) (hl : lessA y x = true) (w1 : IntKind.i64.wrap (x.w + b) = x.w + b) (w2 : IntKind.i64.wrap (x.w + b - y.w) = x.w + b - y.w)
    (h : MC Tryz.prog 104 [y.val, clA g, .int .i64 (x.w + b - y.w)] [aBlk y, aBlk y] z.val [aBlk y, aBlk y])
    (ih : TriG Tryz.prog bstB bstR (stA g x.w b y z) (to .ret (endA x' y'))) : TriG Tryz.prog bstB bstR (stA g a b x y) (to .ret (endA x' y')) :=
  TriG.run mixed [2, 3, 4] [.tst false, .res (.bool true), .is 10 (.int .i64 (x.w + b)), .is 2 (.int .i64 (x.w + b - y.w)), .mem z.val [aBlk y, aBlk y], .cut gL .ret (endA x' y')] (ts1 (tF hab))
    (qs5 (lessA_qc y x _ hl) (congrArg (Value.int .i64) w1) (congrArg (Value.int .i64) w2) h ih) (by kernel_rfl)
theorem aloop (h : OraA g o) : ∀ (k : Nat) (a b : Int) (x y : An) (L : List Int), InvG k a b x y → TriG Tryz.prog bstB bstR (stA g a b x y) (to .ret (endA (srch o k a b x y L).1 (srch o k a b x y L).2.1))
  | 0, a, b, x, y, L, i => by
    have e1 := i.hb
    have e2 : fb (0 + 2) = 2 := rfl
    exact aend (by rw [wrapS (by have := i.lo; have := i.hi; omega)]; omega)
  | k + 1, a, b, x, y, L, i => by
    have c1 := i.lo
    have c2 := i.hi
    unfold srch
    cases hl : lessA y x with
    | true =>
      obtain ⟨i', hw, h2, h3, h4, h5⟩ := i.up o
      exact around_up (by rw [wrapS (by omega)]; exact h2) hl (wrapS (by omega)) (wrapS (by omega)) (askUA h y y y hw.1 hw.2) (aloop h k _ _ _ _ _ i')
    | false =>
      obtain ⟨i', hw, h2, h3, h4, h5⟩ := i.down o
      exact around_lo (by rw [wrapS (by omega)]; exact h2) hl (wrapS (by omega)) (wrapS (by omega)) (askUA h x x x hw.1 hw.2) (aloop h k _ _ _ _ _ i')
theorem astart_lo {x y x' y' z : An} (h0 : MC Tryz.prog 102 [clA g, .int .i64 13] [] x.val []) (h1 : MC Tryz.prog 102 [clA g, .int .i64 21] [] y.val [])
    (hl : lessA y x = false) (w1 : IntKind.i64.wrap (0 + y.w) = 0 + y.w) (w2 : IntKind.i64.wrap (0 + y.w - x.w) = 0 + y.w - x.w)
    (h : MC Tryz.prog 104 [x.val, clA g, .int .i64 (0 + y.w - x.w)] [aBlk x, aBlk x] z.val [aBlk x, aBlk x])
    (ih : TriG Tryz.prog bstB bstR (stA g 0 y.w z x) (to .ret (endA x' y'))) : MC Tryz.prog 53 [clA g] [] (resG x') [] :=
  MC.run5 mixed Tryz.func53 [.mem x.val [], .mem y.val [], .res (.bool false), .is 10 (.int .i64 (0 + y.w)), .is 2 (.int .i64 (0 + y.w - x.w)), .mem z.val [aBlk x, aBlk x], .cut gL .ret (endA x' y')]
    ts0 (qs7 h0 h1 (lessA_qc y x _ hl) (congrArg (Value.int .i64) w1) (congrArg (Value.int .i64) w2) h ih) rfl rfl enters_best (by kernel_rfl)
theorem astart_up {x y x' y' z : An} (h0 : MC Tryz.prog 102 [clA g, .int .i64 13] [] x.val []) (h1 : MC Tryz.prog 102 [clA g, .int .i64 21] [] y.val [])
    (hl : lessA y x = true) (w1 : IntKind.i64.wrap (x.w + 34) = x.w + 34) (w2 : IntKind.i64.wrap (x.w + 34 - y.w) = x.w + 34 - y.w)
    (h : MC Tryz.prog 104 [y.val, clA g, .int .i64 (x.w + 34 - y.w)] [aBlk y, aBlk y] z.val [aBlk y, aBlk y])
    (ih : TriG Tryz.prog bstB bstR (stA g x.w 34 y z) (to .ret (endA x' y'))) : MC Tryz.prog 53 [clA g] [] (resG x') [] :=
  MC.run5 mixed Tryz.func53 [.mem x.val [], .mem y.val [], .res (.bool true), .is 10 (.int .i64 (x.w + 34)), .is 2 (.int .i64 (x.w + 34 - y.w)), .mem z.val [aBlk y, aBlk y], .cut gL .ret (endA x' y')]
    ts0 (qs7 h0 h1 (lessA_qc y x _ hl) (congrArg (Value.int .i64) w1) (congrArg (Value.int .i64) w2) h ih) rfl rfl enters_best (by kernel_rfl)
theorem bestA_mc (h : OraA g o) : MC Tryz.prog 53 [clA g] [] (resG (gfin o).1) [] := by
  have q1 := askA (h 13 (by decide) (by decide))
  have q2 := askA (h 21 (by decide) (by decide))
  have i := InvG.start o
  have e1 := mkA_w 13 (o 13)
  have e2 := mkA_w 21 (o 21)
  unfold gfin
  generalize hx : mkA 13 (o 13) = x at *
  generalize hy : mkA 21 (o 21) = y at *
  unfold srch
  cases hl : lessA y x with
  | true =>
    obtain ⟨i', hw, _⟩ := i.up o
    exact astart_up q1 q2 hl (wrapS (by omega)) (wrapS (by omega)) (askUA h y y y hw.1 hw.2) (aloop h 5 _ _ _ _ _ i')
  | false =>
    obtain ⟨i', hw, _⟩ := i.down o
    exact astart_lo q1 q2 hl (wrapS (by omega)) (wrapS (by omega)) (askUA h x x x hw.1 hw.2) (aloop h 5 _ _ _ _ _ i')
end A
def sqA (w : Int) : Int × Bool := ((w - 9) * (w - 9), true)
theorem enters_awake7c : ∀ us w, (callFunc 54 us).run Tryz.prog w = .ok (.enter 54 us) w := enters Tryz.func54 rfl (by kernel_rfl)
theorem enters_awake7 : ∀ us w, (callFunc 14 us).run Tryz.prog w = .ok (.enter 14 us) w := enters Tryz.func14 rfl (by kernel_rfl)
theorem sqA_run {w p : Int} (h1 : IntKind.i64.wrap (w - 9) = w - 9) (h2 : IntKind.i64.wrap ((w - 9) * (w - 9)) = p) : MC Tryz.prog 54 [.int .i64 w] [] (.tuple #[.int .i64 p, .bool true]) [] :=
  MC.run5 mixed Tryz.func54 [.is 3 (.int .i64 (w - 9)), .is 1 (.int .i64 (w - 9)), .is 0 (.int .i64 p)] ts0 (qs3 (congrArg (Value.int .i64) h1) (congrArg (Value.int .i64) h1) (congrArg (Value.int .i64) h2)) rfl rfl enters_awake7c (by kernel_rfl)
theorem sqA_ora : OraA 54 sqA := fun w h1 h2 => by
  have b := mul_bd (x := w - 9) (y := w - 9) (p := 33) (q := 33) (by omega) (by omega)
  exact sqA_run (wrapS (by omega)) (wrapS (by omega))
theorem sqA_fin : (gfin sqA).1 = ⟨9, 0, true⟩ := by rfl
theorem awake7_pc : PC Tryz.prog 14 [] (.bool true) := by
  have h := bestA_mc sqA_ora
  rw [sqA_fin] at h
  exact PC.run mixed Tryz.func14 [.mem (resG ⟨9, 0, true⟩) []] rfl ts0 (qs1 h) rfl rfl (by kernel_rfl)
theorem awake7 : QC Tryz.prog 14 [] (.bool true) := QC.of_pc enters_awake7 awake7_pc
end Go.Proofs.YtcpaajjeoeejaaaGreat.W
