/-
  Relative states, part S: a call's contract out of one run, without a stated print: the tests, the obligations and the value are read off what is handed in.
-/
import Derived.Test.YtjmdppnhpfdhdaaEvK
import Derived.Test.YtjmdppnhpfdhdaaRows
import Derived.WalkKit
import Derived.ProofKit
import Derived.OpenShut
import Derived.Below
import Derived.Carry
import Derived.Lib.SmallJoins
namespace Go.Ev
open Go.ChangeShapes Go.WideShapes Go.ChangeAt Go.RowKit
section
variable {P : Program}
def evFn4 (P : Program) (fn : Func) (fuel : Nat) (args : List Value) (ans : List Ans) : Option (Bool × Prop × Value) :=
  match evFn3 P fn fuel args ans with
  | some (a, b, c) => some (a, allP b, c)
  | none => none
theorem PC.run (hm : P.follows .mixedOrders = true) {f : FuncId} {fn : Func} (hf : P.funcs[f]? = some fn) {args : List Value} (ans : List Ans) {X : Bool} {A : Prop} {v v' : Value}
    (hfl : args.all flat = true) (hx : X = true) (ha : A) (hv : flat v = true) (hr : v = v') (e : evFn4 P fn 400 args ans = some (X, A, v)) : PC P f args v' := by
  unfold evFn4 at e
  split at e
  · rename_i a b c he
    cases e
    exact PC.of_ev3 hm hf 400 ans he hfl hx ha hv hr
  · cases e
def evFnM4 (P : Program) (fn : Func) (fuel : Nat) (args : List Value) (mem : Mem) (ans : List Ans) : Option (Bool × Prop × Value × Mem) :=
  match evFnM P fn fuel args mem ans with
  | some (a, b, c, d) => some (a, allP b, c, d)
  | none => none
theorem MC.run (hm : P.follows .mixedOrders = true) {f : FuncId} {fn : Func} (hf : P.funcs[f]? = some fn) {args : List Value} {mem mem' mem'' : Mem} (ans : List Ans) {X : Bool} {A : Prop} {v v' : Value}
    (hx : X = true) (ha : A) (hr : v = v') (hr' : mem' = mem'') (he : ∀ us w, (callFunc f us).run P w = .ok (.enter f us) w) (e : evFnM4 P fn 400 args mem ans = some (X, A, v, mem')) : MC P f args mem v' mem'' := by
  subst hr hr'
  unfold evFnM4 at e
  split at e
  · rename_i a b c d h
    cases e
    exact MC.of_ev hm hf 400 ans h hx ha he
  · cases e
theorem tT {p : Prop} [Decidable p] (h : p) : decide p = true := decide_eq_true h
theorem tF {p : Prop} [Decidable p] (h : ¬ p) : (!decide p) = true := by rw [decide_eq_false h]; rfl
theorem ts0 : conj [] = true := rfl
theorem qs0 : True := trivial
theorem ts1 {b0 : Bool} (hb0 : b0 = true) : conj [b0] = true := by subst hb0; rfl
theorem ts2 {b0 b1 : Bool} (hb0 : b0 = true) (hb1 : b1 = true) : conj [b0, b1] = true := by subst hb0 hb1; rfl
theorem ts3 {b0 b1 b2 : Bool} (hb0 : b0 = true) (hb1 : b1 = true) (hb2 : b2 = true) : conj [b0, b1, b2] = true := by subst hb0 hb1 hb2; rfl
theorem ts4 {b0 b1 b2 b3 : Bool} (hb0 : b0 = true) (hb1 : b1 = true) (hb2 : b2 = true) (hb3 : b3 = true) : conj [b0, b1, b2, b3] = true := by subst hb0 hb1 hb2 hb3; rfl
theorem ts5 {b0 b1 b2 b3 b4 : Bool} (hb0 : b0 = true) (hb1 : b1 = true) (hb2 : b2 = true) (hb3 : b3 = true) (hb4 : b4 = true) : conj [b0, b1, b2, b3, b4] = true := by subst hb0 hb1 hb2 hb3 hb4; rfl
theorem ts6 {b0 b1 b2 b3 b4 b5 : Bool} (hb0 : b0 = true) (hb1 : b1 = true) (hb2 : b2 = true) (hb3 : b3 = true) (hb4 : b4 = true) (hb5 : b5 = true) : conj [b0, b1, b2, b3, b4, b5] = true := by subst hb0 hb1 hb2 hb3 hb4 hb5; rfl
theorem ts7 {b0 b1 b2 b3 b4 b5 b6 : Bool} (hb0 : b0 = true) (hb1 : b1 = true) (hb2 : b2 = true) (hb3 : b3 = true) (hb4 : b4 = true) (hb5 : b5 = true) (hb6 : b6 = true) : conj [b0, b1, b2, b3, b4, b5, b6] = true := by subst hb0 hb1 hb2 hb3 hb4 hb5 hb6; rfl
theorem ts8 {b0 b1 b2 b3 b4 b5 b6 b7 : Bool} (hb0 : b0 = true) (hb1 : b1 = true) (hb2 : b2 = true) (hb3 : b3 = true) (hb4 : b4 = true) (hb5 : b5 = true) (hb6 : b6 = true) (hb7 : b7 = true) : conj [b0, b1, b2, b3, b4, b5, b6, b7] = true := by subst hb0 hb1 hb2 hb3 hb4 hb5 hb6 hb7; rfl
theorem ts9 {b0 b1 b2 b3 b4 b5 b6 b7 b8 : Bool} (hb0 : b0 = true) (hb1 : b1 = true) (hb2 : b2 = true) (hb3 : b3 = true) (hb4 : b4 = true) (hb5 : b5 = true) (hb6 : b6 = true) (hb7 : b7 = true) (hb8 : b8 = true) : conj [b0, b1, b2, b3, b4, b5, b6, b7, b8] = true := by subst hb0 hb1 hb2 hb3 hb4 hb5 hb6 hb7 hb8; rfl
theorem ts10 {b0 b1 b2 b3 b4 b5 b6 b7 b8 b9 : Bool} (hb0 : b0 = true) (hb1 : b1 = true) (hb2 : b2 = true) (hb3 : b3 = true) (hb4 : b4 = true) (hb5 : b5 = true) (hb6 : b6 = true) (hb7 : b7 = true) (hb8 : b8 = true) (hb9 : b9 = true) : conj [b0, b1, b2, b3, b4, b5, b6, b7, b8, b9] = true := by subst hb0 hb1 hb2 hb3 hb4 hb5 hb6 hb7 hb8 hb9; rfl
theorem ts11 {b0 b1 b2 b3 b4 b5 b6 b7 b8 b9 b10 : Bool} (hb0 : b0 = true) (hb1 : b1 = true) (hb2 : b2 = true) (hb3 : b3 = true) (hb4 : b4 = true) (hb5 : b5 = true) (hb6 : b6 = true) (hb7 : b7 = true) (hb8 : b8 = true) (hb9 : b9 = true) (hb10 : b10 = true) : conj [b0, b1, b2, b3, b4, b5, b6, b7, b8, b9, b10] = true := by subst hb0 hb1 hb2 hb3 hb4 hb5 hb6 hb7 hb8 hb9 hb10; rfl
theorem ts12 {b0 b1 b2 b3 b4 b5 b6 b7 b8 b9 b10 b11 : Bool} (hb0 : b0 = true) (hb1 : b1 = true) (hb2 : b2 = true) (hb3 : b3 = true) (hb4 : b4 = true) (hb5 : b5 = true) (hb6 : b6 = true) (hb7 : b7 = true) (hb8 : b8 = true) (hb9 : b9 = true) (hb10 : b10 = true) (hb11 : b11 = true) : conj [b0, b1, b2, b3, b4, b5, b6, b7, b8, b9, b10, b11] = true := by subst hb0 hb1 hb2 hb3 hb4 hb5 hb6 hb7 hb8 hb9 hb10 hb11; rfl
theorem qs1 {A0 : Prop} (a0 : A0) : A0 ∧ True := ⟨a0, trivial⟩
theorem qs2 {A0 A1 : Prop} (a0 : A0) (a1 : A1) : A0 ∧ A1 ∧ True := ⟨a0, a1, trivial⟩
theorem qs3 {A0 A1 A2 : Prop} (a0 : A0) (a1 : A1) (a2 : A2) : A0 ∧ A1 ∧ A2 ∧ True := ⟨a0, a1, a2, trivial⟩
theorem qs4 {A0 A1 A2 A3 : Prop} (a0 : A0) (a1 : A1) (a2 : A2) (a3 : A3) : A0 ∧ A1 ∧ A2 ∧ A3 ∧ True := ⟨a0, a1, a2, a3, trivial⟩
theorem qs5 {A0 A1 A2 A3 A4 : Prop} (a0 : A0) (a1 : A1) (a2 : A2) (a3 : A3) (a4 : A4) : A0 ∧ A1 ∧ A2 ∧ A3 ∧ A4 ∧ True := ⟨a0, a1, a2, a3, a4, trivial⟩
theorem qs6 {A0 A1 A2 A3 A4 A5 : Prop} (a0 : A0) (a1 : A1) (a2 : A2) (a3 : A3) (a4 : A4) (a5 : A5) : A0 ∧ A1 ∧ A2 ∧ A3 ∧ A4 ∧ A5 ∧ True := ⟨a0, a1, a2, a3, a4, a5, trivial⟩
theorem qs7 {A0 A1 A2 A3 A4 A5 A6 : Prop} (a0 : A0) (a1 : A1) (a2 : A2) (a3 : A3) (a4 : A4) (a5 : A5) (a6 : A6) : A0 ∧ A1 ∧ A2 ∧ A3 ∧ A4 ∧ A5 ∧ A6 ∧ True := ⟨a0, a1, a2, a3, a4, a5, a6, trivial⟩
theorem qs8 {A0 A1 A2 A3 A4 A5 A6 A7 : Prop} (a0 : A0) (a1 : A1) (a2 : A2) (a3 : A3) (a4 : A4) (a5 : A5) (a6 : A6) (a7 : A7) : A0 ∧ A1 ∧ A2 ∧ A3 ∧ A4 ∧ A5 ∧ A6 ∧ A7 ∧ True := ⟨a0, a1, a2, a3, a4, a5, a6, a7, trivial⟩
theorem qs9 {A0 A1 A2 A3 A4 A5 A6 A7 A8 : Prop} (a0 : A0) (a1 : A1) (a2 : A2) (a3 : A3) (a4 : A4) (a5 : A5) (a6 : A6) (a7 : A7) (a8 : A8) : A0 ∧ A1 ∧ A2 ∧ A3 ∧ A4 ∧ A5 ∧ A6 ∧ A7 ∧ A8 ∧ True := ⟨a0, a1, a2, a3, a4, a5, a6, a7, a8, trivial⟩
theorem qs10 {A0 A1 A2 A3 A4 A5 A6 A7 A8 A9 : Prop} (a0 : A0) (a1 : A1) (a2 : A2) (a3 : A3) (a4 : A4) (a5 : A5) (a6 : A6) (a7 : A7) (a8 : A8) (a9 : A9) : A0 ∧ A1 ∧ A2 ∧ A3 ∧ A4 ∧ A5 ∧ A6 ∧ A7 ∧ A8 ∧ A9 ∧ True := ⟨a0, a1, a2, a3, a4, a5, a6, a7, a8, a9, trivial⟩
theorem qs11 {A0 A1 A2 A3 A4 A5 A6 A7 A8 A9 A10 : Prop} (a0 : A0) (a1 : A1) (a2 : A2) (a3 : A3) (a4 : A4) (a5 : A5) (a6 : A6) (a7 : A7) (a8 : A8) (a9 : A9) (a10 : A10) : A0 ∧ A1 ∧ A2 ∧ A3 ∧ A4 ∧ A5 ∧ A6 ∧ A7 ∧ A8 ∧ A9 ∧ A10 ∧ True := ⟨a0, a1, a2, a3, a4, a5, a6, a7, a8, a9, a10, trivial⟩
theorem qs12 {A0 A1 A2 A3 A4 A5 A6 A7 A8 A9 A10 A11 : Prop} (a0 : A0) (a1 : A1) (a2 : A2) (a3 : A3) (a4 : A4) (a5 : A5) (a6 : A6) (a7 : A7) (a8 : A8) (a9 : A9) (a10 : A10) (a11 : A11) : A0 ∧ A1 ∧ A2 ∧ A3 ∧ A4 ∧ A5 ∧ A6 ∧ A7 ∧ A8 ∧ A9 ∧ A10 ∧ A11 ∧ True := ⟨a0, a1, a2, a3, a4, a5, a6, a7, a8, a9, a10, a11, trivial⟩
theorem qs13 {A0 A1 A2 A3 A4 A5 A6 A7 A8 A9 A10 A11 A12 : Prop} (a0 : A0) (a1 : A1) (a2 : A2) (a3 : A3) (a4 : A4) (a5 : A5) (a6 : A6) (a7 : A7) (a8 : A8) (a9 : A9) (a10 : A10) (a11 : A11) (a12 : A12) : A0 ∧ A1 ∧ A2 ∧ A3 ∧ A4 ∧ A5 ∧ A6 ∧ A7 ∧ A8 ∧ A9 ∧ A10 ∧ A11 ∧ A12 ∧ True := ⟨a0, a1, a2, a3, a4, a5, a6, a7, a8, a9, a10, a11, a12, trivial⟩
theorem qs14 {A0 A1 A2 A3 A4 A5 A6 A7 A8 A9 A10 A11 A12 A13 : Prop} (a0 : A0) (a1 : A1) (a2 : A2) (a3 : A3) (a4 : A4) (a5 : A5) (a6 : A6) (a7 : A7) (a8 : A8) (a9 : A9) (a10 : A10) (a11 : A11) (a12 : A12) (a13 : A13) : A0 ∧ A1 ∧ A2 ∧ A3 ∧ A4 ∧ A5 ∧ A6 ∧ A7 ∧ A8 ∧ A9 ∧ A10 ∧ A11 ∧ A12 ∧ A13 ∧ True := ⟨a0, a1, a2, a3, a4, a5, a6, a7, a8, a9, a10, a11, a12, a13, trivial⟩
theorem qs15 {A0 A1 A2 A3 A4 A5 A6 A7 A8 A9 A10 A11 A12 A13 A14 : Prop} (a0 : A0) (a1 : A1) (a2 : A2) (a3 : A3) (a4 : A4) (a5 : A5) (a6 : A6) (a7 : A7) (a8 : A8) (a9 : A9) (a10 : A10) (a11 : A11) (a12 : A12) (a13 : A13) (a14 : A14) : A0 ∧ A1 ∧ A2 ∧ A3 ∧ A4 ∧ A5 ∧ A6 ∧ A7 ∧ A8 ∧ A9 ∧ A10 ∧ A11 ∧ A12 ∧ A13 ∧ A14 ∧ True := ⟨a0, a1, a2, a3, a4, a5, a6, a7, a8, a9, a10, a11, a12, a13, a14, trivial⟩
theorem qs16 {A0 A1 A2 A3 A4 A5 A6 A7 A8 A9 A10 A11 A12 A13 A14 A15 : Prop} (a0 : A0) (a1 : A1) (a2 : A2) (a3 : A3) (a4 : A4) (a5 : A5) (a6 : A6) (a7 : A7) (a8 : A8) (a9 : A9) (a10 : A10) (a11 : A11) (a12 : A12) (a13 : A13) (a14 : A14) (a15 : A15) : A0 ∧ A1 ∧ A2 ∧ A3 ∧ A4 ∧ A5 ∧ A6 ∧ A7 ∧ A8 ∧ A9 ∧ A10 ∧ A11 ∧ A12 ∧ A13 ∧ A14 ∧ A15 ∧ True := ⟨a0, a1, a2, a3, a4, a5, a6, a7, a8, a9, a10, a11, a12, a13, a14, a15, trivial⟩
theorem qs17 {A0 A1 A2 A3 A4 A5 A6 A7 A8 A9 A10 A11 A12 A13 A14 A15 A16 : Prop} (a0 : A0) (a1 : A1) (a2 : A2) (a3 : A3) (a4 : A4) (a5 : A5) (a6 : A6) (a7 : A7) (a8 : A8) (a9 : A9) (a10 : A10) (a11 : A11) (a12 : A12) (a13 : A13) (a14 : A14) (a15 : A15) (a16 : A16) : A0 ∧ A1 ∧ A2 ∧ A3 ∧ A4 ∧ A5 ∧ A6 ∧ A7 ∧ A8 ∧ A9 ∧ A10 ∧ A11 ∧ A12 ∧ A13 ∧ A14 ∧ A15 ∧ A16 ∧ True := ⟨a0, a1, a2, a3, a4, a5, a6, a7, a8, a9, a10, a11, a12, a13, a14, a15, a16, trivial⟩
theorem qs18 {A0 A1 A2 A3 A4 A5 A6 A7 A8 A9 A10 A11 A12 A13 A14 A15 A16 A17 : Prop} (a0 : A0) (a1 : A1) (a2 : A2) (a3 : A3) (a4 : A4) (a5 : A5) (a6 : A6) (a7 : A7) (a8 : A8) (a9 : A9) (a10 : A10) (a11 : A11) (a12 : A12) (a13 : A13) (a14 : A14) (a15 : A15) (a16 : A16) (a17 : A17) : A0 ∧ A1 ∧ A2 ∧ A3 ∧ A4 ∧ A5 ∧ A6 ∧ A7 ∧ A8 ∧ A9 ∧ A10 ∧ A11 ∧ A12 ∧ A13 ∧ A14 ∧ A15 ∧ A16 ∧ A17 ∧ True := ⟨a0, a1, a2, a3, a4, a5, a6, a7, a8, a9, a10, a11, a12, a13, a14, a15, a16, a17, trivial⟩
theorem qs19 {A0 A1 A2 A3 A4 A5 A6 A7 A8 A9 A10 A11 A12 A13 A14 A15 A16 A17 A18 : Prop} (a0 : A0) (a1 : A1) (a2 : A2) (a3 : A3) (a4 : A4) (a5 : A5) (a6 : A6) (a7 : A7) (a8 : A8) (a9 : A9) (a10 : A10) (a11 : A11) (a12 : A12) (a13 : A13) (a14 : A14) (a15 : A15) (a16 : A16) (a17 : A17) (a18 : A18) : A0 ∧ A1 ∧ A2 ∧ A3 ∧ A4 ∧ A5 ∧ A6 ∧ A7 ∧ A8 ∧ A9 ∧ A10 ∧ A11 ∧ A12 ∧ A13 ∧ A14 ∧ A15 ∧ A16 ∧ A17 ∧ A18 ∧ True := ⟨a0, a1, a2, a3, a4, a5, a6, a7, a8, a9, a10, a11, a12, a13, a14, a15, a16, a17, a18, trivial⟩
theorem qs20 {A0 A1 A2 A3 A4 A5 A6 A7 A8 A9 A10 A11 A12 A13 A14 A15 A16 A17 A18 A19 : Prop} (a0 : A0) (a1 : A1) (a2 : A2) (a3 : A3) (a4 : A4) (a5 : A5) (a6 : A6) (a7 : A7) (a8 : A8) (a9 : A9) (a10 : A10) (a11 : A11) (a12 : A12) (a13 : A13) (a14 : A14) (a15 : A15) (a16 : A16) (a17 : A17) (a18 : A18) (a19 : A19) : A0 ∧ A1 ∧ A2 ∧ A3 ∧ A4 ∧ A5 ∧ A6 ∧ A7 ∧ A8 ∧ A9 ∧ A10 ∧ A11 ∧ A12 ∧ A13 ∧ A14 ∧ A15 ∧ A16 ∧ A17 ∧ A18 ∧ A19 ∧ True := ⟨a0, a1, a2, a3, a4, a5, a6, a7, a8, a9, a10, a11, a12, a13, a14, a15, a16, a17, a18, a19, trivial⟩
theorem qs21 {A0 A1 A2 A3 A4 A5 A6 A7 A8 A9 A10 A11 A12 A13 A14 A15 A16 A17 A18 A19 A20 : Prop} (a0 : A0) (a1 : A1) (a2 : A2) (a3 : A3) (a4 : A4) (a5 : A5) (a6 : A6) (a7 : A7) (a8 : A8) (a9 : A9) (a10 : A10) (a11 : A11) (a12 : A12) (a13 : A13) (a14 : A14) (a15 : A15) (a16 : A16) (a17 : A17) (a18 : A18) (a19 : A19) (a20 : A20) : A0 ∧ A1 ∧ A2 ∧ A3 ∧ A4 ∧ A5 ∧ A6 ∧ A7 ∧ A8 ∧ A9 ∧ A10 ∧ A11 ∧ A12 ∧ A13 ∧ A14 ∧ A15 ∧ A16 ∧ A17 ∧ A18 ∧ A19 ∧ A20 ∧ True := ⟨a0, a1, a2, a3, a4, a5, a6, a7, a8, a9, a10, a11, a12, a13, a14, a15, a16, a17, a18, a19, a20, trivial⟩
theorem qs22 {A0 A1 A2 A3 A4 A5 A6 A7 A8 A9 A10 A11 A12 A13 A14 A15 A16 A17 A18 A19 A20 A21 : Prop} (a0 : A0) (a1 : A1) (a2 : A2) (a3 : A3) (a4 : A4) (a5 : A5) (a6 : A6) (a7 : A7) (a8 : A8) (a9 : A9) (a10 : A10) (a11 : A11) (a12 : A12) (a13 : A13) (a14 : A14) (a15 : A15) (a16 : A16) (a17 : A17) (a18 : A18) (a19 : A19) (a20 : A20) (a21 : A21) : A0 ∧ A1 ∧ A2 ∧ A3 ∧ A4 ∧ A5 ∧ A6 ∧ A7 ∧ A8 ∧ A9 ∧ A10 ∧ A11 ∧ A12 ∧ A13 ∧ A14 ∧ A15 ∧ A16 ∧ A17 ∧ A18 ∧ A19 ∧ A20 ∧ A21 ∧ True := ⟨a0, a1, a2, a3, a4, a5, a6, a7, a8, a9, a10, a11, a12, a13, a14, a15, a16, a17, a18, a19, a20, a21, trivial⟩
theorem qs23 {A0 A1 A2 A3 A4 A5 A6 A7 A8 A9 A10 A11 A12 A13 A14 A15 A16 A17 A18 A19 A20 A21 A22 : Prop} (a0 : A0) (a1 : A1) (a2 : A2) (a3 : A3) (a4 : A4) (a5 : A5) (a6 : A6) (a7 : A7) (a8 : A8) (a9 : A9) (a10 : A10) (a11 : A11) (a12 : A12) (a13 : A13) (a14 : A14) (a15 : A15) (a16 : A16) (a17 : A17) (a18 : A18) (a19 : A19) (a20 : A20) (a21 : A21) (a22 : A22) : A0 ∧ A1 ∧ A2 ∧ A3 ∧ A4 ∧ A5 ∧ A6 ∧ A7 ∧ A8 ∧ A9 ∧ A10 ∧ A11 ∧ A12 ∧ A13 ∧ A14 ∧ A15 ∧ A16 ∧ A17 ∧ A18 ∧ A19 ∧ A20 ∧ A21 ∧ A22 ∧ True := ⟨a0, a1, a2, a3, a4, a5, a6, a7, a8, a9, a10, a11, a12, a13, a14, a15, a16, a17, a18, a19, a20, a21, a22, trivial⟩
theorem qs24 {A0 A1 A2 A3 A4 A5 A6 A7 A8 A9 A10 A11 A12 A13 A14 A15 A16 A17 A18 A19 A20 A21 A22 A23 : Prop} (a0 : A0) (a1 : A1) (a2 : A2) (a3 : A3) (a4 : A4) (a5 : A5) (a6 : A6) (a7 : A7) (a8 : A8) (a9 : A9) (a10 : A10) (a11 : A11) (a12 : A12) (a13 : A13) (a14 : A14) (a15 : A15) (a16 : A16) (a17 : A17) (a18 : A18) (a19 : A19) (a20 : A20) (a21 : A21) (a22 : A22) (a23 : A23) : A0 ∧ A1 ∧ A2 ∧ A3 ∧ A4 ∧ A5 ∧ A6 ∧ A7 ∧ A8 ∧ A9 ∧ A10 ∧ A11 ∧ A12 ∧ A13 ∧ A14 ∧ A15 ∧ A16 ∧ A17 ∧ A18 ∧ A19 ∧ A20 ∧ A21 ∧ A22 ∧ A23 ∧ True := ⟨a0, a1, a2, a3, a4, a5, a6, a7, a8, a9, a10, a11, a12, a13, a14, a15, a16, a17, a18, a19, a20, a21, a22, a23, trivial⟩

/-- Each argument reads behind a call that touches nothing as it read before. -/
theorem trodAll_below {H : Type} {enc : TypeId × Value → H} {W W' : World} (hl : laidOutB P = true) (hb : Below W.heap.size W W') :
    ∀ {ts : List TypeId} {vs : List Value} {ds : List (DataW H)} {ps : List MemPlace}, ts.all (fun t => P.readableRec t && decide (t < P.types.size)) = true → DataW.TrodAll enc P W 0 (fun _ => true) true ts vs ds ps →
      DataW.TrodAll enc P W' 0 (fun b => decide (b < W.heap.size)) true ts vs ds ps := by
  intro ts
  induction ts with
  | nil =>
    intro vs ds ps _ h
    obtain ⟨rfl, rfl, rfl⟩ := trodAll_nil h
    exact trodAll_mk0
  | cons t ts ih =>
    intro vs ds ps ha h
    obtain ⟨v, vs', d, ds', p, q, rfl, rfl, rfl, h1, h2⟩ := trodAll_cons h
    simp only [List.all_cons, Bool.and_eq_true, decide_eq_true_eq] at ha
    refine trodAll_cons_mk (Below.trod hl ha.1.1 ha.1.2 h1 hb ?_) (ih (by simpa using ha.2) h2)
    obtain ⟨m, hm⟩ := h1
    exact DataW.trod_lt m _ _ _ hm
theorem arg_int {H : Type} {enc : TypeId × Value → H} {W : World} {base b0 : Nat} {spare : Nat → Bool} {held : Bool} {r : Reach} {t : TypeId} {k : IntKind} {v : Value} {d : DataW H} {ps : List MemPlace} (ht : P.underlying t = some (.int k)) (hval : Value.okWide P W r b0 t v) (hd : DataW.Trod enc P W base spare held t v d ps) :
    ∃ n, v = .int k n ∧ (Lit.int k n).wf = true := by
  obtain ⟨n, h1, _, _, h2⟩ := open_int ht hval hd
  exact ⟨n, h1, h2⟩
theorem arg_ints2 {H : Type} {enc : TypeId × Value → H} {W : World} {base b0 : Nat} {spare : Nat → Bool} {held : Bool} {r : Reach} {t : TypeId} {f0 f1 : Field} {k : IntKind} {v : Value} {d : DataW H} {ps : List MemPlace} (hs : P.underlying t = some (.struct #[f0, f1])) (hone : Go.Deep.oneCellFields P #[f0, f1] = true) (hC : P.cellsOf t = 2)
    (h0 : P.underlying f0.type = some (.int k)) (h1 : P.underlying f1.type = some (.int k)) (hv : Value.okWide P W r b0 t v) (hd : DataW.Trod enc P W base spare held t v d ps) :
    ∃ a b, v = .agg #[.int k a, .int k b] ∧ (Lit.int k a).wf = true ∧ (Lit.int k b).wf = true := by
  obtain ⟨v0, v1, y0, y1, n, rfl, _, _, t0, t1⟩ := Go.Joins.open_agg2 hs hone hC hv hd
  obtain ⟨a, e0, _, w0⟩ := DataW.trod_int h0 t0
  obtain ⟨b, e1, _, w1⟩ := DataW.trod_int h1 t1
  cases e0; cases e1
  exact ⟨a, b, rfl, w0, w1⟩
theorem arg_ints3 {H : Type} {enc : TypeId × Value → H} {W : World} {base b0 : Nat} {spare : Nat → Bool} {held : Bool} {r : Reach} {t : TypeId} {f0 f1 f2 : Field} {k : IntKind} {v : Value} {d : DataW H} {ps : List MemPlace} (hs : P.underlying t = some (.struct #[f0, f1, f2])) (hone : Go.Deep.oneCellFields P #[f0, f1, f2] = true) (hC : P.cellsOf t = 3)
    (h0 : P.underlying f0.type = some (.int k)) (h1 : P.underlying f1.type = some (.int k)) (h2 : P.underlying f2.type = some (.int k)) (hv : Value.okWide P W r b0 t v) (hd : DataW.Trod enc P W base spare held t v d ps) :
    ∃ a b c, v = .agg #[.int k a, .int k b, .int k c] ∧ (Lit.int k a).wf = true ∧ (Lit.int k b).wf = true ∧ (Lit.int k c).wf = true := by
  obtain ⟨v0, v1, v2, y0, y1, y2, n, rfl, _, _, t0, t1, t2⟩ := Go.Joins.open_agg3 hs hone hC hv hd
  obtain ⟨a, e0, _, w0⟩ := DataW.trod_int h0 t0
  obtain ⟨b, e1, _, w1⟩ := DataW.trod_int h1 t1
  obtain ⟨c, e2, _, w2⟩ := DataW.trod_int h2 t2
  cases e0; cases e1; cases e2
  exact ⟨a, b, c, rfl, w0, w1, w2⟩
end
end Go.Ev
