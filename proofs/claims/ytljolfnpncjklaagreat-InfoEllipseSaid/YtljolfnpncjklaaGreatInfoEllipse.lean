/-
  InfoEllipse: an inequality of seven numbers of up to a hundred bits as an ellipse: the program's and the reference's.
-/
import Derived.Test.YtljolfnpncjklaaGreatNumR
import Derived.Test.YtljolfnpncjklaaGreatTokJ
namespace Go.Proofs.YtljolfnpncjklaaGreat.R
open Go Go.Ev Go.W32
open Go.Proofs.YtljolfnpncjklaaGreat.W (mixed WF wv wR wz wzC infoC infoV ell ellT Sm I64 Low ellI_qc ellI_form Inq ellQ ellQ_form awakeI ell_refl absN)

def zwC : List Value := List.replicate 16 (Value.int .u64 0) ++ [.bool false, .bool false]
def zrC : List Value := [.bool false, .bool false, .slice none 0 0]
def rawC (L0 : List Int) (k0 : Int) (L1 : List Int) (k1 : Int) (L2 : List Int) (k2 : Int) (L3 : List Int) (k3 : Int) (L4 : List Int) (k4 : Int) (L5 : List Int) (k5 : Int) (L6 : List Int) (k6 : Int) : List Value := numC L0 k0 ++ (numC L1 k1 ++ (numC L2 k2 ++ (numC L3 k3 ++ (numC L4 k4 ++ (numC L5 k5 ++ numC L6 k6)))))
def ieP (n : Nat) : Value := .pointer (some ⟨n, 0, none⟩)
def ieS (R : List Value) (I J : List Value) (i : Nat) : St :=
  ⟨slots 108 [(1, ieP 0), (2, .bool false), (3, ieP 1), (4, ieP 2), (27, .agg R.toArray), (28, .int .i64 i)], [⟨R, 26, true⟩, ⟨I, 33, true⟩, ⟨J, 38, true⟩]⟩
def ieR (R : List Value) (I J : List Value) : St :=
  ⟨slots 108 [(2, .bool true)], [⟨R, 26, true⟩, ⟨I, 33, true⟩, ⟨J, 38, true⟩]⟩
def ieL : List Nat := [1, 2, 3, 4, 27, 28]
theorem gt_no {b : Nat} (h : b ≤ 100) : Value.bool (decide ((b : Int) > 100)) = .bool false := by rw [decide_eq_false (by omega)]
theorem gt_yes {b : Nat} (h : ¬ b ≤ 100) : Value.bool (decide ((b : Int) > 100)) = .bool true := by rw [decide_eq_true (by omega)]
def ieI0 : List Value := zwC ++ zwC ++ zwC ++ zwC ++ zwC ++ zwC ++ zwC
def ieJ0 : List Value := zrC ++ (zrC ++ (zrC ++ (zrC ++ (zrC ++ (zrC ++ (zrC))))))
def ieI1 (z0 : Int) : List Value := wzC z0 ++ zwC ++ zwC ++ zwC ++ zwC ++ zwC ++ zwC
def ieJ1 (z0 : Int) : List Value := rzC z0 ++ (zrC ++ (zrC ++ (zrC ++ (zrC ++ (zrC ++ (zrC))))))
def ieI2 (z0 z1 : Int) : List Value := wzC z0 ++ wzC z1 ++ zwC ++ zwC ++ zwC ++ zwC ++ zwC
def ieJ2 (z0 z1 : Int) : List Value := rzC z0 ++ (rzC z1 ++ (zrC ++ (zrC ++ (zrC ++ (zrC ++ (zrC))))))
def ieI3 (z0 z1 z2 : Int) : List Value := wzC z0 ++ wzC z1 ++ wzC z2 ++ zwC ++ zwC ++ zwC ++ zwC
def ieJ3 (z0 z1 z2 : Int) : List Value := rzC z0 ++ (rzC z1 ++ (rzC z2 ++ (zrC ++ (zrC ++ (zrC ++ (zrC))))))
def ieI4 (z0 z1 z2 z3 : Int) : List Value := wzC z0 ++ wzC z1 ++ wzC z2 ++ wzC z3 ++ zwC ++ zwC ++ zwC
def ieJ4 (z0 z1 z2 z3 : Int) : List Value := rzC z0 ++ (rzC z1 ++ (rzC z2 ++ (rzC z3 ++ (zrC ++ (zrC ++ (zrC))))))
def ieI5 (z0 z1 z2 z3 z4 : Int) : List Value := wzC z0 ++ wzC z1 ++ wzC z2 ++ wzC z3 ++ wzC z4 ++ zwC ++ zwC
def ieJ5 (z0 z1 z2 z3 z4 : Int) : List Value := rzC z0 ++ (rzC z1 ++ (rzC z2 ++ (rzC z3 ++ (rzC z4 ++ (zrC ++ (zrC))))))
def ieI6 (z0 z1 z2 z3 z4 z5 : Int) : List Value := wzC z0 ++ wzC z1 ++ wzC z2 ++ wzC z3 ++ wzC z4 ++ wzC z5 ++ zwC
def ieJ6 (z0 z1 z2 z3 z4 z5 : Int) : List Value := rzC z0 ++ (rzC z1 ++ (rzC z2 ++ (rzC z3 ++ (rzC z4 ++ (rzC z5 ++ (zrC))))))
def ieI7 (z0 z1 z2 z3 z4 z5 z6 : Int) : List Value := wzC z0 ++ wzC z1 ++ wzC z2 ++ wzC z3 ++ wzC z4 ++ wzC z5 ++ wzC z6
def ieJ7 (z0 z1 z2 z3 z4 z5 z6 : Int) : List Value := rzC z0 ++ (rzC z1 ++ (rzC z2 ++ (rzC z3 ++ (rzC z4 ++ (rzC z5 ++ (rzC z6))))))
theorem ie_ok0 {L0 : List Int} {k0 : Int} {L1 : List Int} {k1 : Int} {L2 : List Int} {k2 : Int} {L3 : List Int} {k3 : Int} {L4 : List Int} {k4 : Int} {L5 : List Int} {k5 : Int} {L6 : List Int} {k6 : Int} {z0 : Int} {b : Nat} (h1 : MC Tryz.prog 4 [numT L0 k0] [] (numOut (some z0)) []) (h2 : MC Tryz.prog 5 [rz z0] [] (.int .i64 b) []) (h3 : b ≤ 100) :
    Tri Tryz.prog (loopN Tryz.f3 0) (ieS (rawC L0 k0 L1 k1 L2 k2 L3 k3 L4 k4 L5 k5 L6 k6) (ieI0 ) (ieJ0 ) 0) (to .normal (ieS (rawC L0 k0 L1 k1 L2 k2 L3 k3 L4 k4 L5 k5 L6 k6) (ieI1 z0) (ieJ1 z0) 1)) :=
  Tri.runK mixed ieL 3 [.ab (numOut (some z0)), .ab (.int .i64 b), .is 1 (.bool false)] ts0 (qs3 h1 h2 (gt_no h3)) (by kernel_rfl)
theorem ie_big0 {L0 : List Int} {k0 : Int} {L1 : List Int} {k1 : Int} {L2 : List Int} {k2 : Int} {L3 : List Int} {k3 : Int} {L4 : List Int} {k4 : Int} {L5 : List Int} {k5 : Int} {L6 : List Int} {k6 : Int} {z0 : Int} {b : Nat} (h1 : MC Tryz.prog 4 [numT L0 k0] [] (numOut (some z0)) []) (h2 : MC Tryz.prog 5 [rz z0] [] (.int .i64 b) []) (h3 : ¬ b ≤ 100) :
    Tri Tryz.prog (loopN Tryz.f3 0) (ieS (rawC L0 k0 L1 k1 L2 k2 L3 k3 L4 k4 L5 k5 L6 k6) (ieI0 ) (ieJ0 ) 0) (to .ret (ieR (rawC L0 k0 L1 k1 L2 k2 L3 k3 L4 k4 L5 k5 L6 k6) (ieI0 ) (ieJ0 ))) :=
  Tri.runK mixed [2] 3 [.ab (numOut (some z0)), .ab (.int .i64 b), .is 1 (.bool true), .res (.bool true)] ts0 (qs4 h1 h2 (gt_yes h3) awakeI) (by kernel_rfl)
theorem ie_over0 {L0 : List Int} {k0 : Int} {L1 : List Int} {k1 : Int} {L2 : List Int} {k2 : Int} {L3 : List Int} {k3 : Int} {L4 : List Int} {k4 : Int} {L5 : List Int} {k5 : Int} {L6 : List Int} {k6 : Int} (h1 : MC Tryz.prog 4 [numT L0 k0] [] (numOut none) []) :
    Tri Tryz.prog (loopN Tryz.f3 0) (ieS (rawC L0 k0 L1 k1 L2 k2 L3 k3 L4 k4 L5 k5 L6 k6) (ieI0 ) (ieJ0 ) 0) (to .ret (ieR (rawC L0 k0 L1 k1 L2 k2 L3 k3 L4 k4 L5 k5 L6 k6) (ieI0 ) (ieJ0 ))) :=
  Tri.runK mixed [2] 3 [.ab (numOut none), .res (.bool true)] ts0 (qs2 h1 awakeI) (by kernel_rfl)
theorem ie_ok1 {L0 : List Int} {k0 : Int} {L1 : List Int} {k1 : Int} {L2 : List Int} {k2 : Int} {L3 : List Int} {k3 : Int} {L4 : List Int} {k4 : Int} {L5 : List Int} {k5 : Int} {L6 : List Int} {k6 : Int} {z0 : Int} {z1 : Int} {b : Nat} (h1 : MC Tryz.prog 4 [numT L1 k1] [] (numOut (some z1)) []) (h2 : MC Tryz.prog 5 [rz z1] [] (.int .i64 b) []) (h3 : b ≤ 100) :
    Tri Tryz.prog (loopN Tryz.f3 0) (ieS (rawC L0 k0 L1 k1 L2 k2 L3 k3 L4 k4 L5 k5 L6 k6) (ieI1 z0) (ieJ1 z0) 1) (to .normal (ieS (rawC L0 k0 L1 k1 L2 k2 L3 k3 L4 k4 L5 k5 L6 k6) (ieI2 z0 z1) (ieJ2 z0 z1) 2)) :=
  Tri.runK mixed ieL 3 [.ab (numOut (some z1)), .ab (.int .i64 b), .is 1 (.bool false)] ts0 (qs3 h1 h2 (gt_no h3)) (by kernel_rfl)
theorem ie_big1 {L0 : List Int} {k0 : Int} {L1 : List Int} {k1 : Int} {L2 : List Int} {k2 : Int} {L3 : List Int} {k3 : Int} {L4 : List Int} {k4 : Int} {L5 : List Int} {k5 : Int} {L6 : List Int} {k6 : Int} {z0 : Int} {z1 : Int} {b : Nat} (h1 : MC Tryz.prog 4 [numT L1 k1] [] (numOut (some z1)) []) (h2 : MC Tryz.prog 5 [rz z1] [] (.int .i64 b) []) (h3 : ¬ b ≤ 100) :
    Tri Tryz.prog (loopN Tryz.f3 0) (ieS (rawC L0 k0 L1 k1 L2 k2 L3 k3 L4 k4 L5 k5 L6 k6) (ieI1 z0) (ieJ1 z0) 1) (to .ret (ieR (rawC L0 k0 L1 k1 L2 k2 L3 k3 L4 k4 L5 k5 L6 k6) (ieI1 z0) (ieJ1 z0))) :=
  Tri.runK mixed [2] 3 [.ab (numOut (some z1)), .ab (.int .i64 b), .is 1 (.bool true), .res (.bool true)] ts0 (qs4 h1 h2 (gt_yes h3) awakeI) (by kernel_rfl)
theorem ie_over1 {L0 : List Int} {k0 : Int} {L1 : List Int} {k1 : Int} {L2 : List Int} {k2 : Int} {L3 : List Int} {k3 : Int} {L4 : List Int} {k4 : Int} {L5 : List Int} {k5 : Int} {L6 : List Int} {k6 : Int} {z0 : Int} (h1 : MC Tryz.prog 4 [numT L1 k1] [] (numOut none) []) :
    Tri Tryz.prog (loopN Tryz.f3 0) (ieS (rawC L0 k0 L1 k1 L2 k2 L3 k3 L4 k4 L5 k5 L6 k6) (ieI1 z0) (ieJ1 z0) 1) (to .ret (ieR (rawC L0 k0 L1 k1 L2 k2 L3 k3 L4 k4 L5 k5 L6 k6) (ieI1 z0) (ieJ1 z0))) :=
  Tri.runK mixed [2] 3 [.ab (numOut none), .res (.bool true)] ts0 (qs2 h1 awakeI) (by kernel_rfl)
theorem ie_ok2 {L0 : List Int} {k0 : Int} {L1 : List Int} {k1 : Int} {L2 : List Int} {k2 : Int} {L3 : List Int} {k3 : Int} {L4 : List Int} {k4 : Int} {L5 : List Int} {k5 : Int} {L6 : List Int} {k6 : Int} {z0 z1 : Int} {z2 : Int} {b : Nat} (h1 : MC Tryz.prog 4 [numT L2 k2] [] (numOut (some z2)) []) (h2 : MC Tryz.prog 5 [rz z2] [] (.int .i64 b) []) (h3 : b ≤ 100) :
    Tri Tryz.prog (loopN Tryz.f3 0) (ieS (rawC L0 k0 L1 k1 L2 k2 L3 k3 L4 k4 L5 k5 L6 k6) (ieI2 z0 z1) (ieJ2 z0 z1) 2) (to .normal (ieS (rawC L0 k0 L1 k1 L2 k2 L3 k3 L4 k4 L5 k5 L6 k6) (ieI3 z0 z1 z2) (ieJ3 z0 z1 z2) 3)) :=
  Tri.runK mixed ieL 3 [.ab (numOut (some z2)), .ab (.int .i64 b), .is 1 (.bool false)] ts0 (qs3 h1 h2 (gt_no h3)) (by kernel_rfl)
theorem ie_big2 {L0 : List Int} {k0 : Int} {L1 : List Int} {k1 : Int} {L2 : List Int} {k2 : Int} {L3 : List Int} {k3 : Int} {L4 : List Int} {k4 : Int} {L5 : List Int} {k5 : Int} {L6 : List Int} {k6 : Int} {z0 z1 : Int} {z2 : Int} {b : Nat} (h1 : MC Tryz.prog 4 [numT L2 k2] [] (numOut (some z2)) []) (h2 : MC Tryz.prog 5 [rz z2] [] (.int .i64 b) []) (h3 : ¬ b ≤ 100) :
    Tri Tryz.prog (loopN Tryz.f3 0) (ieS (rawC L0 k0 L1 k1 L2 k2 L3 k3 L4 k4 L5 k5 L6 k6) (ieI2 z0 z1) (ieJ2 z0 z1) 2) (to .ret (ieR (rawC L0 k0 L1 k1 L2 k2 L3 k3 L4 k4 L5 k5 L6 k6) (ieI2 z0 z1) (ieJ2 z0 z1))) :=
  Tri.runK mixed [2] 3 [.ab (numOut (some z2)), .ab (.int .i64 b), .is 1 (.bool true), .res (.bool true)] ts0 (qs4 h1 h2 (gt_yes h3) awakeI) (by kernel_rfl)
theorem ie_over2 {L0 : List Int} {k0 : Int} {L1 : List Int} {k1 : Int} {L2 : List Int} {k2 : Int} {L3 : List Int} {k3 : Int} {L4 : List Int} {k4 : Int} {L5 : List Int} {k5 : Int} {L6 : List Int} {k6 : Int} {z0 z1 : Int} (h1 : MC Tryz.prog 4 [numT L2 k2] [] (numOut none) []) :
    Tri Tryz.prog (loopN Tryz.f3 0) (ieS (rawC L0 k0 L1 k1 L2 k2 L3 k3 L4 k4 L5 k5 L6 k6) (ieI2 z0 z1) (ieJ2 z0 z1) 2) (to .ret (ieR (rawC L0 k0 L1 k1 L2 k2 L3 k3 L4 k4 L5 k5 L6 k6) (ieI2 z0 z1) (ieJ2 z0 z1))) :=
  Tri.runK mixed [2] 3 [.ab (numOut none), .res (.bool true)] ts0 (qs2 h1 awakeI) (by kernel_rfl)
theorem ie_ok3 {L0 : List Int} {k0 : Int} {L1 : List Int} {k1 : Int} {L2 : List Int} {k2 : Int} {L3 : List Int} {k3 : Int} {L4 : List Int} {k4 : Int} {L5 : List Int} {k5 : Int} {L6 : List Int} {k6 : Int} {z0 z1 z2 : Int} {z3 : Int} {b : Nat} (h1 : MC Tryz.prog 4 [numT L3 k3] [] (numOut (some z3)) []) (h2 : MC Tryz.prog 5 [rz z3] [] (.int .i64 b) []) (h3 : b ≤ 100) :
    Tri Tryz.prog (loopN Tryz.f3 0) (ieS (rawC L0 k0 L1 k1 L2 k2 L3 k3 L4 k4 L5 k5 L6 k6) (ieI3 z0 z1 z2) (ieJ3 z0 z1 z2) 3) (to .normal (ieS (rawC L0 k0 L1 k1 L2 k2 L3 k3 L4 k4 L5 k5 L6 k6) (ieI4 z0 z1 z2 z3) (ieJ4 z0 z1 z2 z3) 4)) :=
  Tri.runK mixed ieL 3 [.ab (numOut (some z3)), .ab (.int .i64 b), .is 1 (.bool false)] ts0 (qs3 h1 h2 (gt_no h3)) (by kernel_rfl)
theorem ie_big3 {L0 : List Int} {k0 : Int} {L1 : List Int} {k1 : Int} {L2 : List Int} {k2 : Int} {L3 : List Int} {k3 : Int} {L4 : List Int} {k4 : Int} {L5 : List Int} {k5 : Int} {L6 : List Int} {k6 : Int} {z0 z1 z2 : Int} {z3 : Int} {b : Nat} (h1 : MC Tryz.prog 4 [numT L3 k3] [] (numOut (some z3)) []) (h2 : MC Tryz.prog 5 [rz z3] [] (.int .i64 b) []) (h3 : ¬ b ≤ 100) :
    Tri Tryz.prog (loopN Tryz.f3 0) (ieS (rawC L0 k0 L1 k1 L2 k2 L3 k3 L4 k4 L5 k5 L6 k6) (ieI3 z0 z1 z2) (ieJ3 z0 z1 z2) 3) (to .ret (ieR (rawC L0 k0 L1 k1 L2 k2 L3 k3 L4 k4 L5 k5 L6 k6) (ieI3 z0 z1 z2) (ieJ3 z0 z1 z2))) :=
  Tri.runK mixed [2] 3 [.ab (numOut (some z3)), .ab (.int .i64 b), .is 1 (.bool true), .res (.bool true)] ts0 (qs4 h1 h2 (gt_yes h3) awakeI) (by kernel_rfl)
theorem ie_over3 {L0 : List Int} {k0 : Int} {L1 : List Int} {k1 : Int} {L2 : List Int} {k2 : Int} {L3 : List Int} {k3 : Int} {L4 : List Int} {k4 : Int} {L5 : List Int} {k5 : Int} {L6 : List Int} {k6 : Int} {z0 z1 z2 : Int} (h1 : MC Tryz.prog 4 [numT L3 k3] [] (numOut none) []) :
    Tri Tryz.prog (loopN Tryz.f3 0) (ieS (rawC L0 k0 L1 k1 L2 k2 L3 k3 L4 k4 L5 k5 L6 k6) (ieI3 z0 z1 z2) (ieJ3 z0 z1 z2) 3) (to .ret (ieR (rawC L0 k0 L1 k1 L2 k2 L3 k3 L4 k4 L5 k5 L6 k6) (ieI3 z0 z1 z2) (ieJ3 z0 z1 z2))) :=
  Tri.runK mixed [2] 3 [.ab (numOut none), .res (.bool true)] ts0 (qs2 h1 awakeI) (by kernel_rfl)
theorem ie_ok4 {L0 : List Int} {k0 : Int} {L1 : List Int} {k1 : Int} {L2 : List Int} {k2 : Int} {L3 : List Int} {k3 : Int} {L4 : List Int} {k4 : Int} {L5 : List Int} {k5 : Int} {L6 : List Int} {k6 : Int} {z0 z1 z2 z3 : Int} {z4 : Int} {b : Nat} (h1 : MC Tryz.prog 4 [numT L4 k4] [] (numOut (some z4)) []) (h2 : MC Tryz.prog 5 [rz z4] [] (.int .i64 b) []) (h3 : b ≤ 100) :
    Tri Tryz.prog (loopN Tryz.f3 0) (ieS (rawC L0 k0 L1 k1 L2 k2 L3 k3 L4 k4 L5 k5 L6 k6) (ieI4 z0 z1 z2 z3) (ieJ4 z0 z1 z2 z3) 4) (to .normal (ieS (rawC L0 k0 L1 k1 L2 k2 L3 k3 L4 k4 L5 k5 L6 k6) (ieI5 z0 z1 z2 z3 z4) (ieJ5 z0 z1 z2 z3 z4) 5)) :=
  Tri.runK mixed ieL 3 [.ab (numOut (some z4)), .ab (.int .i64 b), .is 1 (.bool false)] ts0 (qs3 h1 h2 (gt_no h3)) (by kernel_rfl)
theorem ie_big4 {L0 : List Int} {k0 : Int} {L1 : List Int} {k1 : Int} {L2 : List Int} {k2 : Int} {L3 : List Int} {k3 : Int} {L4 : List Int} {k4 : Int} {L5 : List Int} {k5 : Int} {L6 : List Int} {k6 : Int} {z0 z1 z2 z3 : Int} {z4 : Int} {b : Nat} (h1 : MC Tryz.prog 4 [numT L4 k4] [] (numOut (some z4)) []) (h2 : MC Tryz.prog 5 [rz z4] [] (.int .i64 b) []) (h3 : ¬ b ≤ 100) :
    Tri Tryz.prog (loopN Tryz.f3 0) (ieS (rawC L0 k0 L1 k1 L2 k2 L3 k3 L4 k4 L5 k5 L6 k6) (ieI4 z0 z1 z2 z3) (ieJ4 z0 z1 z2 z3) 4) (to .ret (ieR (rawC L0 k0 L1 k1 L2 k2 L3 k3 L4 k4 L5 k5 L6 k6) (ieI4 z0 z1 z2 z3) (ieJ4 z0 z1 z2 z3))) :=
  Tri.runK mixed [2] 3 [.ab (numOut (some z4)), .ab (.int .i64 b), .is 1 (.bool true), .res (.bool true)] ts0 (qs4 h1 h2 (gt_yes h3) awakeI) (by kernel_rfl)
theorem ie_over4 {L0 : List Int} {k0 : Int} {L1 : List Int} {k1 : Int} {L2 : List Int} {k2 : Int} {L3 : List Int} {k3 : Int} {L4 : List Int} {k4 : Int} {L5 : List Int} {k5 : Int} {L6 : List Int} {k6 : Int} {z0 z1 z2 z3 : Int} (h1 : MC Tryz.prog 4 [numT L4 k4] [] (numOut none) []) :
    Tri Tryz.prog (loopN Tryz.f3 0) (ieS (rawC L0 k0 L1 k1 L2 k2 L3 k3 L4 k4 L5 k5 L6 k6) (ieI4 z0 z1 z2 z3) (ieJ4 z0 z1 z2 z3) 4) (to .ret (ieR (rawC L0 k0 L1 k1 L2 k2 L3 k3 L4 k4 L5 k5 L6 k6) (ieI4 z0 z1 z2 z3) (ieJ4 z0 z1 z2 z3))) :=
  Tri.runK mixed [2] 3 [.ab (numOut none), .res (.bool true)] ts0 (qs2 h1 awakeI) (by kernel_rfl)
theorem ie_ok5 {L0 : List Int} {k0 : Int} {L1 : List Int} {k1 : Int} {L2 : List Int} {k2 : Int} {L3 : List Int} {k3 : Int} {L4 : List Int} {k4 : Int} {L5 : List Int} {k5 : Int} {L6 : List Int} {k6 : Int} {z0 z1 z2 z3 z4 : Int} {z5 : Int} {b : Nat} (h1 : MC Tryz.prog 4 [numT L5 k5] [] (numOut (some z5)) []) (h2 : MC Tryz.prog 5 [rz z5] [] (.int .i64 b) []) (h3 : b ≤ 100) :
    Tri Tryz.prog (loopN Tryz.f3 0) (ieS (rawC L0 k0 L1 k1 L2 k2 L3 k3 L4 k4 L5 k5 L6 k6) (ieI5 z0 z1 z2 z3 z4) (ieJ5 z0 z1 z2 z3 z4) 5) (to .normal (ieS (rawC L0 k0 L1 k1 L2 k2 L3 k3 L4 k4 L5 k5 L6 k6) (ieI6 z0 z1 z2 z3 z4 z5) (ieJ6 z0 z1 z2 z3 z4 z5) 6)) :=
  Tri.runK mixed ieL 3 [.ab (numOut (some z5)), .ab (.int .i64 b), .is 1 (.bool false)] ts0 (qs3 h1 h2 (gt_no h3)) (by kernel_rfl)
theorem ie_big5 {L0 : List Int} {k0 : Int} {L1 : List Int} {k1 : Int} {L2 : List Int} {k2 : Int} {L3 : List Int} {k3 : Int} {L4 : List Int} {k4 : Int} {L5 : List Int} {k5 : Int} {L6 : List Int} {k6 : Int} {z0 z1 z2 z3 z4 : Int} {z5 : Int} {b : Nat} (h1 : MC Tryz.prog 4 [numT L5 k5] [] (numOut (some z5)) []) (h2 : MC Tryz.prog 5 [rz z5] [] (.int .i64 b) []) (h3 : ¬ b ≤ 100) :
    Tri Tryz.prog (loopN Tryz.f3 0) (ieS (rawC L0 k0 L1 k1 L2 k2 L3 k3 L4 k4 L5 k5 L6 k6) (ieI5 z0 z1 z2 z3 z4) (ieJ5 z0 z1 z2 z3 z4) 5) (to .ret (ieR (rawC L0 k0 L1 k1 L2 k2 L3 k3 L4 k4 L5 k5 L6 k6) (ieI5 z0 z1 z2 z3 z4) (ieJ5 z0 z1 z2 z3 z4))) :=
  Tri.runK mixed [2] 3 [.ab (numOut (some z5)), .ab (.int .i64 b), .is 1 (.bool true), .res (.bool true)] ts0 (qs4 h1 h2 (gt_yes h3) awakeI) (by kernel_rfl)
theorem ie_over5 {L0 : List Int} {k0 : Int} {L1 : List Int} {k1 : Int} {L2 : List Int} {k2 : Int} {L3 : List Int} {k3 : Int} {L4 : List Int} {k4 : Int} {L5 : List Int} {k5 : Int} {L6 : List Int} {k6 : Int} {z0 z1 z2 z3 z4 : Int} (h1 : MC Tryz.prog 4 [numT L5 k5] [] (numOut none) []) :
    Tri Tryz.prog (loopN Tryz.f3 0) (ieS (rawC L0 k0 L1 k1 L2 k2 L3 k3 L4 k4 L5 k5 L6 k6) (ieI5 z0 z1 z2 z3 z4) (ieJ5 z0 z1 z2 z3 z4) 5) (to .ret (ieR (rawC L0 k0 L1 k1 L2 k2 L3 k3 L4 k4 L5 k5 L6 k6) (ieI5 z0 z1 z2 z3 z4) (ieJ5 z0 z1 z2 z3 z4))) :=
  Tri.runK mixed [2] 3 [.ab (numOut none), .res (.bool true)] ts0 (qs2 h1 awakeI) (by kernel_rfl)
theorem ie_ok6 {L0 : List Int} {k0 : Int} {L1 : List Int} {k1 : Int} {L2 : List Int} {k2 : Int} {L3 : List Int} {k3 : Int} {L4 : List Int} {k4 : Int} {L5 : List Int} {k5 : Int} {L6 : List Int} {k6 : Int} {z0 z1 z2 z3 z4 z5 : Int} {z6 : Int} {b : Nat} (h1 : MC Tryz.prog 4 [numT L6 k6] [] (numOut (some z6)) []) (h2 : MC Tryz.prog 5 [rz z6] [] (.int .i64 b) []) (h3 : b ≤ 100) :
    Tri Tryz.prog (loopN Tryz.f3 0) (ieS (rawC L0 k0 L1 k1 L2 k2 L3 k3 L4 k4 L5 k5 L6 k6) (ieI6 z0 z1 z2 z3 z4 z5) (ieJ6 z0 z1 z2 z3 z4 z5) 6) (to .normal (ieS (rawC L0 k0 L1 k1 L2 k2 L3 k3 L4 k4 L5 k5 L6 k6) (ieI7 z0 z1 z2 z3 z4 z5 z6) (ieJ7 z0 z1 z2 z3 z4 z5 z6) 7)) :=
  Tri.runK mixed ieL 3 [.ab (numOut (some z6)), .ab (.int .i64 b), .is 1 (.bool false)] ts0 (qs3 h1 h2 (gt_no h3)) (by kernel_rfl)
theorem ie_big6 {L0 : List Int} {k0 : Int} {L1 : List Int} {k1 : Int} {L2 : List Int} {k2 : Int} {L3 : List Int} {k3 : Int} {L4 : List Int} {k4 : Int} {L5 : List Int} {k5 : Int} {L6 : List Int} {k6 : Int} {z0 z1 z2 z3 z4 z5 : Int} {z6 : Int} {b : Nat} (h1 : MC Tryz.prog 4 [numT L6 k6] [] (numOut (some z6)) []) (h2 : MC Tryz.prog 5 [rz z6] [] (.int .i64 b) []) (h3 : ¬ b ≤ 100) :
    Tri Tryz.prog (loopN Tryz.f3 0) (ieS (rawC L0 k0 L1 k1 L2 k2 L3 k3 L4 k4 L5 k5 L6 k6) (ieI6 z0 z1 z2 z3 z4 z5) (ieJ6 z0 z1 z2 z3 z4 z5) 6) (to .ret (ieR (rawC L0 k0 L1 k1 L2 k2 L3 k3 L4 k4 L5 k5 L6 k6) (ieI6 z0 z1 z2 z3 z4 z5) (ieJ6 z0 z1 z2 z3 z4 z5))) :=
  Tri.runK mixed [2] 3 [.ab (numOut (some z6)), .ab (.int .i64 b), .is 1 (.bool true), .res (.bool true)] ts0 (qs4 h1 h2 (gt_yes h3) awakeI) (by kernel_rfl)
theorem ie_over6 {L0 : List Int} {k0 : Int} {L1 : List Int} {k1 : Int} {L2 : List Int} {k2 : Int} {L3 : List Int} {k3 : Int} {L4 : List Int} {k4 : Int} {L5 : List Int} {k5 : Int} {L6 : List Int} {k6 : Int} {z0 z1 z2 z3 z4 z5 : Int} (h1 : MC Tryz.prog 4 [numT L6 k6] [] (numOut none) []) :
    Tri Tryz.prog (loopN Tryz.f3 0) (ieS (rawC L0 k0 L1 k1 L2 k2 L3 k3 L4 k4 L5 k5 L6 k6) (ieI6 z0 z1 z2 z3 z4 z5) (ieJ6 z0 z1 z2 z3 z4 z5) 6) (to .ret (ieR (rawC L0 k0 L1 k1 L2 k2 L3 k3 L4 k4 L5 k5 L6 k6) (ieI6 z0 z1 z2 z3 z4 z5) (ieJ6 z0 z1 z2 z3 z4 z5))) :=
  Tri.runK mixed [2] 3 [.ab (numOut none), .res (.bool true)] ts0 (qs2 h1 awakeI) (by kernel_rfl)
theorem ie_end {L0 : List Int} {k0 : Int} {L1 : List Int} {k1 : Int} {L2 : List Int} {k2 : Int} {L3 : List Int} {k3 : Int} {L4 : List Int} {k4 : Int} {L5 : List Int} {k5 : Int} {L6 : List Int} {k6 : Int} {z0 z1 z2 z3 z4 z5 z6 : Int} : Tri Tryz.prog (loopN Tryz.f3 0) (ieS (rawC L0 k0 L1 k1 L2 k2 L3 k3 L4 k4 L5 k5 L6 k6) (ieI7 z0 z1 z2 z3 z4 z5 z6) (ieJ7 z0 z1 z2 z3 z4 z5 z6) 7) (to (.exit 0) (ieS (rawC L0 k0 L1 k1 L2 k2 L3 k3 L4 k4 L5 k5 L6 k6) (ieI7 z0 z1 z2 z3 z4 z5 z6) (ieJ7 z0 z1 z2 z3 z4 z5 z6) 7)) :=
  Tri.runK mixed ieL 3 [] ts0 qs0 (by kernel_rfl)
theorem TriL_nxt {P : Program} {c : Code} {S S1 : St} {Q : Exit → St → Prop} (h : Tri P c S (to .normal S1)) (h' : TriL P c S1 Q) : TriL P c S Q := TriL.step (h.mono fun e S2 => by
  rintro ⟨rfl, rfl⟩
  exact h')
theorem TriL_fin {P : Program} {c : Code} {S S1 : St} {e : Exit} (he : e ≠ .normal) (h : Tri P c S (to e S1)) : TriL P c S (to e S1) := TriL.count (fun _ => S) he 0 (fun i hi => absurd hi (Nat.not_lt_zero i)) h
theorem enters_infoE : ∀ us w, (callFunc 3 us).run Tryz.prog w = .ok (.enter 3 us) w := enters Tryz.func3 rfl (by kernel_rfl)
theorem ie_out {L0 : List Int} {k0 : Int} {L1 : List Int} {k1 : Int} {L2 : List Int} {k2 : Int} {L3 : List Int} {k3 : Int} {L4 : List Int} {k4 : Int} {L5 : List Int} {k5 : Int} {L6 : List Int} {k6 : Int} {I J : List Value} (h : TriL Tryz.prog (loopN Tryz.f3 0) (ieS (rawC L0 k0 L1 k1 L2 k2 L3 k3 L4 k4 L5 k5 L6 k6) ieI0 ieJ0 0) (to .ret (ieR (rawC L0 k0 L1 k1 L2 k2 L3 k3 L4 k4 L5 k5 L6 k6) I J))) : MC Tryz.prog 3 [.agg (rawC L0 k0 L1 k1 L2 k2 L3 k3 L4 k4 L5 k5 L6 k6).toArray] [] (.bool true) [] :=
  AC.runA mixed Tryz.func3 [.cut ieL .ret (ieR (rawC L0 k0 L1 k1 L2 k2 L3 k3 L4 k4 L5 k5 L6 k6) I J)] ts0 (qs1 h) rfl enters_infoE (by kernel_rfl)
theorem ie_all {L0 : List Int} {k0 : Int} {L1 : List Int} {k1 : Int} {L2 : List Int} {k2 : Int} {L3 : List Int} {k3 : Int} {L4 : List Int} {k4 : Int} {L5 : List Int} {k5 : Int} {L6 : List Int} {k6 : Int} {z0 z1 z2 z3 z4 z5 z6 : Int} {x y A B D : Int} {e : Nat} (h : TriL Tryz.prog (loopN Tryz.f3 0) (ieS (rawC L0 k0 L1 k1 L2 k2 L3 k3 L4 k4 L5 k5 L6 k6) ieI0 ieJ0 0) (to (.exit 0) (ieS (rawC L0 k0 L1 k1 L2 k2 L3 k3 L4 k4 L5 k5 L6 k6) (ieI7 z0 z1 z2 z3 z4 z5 z6) (ieJ7 z0 z1 z2 z3 z4 z5 z6) 7))) (h1 : QC Tryz.prog 7 [infoV z0 z1 z2 z3 z4 z5 z6] (ellT x y A B D e)) (h2 : MC Tryz.prog 8 [riV ⟨z0, z1, z2, z3, z4, z5, z6⟩] [] (ellT x y A B D e) []) :
    MC Tryz.prog 3 [.agg (rawC L0 k0 L1 k1 L2 k2 L3 k3 L4 k4 L5 k5 L6 k6).toArray] [] (.bool true) [] :=
  AC.runA mixed Tryz.func3 [.cut ieL (.exit 0) (ieS (rawC L0 k0 L1 k1 L2 k2 L3 k3 L4 k4 L5 k5 L6 k6) (ieI7 z0 z1 z2 z3 z4 z5 z6) (ieJ7 z0 z1 z2 z3 z4 z5 z6) 7), .res (ellT x y A B D e), .ab (ellT x y A B D e), .tst true, .tst true, .res (.bool true)] (ts2 (ell_refl x y A B D) (tT (rfl : (e : Int) = e))) (qs4 h h1 h2 awakeI) rfl enters_infoE (by kernel_rfl)
theorem sm_bits {z : Int} (h : bitLen z.natAbs ≤ 100) (k : Nat) (hk : 100 ≤ k) : Sm k z := (show Sm 100 z from Go.Proofs.YtljolfnpncjklaaGreat.W.bitLen_lt_iff.1 h).mono hk
theorem infoEllipse_mc {L0 : List Int} {k0 : Int} {L1 : List Int} {k1 : Int} {L2 : List Int} {k2 : Int} {L3 : List Int} {k3 : Int} {L4 : List Int} {k4 : Int} {L5 : List Int} {k5 : Int} {L6 : List Int} {k6 : Int} (h0 : numOk L0 k0) (h1 : numOk L1 k1) (h2 : numOk L2 k2) (h3 : numOk L3 k3) (h4 : numOk L4 k4) (h5 : numOk L5 k5) (h6 : numOk L6 k6) :
    MC Tryz.prog 3 [.agg (rawC L0 k0 L1 k1 L2 k2 L3 k3 L4 k4 L5 k5 L6 k6).toArray] [] (.bool true) [] := by
  have g0 := nOf_T (l := L0) (k := k0) (fun x hx => Go.bounds_i64 (h0.1 x hx)) (Go.bounds_i64 h0.2)
  have w0 := numA_wf L0 k0
  have g1 := nOf_T (l := L1) (k := k1) (fun x hx => Go.bounds_i64 (h1.1 x hx)) (Go.bounds_i64 h1.2)
  have w1 := numA_wf L1 k1
  have g2 := nOf_T (l := L2) (k := k2) (fun x hx => Go.bounds_i64 (h2.1 x hx)) (Go.bounds_i64 h2.2)
  have w2 := numA_wf L2 k2
  have g3 := nOf_T (l := L3) (k := k3) (fun x hx => Go.bounds_i64 (h3.1 x hx)) (Go.bounds_i64 h3.2)
  have w3 := numA_wf L3 k3
  have g4 := nOf_T (l := L4) (k := k4) (fun x hx => Go.bounds_i64 (h4.1 x hx)) (Go.bounds_i64 h4.2)
  have w4 := numA_wf L4 k4
  have g5 := nOf_T (l := L5) (k := k5) (fun x hx => Go.bounds_i64 (h5.1 x hx)) (Go.bounds_i64 h5.2)
  have w5 := numA_wf L5 k5
  have g6 := nOf_T (l := L6) (k := k6) (fun x hx => Go.bounds_i64 (h6.1 x hx)) (Go.bounds_i64 h6.2)
  have w6 := numA_wf L6 k6
  cases e0 : numA L0 k0 with
  | none =>
    rw [e0] at g0
    exact ie_out (TriL_fin (by simp) (ie_over0 g0))
  | some z0 =>
  rw [e0] at g0 w0
  have b0 := rBits_t w0
  by_cases c0 : bitLen (absN (some z0)) ≤ 100
  case neg => exact ie_out (TriL_fin (by simp) (ie_big0 g0 b0 c0))
  cases e1 : numA L1 k1 with
  | none =>
    rw [e1] at g1
    exact ie_out (TriL_nxt (ie_ok0 g0 b0 c0) (TriL_fin (by simp) (ie_over1 g1)))
  | some z1 =>
  rw [e1] at g1 w1
  have b1 := rBits_t w1
  by_cases c1 : bitLen (absN (some z1)) ≤ 100
  case neg => exact ie_out (TriL_nxt (ie_ok0 g0 b0 c0) (TriL_fin (by simp) (ie_big1 g1 b1 c1)))
  cases e2 : numA L2 k2 with
  | none =>
    rw [e2] at g2
    exact ie_out (TriL_nxt (ie_ok0 g0 b0 c0) (TriL_nxt (ie_ok1 g1 b1 c1) (TriL_fin (by simp) (ie_over2 g2))))
  | some z2 =>
  rw [e2] at g2 w2
  have b2 := rBits_t w2
  by_cases c2 : bitLen (absN (some z2)) ≤ 100
  case neg => exact ie_out (TriL_nxt (ie_ok0 g0 b0 c0) (TriL_nxt (ie_ok1 g1 b1 c1) (TriL_fin (by simp) (ie_big2 g2 b2 c2))))
  cases e3 : numA L3 k3 with
  | none =>
    rw [e3] at g3
    exact ie_out (TriL_nxt (ie_ok0 g0 b0 c0) (TriL_nxt (ie_ok1 g1 b1 c1) (TriL_nxt (ie_ok2 g2 b2 c2) (TriL_fin (by simp) (ie_over3 g3)))))
  | some z3 =>
  rw [e3] at g3 w3
  have b3 := rBits_t w3
  by_cases c3 : bitLen (absN (some z3)) ≤ 100
  case neg => exact ie_out (TriL_nxt (ie_ok0 g0 b0 c0) (TriL_nxt (ie_ok1 g1 b1 c1) (TriL_nxt (ie_ok2 g2 b2 c2) (TriL_fin (by simp) (ie_big3 g3 b3 c3)))))
  cases e4 : numA L4 k4 with
  | none =>
    rw [e4] at g4
    exact ie_out (TriL_nxt (ie_ok0 g0 b0 c0) (TriL_nxt (ie_ok1 g1 b1 c1) (TriL_nxt (ie_ok2 g2 b2 c2) (TriL_nxt (ie_ok3 g3 b3 c3) (TriL_fin (by simp) (ie_over4 g4))))))
  | some z4 =>
  rw [e4] at g4 w4
  have b4 := rBits_t w4
  by_cases c4 : bitLen (absN (some z4)) ≤ 100
  case neg => exact ie_out (TriL_nxt (ie_ok0 g0 b0 c0) (TriL_nxt (ie_ok1 g1 b1 c1) (TriL_nxt (ie_ok2 g2 b2 c2) (TriL_nxt (ie_ok3 g3 b3 c3) (TriL_fin (by simp) (ie_big4 g4 b4 c4))))))
  cases e5 : numA L5 k5 with
  | none =>
    rw [e5] at g5
    exact ie_out (TriL_nxt (ie_ok0 g0 b0 c0) (TriL_nxt (ie_ok1 g1 b1 c1) (TriL_nxt (ie_ok2 g2 b2 c2) (TriL_nxt (ie_ok3 g3 b3 c3) (TriL_nxt (ie_ok4 g4 b4 c4) (TriL_fin (by simp) (ie_over5 g5)))))))
  | some z5 =>
  rw [e5] at g5 w5
  have b5 := rBits_t w5
  by_cases c5 : bitLen (absN (some z5)) ≤ 100
  case neg => exact ie_out (TriL_nxt (ie_ok0 g0 b0 c0) (TriL_nxt (ie_ok1 g1 b1 c1) (TriL_nxt (ie_ok2 g2 b2 c2) (TriL_nxt (ie_ok3 g3 b3 c3) (TriL_nxt (ie_ok4 g4 b4 c4) (TriL_fin (by simp) (ie_big5 g5 b5 c5)))))))
  cases e6 : numA L6 k6 with
  | none =>
    rw [e6] at g6
    exact ie_out (TriL_nxt (ie_ok0 g0 b0 c0) (TriL_nxt (ie_ok1 g1 b1 c1) (TriL_nxt (ie_ok2 g2 b2 c2) (TriL_nxt (ie_ok3 g3 b3 c3) (TriL_nxt (ie_ok4 g4 b4 c4) (TriL_nxt (ie_ok5 g5 b5 c5) (TriL_fin (by simp) (ie_over6 g6))))))))
  | some z6 =>
  rw [e6] at g6 w6
  have b6 := rBits_t w6
  by_cases c6 : bitLen (absN (some z6)) ≤ 100
  case neg => exact ie_out (TriL_nxt (ie_ok0 g0 b0 c0) (TriL_nxt (ie_ok1 g1 b1 c1) (TriL_nxt (ie_ok2 g2 b2 c2) (TriL_nxt (ie_ok3 g3 b3 c3) (TriL_nxt (ie_ok4 g4 b4 c4) (TriL_nxt (ie_ok5 g5 b5 c5) (TriL_fin (by simp) (ie_big6 g6 b6 c6))))))))
  have low : Low z0 z1 z2 z3 z4 z5 z6 := ⟨sm_bits c0 170 (by omega), sm_bits c1 170 (by omega), sm_bits c2 170 (by omega), sm_bits c3 195 (by omega), sm_bits c4 195 (by omega), sm_bits c5 220 (by omega), sm_bits c6 220 (by omega)⟩
  obtain ⟨x, y, A, B, D, e, he⟩ := ellI_form z0 z1 z2 z3 z4 z5 z6
  have q1 := ellI_qc low
  have q2 := eEll_t (i := ⟨z0, z1, z2, z3, z4, z5, z6⟩) low
  rw [he] at q1
  rw [show ellQ ⟨z0, z1, z2, z3, z4, z5, z6⟩ = ellT x y A B D e from he] at q2
  exact ie_all (TriL_nxt (ie_ok0 g0 b0 c0) (TriL_nxt (ie_ok1 g1 b1 c1) (TriL_nxt (ie_ok2 g2 b2 c2) (TriL_nxt (ie_ok3 g3 b3 c3) (TriL_nxt (ie_ok4 g4 b4 c4) (TriL_nxt (ie_ok5 g5 b5 c5) (TriL_nxt (ie_ok6 g6 b6 c6) (TriL_fin (by simp) ie_end)))))))) q1 q2
end Go.Proofs.YtljolfnpncjklaaGreat.R
