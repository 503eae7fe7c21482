/-
  Relative states, part T: an argument that is a struct of a struct of two integers and one of three, opened.
-/
import Derived.Test.YtjmdppnhpfdhdaaEvS
namespace Go.Ev
open Go.ChangeShapes Go.WideShapes Go.ChangeAt Go.RowKit Go.Joins Go.Deep
section
variable {P : Program}
theorem array5 {α : Type} {cs : Array α} (h : cs.size = 5) : ∃ c0 c1 c2 c3 c4, cs = #[c0, c1, c2, c3, c4] := by
  obtain ⟨l⟩ := cs
  match l, h with
  | [c0, c1, c2, c3, c4], _ => exact ⟨c0, c1, c2, c3, c4, rfl⟩
theorem arg_ell {H : Type} {enc : TypeId × Value → H} {W : World} {base b0 : Nat} {spare : Nat → Bool} {held : Bool} {r : Reach} {t : TypeId} {f0 f1 g0 g1 k0 k1 k2 : Field} {k : IntKind} {v : Value} {d : DataW H} {ps : List MemPlace} (hs : P.underlying t = some (.struct #[f0, f1])) (hC : P.cellsOf t = 5)
    (o0 : f0.offset = 0) (c0 : P.cellsOf f0.type = 2) (o1 : f1.offset = 2) (c1 : P.cellsOf f1.type = 3) (hp : P.underlying f0.type = some (.struct #[g0, g1])) (hone0 : Go.Deep.oneCellFields P #[g0, g1] = true) (hm : P.underlying f1.type = some (.struct #[k0, k1, k2])) (hone1 : Go.Deep.oneCellFields P #[k0, k1, k2] = true)
    (e0 : P.underlying g0.type = some (.int k)) (e1 : P.underlying g1.type = some (.int k)) (e2 : P.underlying k0.type = some (.int k)) (e3 : P.underlying k1.type = some (.int k)) (e4 : P.underlying k2.type = some (.int k)) (hv : Value.okWide P W r b0 t v) (hd : DataW.Trod enc P W base spare held t v d ps) :
    ∃ x y a b c, v = .agg #[.int k x, .int k y, .int k a, .int k b, .int k c] ∧ (Lit.int k x).wf = true ∧ (Lit.int k y).wf = true ∧ (Lit.int k a).wf = true ∧ (Lit.int k b).wf = true ∧ (Lit.int k c).wf = true := by
  obtain ⟨cs, rfl, hsz⟩ := okWide_struct hs hv
  obtain ⟨v0, v1, v2, v3, v4, rfl⟩ := array5 (hsz.trans hC)
  obtain ⟨fuel, hf⟩ := hd
  obtain ⟨y0, y1, n, hx, _, h0, h1⟩ := trod_struct2 hs hf
  have h0' : DataW.trod enc P W base spare held n f0.type [v0, v1] = some y0 := by simpa [Value.cells, o0, c0] using h0
  have h1' : DataW.trod enc P W base spare held n f1.type [v2, v3, v4] = some y1 := by simpa [Value.cells, o1, c1] using h1
  obtain ⟨z0, z1, n2, _, _, i0, i1⟩ := trod_struct2 hp h0'
  obtain ⟨z2, z3, z4, n3, _, _, i2, i3, i4⟩ := trod_struct3 hm h1'
  obtain ⟨p0, q0⟩ := hone_of hone0 0 g0 rfl
  obtain ⟨p1, q1⟩ := hone_of hone0 1 g1 rfl
  obtain ⟨p2, q2⟩ := hone_of hone1 0 k0 rfl
  obtain ⟨p3, q3⟩ := hone_of hone1 1 k1 rfl
  obtain ⟨p4, q4⟩ := hone_of hone1 2 k2 rfl
  have i0' : DataW.trod enc P W base spare held n2 g0.type [v0] = some z0 := by simpa [p0, q0] using i0
  have i1' : DataW.trod enc P W base spare held n2 g1.type [v1] = some z1 := by simpa [p1, q1] using i1
  have i2' : DataW.trod enc P W base spare held n3 k0.type [v2] = some z2 := by simpa [p2, q2] using i2
  have i3' : DataW.trod enc P W base spare held n3 k1.type [v3] = some z3 := by simpa [p3, q3] using i3
  have i4' : DataW.trod enc P W base spare held n3 k2.type [v4] = some z4 := by simpa [p4, q4] using i4
  obtain ⟨x, j0, _, w0⟩ := DataW.trod_int e0 i0'
  obtain ⟨y, j1, _, w1⟩ := DataW.trod_int e1 i1'
  obtain ⟨a, j2, _, w2⟩ := DataW.trod_int e2 i2'
  obtain ⟨b, j3, _, w3⟩ := DataW.trod_int e3 i3'
  obtain ⟨c, j4, _, w4⟩ := DataW.trod_int e4 i4'
  cases j0; cases j1; cases j2; cases j3; cases j4
  exact ⟨x, y, a, b, c, rfl, w0, w1, w2, w3, w4⟩
end
end Go.Ev
