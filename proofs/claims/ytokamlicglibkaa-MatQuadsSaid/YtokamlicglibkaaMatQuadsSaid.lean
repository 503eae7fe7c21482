/-
  MatQuads: the square forms of the sum and the difference of two points (each coordinate taken below 2^40) add up to twice those of the points; for every matrix and all points, without a condition.
-/
import Derived.Test.YtokamlicglibkaaMatQuads
namespace Go.Proofs.Ytokamlicglibkaa.W
open Go Go.Ev Go.Wide
open Go.ChangeShapes Go.WideShapes Go.ChangeAt Go.RowKit Go.Joins

theorem matQuads_own : ownKnob Try.prog.godebug = none := by kernel_rfl
theorem matQuads_laidOut : laidOutB Try.prog = true := by kernel_rfl
set_option maxRecDepth 100000 in
theorem matQuads_lifted (os : Os) (started : os.Started) (H : Type) (enc : TypeId × Value → H) :
    ReturnsInHanded {} Try.checked os 9 .any (Rows.matQuadsSpec.pre6 enc Try.prog Try.f9 Rows.matQuadsRow.domain false) (Rows.matQuadsSpec.post enc Try.prog Try.f9 false true false false) := by
  refine returnsInHanded_of_change (C := Try.checked) matQuads_own started (by kernel_rfl) Try.func9
    (ChangeSpec.witness6 (enc := enc) (C := Try.checked) false ⟨#[], #[.agg #[.int .i64 0, .int .i64 0, .int .i64 0], .agg #[.int .i64 0, .int .i64 0], .agg #[.int .i64 0, .int .i64 0]], []⟩ 8 (by kernel_rfl) (by kernel_rfl) (by kernel_rfl) (by kernel_rfl)) ?_
  intro W base args ds gs before hval0 hW hcnd _
  have hval : ∀ (j : Nat) t v, Try.f9.params[j]? = some t → args[j]? = some v → Value.okWide Try.prog W .any base t v := hval0
  have hW' := hW
  obtain ⟨p, q, hA0, hV, rfl, hfz, hnd⟩ := hW
  have hA : DataW.TrodAll enc Try.prog W 0 (fun _ => true) true Try.f9.params.toList args.toList ds p := hA0
  rw [Try.params9] at hA hval
  obtain ⟨v0, vs0, d0, ds0, p0, q0, hargs, rfl, rfl, h0, r0⟩ := trodAll_cons hA
  obtain ⟨v1, vs1, d1, ds1, p1, q1, rfl, rfl, rfl, h1, r1⟩ := trodAll_cons r0
  obtain ⟨v2, vs2, d2, ds2, p2, q2, rfl, rfl, rfl, h2, r2⟩ := trodAll_cons r1
  obtain ⟨rfl, rfl, rfl⟩ := trodAll_nil r2
  obtain rfl : args = #[v0, v1, v2] := by cases args; simp_all
  obtain ⟨rfl, rfl⟩ := trodVars_none hV
  obtain ⟨a, b, d, rfl, w0a, w0b, w0c⟩ := arg_ints3 (k := .i64) Try.underlying23 (by kernel_rfl) (by kernel_rfl) Try.underlying2 Try.underlying2 Try.underlying2 (hval 0 23 v0 rfl rfl) h0
  obtain ⟨x, y, rfl, w1a, w1b⟩ := arg_ints2 (k := .i64) Try.underlying25 (by kernel_rfl) (by kernel_rfl) Try.underlying2 Try.underlying2 (hval 1 25 v1 rfl rfl) h1
  obtain ⟨u, v, rfl, w2a, w2b⟩ := arg_ints2 (k := .i64) Try.underlying25 (by kernel_rfl) (by kernel_rfl) Try.underlying2 Try.underlying2 (hval 2 25 v2 rfl rfl) h2
  refine ((matQuads_pc (x := x) (y := y) (u := u) (v := v) (bounds_i64 w0a) (bounds_i64 w0b) (bounds_i64 w0c)) W).mono fun e W' ⟨he, bel⟩ => ?_
  subst he
  exact ⟨_, rfl, _, _, _, [], _, [], hW', trodAll_mk1 (shut_bool Try.underlying4 _), trodAll_below matQuads_laidOut bel (by kernel_rfl) hA0, rfl, bel.frame _, fun h => by cases h⟩
theorem matQuads_holds : Rows.MatQuadsSaid :=
  OpenClaim.holds_of_wide 9 Try.f9 rfl rfl rfl rfl rfl rfl rfl ⟨rfl, rfl, rfl, rfl, rfl⟩ rfl rfl rfl rfl rfl (by kernel_rfl) Try.func9 (by kernel_rfl)
    (of_decide_eq_true (by kernel_rfl)) (by unfold Func.isWrapper; first | (rw [if_pos (by decide +kernel)]; kernel_rfl) | (rw [if_neg (by decide +kernel)]; exact ⟨rfl, rfl⟩))
    (fun os started H enc _ => matQuads_lifted os started H enc)
#print axioms matQuads_holds
end Go.Proofs.Ytokamlicglibkaa.W
