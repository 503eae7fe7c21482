/-
  StripAgain: true distances to two other nodes, each used twice, never remove the true point and never make the trace greater; for all ellipses and points, without a condition.
-/
import Derived.Test.YtaibhjphgdjcmaaGreatStripAgain
namespace Go.Proofs.YtaibhjphgdjcmaaGreat.W
open Go Go.Ev Go.Wide
open Go.ChangeShapes Go.WideShapes Go.ChangeAt Go.RowKit Go.Joins

theorem stripAgain_own : ownKnob Tryz.prog.godebug = none := by kernel_rfl
theorem stripAgain_laidOut : laidOutB Tryz.prog = true := by kernel_rfl
set_option maxRecDepth 100000 in
theorem stripAgain_lifted (os : Os) (started : os.Started) (H : Type) (enc : TypeId × Value → H) :
    ReturnsInHanded {} Tryz.checked os 6 .any (Rows.stripAgainSpec.pre6 enc Tryz.prog Tryz.f6 Rows.stripAgainRow.domain false) (Rows.stripAgainSpec.post enc Tryz.prog Tryz.f6 false true false false) := by
  refine returnsInHanded_of_change (C := Tryz.checked) stripAgain_own started (by kernel_rfl) Tryz.func6
    (ChangeSpec.witness6 (enc := enc) (C := Tryz.checked) false ⟨#[], #[.agg #[.int .i64 0, .int .i64 0, .int .i64 0, .int .i64 0, .int .i64 0], .agg #[.int .i64 0, .int .i64 0, .int .i64 0, .int .i64 0, .int .i64 0], .agg #[.int .i64 0, .int .i64 0, .int .i64 0, .int .i64 0, .int .i64 0], .agg #[.int .i64 0, .int .i64 0], .agg #[.int .i64 0, .int .i64 0], .agg #[.int .i64 0, .int .i64 0], .int .i64 0], []⟩ 8 (by kernel_rfl) (by kernel_rfl) (by kernel_rfl) (by kernel_rfl)) ?_
  intro W base args ds gs before hval0 hW hcnd _
  have hval : ∀ (j : Nat) t v, Tryz.f6.params[j]? = some t → args[j]? = some v → Value.okWide Tryz.prog W .any base t v := hval0
  have hW' := hW
  obtain ⟨p, q, hA0, hV, rfl, hfz, hnd⟩ := hW
  have hA : DataW.TrodAll enc Tryz.prog W 0 (fun _ => true) true Tryz.f6.params.toList args.toList ds p := hA0
  rw [Tryz.params6] at hA hval
  obtain ⟨v0, vs0, d0, ds0, p0, q0, hargs, rfl, rfl, h0, r0⟩ := trodAll_cons hA
  obtain ⟨v1, vs1, d1, ds1, p1, q1, rfl, rfl, rfl, h1, r1⟩ := trodAll_cons r0
  obtain ⟨v2, vs2, d2, ds2, p2, q2, rfl, rfl, rfl, h2, r2⟩ := trodAll_cons r1
  obtain ⟨v3, vs3, d3, ds3, p3, q3, rfl, rfl, rfl, h3, r3⟩ := trodAll_cons r2
  obtain ⟨v4, vs4, d4, ds4, p4, q4, rfl, rfl, rfl, h4, r4⟩ := trodAll_cons r3
  obtain ⟨v5, vs5, d5, ds5, p5, q5, rfl, rfl, rfl, h5, r5⟩ := trodAll_cons r4
  obtain ⟨v6, vs6, d6, ds6, p6, q6, rfl, rfl, rfl, h6, r6⟩ := trodAll_cons r5
  obtain ⟨rfl, rfl, rfl⟩ := trodAll_nil r6
  obtain rfl : args = #[v0, v1, v2, v3, v4, v5, v6] := by cases args; simp_all
  obtain ⟨rfl, rfl⟩ := trodVars_none hV
  obtain ⟨x, y, a, b, d, rfl, w0a, w0b, w0c, w0d, w0e⟩ := arg_ell (k := .i64) Tryz.underlying27 (by kernel_rfl) (by kernel_rfl) (by kernel_rfl) (by kernel_rfl) (by kernel_rfl) Tryz.underlying23 (by kernel_rfl) Tryz.underlying25 (by kernel_rfl) Tryz.underlying2 Tryz.underlying2 Tryz.underlying2 Tryz.underlying2 Tryz.underlying2 (hval 0 27 v0 rfl rfl) h0
  obtain ⟨X, Y, A, B, D, rfl, w1a, w1b, w1c, w1d, w1e⟩ := arg_ell (k := .i64) Tryz.underlying27 (by kernel_rfl) (by kernel_rfl) (by kernel_rfl) (by kernel_rfl) (by kernel_rfl) Tryz.underlying23 (by kernel_rfl) Tryz.underlying25 (by kernel_rfl) Tryz.underlying2 Tryz.underlying2 Tryz.underlying2 Tryz.underlying2 Tryz.underlying2 (hval 1 27 v1 rfl rfl) h1
  obtain ⟨x3, y3, a3, b3, d3, rfl, w2a, w2b, w2c, w2d, w2e⟩ := arg_ell (k := .i64) Tryz.underlying27 (by kernel_rfl) (by kernel_rfl) (by kernel_rfl) (by kernel_rfl) (by kernel_rfl) Tryz.underlying23 (by kernel_rfl) Tryz.underlying25 (by kernel_rfl) Tryz.underlying2 Tryz.underlying2 Tryz.underlying2 Tryz.underlying2 Tryz.underlying2 (hval 2 27 v2 rfl rfl) h2
  obtain ⟨p, q, rfl, w3a, w3b⟩ := arg_ints2 (k := .i64) Tryz.underlying23 (by kernel_rfl) (by kernel_rfl) Tryz.underlying2 Tryz.underlying2 (hval 3 23 v3 rfl rfl) h3
  obtain ⟨u, v, rfl, w4a, w4b⟩ := arg_ints2 (k := .i64) Tryz.underlying23 (by kernel_rfl) (by kernel_rfl) Tryz.underlying2 Tryz.underlying2 (hval 4 23 v4 rfl rfl) h4
  obtain ⟨s, t, rfl, w5a, w5b⟩ := arg_ints2 (k := .i64) Tryz.underlying23 (by kernel_rfl) (by kernel_rfl) Tryz.underlying2 Tryz.underlying2 (hval 5 23 v5 rfl rfl) h5
  obtain ⟨wd, rfl, w6⟩ := arg_int Tryz.underlying2 (hval 6 2 v6 rfl rfl) h6
  refine ((stripAgain_pc (e := ⟨x, y, a, b, d⟩) (n := ⟨X, Y, A, B, D⟩) (m := ⟨x3, y3, a3, b3, d3⟩) ⟨bounds_i64 w0c, bounds_i64 w0d, bounds_i64 w0e⟩ ⟨bounds_i64 w1c, bounds_i64 w1d, bounds_i64 w1e⟩ ⟨bounds_i64 w2c, bounds_i64 w2d, bounds_i64 w2e⟩ p q u v s t wd) W).mono fun e W' ⟨he, bel⟩ => ?_
  subst he
  exact ⟨_, rfl, _, _, _, [], _, [], hW', trodAll_mk1 (shut_bool Tryz.underlying4 _), trodAll_below stripAgain_laidOut bel (by kernel_rfl) hA0, rfl, bel.frame _, fun h => by cases h⟩
theorem stripAgain_holds : Rows.StripAgainSaid :=
  OpenClaim.holds_of_wide 6 Tryz.f6 rfl rfl rfl rfl rfl rfl rfl ⟨rfl, rfl, rfl, rfl, rfl⟩ rfl rfl rfl rfl rfl (by kernel_rfl) Tryz.func6 (by kernel_rfl)
    (of_decide_eq_true (by kernel_rfl)) (by unfold Func.isWrapper; first | (rw [if_pos (by decide +kernel)]; kernel_rfl) | (rw [if_neg (by decide +kernel)]; exact ⟨rfl, rfl⟩))
    (fun os started H enc _ => stripAgain_lifted os started H enc)
#print axioms stripAgain_holds
end Go.Proofs.YtaibhjphgdjcmaaGreat.W
