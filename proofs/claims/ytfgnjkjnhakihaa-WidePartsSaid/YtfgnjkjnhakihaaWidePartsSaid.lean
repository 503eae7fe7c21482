/-
  WideParts: quotients and roots, and the errors that stand for them, are as the document says; for all numbers, without a condition.
-/
import Derived.Test.YtfgnjkjnhakihaaWideParts
namespace Go.Proofs.Ytfgnjkjnhakihaa.W
open Go Go.Ev Go.Wide
open Go.ChangeShapes Go.WideShapes Go.ChangeAt Go.RowKit Go.Joins

theorem wideParts_own : ownKnob Try.prog.godebug = none := by kernel_rfl
theorem wideParts_laidOut : laidOutB Try.prog = true := by kernel_rfl
set_option maxRecDepth 100000 in
theorem wideParts_lifted (os : Os) (started : os.Started) (H : Type) (enc : TypeId × Value → H) :
    ReturnsInHanded {} Try.checked os 5 .any (Rows.widePartsSpec.pre6 enc Try.prog Try.f5 Rows.widePartsRow.domain false) (Rows.widePartsSpec.post enc Try.prog Try.f5 false true false false) := by
  refine returnsInHanded_of_change (C := Try.checked) wideParts_own started (by kernel_rfl) Try.func5
    (ChangeSpec.witness6 (enc := enc) (C := Try.checked) false ⟨#[], #[.agg #[.slice none 0 0, .int .i64 0], .agg #[.slice none 0 0, .int .i64 0]], []⟩ 8 (by kernel_rfl) (by kernel_rfl) (by kernel_rfl) (by kernel_rfl)) ?_
  intro W base args ds gs before hval0 hW hcnd _
  have hval : ∀ (j : Nat) t v, Try.f5.params[j]? = some t → args[j]? = some v → Value.okWide Try.prog W .any base t v := hval0
  have hW' := hW
  obtain ⟨p, q, hA0, hV, rfl, hfz, hnd⟩ := hW
  have hA : DataW.TrodAll enc Try.prog W 0 (fun _ => true) true Try.f5.params.toList args.toList ds p := hA0
  rw [Try.params5] at hA hval
  obtain ⟨v0, vs0, d0, ds0, p0, q0, hargs, rfl, rfl, h0, r0⟩ := trodAll_cons hA
  obtain ⟨v1, vs1, d1, ds1, p1, q1, rfl, rfl, rfl, h1, r1⟩ := trodAll_cons r0
  obtain ⟨rfl, rfl, rfl⟩ := trodAll_nil r1
  obtain rfl : args = #[v0, v1] := by cases args; simp_all
  obtain ⟨rfl, rfl⟩ := trodVars_none hV
  obtain ⟨l0, c0, k0, A0, wl0, wk0, len0, lies0, vr0⟩ := arg_num Try.underlying24 (by kernel_rfl) (by kernel_rfl) Try.underlying22 (by kernel_rfl) Try.underlying2 Try.underlying3 (hval 0 24 v0 rfl rfl) h0
  obtain ⟨l1, c1, k1, A1, wl1, wk1, len1, lies1, vr1⟩ := arg_num Try.underlying24 (by kernel_rfl) (by kernel_rfl) Try.underlying22 (by kernel_rfl) Try.underlying2 Try.underlying3 (hval 1 24 v1 rfl rfl) h1
  refine (MC.below (R.wideParts_mc (fun x hx => bounds_i64 (wl0 x hx)) (bounds_i64 wk0) (fun x hx => bounds_i64 (wl1 x hx)) (bounds_i64 wk1)) (fun B hB => by rcases List.mem_map.1 (show B ∈ [l0, l1].map (intB 2) from hB) with ⟨_, _, rfl⟩; rfl) rfl (ρ := renL [A0, A1]) (w := W) (PW.cons (vr0 _ 0 rfl) <| PW.cons (vr1 _ 1 rfl) <| PW.nil) (MRel.ints (PW.cons lies0 <| PW.cons lies1 <| PW.nil))).mono fun e W' ⟨he, bel⟩ => ?_
  subst he
  exact ⟨_, rfl, _, _, _, [], _, [], hW', trodAll_mk1 (shut_bool Try.underlying4 _), trodAll_below wideParts_laidOut bel (by kernel_rfl) hA0, rfl, bel.frame _, fun h => by cases h⟩
theorem wideParts_holds : Rows.WidePartsSaid :=
  OpenClaim.holds_of_wide 5 Try.f5 rfl rfl rfl rfl rfl rfl rfl ⟨rfl, rfl, rfl, rfl, rfl⟩ rfl rfl rfl rfl rfl (by kernel_rfl) Try.func5 (by kernel_rfl)
    (of_decide_eq_true (by kernel_rfl)) (by unfold Func.isWrapper; first | (rw [if_pos (by decide +kernel)]; kernel_rfl) | (rw [if_neg (by decide +kernel)]; exact ⟨rfl, rfl⟩))
    (fun os started H enc _ => wideParts_lifted os started H enc)
#print axioms wideParts_holds
end Go.Proofs.Ytfgnjkjnhakihaa.W
