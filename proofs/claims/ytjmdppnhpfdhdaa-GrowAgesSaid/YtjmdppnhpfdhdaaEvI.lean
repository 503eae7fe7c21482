/-
  Relative states, part I: calls that change the caller's memory; what they made themselves is left behind.
-/
import Derived.Test.YtjmdppnhpfdhdaaEvH
namespace Go.Ev
section
variable {P : Program}

def evFnM (P : Program) (fn : Func) (fuel : Nat) (args : List Value) (mem : Mem) (ans : List Ans) : Option (Bool × List Prop × Value × Mem) :=
  match evFn P fn fuel args mem ans with
  | some r => some (allB (r.ok :: noNew mem.length r.v :: (r.mem.take mem.length).map fun B => B.cells.all (noNew1 mem.length)), r.obs, r.v, r.mem.take mem.length)
  | none => none
theorem MC.of_ev (hm : P.follows .mixedOrders = true) {f : FuncId} {fn : Func} (hf : P.funcs[f]? = some fn) (fuel : Nat) {args : List Value} {mem mem' : Mem} (ans : List Ans) {ok : Bool} {obs : List Prop} {v : Value}
    (h : evFnM P fn fuel args mem ans = some (ok, obs, v, mem')) (hok : ok = true) (hobs : allP obs) (he : ∀ us w, (callFunc f us).run P w = .ok (.enter f us) w) : MC P f args mem v mem' := by
  unfold evFnM at h
  split at h
  · rename_i r hr
    cases h
    rw [allB_cons, allB_cons, Bool.and_eq_true, Bool.and_eq_true] at hok
    refine ⟨he, fun ρ w us hus hM => ?_⟩
    refine (CT.of_ev hm hf hr hok.1 (allP_iff hobs) ρ w us hus hM).mono ?_
    rintro e w' ⟨v', m, ρ', u, h1, ⟨rfl, rfl⟩, hu, hM', hmv⟩
    exact ⟨r.v, _, cutR mem.length ρ', u, h1, ⟨rfl, rfl⟩, VR_cut hu hok.2.1, hM'.drop fun B hB => allB_map hok.2.2 B hB, Mv.drop hM hmv (Nat.le_refl _)⟩
  · cases h
end
end Go.Ev
