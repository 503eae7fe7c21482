/-
  Relative states, part U: a function's body piece by piece: its first statements, and then the rest, from states that forget what is no longer needed.
-/
import Derived.Test.YtpbkkechkcalgaaEvS
namespace Go.Ev
section
variable {P : Program}
def takeS : Nat → Code → List Code
  | 0, _ => []
  | n + 1, .seq a b => a :: takeS n b
  | _ + 1, c => [c]
def dropS : Nat → Code → Code
  | 0, c => c
  | n + 1, .seq _ b => dropS n b
  | _ + 1, _ => .skip
def hasS : Nat → Code → Bool
  | 0, _ => true
  | n + 1, .seq _ b => hasS n b
  | _ + 1, _ => false
def bodyOf (fn : Func) : Code := match fn.body with | some c => c | none => .skip
def wpN (P : Program) : List Code → (Exit → Act → World → Prop) → Act → World → Prop
  | [], Q, a, w => Q .normal a w
  | c :: cs, Q, a, w => c.wp P (Exit.then (wpN P cs Q) Q) a w
theorem wpN_mono {Q Q' : Exit → Act → World → Prop} (hq : ∀ e a w, Q e a w → Q' e a w) : ∀ {cs : List Code} {a : Act} {w : World}, wpN P cs Q a w → wpN P cs Q' a w
  | [], _, _, h => hq _ _ _ h
  | _ :: _, _, _, h => wp_mono h fun e _ _ h' => by
    cases e with
    | normal => exact wpN_mono hq h'
    | _ => exact hq _ _ _ h'
def TriN (P : Program) (cs : List Code) (S : St) (Q : Exit → St → Prop) : Prop :=
  ∀ ρ a w, ARel ρ S a w → wpN P cs (fun e a' w' => ∃ S' ρ', Q e S' ∧ ARel ρ' S' a' w' ∧ Mv ρ S.mem w ρ' S'.mem w') a w
theorem TriN.cons {c : Code} {cs : List Code} {S S1 : St} {Q : Exit → St → Prop} (h : Tri P c S (to .normal S1)) (h' : TriN P cs S1 Q) : TriN P (c :: cs) S Q := by
  intro ρ a w hr
  refine wp_mono (h ρ a w hr) ?_
  rintro e a1 w1 ⟨S2, ρ1, ⟨h1, h2⟩, r1, m1⟩
  subst h1 h2
  refine wpN_mono ?_ (h' ρ1 a1 w1 r1)
  rintro e a2 w2 ⟨S2, ρ2, q2, r2, m2⟩
  exact ⟨S2, ρ2, q2, r2, m1.trans hr.mem m2⟩
theorem TriN.stop {c : Code} {cs : List Code} {S S1 : St} {x : Exit} (h : Tri P c S (to x S1)) (hx : x ≠ .normal) : TriN P (c :: cs) S (to x S1) := by
  intro ρ a w hr
  refine wp_mono (h ρ a w hr) ?_
  rintro e a1 w1 ⟨S2, ρ1, ⟨h1, h2⟩, r1, m1⟩
  subst h1 h2
  cases e with
  | normal => exact absurd rfl hx
  | _ => exact ⟨_, ρ1, ⟨rfl, rfl⟩, r1, m1⟩
theorem TriN.drop {cs : List Code} {S S1 : St} {e : Exit} (h : TriN P cs S (to e S1)) (live : List Nat) {n : Nat} (hn : S.mem.length ≤ n) (hk : allB (keepL n (maskD live n S1)) = true) : TriN P cs S (to e (maskD live n S1)) := by
  intro ρ a w hr
  refine wpN_mono ?_ (h ρ a w hr)
  rintro e' a' w' ⟨S', ρ', ⟨h1, h2⟩, r, m⟩
  subst h2
  rw [keepL, allB_append, Bool.and_eq_true] at hk
  refine ⟨_, cutR n ρ', ⟨h1, rfl⟩, ⟨?_, r.defers, r.mem.drop fun B hB => allB_map hk.2 B hB⟩, Mv.drop hr.mem m hn⟩
  exact PW_cut (p := noNew n) (fun _ _ => VR_cut) (maskT_rel r.tmps) (List.all_eq_true.2 fun v hv => allB_map hk.1 v hv)
theorem wpN_seq {Q Q' : Exit → Act → World → Prop} : ∀ {n : Nat} {c : Code} {a : Act} {w : World}, hasS n c = true → wpN P (takeS n c) Q a w → (∀ a w, Q .normal a w → (dropS n c).wp P Q' a w) → (∀ e a w, e ≠ .normal → Q e a w → Q' e a w) → c.wp P Q' a w
  | 0, _, _, _, _, h, h1, _ => h1 _ _ h
  | n + 1, c, a, w, hs, h, h1, h2 => by
    cases c with
    | seq x y =>
      refine wp_seq (wp_mono h ?_)
      intro e a1 w1 h'
      cases e with
      | normal => exact wpN_seq (n := n) hs h' h1 h2
      | _ => exact h2 _ _ _ (by simp) h'
    | _ => cases hs
/-- The first n statements, and the rest. -/
theorem Tri.segs (n : Nat) {c : Code} {S S1 : St} {Q : Exit → St → Prop} (hs : hasS n c = true) (h : TriN P (takeS n c) S (to .normal S1)) (h' : Tri P (dropS n c) S1 Q) : Tri P c S Q := by
  intro ρ a w hr
  refine wpN_seq hs (h ρ a w hr) ?_ ?_
  · rintro a1 w1 ⟨S2, ρ1, ⟨_, h2⟩, r1, m1⟩
    subst h2
    refine wp_mono (h' ρ1 a1 w1 r1) ?_
    rintro e a2 w2 ⟨S3, ρ2, q2, r2, m2⟩
    exact ⟨S3, ρ2, q2, r2, m1.trans hr.mem m2⟩
  · rintro e a1 w1 hne ⟨S2, ρ1, ⟨h1, _⟩, _⟩
    exact absurd h1 hne
/-- The first n statements end the function. -/
theorem Tri.segs_stop (n : Nat) {c : Code} {S S1 : St} {x : Exit} (hs : hasS n c = true) (hx : x ≠ .normal) (h : TriN P (takeS n c) S (to x S1)) : Tri P c S (to x S1) := by
  intro ρ a w hr
  refine wpN_seq hs (h ρ a w hr) ?_ ?_
  · rintro a1 w1 ⟨S2, ρ1, ⟨h1, _⟩, _⟩
    exact absurd h1.symm hx
  · intro e a1 w1 _ h1
    exact h1
def evN (P : Program) (fuel : Nat) : List Code → St → List Ans → Option Res
  | [], S, ans => some ⟨[], [], .normal, S, ans⟩
  | c :: cs, S, ans => match evC P fuel c S ans with
    | some r => match r.e with
      | .normal => match evN P fuel cs r.S r.ans with
        | some r2 => some (r.and r2)
        | none => none
      | _ => some r
    | none => none
theorem evN_sound (hm : P.follows .mixedOrders = true) (fuel : Nat) : ∀ (cs : List Code) (S : St) (ans : List Ans) (r : Res), evN P fuel cs S ans = some r → allB r.ok = true → (∀ p ∈ r.obs, p) → TriN P cs S (to r.e r.S)
  | [], S, ans, r, h, _, _ => by
    cases h
    exact fun ρ a w hr => ⟨S, ρ, ⟨rfl, rfl⟩, hr, .refl _ _ _⟩
  | c :: cs, S, ans, r, h, hok, hobs => by
    unfold evN at h
    split at h
    · rename_i r1 h1
      split at h
      · rename_i he
        split at h
        · rename_i r2 h2
          cases h
          simp only [Res.and, allB_append, Bool.and_eq_true] at hok
          have o1 : ∀ p ∈ r1.obs, p := fun p hp => hobs p (by simp [Res.and, hp])
          have o2 : ∀ p ∈ r2.obs, p := fun p hp => hobs p (by simp [Res.and, hp])
          have t1 := (evC_sound hm _ _ _ _ _ h1 hok.1 o1).1
          have t1' : Tri P c S (to .normal r1.S) := by
            have : r1.Q = to r1.e r1.S := rfl
            rw [this, he] at t1
            exact t1
          exact TriN.cons t1' (evN_sound hm fuel cs r1.S r1.ans r2 h2 hok.2 o2)
        · cases h
      · rename_i hne
        cases h
        exact TriN.stop (evC_sound hm _ _ _ _ _ h1 hok hobs).1 (fun e => hne e)
    · cases h
def evN4 (P : Program) (cs : List Code) (fuel : Nat) (live : List Nat) (n : Nat) (S : St) (ans : List Ans) : Option (Bool × Prop × Exit × St) :=
  match evN P fuel cs S ans with
  | some r => some (allB (r.ok ++ (decide (S.mem.length ≤ n) :: keepL n (maskD live n r.S))), allP r.obs, r.e, maskD live n r.S)
  | none => none
theorem TriN.run (hm : P.follows .mixedOrders = true) {cs : List Code} (live : List Nat) (n : Nat) (ans : List Ans) {S S' : St} {x : Exit} {X : Bool} {A : Prop} (hx : X = true) (ha : A) (e : evN4 P cs 400 live n S ans = some (X, A, x, S')) : TriN P cs S (to x S') := by
  unfold evN4 at e
  split at e
  · rename_i r hr
    cases e
    rw [allB_append, allB_cons, Bool.and_eq_true, Bool.and_eq_true, decide_eq_true_eq] at hx
    exact TriN.drop (evN_sound hm _ _ _ _ _ hr hx.1 (allP_iff ha)) live hx.2.1 hx.2.2
  · cases e
/-- The body's end, and what the function returns. -/
theorem PC.of_body {f : FuncId} {fn : Func} {c : Code} (hf : P.funcs[f]? = some fn) (hb : fn.body = some c) {args : List Value} {S : St} {x : Exit} {v : Value} (ha : args.all flat = true) (h : Tri P c ⟨args ++ List.replicate (fn.ntmps - args.length) undef, []⟩ (to x S)) (hx : Exit.isEnd x = true) (hr : resOf P fn S = some (true, v)) (hv : flat v = true) : PC P f args v := by
  refine PC.of_ct ha hv ?_
  intro ρ w us hus hM
  refine (CT.of_tri hf hb (Q := fun v' _ => v' = v) (h.mono ?_) ρ w us hus hM).mono fun e w' ⟨v', m, ρ', u, h1, h2, h3⟩ => ⟨v', m, ρ', u, h1, h2, h3⟩
  rintro e S1 ⟨rfl, rfl⟩
  exact ⟨hx, v, hr, rfl⟩
end
end Go.Ev
