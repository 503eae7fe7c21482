/-
  Relative states, part J: of what a call made, some blocks are kept, and numbered anew.
-/
import Derived.Test.YtjmdppnhpfdhdaaEvI
namespace Go.Ev

/-- Where k stands in a list, counted from i. -/
def posOf : List Nat → Nat → Nat → Option Nat
  | [], _, _ => none
  | x :: l, i, k => match Nat.beq x k with | true => some i | false => posOf l (i + 1) k
theorem posOf_spec : ∀ {l : List Nat} {i k p : Nat}, posOf l i k = some p → ∃ q, p = i + q ∧ l[q]? = some k
  | [], _, _, _, h => by cases h
  | x :: l, i, k, p, h => by
    unfold posOf at h
    split at h
    · rename_i hx
      cases h
      exact ⟨0, rfl, by rw [Nat.eq_of_beq_eq_true hx]; rfl⟩
    · obtain ⟨q, rfl, hq⟩ := posOf_spec h
      exact ⟨q + 1, by omega, hq⟩
def reR (keep : List Nat) (ρ : Ren) : Ren := fun k => match keep[k]? with | some k0 => ρ k0 | none => none
theorem reR_some {keep : List Nat} {ρ : Ren} {k : Nat} {x : Nat × Nat} : reR keep ρ k = some x ↔ ∃ k0, keep[k]? = some k0 ∧ ρ k0 = some x := by
  unfold reR
  cases h : keep[k]? with
  | none => exact ⟨fun e => (by cases e), fun ⟨_, e, _⟩ => (by cases e)⟩
  | some k0 => exact ⟨fun e => ⟨k0, rfl, e⟩, fun ⟨_, e, r⟩ => (by cases e; exact r)⟩
def reV1 (keep : List Nat) : Value → Option Value
  | .pointer (some ⟨k, off, sp⟩) => match posOf keep 0 k with | some p => some (.pointer (some ⟨p, off, sp⟩)) | none => none
  | .slice (some ⟨k, off, sp⟩) l c => match posOf keep 0 k with | some p => some (.slice (some ⟨p, off, sp⟩) l c) | none => none
  | v => some v
def reL (keep : List Nat) : List Value → Option (List Value)
  | [] => some []
  | v :: l => match reV1 keep v, reL keep l with | some v', some l' => some (v' :: l') | _, _ => none
def reV2 (keep : List Nat) : Value → Option Value
  | .agg cs => match reL keep cs.toList with | some l => some (.agg l.toArray) | none => none
  | v => reV1 keep v
def reL2 (keep : List Nat) : List Value → Option (List Value)
  | [] => some []
  | v :: l => match reV2 keep v, reL2 keep l with | some v', some l' => some (v' :: l') | _, _ => none
def reV (keep : List Nat) : Value → Option Value
  | .tuple vs => match isWild vs.toList with
    | true => none
    | false => match reL2 keep vs.toList with | some l => some (.tuple l.toArray) | none => none
  | v => reV2 keep v
section
variable {keep : List Nat} {ρ : Ren}
theorem rA_re {k off p : Nat} {sp} {a : Addr} (h : rA ρ ⟨k, off, sp⟩ = some a) (hp : posOf keep 0 k = some p) : rA (reR keep ρ) ⟨p, off, sp⟩ = some a := by
  obtain ⟨q, rfl, hq⟩ := posOf_spec hp
  have : reR keep ρ (0 + q) = ρ k := by unfold reR; rw [Nat.zero_add, hq]
  unfold rA at *
  simp only [this] at *
  exact h
theorem VR1_re {v v' u : Value} (h : VR1 ρ v u) (hv : reV1 keep v = some v') : VR1 (reR keep ρ) v' u := by
  unfold reV1 at hv
  split at hv
  · rename_i k off sp
    split at hv
    · rename_i p hp
      cases hv
      obtain ⟨a', ha, rfl⟩ := VR1_ptr.1 h
      exact VR1_ptr.2 ⟨a', rA_re ha hp, rfl⟩
    · cases hv
  · rename_i k off sp l c
    split at hv
    · rename_i p hp
      cases hv
      obtain ⟨a', ha, rfl⟩ := VR1_slice.1 h
      exact VR1_slice.2 ⟨a', rA_re ha hp, rfl⟩
    · cases hv
  · rename_i h1 h2
    cases hv
    rcases h.inv with ⟨a, a', rfl, _, _⟩ | ⟨a, l, c, a', rfl, _, _⟩ | ⟨hf, rfl⟩
    · obtain ⟨k, off, sp⟩ := a; exact absurd rfl (h1 k off sp)
    · obtain ⟨k, off, sp⟩ := a; exact absurd rfl (h2 k off sp l c)
    · exact (VR1_flat hf).2 rfl
theorem reL_rel : ∀ {l l' us : List Value}, PW (VR1 ρ) l us → reL keep l = some l' → PW (VR1 (reR keep ρ)) l' us
  | [], l', us, h, hl => by cases hl; rw [h.unnil]; exact PW.nil
  | v :: l, l', us, h, hl => by
    obtain ⟨u, us', rfl, hu, ht⟩ := h.uncons
    unfold reL at hl
    split at hl
    · rename_i v' l'' h1 h2
      cases hl
      exact PW.cons (VR1_re hu h1) (reL_rel ht h2)
    · cases hl
theorem VR2_re {v v' u : Value} (h : VR2 ρ v u) (hv : reV2 keep v = some v') : VR2 (reR keep ρ) v' u := by
  unfold reV2 at hv
  split at hv
  · split at hv
    · rename_i cs l hl
      cases hv
      obtain ⟨us, rfl, hp⟩ := VR2_agg.1 h
      exact VR2_agg.2 ⟨us, rfl, by simpa using reL_rel hp hl⟩
    · cases hv
  · rename_i hn
    exact (VR1_re ((VR2_of1 fun cs e => hn cs e).1 h) hv).toVR2
theorem reL2_rel : ∀ {l l' us : List Value}, PW (VR2 ρ) l us → reL2 keep l = some l' → PW (VR2 (reR keep ρ)) l' us
  | [], l', us, h, hl => by cases hl; rw [h.unnil]; exact PW.nil
  | v :: l, l', us, h, hl => by
    obtain ⟨u, us', rfl, hu, ht⟩ := h.uncons
    unfold reL2 at hl
    split at hl
    · rename_i v' l'' h1 h2
      cases hl
      exact PW.cons (VR2_re hu h1) (reL2_rel ht h2)
    · cases hl
theorem reL2_len : ∀ {l l' : List Value}, reL2 keep l = some l' → l'.length = l.length
  | [], l', h => by cases h; rfl
  | v :: l, l', h => by
    unfold reL2 at h
    split at h
    · rename_i h1 h2
      cases h
      rw [List.length_cons, List.length_cons, reL2_len h2]
    · cases h
theorem VR_re {v v' u : Value} (h : VR ρ v u) (hv : reV keep v = some v') : VR (reR keep ρ) v' u := by
  unfold reV at hv
  split at hv
  · split at hv
    · cases hv
    · rename_i hw
      split at hv
      · rename_i l hl
        cases hv
        obtain ⟨us, rfl, hp⟩ := (VR_tuple hw).1 h
        exact .inr ⟨us, rfl, by simpa using reL2_rel hp hl⟩
      · cases hv
  · rename_i hn
    exact (VR2_re ((VR_of2 fun vs e => hn vs e).1 h) hv).toVR
def sameIx (keep : List Nat) : Value → Bool
  | .pointer (some ⟨k, _, _⟩) => match posOf keep 0 k with | some p => Nat.beq p k | none => false
  | .slice (some ⟨k, _, _⟩) _ _ => match posOf keep 0 k with | some p => Nat.beq p k | none => false
  | _ => true
theorem reV1_same {v : Value} (h : sameIx keep v = true) : reV1 keep v = some v := by
  unfold sameIx at h
  split at h
  · rename_i k off sp
    split at h
    · rename_i p hp
      have := Nat.eq_of_beq_eq_true h
      subst this
      unfold reV1
      simp only [hp]
    · cases h
  · rename_i k off sp l c
    split at h
    · rename_i p hp
      have := Nat.eq_of_beq_eq_true h
      subst this
      unfold reV1
      simp only [hp]
    · cases h
  · rename_i h1 h2
    unfold reV1
    split
    · exact absurd rfl (h1 _ _ _)
    · exact absurd rfl (h2 _ _ _ _ _)
    · rfl
def blk0 : Blk := ⟨[], 0, false⟩
def reM (keep : List Nat) (mem : Mem) : Mem := keep.map fun k => mem.getD k blk0
def nodupB : List Nat → Bool
  | [] => true
  | k :: l => (l.all fun j => !Nat.beq j k) && nodupB l
theorem nodupB_spec : ∀ {l : List Nat}, nodupB l = true → l.Nodup
  | [], _ => List.nodup_nil
  | k :: l, h => by
    simp only [nodupB, Bool.and_eq_true] at h
    refine List.nodup_cons.2 ⟨fun hk => ?_, nodupB_spec h.2⟩
    have := List.all_eq_true.1 h.1 k hk
    simp at this
/-- Its first n are 0, 1, ..; the others lie behind; nothing is named twice; all are there. -/
def keepOk (n : Nat) (keep : List Nat) (len : Nat) : Bool := nodupB keep && (keep.all fun k => decide (k < len)) && ((List.range n).all fun k => match keep[k]? with | some j => Nat.beq j k | none => false) && ((keep.drop n).all fun k => decide (n ≤ k))
theorem keepOk_spec {n len : Nat} (h : keepOk n keep len = true) : keep.Nodup ∧ (∀ k ∈ keep, k < len) ∧ (∀ k, k < n → keep[k]? = some k) ∧ ∀ (k k0 : Nat), n ≤ k → keep[k]? = some k0 → n ≤ k0 := by
  simp only [keepOk, Bool.and_eq_true] at h
  obtain ⟨⟨⟨h1, h2⟩, h3⟩, h4⟩ := h
  refine ⟨nodupB_spec h1, fun k hk => by simpa using List.all_eq_true.1 h2 k hk, fun k hk => ?_, fun k k0 hk hk0 => ?_⟩
  · have := List.all_eq_true.1 h3 k (List.mem_range.2 hk)
    split at this
    · rename_i j hj
      rw [hj, Nat.eq_of_beq_eq_true this]
    · cases this
  · have hm : k0 ∈ keep.drop n := by
      rw [List.mem_iff_getElem?]
      exact ⟨k - n, by rw [List.getElem?_drop, show n + (k - n) = k by omega]; exact hk0⟩
    simpa using List.all_eq_true.1 h4 k0 hm
theorem reM_get {mem : Mem} {k k0 : Nat} {B : Blk} (h : keep[k]? = some k0) (hB : mem[k0]? = some B) : (reM keep mem)[k]? = some B := by
  unfold reM
  rw [List.getElem?_map, h, Option.map_some, List.getD_eq_getElem?_getD, hB]
  rfl
theorem MRel.re {mem : Mem} {w : World} (h : MRel ρ mem w) {n : Nat} (hk : keepOk n keep mem.length = true) (hc : ∀ B ∈ reM keep mem, B.cells.all (sameIx keep) = true) : MRel (reR keep ρ) (reM keep mem) w := by
  obtain ⟨hnd, _, _, _⟩ := keepOk_spec hk
  refine ⟨fun k b s hk => ?_, fun k b s k' b' s' B hk hk' hB ho hne => ?_⟩
  · obtain ⟨k0, hk0, hρ⟩ := reR_some.1 hk
    obtain ⟨B, hB, hb, hcell⟩ := h.cell k0 b s hρ
    have hB' := reM_get hk0 hB
    refine ⟨B, hB', hb, fun i v hv => ?_⟩
    obtain ⟨⟨u, hu, hw⟩, hf⟩ := hcell i v hv
    exact ⟨⟨u, VR1_re hu (reV1_same (List.all_eq_true.1 (hc B (List.mem_of_getElem? hB')) v (List.mem_of_getElem? hv))), hw⟩, hf⟩
  · obtain ⟨k0, hk0, hρ⟩ := reR_some.1 hk
    obtain ⟨k1, hk1, hρ'⟩ := reR_some.1 hk'
    obtain ⟨B0, hB0, _⟩ := h.cell k0 b s hρ
    rw [reM_get hk0 hB0] at hB
    cases hB
    refine h.apart k0 b s k1 b' s' _ hρ hρ' hB0 ho fun e => hne ?_
    subst e
    have l1 := (List.getElem?_eq_some_iff.1 hk0).1
    exact (List.getElem?_inj l1 hnd).1 (hk0.trans hk1.symm)
theorem Mv.re {ρ' : Ren} {mem mem' : Mem} {w w' : World} (hM : MRel ρ mem w) (h : Mv ρ mem w ρ' mem' w') (hk : keepOk mem.length keep mem'.length = true) : Mv ρ mem w (reR keep ρ') (reM keep mem') w' := by
  obtain ⟨_, _, hfirst, hrest⟩ := keepOk_spec hk
  have hdom : ∀ k x, ρ k = some x → k < mem.length := fun k ⟨b, s⟩ hx => by
    obtain ⟨B, hB, _⟩ := hM.cell k b s hx
    exact (List.getElem?_eq_some_iff.1 hB).1
  refine ⟨fun k x hx => reR_some.2 ⟨k, hfirst k (hdom k x hx), h.sub k x hx⟩, fun k x hx hk0 => ?_, fun k B hB => ?_, h.os, h.tape, h.output, h.size, h.block⟩
  · obtain ⟨k0, e, hρ⟩ := reR_some.1 hx
    refine h.new k0 x hρ ?_
    rcases Nat.lt_or_ge k mem.length with hlt | hge
    · rw [hfirst k hlt] at e
      cases e
      exact hk0
    · have := hrest k k0 hge e
      cases hr : ρ k0 with
      | none => rfl
      | some y => have := hdom k0 y hr; omega
  · have hlt := (List.getElem?_eq_some_iff.1 hB).1
    obtain ⟨B', hB', ho⟩ := h.kept k B hB
    exact ⟨B', reM_get (hfirst k hlt) hB', ho⟩
variable {P : Program}
/-- A call of which the blocks that are named remain. -/
def evFnR (P : Program) (fn : Func) (fuel : Nat) (keep : List Nat) (args : List Value) (mem : Mem) (ans : List Ans) : Option (Bool × List Prop × Value × Mem) :=
  match evFn P fn fuel args mem ans with
  | some r => match reV keep r.v with
    | some v => some (allB (r.ok :: keepOk mem.length keep r.mem.length :: (reM keep r.mem).map fun B => B.cells.all (sameIx keep)), r.obs, v, reM keep r.mem)
    | none => none
  | none => none
theorem MC.of_evR (hm : P.follows .mixedOrders = true) {f : FuncId} {fn : Func} (hf : P.funcs[f]? = some fn) (fuel : Nat) (keep : List Nat) {args : List Value} {mem mem' : Mem} (ans : List Ans) {ok : Bool} {obs : List Prop} {v : Value}
    (h : evFnR P fn fuel keep args mem ans = some (ok, obs, v, mem')) (hok : ok = true) (hobs : allP obs) (he : ∀ us w, (callFunc f us).run P w = .ok (.enter f us) w) : MC P f args mem v mem' := by
  unfold evFnR at h
  split at h
  · rename_i r hr
    split at h
    · rename_i v' hv
      cases h
      rw [allB_cons, allB_cons, Bool.and_eq_true, Bool.and_eq_true] at hok
      refine ⟨he, fun ρ w us hus hM => ?_⟩
      refine (CT.of_ev hm hf hr hok.1 (allP_iff hobs) ρ w us hus hM).mono ?_
      rintro e w' ⟨v', m, ρ', u, h1, ⟨rfl, rfl⟩, hu, hM', hmv⟩
      exact ⟨v, _, reR keep ρ', u, h1, ⟨rfl, rfl⟩, VR_re hu hv, hM'.re hok.2.1 fun B hB => allB_map hok.2.2 B hB, Mv.re hM hmv hok.2.1⟩
    · cases h
  · cases h
end
end Go.Ev
