/-
  Relative states, part 5: jumps back, round by round; a contract padded by blocks that the call does not see; functions with a deferred call that only recovers.
-/
import Derived.Test.YtljolfnpncjklaaGreatEv3
import Derived.Defers
import Derived.Recover
namespace Go.Ev
variable {P : Program}

/-! ### Jumps -/
theorem TriG.mask {body rest : Code} {S S' : St} {e : Exit} (h : TriG P body rest S (to e S')) (live : List Nat) : TriG P body rest S (to e (maskS live S')) :=
  fun ρ a w hr b k cs => by
    obtain ⟨e1, a1, w1, ⟨S1, ρ1, ⟨h1, h2⟩, r, m⟩, harr⟩ := h ρ a w hr b k cs
    subst h2
    exact ⟨e1, a1, w1, ⟨maskS live S1, ρ1, ⟨h1, rfl⟩, r.mask live, m⟩, harr⟩
def evG4 (P : Program) (body rest : Code) (live : List Nat) (S : St) (ans : List Ans) : Option (Bool × Prop × Exit × St) :=
  match evScope P (evC P 400) body 400 rest S ans with
  | some r => some (allB r.ok, allP r.obs, r.e, maskS live r.S)
  | none => none
theorem TriG.run (hm : P.follows .mixedOrders = true) {body rest : Code} (live : List Nat) (ans : List Ans) {S S' : St} {x : Exit} {X : Bool} {A : Prop} (hx : X = true) (ha : A) (e : evG4 P body rest live S ans = some (X, A, x, S')) : TriG P body rest S (to x S') := by
  unfold evG4 at e
  split at e
  · rename_i r hr
    cases e
    exact TriG.mask (evScope_sound (fun c S ans r h1 h2 h3 => (evC_sound hm _ c S ans r h1 h2 h3).1) body 400 rest S ans r hr hx (allP_iff ha)) live
  · cases e

/-! ### A contract in a greater memory -/
theorem preR_le {n : Nat} {ρ : Ren} : (preR n ρ).le ρ := ⟨fun _ _ h => (preR_some.1 h).2, fun _ _ h => h, rfl, fun b x h => ⟨x, (preG_some.1 h).1, .refl x⟩⟩
theorem MC.pad {f : FuncId} {args : List Value} {mem mem' : Mem} {v : Value} (h : MC P f args mem v mem') (extra : Mem) (hlen : mem'.length = mem.length) (hargs : args.all (lowV mem.length) = true)
    (hin : ∀ B ∈ mem, B.cells.all (low1 mem.length) = true) (hout : ∀ B ∈ mem', B.cells.all (low1 mem.length) = true) (hv : lowV mem.length v = true) : MC P f args (mem ++ extra) v (mem' ++ extra) := by
  refine ⟨h.1, fun ρ w us hus hM => ?_⟩
  have hus' : PW (VR (preR mem.length ρ)) args us := ⟨hus.1, fun i x y hx hy => VR_pre (hus.2 i x y hx hy) (List.all_eq_true.1 hargs x (List.mem_of_getElem? hx))⟩
  have hget : ∀ k, k < mem.length → (mem ++ extra)[k]? = mem[k]? := fun k hk => List.getElem?_append_left hk
  have hget' : ∀ k, k < mem.length → (mem' ++ extra)[k]? = mem'[k]? := fun k hk => List.getElem?_append_left (by omega)
  have hext : ∀ k, mem.length ≤ k → (mem' ++ extra)[k]? = (mem ++ extra)[k]? := fun k hk => by
    rw [List.getElem?_append_right hk, List.getElem?_append_right (by omega), hlen]
  have hM0 : MRel (preR mem.length ρ) mem w := by
    refine ⟨fun k b s hk => ?_, fun k b s k' b' s' B hk hk' hB ho hne => ?_, fun b cs hh => ?_, ⟨fun b x hx => ?_, fun k B hB hl => ?_⟩⟩
    case refine_4 =>
      obtain ⟨hx, hlt⟩ := preG_some.1 hx
      have hL := hM.lists.lst b x hx
      exact hL.move (Nat.le_refl _) rfl (fun k s hk => hL.nomap k s (preR_some.1 hk).2) hL.noh fun B hB hl => ⟨B, [], by rw [← hget _ hlt]; exact hB, hl, (List.append_nil _).symm⟩
    case refine_5 =>
      have h0 := hM.lists.lmap k B (by rw [hget k (List.getElem?_eq_some_iff.1 hB).1]; exact hB) hl
      show (if k < mem.length then ρ k else none) = none
      rw [h0, ite_self]
    · obtain ⟨hlt, hρ⟩ := preR_some.1 hk
      obtain ⟨B, hB, hb, hcell⟩ := hM.cell k b s hρ
      rw [hget k hlt] at hB
      refine ⟨B, hB, hb, fun i x hx => ?_⟩
      obtain ⟨⟨u, hu, hw⟩, hf⟩ := hcell i x hx
      exact ⟨⟨u, VR1_pre hu (List.all_eq_true.1 (hin B (List.mem_of_getElem? hB)) x (List.mem_of_getElem? hx)), hw⟩, hf⟩
    · exact hM.apart k b s k' b' s' B (preR_some.1 hk).2 (preR_some.1 hk').2 (by rw [hget k (preR_some.1 hk).1]; exact hB) ho hne
    · obtain ⟨h1, h2, h3⟩ := hM.froz b cs hh
      exact ⟨h1, h2, fun k s B hk hB => h3 k s B (preR_some.1 hk).2 (by rw [hget k (preR_some.1 hk).1]; exact hB)⟩
  refine (h.2 (preR mem.length ρ) w us hus' hM0).mono ?_
  rintro e w' ⟨v', m', ρ', u, rfl, ⟨rfl, rfl⟩, hu, hM', hmv⟩
  have hlt' : ∀ k x, ρ' k = some x → k < mem.length := fun k ⟨b, s⟩ hx => by
    obtain ⟨B, hB, _⟩ := hM'.cell k b s hx
    have := (List.getElem?_eq_some_iff.1 hB).1
    omega
  let σ : Ren := ⟨fun k => if k < mem.length then ρ' k else ρ k, ρ'.h, ρ.d, joinG ρ'.g ρ.g⟩
  have hlo : ∀ k, k < mem.length → σ k = ρ' k := fun k hk => if_pos hk
  have hhi : ∀ k, mem.length ≤ k → σ k = ρ k := fun k hk => if_neg (by omega)
  have hsub : ρ.le σ := ⟨fun k x hx => by
    rcases Nat.lt_or_ge k mem.length with hk | hk
    · rw [hlo k hk]; exact hmv.sub.m k x (preR_some.2 ⟨hk, hx⟩)
    · rw [hhi k hk]; exact hx, hmv.sub.h, rfl, joinG_le hM hmv⟩
  have hsub' : (preR mem.length ρ').le ⟨σ.m, σ.h, ρ'.d, σ.g⟩ := ⟨fun k x hx => by rw [show (⟨σ.m, σ.h, ρ'.d, σ.g⟩ : Ren).m k = σ k from rfl, hlo k (preR_some.1 hx).1]; exact (preR_some.1 hx).2, fun _ _ h => h, rfl, fun b x h => ⟨x, by show joinG ρ'.g ρ.g b = some x; unfold joinG; rw [(preG_some.1 h).1], .refl x⟩⟩
  have hVR1 : ∀ x y, low1 mem.length x = true → VR1 ρ' x y → VR1 σ x y := fun x y hx hy => VR1_wd (ρ := σ) (d := ρ'.d) |>.1 ((VR1_pre hy hx).mono hsub')
  have hold : ∀ k b s, mem.length ≤ k → ρ k = some (b, s) → b < w.heap.size ∧ w'.heap[b]? = w.heap[b]? := fun k b s hk hρ => by
    obtain ⟨_, _, hb, _⟩ := hM.cell k b s hρ
    refine ⟨hb, hmv.block b hb (preG_none (hM.g_none hρ)) fun k0 s0 B0 hk0 hB0 => ?_⟩
    obtain ⟨hlt, hρ0⟩ := preR_some.1 hk0
    cases ho : B0.own with
    | false => rfl
    | true => exact absurd rfl (hM.apart k0 b s0 k b s B0 hρ0 hρ (by rw [hget k0 hlt]; exact hB0) ho (by omega))
  have hnew : ∀ k b s, k < mem.length → ρ' k = some (b, s) → ρ k = some (b, s) ∨ w.heap.size ≤ b := fun k b s hk hρ => by
    cases h0 : ρ k with
    | none => exact .inr (hmv.new k _ hρ (by
        cases h1 : preR mem.length ρ k with
        | none => rfl
        | some y => rw [(preR_some.1 h1).2] at h0; cases h0))
    | some y =>
      have := hmv.sub.m k y (preR_some.2 ⟨hk, h0⟩)
      rw [hρ] at this
      cases this
      exact .inl rfl
  refine ⟨v', _, σ, u, rfl, ⟨rfl, rfl⟩, VR_wd (ρ := σ) (d := ρ'.d) |>.1 ((VR_pre hu hv).mono hsub'), ⟨fun k b s hk => ?_, fun k b s k' b' s' B hk hk' hB ho hne => ?_, fun b cs hh => ?_, ⟨LRel.join (σ := σ) hM hM'.lists hmv rfl rfl (fun k x hk => ?_) (fun k B hB _ => ?_) (fun k B hk hB _ => ?_), fun k B hB hl => ?_⟩⟩,
    ⟨hsub, fun k x hk hk0 => ?_, fun k B hB => ?_, hmv.os, hmv.tape, hmv.output, hmv.size, fun b hb hg hk => ?_, hmv.newh, joinG_new hmv⟩⟩
  case refine_4 =>
    rcases Nat.lt_or_ge k mem.length with hlt | hge
    · rw [hlo k hlt] at hk; exact .inl hk
    · rw [hhi k hge] at hk; exact .inr ⟨hge, hk⟩
  case refine_5 => rw [List.getElem?_append_left (List.getElem?_eq_some_iff.1 hB).1]; exact hB
  case refine_6 => rw [hext k hk]; exact hB
  case refine_7 =>
    rcases Nat.lt_or_ge k mem.length with hlt | hge
    · rw [hlo k hlt]
      rw [hget' k hlt] at hB
      exact hM'.lists.lmap k B hB hl
    · rw [hhi k hge]
      rw [hext k hge] at hB
      exact hM.lists.lmap k B hB hl
  · rcases Nat.lt_or_ge k mem.length with hlt | hge
    · rw [hlo k hlt] at hk
      obtain ⟨B, hB, hb, hcell⟩ := hM'.cell k b s hk
      refine ⟨B, by rw [hget' k hlt]; exact hB, hb, fun i x hx => ⟨?_, (hcell i x hx).2⟩⟩
      obtain ⟨⟨y, hy, hw⟩, _⟩ := hcell i x hx
      exact ⟨y, hVR1 x y (List.all_eq_true.1 (hout B (List.mem_of_getElem? hB)) x (List.mem_of_getElem? hx)) hy, hw⟩
    · rw [hhi k hge] at hk
      obtain ⟨B, hB, hb, hcell⟩ := hM.cell k b s hk
      have hh := (hold k b s hge hk).2
      refine ⟨B, by rw [hext k hge]; exact hB, Nat.lt_of_lt_of_le hb hmv.size, fun i x hx => ?_⟩
      obtain ⟨⟨y, hy, hw⟩, hf⟩ := hcell i x hx
      exact ⟨⟨y, hy.mono hsub, by rw [World.cell?_of_block (a := ⟨b, s + i, none⟩) hh]; exact hw⟩, fun ho => by rw [World.frozen?_of_block (a := ⟨b, s + i, none⟩) hh]; exact hf ho⟩
  · rcases Nat.lt_or_ge k mem.length with hlt | hge
    · rw [hlo k hlt] at hk
      rw [hget' k hlt] at hB
      rcases Nat.lt_or_ge k' mem.length with hlt' | hge'
      · rw [hlo k' hlt'] at hk'
        exact hM'.apart k b s k' b' s' B hk hk' hB ho hne
      · rw [hhi k' hge'] at hk'
        have hb' := (hold k' b' s' hge' hk').1
        rcases hnew k b s hlt hk with h0 | h0
        · obtain ⟨C, hC, _⟩ := hM.cell k b s h0
          have hC0 := hC
          rw [hget k hlt] at hC
          obtain ⟨B', hB', hoo⟩ := hmv.kept k C hC
          rw [hB] at hB'
          cases hB'
          exact hM.apart k b s k' b' s' C h0 hk' hC0 (hoo ▸ ho) hne
        · omega
    · rw [hhi k hge] at hk
      rw [hext k hge] at hB
      have hb := (hold k b s hge hk).1
      rcases Nat.lt_or_ge k' mem.length with hlt' | hge'
      · rw [hlo k' hlt'] at hk'
        rcases hnew k' b' s' hlt' hk' with h0 | h0
        · exact hM.apart k b s k' b' s' B hk h0 hB ho hne
        · omega
      · rw [hhi k' hge'] at hk'
        exact hM.apart k b s k' b' s' B hk hk' hB ho hne
  · obtain ⟨h1, h2, h3⟩ := hM'.froz b cs hh
    refine ⟨h1, h2, fun k s B hk hB => ?_⟩
    rcases Nat.lt_or_ge k mem.length with hlt | hge
    · rw [hlo k hlt] at hk
      exact h3 k s B hk (by rw [← hget' k hlt]; exact hB)
    · rw [hhi k hge] at hk
      rw [hext k hge] at hB
      cases hb : ρ.h b with
      | some cs' => exact (hM.froz b cs' hb).2.2 k s B hk hB
      | none =>
        have h4 := hmv.newh b cs hh hb
        have := (hold k b s hge hk).1
        omega
  · rcases Nat.lt_or_ge k mem.length with hlt | hge
    · rw [hlo k hlt] at hk
      obtain ⟨b, s⟩ := x
      rcases hnew k b s hlt hk with h0 | h0
      · rw [hk0] at h0; cases h0
      · exact h0
    · rw [hhi k hge, hk0] at hk; cases hk
  · rcases Nat.lt_or_ge k mem.length with hlt | hge
    · rw [hget k hlt] at hB
      obtain ⟨B', hB', ho⟩ := hmv.kept k B hB
      exact ⟨B', by rw [hget' k hlt]; exact hB', ho⟩
    · exact ⟨B, by rw [hext k hge]; exact hB, rfl⟩
  · refine hmv.block b hb (preG_none hg) fun k0 s0 B0 hk0 hB0 => ?_
    obtain ⟨hlt, hρ0⟩ := preR_some.1 hk0
    exact hk k0 s0 B0 hρ0 (by rw [hget k0 hlt]; exact hB0)

/-! ### A deferred call that only recovers -/
/-- A deferred function that recovers and does nothing else, in a frame that returns. -/
theorem recovers_idle {g : FuncId} {gn : Func} {id : Nat} {o : Oper} (hf : P.funcs[g]? = some gn) (hb : gn.body = some (.region id #[o] false)) (ho : o.op = .call { callee := .builtin .recover, args := #[], argTypes := #[] }) (hg : o.guard = none) (hr : gn.results = #[]) (w : World) :
    CallsD P g #[] .returning w fun e u' w' => (∃ v, e = .returned v) ∧ u' = .returning ∧ w' = w := by
  refine callsD_of_wpS hf hb fun c₀ cs hu => ?_
  apply wpS_region
  have hw : ∀ y : Nat → Option Bool, Region.wanted o y = true := fun y => by unfold Region.wanted; rw [hg]
  have hex : ∀ (a : Act), (execOp a.eval o).run P w = .ok .recover w := fun a => by simp [execOp, ho, resolve, invoke, builtin]
  simp only [List.size_toArray, List.length_cons, List.length_nil, Nat.zero_add, List.range_one, wpOpsS, List.getElem?_toArray, List.getElem?_cons_zero, hw, if_true, hex, recoverD, hu]
  refine ⟨by cases o.dst <;> rfl, .returning, by rw [← hu], .tuple #[], ?_, ⟨_, rfl⟩, rfl, rfl⟩
  unfold results
  simp [hr]
theorem MC.of_def {f g : FuncId} {fn : Func} {c rest : Code} (hf : P.funcs[f]? = some fn) (hb : fn.body = some c) (k : Nat) {id : Nat} {o : Oper} (hs : hasS k c = true) (hd : dropS k c = .seq (.region id #[o] false) rest)
    (ho : o.op = .defer { callee := .value (.func g), args := #[], argTypes := #[] }) (hg : o.guard = none) (hdst : o.dst = none) (heg : ∀ us w, (callFunc g us).run P w = .ok (.enter g us) w)
    (hrec : ∀ w, CallsD P g #[] .returning w fun e u' w' => (∃ v, e = .returned v) ∧ u' = .returning ∧ w' = w)
    {args : List Value} {mem mem' : Mem} {S1 S2 : St} {x : Exit} {v : Value} (h1 : TriN P (takeS k c) ⟨args ++ List.replicate (fn.ntmps - args.length) undef, mem⟩ (to .normal S1)) (h2 : Tri P rest S1 (to x S2)) (hx : Exit.isEnd x = true) (hr : resOf P fn S2 = some (true, v))
    (hm : S2.mem.take mem.length = mem') (hv : noNew mem.length v = true) (hc : ∀ B ∈ mem', B.cells.all (noNew1 mem.length) = true) (he : ∀ us w, (callFunc f us).run P w = .ok (.enter f us) w) : MC P f args mem v mem' := by
  subst hm
  refine ⟨he, fun ρ w us hus hM => ?_⟩
  refine calls_of_wp_defers hf hb ?_
  have hlen : us.length = args.length := hus.1.symm
  refine wpN_seq (n := k) hs (h1 (ρ.wd []) _ w ⟨?_, rfl, MRel_wd.2 hM⟩) ?_ ?_
  · simp only [List.size_toArray, hlen]
    simp only [Array.toList_append, Array.toList_replicate]
    exact (hus.mono fun _ _ => VR_wd.2).append (PW.replicate _ VR_undef)
  · rintro a1 w1 ⟨S', ρ1, ⟨_, h⟩, r1, m1⟩
    subst h
    rw [hd]
    refine wp_seq (wp_region ?_)
    have hd1 : a1.defers = [] := r1.defers.trans m1.sub.d
    have hw : ∀ y : Nat → Option Bool, Region.wanted o y = true := fun y => by unfold Region.wanted; rw [hg]
    have hex : (execOp a1.eval o).run P w1 = .ok (.defer { target := .fn (.func g) #[], args := #[] }) w1 := by
      unfold execOp
      simp [ho, resolve, Deferred.ofValue, Act.eval]
    simp only [List.size_toArray, List.length_cons, List.length_nil, Nat.zero_add, List.range_one, wpOps, List.getElem?_toArray, List.getElem?_cons_zero, hw, if_true]
    refine .inl ?_
    unfold Oper.wp
    rw [hex, Oper.upon_defer, hdst, hd1]
    show Code.wp P rest _ _ _
    refine wp_mono (h2 (ρ1.wd [{ target := .fn (.func g) #[], args := #[] }]) _ w1 ⟨(r1.tmps.mono fun _ _ => VR_wd.2), rfl, MRel_wd.2 r1.mem⟩) ?_
    rintro e a2 w2 ⟨S3, ρ2, ⟨h3, h4⟩, r2, m2⟩
    subst h4
    have hd2 : a2.defers = [{ target := .fn (.func g) #[], args := #[] }] := r2.defers.trans m2.sub.d
    obtain ⟨u, hu, hrun⟩ := resOf_sound hr r2
    have m3 : Mv ρ mem w (ρ2.wd ρ.d) S3.mem w2 := by
      have m12 : Mv (ρ.wd []) mem w (ρ2.wd []) S3.mem w2 := m1.trans (MRel_wd.2 hM) (by
        have := Mv_wd m2
        rw [m1.sub.d] at this
        exact this)
      exact ⟨⟨m12.sub.m, m12.sub.h, rfl, m12.sub.g⟩, m12.new, m12.kept, m12.os, m12.tape, m12.output, m12.size, m12.block, m12.newh, m12.newg⟩
    have key : Leaves P fn a2.tmps (fun e w' => ∃ v_1 mem' ρ' u, e = .returned u ∧ (v_1 = v ∧ mem' = S3.mem.take mem.length) ∧ VR ρ' v_1 u ∧ MRel ρ' mem' w' ∧ Mv ρ mem w ρ' mem' w') a2.defers .returning w2 := by
      rw [hd2]
      refine leaves_cons (by simp) (heg _ _) ((hrec w2).mono ?_)
      rintro e u' w' ⟨⟨y, rfl⟩, rfl, rfl⟩
      exact ⟨u, hrun, v, _, cutR mem.length (ρ2.wd ρ.d), u, rfl, ⟨rfl, rfl⟩, VR_cut (VR_wd.2 hu) hv, (MRel_wd.2 r2.mem).drop hc, Mv.drop hM m3 (Nat.le_refl _)⟩
    subst h3
    cases e with
    | normal => exact key
    | ret => exact key
    | exit id => cases hx
    | goto l => cases hx
    | panic ch => cases hx
    | outgrown => cases hx
  · rintro e a1 w1 hne ⟨S', ρ1, ⟨h, _⟩, _⟩
    exact absurd h hne
/-- What stands behind a statement that defers a closed function, called without arguments. -/
def deferAt (g : FuncId) : Code → Option Code
  | .seq (.region _ ⟨[o]⟩ false) rest => match o.guard, o.dst, o.op with
    | none, none, .defer ⟨.value (.func g'), ⟨[]⟩, ⟨[]⟩⟩ => if g' = g then some rest else none
    | _, _, _ => none
  | _ => none
theorem deferAt_spec {g : FuncId} {c rest : Code} (h : deferAt g c = some rest) : ∃ id o, c = .seq (.region id #[o] false) rest ∧ o.op = .defer { callee := .value (.func g), args := #[], argTypes := #[] } ∧ o.guard = none ∧ o.dst = none := by
  unfold deferAt at h
  split at h
  · rename_i id o rest'
    split at h
    · rename_i g' h1 h2 h3
      split at h
      · rename_i e
        cases h
        subst e
        exact ⟨id, o, rfl, h3, h1, h2⟩
      · cases h
    · cases h
  · cases h
def evDef (P : Program) (fn : Func) (k : Nat) (g : FuncId) (args : List Value) (mem : Mem) (ans : List Ans) : Option (Bool × Prop × Value × Mem) :=
  match fn.body with
  | some c => match deferAt g (dropS k c) with
    | some rest => match evN P 400 (takeS k c) ⟨args ++ List.replicate (fn.ntmps - args.length) undef, mem⟩ ans with
      | some r1 => match r1.e with
        | .normal => match evC P 400 rest r1.S r1.ans with
          | some r2 => match resOf P fn r2.S with
            | some (c2, v) => if Exit.isEnd r2.e && hasS k c then some (allB (r1.ok ++ (r2.ok ++ (c2 :: noNew mem.length v :: (r2.S.mem.take mem.length).map fun B => B.cells.all (noNew1 mem.length)))), allP (r1.obs ++ r2.obs), v, r2.S.mem.take mem.length) else none
            | none => none
          | none => none
        | _ => none
      | none => none
    | none => none
  | none => none
/-- A function whose (k+1)-st statement defers a function that only recovers, by one run. -/
theorem MC.runD (hm : P.follows .mixedOrders = true) {f : FuncId} {fn : Func} (hf : P.funcs[f]? = some fn) (k : Nat) (g : FuncId) (heg : ∀ us w, (callFunc g us).run P w = .ok (.enter g us) w)
    (hrec : ∀ w, CallsD P g #[] .returning w fun e u' w' => (∃ v, e = .returned v) ∧ u' = .returning ∧ w' = w) {args : List Value} {mem mem' mem'' : Mem} (ans : List Ans) {X : Bool} {A : Prop} {v v' : Value}
    (hx : X = true) (ha : A) (hr : v = v') (hr' : mem' = mem'') (he : ∀ us w, (callFunc f us).run P w = .ok (.enter f us) w) (e : evDef P fn k g args mem ans = some (X, A, v, mem')) : MC P f args mem v' mem'' := by
  subst hr hr'
  unfold evDef at e
  split at e
  · rename_i c hb
    split at e
    · rename_i rest hd
      obtain ⟨id, o, hd1, ho, hg, hdst⟩ := deferAt_spec hd
      split at e
      · rename_i r1 h1
        split at e
        · rename_i he1
          split at e
          · rename_i r2 h2
            split at e
            · rename_i c2 v2 hv2
              split at e
              · rename_i hend
                cases e
                rw [Bool.and_eq_true] at hend
                simp only [allB_append, allB_cons, Bool.and_eq_true] at hx
                obtain ⟨o1, o2, rfl, hnv, hcs⟩ := hx
                have hob := allP_iff ha
                have t1 := evN_sound hm 400 _ _ _ _ h1 o1 fun p hp => hob p (List.mem_append_left _ hp)
                rw [he1] at t1
                have t2 := (evC_sound hm 400 _ _ _ _ h2 o2 fun p hp => hob p (List.mem_append_right _ hp)).1
                exact MC.of_def hf hb k hend.2 hd1 ho hg hdst heg hrec t1 t2 hend.1 hv2 rfl hnv (fun B hB => allB_map hcs B hB) he
              · cases e
            · cases e
          · cases e
        · cases e
      · cases e
    · cases e
  · cases e
/-- A call that changes the caller's memory, by one run; all tests stand in one row. -/
def evFnM5 (P : Program) (fn : Func) (args : List Value) (mem : Mem) (ans : List Ans) : Option (Bool × Prop × Value × Mem) :=
  match fn.body with
  | some c => match evC P 400 c ⟨args ++ List.replicate (fn.ntmps - args.length) undef, mem⟩ ans with
    | some r => match resOf P fn r.S with
      | some (c2, v) => if Exit.isEnd r.e then some (allB (r.ok ++ (c2 :: noNew mem.length v :: (r.S.mem.take mem.length).map fun B => B.cells.all (noNew1 mem.length))), allP r.obs, v, r.S.mem.take mem.length) else none
      | none => none
    | none => none
  | none => none
theorem MC.run5 (hm : P.follows .mixedOrders = true) {f : FuncId} {fn : Func} (hf : P.funcs[f]? = some fn) {args : List Value} {mem mem' mem'' : Mem} (ans : List Ans) {X : Bool} {A : Prop} {v v' : Value}
    (hx : X = true) (ha : A) (hr : v = v') (hr' : mem' = mem'') (he : ∀ us w, (callFunc f us).run P w = .ok (.enter f us) w) (e : evFnM5 P fn args mem ans = some (X, A, v, mem')) : MC P f args mem v' mem'' := by
  subst hr hr'
  unfold evFnM5 at e
  split at e
  · rename_i c hb
    split at e
    · rename_i r hr
      split at e
      · rename_i c2 v2 hv2
        split at e
        · rename_i hend
          cases e
          simp only [allB_append, allB_cons, Bool.and_eq_true] at hx
          obtain ⟨o1, rfl, hnv, hcs⟩ := hx
          refine ⟨he, fun ρ w us hus hM => ?_⟩
          refine (CT.of_tri hf hb (Q := fun v' m => v' = v ∧ m = r.S.mem) ((evC_sound hm 400 _ _ _ _ hr o1 (allP_iff ha)).1.mono ?_) ρ w us hus hM).mono ?_
          · rintro e S ⟨rfl, rfl⟩
            exact ⟨hend, v, hv2, rfl, rfl⟩
          · rintro e w' ⟨v', m, ρ', u, h1, ⟨rfl, rfl⟩, hu, hM', hmv⟩
            exact ⟨_, _, cutR mem.length ρ', u, h1, ⟨rfl, rfl⟩, VR_cut hu hnv, hM'.drop fun B hB => allB_map hcs B hB, Mv.drop hM hmv (Nat.le_refl _)⟩
        · cases e
      · cases e
    · cases e
  · cases e
end Go.Ev
