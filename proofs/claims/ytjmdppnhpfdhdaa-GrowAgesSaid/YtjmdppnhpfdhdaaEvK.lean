/-
  Relative states, part K: a contract on a small memory, in a caller's memory.
-/
import Derived.Test.YtjmdppnhpfdhdaaEvJ
namespace Go.Ev

theorem getElem?_pre {m n : Mem} {k : Nat} {B : Blk} (h : m[k]? = some B) : (m ++ n)[k]? = some B := by rw [List.getElem?_append_left (List.getElem?_eq_some_iff.1 h).1]; exact h

/-- Where the small memory's block i lies in the caller's (of m blocks); what is new comes behind. -/
def fIx (σ : List Nat) (m i : Nat) : Nat := match σ[i]? with | some k => k | none => m + (i - σ.length)
def fV1 (σ : List Nat) (m : Nat) : Value → Value
  | .pointer (some ⟨k, off, sp⟩) => .pointer (some ⟨fIx σ m k, off, sp⟩)
  | .slice (some ⟨k, off, sp⟩) l c => .slice (some ⟨fIx σ m k, off, sp⟩) l c
  | v => v
def fV2 (σ : List Nat) (m : Nat) : Value → Value
  | .agg cs => .agg (cs.toList.map (fV1 σ m)).toArray
  | v => fV1 σ m v
def fV (σ : List Nat) (m : Nat) : Value → Value
  | .tuple vs => .tuple (vs.toList.map (fV2 σ m)).toArray
  | v => fV2 σ m v
def subR (σ : List Nat) (ρ : Ren) : Ren := fun k => match σ[k]? with | some k' => ρ k' | none => none
section
variable {σ : List Nat} {m : Nat} {ρ ρ' : Ren}
theorem rA_map {k off k' : Nat} {sp} (h : ρ k = ρ' k') : rA ρ ⟨k, off, sp⟩ = rA ρ' ⟨k', off, sp⟩ := by
  unfold rA
  simp only [h]
/-- Values under a renumbering that agrees on the blocks below n. -/
theorem VR1_f {v u : Value} {n : Nat} (hag : ∀ k, k < n → ρ k = ρ' (fIx σ m k)) (hn : noNew1 n v = true) : VR1 ρ v u ↔ VR1 ρ' (fV1 σ m v) u := by
  cases v with
  | pointer a => cases a with
    | none => exact Iff.rfl
    | some a =>
      obtain ⟨k, off, sp⟩ := a
      simp only [noNew1, decide_eq_true_eq] at hn
      show (rA ρ _).map _ = _ ↔ (rA ρ' _).map _ = _
      rw [rA_map (hag k hn)]
  | slice a l c => cases a with
    | none => exact Iff.rfl
    | some a =>
      obtain ⟨k, off, sp⟩ := a
      simp only [noNew1, decide_eq_true_eq] at hn
      show (rA ρ _).map _ = _ ↔ (rA ρ' _).map _ = _
      rw [rA_map (hag k hn)]
  | _ => exact Iff.rfl
theorem PW_map {α β : Type} {R R' : α → β → Prop} {f : α → α} {p : α → Bool} (hp : ∀ a b, p a = true → (R a b ↔ R' (f a) b)) {l : List α} {us : List β} (hl : l.all p = true) : PW R l us ↔ PW R' (l.map f) us := by
  induction l generalizing us with
  | nil => constructor <;> (intro h; rw [h.unnil]; exact PW.nil)
  | cons a l ih =>
    simp only [List.all_cons, Bool.and_eq_true] at hl
    constructor
    · intro h
      obtain ⟨b, us', rfl, hb, ht⟩ := h.uncons
      exact PW.cons ((hp a b hl.1).1 hb) ((ih hl.2).1 ht)
    · intro h
      obtain ⟨b, us', rfl, hb, ht⟩ := PW.uncons (a := f a) (l := l.map f) h
      exact PW.cons ((hp a b hl.1).2 hb) ((ih hl.2).2 ht)
theorem fV1_noAgg {v : Value} (h : ∀ cs, v ≠ .agg cs) : ∀ cs, fV1 σ m v ≠ .agg cs := by
  intro cs
  unfold fV1
  split
  · simp
  · simp
  · exact h cs
theorem VR2_f {v u : Value} {n : Nat} (hag : ∀ k, k < n → ρ k = ρ' (fIx σ m k)) (hn : noNew2 n v = true) : VR2 ρ v u ↔ VR2 ρ' (fV2 σ m v) u := by
  by_cases hc : ∃ cs, v = .agg cs
  · obtain ⟨cs, rfl⟩ := hc
    show VR2 ρ (.agg cs) u ↔ VR2 ρ' (.agg (cs.toList.map (fV1 σ m)).toArray) u
    rw [VR2_agg, VR2_agg]
    constructor
    · rintro ⟨us, rfl, hp⟩
      exact ⟨us, rfl, by simpa using (PW_map (R := VR1 ρ) (R' := VR1 ρ') (f := fV1 σ m) (p := noNew1 n) (fun _ _ h => VR1_f hag h) hn).1 hp⟩
    · rintro ⟨us, rfl, hp⟩
      exact ⟨us, rfl, (PW_map (R := VR1 ρ) (R' := VR1 ρ') (f := fV1 σ m) (p := noNew1 n) (fun _ _ h => VR1_f hag h) hn).2 (by simpa using hp)⟩
  · have hne : ∀ cs, v ≠ .agg cs := fun cs e => hc ⟨cs, e⟩
    have e1 : fV2 σ m v = fV1 σ m v := by
      unfold fV2
      split
      · exact absurd rfl (hne _)
      · rfl
    have e2 : noNew2 n v = noNew1 n v := by
      unfold noNew2
      split
      · exact absurd rfl (hne _)
      · rfl
    rw [e1, VR2_of1 hne, VR2_of1 (fV1_noAgg hne)]
    exact VR1_f hag (e2 ▸ hn)
theorem fV2_noTuple {v : Value} (h : ∀ vs, v ≠ .tuple vs) : ∀ vs, fV2 σ m v ≠ .tuple vs := by
  intro vs
  unfold fV2
  split
  · simp
  · unfold fV1
    split
    · simp
    · simp
    · exact h vs
theorem VR_f {v u : Value} {n : Nat} (hag : ∀ k, k < n → ρ k = ρ' (fIx σ m k)) (hn : noNew n v = true) (ht : ∀ vs, v = .tuple vs → isWild vs.toList = false) : VR ρ v u ↔ VR ρ' (fV σ m v) u := by
  by_cases hc : ∃ vs, v = .tuple vs
  · obtain ⟨vs, rfl⟩ := hc
    have hwi := ht vs rfl
    have hwi' : isWild ((vs.toList.map (fV2 σ m)).toArray).toList = false := by
      cases hvs : vs.toList with
      | nil => rfl
      | cons a l => cases l with
        | nil => rw [hvs] at hwi; cases hwi
        | cons b l => rfl
    show VR ρ (.tuple vs) u ↔ VR ρ' (.tuple (vs.toList.map (fV2 σ m)).toArray) u
    rw [VR_tuple hwi, VR_tuple hwi']
    have hn' : vs.toList.all (noNew2 n) = true := by
      simp only [noNew, hwi, Bool.false_or] at hn
      exact hn
    constructor
    · rintro ⟨us, rfl, hp⟩
      exact ⟨us, rfl, by simpa using (PW_map (R := VR2 ρ) (R' := VR2 ρ') (f := fV2 σ m) (p := noNew2 n) (fun _ _ h => VR2_f hag h) hn').1 hp⟩
    · rintro ⟨us, rfl, hp⟩
      exact ⟨us, rfl, (PW_map (R := VR2 ρ) (R' := VR2 ρ') (f := fV2 σ m) (p := noNew2 n) (fun _ _ h => VR2_f hag h) hn').2 (by simpa using hp)⟩
  · have hne : ∀ vs, v ≠ .tuple vs := fun vs e => hc ⟨vs, e⟩
    have e1 : fV σ m v = fV2 σ m v := by
      unfold fV
      split
      · exact absurd rfl (hne _)
      · rfl
    have e2 : noNew n v = noNew2 n v := by
      unfold noNew
      split
      · exact absurd rfl (hne _)
      · rfl
    rw [e1, VR_of2 hne, VR_of2 (fV2_noTuple hne)]
    exact VR2_f hag (e2 ▸ hn)
/-- A value that is no tuple of one and points below n. -/
def okV (n : Nat) (v : Value) : Bool := noNew n v && (match v with | .tuple vs => !isWild vs.toList | _ => true)
theorem okV_f {v u : Value} {n : Nat} (hag : ∀ k, k < n → ρ k = ρ' (fIx σ m k)) (h : okV n v = true) : VR ρ v u ↔ VR ρ' (fV σ m v) u := by
  simp only [okV, Bool.and_eq_true] at h
  refine VR_f hag h.1 fun vs e => ?_
  subst e
  simpa using h.2
/-- Does a value point to block k? -/
def refs1 (k : Nat) : Value → Bool
  | .pointer (some ⟨j, _, _⟩) => Nat.beq j k
  | .slice (some ⟨j, _, _⟩) _ _ => Nat.beq j k
  | _ => false
def refs (k : Nat) : Value → Bool
  | .agg cs => cs.toList.any (refs1 k)
  | .tuple _ => false
  | v => refs1 k v
theorem refs1_def {k : Nat} {v u : Value} (h : VR1 ρ v u) (hr : refs1 k v = true) : ∃ x, ρ k = some x := by
  have hA : ∀ {a a' : Addr}, rA ρ a = some a' → ∃ x, ρ a.block = some x := fun {a a'} e => by
    unfold rA at e
    split at e
    · rename_i b s _ h2; exact ⟨_, h2⟩
    · cases e
  unfold refs1 at hr
  split at hr
  · rename_i j off sp
    obtain ⟨a', ha, _⟩ := VR1_ptr.1 h
    have := hA ha
    rwa [Nat.eq_of_beq_eq_true hr] at this
  · rename_i j off sp l c
    obtain ⟨a', ha, _⟩ := VR1_slice.1 h
    have := hA ha
    rwa [Nat.eq_of_beq_eq_true hr] at this
  · cases hr
theorem refs_def {k : Nat} {v u : Value} (h : VR ρ v u) (hr : refs k v = true) : ∃ x, ρ k = some x := by
  unfold refs at hr
  split at hr
  · rename_i cs
    obtain ⟨us, rfl, hp⟩ := VR2_agg.1 ((VR_of2 (by simp)).1 h)
    obtain ⟨c, hc, hcr⟩ := List.any_eq_true.1 hr
    obtain ⟨i, hi⟩ := List.mem_iff_getElem?.1 hc
    obtain ⟨b, hb, hR⟩ := hp.get hi
    exact refs1_def hR hcr
  · cases hr
  · rename_i h1 h2
    exact refs1_def ((VR2_of1 fun cs e => h1 cs e).1 ((VR_of2 fun vs e => h2 vs e).1 h)) hr
variable {P : Program}
/-- A CONTRACT ON THE ARGUMENTS' BLOCKS ALONE, WHICH ONLY READS THEM AND MAKES NEW ONES, IN A CALLER'S MEMORY. -/
theorem MC.frame {f : FuncId} {args : List Value} {mem0 news mem : Mem} {v : Value} {σ : List Nat} (h : MC P f args mem0 v (mem0 ++ news)) (hσ : σ.length = mem0.length)
    (hro : ∀ B ∈ mem0, B.own = false ∧ B.cells.all flat1 = true) (hnew : ∀ B ∈ news, B.cells.all flat1 = true)
    (hcells : ∀ (k k' : Nat) (B : Blk), σ[k]? = some k' → mem0[k]? = some B → ∃ C : Blk, mem[k']? = some C ∧ C.cells = B.cells)
    (hargs : args.all (okV mem0.length) = true) (hdef : ∀ k, k < mem0.length → args.any (refs k) = true) (hv : okV (mem0 ++ news).length v = true) :
    MC P f (args.map (fV σ mem.length)) mem (fV σ mem.length v) (mem ++ news) := by
  refine ⟨h.1, fun ρ w us hus hM => ?_⟩
  have hag0 : ∀ k, k < mem0.length → subR σ ρ k = ρ (fIx σ mem.length k) := fun k hk => by
    have hk' : k < σ.length := by omega
    unfold subR fIx
    rw [List.getElem?_eq_getElem hk']
  have hus0 : PW (VR (subR σ ρ)) args us := (PW_map (R := VR (subR σ ρ)) (R' := VR ρ) (f := fV σ mem.length) (p := okV mem0.length) (fun _ _ h => okV_f hag0 h) hargs).2 hus
  have hM0 : MRel (subR σ ρ) mem0 w := by
    refine ⟨fun k b s hk => ?_, fun k b s k' b' s' B _ _ hB ho _ => ?_⟩
    · have hk0 := hk
      unfold subR at hk
      split at hk
      · rename_i k' hk'
        have hlt : k < mem0.length := by have := (List.getElem?_eq_some_iff.1 hk').1; omega
        have hB : mem0[k]? = some mem0[k] := List.getElem?_eq_getElem hlt
        obtain ⟨C, hC, hcc⟩ := hcells k k' _ hk' hB
        obtain ⟨C', hC', hb, hcell⟩ := hM.cell k' b s hk
        rw [hC] at hC'
        cases hC'
        obtain ⟨hown, hfl⟩ := hro _ (List.mem_of_getElem? hB)
        refine ⟨_, hB, hb, fun i x hx => ⟨?_, fun ho => by rw [hown] at ho; cases ho⟩⟩
        obtain ⟨⟨u, hu, hw⟩, _⟩ := hcell i x (by rw [hcc]; exact hx)
        have hf := List.all_eq_true.1 hfl x (List.mem_of_getElem? hx)
        rw [VR1_flat hf] at hu
        exact ⟨u, (VR1_flat hf).2 hu, hw⟩
      · cases hk
    · rw [(hro B (List.mem_of_getElem? hB)).1] at ho; cases ho
  refine (h.2 (subR σ ρ) w us hus0 hM0).mono ?_
  rintro e w' ⟨v', m', ρ', u, rfl, ⟨rfl, rfl⟩, hu, hM', hmv⟩
  have hbelow : RowKit.Below w.heap.size w w' := ⟨hmv.os, hmv.tape, hmv.output, hmv.size, fun b hb => hmv.block b hb fun k s B _ hB => (hro B (List.mem_of_getElem? hB)).1⟩
  have hMw := hM.below hbelow
  have hsub : ∀ k, k < mem0.length → ∃ x, ρ' k = some x ∧ subR σ ρ k = some x := fun k hk => by
    obtain ⟨a, ha, hr⟩ := List.any_eq_true.1 (hdef k hk)
    obtain ⟨i, hi⟩ := List.mem_iff_getElem?.1 ha
    obtain ⟨b, hb, hR⟩ := hus0.get hi
    obtain ⟨x, hx⟩ := refs_def hR hr
    exact ⟨x, hmv.sub k x hx, hx⟩
  have hdom : ∀ k x, ρ k = some x → k < mem.length := fun k ⟨b, s⟩ hx => by
    obtain ⟨B, hB, _⟩ := hM.cell k b s hx
    exact (List.getElem?_eq_some_iff.1 hB).1
  let ρ1 : Ren := fun k => if k < mem.length then ρ k else ρ' (mem0.length + (k - mem.length))
  have hlo : ∀ k, k < mem.length → ρ1 k = ρ k := fun k hk => if_pos hk
  have hhi : ∀ k, mem.length ≤ k → ρ1 k = ρ' (mem0.length + (k - mem.length)) := fun k hk => if_neg (by omega)
  have hag1 : ∀ k, k < (mem0 ++ news).length → ρ' k = ρ1 (fIx σ mem.length k) := fun k hk => by
    rcases Nat.lt_or_ge k mem0.length with hlt | hge
    · obtain ⟨x, h1, h2⟩ := hsub k hlt
      have h3 := hag0 k hlt
      rw [h2] at h3
      rw [h1, hlo _ (hdom _ x h3.symm), h3]
    · have e : fIx σ mem.length k = mem.length + (k - mem0.length) := by
        unfold fIx
        rw [List.getElem?_eq_none (by omega), hσ]
      rw [e, hhi _ (by omega)]
      congr 1
      omega
  have hnewIdx : ∀ k b s, mem.length ≤ k → ρ1 k = some (b, s) → ∃ B : Blk, news[k - mem.length]? = some B ∧ (mem ++ news)[k]? = some B ∧ (mem0 ++ news)[mem0.length + (k - mem.length)]? = some B ∧ ρ' (mem0.length + (k - mem.length)) = some (b, s) ∧ w.heap.size ≤ b := fun k b s hk hx => by
    rw [hhi k hk] at hx
    obtain ⟨B, hB, _⟩ := hM'.cell _ b s hx
    have hB2 := hB
    rw [List.getElem?_append_right (by omega), Nat.add_sub_cancel_left] at hB
    refine ⟨B, hB, by rw [List.getElem?_append_right hk]; exact hB, hB2, hx, ?_⟩
    have hnone : subR σ ρ (mem0.length + (k - mem.length)) = none := by
      unfold subR
      rw [List.getElem?_eq_none (by omega)]
    exact hmv.new _ _ hx hnone
  refine ⟨_, _, ρ1, u, rfl, ⟨rfl, rfl⟩, (okV_f hag1 hv).1 hu, ⟨fun k b s hk => ?_, fun k b s k' b' s' B hk hk' hB ho hne => ?_⟩, fun k x hx => ?_, fun k x hx hk0 => ?_, fun k B hB => ⟨B, getElem?_pre hB, rfl⟩, hmv.os, hmv.tape, hmv.output, hmv.size, fun b hb _ => hbelow.block b hb⟩
  · rcases Nat.lt_or_ge k mem.length with hlt | hge
    · rw [hlo k hlt] at hk
      obtain ⟨B, hB, hb, hcell⟩ := hMw.cell k b s hk
      refine ⟨B, getElem?_pre hB, hb, fun i x hx => ⟨?_, (hcell i x hx).2⟩⟩
      obtain ⟨⟨u, hu, hw⟩, _⟩ := hcell i x hx
      exact ⟨u, hu.mono fun j y hy => by rw [hlo j (hdom j y hy)]; exact hy, hw⟩
    · obtain ⟨B, hB, hB1, hB0, hρ', _⟩ := hnewIdx k b s hge hk
      obtain ⟨B', hB', hb, hcell⟩ := hM'.cell _ b s hρ'
      rw [hB0] at hB'
      cases hB'
      refine ⟨B, hB1, hb, fun i x hx => ⟨?_, (hcell i x hx).2⟩⟩
      obtain ⟨⟨u, hu, hw⟩, _⟩ := hcell i x hx
      have hf := List.all_eq_true.1 (hnew B (List.mem_of_getElem? hB)) x (List.mem_of_getElem? hx)
      rw [VR1_flat hf] at hu
      exact ⟨u, (VR1_flat hf).2 hu, hw⟩
  · rcases Nat.lt_or_ge k mem.length with hlt | hge
    · rw [hlo k hlt] at hk
      rw [List.getElem?_append_left hlt] at hB
      rcases Nat.lt_or_ge k' mem.length with hlt' | hge'
      · rw [hlo k' hlt'] at hk'
        exact hMw.apart k b s k' b' s' B hk hk' hB ho hne
      · obtain ⟨_, _, _, _, _, hb'⟩ := hnewIdx k' b' s' hge' hk'
        obtain ⟨_, _, hb, _⟩ := hM.cell k b s hk
        omega
    · obtain ⟨C, hC, hC1, hC0, hρ', hb⟩ := hnewIdx k b s hge hk
      rw [hB] at hC1
      cases hC1
      rcases Nat.lt_or_ge k' mem.length with hlt' | hge'
      · rw [hlo k' hlt'] at hk'
        obtain ⟨_, _, hb', _⟩ := hM.cell k' b' s' hk'
        omega
      · obtain ⟨_, _, _, _, hρ2, _⟩ := hnewIdx k' b' s' hge' hk'
        exact hM'.apart _ b s _ b' s' B hρ' hρ2 hC0 ho (by omega)
  · rw [hlo k (hdom k x hx)]; exact hx
  · rcases Nat.lt_or_ge k mem.length with hlt | hge
    · rw [hlo k hlt, hk0] at hx; cases hx
    · obtain ⟨b, s⟩ := x
      obtain ⟨_, _, _, _, _, hb⟩ := hnewIdx k b s hge hx
      exact hb
end
end Go.Ev
