/-
  Lists that grow: a list born of a nil slice in a cell; what a header reads.
-/
import Derived.Test.YtcpaajjeoeejaaaGreatEv5
namespace Go.Ev
section
variable {P : Program} {ρ : Ren} {mem : Mem} {w : World}
theorem MRel.fresh (h : MRel ρ mem w) {k : Nat} (hk : mem.length ≤ k) : ρ k = none := by
  cases hx : ρ k with
  | none => rfl
  | some x =>
    obtain ⟨B, hB, _⟩ := h.cell k x.1 x.2 hx
    have := (List.getElem?_eq_some_iff.1 hB).1
    omega
/-- The list's block. -/
def noneB : Blk := ⟨[], lstT, false⟩
/-- The nil slice in cell i of block j becomes a list without elements (of z + 1 cells each). -/
def bornAt (mem : Mem) (j i z : Nat) : Mem := match mem[j]? with
  | some B => mem.set j { B with cells := B.cells.set i (lstTok mem.length 0 z) } ++ [noneB]
  | none => mem
theorem bornAt_eq {j i z : Nat} {B : Blk} (hB : mem[j]? = some B) : bornAt mem j i z = mem.set j { B with cells := B.cells.set i (lstTok mem.length 0 z) } ++ [noneB] := by
  unfold bornAt
  rw [hB]
theorem VR1_born {k z : Nat} {u : Value} (h : VR1 ρ (.slice none 0 0) u) : VR1 ρ (lstTok k 0 z) u := by
  rw [(VR1_flat rfl).1 h]
  exact (VR1_tok rfl).2 ⟨none, 0, rfl, Nat.le_refl _, .inl ⟨rfl, rfl⟩⟩
theorem born_kept {j i z : Nat} {B : Blk} (hB : mem[j]? = some B) : ∀ (k : Nat) (D : Blk), mem[k]? = some D → ∃ D', (bornAt mem j i z)[k]? = some D' ∧ D'.own = D.own := fun k D hD => by
  rw [bornAt_eq hB]
  obtain ⟨D', h1, h2⟩ := kept_set hB (B.cells.set i (lstTok mem.length 0 z)) k D hD
  exact ⟨D', getElem?_pre h1, h2⟩
theorem MRel.born (h : MRel ρ mem w) {j i z : Nat} {B : Blk} (hB : mem[j]? = some B) (ho : B.own = true) (hi : B.cells[i]? = some (.slice none 0 0)) : MRel ρ (bornAt mem j i z) w := by
  have hjl : j < mem.length := (List.getElem?_eq_some_iff.1 hB).1
  have hfr := h.fresh (Nat.le_refl mem.length)
  have hlt : ∀ k x, ρ k = some x → k < mem.length := fun k x hx => by
    rcases Nat.lt_or_ge k mem.length with hk | hk
    · exact hk
    · rw [h.fresh hk] at hx; cases hx
  rw [bornAt_eq hB]
  have hget : ∀ k, k < mem.length → k ≠ j → (mem.set j { B with cells := B.cells.set i (lstTok mem.length 0 z) } ++ [noneB])[k]? = mem[k]? := fun k hk hne => by
    rw [List.getElem?_append_left (by rw [List.length_set]; exact hk), List.getElem?_set_ne (Ne.symm hne)]
  have hgetj : (mem.set j { B with cells := B.cells.set i (lstTok mem.length 0 z) } ++ [noneB])[j]? = some { B with cells := B.cells.set i (lstTok mem.length 0 z) } := by
    rw [List.getElem?_append_left (by rw [List.length_set]; exact hjl), List.getElem?_set_self hjl]
  have hback : ∀ (k : Nat) (D : Blk), ρ k ≠ none → (mem.set j { B with cells := B.cells.set i (lstTok mem.length 0 z) } ++ [noneB])[k]? = some D → ∃ D', mem[k]? = some D' ∧ D'.own = D.own := fun k D hk hD => by
    obtain ⟨x, hx⟩ := Option.ne_none_iff_exists'.1 hk
    by_cases e : k = j
    · subst e
      rw [hgetj] at hD
      cases hD
      exact ⟨B, hB, rfl⟩
    · rw [hget k (hlt k x hx) e] at hD
      exact ⟨D, hD, rfl⟩
  refine ⟨fun k b s hk => ?_, fun k b s k' b' s' D hk hk' hD hd hne => ?_, fun b cs hh => ?_, ⟨fun b x hx => ?_, fun k D hD hl => ?_⟩⟩
  · obtain ⟨D, hD, hb, hcell⟩ := h.cell k b s hk
    by_cases e : k = j
    · subst e
      rw [hB] at hD
      cases hD
      refine ⟨_, hgetj, hb, fun p v hv => ?_⟩
      have hv' : (B.cells.set i (lstTok mem.length 0 z))[p]? = some v := hv
      by_cases hp : i = p
      · subst hp
        obtain ⟨⟨u, hu, hw⟩, hf⟩ := hcell i _ hi
        rw [List.getElem?_set_self (List.getElem?_eq_some_iff.1 hi).1] at hv'
        cases hv'
        exact ⟨⟨u, VR1_born hu, hw⟩, hf⟩
      · rw [List.getElem?_set_ne hp] at hv'
        exact hcell p v hv'
    · exact ⟨D, by rw [hget k (hlt k _ hk) e]; exact hD, hb, hcell⟩
  · obtain ⟨D', h1, h2⟩ := hback k D (by rw [hk]; simp) hD
    exact h.apart k b s k' b' s' D' hk hk' h1 (h2.trans hd) hne
  · obtain ⟨h1, h2, h3⟩ := h.froz b cs hh
    refine ⟨h1, h2, fun k s D hk hD => ?_⟩
    obtain ⟨D', h4, h5⟩ := hback k D (by rw [hk]; simp) hD
    rw [← h5]
    exact h3 k s D' hk h4
  · have hL := h.lists.lst b x hx
    refine hL.move (Nat.le_refl _) rfl hL.nomap hL.noh fun D hD hl => ⟨D, [], ?_, hl, (List.append_nil _).symm⟩
    rw [hget _ (List.getElem?_eq_some_iff.1 hD).1 fun e => ?_]
    · exact hD
    · rw [e, hB] at hD
      cases hD
      rw [Blk.isL_own ho] at hl
      cases hl
  · rcases Nat.lt_or_ge k mem.length with hk | hk
    · by_cases e : k = j
      · subst e
        rw [hgetj] at hD
        cases hD
        have : Blk.isL { B with cells := B.cells.set i (lstTok mem.length 0 z) } = false := Blk.isL_own ho
        rw [this] at hl
        cases hl
      · rw [hget k hk e] at hD
        exact h.lists.lmap k D hD hl
    · exact h.fresh hk
theorem Mv.weaken {mem2 m' : Mem} {ρ' : Ren} {w' : World} (h : Mv ρ mem2 w ρ' m' w') (hk : ∀ (k : Nat) (D : Blk), mem[k]? = some D → ∃ D', mem2[k]? = some D' ∧ D'.own = D.own) (hM : MRel ρ mem w) : Mv ρ mem w ρ' m' w' :=
  ⟨h.sub, h.new, fun k D hD => by
    obtain ⟨D', h1, h2⟩ := hk k D hD
    obtain ⟨D2, h3, h4⟩ := h.kept k D' h1
    exact ⟨D2, h3, h4.trans h2⟩, h.os, h.tape, h.output, h.size, fun b hb hg hn => h.block b hb hg fun k s D hρ hD => by
    obtain ⟨D0, hD0, _⟩ := hM.cell k b s hρ
    obtain ⟨D', h1, h2⟩ := hk k D0 hD0
    rw [h1] at hD
    cases hD
    rw [h2]
    exact hn k s D0 hρ hD0, h.newh, h.newg⟩
/-- A contract on a memory in which the list is, where it is still to be born. -/
theorem MC.born {g : FuncId} {args : List Value} {v : Value} {mem' : Mem} (j i z : Nat) {B : Blk} (hB : mem[j]? = some B) (ho : B.own = true) (hi : B.cells[i]? = some (.slice none 0 0)) (h : MC P g args (bornAt mem j i z) v mem') : MC P g args mem v mem' :=
  ⟨h.1, fun ρ w us hus hM => (h.2 ρ w us hus (hM.born hB ho hi)).mono fun e w' ⟨v', m, ρ', u, h1, h2, h3, h4, h5⟩ => ⟨v', m, ρ', u, h1, h2, h3, h4, h5.weaken (born_kept hB) hM⟩⟩
theorem Tri.born {c : Code} {S : St} {Q : Exit → St → Prop} (j i z : Nat) {B : Blk} (hB : S.mem[j]? = some B) (ho : B.own = true) (hi : B.cells[i]? = some (.slice none 0 0)) (h : Tri P c ⟨S.tmps, bornAt S.mem j i z⟩ Q) : Tri P c S Q :=
  fun ρ a w hr => wp_mono (h ρ a w ⟨hr.tmps, hr.defers, hr.mem.born hB ho hi⟩) fun e a' w' ⟨S', ρ', h1, h2, h3⟩ => ⟨S', ρ', h1, h2, h3.weaken (born_kept hB) hr.mem⟩
/-- What a header reads. -/
theorem MRel.reads (h : MRel ρ mem w) {k l z : Nat} {u : Value} {B : Blk} (hu : VR ρ (lstTok k l z) u) (hB : mem[k]? = some B) :
    ∃ a c, u = .slice a l c ∧ l ≤ c ∧ ((a = none ∧ l = 0 ∧ c = 0) ∨ ∃ b, a = some ⟨b, 0, none⟩ ∧ b < w.heap.size ∧ ∀ i v, i < l * (z + 1) → B.cells[i]? = some v → w.cell? ⟨b, i, none⟩ = some v) := by
  obtain ⟨a, c, rfl, hlc, hor⟩ := VR_lst.1 hu
  refine ⟨a, c, rfl, hlc, ?_⟩
  rcases hor with ⟨rfl, rfl⟩ | ⟨b, x, rfl, hg, hxk, _, _, hlen⟩
  · exact .inl ⟨rfl, by omega, rfl⟩
  · have hL := h.lists.lst b x hg
    refine .inr ⟨b, rfl, hL.lt, fun i v hi hv => ?_⟩
    obtain ⟨B', t, h1, _, h3⟩ := hL.list
    rw [hxk, hB] at h1
    cases h1
    rw [h3, List.getElem?_append_left (by omega)] at hv
    exact (hL.cells i v hv).2
end
end Go.Ev
