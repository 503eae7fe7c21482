/-
  Numbers as laws are given them: parts and a shift; laws on them.
-/
import Derived.Test.YtljolfnpncjklaaGreatTokE
import Derived.Deep.Slices
/-! Numbers as laws are given them: parts and a shift. -/
namespace Go.Ev
section
variable {P : Program}
open Go.ChangeShapes Go.WideShapes Go.Joins Go.Deep
/-- A contract on memory that is only read, as the machine sees it. -/
theorem MC.below {f : FuncId} {args : List Value} {mem mem' : Mem} {v : Value} (h : MC P f args mem v mem') (hro : ∀ B ∈ mem, B.own = false) (hv : flat v = true) {ρ : Ren} {w : World} {us : List Value} (hus : PW (VR ρ) args us) (hM : MRel ρ mem w) (hg : ∀ b, ρ.g b = none) :
    Calls P f us.toArray w fun e w' => e = .returned v ∧ RowKit.Below w.heap.size w w' := by
  refine (h.2 ρ w us hus hM).mono ?_
  rintro e w' ⟨v', m', ρ', u, rfl, ⟨rfl, rfl⟩, hu, hM', hmv⟩
  refine ⟨by rw [(VR_flat hv).1 hu], hmv.os, hmv.tape, hmv.output, hmv.size, fun b hb => hmv.block b hb (hg b) fun k s B _ hB => hro B (List.mem_of_getElem? hB)⟩
/-- A row of numbers that is only read. -/
def intB (t : TypeId) (l : List Int) : Blk := ⟨l.map (Value.int .i64), t, false⟩
/-- Parts and a shift: the parts in block j. -/
def numX (e : Bool) (j n cap : Nat) (k : Int) : Value := .agg #[match e with | true => sliceTok 0 0 | false => .slice (some ⟨j, 0, none⟩) n cap, .int .i64 k]
def numV (j : Nat) (l : List Int) (cap : Nat) (k : Int) : Value := numX l.isEmpty j l.length cap k
theorem numV_cons {j cap : Nat} {l : List Int} {k : Int} (h : l ≠ []) : numV j l cap k = .agg #[.slice (some ⟨j, 0, none⟩) l.length cap, .int .i64 k] := by
  cases l with
  | nil => exact absurd rfl h
  | cons a l => rfl
/-- Where the parts lie. -/
def LiesIn (W : World) (l : List Int) (A : Option (Nat × Nat)) : Prop := ∀ b s, A = some (b, s) → b < W.heap.size ∧ ∀ i u, (l.map (Value.int .i64))[i]? = some u → W.cell? ⟨b, s + i, none⟩ = some u
theorem lies_none (W : World) (l : List Int) : LiesIn W l none := fun b s h => by cases h
theorem arg_num {H : Type} {enc : TypeId × Value → H} {W : World} {base b0 : Nat} {spare : Nat → Bool} {held : Bool} {r : Reach} {t et : TypeId} {f0 f1 : Field} {v : Value} {d : DataW H} {ps : List MemPlace} (hs : P.underlying t = some (.struct #[f0, f1])) (hone : oneCellFields P #[f0, f1] = true) (hC : P.cellsOf t = 2)
    (h0 : P.underlying f0.type = some (.slice et)) (hc : P.cellsOf et = 1) (he : P.underlying et = some (.int .i64)) (h1 : P.underlying f1.type = some (.int .i64)) (hv : Value.okWide P W r b0 t v) (hd : DataW.Trod enc P W base spare held t v d ps) :
    ∃ (l : List Int) (cap : Nat) (k : Int) (A : Option (Nat × Nat)), (∀ x ∈ l, (Lit.int .i64 x).wf = true) ∧ (Lit.int .i64 k).wf = true ∧ l.length ≤ 9223372036854775807 ∧ LiesIn W l A ∧ ∀ (ρ : Ren) (j : Nat), ρ.m j = A → VR ρ (numV j l cap k) v := by
  obtain ⟨v0, v1, y0, y1, n, rfl, _, _, t0, t1⟩ := Go.Joins.open_agg2 hs hone hC hv hd
  obtain ⟨q, e1, _, w1⟩ := DataW.trod_int h1 t1
  cases e1
  have hagg : ∀ (ρ : Ren) (x u : Value), VR1 ρ x u → VR ρ (.agg #[x, .int .i64 q]) (.agg #[u, .int .i64 q]) := fun ρ x u hx => by
    rw [VR_of2 (by simp)]
    exact VR2_agg.2 ⟨_, rfl, PW.cons hx (PW.cons ((VR1_flat rfl).2 rfl) PW.nil)⟩
  rcases open_slice1 h0 hc t0 with ⟨e0, _⟩ | ⟨a, len, cap, m, n', V, D, Pl, e0, hb, hl, hm, hmm, _, hx⟩
  · cases e0
    refine ⟨[], 0, q, none, List.forall_mem_nil _, w1, Nat.zero_le _, lies_none W [], fun ρ j _ => hagg ρ (sliceTok 0 0) (.slice none 0 0) ((VR1_tok rfl).2 ?_)⟩
    exact ⟨none, 0, rfl, Nat.le_refl _, .inl rfl⟩
  · cases e0
    have hlm : len ≤ m := by rw [hmm]; split <;> omega
    have hX : ∀ i, i < len → V i = .int .i64 (intOf (V i)) ∧ (Lit.int .i64 (intOf (V i))).wf = true ∧ W.cell? (a.add i) = some (V i) := fun i hi => by
      obtain ⟨hcell, ht⟩ := hx i (by omega)
      obtain ⟨x, ex, _, wx⟩ := DataW.trod_int he ht
      have ex' : V i = .int .i64 x := by simpa using ex
      rw [ex'] at hcell ⊢
      exact ⟨rfl, wx, hcell⟩
    by_cases hz : len = 0
    · subst hz
      refine ⟨[], 0, q, none, List.forall_mem_nil _, w1, Nat.zero_le _, lies_none W [], fun ρ j _ => hagg ρ (sliceTok 0 0) (.slice (some a) 0 cap) ((VR1_tok rfl).2 ?_)⟩
      exact ⟨some a, cap, rfl, Nat.zero_le _, .inl rfl⟩
    · have hspot : a.spot = none := World.cell?_spot (a := a.add 0) (hX 0 (by omega)).2.2
      obtain ⟨ab, ao, asp⟩ := a
      subst hspot
      have hlt : ab < W.heap.size := by
        have h := (hX 0 (by omega)).2.2
        unfold World.cell? at h
        split at h
        · rename_i hg
          have := (Array.getElem?_eq_some_iff.1 hg).1
          exact this
        · cases h
      refine ⟨(List.range len).map fun i => intOf (V i), cap, q, some (ab, ao), fun x hx => ?_, w1, by
        have h48 : maxLen = 9223372036854775807 := by decide
        simp only [List.length_map, List.length_range]
        omega, fun b s h => ?_, fun ρ j hj => ?_⟩
      · obtain ⟨i, hi, rfl⟩ := List.mem_map.1 hx
        exact (hX i (List.mem_range.1 hi)).2.1
      · cases h
        refine ⟨hlt, fun i u hu => ?_⟩
        rw [List.getElem?_map, List.getElem?_map] at hu
        by_cases hi : i < len
        · rw [List.getElem?_range hi] at hu
          simp only [Option.map_some, Option.some.injEq] at hu
          obtain ⟨e, _, hcell⟩ := hX i hi
          rw [← hu, ← e]
          have ea : (⟨ab, ao, none⟩ : Addr).add i = ⟨ab, ao + i, none⟩ := by
            unfold Addr.add
            split
            · rename_i h; subst h; rfl
            · rfl
          rw [ea] at hcell
          exact hcell
        · rw [List.getElem?_eq_none (by simpa using hi)] at hu
          cases hu
      · rw [numV_cons (by
          intro e
          have := congrArg List.length e
          simp at this
          exact hz this)]
        refine hagg ρ _ _ ?_
        have := VR_slice (ρ := ρ) (k := j) (off := 0) (l := ((List.range len).map fun i => intOf (V i)).length) (c := cap) (u := .slice (some ⟨ab, ao, none⟩) len cap)
        rw [VR_of2 (by simp), VR2_of1 (by simp)] at this
        exact this.2 ⟨ab, ao, hj, by simp⟩
def renL (As : List (Option (Nat × Nat))) : Ren := ⟨fun j => match As[j]? with | some A => A | none => none, fun _ => none, [], fun _ => none⟩
theorem MRel.ints {W : World} {t : TypeId} : ∀ {As : List (Option (Nat × Nat))} {ls : List (List Int)}, PW (fun l A => LiesIn W l A) ls As → (ht : Nat.beq t lstT = false := by rfl) → MRel (renL As) (ls.map (intB t)) W := by
  intro As ls h ht
  have hown : ∀ (k : Nat) (B : Blk), (ls.map (intB t))[k]? = some B → B.own = false := fun k B hB => by
    rw [List.getElem?_map] at hB
    cases hl : ls[k]? with
    | none => rw [hl] at hB; cases hB
    | some l => rw [hl] at hB; cases hB; rfl
  refine ⟨fun k b s hk => ?_, fun k b s k' b' s' B _ _ hB ho => ?_, fun b cs hb => (by cases hb), LRel.empty (fun _ => rfl) fun k B hB hl => ?_⟩
  case refine_3 =>
    rw [List.getElem?_map] at hB
    cases hl0 : ls[k]? with
    | none => rw [hl0] at hB; cases hB
    | some l =>
      rw [hl0] at hB
      cases hB
      have hl' : (true && Nat.beq t lstT) = true := hl
      rw [ht] at hl'
      cases hl'
  · have hk' : (match As[k]? with | some A => A | none => none) = some (b, s) := hk
    split at hk'
    · rename_i A hA
      have hlt : k < ls.length := by rw [h.1]; exact (List.getElem?_eq_some_iff.1 hA).1
      have hl : ls[k]? = some ls[k] := List.getElem?_eq_getElem hlt
      obtain ⟨h1, h2⟩ := h.2 k _ _ hl hA b s hk'
      refine ⟨intB t ls[k], by rw [List.getElem?_map, hl]; rfl, h1, fun i v hv => ⟨⟨v, ?_, h2 i v hv⟩, fun ho => by cases ho⟩⟩
      have hv' : (ls[k].map (Value.int .i64))[i]? = some v := hv
      rw [List.getElem?_map] at hv'
      cases hx : ls[k][i]? with
      | none => rw [hx] at hv'; cases hv'
      | some x => rw [hx] at hv'; cases hv'; exact (VR1_flat rfl).2 rfl
    · cases hk'
  · rw [hown k B hB] at ho; cases ho
end
end Go.Ev
