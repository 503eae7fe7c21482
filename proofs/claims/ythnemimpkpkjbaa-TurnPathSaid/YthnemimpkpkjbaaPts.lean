/-
  Slices of pairs of integers as laws are given them.
-/
import Derived.Test.YthnemimpkpkjbaaEv5
import Derived.Deep.SlicePairs
namespace Go.Ev
section
variable {P : Program}
open Go.ChangeShapes Go.WideShapes Go.Joins Go.Deep
/-- A contract on memory that is only read, as the machine sees it. -/
theorem MC.belowC {f : FuncId} {args : List Value} {mem mem' : Mem} {v : Value} (h : MC P f args mem v mem') (hro : ∀ B ∈ mem, B.own = false) (hv : flat v = true) {ρ : Ren} {w : World} {us : List Value} (hus : PW (VR ρ) args us) (hM : MRel ρ mem w) (hg : ∀ b, ρ.g b = none) :
    Calls P f us.toArray w fun e w' => e = .returned v ∧ RowKit.Below w.heap.size w w' := by
  refine (h.2 ρ w us hus hM).mono ?_
  rintro e w' ⟨v', m', ρ', u, rfl, ⟨rfl, rfl⟩, hu, hM', hmv⟩
  refine ⟨by rw [(VR_flat hv).1 hu], hmv.os, hmv.tape, hmv.output, hmv.size, fun b hb => hmv.block b hb (hg b) fun k s B _ hB => hro B (List.mem_of_getElem? hB)⟩
/-- Cells that lie in the machine as they are. -/
def CellsIn (W : World) (cs : List Value) (A : Option (Nat × Nat)) : Prop := ∀ b s, A = some (b, s) → b < W.heap.size ∧ ∀ i u, cs[i]? = some u → flat1 u = true ∧ W.cell? ⟨b, s + i, none⟩ = some u
theorem CellsIn.none (W : World) (cs : List Value) : CellsIn W cs none := fun b s h => by cases h
/-- A block that is only read. -/
def rowB (t : TypeId) (cs : List Value) : Blk := ⟨cs, t, false⟩
def renC (As : List (Option (Nat × Nat))) : Ren := ⟨fun j => match As[j]? with | some A => A | none => none, fun _ => none, [], fun _ => none⟩
theorem MRel.rows {W : World} {As : List (Option (Nat × Nat))} {Bs : List Blk} (h : PW (fun (B : Blk) A => CellsIn W B.cells A ∧ B.own = false ∧ Nat.beq B.elem lstT = false) Bs As) : MRel (renC As) Bs W := by
  have hown : ∀ (k : Nat) (B : Blk), Bs[k]? = some B → B.own = false ∧ Nat.beq B.elem lstT = false := fun k B hB => by
    have hlt : k < As.length := by rw [← h.1]; exact (List.getElem?_eq_some_iff.1 hB).1
    exact (h.2 k B _ hB (List.getElem?_eq_getElem hlt)).2
  refine ⟨fun k b s hk => ?_, fun k b s k' b' s' B _ _ hB ho => ?_, fun b cs hb => (by cases hb), LRel.empty (fun _ => rfl) fun k B hB hl => ?_⟩
  case refine_3 =>
    have hl' : (true && Nat.beq B.elem lstT) = true := by
      have : (!B.own && Nat.beq B.elem lstT) = true := hl
      rwa [(hown k B hB).1] at this
    rw [(hown k B hB).2] at hl'
    cases hl'
  · have hk' : (match As[k]? with | some A => A | none => none) = some (b, s) := hk
    split at hk'
    · rename_i A hA
      have hlt : k < Bs.length := by rw [h.1]; exact (List.getElem?_eq_some_iff.1 hA).1
      have hl : Bs[k]? = some Bs[k] := List.getElem?_eq_getElem hlt
      obtain ⟨h1, h2, h3⟩ := h.2 k _ _ hl hA
      obtain ⟨g1, g2⟩ := h1 b s hk'
      refine ⟨Bs[k], hl, g1, fun i v hv => ⟨⟨v, ?_, (g2 i v hv).2⟩, fun ho => by rw [h2] at ho; cases ho⟩⟩
      exact (VR1_flat (g2 i v hv).1).2 rfl
    · cases hk'
  · rw [(hown k B hB).1] at ho; cases ho
/-- Pairs of integers, cell by cell. -/
def prL : List (Int × Int) → List Value
  | [] => []
  | p :: l => .int .i64 p.1 :: .int .i64 p.2 :: prL l
theorem prL_len : ∀ l : List (Int × Int), (prL l).length = 2 * l.length
  | [] => rfl
  | p :: l => by simp only [prL, List.length_cons, prL_len l]; omega
theorem prL_drop : ∀ {l : List (Int × Int)} {i : Nat} {p : Int × Int}, l[i]? = some p → ∃ r, (prL l).drop (2 * i) = .int .i64 p.1 :: .int .i64 p.2 :: r
  | [], i, p, h => by simp at h
  | q :: l, 0, p, h => by
    simp only [List.getElem?_cons_zero, Option.some.injEq] at h
    subst h
    exact ⟨prL l, rfl⟩
  | q :: l, i + 1, p, h => by
    simp only [List.getElem?_cons_succ] at h
    obtain ⟨r, hr⟩ := prL_drop h
    refine ⟨r, ?_⟩
    rw [show 2 * (i + 1) = (2 * i + 1) + 1 by omega]
    simp only [prL, List.drop_succ_cons]
    exact hr
theorem prL_row {l : List (Int × Int)} {i : Nat} {x y : Int} (h : l[i]? = some (x, y)) : Value.agg (((prL l).drop (0 + ((i : Nat) : Int).toNat * 2)).take 2).toArray = .agg #[.int .i64 x, .int .i64 y] := by
  obtain ⟨r, hr⟩ := prL_drop h
  rw [Int.toNat_natCast, Nat.zero_add, Nat.mul_comm, hr]
  rfl
theorem prL_in {l : List (Int × Int)} {i : Nat} (h : i < l.length) : decide (0 + ((i : Nat) : Int).toNat * 2 + 2 ≤ (prL l).length) = true := decide_eq_true (by rw [Int.toNat_natCast, prL_len]; omega)
theorem prL_all {p : Value → Bool} (hp : ∀ n, p (.int .i64 n) = true) : ∀ l : List (Int × Int), (prL l).all p = true
  | [] => rfl
  | q :: l => by simp only [prL, List.all_cons, hp, prL_all hp l, Bool.and_self]
theorem prL_flat (l : List (Int × Int)) : (prL l).all flat1 = true := prL_all (fun _ => rfl) l
theorem prL_noNew (n : Nat) (l : List (Int × Int)) : (prL l).all (noNew1 n) = true := prL_all (fun _ => rfl) l
theorem prL_low (n : Nat) (l : List (Int × Int)) : ((prL l).all (low1 n) && true) = true := by rw [prL_all (fun _ => rfl) l]; rfl
theorem prL_get : ∀ {l : List (Int × Int)} {i : Nat} {u : Value}, (prL l)[i]? = some u → ∃ (j : Nat) (p : Int × Int), l[j]? = some p ∧ ((i = 2 * j ∧ u = .int .i64 p.1) ∨ (i = 2 * j + 1 ∧ u = .int .i64 p.2))
  | [], i, u, h => by simp [prL] at h
  | p :: l, 0, u, h => by
    simp only [prL, List.getElem?_cons_zero, Option.some.injEq] at h
    exact ⟨0, p, rfl, .inl ⟨rfl, h.symm⟩⟩
  | p :: l, 1, u, h => by
    simp only [prL, List.getElem?_cons_succ, List.getElem?_cons_zero, Option.some.injEq] at h
    exact ⟨0, p, rfl, .inr ⟨rfl, h.symm⟩⟩
  | p :: l, i + 2, u, h => by
    simp only [prL, List.getElem?_cons_succ] at h
    obtain ⟨j, q, hj, ho⟩ := prL_get h
    refine ⟨j + 1, q, by simpa using hj, ?_⟩
    rcases ho with ⟨h1, h2⟩ | ⟨h1, h2⟩
    · exact .inl ⟨by omega, h2⟩
    · exact .inr ⟨by omega, h2⟩
/-- A slice of pairs in block j; where it is empty, whatever it points to. -/
def prX (e : Bool) (j n cap : Nat) : Value := match e with | true => sliceTok 0 0 | false => .slice (some ⟨j, 0, none⟩) n (cap + 1)
theorem arg_prs {H : Type} {enc : TypeId × Value → H} {W : World} {base b0 : Nat} {spare : Nat → Bool} {held : Bool} {r : Reach} {t e : TypeId} {f0 f1 : Field} {v : Value} {d : DataW H} {ps : List MemPlace} (ht : P.underlying t = some (.slice e)) (he : P.underlying e = some (.struct #[f0, f1]))
    (ce : P.cellsOf e = 2) (o0 : f0.offset = 0) (o1 : f1.offset = 1) (c0 : P.cellsOf f0.type = 1) (c1 : P.cellsOf f1.type = 1) (h0 : P.underlying f0.type = some (.int .i64)) (h1 : P.underlying f1.type = some (.int .i64)) (hv : Value.okWide P W r b0 t v) (hd : DataW.Trod enc P W base spare held t v d ps) :
    ∃ (l : List (Int × Int)) (cap : Nat) (A : Option (Nat × Nat)), (∀ p ∈ l, (Lit.int .i64 p.1).wf = true ∧ (Lit.int .i64 p.2).wf = true) ∧ l.length ≤ 9223372036854775807 ∧ l.length ≤ cap + 1 ∧ CellsIn W (prL l) A ∧ ∀ (ρ : Ren) (j : Nat), ρ.m j = A → VR ρ (prX l.isEmpty j l.length cap) v := by
  obtain ⟨a, len, cap, rfl⟩ := okWide_slice ht hv
  obtain ⟨fuel, hf⟩ := hd
  have hf' : DataW.trod enc P W base spare held fuel t [.slice a len cap] = some (d, ps) := hf
  rcases open_slice_pairs ht he ce o0 o1 c0 c1 hf' with ⟨e0, _⟩ | ⟨a', len', cap', m, n, V0, V1, D0, D1, P0, P1, e0, hb, hl, hm, hmm, _, hx⟩
  · cases e0
    refine ⟨[], 0, none, List.forall_mem_nil _, Nat.zero_le _, Nat.zero_le _, CellsIn.none W _, fun ρ j _ => VR_sliceTok.2 ?_⟩
    exact ⟨none, 0, rfl, Nat.le_refl _, .inl rfl⟩
  · cases e0
    have hlm : len ≤ m := by rw [hmm]; split <;> omega
    by_cases hz : len = 0
    · subst hz
      refine ⟨[], 0, none, List.forall_mem_nil _, Nat.zero_le _, Nat.zero_le _, CellsIn.none W _, fun ρ j _ => VR_sliceTok.2 ?_⟩
      exact ⟨some a', cap, rfl, Nat.zero_le _, .inl rfl⟩
    · have hspot : a'.spot = none := World.cell?_spot (a := a'.add (0 * 2)) (hx 0 (by omega)).1
      obtain ⟨ab, ao, asp⟩ := a'
      subst hspot
      have ea : ∀ i, (⟨ab, ao, none⟩ : Addr).add i = ⟨ab, ao + i, none⟩ := fun i => by
        unfold Addr.add
        split
        · rename_i h; subst h; rfl
        · rfl
      have hX : ∀ i, i < len → ∃ x y, V0 i = .int .i64 x ∧ V1 i = .int .i64 y ∧ (Lit.int .i64 x).wf = true ∧ (Lit.int .i64 y).wf = true ∧ W.cell? ⟨ab, ao + 2 * i, none⟩ = some (.int .i64 x) ∧ W.cell? ⟨ab, ao + (2 * i + 1), none⟩ = some (.int .i64 y) := fun i hi => by
        obtain ⟨k1, k2, k3, k4⟩ := hx i (by omega)
        obtain ⟨x, ex, _, wx⟩ := DataW.trod_int h0 k3
        obtain ⟨y, ey, _, wy⟩ := DataW.trod_int h1 k4
        have ex' : V0 i = .int .i64 x := by simpa using ex
        have ey' : V1 i = .int .i64 y := by simpa using ey
        rw [ex', ea, Nat.mul_comm] at k1
        rw [ey', ea, Nat.mul_comm] at k2
        exact ⟨x, y, ex', ey', wx, wy, k1, k2⟩
      have hlt : ab < W.heap.size := by
        obtain ⟨x, y, _, _, _, _, h, _⟩ := hX 0 (by omega)
        unfold World.cell? at h
        split at h
        · rename_i hg
          exact (Array.getElem?_eq_some_iff.1 hg).1
        · cases h
      obtain ⟨l, hll, hlp⟩ := list_choose (n := len) (p := fun i (p : Int × Int) => (Lit.int .i64 p.1).wf = true ∧ (Lit.int .i64 p.2).wf = true ∧ W.cell? ⟨ab, ao + 2 * i, none⟩ = some (.int .i64 p.1) ∧ W.cell? ⟨ab, ao + (2 * i + 1), none⟩ = some (.int .i64 p.2)) (fun i hi => by
        obtain ⟨x, y, _, _, wx, wy, k1, k2⟩ := hX i hi
        exact ⟨(x, y), wx, wy, k1, k2⟩)
      have h48 : maxLen = 9223372036854775807 := by decide
      refine ⟨l, cap - 1, some (ab, ao), fun p hp => ?_, by omega, by omega, fun b s h => ?_, fun ρ j hj => ?_⟩
      · obtain ⟨i, hi⟩ := List.getElem?_of_mem hp
        exact ⟨(hlp i p hi).1, (hlp i p hi).2.1⟩
      · cases h
        refine ⟨hlt, fun i u hu => ?_⟩
        obtain ⟨k, p, hk, ho⟩ := prL_get hu
        obtain ⟨_, _, g1, g2⟩ := hlp k p hk
        rcases ho with ⟨rfl, rfl⟩ | ⟨rfl, rfl⟩
        · exact ⟨rfl, g1⟩
        · exact ⟨rfl, g2⟩
      · have hne : l.isEmpty = false := by
          cases l with
          | nil => exact absurd hll.symm (by simpa using hz)
          | cons => rfl
        rw [hne]
        show VR ρ (.slice (some ⟨j, 0, none⟩) l.length (cap - 1 + 1)) _
        rw [hll, show cap - 1 + 1 = cap by omega]
        exact VR_slice.2 ⟨ab, ao, hj, by simp⟩
end
end Go.Ev
