/-
  Slices that laws are given, as rows that nobody writes: integers, pairs.
-/
import Derived.Test.YtljolfnpncjklaaGreatEv5
import Derived.Deep.SlicePairs
namespace Go.Ev
section
variable {P : Program}
open Go.ChangeShapes Go.WideShapes Go.Joins Go.Deep
/-- All blocks as they lie when the law begins. -/
def renH (W : World) : Ren := ⟨fun _ => none, cellsOf W, [], fun _ => none⟩
theorem MRel.all (W : World) : MRel (renH W) [] W := ⟨(fun k b s h => by cases h), (fun _ _ _ _ _ _ _ h => by cases h), (fun b cs h => ⟨(cellsOf_get h).1, (cellsOf_get h).2, fun k s B hk => by cases hk⟩), LRel.empty (fun _ => rfl) (fun k B h => by cases h)⟩
/-- A contract on rows, as the machine sees it. -/
theorem MC.belowA {f : FuncId} {args : List Value} {v : Value} (h : MC P f args [] v []) (hv : flat v = true) {w : World} {us : List Value} (hus : PW (VR (renH w)) args us) :
    Calls P f us.toArray w fun e w' => e = .returned v ∧ RowKit.Below w.heap.size w w' := by
  refine (h.2 (renH w) w us hus (MRel.all w)).mono ?_
  rintro e w' ⟨v', m', ρ', u, rfl, ⟨rfl, rfl⟩, hu, hM', hmv⟩
  exact ⟨by rw [(VR_flat hv).1 hu], hmv.os, hmv.tape, hmv.output, hmv.size, fun b hb => hmv.block b hb rfl fun k s B hk _ => by cases hk⟩
theorem add_plain' (ab ao i : Nat) : (⟨ab, ao, none⟩ : Addr).add i = ⟨ab, ao + i, none⟩ := by
  unfold Addr.add
  split
  · rename_i h; subst h; rfl
  · rfl
/-- Cells that lie where a slice points, as a row. -/
theorem row_of {W : World} {a : Addr} {l c : Nat} {cs : List Value} (hlc : l ≤ c) (hp : cs.all plain = true) (hl : l ≠ 0 → cs ≠ []) (hcell : ∀ (i : Nat) (v : Value), cs[i]? = some v → W.cell? (a.add i) = some v) : VR (renH W) (rowTok l cs) (.slice (some a) l c) := by
  refine VR_row.2 ⟨by simpa using hp, some a, c, rfl, hlc, ?_⟩
  rcases Nat.eq_zero_or_pos l with h0 | h0
  · exact .inl h0
  · refine .inr ?_
    obtain ⟨x, xs, rfl⟩ : ∃ x xs, cs = x :: xs := by
      cases cs with
      | nil => exact absurd rfl (hl (by omega))
      | cons x xs => exact ⟨x, xs, rfl⟩
    have hspot : a.spot = none := World.cell?_spot (a := a.add 0) (hcell 0 x rfl)
    obtain ⟨ab, ao, asp⟩ := a
    subst hspot
    refine ⟨ab, ao, rfl, fun i v hi => ?_⟩
    have h := hcell i v (by simpa using hi)
    rw [add_plain'] at h
    obtain ⟨hs, h1, h2⟩ := cell_cellsOf h
    exact ⟨hs, h1, h2 _ _ h⟩
theorem row_nil {W : World} {c : Nat} : VR (renH W) (rowTok 0 []) (.slice none 0 c) := VR_row.2 ⟨rfl, none, c, rfl, Nat.zero_le _, .inl rfl⟩
/-- The cells of integers. -/
def ilL (k : IntKind) (l : List Int) : List Value := l.map (Value.int k)
theorem ilL_plain (k : IntKind) (l : List Int) : (ilL k l).all plain = true := by
  unfold ilL
  rw [List.all_map, List.all_eq_true]
  intro x _
  rfl
theorem arg_ints_v {H : Type} {enc : TypeId × Value → H} {W : World} {base : Nat} {spare : Nat → Bool} {held : Bool} {t e : TypeId} {k : IntKind} {fuel : Nat} {v : Value} {x : DataW H × List MemPlace} (ht : P.underlying t = some (.slice e)) (he : P.underlying e = some (.int k)) (hc : P.cellsOf e = 1) (hd : DataW.trod enc P W base spare held fuel t [v] = some x) :
    ∃ l : List Int, (∀ z ∈ l, (Lit.int k z).wf = true) ∧ l.length ≤ 9223372036854775807 ∧ VR (renH W) (rowTok l.length (ilL k l)) v := by
  rcases open_slice1 ht hc hd with ⟨e0, _⟩ | ⟨a, len, cap, m, n', V, D, Pl, e0, hb, hl, hm, hmm, _, hx⟩
  · cases e0
    exact ⟨[], List.forall_mem_nil _, Nat.zero_le _, row_nil⟩
  · cases e0
    have hlm : len ≤ m := by rw [hmm]; split <;> omega
    obtain ⟨l, hll, hlp⟩ := list_choose (n := len) (p := fun i (z : Int) => (Lit.int k z).wf = true ∧ W.cell? (a.add i) = some (.int k z)) (fun i hi => by
      obtain ⟨hcell, htr⟩ := hx i (by omega)
      obtain ⟨z, ez, _, wz⟩ := DataW.trod_int he htr
      have ez' : V i = .int k z := by simpa using ez
      rw [ez'] at hcell
      exact ⟨z, wz, hcell⟩)
    have h48 : maxLen = 9223372036854775807 := by decide
    refine ⟨l, fun z hz => ?_, by omega, ?_⟩
    · obtain ⟨i, hi⟩ := List.getElem?_of_mem hz
      exact (hlp i z hi).1
    · rw [hll]
      refine row_of (by omega) (ilL_plain k l) (fun h0 e => ?_) fun i u hu => ?_
      · have : l.length = 0 := by
          have := congrArg List.length e
          simpa [ilL] using this
        omega
      · unfold ilL at hu
        rw [List.getElem?_map] at hu
        cases hz : l[i]? with
        | none => rw [hz] at hu; cases hu
        | some z =>
          rw [hz] at hu
          cases hu
          exact (hlp i z hz).2
theorem arg_row {H : Type} {enc : TypeId × Value → H} {W : World} {base b0 : Nat} {spare : Nat → Bool} {held : Bool} {r : Reach} {t e : TypeId} {k : IntKind} {v : Value} {d : DataW H} {ps : List MemPlace} (ht : P.underlying t = some (.slice e)) (he : P.underlying e = some (.int k)) (hc : P.cellsOf e = 1) (hv : Value.okWide P W r b0 t v) (hd : DataW.Trod enc P W base spare held t v d ps) :
    ∃ l : List Int, (∀ z ∈ l, (Lit.int k z).wf = true) ∧ l.length ≤ 9223372036854775807 ∧ VR (renH W) (rowTok l.length (ilL k l)) v := by
  obtain ⟨a, len, cap, rfl⟩ := okWide_slice ht hv
  obtain ⟨fuel, hf⟩ := hd
  exact arg_ints_v ht he hc hf
/-- A struct of a slice of integers and an integer. -/
def numT (l : List Int) (k : Int) : Value := .agg #[rowTok l.length (ilL .i64 l), .int .i64 k]
theorem num_of {H : Type} {enc : TypeId × Value → H} {W : World} {base : Nat} {spare : Nat → Bool} {held : Bool} {fuel fuel' : Nat} {t0 t1 et : TypeId} {v0 v1 : Value} {x0 x1 : DataW H × List MemPlace} (h0 : P.underlying t0 = some (.slice et)) (hc : P.cellsOf et = 1) (he : P.underlying et = some (.int .i64)) (h1 : P.underlying t1 = some (.int .i64))
    (d0 : DataW.trod enc P W base spare held fuel t0 [v0] = some x0) (d1 : DataW.trod enc P W base spare held fuel' t1 [v1] = some x1) : ∃ (l : List Int) (k : Int), (∀ z ∈ l, (Lit.int .i64 z).wf = true) ∧ (Lit.int .i64 k).wf = true ∧ l.length ≤ 9223372036854775807 ∧ VR (renH W) (rowTok l.length (ilL .i64 l)) v0 ∧ v1 = .int .i64 k := by
  obtain ⟨l, w, hl, hr⟩ := arg_ints_v h0 he hc d0
  obtain ⟨q, e1, _, w1⟩ := DataW.trod_int h1 d1
  have e1' : v1 = .int .i64 q := by simpa using e1
  exact ⟨l, q, w, w1, hl, hr, e1'⟩
/-- The cells of pairs of an integer and a bool. -/
def vbL : List (Int × Bool) → List Value
  | [] => []
  | p :: l => .int .i64 p.1 :: .bool p.2 :: vbL l
theorem vbL_len : ∀ l : List (Int × Bool), (vbL l).length = 2 * l.length
  | [] => rfl
  | p :: l => by simp only [vbL, List.length_cons, vbL_len l]; omega
theorem vbL_plain : ∀ l : List (Int × Bool), (vbL l).all plain = true
  | [] => rfl
  | p :: l => by simp only [vbL, List.all_cons, vbL_plain l]; rfl
theorem vbL_at : ∀ {l : List (Int × Bool)} {i : Nat} {p : Int × Bool}, l[i]? = some p → (vbL l)[2 * i]? = some (.int .i64 p.1) ∧ (vbL l)[2 * i + 1]? = some (.bool p.2)
  | [], i, p, h => by simp at h
  | q :: l, 0, p, h => by
    simp only [List.getElem?_cons_zero, Option.some.injEq] at h
    subst h
    exact ⟨rfl, rfl⟩
  | q :: l, i + 1, p, h => by
    simp only [List.getElem?_cons_succ] at h
    have := vbL_at h
    rw [show 2 * (i + 1) = 2 * i + 2 by omega]
    simp only [vbL, List.getElem?_cons_succ]
    exact this
theorem vbL_get : ∀ {l : List (Int × Bool)} {i : Nat} {u : Value}, (vbL l)[i]? = some u → ∃ (j : Nat) (p : Int × Bool), l[j]? = some p ∧ ((i = 2 * j ∧ u = .int .i64 p.1) ∨ (i = 2 * j + 1 ∧ u = .bool p.2))
  | [], i, u, h => by simp [vbL] at h
  | p :: l, 0, u, h => by
    simp only [vbL, List.getElem?_cons_zero, Option.some.injEq] at h
    exact ⟨0, p, rfl, .inl ⟨rfl, h.symm⟩⟩
  | p :: l, 1, u, h => by
    simp only [vbL, List.getElem?_cons_succ, List.getElem?_cons_zero, Option.some.injEq] at h
    exact ⟨0, p, rfl, .inr ⟨rfl, h.symm⟩⟩
  | p :: l, i + 2, u, h => by
    simp only [vbL, List.getElem?_cons_succ] at h
    obtain ⟨j, q, hj, ho⟩ := vbL_get h
    refine ⟨j + 1, q, by simpa using hj, ?_⟩
    rcases ho with ⟨h1, h2⟩ | ⟨h1, h2⟩
    · exact .inl ⟨by omega, h2⟩
    · exact .inr ⟨by omega, h2⟩
theorem arg_vbs {H : Type} {enc : TypeId × Value → H} {W : World} {base b0 : Nat} {spare : Nat → Bool} {held : Bool} {r : Reach} {t e : TypeId} {f0 f1 : Field} {v : Value} {d : DataW H} {ps : List MemPlace} (ht : P.underlying t = some (.slice e)) (he : P.underlying e = some (.struct #[f0, f1]))
    (ce : P.cellsOf e = 2) (o0 : f0.offset = 0) (o1 : f1.offset = 1) (c0 : P.cellsOf f0.type = 1) (c1 : P.cellsOf f1.type = 1) (h0 : P.underlying f0.type = some (.int .i64)) (h1 : P.underlying f1.type = some .bool) (hv : Value.okWide P W r b0 t v) (hd : DataW.Trod enc P W base spare held t v d ps) :
    ∃ l : List (Int × Bool), (∀ p ∈ l, (Lit.int .i64 p.1).wf = true) ∧ l.length ≤ 9223372036854775807 ∧ VR (renH W) (rowTok l.length (vbL l)) v := by
  obtain ⟨a, len, cap, rfl⟩ := okWide_slice ht hv
  obtain ⟨fuel, hf⟩ := hd
  have hf' : DataW.trod enc P W base spare held fuel t [.slice a len cap] = some (d, ps) := hf
  rcases open_slice_pairs ht he ce o0 o1 c0 c1 hf' with ⟨e0, _⟩ | ⟨a', len', cap', m, n, V0, V1, D0, D1, P0, P1, e0, hb, hl, hm, hmm, _, hx⟩
  · cases e0
    exact ⟨[], List.forall_mem_nil _, Nat.zero_le _, row_nil⟩
  · cases e0
    have hlm : len ≤ m := by rw [hmm]; split <;> omega
    obtain ⟨l, hll, hlp⟩ := list_choose (n := len) (p := fun i (p : Int × Bool) => (Lit.int .i64 p.1).wf = true ∧ W.cell? (a'.add (2 * i)) = some (.int .i64 p.1) ∧ W.cell? (a'.add (2 * i + 1)) = some (.bool p.2)) (fun i hi => by
      obtain ⟨k1, k2, k3, k4⟩ := hx i (by omega)
      obtain ⟨x, ex, _, wx⟩ := DataW.trod_int h0 k3
      obtain ⟨y, ey, _⟩ := DataW.trod_bool h1 k4
      have ex' : V0 i = .int .i64 x := by simpa using ex
      have ey' : V1 i = .bool y := by simpa using ey
      rw [ex', Nat.mul_comm] at k1
      rw [ey', Nat.mul_comm] at k2
      exact ⟨(x, y), wx, k1, k2⟩)
    have h48 : maxLen = 9223372036854775807 := by decide
    refine ⟨l, fun p hp => ?_, by omega, ?_⟩
    · obtain ⟨i, hi⟩ := List.getElem?_of_mem hp
      exact (hlp i p hi).1
    · rw [hll]
      refine row_of (by omega) (vbL_plain l) (fun h0 e => ?_) fun i u hu => ?_
      · have := congrArg List.length e
        rw [vbL_len] at this
        rw [List.length_nil] at this
        omega
      · obtain ⟨j, p, hj, ho⟩ := vbL_get hu
        obtain ⟨_, g1, g2⟩ := hlp j p hj
        rcases ho with ⟨rfl, rfl⟩ | ⟨rfl, rfl⟩
        · exact g1
        · exact g2
/-- One number of a struct of numbers. -/
theorem num_at {H : Type} {enc : TypeId × Value → H} {W : World} {base : Nat} {spare : Nat → Bool} {held : Bool} {fuel : Nat} {tn et : TypeId} {g0 g1 : Field} {v0 v1 : Value} {x : DataW H × List MemPlace} (hs : P.underlying tn = some (.struct #[g0, g1])) (hone : oneCellFields P #[g0, g1] = true)
    (h0 : P.underlying g0.type = some (.slice et)) (hc : P.cellsOf et = 1) (he : P.underlying et = some (.int .i64)) (h1 : P.underlying g1.type = some (.int .i64)) (hd : DataW.trod enc P W base spare held fuel tn [v0, v1] = some x) :
    ∃ (l : List Int) (k : Int), (∀ z ∈ l, (Lit.int .i64 z).wf = true) ∧ (Lit.int .i64 k).wf = true ∧ l.length ≤ 9223372036854775807 ∧ VR (renH W) (rowTok l.length (ilL .i64 l)) v0 ∧ v1 = .int .i64 k := by
  obtain ⟨z0, z1, n2, _, _, i0, i1⟩ := trod_struct2 hs hd
  obtain ⟨p0, q0⟩ := hone_of hone 0 g0 rfl
  obtain ⟨p1, q1⟩ := hone_of hone 1 g1 rfl
  have i0' : DataW.trod enc P W base spare held n2 g0.type [v0] = some z0 := by simpa [p0, q0] using i0
  have i1' : DataW.trod enc P W base spare held n2 g1.type [v1] = some z1 := by simpa [p1, q1] using i1
  exact num_of h0 hc he h1 i0' i1'
theorem array14 {α : Type} {cs : Array α} (h : cs.size = 14) : ∃ c0 c1 c2 c3 c4 c5 c6 c7 c8 c9 c10 c11 c12 c13, cs = #[c0, c1, c2, c3, c4, c5, c6, c7, c8, c9, c10, c11, c12, c13] := by
  obtain ⟨l⟩ := cs
  match l, h with
  | [c0, c1, c2, c3, c4, c5, c6, c7, c8, c9, c10, c11, c12, c13], _ => exact ⟨c0, c1, c2, c3, c4, c5, c6, c7, c8, c9, c10, c11, c12, c13, rfl⟩
/-- The cells of a number given as parts and a shift. -/
def numC (l : List Int) (k : Int) : List Value := [rowTok l.length (ilL .i64 l), .int .i64 k]
def numOk (l : List Int) (k : Int) : Prop := (∀ z ∈ l, (Lit.int .i64 z).wf = true) ∧ (Lit.int .i64 k).wf = true
/-- Seven numbers. -/
theorem arg_raw7 {H : Type} {enc : TypeId × Value → H} {W : World} {base b0 : Nat} {spare : Nat → Bool} {held : Bool} {r : Reach} {t tn et : TypeId} {f0 f1 f2 f3 f4 f5 f6 g0 g1 : Field} {v : Value} {d : DataW H} {ps : List MemPlace} (ht : P.underlying t = some (.struct #[f0, f1, f2, f3, f4, f5, f6])) (hC : P.cellsOf t = 14)
    (hf : f0.type = tn ∧ f1.type = tn ∧ f2.type = tn ∧ f3.type = tn ∧ f4.type = tn ∧ f5.type = tn ∧ f6.type = tn) (ho : f0.offset = 0 ∧ f1.offset = 2 ∧ f2.offset = 4 ∧ f3.offset = 6 ∧ f4.offset = 8 ∧ f5.offset = 10 ∧ f6.offset = 12) (hn : P.cellsOf tn = 2)
    (hs : P.underlying tn = some (.struct #[g0, g1])) (hone : oneCellFields P #[g0, g1] = true) (h0 : P.underlying g0.type = some (.slice et)) (hc : P.cellsOf et = 1) (he : P.underlying et = some (.int .i64)) (h1 : P.underlying g1.type = some (.int .i64)) (hv : Value.okWide P W r b0 t v) (hd : DataW.Trod enc P W base spare held t v d ps) :
    ∃ (L0 L1 L2 L3 L4 L5 L6 : List Int) (k0 k1 k2 k3 k4 k5 k6 : Int), numOk L0 k0 ∧ numOk L1 k1 ∧ numOk L2 k2 ∧ numOk L3 k3 ∧ numOk L4 k4 ∧ numOk L5 k5 ∧ numOk L6 k6 ∧
      VR (renH W) (.agg (numC L0 k0 ++ (numC L1 k1 ++ (numC L2 k2 ++ (numC L3 k3 ++ (numC L4 k4 ++ (numC L5 k5 ++ numC L6 k6)))))).toArray) v := by
  obtain ⟨cs, rfl, hsz⟩ := okWide_struct ht hv
  obtain ⟨c0, c1, c2, c3, c4, c5, c6, c7, c8, c9, c10, c11, c12, c13, rfl⟩ := array14 (hsz.trans hC)
  obtain ⟨fuel, hfu⟩ := hd
  obtain ⟨xs, n, _, _, _, hxl, hx⟩ := DataW.trod_struct ht hfu
  obtain ⟨e0, e1, e2, e3, e4, e5, e6⟩ := hf
  obtain ⟨o0, o1, o2, o3, o4, o5, o6⟩ := ho
  have hlen : xs.length = 7 := by simpa using hxl
  have hget : ∀ i, i < 7 → ∃ x, xs[i]? = some x := fun i hi => ⟨_, List.getElem?_eq_getElem (by omega)⟩
  obtain ⟨y0, j0⟩ := hget 0 (by omega)
  obtain ⟨y1, j1⟩ := hget 1 (by omega)
  obtain ⟨y2, j2⟩ := hget 2 (by omega)
  obtain ⟨y3, j3⟩ := hget 3 (by omega)
  obtain ⟨y4, j4⟩ := hget 4 (by omega)
  obtain ⟨y5, j5⟩ := hget 5 (by omega)
  obtain ⟨y6, j6⟩ := hget 6 (by omega)
  have d0 : DataW.trod enc P W base spare held n tn [c0, c1] = some y0 := by have := hx 0 f0 rfl; rw [e0, o0, hn, j0] at this; exact this
  have d1 : DataW.trod enc P W base spare held n tn [c2, c3] = some y1 := by have := hx 1 f1 rfl; rw [e1, o1, hn, j1] at this; exact this
  have d2 : DataW.trod enc P W base spare held n tn [c4, c5] = some y2 := by have := hx 2 f2 rfl; rw [e2, o2, hn, j2] at this; exact this
  have d3 : DataW.trod enc P W base spare held n tn [c6, c7] = some y3 := by have := hx 3 f3 rfl; rw [e3, o3, hn, j3] at this; exact this
  have d4 : DataW.trod enc P W base spare held n tn [c8, c9] = some y4 := by have := hx 4 f4 rfl; rw [e4, o4, hn, j4] at this; exact this
  have d5 : DataW.trod enc P W base spare held n tn [c10, c11] = some y5 := by have := hx 5 f5 rfl; rw [e5, o5, hn, j5] at this; exact this
  have d6 : DataW.trod enc P W base spare held n tn [c12, c13] = some y6 := by have := hx 6 f6 rfl; rw [e6, o6, hn, j6] at this; exact this
  obtain ⟨L0, k0, w0, u0, _, r0, rfl⟩ := num_at hs hone h0 hc he h1 d0
  obtain ⟨L1, k1, w1, u1, _, r1, rfl⟩ := num_at hs hone h0 hc he h1 d1
  obtain ⟨L2, k2, w2, u2, _, r2, rfl⟩ := num_at hs hone h0 hc he h1 d2
  obtain ⟨L3, k3, w3, u3, _, r3, rfl⟩ := num_at hs hone h0 hc he h1 d3
  obtain ⟨L4, k4, w4, u4, _, r4, rfl⟩ := num_at hs hone h0 hc he h1 d4
  obtain ⟨L5, k5, w5, u5, _, r5, rfl⟩ := num_at hs hone h0 hc he h1 d5
  obtain ⟨L6, k6, w6, u6, _, r6, rfl⟩ := num_at hs hone h0 hc he h1 d6
  refine ⟨L0, L1, L2, L3, L4, L5, L6, k0, k1, k2, k3, k4, k5, k6, ⟨w0, u0⟩, ⟨w1, u1⟩, ⟨w2, u2⟩, ⟨w3, u3⟩, ⟨w4, u4⟩, ⟨w5, u5⟩, ⟨w6, u6⟩, ?_⟩
  have one : ∀ {l : List Int} {x : Value}, VR (renH W) (rowTok l.length (ilL .i64 l)) x → VR1 (renH W) (rowTok l.length (ilL .i64 l)) x := fun h => by
    unfold rowTok at *
    rw [VR_of2 (by simp), VR2_of1 (by simp)] at h
    exact h
  have num : ∀ {k : Int}, VR1 (renH W) (.int .i64 k) (.int .i64 k) := (VR1_flat rfl).2 rfl
  rw [VR_of2 (by simp)]
  exact VR2_agg.2 ⟨_, rfl, PW.cons (one r0) <| PW.cons num <| PW.cons (one r1) <| PW.cons num <| PW.cons (one r2) <| PW.cons num <| PW.cons (one r3) <| PW.cons num <| PW.cons (one r4) <| PW.cons num <| PW.cons (one r5) <| PW.cons num <| PW.cons (one r6) <| PW.cons num PW.nil⟩
end
end Go.Ev
