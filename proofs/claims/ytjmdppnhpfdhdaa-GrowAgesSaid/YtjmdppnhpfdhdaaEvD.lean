/-
  Relative states, part D: the operations that compute, on values with addresses.
-/
import Derived.Test.YtjmdppnhpfdhdaaEvC
namespace Go.Ev
section
variable {P : Program} {o : Oper} {E : Operand → Option Value} {v : Value} {ρ : Ren} {e : Operand → Value}

theorem VR_ptr {k off : Nat} {u : Value} : VR ρ (.pointer (some ⟨k, off, none⟩)) u ↔ ∃ b s, ρ k = some (b, s) ∧ u = .pointer (some ⟨b, s + off, none⟩) := by
  rw [VR_of2 (by simp), VR2_of1 (by simp), VR1_ptr]
  simp only [rA]
  cases ρ k with
  | none => simp
  | some x =>
    obtain ⟨x, y⟩ := x
    simp only [Option.some.injEq, Prod.mk.injEq]
    exact ⟨fun ⟨a', h1, h2⟩ => ⟨x, y, ⟨rfl, rfl⟩, by rw [h2, ← h1]⟩, fun ⟨b, s, ⟨h1, h2⟩, h3⟩ => ⟨_, rfl, by rw [h3, h1, h2]⟩⟩
theorem VR1_ptr' {k off : Nat} {u : Value} : VR1 ρ (.pointer (some ⟨k, off, none⟩)) u ↔ ∃ b s, ρ k = some (b, s) ∧ u = .pointer (some ⟨b, s + off, none⟩) := by
  rw [← VR2_of1 (by simp), ← VR_of2 (by simp), VR_ptr]
theorem VR_slice {k off l c : Nat} {u : Value} : VR ρ (.slice (some ⟨k, off, none⟩) l c) u ↔ ∃ b s, ρ k = some (b, s) ∧ u = .slice (some ⟨b, s + off, none⟩) l c := by
  rw [VR_of2 (by simp), VR2_of1 (by simp), VR1_slice]
  simp only [rA]
  cases ρ k with
  | none => simp
  | some x =>
    obtain ⟨x, y⟩ := x
    simp only [Option.some.injEq, Prod.mk.injEq]
    exact ⟨fun ⟨a', h1, h2⟩ => ⟨x, y, ⟨rfl, rfl⟩, by rw [h2, ← h1]⟩, fun ⟨b, s, ⟨h1, h2⟩, h3⟩ => ⟨_, rfl, by rw [h3, h1, h2]⟩⟩

def fieldAddrOp (P : Program) (s : TypeId) (x : Value) (f : Nat) : Option (Bool × Value) :=
  match P.underlying s, x with
  | some (.struct fs), .pointer (some ⟨k, off, none⟩) =>
    match fs[f]? with
    | some fl => if (P.info? fl.type).isSome && P.cellsOf fl.type != 0 then some (true, .pointer (some ⟨k, off + fl.offset, none⟩)) else none
    | none => none
  | _, _ => none
theorem fieldAddrOp_sound {s : TypeId} {x u : Value} {f : Nat} (h : fieldAddrOp P s x f = some (true, v)) (hx : VR ρ x u) : ∃ r, VR ρ v r ∧ ∀ w, (Instr.fieldAt s u f).run P w = .ok r w := by
  unfold fieldAddrOp at h
  split at h
  · rename_i fs k off hs
    split at h
    · rename_i fl hfl
      split at h
      · rename_i hc
        cases h
        simp only [Bool.and_eq_true, bne_iff_ne, ne_eq] at hc
        obtain ⟨i, hi⟩ := Option.isSome_iff_exists.1 hc.1
        obtain ⟨b, s', hρ, rfl⟩ := VR_ptr.1 hx
        refine ⟨_, VR_ptr.2 ⟨b, s', hρ, rfl⟩, fun w => ?_⟩
        simp [Instr.fieldAt, run_underlying hs, hfl, Instr.sureAddr, fieldPlace, run_sizeOf w hi, hc.2, Addr.add_lit, Nat.add_assoc]
      · cases h
    · cases h
  · cases h

def indexAddrOp (P : Program) (t : TypeId) (x ix : Value) : Option (Bool × Value) :=
  match P.underlying t, x, ix with
  | some (.array len el), .pointer (some ⟨k, off, none⟩), .int _ i =>
    if (P.info? el).isSome then some (decide (0 ≤ i) && decide (i < (len : Int)), .pointer (some ⟨k, off + i.toNat * P.cellsOf el, none⟩)) else none
  | some (.slice el), .slice (some ⟨k, off, none⟩) len _, .int _ i =>
    if (P.info? el).isSome then some (decide (0 ≤ i) && decide (i < (len : Int)), .pointer (some ⟨k, off + i.toNat * P.cellsOf el, none⟩)) else none
  | _, _, _ => none
theorem indexAddrOp_sound {t : TypeId} {x u ix uix : Value} (h : indexAddrOp P t x ix = some (true, v)) (hx : VR ρ x u) (hix : VR ρ ix uix) :
    ∃ r, VR ρ v r ∧ ∀ w, (Instr.indexAt t u uix).run P w = .ok r w := by
  unfold indexAddrOp at h
  split at h
  · rename_i len el k off kk i ht
    split at h
    · rename_i hc
      obtain ⟨inf, hi⟩ := Option.isSome_iff_exists.1 hc
      simp only [Option.some.injEq, Prod.mk.injEq, Bool.and_eq_true, decide_eq_true_eq] at h
      obtain ⟨⟨h0, h1⟩, rfl⟩ := h
      obtain ⟨b, s', hρ, rfl⟩ := VR_ptr.1 hx
      rw [VR_flat rfl] at hix
      subst hix
      refine ⟨_, VR_ptr.2 ⟨b, s', hρ, rfl⟩, fun w => ?_⟩
      simp [Instr.indexAt, asIntOf, run_underlying ht, Instr.sureAddr, h0, h1, run_sizeOf w hi, Addr.add_lit, Nat.add_assoc]
    · cases h
  · rename_i el k off len cap kk i ht
    split at h
    · rename_i hc
      obtain ⟨inf, hi⟩ := Option.isSome_iff_exists.1 hc
      simp only [Option.some.injEq, Prod.mk.injEq, Bool.and_eq_true, decide_eq_true_eq] at h
      obtain ⟨⟨h0, h1⟩, rfl⟩ := h
      obtain ⟨b, s', hρ, rfl⟩ := VR_slice.1 hx
      rw [VR_flat rfl] at hix
      subst hix
      refine ⟨_, VR_ptr.2 ⟨b, s', hρ, rfl⟩, fun w => ?_⟩
      simp [Instr.indexAt, asIntOf, run_underlying ht, h0, h1, run_sizeOf w hi, Addr.add_lit, Nat.add_assoc]
    · cases h
  · cases h

/-- A part of the cells, as 'part' gives it. -/
def partOp (P : Program) (t : TypeId) (cs : List Value) (off : Nat) : Option (Bool × Value) :=
  if isRow P t then some (true, .agg ((cs.drop off).take (P.cellsOf t)).toArray)
  else if (P.underlying t).isSome then some (decide (off < cs.length), cs.getD off undef) else none
theorem partOp_sound {t : TypeId} {cs us : Array Value} {off : Nat} (h : partOp P t cs.toList off = some (true, v)) (hc : PW (VR1 ρ) cs.toList us.toList) :
    ∃ r, VR2 ρ v r ∧ ∀ w, (part t us off).run P w = .ok r w := by
  unfold partOp at h
  split at h
  · rename_i hr
    cases h
    obtain ⟨d, hd⟩ : ∃ d, P.underlying t = some d := by unfold isRow at hr; split at hr; exact ⟨_, by assumption⟩; cases hr
    refine ⟨.agg ((us.toList.drop off).take (P.cellsOf t)).toArray, VR2_agg.2 ⟨_, rfl, by simpa using (hc.drop off).take _⟩, fun w => ?_⟩
    exact run_part_cells hd (by unfold cellsVal; rw [if_pos hr]) w
  · rename_i hr
    split at h
    · rename_i hs
      obtain ⟨d, hd⟩ := Option.isSome_iff_exists.1 hs
      simp only [Option.some.injEq, Prod.mk.injEq, decide_eq_true_eq] at h
      obtain ⟨hlt, rfl⟩ := h
      have hg : cs.toList[off]? = some (cs.toList.getD off undef) := by rw [List.getD_eq_getElem?_getD, List.getElem?_eq_getElem hlt]; rfl
      obtain ⟨u, hu, hR⟩ := hc.get hg
      refine ⟨u, hR.toVR2, fun w => ?_⟩
      have hu' : us[off]? = some u := by simpa using hu
      unfold part
      rw [Sem.run_bind, run_isAgg hd]
      simp [hr, hu']
    · cases h

def indexOp (P : Program) (t : TypeId) (x ix : Value) : Option (Bool × Value) :=
  match P.underlying t, x, ix with
  | some (.array len el), .agg cs, .int _ i =>
    if (P.info? el).isSome then
      match partOp P el cs.toList (i.toNat * P.cellsOf el) with
      | some (c, v) => some (decide (0 ≤ i) && decide (i < (len : Int)) && c, v)
      | none => none
    else none
  | some .string, .string s, .int _ i => some (decide (0 ≤ i) && decide (i.toNat < s.size), .int .u8 (s.data.getD i.toNat 0).toNat)
  | _, _, _ => none
theorem indexOp_sound {t : TypeId} {x u ix uix : Value} (h : indexOp P t x ix = some (true, v)) (hx : VR ρ x u) (hix : VR ρ ix uix) :
    ∃ r, VR ρ v r ∧ ∀ w, (Instr.index t u uix).run P w = .ok r w := by
  unfold indexOp at h
  split at h
  · rename_i len el cs kk i ht
    split at h
    · rename_i hc
      obtain ⟨inf, hi⟩ := Option.isSome_iff_exists.1 hc
      split at h
      · rename_i c v' hp
        simp only [Option.some.injEq, Prod.mk.injEq, Bool.and_eq_true, decide_eq_true_eq] at h
        obtain ⟨⟨⟨h0, h1⟩, rfl⟩, rfl⟩ := h
        obtain ⟨us, rfl, hcs⟩ := VR2_agg.1 ((VR_of2 (by simp)).1 hx)
        rw [VR_flat rfl] at hix
        subst hix
        obtain ⟨r, hr, hrun⟩ := partOp_sound hp hcs
        refine ⟨r, hr.toVR, fun w => ?_⟩
        simp [Instr.index, asIntOf, run_underlying ht, h0, h1, run_sizeOf w hi, hrun w]
      · cases h
    · cases h
  · rename_i s kk i ht
    simp only [Option.some.injEq, Prod.mk.injEq, Bool.and_eq_true, decide_eq_true_eq] at h
    obtain ⟨⟨h0, h1⟩, rfl⟩ := h
    rw [VR_flat rfl] at hix hx
    subst hix; subst hx
    refine ⟨_, (VR_flat rfl).2 rfl, fun w => ?_⟩
    have hs : s[i.toNat]? = some (s.data.getD i.toNat 0) := by
      rw [getElem?_pos s i.toNat h1, Array.getD_eq_getD_getElem?]
      have h1' : i.toNat < s.data.size := h1
      rw [Array.getElem?_eq_getElem h1']
      rfl
    simp [Instr.index, asIntOf, run_underlying ht, h0, hs]
  · cases h

def fieldOp (P : Program) (t : TypeId) (x : Value) (f : Nat) : Option (Bool × Value) :=
  match P.underlying t, x with
  | some (.struct fs), .agg cs => match fs[f]? with | some fl => partOp P fl.type cs.toList fl.offset | none => none
  | _, _ => none
theorem fieldOp_sound {t : TypeId} {x u : Value} {f : Nat} (h : fieldOp P t x f = some (true, v)) (hx : VR ρ x u) :
    ∃ r, VR ρ v r ∧ ∀ w, (Instr.field t u f).run P w = .ok r w := by
  unfold fieldOp at h
  split at h
  · rename_i fs cs ht
    split at h
    · rename_i fl hfl
      obtain ⟨us, rfl, hcs⟩ := VR2_agg.1 ((VR_of2 (by simp)).1 hx)
      obtain ⟨r, hr, hrun⟩ := partOp_sound h hcs
      exact ⟨r, hr.toVR, fun w => by simp [Instr.field, run_underlying ht, hfl, asAgg, hrun w]⟩
    · cases h
  · cases h

def extractOp (x : Value) (i : Nat) : Option (Bool × Value) :=
  match x with
  | .tuple vs => match isWild vs.toList with
    | true => none
    | false => match vs.toList[i]? with | some v => some (true, v) | none => none
  | _ => none
theorem extractOp_sound {x u : Value} {i : Nat} (h : extractOp x i = some (true, v)) (hx : VR ρ x u) : ∃ r, VR ρ v r ∧ ∀ w, (Instr.extract u i).run P w = .ok r w := by
  unfold extractOp at h
  split at h
  · split at h
    · cases h
    · rename_i hw
      split at h
      · rename_i v' hv
        cases h
        obtain ⟨us, rfl, hcs⟩ := (VR_tuple hw).1 hx
        obtain ⟨r, hr, hR⟩ := hcs.get hv
        have hr' : us[i]? = some r := by simpa using hr
        exact ⟨r, hR.toVR, fun w => by simp [Instr.extract, hr']⟩
      · cases h
  · cases h

/-- The bounds of a slice expression: from an operand, or what stands for none. -/
def boundOp (E : Operand → Option Value) (x : Option Operand) (none_ most : Nat) : Option (Bool × Nat) :=
  match x with
  | none => some (true, none_)
  | some x => match E x with | some (.int _ i) => some (decide (0 ≤ i) && decide (i ≤ (most : Int)), i.toNat) | _ => none

def sliceOp (P : Program) (E : Operand → Option Value) (t : TypeId) (x : Value) (lo hi : Option Operand) : Option (Bool × Value) :=
  match P.underlying t, x with
  | some (.array n el), .pointer (some ⟨k, off, none⟩) =>
    if (P.info? el).isSome then
      match boundOp E hi n n with
      | some (ch, h) => match boundOp E lo 0 h with
        | some (cl, l) => some (ch && cl, .slice (some ⟨k, off + (if n = l then 0 else l * P.cellsOf el), none⟩) (h - l) (n - l))
        | none => none
      | none => none
    else none
  | some (.slice el), .slice (some ⟨k, off, none⟩) len cap =>
    if (P.info? el).isSome then
      match boundOp E hi len cap with
      | some (ch, h) => match boundOp E lo 0 h with
        | some (cl, l) => some (ch && cl, .slice (some ⟨k, off + (if cap = l then 0 else l * P.cellsOf el), none⟩) (h - l) (cap - l))
        | none => none
      | none => none
    else none
  | some (.slice el), .slice none len cap =>
    if (P.info? el).isSome then
      match boundOp E hi len cap with
      | some (ch, h) => match boundOp E lo 0 h with
        | some (cl, l) => some (ch && cl, .slice none (h - l) (cap - l))
        | none => none
      | none => none
    else none
  | some .string, .string s =>
    match boundOp E hi s.size s.size with
    | some (ch, h) => match boundOp E lo 0 h with
      | some (cl, l) => some (ch && cl, .string (s.extract l h))
      | none => none
    | none => none
  | _, _ => none

theorem boundOp_sound {x : Option Operand} {n m y : Nat} {c : Bool} (hc : c = true) (h : boundOp E x n m = some (c, y)) (hH : ∀ z, x = some z → ∀ u, E z = some u → VR ρ u (e z)) (code : BoundsCode) (w : World) :
    (match x.map e with | some v => Instr.sliceBound v m code | none => pure n : Sem Nat).run P w = .ok y w := by
  subst hc
  unfold boundOp at h
  split at h
  · cases h; rfl
  · rename_i z
    split at h
    · rename_i k i hz
      simp only [Option.some.injEq, Prod.mk.injEq, Bool.and_eq_true, decide_eq_true_eq] at h
      obtain ⟨⟨h0, h1⟩, rfl⟩ := h
      have := (VR_flat rfl).1 (hH z rfl _ hz)
      simp [this, Instr.sliceBound, asIntOf, h0, h1]
    · cases h

theorem run_sliceBounds {lo hi : Option Operand} {len cap h l : Nat} {ch cl : Bool} (hch : ch = true) (hcl : cl = true) (h1 : boundOp E hi len cap = some (ch, h)) (h2 : boundOp E lo 0 h = some (cl, l))
    (hlo : ∀ z, lo = some z → ∀ u, E z = some u → VR ρ u (e z)) (hhi : ∀ z, hi = some z → ∀ u, E z = some u → VR ρ u (e z)) (is : Bool) (w : World) :
    (Instr.sliceBounds is len cap (lo.map e) (hi.map e) none).run P w = .ok (l, h, cap) w := by
  have b1 := boundOp_sound (P := P) (ρ := ρ) (e := e) hch h1 hhi (if is then .sliceAcap else .sliceAlen) w
  have b2 := boundOp_sound (P := P) (ρ := ρ) (e := e) hcl h2 hlo .sliceB w
  unfold Instr.sliceBounds
  cases hi with
  | none =>
    simp only [Option.map_none, Sem.run_pure, Result.ok.injEq, and_true] at b1
    subst b1
    cases lo with
    | none => simp only [Option.map_none, Sem.run_pure, Result.ok.injEq, and_true] at b2; subst b2; simp
    | some z => simp only [Option.map_some] at b2; simp [b2]
  | some y =>
    simp only [Option.map_some] at b1
    cases lo with
    | none => simp only [Option.map_none, Sem.run_pure, Result.ok.injEq, and_true] at b2; subst b2; simp [b1]
    | some z => simp only [Option.map_some] at b2; simp [b1, b2]

theorem add_if (b s off l n c : Nat) : (if c = l then (⟨b, s + off, none⟩ : Addr) else Addr.add ⟨b, s + off, none⟩ n) = ⟨b, s + (off + (if c = l then 0 else n)), none⟩ := by
  split
  · rfl
  · rw [Addr.add_lit, Nat.add_assoc]

theorem sliceOp_sound {t : TypeId} {x u : Value} {lo hi : Option Operand} (h : sliceOp P E t x lo hi = some (true, v)) (hx : VR ρ x u)
    (hlo : ∀ z, lo = some z → ∀ u, E z = some u → VR ρ u (e z)) (hhi : ∀ z, hi = some z → ∀ u, E z = some u → VR ρ u (e z)) :
    ∃ r, VR ρ v r ∧ ∀ w, (Instr.sliceAt t u (lo.map e) (hi.map e) none).run P w = .ok r w := by
  unfold sliceOp at h
  split at h
  · rename_i n el k off ht
    split at h
    · rename_i hc
      obtain ⟨inf, hi'⟩ := Option.isSome_iff_exists.1 hc
      split at h
      · rename_i ch hh e1
        split at h
        · rename_i cl l e2
          simp only [Option.some.injEq, Prod.mk.injEq, Bool.and_eq_true] at h
          obtain ⟨⟨hch, hcl⟩, rfl⟩ := h
          obtain ⟨b, s', hρ, rfl⟩ := VR_ptr.1 hx
          refine ⟨_, VR_slice.2 ⟨b, s', hρ, rfl⟩, fun w => ?_⟩
          simp only [Instr.sliceAt, Sem.run_bind, run_underlying ht, Result.andThen_ok, Instr.sureAddr, Sem.run_pure, run_sliceBounds hch hcl e1 e2 hlo hhi, run_sizeOf w hi', add_if]
        · cases h
      · cases h
    · cases h
  · rename_i el k off len cap ht
    split at h
    · rename_i hc
      obtain ⟨inf, hi'⟩ := Option.isSome_iff_exists.1 hc
      split at h
      · rename_i ch hh e1
        split at h
        · rename_i cl l e2
          simp only [Option.some.injEq, Prod.mk.injEq, Bool.and_eq_true] at h
          obtain ⟨⟨hch, hcl⟩, rfl⟩ := h
          obtain ⟨b, s', hρ, rfl⟩ := VR_slice.1 hx
          refine ⟨_, VR_slice.2 ⟨b, s', hρ, rfl⟩, fun w => ?_⟩
          simp only [Instr.sliceAt, Instr.slice, Sem.run_bind, run_underlying ht, Result.andThen_ok, Sem.run_pure, run_sliceBounds hch hcl e1 e2 hlo hhi, run_sizeOf w hi', ← add_if]
          congr 3
          split <;> rfl
        · cases h
      · cases h
    · cases h
  · rename_i el len cap ht
    split at h
    · rename_i hc
      obtain ⟨inf, hi'⟩ := Option.isSome_iff_exists.1 hc
      split at h
      · rename_i ch hh e1
        split at h
        · rename_i cl l e2
          simp only [Option.some.injEq, Prod.mk.injEq, Bool.and_eq_true] at h
          obtain ⟨⟨hch, hcl⟩, rfl⟩ := h
          rw [VR_flat rfl] at hx
          subst hx
          refine ⟨_, (VR_flat rfl).2 rfl, fun w => ?_⟩
          simp only [Instr.sliceAt, Instr.slice, Sem.run_bind, run_underlying ht, Result.andThen_ok, Sem.run_pure, run_sliceBounds hch hcl e1 e2 hlo hhi, run_sizeOf w hi', Option.map_none]
          congr 2
          split <;> rfl
        · cases h
      · cases h
    · cases h
  · rename_i s ht
    split at h
    · rename_i ch hh e1
      split at h
      · rename_i cl l e2
        simp only [Option.some.injEq, Prod.mk.injEq, Bool.and_eq_true] at h
        obtain ⟨⟨hch, hcl⟩, rfl⟩ := h
        rw [VR_flat rfl] at hx
        subst hx
        refine ⟨_, (VR_flat rfl).2 rfl, fun w => ?_⟩
        simp [Instr.sliceAt, Instr.slice, run_underlying ht, run_sliceBounds hch hcl e1 e2 hlo hhi]
      · cases h
    · cases h
  · cases h

def arrayAtOp (P : Program) (t : TypeId) (x : Value) : Option (Bool × Value) :=
  match P.underlying t, x with
  | some (.array n _), .slice (some ⟨k, off, none⟩) len _ => some (decide (n ≤ len), .pointer (some ⟨k, off, none⟩))
  | _, _ => none
theorem arrayAtOp_sound {t : TypeId} {x u : Value} (h : arrayAtOp P t x = some (true, v)) (hx : VR ρ x u) : ∃ r, VR ρ v r ∧ ∀ w, (Instr.arrayAt t u).run P w = .ok r w := by
  unfold arrayAtOp at h
  split at h
  · rename_i n el k off len cap ht
    simp only [Option.some.injEq, Prod.mk.injEq, decide_eq_true_eq] at h
    obtain ⟨hn, rfl⟩ := h
    obtain ⟨b, s', hρ, rfl⟩ := VR_slice.1 hx
    exact ⟨_, VR_ptr.2 ⟨b, s', hρ, rfl⟩, fun w => by simp [Instr.arrayAt, run_underlying ht, Nat.not_lt.2 hn]⟩
  · cases h

/-- A slice or a pointer against nil. -/
def nilEq (P : Program) (op : BinOp) (t : TypeId) (x y : Value) : Option (Bool × Value) :=
  match P.underlying t, x, y with
  | some (.slice _), .slice a _ _, .slice none _ _ => match op with | .eql => some (true, .bool a.isNone) | .neq => some (true, .bool (!a.isNone)) | _ => none
  | some (.pointer _), .pointer a, .pointer none => match op with | .eql => some (true, .bool a.isNone) | .neq => some (true, .bool (!a.isNone)) | _ => none
  | _, _, _ => none
theorem run_equalIn_nilSlice (d : Nat) {t el : TypeId} (ht : P.underlying t = some (.slice el)) (a' : Option Addr) {l c l2 c2 : Nat} (w : World) : (Op.equalIn (d + 1) t (.slice a' l c) (.slice none l2 c2)).run P w = .ok a'.isNone w := by
  cases a' <;> simp [Op.equalIn, run_underlying ht]
theorem run_equalIn_nilPtr (d : Nat) {t el : TypeId} (ht : P.underlying t = some (.pointer el)) (a' : Option Addr) (w : World) : (Op.equalIn (d + 1) t (.pointer a') (.pointer none)).run P w = .ok a'.isNone w := by
  cases a' <;> simp [Op.equalIn, run_underlying ht]
theorem nilEq_sound {op : BinOp} {t : TypeId} {px py : Operand} {x y ux uy : Value} (h : nilEq P op t x y = some (true, v)) (hx : VR ρ x ux) (hy : VR ρ y uy) :
    ∃ r, VR ρ v r ∧ ∀ w, (do eqGuard op t px py ux uy; binOp op t ux uy).run P w = .ok r w := by
  unfold nilEq at h
  split at h
  · rename_i el a l c l2 c2 ht
    rw [VR_flat rfl] at hy
    subst hy
    obtain ⟨a', rfl, ha⟩ : ∃ a', ux = .slice a' l c ∧ a'.isNone = a.isNone := by
      cases a with
      | none => rw [VR_flat rfl] at hx; exact ⟨none, hx, rfl⟩
      | some a => rw [VR_of2 (by simp), VR2_of1 (by simp), VR1_slice] at hx; obtain ⟨a', _, rfl⟩ := hx; exact ⟨some a', rfl, rfl⟩
    have hq : ∀ w, (Op.equal t (.slice a' l c) (.slice none l2 c2)).run P w = .ok a'.isNone w := fun w => run_equalIn_nilSlice 9999 ht a' w
    split at h
    · cases h; exact ⟨.bool a.isNone, (VR_flat rfl).2 rfl, fun w => by rw [eqGuard_at_slice, ← ha]; simp [binOp, hq w]⟩
    · cases h; exact ⟨.bool (!a.isNone), (VR_flat rfl).2 rfl, fun w => by rw [eqGuard_at_slice, ← ha]; simp [binOp, hq w]⟩
    · cases h
  · rename_i el a ht
    rw [VR_flat rfl] at hy
    subst hy
    obtain ⟨a', rfl, ha⟩ : ∃ a', ux = .pointer a' ∧ a'.isNone = a.isNone := by
      cases a with
      | none => rw [VR_flat rfl] at hx; exact ⟨none, hx, rfl⟩
      | some a => rw [VR_of2 (by simp), VR2_of1 (by simp), VR1_ptr] at hx; obtain ⟨a', _, rfl⟩ := hx; exact ⟨some a', rfl, rfl⟩
    have hq : ∀ w, (Op.equal t (.pointer a') (.pointer none)).run P w = .ok a'.isNone w := fun w => run_equalIn_nilPtr 9999 ht a' w
    split at h
    · cases h; exact ⟨.bool a.isNone, (VR_flat rfl).2 rfl, fun w => by rw [eqGuard_at_pointer, ← ha]; simp [binOp, hq w]⟩
    · cases h; exact ⟨.bool (!a.isNone), (VR_flat rfl).2 rfl, fun w => by rw [eqGuard_at_pointer, ← ha]; simp [binOp, hq w]⟩
    · cases h
  · cases h
end
end Go.Ev
