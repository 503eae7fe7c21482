/-
  Relative states, part E: loads, new blocks, stores, calls; one operation as a whole.
-/
import Derived.Test.YtjmdppnhpfdhdaaEvD
import Derived.Laws.Cells
import Derived.Laws.IdiomCopy
import Derived.Laws.MakeOwn
namespace Go.Ev
section
variable {P : Program} {o : Oper} {E : Operand → Option Value} {v : Value} {ρ : Ren} {e : Operand → Value} {mem : Mem}

/-! ### Parts put together -/
def PartR (ρ : Ren) (p q : Nat × Value) : Prop := p.1 = q.1 ∧ VR2 ρ p.2 q.2

theorem foldl_set_rel (off : Nat) : ∀ (l l' : List (Value × Nat)), PW (fun p q => p.2 = q.2 ∧ VR1 ρ p.1 q.1) l l' → ∀ (cs cs' : Array Value), PW (VR1 ρ) cs.toList cs'.toList →
    PW (VR1 ρ) (l.foldl (fun cs p => cs.setIfInBounds (off + p.2) p.1) cs).toList (l'.foldl (fun cs p => cs.setIfInBounds (off + p.2) p.1) cs').toList
  | [], l', h, cs, cs', hc => by rw [h.unnil]; exact hc
  | p :: l, l', h, cs, cs', hc => by
    obtain ⟨q, m', rfl, ⟨h1, h2⟩, ht⟩ := h.uncons
    simp only [List.foldl_cons]
    refine foldl_set_rel off l m' ht _ _ ?_
    rw [h1]
    simp only [Array.toList_setIfInBounds]
    exact hc.set _ h2

theorem PW_zipIdx {l m : List Value} (h : PW (VR1 ρ) l m) : PW (fun p q => p.2 = q.2 ∧ VR1 ρ p.1 q.1) l.zipIdx m.zipIdx := by
  refine ⟨by simp [h.1], fun i x y hx hy => ?_⟩
  rw [List.getElem?_zipIdx] at hx hy
  cases hl : l[i]? with
  | none => simp [hl] at hx
  | some a =>
    obtain ⟨b, hb, hR⟩ := h.get hl
    simp only [hl, hb, Option.map_some, Option.some.injEq] at hx hy
    subst hx; subst hy
    exact ⟨rfl, hR⟩

theorem fill_rel (place : Nat → Option (Nat × Nat)) : ∀ (parts parts' : List (Nat × Value)), PW (PartR ρ) parts parts' → ∀ (cs cs' r : Array Value), PW (VR1 ρ) cs.toList cs'.toList →
    Instr.fill place cs parts = some r → ∃ r', Instr.fill place cs' parts' = some r' ∧ PW (VR1 ρ) r.toList r'.toList
  | [], parts', h, cs, cs', r, hc, hf => by rw [h.unnil]; cases hf; exact ⟨cs', rfl, hc⟩
  | (i, v) :: parts, parts', h, cs, cs', r, hc, hf => by
    obtain ⟨⟨j, u⟩, m', rfl, ⟨h1, h2⟩, ht⟩ := h.uncons
    simp only at h1
    subst h1
    have hcells := h2.cells
    unfold Instr.fill at hf ⊢
    split at hf
    · cases hf
    · rename_i off size hp
      simp only
      have hsz : u.cells.size = v.cells.size := by have := hcells.1; simpa using this.symm
      have hcsz : cs'.size = cs.size := by have := hc.1; simpa using this.symm
      rw [hsz, hcsz]
      split at hf
      · cases hf
      · rename_i hcond
        rw [if_neg hcond]
        refine fill_rel place parts m' ht _ _ r ?_ hf
        rw [← Array.foldl_toList, ← Array.foldl_toList, Array.toList_zipIdx, Array.toList_zipIdx]
        exact foldl_set_rel off _ _ (PW_zipIdx hcells) _ _ hc

/-- The operands' values, with their places. -/
def partVals (E : Operand → Option Value) : List (Nat × Operand) → Option (List (Nat × Value))
  | [] => some []
  | (i, x) :: r => match E x, partVals E r with
    | some (.tuple _), _ => none
    | some v, some vs => some ((i, v) :: vs)
    | _, _ => none
theorem partVals_rel : ∀ (ps : List (Nat × Operand)) (vs : List (Nat × Value)), partVals E ps = some vs → (∀ p ∈ ps, ∀ u, E p.2 = some u → VR ρ u (e p.2)) → PW (PartR ρ) vs (ps.map fun p => (p.1, e p.2))
  | [], vs, h, _ => by cases h; exact PW.nil
  | (i, x) :: r, vs, h, hH => by
    unfold partVals at h
    split at h
    · cases h
    · rename_i v vs' hn hv hvs
      cases h
      refine PW.cons ⟨rfl, ?_⟩ (partVals_rel r vs' hvs fun p hp => hH p (by simp [hp]))
      exact (VR_of2 (fun t ht => hn t ht)).1 (hH (i, x) (by simp) v hv)
    · cases h

def placesOf (P : Program) (fs : Array Field) : Array (Nat × Nat) := fs.map fun f => (f.offset, P.cellsOf f.type)

def buildOp (P : Program) (E : Operand → Option Value) (t : TypeId) (parts : Array (Nat × Operand)) : Option (Bool × Value) :=
  match (P.info? t).bind (·.zero), partVals E parts.toList with
  | some z, some vs =>
    if z.cells.toList.all flat1 then
      match P.underlying t with
      | some (.struct fs) =>
        if fs.toList.all fun f => (P.info? f.type).isSome then
          match Instr.fill ((placesOf P fs)[·]?) z.cells vs with
          | some cs => some (true, .agg cs)
          | none => none
        else none
      | some (.array _ el) =>
        if (P.info? el).isSome then
          match Instr.fill (fun i => some (i * P.cellsOf el, P.cellsOf el)) z.cells vs with
          | some cs => some (true, .agg cs)
          | none => none
        else none
      | _ => none
    else none
  | _, _ => none

theorem run_zero {t : TypeId} {z : Value} (h : (P.info? t).bind (·.zero) = some z) (w : World) : (zeroValue t).run P w = .ok z w := by
  cases hi : P.info? t with
  | none => simp [hi] at h
  | some i => simp [hi] at h; simp [zeroValue, typeInfo, hi, h]

theorem run_mapM_list {α β : Type} (f : α → Sem β) (g : α → β) (w : World) : ∀ (l : List α), (∀ a ∈ l, (f a).run P w = .ok (g a) w) → (l.mapM f).run P w = .ok (l.map g) w
  | [], _ => by simp
  | a :: l, h => by
    rw [List.mapM_cons]
    simp [h a (by simp), run_mapM_list f g w l (fun b hb => h b (by simp [hb]))]

theorem run_places {fs : Array Field} (h : fs.toList.all (fun f => (P.info? f.type).isSome) = true) (w : World) :
    (fs.mapM fun f : Field => do pure (f.offset, ← sizeOf f.type)).run P w = .ok (placesOf P fs) w := by
  rw [Array.mapM_eq_mapM_toList, Sem.run_map, run_mapM_list _ (fun f : Field => (f.offset, P.cellsOf f.type)) w fs.toList ?_]
  · simp only [Result.andThen_ok, placesOf]
    congr 1
    apply Array.toList_inj.1
    simp
  · intro f hf
    obtain ⟨i, hi⟩ := Option.isSome_iff_exists.1 (List.all_eq_true.1 h f hf)
    simp [run_sizeOf w hi]

theorem buildOp_sound {t : TypeId} {parts : Array (Nat × Operand)} (h : buildOp P E t parts = some (true, v)) (hH : ∀ p ∈ parts.toList, ∀ u, E p.2 = some u → VR ρ u (e p.2)) :
    ∃ r, VR ρ v r ∧ ∀ w, (Instr.build t (parts.map fun (i, x) => (i, e x))).run P w = .ok r w := by
  unfold buildOp at h
  split at h
  · rename_i z vs hz hvs
    split at h
    · rename_i hfl
      have hrel := partVals_rel _ _ hvs hH
      have hmap : (parts.map fun (i, x) => (i, e x)).toList = parts.toList.map fun p => (p.1, e p.2) := by simp
      have hzz : PW (VR1 ρ) z.cells.toList z.cells.toList := (PW_flat (fun _ _ => VR1_flat) hfl).2 rfl
      split at h
      · rename_i fs ht
        split at h
        · rename_i hall
          split at h
          · rename_i cs hf
            cases h
            obtain ⟨r', hr', hp⟩ := fill_rel _ _ _ hrel _ _ _ hzz hf
            refine ⟨.agg r', (VR2_agg.2 ⟨r', rfl, hp⟩).toVR, fun w => ?_⟩
            simp only [Instr.build, Sem.run_bind, run_zero hz, Result.andThen_ok, run_underlying ht, run_places hall, hmap, hr', Sem.run_pure]
          · cases h
        · cases h
      · rename_i n el ht
        split at h
        · rename_i hel
          obtain ⟨i, hi⟩ := Option.isSome_iff_exists.1 hel
          split at h
          · rename_i cs hf
            cases h
            obtain ⟨r', hr', hp⟩ := fill_rel _ _ _ hrel _ _ _ hzz hf
            refine ⟨.agg r', (VR2_agg.2 ⟨r', rfl, hp⟩).toVR, fun w => ?_⟩
            simp only [Instr.build, Sem.run_bind, run_zero hz, Result.andThen_ok, run_underlying ht, run_sizeOf w hi, hmap, hr', Sem.run_pure]
          · cases h
        · cases h
      · cases h
    · cases h
  · cases h

def binD (P : Program) (E : Operand → Option Value) (o : Oper) (op : BinOp) (t : TypeId) (x y : Value) : Option (Bool × Value) :=
  match arith op x y with
  | some r => some r
  | none => match eqAgg P op t x y with
    | some r => some r
    | none => match nilEq P op t x y with
      | some r => some r
      | none => gen P E o

def lenD (P : Program) (E : Operand → Option Value) (o : Oper) (b : Builtin) (ts : Array TypeId) (args : Array Operand) : Option (Bool × Value) :=
  match b, args.toList, ts.toList with
  | .len, [x], [t] => match P.underlying t, E x with
    | some (.slice _), some (.slice _ n _) => some (true, .int .i64 n)
    | some (.array n _), some _ => some (true, .int .i64 n)
    | _, _ => gen P E o
  | .cap, [x], [t] => match P.underlying t, E x with
    | some (.slice _), some (.slice _ _ n) => some (true, .int .i64 n)
    | _, _ => gen P E o
  | .max, _, _ | .min, _, _ => gen P E o
  | _, _, _ => none

def opPure (P : Program) (E : Operand → Option Value) (o : Oper) : Option (Bool × Value) :=
  match o.op with
  | .move x | .assign x => (E x).map (true, ·)
  | .pick c a b => match E c with
    | some (.bool true) => (E a).map (true, ·)
    | some (.bool false) => (E b).map (true, ·)
    | _ => none
  | .nilCheck x => match E x with | some (.pointer (some a)) => some (true, .pointer (some a)) | _ => none
  | .fieldAddr s x f => match E x with | some vx => fieldAddrOp P s vx f | none => none
  | .indexAddr t x i => match E x, E i with | some vx, some vi => indexAddrOp P t vx vi | _, _ => none
  | .index t x i => match E x, E i with | some vx, some vi => indexOp P t vx vi | _, _ => none
  | .slice t x lo hi none => match E x with | some vx => sliceOp P E t vx lo hi | none => none
  | .extract x i => match E x with | some vx => extractOp vx i | none => none
  | .field t x f => match E x with | some vx => fieldOp P t vx f | none => none
  | .sliceToArrayPointer t x => match E x with | some vx => arrayAtOp P t vx | none => none
  | .build t parts => buildOp P E t parts
  | .binOp op t x y _ => match E x, E y with | some vx, some vy => binD P E o op t vx vy | _, _ => none
  | .unOp .. | .convert .. | .makeInterface .. => gen P E o
  | .call c => match c.callee with | .builtin b => lenD P E o b c.argTypes c.args | _ => none
  | _ => none

theorem opPure_sound (h : opPure P E o = some (true, v)) (ρ : Ren) (e : Operand → Value) (hH : ∀ x ∈ o.op.operands, ∀ u, E x = some u → VR ρ u (e x)) :
    ∃ u, VR ρ v u ∧ ∀ w, (execOp e o).run P w = .ok (.value u) w := by
  have hgen : Oper.noSelect o = true → gen P E o = some (true, v) → ∃ u, VR ρ v u ∧ ∀ w, (execOp e o).run P w = .ok (.value u) w := fun hs hg => gen_sound hs hg ρ e hH
  unfold opPure at h
  split at h
  · rename_i x ho
    cases hx : E x with
    | none => simp [hx] at h
    | some vx => simp [hx] at h; subst h; exact ⟨e x, hH x (by simp [ho, Op.operands]) _ hx, fun w => by simp [execOp, ho]⟩
  · rename_i x ho
    cases hx : E x with
    | none => simp [hx] at h
    | some vx => simp [hx] at h; subst h; exact ⟨e x, hH x (by simp [ho, Op.operands]) _ hx, fun w => by simp [execOp, ho]⟩
  · rename_i c a b ho
    split at h
    · rename_i hc
      have hc' := VR_bool (hH c (by simp [ho, Op.operands]) _ hc)
      cases hx : E a with
      | none => simp [hx] at h
      | some vx => simp [hx] at h; subst h; exact ⟨e a, hH a (by simp [ho, Op.operands]) _ hx, fun w => by simp [execOp, ho, hc', asBool]⟩
    · rename_i hc
      have hc' := VR_bool (hH c (by simp [ho, Op.operands]) _ hc)
      cases hx : E b with
      | none => simp [hx] at h
      | some vx => simp [hx] at h; subst h; exact ⟨e b, hH b (by simp [ho, Op.operands]) _ hx, fun w => by simp [execOp, ho, hc', asBool]⟩
    · cases h
  · rename_i x ho
    split at h
    · rename_i a hx
      cases h
      have hv := hH x (by simp [ho, Op.operands]) _ hx
      obtain ⟨a', ha, hu⟩ : ∃ a', e x = .pointer (some a') ∧ True := by
        have := hv
        rw [VR_of2 (by simp), VR2_of1 (by simp), VR1_ptr] at this
        obtain ⟨a', _, h2⟩ := this
        exact ⟨a', h2, trivial⟩
      exact ⟨e x, hv, fun w => by simp [execOp, ho, ha]⟩
    · cases h
  · rename_i s x f ho
    split at h
    · rename_i vx hx
      obtain ⟨r, hr, hrun⟩ := fieldAddrOp_sound h (hH x (by simp [ho, Op.operands]) _ hx)
      exact ⟨r, hr, fun w => by simp [execOp, ho, hrun w]⟩
    · cases h
  · rename_i t x i ho
    split at h
    · rename_i vx vi hx hi
      obtain ⟨r, hr, hrun⟩ := indexAddrOp_sound h (hH x (by simp [ho, Op.operands]) _ hx) (hH i (by simp [ho, Op.operands]) _ hi)
      exact ⟨r, hr, fun w => by simp [execOp, ho, hrun w]⟩
    · cases h
  · rename_i t x i ho
    split at h
    · rename_i vx vi hx hi
      obtain ⟨r, hr, hrun⟩ := indexOp_sound h (hH x (by simp [ho, Op.operands]) _ hx) (hH i (by simp [ho, Op.operands]) _ hi)
      exact ⟨r, hr, fun w => by simp [execOp, ho, hrun w]⟩
    · cases h
  · rename_i t x lo hi ho
    split at h
    · rename_i vx hx
      obtain ⟨r, hr, hrun⟩ := sliceOp_sound h (hH x (by simp [ho, Op.operands]) _ hx) (fun z hz => hH z (by simp [ho, Op.operands, hz])) (fun z hz => hH z (by simp [ho, Op.operands, hz]))
      exact ⟨r, hr, fun w => by simp [execOp, ho, hrun w]⟩
    · cases h
  · rename_i x i ho
    split at h
    · rename_i vx hx
      obtain ⟨r, hr, hrun⟩ := extractOp_sound (P := P) h (hH x (by simp [ho, Op.operands]) _ hx)
      exact ⟨r, hr, fun w => by simp [execOp, ho, hrun w]⟩
    · cases h
  · rename_i t x f ho
    split at h
    · rename_i vx hx
      obtain ⟨r, hr, hrun⟩ := fieldOp_sound h (hH x (by simp [ho, Op.operands]) _ hx)
      exact ⟨r, hr, fun w => by simp [execOp, ho, hrun w]⟩
    · cases h
  · rename_i t x ho
    split at h
    · rename_i vx hx
      obtain ⟨r, hr, hrun⟩ := arrayAtOp_sound h (hH x (by simp [ho, Op.operands]) _ hx)
      exact ⟨r, hr, fun w => by simp [execOp, ho, hrun w]⟩
    · cases h
  · rename_i t parts ho
    obtain ⟨r, hr, hrun⟩ := buildOp_sound h (fun p hp => hH p.2 (by simp only [ho, Op.operands]; simp; exact ⟨p.1, by simpa using hp⟩))
    exact ⟨r, hr, fun w => by simp only [execOp, ho, Sem.run_bind, hrun w, Result.andThen_ok, Sem.run_pure]⟩
  · rename_i op t x y yt ho
    split at h
    · rename_i vx vy hx hy
      have hvx := hH x (by simp [ho, Op.operands]) _ hx
      have hvy := hH y (by simp [ho, Op.operands]) _ hy
      unfold binD at h
      split at h
      · rename_i r hr
        cases h
        obtain ⟨f1, f2, f3, hrun⟩ := arith_sound (P := P) (t := t) (px := x) (py := y) hr
        rw [VR_flat f1] at hvx
        rw [VR_flat f2] at hvy
        refine ⟨v, (VR_flat f3).2 rfl, fun w => ?_⟩
        have := hrun w
        rw [← hvx, ← hvy] at this
        simp only [execOp, ho, Sem.run_bind] at this ⊢
        rw [this]; rfl
      · split at h
        · rename_i r hr
          cases h
          obtain ⟨f1, f2, f3, hrun⟩ := eqAgg_sound (px := x) (py := y) hr
          rw [VR_flat f1] at hvx
          rw [VR_flat f2] at hvy
          refine ⟨v, (VR_flat f3).2 rfl, fun w => ?_⟩
          have := hrun w
          rw [← hvx, ← hvy] at this
          simp only [execOp, ho, Sem.run_bind] at this ⊢
          rw [this]; rfl
        · split at h
          · rename_i r hr
            cases h
            obtain ⟨r, hr, hrun⟩ := nilEq_sound (px := x) (py := y) hr hvx hvy
            refine ⟨r, hr, fun w => ?_⟩
            have := hrun w
            simp only [execOp, ho, Sem.run_bind] at this ⊢
            rw [this]; rfl
          · exact hgen (by simp [Oper.noSelect, ho]) h
    · cases h
  · rename_i ho; exact hgen (by simp [Oper.noSelect, ho]) h
  · rename_i ho; exact hgen (by simp [Oper.noSelect, ho]) h
  · rename_i ho; exact hgen (by simp [Oper.noSelect, ho]) h
  · rename_i c ho
    split at h
    · rename_i b hb
      unfold lenD at h
      obtain ⟨callee, args, argTypes⟩ := c
      simp only at hb h
      subst hb
      split at h
      · rename_i x t ha htt
        split at h
        · rename_i el sa n cp ht hx
          cases h
          obtain rfl : args = #[x] := Array.toList_inj.1 ha
          obtain rfl : argTypes = #[t] := Array.toList_inj.1 htt
          have hv := hH x (by simp [ho, Op.operands, Call.operands]) _ hx
          obtain ⟨a', ha'⟩ : ∃ a', e x = .slice a' n cp := by
            cases sa with
            | none => rw [VR_flat rfl] at hv; exact ⟨_, hv⟩
            | some a => rw [VR_of2 (by simp), VR2_of1 (by simp), VR1_slice] at hv; obtain ⟨a', _, h2⟩ := hv; exact ⟨_, h2⟩
          exact ⟨_, (VR_flat rfl).2 rfl, fun w => by simp [execOp, ho, resolve, invoke, builtin, Builtin.len_, ha', run_underlying ht, goInt]⟩
        · rename_i n el vx ht hx
          cases h
          obtain rfl : args = #[x] := Array.toList_inj.1 ha
          obtain rfl : argTypes = #[t] := Array.toList_inj.1 htt
          exact ⟨_, (VR_flat rfl).2 rfl, fun w => by simp [execOp, ho, resolve, invoke, builtin, Builtin.len_, run_underlying ht, goInt]⟩
        · exact hgen (by simp [Oper.noSelect, ho]) h
      · rename_i x t ha htt
        split at h
        · rename_i el sa n cp ht hx
          cases h
          obtain rfl : args = #[x] := Array.toList_inj.1 ha
          obtain rfl : argTypes = #[t] := Array.toList_inj.1 htt
          have hv := hH x (by simp [ho, Op.operands, Call.operands]) _ hx
          obtain ⟨a', ha'⟩ : ∃ a', e x = .slice a' n cp := by
            cases sa with
            | none => rw [VR_flat rfl] at hv; exact ⟨_, hv⟩
            | some a => rw [VR_of2 (by simp), VR2_of1 (by simp), VR1_slice] at hv; obtain ⟨a', _, h2⟩ := hv; exact ⟨_, h2⟩
          exact ⟨_, (VR_flat rfl).2 rfl, fun w => by simp [execOp, ho, resolve, invoke, builtin, Builtin.cap_, ha', run_underlying ht, goInt]⟩
        · exact hgen (by simp [Oper.noSelect, ho]) h
      · exact hgen (by simp [Oper.noSelect, ho]) h
      · exact hgen (by simp [Oper.noSelect, ho]) h
      · cases h
    · cases h
  · cases h

/-! ### Loads -/
def loadOp (P : Program) (mem : Mem) (t : TypeId) (x : Value) : Option (Bool × Value) :=
  match x with
  | .pointer (some ⟨k, off, none⟩) =>
    match mem[k]? with
    | some B =>
      if isRow P t then some (decide (off + P.cellsOf t ≤ B.cells.length), .agg ((B.cells.drop off).take (P.cellsOf t)).toArray)
      else if (P.underlying t).isSome then some (decide (off < B.cells.length), B.cells.getD off undef) else none
    | none => none
  | _ => none

theorem MRel.cellAt {w : World} (h : MRel ρ mem w) {k b s : Nat} {B : Blk} (hk : ρ k = some (b, s)) (hB : mem[k]? = some B) {i : Nat} {c : Value} (hc : B.cells[i]? = some c) : ∃ u, VR1 ρ c u ∧ w.cell? ⟨b, s + i, none⟩ = some u := by
  obtain ⟨B', hB', _, hcell⟩ := h.cell k b s hk
  rw [hB] at hB'
  cases hB'
  exact (hcell i c hc).1

theorem list_choose {α : Type} {n : Nat} {p : Nat → α → Prop} (h : ∀ i, i < n → ∃ a, p i a) : ∃ l : List α, l.length = n ∧ ∀ i a, l[i]? = some a → p i a := by
  induction n with
  | zero => exact ⟨[], rfl, by simp⟩
  | succ n ih =>
    obtain ⟨l, hl, hp⟩ := ih fun i hi => h i (by omega)
    obtain ⟨a, ha⟩ := h n (by omega)
    refine ⟨l ++ [a], by simp [hl], fun i b hb => ?_⟩
    by_cases hi : i < l.length
    · rw [List.getElem?_append_left hi] at hb; exact hp i b hb
    · rw [List.getElem?_append_right (by omega)] at hb
      have : i - l.length = 0 := by
        rcases Nat.eq_zero_or_pos (i - l.length) with h0 | h0
        · exact h0
        · rw [List.getElem?_eq_none (by simp; omega)] at hb; cases hb
      rw [this] at hb
      simp at hb
      subst hb
      have : i = n := by omega
      rw [this]; exact ha

theorem MRel.row {w : World} (h : MRel ρ mem w) {k b s : Nat} {B : Blk} (hk : ρ k = some (b, s)) (hB : mem[k]? = some B) {off n : Nat} (hn : off + n ≤ B.cells.length) :
    ∃ us : List Value, PW (VR1 ρ) ((B.cells.drop off).take n) us ∧ us.length = n ∧ ∀ j u, us[j]? = some u → w.cell? ⟨b, s + off + j, none⟩ = some u := by
  obtain ⟨us, hl, hp⟩ := list_choose (n := n) (p := fun j u => VR1 ρ (B.cells.getD (off + j) undef) u ∧ w.cell? ⟨b, s + off + j, none⟩ = some u) (fun i hi => by
    have hc : B.cells[off + i]? = some (B.cells.getD (off + i) undef) := by rw [List.getD_eq_getElem?_getD, List.getElem?_eq_getElem (by omega)]; rfl
    obtain ⟨u, hu, hw⟩ := h.cellAt hk hB hc
    exact ⟨u, hu, by rw [Nat.add_assoc]; exact hw⟩)
  refine ⟨us, ⟨by simp; omega, fun i x y hx hy => ?_⟩, hl, fun j u hj => (hp j u hj).2⟩
  rw [List.getElem?_take] at hx
  split at hx
  · rw [List.getElem?_drop] at hx
    have := (hp i y hy).1
    rw [List.getD_eq_getElem?_getD, hx] at this
    exact this
  · cases hx

theorem loadOp_sound {t : TypeId} {x u : Value} {M : Mem} {w : World} (h : loadOp P mem t x = some (true, v)) (hMm : ∀ (k : Nat) (B : Blk), mem[k]? = some B → M[k]? = some B) (hx : VR ρ x u) (hM : MRel ρ M w) :
    ∃ r, VR ρ v r ∧ (Instr.loadAt t u).run P w = .ok r w := by
  unfold loadOp at h
  split at h
  · rename_i k off
    obtain ⟨b, s, hρ, rfl⟩ := VR_ptr.1 hx
    split at h
    · rename_i B hB
      have hB' := hMm k B hB
      split at h
      · rename_i hr
        simp only [Option.some.injEq, Prod.mk.injEq, decide_eq_true_eq] at h
        obtain ⟨hn, rfl⟩ := h
        obtain ⟨d, hd⟩ : ∃ d, P.underlying t = some d := by unfold isRow at hr; split at hr; exact ⟨_, by assumption⟩; cases hr
        obtain ⟨i, hi⟩ := info_of_underlying hd
        obtain ⟨us, hpw, hl, hc⟩ := hM.row hρ hB' hn
        refine ⟨.agg us.toArray, (VR2_agg.2 ⟨_, rfl, by simpa using hpw⟩).toVR, ?_⟩
        have hload := run_loadCells_list (P := P) w ⟨b, s + off, none⟩ us (fun j v hv => by rw [Addr.add_lit]; exact hc j v hv)
        rw [hl] at hload
        simp [Instr.loadAt, Instr.sureAddr, loadVar, run_isAgg hd, hr, run_sizeOf w hi, hload]
      · rename_i hr
        split at h
        · rename_i hs
          obtain ⟨d, hd⟩ := Option.isSome_iff_exists.1 hs
          simp only [Option.some.injEq, Prod.mk.injEq, decide_eq_true_eq] at h
          obtain ⟨hlt, rfl⟩ := h
          have hg : B.cells[off]? = some (B.cells.getD off undef) := by rw [List.getD_eq_getElem?_getD, List.getElem?_eq_getElem hlt]; rfl
          obtain ⟨u, hu, hw⟩ := hM.cellAt hρ hB' hg
          refine ⟨u, hu.toVR, ?_⟩
          simp [Instr.loadAt, Instr.sureAddr, loadVar, run_isAgg hd, hr, hw]
        · cases h
    · cases h
  · cases h

/-! ### New blocks -/
/-- What an operation makes: the block, and the value that leads to it (at number k). -/
def newOp (P : Program) (E : Operand → Option Value) (k : Nat) (o : Oper) : Option (Bool × Blk × Value) :=
  match o.op with
  | .alloc t => match (P.info? t).bind (·.zero) with
    | some z => if z.cells.toList.all flat1 then some (true, ⟨z.cells.toList, t, true⟩, .pointer (some ⟨k, 0, none⟩)) else none
    | none => none
  | .box t x => match E x with
    | some (.tuple _) => none
    | some v => some (true, ⟨v.cells.toList, t, true⟩, .pointer (some ⟨k, 0, none⟩))
    | none => none
  | .makeSlice t l c => match P.underlying t, E l, E c with
    | some (.slice el), some (.int _ n), some (.int _ m) => match P.info? el with
      | some i => match i.zero with
        | some z => if i.size = 1 && flat1 z then
            some (decide (0 ≤ n) && decide (n ≤ m) && Nat.ble (i.bytes * m.toNat) 281474976710656 && Nat.ble m.toNat 281474976710656, ⟨List.replicate m.toNat z, el, true⟩, .slice (some ⟨k, 0, none⟩) n.toNat m.toNat)
          else none
        | none => none
      | none => none
    | _, _, _ => none
  | .buildSlice t n parts => match P.underlying t with
    | some (.slice el) => match P.info? el, partVals E parts.toList with
      | some i, some vs => match i.zero with
        | some z => if i.size = 1 && flat1 z && decide (n ≤ 65536) then
            match Instr.fill (fun j => some (j * 1, 1)) (List.replicate n z).toArray vs with
            | some cs => some (true, ⟨cs.toList, el, true⟩, .slice (some ⟨k, 0, none⟩) n n)
            | none => none
          else none
        | none => none
      | _, _ => none
    | _ => none
  | _ => none

theorem madeCells_one {z : Value} (hz : flat1 z = true) (n : Nat) : madeCells z.cells n = (List.replicate n z).toArray := by
  apply Array.ext
  · simp [madeCells]
  · intro i h1 h2
    simp [madeCells, (flat1_cells hz).1, Nat.mod_one]

theorem newOp_sound {B : Blk} (h : newOp P E mem.length o = some (true, B, v)) : NonW P o E v (mem ++ [B]) (some mem.length) := by
  refine NonW.of_new fun ρ e hH => ?_
  unfold newOp at h
  split at h
  · rename_i t ho
    split at h
    · rename_i z hz
      split at h
      · rename_i hf
        cases h
        refine ⟨z.cells.toList, (PW_flat (fun _ _ => VR1_flat) hf).2 rfl, fun w => ⟨.pointer (some ⟨w.heap.size, 0, none⟩), ?_, fun ρ' hk _ => VR_ptr.2 ⟨_, _, hk, rfl⟩⟩⟩
        simp [execOp, ho, Instr.alloc, run_zero hz, newVar, newRow]
      · cases h
    · cases h
  · rename_i t x ho
    split at h
    · cases h
    · rename_i v' hn hx
      cases h
      have hv := hH x (by simp [ho, Op.operands]) _ hx
      have hc := ((VR_of2 (fun vs hvs => hn vs hvs)).1 hv).cells
      refine ⟨(e x).cells.toList, hc, fun w => ⟨.pointer (some ⟨w.heap.size, 0, none⟩), ?_, fun ρ' hk _ => VR_ptr.2 ⟨_, _, hk, rfl⟩⟩⟩
      simp [execOp, ho, Instr.box, newVar, newRow]
    · cases h
  · rename_i t l c ho
    split at h
    · rename_i el kl n kc m ht hl hc
      split at h
      · rename_i i hi
        split at h
        · rename_i z hz
          split at h
          · rename_i hcond
            simp only [Option.some.injEq, Prod.mk.injEq, Bool.and_eq_true, decide_eq_true_eq] at h hcond
            obtain ⟨⟨⟨⟨h0, h1⟩, h2'⟩, h3'⟩, rfl, rfl⟩ := h
            have h3 := Nat.le_of_ble_eq_true h3'
            have h2 : (i.bytes : Int) * m ≤ 281474976710656 := by
              have h4 := Nat.le_of_ble_eq_true h2'
              have e : (i.bytes : Int) * m = ((i.bytes * m.toNat : Nat) : Int) := by rw [Int.natCast_mul, Int.toNat_of_nonneg (by omega)]
              rw [e]; omega
            have el1 := (VR_flat rfl).1 (hH l (by simp [ho, Op.operands]) _ hl)
            have ec1 := (VR_flat rfl).1 (hH c (by simp [ho, Op.operands]) _ hc)
            refine ⟨List.replicate m.toNat z, PW.replicate _ ((VR1_flat hcond.2).2 rfl), fun w => ⟨.slice (some ⟨w.heap.size, 0, none⟩) n.toNat m.toNat, ?_, fun ρ' hk _ => VR_slice.2 ⟨_, _, hk, rfl⟩⟩⟩
            have hrun := run_make w t el i z ht hi hz kl kc n m h0 h1 h2 (by omega)
            rw [hcond.1, Nat.mul_one, madeCells_one hcond.2] at hrun
            simp only [execOp, ho, el1, ec1, Sem.run_bind, hrun, Result.andThen_ok, Sem.run_pure]
          · cases h
        · cases h
      · cases h
    · cases h
  · rename_i t n parts ho
    split at h
    · rename_i el ht
      split at h
      · rename_i i vs hi hvs
        split at h
        · rename_i z hz
          split at h
          · rename_i hcond
            simp only [Bool.and_eq_true, decide_eq_true_eq] at hcond
            split at h
            · rename_i cs hf
              cases h
              have hrel := partVals_rel (ρ := ρ) (e := e) _ _ hvs (fun p hp => hH p.2 (by simp only [ho, Op.operands]; simp; exact ⟨p.1, by simpa using hp⟩))
              have hmap : (parts.map fun (i, x) => (i, e x)).toList = parts.toList.map fun p => (p.1, e p.2) := by simp
              obtain ⟨r', hr', hp⟩ := fill_rel _ _ _ hrel _ (List.replicate n z).toArray _ (by simpa using PW.replicate n ((VR1_flat (ρ := ρ) hcond.1.2).2 rfl)) hf
              refine ⟨r'.toList, hp, fun w => ⟨.slice (some ⟨w.heap.size, 0, none⟩) n n, ?_, fun ρ' hk _ => VR_slice.2 ⟨_, _, hk, rfl⟩⟩⟩
              have hzr := run_zero (P := P) (t := el) (z := z) (by simp [hi, hz]) w
              have hsz : P.cellsOf el = 1 := by simp [Program.cellsOf, hi, hcond.1.1]
              have hlim : ¬ n * 1 > 2 ^ 24 := by omega
              by_cases hn : n = 0
              · subst hn
                simp only [List.replicate_zero] at hr'
                simp [execOp, ho, Instr.buildSlice, run_underlying ht, run_sizeOf w hi, hsz, newRow]
                simp only [Nat.mul_one] at hr'
                have e0 : ∀ f : Nat → Value, Array.map f (Array.range 0) = #[] := fun f => by rw [Array.range_zero']; simp
                rw [e0, hr']
                rfl
              · have hbase : ((Array.range (n * 1)).map fun x => z.cells[x % z.cells.size]!) = (List.replicate n z).toArray := by
                  have := madeCells_one hcond.1.2 n
                  unfold madeCells at this
                  simpa using this
                have hn1 : ¬ n * 1 = 0 := by omega
                simp only [execOp, ho, Instr.buildSlice, Sem.run_bind, run_underlying ht, Result.andThen_ok, run_sizeOf w hi, hsz, if_neg hlim, if_neg hn1, hzr, Sem.run_pure, hbase, hmap, hr', newRow, run_newObj]
                rfl
            · cases h
          · cases h
        · cases h
      · cases h
    · cases h
  · cases h

/-! ### Stores -/
def setL : List Value → Nat → List Value → List Value
  | l, _, [] => l
  | l, off, v :: vs => setL (l.set off v) (off + 1) vs
theorem setL_length : ∀ (vs l : List Value) (off : Nat), (setL l off vs).length = l.length
  | [], _, _ => rfl
  | v :: vs, l, off => by rw [setL, setL_length vs]; simp
theorem setL_get : ∀ (vs l : List Value) (off i : Nat), off + vs.length ≤ l.length → (setL l off vs)[i]? = if off ≤ i ∧ i < off + vs.length then vs[i - off]? else l[i]?
  | [], l, off, i, _ => by simp only [setL, List.length_nil]; rw [if_neg (by omega)]
  | v :: vs, l, off, i, h => by
    simp only [List.length_cons] at h ⊢
    rw [setL, setL_get vs (l.set off v) (off + 1) i (by simp; omega)]
    by_cases h1 : off + 1 ≤ i ∧ i < off + 1 + vs.length
    · rw [if_pos h1, if_pos (by omega)]
      rw [show i - off = (i - (off + 1)) + 1 by omega, List.getElem?_cons_succ]
    · rw [if_neg h1, List.getElem?_set]
      by_cases h2 : off = i
      · subst h2
        rw [if_pos rfl, if_pos (by omega), if_pos (by omega)]
        simp
      · rw [if_neg h2, if_neg (by omega)]

theorem setCells_heap (b : Nat) : ∀ (vs : List Value) (o : Nat) (w : World), (w.setCells b o vs).heap.size = w.heap.size ∧ (w.setCells b o vs).os = w.os ∧ (w.setCells b o vs).tape = w.tape ∧ (w.setCells b o vs).output = w.output ∧
    ∀ k, k ≠ b → (w.setCells b o vs).heap[k]? = w.heap[k]?
  | [], _, _ => ⟨rfl, rfl, rfl, rfl, fun _ _ => rfl⟩
  | v :: vs, o, w => by
    obtain ⟨h1, h2, h3, h4, h5⟩ := setCells_heap b vs (o + 1) (w.setCell ⟨b, o, none⟩ v)
    rw [World.setCells]
    exact ⟨h1.trans (by simp), h2, h3, h4, fun k hk => (h5 k hk).trans (RowKit.Below.heap_setCell _ _ _ _ hk)⟩

theorem MRel.setCells {w : World} (hM : MRel ρ mem w) {k b s : Nat} {B : Blk} (hk : ρ k = some (b, s)) (hB : mem[k]? = some B) (ho : B.own = true) {off : Nat} {vs us : List Value} (hn : off + vs.length ≤ B.cells.length) (hp : PW (VR1 ρ) vs us) :
    MRel ρ (mem.set k { B with cells := setL B.cells off vs }) (w.setCells b (s + off) us) := by
  have hkl : k < mem.length := (List.getElem?_eq_some_iff.1 hB).1
  obtain ⟨hsz, _, _, _, hheap⟩ := setCells_heap b us (s + off) w
  have hcell0 : ∀ i, i < B.cells.length → (w.cell? ⟨b, s + i, none⟩).isSome = true := fun i hi => by
    obtain ⟨u, _, hw⟩ := hM.cellAt hk hB (List.getElem?_eq_getElem hi)
    rw [hw]; rfl
  refine ⟨fun j b' s' hj => ?_, fun j b' s' j' b'' s'' B' hj hj' hB' ho' hne => ?_⟩
  · by_cases hjk : j = k
    · subst hjk
      rw [hk] at hj
      cases hj
      refine ⟨_, List.getElem?_set_self hkl, ?_, fun i v hv => ?_⟩
      · obtain ⟨_, _, hlt, _⟩ := hM.cell j b s hk
        rw [hsz]; exact hlt
      · simp only at hv ⊢
        obtain ⟨B', hB', _, hold⟩ := hM.cell j b s hk
        rw [hB] at hB'
        cases hB'
        rw [setL_get _ _ _ _ hn] at hv
        split at hv
        · rename_i hi
          obtain ⟨u, hu, hR⟩ := hp.get hv
          have hil : i - off < us.length := (List.getElem?_eq_some_iff.1 hu).1
          have := World.cell?_setCells_in b us (s + off) w (fun q hq => by have := hcell0 (off + q) (by have := hp.1; omega); rwa [← Nat.add_assoc] at this) (i - off) hil
          refine ⟨⟨u, hR, ?_⟩, fun _ => ?_⟩
          · rw [show s + i = s + off + (i - off) by omega, this]
            rw [List.getElem?_eq_getElem hil] at hu
            exact hu
          · rw [World.frozen?_setCells]
            exact (hold i (B.cells[i]'(by omega)) (List.getElem?_eq_getElem _)).2 ho
        · rename_i hi
          obtain ⟨⟨u, hu, hw⟩, hf⟩ := hold i v hv
          refine ⟨⟨u, hu, ?_⟩, fun hh => by rw [World.frozen?_setCells]; exact hf hh⟩
          rw [World.cell?_setCells_out b us (s + off) w ⟨b, s + i, none⟩ (fun _ _ => by have := hp.1; simp only; omega)]
          exact hw
    · obtain ⟨B', hB', hlt, hold⟩ := hM.cell j b' s' hj
      have hbb : b ≠ b' := hM.apart k b s j b' s' B hk hj hB ho (Ne.symm hjk)
      refine ⟨B', by rw [List.getElem?_set_ne (Ne.symm hjk)]; exact hB', by rw [hsz]; exact hlt, fun i v hv => ?_⟩
      obtain ⟨⟨u, hu, hw⟩, hf⟩ := hold i v hv
      refine ⟨⟨u, hu, ?_⟩, fun hh => by rw [World.frozen?_setCells]; exact hf hh⟩
      rw [World.cell?_setCells_out b us (s + off) w ⟨b', s' + i, none⟩ (fun h _ => absurd h.symm hbb)]
      exact hw
  · by_cases hjk : j = k
    · subst hjk
      rw [hk] at hj
      cases hj
      exact hM.apart j b s j' b'' s'' B hk hj' hB ho hne
    · rw [List.getElem?_set_ne (Ne.symm hjk)] at hB'
      exact hM.apart j b' s' j' b'' s'' B' hj hj' hB' ho' hne

theorem Mv.setCells {w : World} {k b s : Nat} {B : Blk} (hk : ρ k = some (b, s)) (hB : mem[k]? = some B) (ho : B.own = true) (cs us : List Value) (o : Nat) :
    Mv ρ mem w ρ (mem.set k { B with cells := cs }) (w.setCells b o us) := by
  obtain ⟨hsz, h2, h3, h4, hheap⟩ := setCells_heap b us o w
  refine ⟨.refl _, (fun k x h h' => by rw [h] at h'; cases h'), fun j B' hB' => ?_, h2, h3, h4, Nat.le_of_eq hsz.symm, fun b' _ hb' => ?_⟩
  · by_cases hjk : j = k
    · subst hjk
      rw [hB] at hB'
      cases hB'
      exact ⟨_, List.getElem?_set_self (List.getElem?_eq_some_iff.1 hB).1, rfl⟩
    · exact ⟨B', by rw [List.getElem?_set_ne (Ne.symm hjk)]; exact hB', rfl⟩
  · refine hheap b' fun e => ?_
    subst e
    have := hb' k s B hk hB
    rw [ho] at this
    cases this

def isTuple : Value → Bool
  | .tuple _ => true
  | _ => false
def storeOp (P : Program) (mem : Mem) (t : TypeId) (x y : Value) : Option (Bool × Mem) :=
  match x with
  | .pointer (some ⟨k, off, none⟩) =>
    match mem[k]? with
    | some B =>
      if B.own && (P.info? t).isSome && y.cells.toList.length == P.cellsOf t && !isTuple y then
        some (decide (off + y.cells.toList.length ≤ B.cells.length), mem.set k { B with cells := setL B.cells off y.cells.toList })
      else none
    | none => none
  | _ => none

theorem isOne_oneCell {v : Value} (h : isOne v = true) : v.oneCell' = true := by cases v <;> first | rfl | cases h

theorem storeOp_sound {t : TypeId} {x y ux uy : Value} {mem' : Mem} {w : World} (h : storeOp P mem t x y = some (true, mem')) (hx : VR ρ x ux) (hy : VR ρ y uy) (hM : MRel ρ mem w) :
    ∃ w', (Instr.storeAt t ux uy).run P w = .ok () w' ∧ MRel ρ mem' w' ∧ Mv ρ mem w ρ mem' w' := by
  unfold storeOp at h
  split at h
  · rename_i k off
    obtain ⟨b, s, hρ, rfl⟩ := VR_ptr.1 hx
    split at h
    · rename_i B hB
      split at h
      · rename_i hc
        simp only [Bool.and_eq_true, beq_iff_eq] at hc
        obtain ⟨hc, htup⟩ := hc
        have hn : ∀ vs, y ≠ .tuple vs := fun vs hvs => by rw [hvs] at htup; cases htup
        simp only [Option.some.injEq, Prod.mk.injEq, decide_eq_true_eq] at h
        obtain ⟨hlen, rfl⟩ := h
        obtain ⟨i, hi⟩ := Option.isSome_iff_exists.1 hc.1.2
        have hcells := ((VR_of2 (fun vs hvs => hn vs hvs)).1 hy).cells
        refine ⟨w.setCells b (s + off) uy.cells.toList, ?_, hM.setCells hρ hB hc.1.1 hlen hcells, Mv.setCells hρ hB hc.1.1 _ _ _⟩
        have hsize : uy.cells.size = P.cellsOf t := by have := hcells.1; simp at this; rw [← hc.2]; simp [this]
        obtain ⟨B', hB', _, hold⟩ := hM.cell k b s hρ
        rw [hB] at hB'
        cases hB'
        have hget : ∀ j, j < uy.cells.toList.length → off + j < B.cells.length := fun j hj => by have := hcells.1; omega
        have hst := run_storeCells_cells (P := P) b (s + off) uy.cells.toList 0 w
          (fun j hj => by obtain ⟨⟨u, _, hw⟩, _⟩ := hold (off + j) _ (List.getElem?_eq_getElem (hget j hj)); rw [Nat.add_zero, Nat.add_assoc, hw]; rfl)
          (fun j hj => by have := (hold (off + j) _ (List.getElem?_eq_getElem (hget j hj))).2 hc.1.1; rw [Nat.add_zero, Nat.add_assoc]; exact this)
          (fun c hc' => by
            obtain ⟨j, hj⟩ := List.getElem?_of_mem hc'
            have hjl : j < y.cells.toList.length := by have := hcells.1; have := (List.getElem?_eq_some_iff.1 hj).1; omega
            exact isOne_oneCell (hcells.2 j _ c (List.getElem?_eq_getElem hjl) hj).one)
        simp only [Nat.add_zero] at hst
        simp [Instr.storeAt, Instr.sureAddr, storeVar, run_sizeOf w hi, hsize, hst]
      · cases h
    · cases h
  · cases h
end
end Go.Ev
