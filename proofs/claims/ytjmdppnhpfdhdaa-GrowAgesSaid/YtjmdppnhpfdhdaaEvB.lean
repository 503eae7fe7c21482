/-
  Relative states, part B: what one operation does: operations that only compute, loads, new blocks, stores, calls.
-/
import Derived.Test.YtjmdppnhpfdhdaaEvA
import Derived.Laws.Entries
import Derived.Laws.StructEq
import Derived.Laws.NewBlocks
namespace Go.Ev

/-- An operation that writes nothing that was there: M is whatever memory is known that holds what the operation saw and made. -/
def NonW (P : Program) (o : Oper) (E : Operand → Option Value) (v : Value) (mem' : Mem) (id : Option Nat) : Prop :=
  ∀ (M : Mem), (∀ (k : Nat) (B : Blk), mem'[k]? = some B → M[k]? = some B) → ∀ (ρ : Ren) (a : Act) (w : World),
    (∀ x ∈ o.op.operands, ∀ u, E x = some u → VR ρ u (a.eval x)) → MRel ρ M w → (∀ k, id = some k → ρ k = none) →
    ∀ (next : Act → World → Prop) (Q : Exit → Act → World → Prop),
      (∀ u w' ρ', VR ρ' v u → MRel ρ' M w' → Mv ρ M w ρ' M w' → (∀ k x, ρ' k = some x → ρ k = some x ∨ id = some k) → next (a.put o.dst u) w') → o.wp P a w next Q

/-- An operation that writes. -/
def Wr (P : Program) (o : Oper) (E : Operand → Option Value) (v : Value) (mem mem' : Mem) : Prop :=
  ∀ (ρ : Ren) (a : Act) (w : World), (∀ x ∈ o.op.operands, ∀ u, E x = some u → VR ρ u (a.eval x)) → MRel ρ mem w →
    ∀ (next : Act → World → Prop) (Q : Exit → Act → World → Prop),
      (∀ u w' ρ', VR ρ' v u → MRel ρ' mem' w' → Mv ρ mem w ρ' mem' w' → next (a.put o.dst u) w') → o.wp P a w next Q

section
variable {P : Program} {o : Oper} {E : Operand → Option Value} {v : Value} {mem : Mem}

/-- It only computes. -/
theorem NonW.of_pure (h : ∀ (ρ : Ren) (e : Operand → Value), (∀ x ∈ o.op.operands, ∀ u, E x = some u → VR ρ u (e x)) → ∃ u, VR ρ v u ∧ ∀ w, (execOp e o).run P w = .ok (.value u) w) : NonW P o E v mem none := by
  intro M _ ρ a w hH hM _ next Q hn
  obtain ⟨u, hu, hr⟩ := h ρ a.eval hH
  unfold Oper.wp
  rw [hr w]
  exact hn u w ρ hu hM (.refl _ _ _) fun k x hx => .inl hx

/-- It computes and reads. -/
theorem NonW.of_read (h : ∀ (ρ : Ren) (e : Operand → Value) (w : World) (M : Mem), (∀ (k : Nat) (B : Blk), mem[k]? = some B → M[k]? = some B) → (∀ x ∈ o.op.operands, ∀ u, E x = some u → VR ρ u (e x)) → MRel ρ M w →
    ∃ u, VR ρ v u ∧ (execOp e o).run P w = .ok (.value u) w) : NonW P o E v mem none := by
  intro M hMm ρ a w hH hM _ next Q hn
  obtain ⟨u, hu, hr⟩ := h ρ a.eval w M hMm hH hM
  unfold Oper.wp
  rw [hr]
  exact hn u w ρ hu hM (.refl _ _ _) fun k x hx => .inl hx

def Ren.put (ρ : Ren) (k : Nat) (x : Nat × Nat) : Ren := fun j => if j = k then some x else ρ j

theorem Ren.le_put {ρ : Ren} {k : Nat} (h : ρ k = none) (x : Nat × Nat) : ρ.le (ρ.put k x) := fun j y hy => by
  unfold Ren.put
  split
  · rename_i e; subst e; rw [h] at hy; cases hy
  · exact hy

theorem MRel.alloc {ρ : Ren} {M : Mem} {w : World} (hM : MRel ρ M w) {k : Nat} {B : Blk} (hk : M[k]? = some B) (hn : ρ k = none) {cs : List Value} (hc : PW (VR1 ρ) B.cells cs) :
    MRel (ρ.put k (w.heap.size, 0)) M (w.alloc (.cells cs.toArray B.elem)) := by
  have hle := Ren.le_put hn (w.heap.size, 0)
  refine ⟨fun j b s hj => ?_, fun j b s j' b' s' B' hj hj' hB' ho hne => ?_⟩
  · unfold Ren.put at hj
    split at hj
    · rename_i e
      subst e
      cases hj
      refine ⟨B, hk, by simp, fun i v hv => ?_⟩
      obtain ⟨u, hu, hvu⟩ := hc.get hv
      refine ⟨⟨u, hvu.mono hle, ?_⟩, fun _ => by simp⟩
      rw [Nat.zero_add, World.cell?_alloc_new]
      simpa using hu
    · obtain ⟨B', hB', hlt, hcell⟩ := hM.cell j b s hj
      refine ⟨B', hB', by simp; omega, fun i v hv => ?_⟩
      obtain ⟨⟨u, hu, hw⟩, hf⟩ := hcell i v hv
      exact ⟨⟨u, hu.mono hle, by rw [World.cell?_alloc_lt _ _ _ hlt]; exact hw⟩, fun ho => by rw [World.frozen?_alloc_old _ _ _ (by simp; omega)]; exact hf ho⟩
  · unfold Ren.put at hj hj'
    split at hj
    · rename_i e
      cases hj
      split at hj'
      · rename_i e'; exact absurd (e.trans e'.symm) hne
      · obtain ⟨_, _, hlt, _⟩ := hM.cell j' b' s' hj'
        omega
    · split at hj'
      · cases hj'
        obtain ⟨_, _, hlt, _⟩ := hM.cell j b s hj
        omega
      · exact hM.apart j b s j' b' s' B' hj hj' hB' ho hne

theorem Mv.alloc {ρ : Ren} {M : Mem} {w : World} {k : Nat} (hn : ρ k = none) (ob : Obj) : Mv ρ M w (ρ.put k (w.heap.size, 0)) M (w.alloc ob) := by
  refine ⟨Ren.le_put hn _, fun j x hx h0 => ?_, fun j B h => ⟨B, h, rfl⟩, rfl, rfl, rfl, by simp, fun b hb _ => RowKit.Below.heap_alloc _ _ _ hb⟩
  unfold Ren.put at hx
  split at hx
  · cases hx; exact Nat.le_refl _
  · rw [h0] at hx; cases hx

/-- It makes one block. -/
theorem NonW.of_new {B : Blk} (h : ∀ (ρ : Ren) (e : Operand → Value), (∀ x ∈ o.op.operands, ∀ u, E x = some u → VR ρ u (e x)) →
    ∃ cs, PW (VR1 ρ) B.cells cs ∧ ∀ w, ∃ u, (execOp e o).run P w = .ok (.value u) (w.alloc (.cells cs.toArray B.elem)) ∧ ∀ ρ' : Ren, ρ' mem.length = some (w.heap.size, 0) → ρ.le ρ' → VR ρ' v u) :
    NonW P o E v (mem ++ [B]) (some mem.length) := by
  intro M hMm ρ a w hH hM hid next Q hn
  obtain ⟨cs, hcs, hr⟩ := h ρ a.eval hH
  obtain ⟨u, hru, hu⟩ := hr w
  have h0 := hid _ rfl
  have hB : M[mem.length]? = some B := hMm _ _ (by simp)
  unfold Oper.wp
  rw [hru]
  refine hn u _ (ρ.put mem.length (w.heap.size, 0)) (hu _ (by simp [Ren.put]) (Ren.le_put h0 _)) (hM.alloc hB h0 hcs) (Mv.alloc h0 _) fun k x hx => ?_
  unfold Ren.put at hx
  split at hx
  · rename_i e; exact .inr (by rw [e])
  · exact .inl hx

/-- It calls a function that touches nothing that was there. -/
theorem NonW.of_quiet {f : FuncId} {args : List Value} (hv : flat v = true) (hp : PC P f args v)
    (h : ∀ (ρ : Ren) (e : Operand → Value), (∀ x ∈ o.op.operands, ∀ u, E x = some u → VR ρ u (e x)) → ∀ w, (execOp e o).run P w = .ok (.enter f args.toArray) w) : NonW P o E v mem none := by
  intro M hMm ρ a w hH hM hid next Q hn
  unfold Oper.wp
  rw [h ρ a.eval hH w, Oper.upon_enter]
  refine (hp w).mono ?_
  rintro e w' ⟨rfl, hb⟩
  exact hn v w' ρ ((VR_flat hv).2 rfl) (hM.below hb) (Mv.of_below hb) fun k x hx => .inl hx

/-! ### Operations that only compute -/

/-- The run of what asks nothing of the world. -/
def pureRun {α : Type} (P : Program) : Sem α → Option α
  | .pure a => some a
  | .program k => pureRun P (k P)
  | .mark _ k => pureRun P k
  | _ => none

theorem pureRun_run {α : Type} {s : Sem α} {a : α} (h : pureRun P s = some a) (w : World) : s.run P w = .ok a w := by
  induction s generalizing a w with
  | pure b => simp only [pureRun, Option.some.injEq] at h; subst h; rfl
  | program k ih => simp only [pureRun] at h; simp only [Sem.run]; exact ih _ h w
  | mark m k ih => simp only [pureRun] at h; simp only [Sem.run]; exact ih h w
  | _ => cases h

def flatAll (E : Operand → Option Value) (xs : List Operand) : Bool := xs.all fun x => match E x with | some v => flat v | none => false

/-- An operation on values without addresses, by the model's own words. -/
def gen (P : Program) (E : Operand → Option Value) (o : Oper) : Option (Bool × Value) :=
  if flatAll E o.op.operands.toList then
    match pureRun P (execOp (fun x => (E x).getD undef) o) with
    | some (.value v) => if flat v then some (true, v) else none
    | _ => none
  else none

theorem flatAll_spec {xs : Array Operand} (h : flatAll E xs.toList = true) {ρ : Ren} {e : Operand → Value} (hH : ∀ x ∈ xs, ∀ u, E x = some u → VR ρ u (e x)) : ∀ x ∈ xs, e x = (E x).getD undef := by
  intro x hx
  have h1 := List.all_eq_true.1 h x (by simpa using hx)
  cases hE : E x with
  | none => simp [hE] at h1
  | some u => simp only [hE] at h1; rw [(VR_flat h1).1 (hH x hx u hE)]; rfl

def Oper.noSelect (o : Oper) : Bool := match o.op with | .select .. => false | _ => true
theorem gen_sound (hs : Oper.noSelect o = true) (h : gen P E o = some (true, v)) (ρ : Ren) (e : Operand → Value) (hH : ∀ x ∈ o.op.operands, ∀ u, E x = some u → VR ρ u (e x)) :
    ∃ u, VR ρ v u ∧ ∀ w, (execOp e o).run P w = .ok (.value u) w := by
  unfold gen at h
  split at h
  · rename_i hf
    split at h
    · rename_i v' hr
      split at h
      · rename_i hv
        cases h
        refine ⟨v, (VR_flat hv).2 rfl, fun w => ?_⟩
        rw [execOp_congr o (fun cs b hh => by simp [Oper.noSelect, hh] at hs) (flatAll_spec hf hH)]
        exact pureRun_run hr w
      · cases h
    · cases h
  · cases h

/-- Arithmetic that may panic; shifts. -/
def arith (op : BinOp) (x y : Value) : Option (Bool × Value) :=
  match op, x, y with
  | .shl, .int k a, .int _ b => some (!decide (b < 0), .int k (k.wrap (a * 2 ^ (min b.toNat k.bits))))
  | .shr, .int k a, .int _ b => some (!decide (b < 0), .int k (a.fdiv (2 ^ (min b.toNat k.bits))))
  | .quo, .int k a, .int k' b => if k = k' then some (!decide (b = 0), .int k (k.wrap (a.tdiv b))) else none
  | .rem, .int k a, .int k' b => if k = k' then some (!decide (b = 0), .int k (a.tmod b)) else none
  | .add, .string a, .string b => some (decide (((a.size + b.size : Nat) : Int) ≤ 9223372036854775807), .string (a ++ b))
  | _, _, _ => none

theorem arith_sound {op : BinOp} {t : TypeId} {px py : Operand} {x y : Value} (h : arith op x y = some (true, v)) :
    flat x = true ∧ flat y = true ∧ flat v = true ∧ ∀ w, (do eqGuard op t px py x y; binOp op t x y).run P w = .ok v w := by
  unfold arith at h
  split at h
  · simp only [Option.some.injEq, Prod.mk.injEq, Bool.not_eq_true', decide_eq_false_iff_not] at h
    obtain ⟨h1, rfl⟩ := h
    exact ⟨rfl, rfl, rfl, fun w => by simp [eqGuard_shl, binOp_shl, Op.shift, h1]⟩
  · simp only [Option.some.injEq, Prod.mk.injEq, Bool.not_eq_true', decide_eq_false_iff_not] at h
    obtain ⟨h1, rfl⟩ := h
    exact ⟨rfl, rfl, rfl, fun w => by simp [eqGuard_shr, binOp_shr, Op.shift, h1]⟩
  · split at h
    · rename_i hk
      subst hk
      simp only [Option.some.injEq, Prod.mk.injEq, Bool.not_eq_true', decide_eq_false_iff_not] at h
      obtain ⟨h1, rfl⟩ := h
      exact ⟨rfl, rfl, rfl, fun w => by simp [eqGuard_quo, binOp_quo, Op.intDiv, h1]⟩
    · cases h
  · split at h
    · rename_i hk
      subst hk
      simp only [Option.some.injEq, Prod.mk.injEq, Bool.not_eq_true', decide_eq_false_iff_not] at h
      obtain ⟨h1, rfl⟩ := h
      exact ⟨rfl, rfl, rfl, fun w => by simp [eqGuard_rem, binOp_rem, Op.intDiv, h1]⟩
    · cases h
  · simp only [Option.some.injEq, Prod.mk.injEq, decide_eq_true_eq] at h
    obtain ⟨h1, rfl⟩ := h
    exact ⟨rfl, rfl, rfl, fun w => by
      have : ¬ (((_ : ByteArray).size + (_ : ByteArray).size : Nat) : Int) > 9223372036854775807 := Int.not_lt.2 h1
      simp only [Sem.run_bind, eqGuard_add, Sem.run_pure, Result.andThen_ok, binOp, Op.stringOp, IntKind.max_i64, if_neg this]⟩
  · cases h

/-- Equality of two arrays of integers, place by place. -/
def eqInts : List Value → List Value → Option Bool
  | [], [] => some true
  | .int k a :: xs, .int k' b :: ys => if k = k' then match eqInts xs ys with | some r => some (a == b && r) | none => none else none
  | _, _ => none

end
end Go.Ev
