/-
  Relative states: values and blocks numbered from the program's own point of view, and what a piece of code does to them. Part A: the relation to the machine's world, and the rules of control.
-/
import Derived.Orders
import Derived.Below
namespace Go.Ev

/-- A block of cells as the evaluator numbers it. -/
structure Blk where
  cells : List Value
  elem : TypeId
  own : Bool

abbrev Mem := List Blk
abbrev Ren := Nat → Option (Nat × Nat)

/-- Where a relative address lies. -/
def rA (ρ : Ren) (a : Addr) : Option Addr :=
  match a.spot, ρ a.block with
  | none, some (b, s) => some ⟨b, s + a.off, none⟩
  | _, _ => none

def rC (ρ : Ren) : Value → Option Value
  | .pointer (some a) => (rA ρ a).map fun a' => .pointer (some a')
  | .slice (some a) l c => (rA ρ a).map fun a' => .slice (some a') l c
  | .agg _ => none
  | .tuple _ => none
  | v => some v

/-- Two lists agree place by place. -/
def PW {α β : Type} (R : α → β → Prop) (l : List α) (m : List β) : Prop :=
  l.length = m.length ∧ ∀ (i : Nat) a b, l[i]? = some a → m[i]? = some b → R a b

def VR1 (ρ : Ren) (v u : Value) : Prop := rC ρ v = some u
def VR2 (ρ : Ren) (v u : Value) : Prop :=
  match v with
  | .agg cs => ∃ us : Array Value, u = .agg us ∧ PW (VR1 ρ) cs.toList us.toList
  | v => VR1 ρ v u
/-- A tuple of one: it stands for any value (that nothing looks at any more). -/
def isWild : List Value → Bool
  | [_] => true
  | _ => false
def wild : Value := .tuple #[.bool false]
def VR (ρ : Ren) (v u : Value) : Prop :=
  match v with
  | .tuple vs => isWild vs.toList = true ∨ ∃ us : Array Value, u = .tuple us ∧ PW (VR2 ρ) vs.toList us.toList
  | v => VR2 ρ v u

def Ren.le (ρ ρ' : Ren) : Prop := ∀ k x, ρ k = some x → ρ' k = some x

section lists
variable {α β γ : Type} {R R' : α → β → Prop}

theorem PW.nil : PW R ([] : List α) ([] : List β) := ⟨rfl, by simp⟩
theorem PW.cons {a : α} {b : β} {l : List α} {m : List β} (h : R a b) (t : PW R l m) : PW R (a :: l) (b :: m) := by
  refine ⟨by simp [t.1], fun i x y hx hy => ?_⟩
  cases i with
  | zero => simp at hx hy; subst hx; subst hy; exact h
  | succ i => simp at hx hy; exact t.2 i x y hx hy
theorem PW.uncons {a : α} {l : List α} {m : List β} (h : PW R (a :: l) m) : ∃ b m', m = b :: m' ∧ R a b ∧ PW R l m' := by
  obtain ⟨hl, hR⟩ := h
  cases m with
  | nil => simp at hl
  | cons b m' => exact ⟨b, m', rfl, hR 0 a b rfl rfl, by simpa using hl, fun i x y hx hy => hR (i + 1) x y (by simpa using hx) (by simpa using hy)⟩
theorem PW.unnil {m : List β} (h : PW R ([] : List α) m) : m = [] := by cases m with | nil => rfl | cons => simp [PW] at h
theorem PW.mono {l : List α} {m : List β} (h : PW R l m) (hr : ∀ a b, R a b → R' a b) : PW R' l m := ⟨h.1, fun i a b ha hb => hr _ _ (h.2 i a b ha hb)⟩
theorem PW.append {l l' : List α} {m m' : List β} (h : PW R l m) (h' : PW R l' m') : PW R (l ++ l') (m ++ m') := by
  refine ⟨by simp [h.1, h'.1], fun i x y hx hy => ?_⟩
  by_cases hi : i < l.length
  · rw [List.getElem?_append_left hi] at hx
    rw [List.getElem?_append_left (h.1 ▸ hi)] at hy
    exact h.2 i x y hx hy
  · rw [List.getElem?_append_right (by omega)] at hx
    rw [List.getElem?_append_right (by have := h.1; omega)] at hy
    rw [← h.1] at hy
    exact h'.2 _ x y hx hy
theorem PW.set {l : List α} {m : List β} (h : PW R l m) (i : Nat) {a : α} {b : β} (hab : R a b) : PW R (l.set i a) (m.set i b) := by
  refine ⟨by simp [h.1], fun j x y hx hy => ?_⟩
  rw [List.getElem?_set] at hx hy
  rw [← h.1] at hy
  by_cases hij : i = j
  · simp only [hij, if_true] at hx hy
    by_cases hj : j < l.length
    · simp [hj] at hx hy; subst hx; subst hy; exact hab
    · simp [hj] at hx
  · simp only [hij, if_false] at hx hy
    exact h.2 j x y hx hy
theorem PW.replicate (n : Nat) {a : α} {b : β} (h : R a b) : PW R (List.replicate n a) (List.replicate n b) := by
  refine ⟨by simp, fun i x y hx hy => ?_⟩
  rw [List.getElem?_replicate] at hx hy
  split at hx
  · simp_all
  · cases hx
theorem PW.get {l : List α} {m : List β} (h : PW R l m) {i : Nat} {a : α} (ha : l[i]? = some a) : ∃ b, m[i]? = some b ∧ R a b := by
  have hi : i < l.length := (List.getElem?_eq_some_iff.1 ha).1
  have hm : m[i]? = some (m[i]'(h.1 ▸ hi)) := List.getElem?_eq_getElem _
  exact ⟨_, hm, h.2 i _ _ ha hm⟩
theorem PW.getD {l : List α} {m : List β} (h : PW R l m) (i : Nat) {a : α} {b : β} (hab : R a b) : R (l.getD i a) (m.getD i b) := by
  simp only [List.getD_eq_getElem?_getD]
  cases hl : l[i]? with
  | none =>
    have hn : m[i]? = none := by rw [List.getElem?_eq_none_iff] at hl ⊢; have := h.1; omega
    simp [hn, hab]
  | some x => obtain ⟨y, hy, hR⟩ := h.get hl; simp [hy, hR]
theorem PW.take {l : List α} {m : List β} (h : PW R l m) (n : Nat) : PW R (l.take n) (m.take n) := by
  refine ⟨by simp [h.1], fun i x y hx hy => ?_⟩
  rw [List.getElem?_take] at hx hy
  split at hx
  · rename_i hi; rw [if_pos hi] at hy; exact h.2 i x y hx hy
  · cases hx
theorem PW.drop {l : List α} {m : List β} (h : PW R l m) (n : Nat) : PW R (l.drop n) (m.drop n) := by
  refine ⟨by simp [h.1], fun i x y hx hy => ?_⟩
  rw [List.getElem?_drop] at hx hy
  exact h.2 _ x y hx hy
theorem PW.map_left {l : List γ} {m : List β} {f : γ → α} (h : PW (fun c b => R (f c) b) l m) : PW R (l.map f) m := by
  refine ⟨by simp [h.1], fun i x y hx hy => ?_⟩
  rw [List.getElem?_map] at hx
  cases hl : l[i]? with
  | none => simp [hl] at hx
  | some c => simp [hl] at hx; subst hx; exact h.2 i c y hl hy
end lists

section rel
variable {ρ ρ' : Ren}
theorem Ren.le.refl (ρ : Ren) : ρ.le ρ := fun _ _ h => h
theorem Ren.le.trans {a b c : Ren} (h : a.le b) (h' : b.le c) : a.le c := fun k x hx => h' k x (h k x hx)
theorem rA_mono (h : ρ.le ρ') {a a' : Addr} (ha : rA ρ a = some a') : rA ρ' a = some a' := by
  unfold rA at *
  split at ha
  · rename_i b s hs hb; simp [hs, h _ _ hb]; simpa using ha
  · cases ha
/-- A value without an address: it is what it is. -/
def flat1 : Value → Bool
  | .pointer (some _) | .slice (some _) _ _ | .agg _ | .tuple _ => false
  | _ => true
theorem VR1_ptr {a : Addr} {u : Value} : VR1 ρ (.pointer (some a)) u ↔ ∃ a', rA ρ a = some a' ∧ u = .pointer (some a') := by
  simp only [VR1, rC, Option.map_eq_some_iff]
  exact ⟨fun ⟨a', h, e⟩ => ⟨a', h, e.symm⟩, fun ⟨a', h, e⟩ => ⟨a', h, e.symm⟩⟩
theorem VR1_slice {a : Addr} {l c : Nat} {u : Value} : VR1 ρ (.slice (some a) l c) u ↔ ∃ a', rA ρ a = some a' ∧ u = .slice (some a') l c := by
  simp only [VR1, rC, Option.map_eq_some_iff]
  exact ⟨fun ⟨a', h, e⟩ => ⟨a', h, e.symm⟩, fun ⟨a', h, e⟩ => ⟨a', h, e.symm⟩⟩
theorem VR1_flat {v u : Value} (h : flat1 v = true) : VR1 ρ v u ↔ u = v := by
  unfold VR1 rC
  split
  · cases h
  · cases h
  · cases h
  · cases h
  · simp [eq_comm]
theorem VR1.inv {v u : Value} (h : VR1 ρ v u) : (∃ a a', v = .pointer (some a) ∧ rA ρ a = some a' ∧ u = .pointer (some a')) ∨ (∃ a l c a', v = .slice (some a) l c ∧ rA ρ a = some a' ∧ u = .slice (some a') l c) ∨ (flat1 v = true ∧ u = v) := by
  by_cases hf : flat1 v = true
  · exact .inr (.inr ⟨hf, (VR1_flat hf).1 h⟩)
  · unfold flat1 at hf
    split at hf
    · obtain ⟨a', h1, h2⟩ := VR1_ptr.1 h; exact .inl ⟨_, a', rfl, h1, h2⟩
    · obtain ⟨a', h1, h2⟩ := VR1_slice.1 h; exact .inr (.inl ⟨_, _, _, a', rfl, h1, h2⟩)
    · cases h
    · cases h
    · exact absurd rfl hf
theorem VR1.mono (h : ρ.le ρ') {v u : Value} (hv : VR1 ρ v u) : VR1 ρ' v u := by
  rcases hv.inv with ⟨a, a', rfl, h1, rfl⟩ | ⟨a, l, c, a', rfl, h1, rfl⟩ | ⟨hf, rfl⟩
  · exact VR1_ptr.2 ⟨a', rA_mono h h1, rfl⟩
  · exact VR1_slice.2 ⟨a', rA_mono h h1, rfl⟩
  · exact (VR1_flat hf).2 rfl
theorem VR2.mono (h : ρ.le ρ') {v u : Value} (hv : VR2 ρ v u) : VR2 ρ' v u := by
  unfold VR2 at *
  split at hv
  · obtain ⟨us, rfl, hp⟩ := hv; exact ⟨us, rfl, hp.mono fun _ _ => VR1.mono h⟩
  · exact hv.mono h
theorem VR.mono (h : ρ.le ρ') {v u : Value} (hv : VR ρ v u) : VR ρ' v u := by
  unfold VR at *
  split at hv
  · rcases hv with hw | ⟨us, rfl, hp⟩
    · exact .inl hw
    · exact .inr ⟨us, rfl, hp.mono fun _ _ => VR2.mono h⟩
  · exact hv.mono h

theorem VR_undef : VR ρ undef undef := .inr ⟨#[], rfl, PW.nil⟩

def flat2 : Value → Bool
  | .agg cs => cs.toList.all flat1
  | v => flat1 v
def flat : Value → Bool
  | .tuple vs => !isWild vs.toList && vs.toList.all flat2
  | v => flat2 v
theorem PW_flat {α : Type} {R : α → α → Prop} {p : α → Bool} (hp : ∀ a b, p a = true → (R a b ↔ b = a)) {l m : List α} (h : l.all p = true) : PW R l m ↔ m = l := by
  induction l generalizing m with
  | nil => exact ⟨fun h => h.unnil, fun h => by rw [h]; exact PW.nil⟩
  | cons a l ih =>
    simp only [List.all_cons, Bool.and_eq_true] at h
    constructor
    · intro hm
      obtain ⟨b, m', rfl, hR, ht⟩ := hm.uncons
      rw [(hp a b h.1).1 hR, (ih h.2).1 ht]
    · rintro rfl
      exact PW.cons ((hp a a h.1).2 rfl) ((ih h.2).2 rfl)
theorem VR2_agg {cs : Array Value} {u : Value} : VR2 ρ (.agg cs) u ↔ ∃ us : Array Value, u = .agg us ∧ PW (VR1 ρ) cs.toList us.toList := Iff.rfl
theorem VR2_of1 {v : Value} (h : ∀ cs, v ≠ .agg cs) {u : Value} : VR2 ρ v u ↔ VR1 ρ v u := by
  unfold VR2
  split
  · exact absurd rfl (h _)
  · exact Iff.rfl
theorem VR_tuple {vs : Array Value} {u : Value} (h : isWild vs.toList = false) : VR ρ (.tuple vs) u ↔ ∃ us : Array Value, u = .tuple us ∧ PW (VR2 ρ) vs.toList us.toList := by
  show (isWild vs.toList = true ∨ _) ↔ _
  rw [h]
  simp
theorem VR_wild {u : Value} : VR ρ wild u := .inl rfl
theorem VR_of2 {v : Value} (h : ∀ vs, v ≠ .tuple vs) {u : Value} : VR ρ v u ↔ VR2 ρ v u := by
  unfold VR
  split
  · exact absurd rfl (h _)
  · exact Iff.rfl
theorem VR2_flat {v u : Value} (h : flat2 v = true) : VR2 ρ v u ↔ u = v := by
  unfold flat2 at h
  split at h
  · rw [VR2_agg]
    constructor
    · rintro ⟨us, rfl, hp⟩; rw [PW_flat (fun _ _ => VR1_flat) h] at hp; rw [Array.toList_inj.1 hp]
    · rintro rfl; exact ⟨_, rfl, (PW_flat (fun _ _ => VR1_flat) h).2 rfl⟩
  · rename_i hn
    rw [VR2_of1 (fun cs e => hn cs e)]
    exact VR1_flat h
theorem VR_flat {v u : Value} (h : flat v = true) : VR ρ v u ↔ u = v := by
  unfold flat at h
  split at h
  · simp only [Bool.and_eq_true, Bool.not_eq_true'] at h
    obtain ⟨hw, h⟩ := h
    rw [VR_tuple hw]
    constructor
    · rintro ⟨us, rfl, hp⟩; rw [PW_flat (fun _ _ => VR2_flat) h] at hp; rw [Array.toList_inj.1 hp]
    · rintro rfl; exact ⟨_, rfl, (PW_flat (fun _ _ => VR2_flat) h).2 rfl⟩
  · rename_i hn
    rw [VR_of2 (fun cs e => hn cs e)]
    exact VR2_flat h
theorem PW_VR_flat {l m : List Value} (h : l.all flat = true) : PW (VR ρ) l m ↔ m = l := PW_flat (fun _ _ => VR_flat) h

/-- A value of one cell. -/
def isOne : Value → Bool
  | .agg _ | .tuple _ => false
  | _ => true
theorem flat1_cells {v : Value} (h : flat1 v = true) : v.cells = #[v] ∧ isOne v = true := by
  cases v <;> first | (cases h; done) | exact ⟨rfl, rfl⟩
theorem VR1.cell {v u : Value} (h : VR1 ρ v u) : v.cells = #[v] ∧ u.cells = #[u] := by
  rcases h.inv with ⟨a, a', rfl, h1, rfl⟩ | ⟨a, l, c, a', rfl, h1, rfl⟩ | ⟨hf, rfl⟩
  · exact ⟨rfl, rfl⟩
  · exact ⟨rfl, rfl⟩
  · exact ⟨(flat1_cells hf).1, (flat1_cells hf).1⟩
theorem VR1.one {v u : Value} (h : VR1 ρ v u) : isOne u = true := by
  rcases h.inv with ⟨a, a', rfl, h1, rfl⟩ | ⟨a, l, c, a', rfl, h1, rfl⟩ | ⟨hf, rfl⟩
  · rfl
  · rfl
  · exact (flat1_cells hf).2
/-- The cells of a value that is no tuple. -/
theorem VR2.cells {v u : Value} (h : VR2 ρ v u) : PW (VR1 ρ) v.cells.toList u.cells.toList := by
  unfold VR2 at h
  split at h
  · obtain ⟨us, rfl, hp⟩ := h; exact hp
  · have h' : VR1 ρ v u := h
    rw [h'.cell.1, h'.cell.2]; exact PW.cons h' PW.nil
theorem VR2.toVR {v u : Value} (h : VR2 ρ v u) : VR ρ v u := by
  unfold VR
  split
  · cases h
  · exact h
theorem VR1.toVR2 {v u : Value} (h : VR1 ρ v u) : VR2 ρ v u := by
  unfold VR2
  split
  · cases h
  · exact h
theorem VR1.toVR {v u : Value} (h : VR1 ρ v u) : VR ρ v u := h.toVR2.toVR
end rel

/-- The blocks that are numbered lie in the world. -/
structure MRel (ρ : Ren) (mem : Mem) (w : World) : Prop where
  cell : ∀ (k b s : Nat), ρ k = some (b, s) → ∃ B : Blk, mem[k]? = some B ∧ b < w.heap.size ∧
    ∀ i v, B.cells[i]? = some v → (∃ u, VR1 ρ v u ∧ w.cell? ⟨b, s + i, none⟩ = some u) ∧ (B.own = true → w.frozen? ⟨b, s + i, none⟩ = false)
  apart : ∀ (k b s k' b' s' : Nat) (B : Blk), ρ k = some (b, s) → ρ k' = some (b', s') → mem[k]? = some B → B.own = true → k ≠ k' → b ≠ b'

/-- What a piece of code may have done to the world: new blocks, and stores into its own. -/
structure Mv (ρ : Ren) (mem : Mem) (w : World) (ρ' : Ren) (mem' : Mem) (w' : World) : Prop where
  sub : ρ.le ρ'
  new : ∀ k x, ρ' k = some x → ρ k = none → w.heap.size ≤ x.1
  kept : ∀ (k : Nat) (B : Blk), mem[k]? = some B → ∃ B' : Blk, mem'[k]? = some B' ∧ B'.own = B.own
  os : w'.os = w.os
  tape : w'.tape = w.tape
  output : w'.output = w.output
  size : w.heap.size ≤ w'.heap.size
  block : ∀ b, b < w.heap.size → (∀ (k s : Nat) (B : Blk), ρ k = some (b, s) → mem[k]? = some B → B.own = false) → w'.heap[b]? = w.heap[b]?

theorem Mv.refl (ρ : Ren) (mem : Mem) (w : World) : Mv ρ mem w ρ mem w :=
  ⟨.refl _, (fun k x h h' => by rw [h] at h'; cases h'), fun k B h => ⟨B, h, rfl⟩, rfl, rfl, rfl, Nat.le_refl _, fun _ _ _ => rfl⟩

theorem Mv.trans {ρ ρ₁ ρ₂ : Ren} {m m₁ m₂ : Mem} {w w₁ w₂ : World} (hm : MRel ρ m w) (h : Mv ρ m w ρ₁ m₁ w₁) (h' : Mv ρ₁ m₁ w₁ ρ₂ m₂ w₂) : Mv ρ m w ρ₂ m₂ w₂ where
  sub := h.sub.trans h'.sub
  new k x hx hn := by
    cases h1 : ρ₁ k with
    | none => exact Nat.le_trans h.size (h'.new k x hx h1)
    | some y =>
      have := h'.sub k y h1
      rw [hx] at this
      cases this
      exact h.new k x h1 hn
  kept k B hB := by
    obtain ⟨B1, h1, e1⟩ := h.kept k B hB
    obtain ⟨B2, h2, e2⟩ := h'.kept k B1 h1
    exact ⟨B2, h2, e2.trans e1⟩
  os := h'.os.trans h.os
  tape := h'.tape.trans h.tape
  output := h'.output.trans h.output
  size := Nat.le_trans h.size h'.size
  block b hb hk := by
    rw [h'.block b (Nat.lt_of_lt_of_le hb h.size) ?_, h.block b hb hk]
    intro k s B hρ hB
    cases h1 : ρ k with
    | none => have := h.new k _ hρ h1; simp at this; omega
    | some x =>
      have e := h.sub k x h1
      rw [hρ] at e
      cases e
      obtain ⟨B0, hB0, _⟩ := hm.cell k b s h1
      obtain ⟨B1, hB1, e1⟩ := h.kept k B0 hB0
      rw [hB] at hB1
      cases hB1
      rw [e1]
      exact hk k s B0 h1 hB0

structure St where
  tmps : List Value
  mem : Mem

structure ARel (ρ : Ren) (S : St) (a : Act) (w : World) : Prop where
  tmps : PW (VR ρ) S.tmps a.tmps.toList
  defers : a.defers = []
  mem : MRel ρ S.mem w

/-- The slots that are named, of a state; of the others nothing is known any more. -/
def maskT (live : List Nat) : Nat → List Value → List Value
  | _, [] => []
  | i, v :: l => (match live.contains i with | true => v | false => wild) :: maskT live (i + 1) l
def maskS (live : List Nat) (S : St) : St := ⟨maskT live 0 S.tmps, S.mem⟩
theorem maskT_rel {ρ : Ren} {live : List Nat} : ∀ {l m : List Value} {i : Nat}, PW (VR ρ) l m → PW (VR ρ) (maskT live i l) m
  | [], m, i, h => h
  | v :: l, m, i, h => by
    obtain ⟨u, m', rfl, hu, ht⟩ := h.uncons
    refine PW.cons ?_ (maskT_rel ht)
    split
    · exact hu
    · exact VR_wild
theorem ARel.mask {ρ : Ren} {S : St} {a : Act} {w : World} (h : ARel ρ S a w) (live : List Nat) : ARel ρ (maskS live S) a w := ⟨maskT_rel h.tmps, h.defers, h.mem⟩

/-- FROM THE RELATIVE STATE S THE CODE c COMES TO AN END THAT Q TELLS. -/
def Tri (P : Program) (c : Code) (S : St) (Q : Exit → St → Prop) : Prop :=
  ∀ ρ a w, ARel ρ S a w → c.wp P (fun e a' w' => ∃ S' ρ', Q e S' ∧ ARel ρ' S' a' w' ∧ Mv ρ S.mem w ρ' S'.mem w') a w

section rules
variable {P : Program} {S : St} {Q Q' : Exit → St → Prop}

theorem Tri.mono {c : Code} (h : Tri P c S Q) (hq : ∀ e S, Q e S → Q' e S) : Tri P c S Q' :=
  fun ρ a w hr => wp_mono (h ρ a w hr) fun _ _ _ ⟨S', ρ', q, r⟩ => ⟨S', ρ', hq _ _ q, r⟩
/-- The end e, in the state S'. -/
def to (e : Exit) (S' : St) : Exit → St → Prop := fun e1 S1 => e1 = e ∧ S1 = S'
theorem Tri.mask {c : Code} {e : Exit} {S' : St} (h : Tri P c S (to e S')) (live : List Nat) : Tri P c S (to e (maskS live S')) :=
  fun ρ a w hr => wp_mono (h ρ a w hr) fun _ _ _ ⟨S1, ρ', ⟨h1, h2⟩, r⟩ => by subst h2; exact ⟨maskS live S1, ρ', ⟨h1, rfl⟩, r.1.mask live, r.2⟩
theorem Tri.unmask {c : Code} (live : List Nat) (h : Tri P c (maskS live S) Q) : Tri P c S Q :=
  fun ρ a w hr => h ρ a w (hr.mask live)
theorem Tri.skip (h : Q .normal S) : Tri P .skip S Q := fun ρ _ _ hr => wp_skip ⟨S, ρ, h, hr, .refl _ _ _⟩
theorem Tri.label {l : Nat} (h : Q .normal S) : Tri P (.label l) S Q := fun ρ _ _ hr => wp_label ⟨S, ρ, h, hr, .refl _ _ _⟩
theorem Tri.exit {id : Nat} (h : Q (.exit id) S) : Tri P (.exit id) S Q := fun ρ _ _ hr => wp_exit ⟨S, ρ, h, hr, .refl _ _ _⟩
theorem Tri.goto {l : Nat} (h : Q (.goto l) S) : Tri P (.goto l) S Q := fun ρ _ _ hr => wp_goto ⟨S, ρ, h, hr, .refl _ _ _⟩
theorem Tri.ret (h : Q .ret S) : Tri P .ret S Q := fun ρ _ _ hr => wp_ret ⟨S, ρ, h, hr, .refl _ _ _⟩

/-- Behind a first piece: the second, or out. -/
def thenQ (P : Program) (y : Code) (Q : Exit → St → Prop) : Exit → St → Prop
  | .normal, S => Tri P y S Q
  | e, S => Q e S

theorem Tri.seq {x y : Code} (h : Tri P x S (thenQ P y Q)) : Tri P (.seq x y) S Q := by
  intro ρ a w hr
  refine wp_seq (wp_mono (h ρ a w hr) ?_)
  rintro e a1 w1 ⟨S1, ρ1, q, r1, m1⟩
  cases e with
  | normal =>
    refine wp_mono (q ρ1 a1 w1 r1) ?_
    rintro e a2 w2 ⟨S2, ρ2, q2, r2, m2⟩
    exact ⟨S2, ρ2, q2, r2, m1.trans hr.mem m2⟩
  | _ => exact ⟨S1, ρ1, q, r1, m1⟩

theorem VR_bool {ρ : Ren} {b : Bool} {u : Value} (h : VR ρ (.bool b) u) : u = .bool b := (VR_flat rfl).1 h

/-- The value of an operand in the relative state. -/
def St.eval (S : St) : Operand → Option Value
  | .tmp t => some (S.tmps.getD t undef)
  | .const v => if flat v then some v else none
  | .global _ => none
  | .func f => some (.func (.func f) #[] #[])

theorem ARel.eval {ρ : Ren} {a : Act} (hr : PW (VR ρ) S.tmps a.tmps.toList) {x : Operand} {v : Value} (h : S.eval x = some v) : VR ρ v (a.eval x) := by
  cases x with
  | tmp t =>
    simp only [St.eval, Option.some.injEq] at h
    subst h
    have := hr.getD t (VR_undef (ρ := ρ))
    simpa [Act.eval] using this
  | const c =>
    simp only [St.eval] at h
    split at h
    · rename_i hf; cases h; exact (VR_flat hf).2 rfl
    · cases h
  | global g => cases h
  | func f => cases h; exact (VR_flat rfl).2 rfl

theorem Tri.cond {c : Operand} {x y : Code} {t : Bool} (hc : S.eval c = some (.bool t)) (h : Tri P (if t then x else y) S Q) : Tri P (.cond c x y) S Q :=
  fun ρ a w hr => wp_cond (VR_bool (ARel.eval hr.tmps hc)) (h ρ a w hr)

def inBlockQ (id : Nat) (Q : Exit → St → Prop) : Exit → St → Prop
  | .exit id', S => if id' = id then Q .normal S else Q (.exit id') S
  | e, S => Q e S

theorem Tri.block {id : Nat} {c : Code} (h : Tri P c S (inBlockQ id Q)) : Tri P (.block id c) S Q := by
  intro ρ a w hr
  refine wp_block (wp_mono (h ρ a w hr) ?_)
  rintro e a1 w1 ⟨S1, ρ1, q, r1, m1⟩
  cases e with
  | exit id' =>
    simp only [Exit.inBlock, inBlockQ] at *
    split at q
    · rename_i e; rw [if_pos e]; exact ⟨S1, ρ1, q, r1, m1⟩
    · rename_i e; rw [if_neg e]; exact ⟨S1, ρ1, q, r1, m1⟩
  | _ => exact ⟨S1, ρ1, q, r1, m1⟩

/-- The end of a round: the relation again, the measure less; or out. -/
def roundQ (I : St → Prop) (μ : St → Nat) (n : Nat) (Q : Exit → St → Prop) : Exit → St → Prop
  | .normal, S => I S ∧ μ S < n
  | e, S => Q e S

theorem Tri.loop {c : Code} (I : St → Prop) (μ : St → Nat) (h0 : I S) (round : ∀ S, I S → Tri P c S (roundQ I μ (μ S) Q)) : Tri P (.loop c) S Q := by
  intro ρ a w hr b k cs
  have key : ∀ n S1 ρ1 a1 w1, μ S1 = n → I S1 → ARel ρ1 S1 a1 w1 → Mv ρ S.mem w ρ1 S1.mem w1 →
      ∃ e a' w', (∃ S' ρ', Q e S' ∧ ARel ρ' S' a' w' ∧ Mv ρ S.mem w ρ' S'.mem w') ∧ Arrives P (lone (b.at a1 (.code c :: .inLoop c :: k)) cs w1) b k cs e a' w' := by
    intro n
    induction n using Nat.strongRecOn with
    | _ n ih =>
      intro S1 ρ1 a1 w1 hn hI hr1 hm1
      obtain ⟨e, a2, w2, ⟨S2, ρ2, q2, r2, m2⟩, harr⟩ := round S1 hI ρ1 a1 w1 hr1 b (.inLoop c :: k) cs
      have m3 := hm1.trans hr.mem m2
      cases e with
      | normal =>
        obtain ⟨e3, a3, w3, h3, harr3⟩ := ih (μ S2) (hn ▸ q2.2) S2 ρ2 a2 w2 rfl q2.1 r2 m3
        exact ⟨e3, a3, w3, h3, .of_steps (Steps.trans harr (.one step_inLoop)) harr3⟩
      | exit id => exact ⟨_, a2, w2, ⟨S2, ρ2, q2, r2, m3⟩, .pass (x := .inLoop c) rfl (fun _ _ => .inl (by simp)) harr⟩
      | goto l => exact ⟨_, a2, w2, ⟨S2, ρ2, q2, r2, m3⟩, .pass (x := .inLoop c) rfl (fun _ _ => .inl (by simp)) harr⟩
      | ret => exact ⟨_, a2, w2, ⟨S2, ρ2, q2, r2, m3⟩, .pass (x := .inLoop c) rfl (fun _ _ => .inl (by simp)) harr⟩
      | panic ch => exact ⟨_, a2, w2, ⟨S2, ρ2, q2, r2, m3⟩, .pass (x := .inLoop c) rfl (fun _ _ => .inl (by simp)) harr⟩
      | outgrown => exact ⟨_, a2, w2, ⟨S2, ρ2, q2, r2, m3⟩, .pass (x := .inLoop c) rfl (fun _ _ => .inl (by simp)) harr⟩
  obtain ⟨e, a', w', hq, harr⟩ := key _ S ρ a w rfl h0 hr (.refl _ _ _)
  exact ⟨e, a', w', hq, .of_steps (.one step_loop) harr⟩
end rules

/-- A CALL: from relative arguments and blocks to a relative result and blocks. -/
def CT (P : Program) (f : FuncId) (args : List Value) (mem : Mem) (Q : Value → Mem → Prop) : Prop :=
  ∀ ρ w us, PW (VR ρ) args us → MRel ρ mem w → Calls P f us.toArray w fun e w' => ∃ v mem' ρ' u, e = .returned u ∧ Q v mem' ∧ VR ρ' v u ∧ MRel ρ' mem' w' ∧ Mv ρ mem w ρ' mem' w'

/-- A call that touches nothing that was there, and hands back a value without an address. -/
def PC (P : Program) (f : FuncId) (args : List Value) (v : Value) : Prop :=
  ∀ w, Calls P f args.toArray w fun e w' => e = .returned v ∧ RowKit.Below w.heap.size w w'

theorem MRel.nil (w : World) : MRel (fun _ => none) [] w := ⟨(fun k b s h => by cases h), (fun _ _ _ _ _ _ _ h => by cases h)⟩

theorem PC.of_ct {P : Program} {f : FuncId} {args : List Value} {v : Value} (ha : args.all flat = true) (hv : flat v = true) (h : CT P f args [] fun v' _ => v' = v) : PC P f args v := by
  intro w
  refine (h (fun _ => none) w args ((PW_VR_flat ha).2 rfl) (MRel.nil w)).mono ?_
  rintro e w' ⟨v', mem', ρ', u, rfl, rfl, hu, _, hm⟩
  refine ⟨by rw [(VR_flat hv).1 hu], hm.os, hm.tape, hm.output, hm.size, fun k hk => hm.block k hk fun _ _ _ h => by cases h⟩

theorem MRel.below {ρ : Ren} {mem : Mem} {w w' : World} (h : MRel ρ mem w) (hb : RowKit.Below w.heap.size w w') : MRel ρ mem w' := by
  refine ⟨fun k b s hk => ?_, h.apart⟩
  obtain ⟨B, hB, hlt, hc⟩ := h.cell k b s hk
  refine ⟨B, hB, Nat.lt_of_lt_of_le hlt hb.size, fun i v hv => ?_⟩
  obtain ⟨⟨u, hu, hw⟩, hf⟩ := hc i v hv
  exact ⟨⟨u, hu, by rw [hb.cell (p := ⟨b, s + i, none⟩) hlt]; exact hw⟩, fun hr => by rw [hb.frozen (p := ⟨b, s + i, none⟩) hlt]; exact hf hr⟩

theorem Mv.of_below {ρ : Ren} {mem : Mem} {w w' : World} (hb : RowKit.Below w.heap.size w w') : Mv ρ mem w ρ mem w' :=
  ⟨.refl _, (fun k x h h' => by rw [h] at h'; cases h'), fun k B h => ⟨B, h, rfl⟩, hb.os, hb.tape, hb.output, hb.size, fun b hlt _ => hb.block b hlt⟩

end Go.Ev
