/-
  Relative states: values and blocks numbered from the program's own point of view, and what a piece of code does to them. Part A: the relation to the machine's world, and the rules of control.
  Relative states, part B: what one operation does: operations that only compute, loads, new blocks, stores, calls.
  Relative states, part C: the operations that compute on values with addresses, and equality of arrays and structs.
  Relative states, part D: the operations that compute, on values with addresses.
  Relative states, part E: loads, new blocks, stores, calls; one operation as a whole.
  Relative states, part F: copies, appends that find room, calls; one operation as a whole, and a region's operations in the order of the text.
-/
import Derived.Orders
import Derived.Below
import Derived.Laws.Entries
import Derived.Laws.StructEq
import Derived.Laws.NewBlocks
import Derived.ChangeKeysEq
import Derived.Laws.Cells
import Derived.Laws.IdiomCopy
import Derived.Laws.MakeOwn
import Derived.Laws.BytesString
import Derived.Laws.ComplexArith
import Derived.Laws.AppendOwn
/-! Relative states: values and blocks numbered from the program's own point of view, and what a piece of code does to them. Part A: the relation to the machine's world, and the rules of control. -/
namespace Go.Ev

/-- A block of cells as the evaluator numbers it. -/
structure Blk where
  cells : List Value
  elem : TypeId
  own : Bool

abbrev Mem := List Blk
/-- What is known of a block of the machine in which a list lies that grows: the list's number, the cells of an element, the block's cells, the first of them. -/
structure Lst where
  k : Nat
  sz : Nat
  cap : Nat
  cs : List Value
/-- Where the numbered blocks lie; and blocks of the machine that nobody writes any more, with what they hold. -/
structure Ren where
  m : Nat → Option (Nat × Nat)
  h : Nat → Option (List Value)
  d : List Deferred
  g : Nat → Option Lst
instance : CoeFun Ren fun _ => Nat → Option (Nat × Nat) := ⟨Ren.m⟩
/-- The i-th word of 32 bits of a number. -/
def word32 (N i : Nat) : Value := .int .u32 ((N / 2 ^ (32 * i) % 4294967296 : Nat) : Int)
/-- A value that stands for a slice of l words of a number, or for a pointer to one of its words, in blocks that nobody writes any more. -/
def sliceTok (N l : Nat) : Value := .iface N (.chan (some l))
def wordTok (N i : Nat) : Value := .iface N (.map (some i))
/-- A list that grows, by its number, of l elements of z + 1 cells. -/
def lstTok (k l z : Nat) : Value := .iface k (.slice none l (z + 1))
/-- A slice of l elements, with their cells, and a pointer to the off-th of such cells, in blocks that nobody writes any more. -/
def rowTok (l : Nat) (cs : List Value) : Value := .iface l (.iface 0 (.tuple cs.toArray))
def celTok (off : Nat) (cs : Array Value) : Value := .iface off (.iface 1 (.tuple cs))
def isTok : Value → Bool
  | .iface _ (.chan (some _)) => true
  | .iface _ (.map (some _)) => true
  | .iface _ (.slice none _ (_ + 1)) => true
  | .iface _ (.iface _ _) => true
  | _ => false
/-- A pointer to the off-th cell of a list, of whose cells m are known. -/
def lelTok (k off m : Nat) : Value := .iface k (.iface (off + 2) (.chan (some m)))
def isLst : Value → Bool
  | .iface _ (.slice none _ (_ + 1)) => true
  | .iface _ (.iface (_ + 2) _) => true
  | _ => false
def lstR (ρ : Ren) (k l z : Nat) (u : Value) : Prop := ∃ a c, u = .slice a l c ∧ l ≤ c ∧ ((a = none ∧ c = 0) ∨ ∃ b x, a = some ⟨b, 0, none⟩ ∧ ρ.g b = some x ∧ x.k = k ∧ x.sz = z + 1 ∧ c * (z + 1) ≤ x.cap ∧ l * (z + 1) ≤ x.cs.length)
/-- A cell of a row: a number, a bool, a string, a float. -/
def plain : Value → Bool
  | .int _ _ | .bool _ | .string _ | .float _ _ => true
  | _ => false
/-- From cell s of block b on the cells cs lie, and nobody writes them any more. -/
def holdsR (ρ : Ren) (b s : Nat) (cs : List Value) : Prop := ∀ (i : Nat) (v : Value), cs[i]? = some v → ∃ hs, ρ.h b = some hs ∧ hs[s + i]? = some v
def rowR (ρ : Ren) (l : Nat) (cs : List Value) (u : Value) : Prop := cs.all plain = true ∧ ∃ a c, u = .slice a l c ∧ l ≤ c ∧ (l = 0 ∨ ∃ b s, a = some ⟨b, s, none⟩ ∧ holdsR ρ b s cs)
def celR (ρ : Ren) (off : Nat) (cs : List Value) (u : Value) : Prop := cs.all plain = true ∧ ∃ b s, u = .pointer (some ⟨b, s + off, none⟩) ∧ holdsR ρ b s cs
def lelR (ρ : Ren) (k off m : Nat) (u : Value) : Prop := ∃ b x, u = .pointer (some ⟨b, off, none⟩) ∧ ρ.g b = some x ∧ x.k = k ∧ m ≤ x.cs.length
def tokR (ρ : Ren) (v u : Value) : Prop :=
  match v with
  | .iface k (.slice none l (z + 1)) => lstR ρ k l z u
  | .iface N (.chan (some l)) => ∃ a c, u = .slice a l c ∧ l ≤ c ∧ (l = 0 ∨ ∃ b off cs, a = some ⟨b, off, none⟩ ∧ ρ.h b = some cs ∧ ∀ i, i < l → cs[off + i]? = some (word32 N i))
  | .iface N (.map (some i)) => ∃ b off cs, u = .pointer (some ⟨b, off, none⟩) ∧ ρ.h b = some cs ∧ cs[off]? = some (word32 N i)
  | .iface l (.iface 0 (.tuple cs)) => rowR ρ l cs.toList u
  | .iface off (.iface 1 (.tuple cs)) => celR ρ off cs.toList u
  | .iface k (.iface (off + 2) (.chan (some m))) => lelR ρ k off m u
  | _ => False

/-- Where a relative address lies. -/
def rA (ρ : Ren) (a : Addr) : Option Addr :=
  match a.spot, ρ a.block with
  | none, some (b, s) => some ⟨b, s + a.off, none⟩
  | _, _ => none

/-- What a function value carries. -/
def rP (ρ : Ren) : Value → Option Value
  | .pointer (some a) => (rA ρ a).map fun a' => .pointer (some a')
  | .slice (some _) _ _ => none
  | .agg _ => none
  | .tuple _ => none
  | .func _ _ _ => none
  | .iface _ (.chan (some _)) => none
  | .iface _ (.map (some _)) => none
  | .iface _ (.slice none _ (_ + 1)) => none
  | .iface _ (.iface _ _) => none
  | v => some v
def rPL (ρ : Ren) : List Value → Option (List Value)
  | [] => some []
  | v :: l => match rP ρ v, rPL ρ l with | some u, some us => some (u :: us) | _, _ => none
def rC (ρ : Ren) : Value → Option Value
  | .pointer (some a) => (rA ρ a).map fun a' => .pointer (some a')
  | .slice (some a) l c => (rA ρ a).map fun a' => .slice (some a') l c
  | .func f x y => match rPL ρ x.toList, rPL ρ y.toList with | some x', some y' => some (.func f x'.toArray y'.toArray) | _, _ => none
  | .agg _ => none
  | .tuple _ => none
  | .iface _ (.chan (some _)) => none
  | .iface _ (.map (some _)) => none
  | .iface _ (.slice none _ (_ + 1)) => none
  | .iface _ (.iface _ _) => none
  | v => some v

/-- Two lists agree place by place. -/
def PW {α β : Type} (R : α → β → Prop) (l : List α) (m : List β) : Prop :=
  l.length = m.length ∧ ∀ (i : Nat) a b, l[i]? = some a → m[i]? = some b → R a b

def VR1 (ρ : Ren) (v u : Value) : Prop := match isTok v with | true => tokR ρ v u | false => rC ρ v = some u
def VR2 (ρ : Ren) (v u : Value) : Prop :=
  match v with
  | .agg cs => ∃ us : Array Value, u = .agg us ∧ PW (VR1 ρ) cs.toList us.toList
  | v => VR1 ρ v u
/-- A tuple of one: it stands for any value (that nothing looks at any more). -/
def isWild : List Value → Bool
  | [_] => true
  | _ => false
def wild : Value := .tuple #[.bool false]
def VR (ρ : Ren) (v u : Value) : Prop :=
  match v with
  | .tuple vs => isWild vs.toList = true ∨ ∃ us : Array Value, u = .tuple us ∧ PW (VR2 ρ) vs.toList us.toList
  | v => VR2 ρ v u

/-- More is known of a block in which a list lies. -/
structure Lst.le (x y : Lst) : Prop where
  k : y.k = x.k
  sz : y.sz = x.sz
  cap : y.cap = x.cap
  cs : ∃ t, y.cs = x.cs ++ t
theorem Lst.le.refl (x : Lst) : x.le x := ⟨rfl, rfl, rfl, [], (List.append_nil _).symm⟩
theorem Lst.le.trans {x y z : Lst} (h : x.le y) (h' : y.le z) : x.le z := ⟨h'.k.trans h.k, h'.sz.trans h.sz, h'.cap.trans h.cap, by
  obtain ⟨t, e⟩ := h.cs
  obtain ⟨t', e'⟩ := h'.cs
  exact ⟨t ++ t', by rw [e', e, List.append_assoc]⟩⟩
structure Ren.le (ρ ρ' : Ren) : Prop where
  m : ∀ k x, ρ k = some x → ρ' k = some x
  h : ∀ b cs, ρ.h b = some cs → ρ'.h b = some cs
  d : ρ'.d = ρ.d
  g : ∀ b x, ρ.g b = some x → ∃ y, ρ'.g b = some y ∧ x.le y
theorem Ren.le.gsame {ρ : Ren} {g : Nat → Option Lst} (e : g = ρ.g) : ∀ b x, ρ.g b = some x → ∃ y, g b = some y ∧ x.le y := fun b x h => ⟨x, by rw [e]; exact h, .refl x⟩

section lists
variable {α β γ : Type} {R R' : α → β → Prop}

theorem PW.nil : PW R ([] : List α) ([] : List β) := ⟨rfl, by simp⟩
theorem PW.cons {a : α} {b : β} {l : List α} {m : List β} (h : R a b) (t : PW R l m) : PW R (a :: l) (b :: m) := by
  refine ⟨by simp [t.1], fun i x y hx hy => ?_⟩
  cases i with
  | zero => simp at hx hy; subst hx; subst hy; exact h
  | succ i => simp at hx hy; exact t.2 i x y hx hy
theorem PW.uncons {a : α} {l : List α} {m : List β} (h : PW R (a :: l) m) : ∃ b m', m = b :: m' ∧ R a b ∧ PW R l m' := by
  obtain ⟨hl, hR⟩ := h
  cases m with
  | nil => simp at hl
  | cons b m' => exact ⟨b, m', rfl, hR 0 a b rfl rfl, by simpa using hl, fun i x y hx hy => hR (i + 1) x y (by simpa using hx) (by simpa using hy)⟩
theorem PW.unnil {m : List β} (h : PW R ([] : List α) m) : m = [] := by cases m with | nil => rfl | cons => simp [PW] at h
theorem PW.mono {l : List α} {m : List β} (h : PW R l m) (hr : ∀ a b, R a b → R' a b) : PW R' l m := ⟨h.1, fun i a b ha hb => hr _ _ (h.2 i a b ha hb)⟩
theorem PW.append {l l' : List α} {m m' : List β} (h : PW R l m) (h' : PW R l' m') : PW R (l ++ l') (m ++ m') := by
  refine ⟨by simp [h.1, h'.1], fun i x y hx hy => ?_⟩
  by_cases hi : i < l.length
  · rw [List.getElem?_append_left hi] at hx
    rw [List.getElem?_append_left (h.1 ▸ hi)] at hy
    exact h.2 i x y hx hy
  · rw [List.getElem?_append_right (by omega)] at hx
    rw [List.getElem?_append_right (by have := h.1; omega)] at hy
    rw [← h.1] at hy
    exact h'.2 _ x y hx hy
theorem PW.set {l : List α} {m : List β} (h : PW R l m) (i : Nat) {a : α} {b : β} (hab : R a b) : PW R (l.set i a) (m.set i b) := by
  refine ⟨by simp [h.1], fun j x y hx hy => ?_⟩
  rw [List.getElem?_set] at hx hy
  rw [← h.1] at hy
  by_cases hij : i = j
  · simp only [hij, if_true] at hx hy
    by_cases hj : j < l.length
    · simp [hj] at hx hy; subst hx; subst hy; exact hab
    · simp [hj] at hx
  · simp only [hij, if_false] at hx hy
    exact h.2 j x y hx hy
theorem PW.replicate (n : Nat) {a : α} {b : β} (h : R a b) : PW R (List.replicate n a) (List.replicate n b) := by
  refine ⟨by simp, fun i x y hx hy => ?_⟩
  rw [List.getElem?_replicate] at hx hy
  split at hx
  · simp_all
  · cases hx
theorem PW.get {l : List α} {m : List β} (h : PW R l m) {i : Nat} {a : α} (ha : l[i]? = some a) : ∃ b, m[i]? = some b ∧ R a b := by
  have hi : i < l.length := (List.getElem?_eq_some_iff.1 ha).1
  have hm : m[i]? = some (m[i]'(h.1 ▸ hi)) := List.getElem?_eq_getElem _
  exact ⟨_, hm, h.2 i _ _ ha hm⟩
theorem PW.getD {l : List α} {m : List β} (h : PW R l m) (i : Nat) {a : α} {b : β} (hab : R a b) : R (l.getD i a) (m.getD i b) := by
  simp only [List.getD_eq_getElem?_getD]
  cases hl : l[i]? with
  | none =>
    have hn : m[i]? = none := by rw [List.getElem?_eq_none_iff] at hl ⊢; have := h.1; omega
    simp [hn, hab]
  | some x => obtain ⟨y, hy, hR⟩ := h.get hl; simp [hy, hR]
theorem PW.take {l : List α} {m : List β} (h : PW R l m) (n : Nat) : PW R (l.take n) (m.take n) := by
  refine ⟨by simp [h.1], fun i x y hx hy => ?_⟩
  rw [List.getElem?_take] at hx hy
  split at hx
  · rename_i hi; rw [if_pos hi] at hy; exact h.2 i x y hx hy
  · cases hx
theorem PW.drop {l : List α} {m : List β} (h : PW R l m) (n : Nat) : PW R (l.drop n) (m.drop n) := by
  refine ⟨by simp [h.1], fun i x y hx hy => ?_⟩
  rw [List.getElem?_drop] at hx hy
  exact h.2 _ x y hx hy
theorem PW.map_left {l : List γ} {m : List β} {f : γ → α} (h : PW (fun c b => R (f c) b) l m) : PW R (l.map f) m := by
  refine ⟨by simp [h.1], fun i x y hx hy => ?_⟩
  rw [List.getElem?_map] at hx
  cases hl : l[i]? with
  | none => simp [hl] at hx
  | some c => simp [hl] at hx; subst hx; exact h.2 i c y hl hy
end lists

section rel
variable {ρ ρ' : Ren}
theorem Ren.le.refl (ρ : Ren) : ρ.le ρ := ⟨fun _ _ h => h, fun _ _ h => h, rfl, Ren.le.gsame rfl⟩
theorem Ren.le.trans {a b c : Ren} (h : a.le b) (h' : b.le c) : a.le c := ⟨fun k x hx => h'.m k x (h.m k x hx), fun k x hx => h'.h k x (h.h k x hx), h'.d.trans h.d, fun b x hx => by
  obtain ⟨y, hy, l1⟩ := h.g b x hx
  obtain ⟨z, hz, l2⟩ := h'.g b y hy
  exact ⟨z, hz, l1.trans l2⟩⟩
theorem rA_mono (h : ρ.le ρ') {a a' : Addr} (ha : rA ρ a = some a') : rA ρ' a = some a' := by
  unfold rA at *
  split at ha
  · rename_i b s hs hb; simp [hs, h.m _ _ hb]; simpa using ha
  · cases ha
/-- A value without an address: it is what it is. -/
def flat0 : Value → Bool
  | .pointer (some _) | .slice (some _) _ _ | .agg _ | .tuple _ | .func _ _ _ | .iface _ (.chan (some _)) | .iface _ (.map (some _)) | .iface _ (.slice none _ (_ + 1)) | .iface _ (.iface _ _) => false
  | _ => true
def flat1 : Value → Bool
  | .pointer (some _) | .slice (some _) _ _ | .agg _ | .tuple _ => false
  | .func _ x y => x.toList.all flat0 && y.toList.all flat0
  | .iface _ (.chan (some _)) | .iface _ (.map (some _)) | .iface _ (.slice none _ (_ + 1)) | .iface _ (.iface _ _) => false
  | _ => true
theorem rP_flat {v : Value} (h : flat0 v = true) : rP ρ v = some v := by
  unfold flat0 at h
  split at h
  · cases h
  · cases h
  · cases h
  · cases h
  · cases h
  · cases h
  · cases h
  · cases h
  · cases h
  · rename_i h1 h2 h3 h4 h5 h6 h7 h8 h9
    unfold rP
    split
    · exact absurd rfl (h1 _)
    · exact absurd rfl (h2 _ _ _)
    · exact absurd rfl (h3 _)
    · exact absurd rfl (h4 _)
    · exact absurd rfl (h5 _ _ _)
    · exact absurd rfl (h6 _ _)
    · exact absurd rfl (h7 _ _)
    · exact absurd rfl (h8 _ _ _)
    · exact absurd rfl (h9 _ _ _)
    · rfl
theorem rPL_flat : ∀ {l : List Value}, l.all flat0 = true → rPL ρ l = some l
  | [], _ => rfl
  | v :: l, h => by
    simp only [List.all_cons, Bool.and_eq_true] at h
    simp only [rPL, rP_flat h.1, rPL_flat h.2]
theorem rP_mono (h : ρ.le ρ') {v u : Value} (hv : rP ρ v = some u) : rP ρ' v = some u := by
  unfold rP at *
  split at hv
  · rename_i a
    rw [Option.map_eq_some_iff] at hv
    obtain ⟨a', ha, rfl⟩ := hv
    rw [rA_mono h ha]; rfl
  · cases hv
  · cases hv
  · cases hv
  · cases hv
  · cases hv
  · cases hv
  · cases hv
  · cases hv
  · exact hv
theorem rPL_mono (h : ρ.le ρ') : ∀ {l us : List Value}, rPL ρ l = some us → rPL ρ' l = some us
  | [], us, hl => hl
  | v :: l, us, hl => by
    unfold rPL at hl
    split at hl
    · rename_i u us' h1 h2
      cases hl
      simp only [rPL, rP_mono h h1, rPL_mono h h2]
    · cases hl
/-- What a function value carries is a value of one cell. -/
theorem rP_VR1 {v u : Value} (h : rP ρ v = some u) : VR1 ρ v u := by
  unfold rP at h
  split at h
  · exact h
  · cases h
  · cases h
  · cases h
  · cases h
  · cases h
  · cases h
  · cases h
  · cases h
  · rename_i h1 h2 h3 h4 h5 h6 h7 h8 h9
    unfold VR1 isTok rC
    split
    · rename_i ht
      split at ht
      · exact absurd rfl (h6 _ _)
      · exact absurd rfl (h7 _ _)
      · exact absurd rfl (h8 _ _ _)
      · exact absurd rfl (h9 _ _ _)
      · cases ht
    · split
      · exact absurd rfl (h1 _)
      · exact absurd rfl (h2 _ _ _)
      · exact absurd rfl (h5 _ _ _)
      · exact absurd rfl (h3 _)
      · exact absurd rfl (h4 _)
      · exact absurd rfl (h6 _ _)
      · exact absurd rfl (h7 _ _)
      · exact absurd rfl (h8 _ _ _)
      · exact absurd rfl (h9 _ _ _)
      · exact h
theorem rPL_rel : ∀ {l us : List Value}, rPL ρ l = some us → PW (VR1 ρ) l us
  | [], us, hl => by cases hl; exact PW.nil
  | v :: l, us, hl => by
    unfold rPL at hl
    split at hl
    · rename_i u us' h1 h2
      cases hl
      exact PW.cons (rP_VR1 h1) (rPL_rel h2)
    · cases hl
theorem VR1_ptr {a : Addr} {u : Value} : VR1 ρ (.pointer (some a)) u ↔ ∃ a', rA ρ a = some a' ∧ u = .pointer (some a') := by
  simp only [VR1, isTok, rC, Option.map_eq_some_iff]
  exact ⟨fun ⟨a', h, e⟩ => ⟨a', h, e.symm⟩, fun ⟨a', h, e⟩ => ⟨a', h, e.symm⟩⟩
theorem VR1_slice {a : Addr} {l c : Nat} {u : Value} : VR1 ρ (.slice (some a) l c) u ↔ ∃ a', rA ρ a = some a' ∧ u = .slice (some a') l c := by
  simp only [VR1, isTok, rC, Option.map_eq_some_iff]
  exact ⟨fun ⟨a', h, e⟩ => ⟨a', h, e.symm⟩, fun ⟨a', h, e⟩ => ⟨a', h, e.symm⟩⟩
theorem flat1_tok {v : Value} (h : flat1 v = true) : isTok v = false := by
  unfold isTok
  split
  · cases h
  · cases h
  · cases h
  · cases h
  · rfl
theorem VR1_flat {v u : Value} (h : flat1 v = true) : VR1 ρ v u ↔ u = v := by
  unfold VR1 rC
  rw [flat1_tok h]
  simp only
  split
  · cases h
  · cases h
  · simp only [flat1, Bool.and_eq_true] at h
    simp [rPL_flat h.1, rPL_flat h.2, eq_comm]
  · cases h
  · cases h
  · cases h
  · cases h
  · cases h
  · cases h
  · simp [eq_comm]
theorem VR1_tok {v u : Value} (h : isTok v = true) : VR1 ρ v u ↔ tokR ρ v u := by
  unfold VR1
  rw [h]
theorem VR1_func {f : Fn} {x y : Array Value} {u : Value} : VR1 ρ (.func f x y) u ↔ ∃ x' y', rPL ρ x.toList = some x' ∧ rPL ρ y.toList = some y' ∧ u = .func f x'.toArray y'.toArray := by
  unfold VR1 isTok rC
  simp only
  constructor
  · intro h
    split at h
    · rename_i x' y' h1 h2
      cases h
      exact ⟨_, _, h1, h2, rfl⟩
    · cases h
  · rintro ⟨x', y', h1, h2, rfl⟩
    rw [h1, h2]
/-- The three kinds of values of one cell: with an address, with what a function carries, without. -/
theorem VR1.inv {v u : Value} (h : VR1 ρ v u) : (∃ a a', v = .pointer (some a) ∧ rA ρ a = some a' ∧ u = .pointer (some a')) ∨ (∃ a l c a', v = .slice (some a) l c ∧ rA ρ a = some a' ∧ u = .slice (some a') l c) ∨ (∃ f x y x' y', v = .func f x y ∧ rPL ρ x.toList = some x' ∧ rPL ρ y.toList = some y' ∧ u = .func f x'.toArray y'.toArray) ∨ (isTok v = true ∧ tokR ρ v u) ∨ (flat1 v = true ∧ (∀ f x y, v ≠ .func f x y) ∧ u = v) := by
  cases ht : isTok v with
  | true => exact .inr (.inr (.inr (.inl ⟨rfl, (VR1_tok ht).1 h⟩)))
  | false => ?_
  by_cases hfn : ∃ f x y, v = .func f x y
  · obtain ⟨f, x, y, rfl⟩ := hfn
    obtain ⟨x', y', h1, h2, h3⟩ := VR1_func.1 h
    exact .inr (.inr (.inl ⟨f, x, y, x', y', rfl, h1, h2, h3⟩))
  have hne : ∀ f x y, v ≠ .func f x y := fun f x y e => hfn ⟨f, x, y, e⟩
  by_cases hf : flat1 v = true
  · exact .inr (.inr (.inr (.inr ⟨hf, hne, (VR1_flat hf).1 h⟩)))
  · unfold flat1 at hf
    split at hf
    · obtain ⟨a', h1, h2⟩ := VR1_ptr.1 h; exact .inl ⟨_, a', rfl, h1, h2⟩
    · obtain ⟨a', h1, h2⟩ := VR1_slice.1 h; exact .inr (.inl ⟨_, _, _, a', rfl, h1, h2⟩)
    · cases h
    · cases h
    · exact absurd rfl (hne _ _ _)
    · cases ht
    · cases ht
    · cases ht
    · cases ht
    · exact absurd rfl hf
theorem lstR_mono (hg : ∀ b x, ρ.g b = some x → ∃ y, ρ'.g b = some y ∧ x.le y) {k l z : Nat} {u : Value} (h : lstR ρ k l z u) : lstR ρ' k l z u := by
  obtain ⟨a, c, e, hlc, hor⟩ := h
  refine ⟨a, c, e, hlc, hor.imp id ?_⟩
  rintro ⟨b, x, e1, e2, e3, e4, e5, e6⟩
  obtain ⟨y, hy, hl⟩ := hg b x e2
  obtain ⟨t, et⟩ := hl.cs
  exact ⟨b, y, e1, hy, hl.k.trans e3, hl.sz.trans e4, by rw [hl.cap]; exact e5, by rw [et, List.length_append]; omega⟩
theorem tokR_mono (hh : ∀ b cs, ρ.h b = some cs → ρ'.h b = some cs) (hg : ∀ b x, ρ.g b = some x → ∃ y, ρ'.g b = some y ∧ x.le y) {v u : Value} (ht : tokR ρ v u) : tokR ρ' v u := by
  unfold tokR at *
  split at ht
  · exact lstR_mono hg ht
  · obtain ⟨a, c, e, hlc, hor⟩ := ht
    refine ⟨a, c, e, hlc, hor.imp id ?_⟩
    rintro ⟨b, off, cs, e1, e2, e3⟩
    exact ⟨b, off, cs, e1, hh _ _ e2, e3⟩
  · obtain ⟨b, off, cs, e1, e2, e3⟩ := ht
    exact ⟨b, off, cs, e1, hh _ _ e2, e3⟩
  · obtain ⟨hp, a, c, e, hlc, hor⟩ := ht
    refine ⟨hp, a, c, e, hlc, hor.imp id ?_⟩
    rintro ⟨b, s, e1, e2⟩
    exact ⟨b, s, e1, fun i v hi => let ⟨hs, g1, g2⟩ := e2 i v hi; ⟨hs, hh _ _ g1, g2⟩⟩
  · obtain ⟨hp, b, s, e1, e2⟩ := ht
    exact ⟨hp, b, s, e1, fun i v hi => let ⟨hs, g1, g2⟩ := e2 i v hi; ⟨hs, hh _ _ g1, g2⟩⟩
  · obtain ⟨b, x, e1, e2, e3, e4⟩ := ht
    obtain ⟨y, hy, hl⟩ := hg b x e2
    obtain ⟨t, et⟩ := hl.cs
    exact ⟨b, y, e1, hy, hl.k.trans e3, by rw [et, List.length_append]; omega⟩
  · exact ht
theorem tokR_cell {v u : Value} (ht : tokR ρ v u) : v.cells = #[v] ∧ u.cells = #[u] := by
  unfold tokR at ht
  split at ht
  · obtain ⟨a, c, rfl, _⟩ := ht; exact ⟨rfl, rfl⟩
  · obtain ⟨a, c, rfl, _⟩ := ht; exact ⟨rfl, rfl⟩
  · obtain ⟨b, off, cs, rfl, _⟩ := ht; exact ⟨rfl, rfl⟩
  · obtain ⟨_, a, c, rfl, _⟩ := ht; exact ⟨rfl, rfl⟩
  · obtain ⟨_, b, s, rfl, _⟩ := ht; exact ⟨rfl, rfl⟩
  · obtain ⟨b, x, rfl, _⟩ := ht; exact ⟨rfl, rfl⟩
  · exact ht.elim
theorem VR1.mono (h : ρ.le ρ') {v u : Value} (hv : VR1 ρ v u) : VR1 ρ' v u := by
  rcases hv.inv with ⟨a, a', rfl, h1, rfl⟩ | ⟨a, l, c, a', rfl, h1, rfl⟩ | ⟨f, x, y, x', y', rfl, h1, h2, rfl⟩ | ⟨ht, htr⟩ | ⟨hf, _, rfl⟩
  · exact VR1_ptr.2 ⟨a', rA_mono h h1, rfl⟩
  · exact VR1_slice.2 ⟨a', rA_mono h h1, rfl⟩
  · exact VR1_func.2 ⟨x', y', rPL_mono h h1, rPL_mono h h2, rfl⟩
  · exact (VR1_tok ht).2 (tokR_mono h.h h.g htr)
  · exact (VR1_flat hf).2 rfl
theorem VR2.mono (h : ρ.le ρ') {v u : Value} (hv : VR2 ρ v u) : VR2 ρ' v u := by
  unfold VR2 at *
  split at hv
  · obtain ⟨us, rfl, hp⟩ := hv; exact ⟨us, rfl, hp.mono fun _ _ => VR1.mono h⟩
  · exact hv.mono h
theorem VR.mono (h : ρ.le ρ') {v u : Value} (hv : VR ρ v u) : VR ρ' v u := by
  unfold VR at *
  split at hv
  · rcases hv with hw | ⟨us, rfl, hp⟩
    · exact .inl hw
    · exact .inr ⟨us, rfl, hp.mono fun _ _ => VR2.mono h⟩
  · exact hv.mono h

theorem VR_undef : VR ρ undef undef := .inr ⟨#[], rfl, PW.nil⟩

def flat2 : Value → Bool
  | .agg cs => cs.toList.all flat1
  | v => flat1 v
def flat : Value → Bool
  | .tuple vs => !isWild vs.toList && vs.toList.all flat2
  | v => flat2 v
theorem PW_flat {α : Type} {R : α → α → Prop} {p : α → Bool} (hp : ∀ a b, p a = true → (R a b ↔ b = a)) {l m : List α} (h : l.all p = true) : PW R l m ↔ m = l := by
  induction l generalizing m with
  | nil => exact ⟨fun h => h.unnil, fun h => by rw [h]; exact PW.nil⟩
  | cons a l ih =>
    simp only [List.all_cons, Bool.and_eq_true] at h
    constructor
    · intro hm
      obtain ⟨b, m', rfl, hR, ht⟩ := hm.uncons
      rw [(hp a b h.1).1 hR, (ih h.2).1 ht]
    · rintro rfl
      exact PW.cons ((hp a a h.1).2 rfl) ((ih h.2).2 rfl)
theorem VR2_agg {cs : Array Value} {u : Value} : VR2 ρ (.agg cs) u ↔ ∃ us : Array Value, u = .agg us ∧ PW (VR1 ρ) cs.toList us.toList := Iff.rfl
theorem VR2_of1 {v : Value} (h : ∀ cs, v ≠ .agg cs) {u : Value} : VR2 ρ v u ↔ VR1 ρ v u := by
  unfold VR2
  split
  · exact absurd rfl (h _)
  · exact Iff.rfl
theorem VR_tuple {vs : Array Value} {u : Value} (h : isWild vs.toList = false) : VR ρ (.tuple vs) u ↔ ∃ us : Array Value, u = .tuple us ∧ PW (VR2 ρ) vs.toList us.toList := by
  show (isWild vs.toList = true ∨ _) ↔ _
  rw [h]
  simp
theorem VR_wild {u : Value} : VR ρ wild u := .inl rfl
theorem VR_of2 {v : Value} (h : ∀ vs, v ≠ .tuple vs) {u : Value} : VR ρ v u ↔ VR2 ρ v u := by
  unfold VR
  split
  · exact absurd rfl (h _)
  · exact Iff.rfl
theorem VR2_flat {v u : Value} (h : flat2 v = true) : VR2 ρ v u ↔ u = v := by
  unfold flat2 at h
  split at h
  · rw [VR2_agg]
    constructor
    · rintro ⟨us, rfl, hp⟩; rw [PW_flat (fun _ _ => VR1_flat) h] at hp; rw [Array.toList_inj.1 hp]
    · rintro rfl; exact ⟨_, rfl, (PW_flat (fun _ _ => VR1_flat) h).2 rfl⟩
  · rename_i hn
    rw [VR2_of1 (fun cs e => hn cs e)]
    exact VR1_flat h
theorem VR_flat {v u : Value} (h : flat v = true) : VR ρ v u ↔ u = v := by
  unfold flat at h
  split at h
  · simp only [Bool.and_eq_true, Bool.not_eq_true'] at h
    obtain ⟨hw, h⟩ := h
    rw [VR_tuple hw]
    constructor
    · rintro ⟨us, rfl, hp⟩; rw [PW_flat (fun _ _ => VR2_flat) h] at hp; rw [Array.toList_inj.1 hp]
    · rintro rfl; exact ⟨_, rfl, (PW_flat (fun _ _ => VR2_flat) h).2 rfl⟩
  · rename_i hn
    rw [VR_of2 (fun cs e => hn cs e)]
    exact VR2_flat h
theorem PW_VR_flat {l m : List Value} (h : l.all flat = true) : PW (VR ρ) l m ↔ m = l := PW_flat (fun _ _ => VR_flat) h

/-- A value of one cell. -/
def isOne : Value → Bool
  | .agg _ | .tuple _ => false
  | _ => true
theorem flat1_cells {v : Value} (h : flat1 v = true) : v.cells = #[v] ∧ isOne v = true := by
  cases v <;> first | (cases h; done) | exact ⟨rfl, rfl⟩
theorem VR1.cell {v u : Value} (h : VR1 ρ v u) : v.cells = #[v] ∧ u.cells = #[u] := by
  rcases h.inv with ⟨a, a', rfl, h1, rfl⟩ | ⟨a, l, c, a', rfl, h1, rfl⟩ | ⟨f, x, y, x', y', rfl, h1, h2, rfl⟩ | ⟨ht, htr⟩ | ⟨hf, _, rfl⟩
  · exact ⟨rfl, rfl⟩
  · exact ⟨rfl, rfl⟩
  · exact ⟨rfl, rfl⟩
  · exact tokR_cell htr
  · exact ⟨(flat1_cells hf).1, (flat1_cells hf).1⟩
theorem VR1.one {v u : Value} (h : VR1 ρ v u) : isOne u = true := by
  rcases h.inv with ⟨a, a', rfl, h1, rfl⟩ | ⟨a, l, c, a', rfl, h1, rfl⟩ | ⟨f, x, y, x', y', rfl, h1, h2, rfl⟩ | ⟨ht, htr⟩ | ⟨hf, _, rfl⟩
  · rfl
  · rfl
  · rfl
  · unfold tokR at htr
    split at htr
    · obtain ⟨a, c, rfl, _⟩ := htr; rfl
    · obtain ⟨a, c, rfl, _⟩ := htr; rfl
    · obtain ⟨b, off, cs, rfl, _⟩ := htr; rfl
    · obtain ⟨_, a, c, rfl, _⟩ := htr; rfl
    · obtain ⟨_, b, s, rfl, _⟩ := htr; rfl
    · obtain ⟨b, x, rfl, _⟩ := htr; rfl
    · exact htr.elim
  · exact (flat1_cells hf).2
/-- The cells of a value that is no tuple. -/
theorem VR2.cells {v u : Value} (h : VR2 ρ v u) : PW (VR1 ρ) v.cells.toList u.cells.toList := by
  unfold VR2 at h
  split at h
  · obtain ⟨us, rfl, hp⟩ := h; exact hp
  · have h' : VR1 ρ v u := h
    rw [h'.cell.1, h'.cell.2]; exact PW.cons h' PW.nil
theorem VR2.toVR {v u : Value} (h : VR2 ρ v u) : VR ρ v u := by
  unfold VR
  split
  · cases h
  · exact h
theorem VR1.toVR2 {v u : Value} (h : VR1 ρ v u) : VR2 ρ v u := by
  unfold VR2
  split
  · cases h
  · exact h
theorem VR1.toVR {v u : Value} (h : VR1 ρ v u) : VR ρ v u := h.toVR2.toVR
end rel

/-- The mark of a list's block. -/
def lstT : TypeId := 1000003
def Blk.isL (B : Blk) : Bool := !B.own && Nat.beq B.elem lstT
/-- A block of the machine in which a list lies. -/
structure LB (ρ : Ren) (mem : Mem) (w : World) (b : Nat) (x : Lst) : Prop where
  lt : b < w.heap.size
  cells : ∀ i v, x.cs[i]? = some v → flat1 v = true ∧ w.cell? ⟨b, i, none⟩ = some v
  room : ∀ i, i < x.cap → (w.cell? ⟨b, i, none⟩).isSome = true ∧ w.frozen? ⟨b, i, none⟩ = false
  nomap : ∀ k s, ρ k ≠ some (b, s)
  noh : ρ.h b = none
  list : ∃ B t, mem[x.k]? = some B ∧ B.isL = true ∧ B.cells = x.cs ++ t
structure LRel (ρ : Ren) (mem : Mem) (w : World) : Prop where
  lst : ∀ b x, ρ.g b = some x → LB ρ mem w b x
  lmap : ∀ k B, mem[k]? = some B → B.isL = true → ρ k = none
theorem LB.move {ρ ρ' : Ren} {mem mem' : Mem} {w w' : World} {b : Nat} {x : Lst} (h : LB ρ mem w b x) (hsz : w.heap.size ≤ w'.heap.size) (hw : w'.heap[b]? = w.heap[b]?) (hρ : ∀ k s, ρ' k ≠ some (b, s)) (hh : ρ'.h b = none)
    (hm : ∀ B, mem[x.k]? = some B → B.isL = true → ∃ B' t, mem'[x.k]? = some B' ∧ B'.isL = true ∧ B'.cells = B.cells ++ t) : LB ρ' mem' w' b x := by
  refine ⟨Nat.lt_of_lt_of_le h.lt hsz, fun i v hv => ⟨(h.cells i v hv).1, by rw [World.cell?_of_block (a := ⟨b, i, none⟩) hw]; exact (h.cells i v hv).2⟩, fun i hi => ⟨by rw [World.cell?_of_block (a := ⟨b, i, none⟩) hw]; exact (h.room i hi).1, by rw [World.frozen?_of_block (a := ⟨b, i, none⟩) hw]; exact (h.room i hi).2⟩, hρ, hh, ?_⟩
  obtain ⟨B, t, h1, h2, h3⟩ := h.list
  obtain ⟨B', t', h4, h5, h6⟩ := hm B h1 h2
  exact ⟨B', t ++ t', h4, h5, by rw [h6, h3, List.append_assoc]⟩
theorem LB.same {mem : Mem} {k : Nat} : ∀ B, mem[k]? = some B → B.isL = true → ∃ B' t, mem[k]? = some B' ∧ B'.isL = true ∧ B'.cells = B.cells ++ t := fun B h hl => ⟨B, [], h, hl, (List.append_nil _).symm⟩
theorem LRel.heap {ρ : Ren} {mem : Mem} {w w' : World} (h : LRel ρ mem w) (hsz : w.heap.size ≤ w'.heap.size) (hw : ∀ b, b < w.heap.size → (ρ.g b).isSome = true → w'.heap[b]? = w.heap[b]?) : LRel ρ mem w' :=
  ⟨fun b x hx => (h.lst b x hx).move hsz (hw b (h.lst b x hx).lt (by rw [hx]; rfl)) (h.lst b x hx).nomap (h.lst b x hx).noh LB.same, h.lmap⟩
theorem Blk.isL_own {B : Blk} (h : B.own = true) : B.isL = false := by unfold Blk.isL; rw [h]; rfl
theorem LRel.empty {ρ : Ren} {mem : Mem} {w : World} (hg : ∀ b, ρ.g b = none) (hm : ∀ k B, mem[k]? = some B → B.isL = true → ρ k = none) : LRel ρ mem w := ⟨fun b x h => (by rw [hg b] at h; cases h), hm⟩
/-- The blocks that are numbered lie in the world. -/
structure MRel (ρ : Ren) (mem : Mem) (w : World) : Prop where
  cell : ∀ (k b s : Nat), ρ k = some (b, s) → ∃ B : Blk, mem[k]? = some B ∧ b < w.heap.size ∧
    ∀ i v, B.cells[i]? = some v → (∃ u, VR1 ρ v u ∧ w.cell? ⟨b, s + i, none⟩ = some u) ∧ (B.own = true → w.frozen? ⟨b, s + i, none⟩ = false)
  apart : ∀ (k b s k' b' s' : Nat) (B : Blk), ρ k = some (b, s) → ρ k' = some (b', s') → mem[k]? = some B → B.own = true → k ≠ k' → b ≠ b'
  froz : ∀ (b : Nat) (cs : List Value), ρ.h b = some cs → b < w.heap.size ∧ (∀ i v, cs[i]? = some v → w.cell? ⟨b, i, none⟩ = some v) ∧ ∀ (k s : Nat) (B : Blk), ρ k = some (b, s) → mem[k]? = some B → B.own = false
  lists : LRel ρ mem w

/-- What a piece of code may have done to the world: new blocks, and stores into its own. -/
structure Mv (ρ : Ren) (mem : Mem) (w : World) (ρ' : Ren) (mem' : Mem) (w' : World) : Prop where
  sub : ρ.le ρ'
  new : ∀ k x, ρ' k = some x → ρ k = none → w.heap.size ≤ x.1
  kept : ∀ (k : Nat) (B : Blk), mem[k]? = some B → ∃ B' : Blk, mem'[k]? = some B' ∧ B'.own = B.own
  os : w'.os = w.os
  tape : w'.tape = w.tape
  output : w'.output = w.output
  size : w.heap.size ≤ w'.heap.size
  block : ∀ b, b < w.heap.size → ρ.g b = none → (∀ (k s : Nat) (B : Blk), ρ k = some (b, s) → mem[k]? = some B → B.own = false) → w'.heap[b]? = w.heap[b]?
  newh : ∀ b cs, ρ'.h b = some cs → ρ.h b = none → w.heap.size ≤ b
  newg : ∀ b x, ρ'.g b = some x → ρ.g b = none → w.heap.size ≤ b

theorem Mv.refl (ρ : Ren) (mem : Mem) (w : World) : Mv ρ mem w ρ mem w :=
  ⟨.refl _, (fun k x h h' => by rw [h] at h'; cases h'), fun k B h => ⟨B, h, rfl⟩, rfl, rfl, rfl, Nat.le_refl _, fun _ _ _ _ => rfl, fun b cs h h' => (by rw [h] at h'; cases h'), fun b cs h h' => by rw [h] at h'; cases h'⟩

theorem Mv.trans {ρ ρ₁ ρ₂ : Ren} {m m₁ m₂ : Mem} {w w₁ w₂ : World} (hm : MRel ρ m w) (h : Mv ρ m w ρ₁ m₁ w₁) (h' : Mv ρ₁ m₁ w₁ ρ₂ m₂ w₂) : Mv ρ m w ρ₂ m₂ w₂ where
  sub := h.sub.trans h'.sub
  new k x hx hn := by
    cases h1 : ρ₁ k with
    | none => exact Nat.le_trans h.size (h'.new k x hx h1)
    | some y =>
      have := h'.sub.m k y h1
      rw [hx] at this
      cases this
      exact h.new k x h1 hn
  newh b cs hb hn := by
    cases h1 : ρ₁.h b with
    | none => exact Nat.le_trans h.size (h'.newh b cs hb h1)
    | some cs' => exact h.newh b cs' h1 hn
  newg b x hb hn := by
    cases h1 : ρ₁.g b with
    | none => exact Nat.le_trans h.size (h'.newg b x hb h1)
    | some y => exact h.newg b y h1 hn
  kept k B hB := by
    obtain ⟨B1, h1, e1⟩ := h.kept k B hB
    obtain ⟨B2, h2, e2⟩ := h'.kept k B1 h1
    exact ⟨B2, h2, e2.trans e1⟩
  os := h'.os.trans h.os
  tape := h'.tape.trans h.tape
  output := h'.output.trans h.output
  size := Nat.le_trans h.size h'.size
  block b hb hg hk := by
    have hg1 : ρ₁.g b = none := by
      cases h1 : ρ₁.g b with
      | none => rfl
      | some y => have := h.newg b y h1 hg; omega
    rw [h'.block b (Nat.lt_of_lt_of_le hb h.size) hg1 ?_, h.block b hb hg hk]
    intro k s B hρ hB
    cases h1 : ρ k with
    | none => have := h.new k _ hρ h1; simp at this; omega
    | some x =>
      have e := h.sub.m k x h1
      rw [hρ] at e
      cases e
      obtain ⟨B0, hB0, _⟩ := hm.cell k b s h1
      obtain ⟨B1, hB1, e1⟩ := h.kept k B0 hB0
      rw [hB] at hB1
      cases hB1
      rw [e1]
      exact hk k s B0 h1 hB0

structure St where
  tmps : List Value
  mem : Mem

structure ARel (ρ : Ren) (S : St) (a : Act) (w : World) : Prop where
  tmps : PW (VR ρ) S.tmps a.tmps.toList
  defers : a.defers = ρ.d
  mem : MRel ρ S.mem w

/-- The slots that are named, of a state; of the others nothing is known any more. -/
def maskT (live : List Nat) : Nat → List Value → List Value
  | _, [] => []
  | i, v :: l => (match live.contains i with | true => v | false => wild) :: maskT live (i + 1) l
def maskS (live : List Nat) (S : St) : St := ⟨maskT live 0 S.tmps, S.mem⟩
theorem maskT_rel {ρ : Ren} {live : List Nat} : ∀ {l m : List Value} {i : Nat}, PW (VR ρ) l m → PW (VR ρ) (maskT live i l) m
  | [], m, i, h => h
  | v :: l, m, i, h => by
    obtain ⟨u, m', rfl, hu, ht⟩ := h.uncons
    refine PW.cons ?_ (maskT_rel ht)
    split
    · exact hu
    · exact VR_wild
theorem ARel.mask {ρ : Ren} {S : St} {a : Act} {w : World} (h : ARel ρ S a w) (live : List Nat) : ARel ρ (maskS live S) a w := ⟨maskT_rel h.tmps, h.defers, h.mem⟩

/-- FROM THE RELATIVE STATE S THE CODE c COMES TO AN END THAT Q TELLS. -/
def Tri (P : Program) (c : Code) (S : St) (Q : Exit → St → Prop) : Prop :=
  ∀ ρ a w, ARel ρ S a w → c.wp P (fun e a' w' => ∃ S' ρ', Q e S' ∧ ARel ρ' S' a' w' ∧ Mv ρ S.mem w ρ' S'.mem w') a w

section rules
variable {P : Program} {S : St} {Q Q' : Exit → St → Prop}

theorem Tri.mono {c : Code} (h : Tri P c S Q) (hq : ∀ e S, Q e S → Q' e S) : Tri P c S Q' :=
  fun ρ a w hr => wp_mono (h ρ a w hr) fun _ _ _ ⟨S', ρ', q, r⟩ => ⟨S', ρ', hq _ _ q, r⟩
/-- The end e, in the state S'. -/
def to (e : Exit) (S' : St) : Exit → St → Prop := fun e1 S1 => e1 = e ∧ S1 = S'
theorem Tri.mask {c : Code} {e : Exit} {S' : St} (h : Tri P c S (to e S')) (live : List Nat) : Tri P c S (to e (maskS live S')) :=
  fun ρ a w hr => wp_mono (h ρ a w hr) fun _ _ _ ⟨S1, ρ', ⟨h1, h2⟩, r⟩ => by subst h2; exact ⟨maskS live S1, ρ', ⟨h1, rfl⟩, r.1.mask live, r.2⟩
theorem Tri.unmask {c : Code} (live : List Nat) (h : Tri P c (maskS live S) Q) : Tri P c S Q :=
  fun ρ a w hr => h ρ a w (hr.mask live)
theorem Tri.skip (h : Q .normal S) : Tri P .skip S Q := fun ρ _ _ hr => wp_skip ⟨S, ρ, h, hr, .refl _ _ _⟩
theorem Tri.label {l : Nat} (h : Q .normal S) : Tri P (.label l) S Q := fun ρ _ _ hr => wp_label ⟨S, ρ, h, hr, .refl _ _ _⟩
theorem Tri.exit {id : Nat} (h : Q (.exit id) S) : Tri P (.exit id) S Q := fun ρ _ _ hr => wp_exit ⟨S, ρ, h, hr, .refl _ _ _⟩
theorem Tri.goto {l : Nat} (h : Q (.goto l) S) : Tri P (.goto l) S Q := fun ρ _ _ hr => wp_goto ⟨S, ρ, h, hr, .refl _ _ _⟩
theorem Tri.ret (h : Q .ret S) : Tri P .ret S Q := fun ρ _ _ hr => wp_ret ⟨S, ρ, h, hr, .refl _ _ _⟩

/-- Behind a first piece: the second, or out. -/
def thenQ (P : Program) (y : Code) (Q : Exit → St → Prop) : Exit → St → Prop
  | .normal, S => Tri P y S Q
  | e, S => Q e S

theorem Tri.seq {x y : Code} (h : Tri P x S (thenQ P y Q)) : Tri P (.seq x y) S Q := by
  intro ρ a w hr
  refine wp_seq (wp_mono (h ρ a w hr) ?_)
  rintro e a1 w1 ⟨S1, ρ1, q, r1, m1⟩
  cases e with
  | normal =>
    refine wp_mono (q ρ1 a1 w1 r1) ?_
    rintro e a2 w2 ⟨S2, ρ2, q2, r2, m2⟩
    exact ⟨S2, ρ2, q2, r2, m1.trans hr.mem m2⟩
  | _ => exact ⟨S1, ρ1, q, r1, m1⟩

theorem VR_bool {ρ : Ren} {b : Bool} {u : Value} (h : VR ρ (.bool b) u) : u = .bool b := (VR_flat rfl).1 h

/-- The value of an operand in the relative state. -/
def St.eval (S : St) : Operand → Option Value
  | .tmp t => some (S.tmps.getD t undef)
  | .const v => if flat v then some v else none
  | .global _ => none
  | .func f => some (.func (.func f) #[] #[])

theorem ARel.eval {ρ : Ren} {a : Act} (hr : PW (VR ρ) S.tmps a.tmps.toList) {x : Operand} {v : Value} (h : S.eval x = some v) : VR ρ v (a.eval x) := by
  cases x with
  | tmp t =>
    simp only [St.eval, Option.some.injEq] at h
    subst h
    have := hr.getD t (VR_undef (ρ := ρ))
    simpa [Act.eval] using this
  | const c =>
    simp only [St.eval] at h
    split at h
    · rename_i hf; cases h; exact (VR_flat hf).2 rfl
    · cases h
  | global g => cases h
  | func f => cases h; exact (VR_flat rfl).2 rfl

theorem Tri.cond {c : Operand} {x y : Code} {t : Bool} (hc : S.eval c = some (.bool t)) (h : Tri P (if t then x else y) S Q) : Tri P (.cond c x y) S Q :=
  fun ρ a w hr => wp_cond (VR_bool (ARel.eval hr.tmps hc)) (h ρ a w hr)

def inBlockQ (id : Nat) (Q : Exit → St → Prop) : Exit → St → Prop
  | .exit id', S => if id' = id then Q .normal S else Q (.exit id') S
  | e, S => Q e S

theorem Tri.block {id : Nat} {c : Code} (h : Tri P c S (inBlockQ id Q)) : Tri P (.block id c) S Q := by
  intro ρ a w hr
  refine wp_block (wp_mono (h ρ a w hr) ?_)
  rintro e a1 w1 ⟨S1, ρ1, q, r1, m1⟩
  cases e with
  | exit id' =>
    simp only [Exit.inBlock, inBlockQ] at *
    split at q
    · rename_i e; rw [if_pos e]; exact ⟨S1, ρ1, q, r1, m1⟩
    · rename_i e; rw [if_neg e]; exact ⟨S1, ρ1, q, r1, m1⟩
  | _ => exact ⟨S1, ρ1, q, r1, m1⟩

/-- The end of a round: the relation again, the measure less; or out. -/
def roundQ (I : St → Prop) (μ : St → Nat) (n : Nat) (Q : Exit → St → Prop) : Exit → St → Prop
  | .normal, S => I S ∧ μ S < n
  | e, S => Q e S

theorem Tri.loop {c : Code} (I : St → Prop) (μ : St → Nat) (h0 : I S) (round : ∀ S, I S → Tri P c S (roundQ I μ (μ S) Q)) : Tri P (.loop c) S Q := by
  intro ρ a w hr b k cs
  have key : ∀ n S1 ρ1 a1 w1, μ S1 = n → I S1 → ARel ρ1 S1 a1 w1 → Mv ρ S.mem w ρ1 S1.mem w1 →
      ∃ e a' w', (∃ S' ρ', Q e S' ∧ ARel ρ' S' a' w' ∧ Mv ρ S.mem w ρ' S'.mem w') ∧ Arrives P (lone (b.at a1 (.code c :: .inLoop c :: k)) cs w1) b k cs e a' w' := by
    intro n
    induction n using Nat.strongRecOn with
    | _ n ih =>
      intro S1 ρ1 a1 w1 hn hI hr1 hm1
      obtain ⟨e, a2, w2, ⟨S2, ρ2, q2, r2, m2⟩, harr⟩ := round S1 hI ρ1 a1 w1 hr1 b (.inLoop c :: k) cs
      have m3 := hm1.trans hr.mem m2
      cases e with
      | normal =>
        obtain ⟨e3, a3, w3, h3, harr3⟩ := ih (μ S2) (hn ▸ q2.2) S2 ρ2 a2 w2 rfl q2.1 r2 m3
        exact ⟨e3, a3, w3, h3, .of_steps (Steps.trans harr (.one step_inLoop)) harr3⟩
      | exit id => exact ⟨_, a2, w2, ⟨S2, ρ2, q2, r2, m3⟩, .pass (x := .inLoop c) rfl (fun _ _ => .inl (by simp)) harr⟩
      | goto l => exact ⟨_, a2, w2, ⟨S2, ρ2, q2, r2, m3⟩, .pass (x := .inLoop c) rfl (fun _ _ => .inl (by simp)) harr⟩
      | ret => exact ⟨_, a2, w2, ⟨S2, ρ2, q2, r2, m3⟩, .pass (x := .inLoop c) rfl (fun _ _ => .inl (by simp)) harr⟩
      | panic ch => exact ⟨_, a2, w2, ⟨S2, ρ2, q2, r2, m3⟩, .pass (x := .inLoop c) rfl (fun _ _ => .inl (by simp)) harr⟩
      | outgrown => exact ⟨_, a2, w2, ⟨S2, ρ2, q2, r2, m3⟩, .pass (x := .inLoop c) rfl (fun _ _ => .inl (by simp)) harr⟩
  obtain ⟨e, a', w', hq, harr⟩ := key _ S ρ a w rfl h0 hr (.refl _ _ _)
  exact ⟨e, a', w', hq, .of_steps (.one step_loop) harr⟩
end rules

/-- A CALL: from relative arguments and blocks to a relative result and blocks. -/
def CT (P : Program) (f : FuncId) (args : List Value) (mem : Mem) (Q : Value → Mem → Prop) : Prop :=
  ∀ ρ w us, PW (VR ρ) args us → MRel ρ mem w → Calls P f us.toArray w fun e w' => ∃ v mem' ρ' u, e = .returned u ∧ Q v mem' ∧ VR ρ' v u ∧ MRel ρ' mem' w' ∧ Mv ρ mem w ρ' mem' w'

/-- A call that touches nothing that was there, and hands back a value without an address. -/
def PC (P : Program) (f : FuncId) (args : List Value) (v : Value) : Prop :=
  ∀ w, Calls P f args.toArray w fun e w' => e = .returned v ∧ RowKit.Below w.heap.size w w'

def Ren.nil : Ren := ⟨fun _ => none, fun _ => none, [], fun _ => none⟩
theorem MRel.nil (w : World) : MRel .nil [] w := ⟨(fun k b s h => by cases h), (fun _ _ _ _ _ _ _ h => by cases h), (fun b cs h => by cases h), LRel.empty (fun _ => rfl) (fun k B h => by cases h)⟩

theorem PC.of_ct {P : Program} {f : FuncId} {args : List Value} {v : Value} (ha : args.all flat = true) (hv : flat v = true) (h : CT P f args [] fun v' _ => v' = v) : PC P f args v := by
  intro w
  refine (h .nil w args ((PW_VR_flat ha).2 rfl) (MRel.nil w)).mono ?_
  rintro e w' ⟨v', mem', ρ', u, rfl, rfl, hu, _, hm⟩
  refine ⟨by rw [(VR_flat hv).1 hu], hm.os, hm.tape, hm.output, hm.size, fun k hk => hm.block k hk rfl fun _ _ _ h => by cases h⟩

theorem MRel.below {ρ : Ren} {mem : Mem} {w w' : World} (h : MRel ρ mem w) (hb : RowKit.Below w.heap.size w w') : MRel ρ mem w' := by
  refine ⟨fun k b s hk => ?_, h.apart, fun b cs hh => ?_, h.lists.heap hb.size fun b hlt _ => hb.block b hlt⟩
  case refine_2 =>
    obtain ⟨h1, h2, h3⟩ := h.froz b cs hh
    exact ⟨Nat.lt_of_lt_of_le h1 hb.size, fun i v hv => by rw [hb.cell (p := ⟨b, i, none⟩) h1]; exact h2 i v hv, h3⟩
  obtain ⟨B, hB, hlt, hc⟩ := h.cell k b s hk
  refine ⟨B, hB, Nat.lt_of_lt_of_le hlt hb.size, fun i v hv => ?_⟩
  obtain ⟨⟨u, hu, hw⟩, hf⟩ := hc i v hv
  exact ⟨⟨u, hu, by rw [hb.cell (p := ⟨b, s + i, none⟩) hlt]; exact hw⟩, fun hr => by rw [hb.frozen (p := ⟨b, s + i, none⟩) hlt]; exact hf hr⟩

theorem Mv.of_below {ρ : Ren} {mem : Mem} {w w' : World} (hb : RowKit.Below w.heap.size w w') : Mv ρ mem w ρ mem w' :=
  ⟨.refl _, (fun k x h h' => by rw [h] at h'; cases h'), fun k B h => ⟨B, h, rfl⟩, hb.os, hb.tape, hb.output, hb.size, fun b hlt _ _ => hb.block b hlt, fun b cs h h' => (by rw [h] at h'; cases h'), fun b cs h h' => by rw [h] at h'; cases h'⟩

end Go.Ev
/-! Relative states, part B: what one operation does: operations that only compute, loads, new blocks, stores, calls. -/
namespace Go.Ev

/-- An operation that writes nothing that was there: M is whatever memory is known that holds what the operation saw and made. -/
def NonW (P : Program) (o : Oper) (E : Operand → Option Value) (v : Value) (mem' : Mem) (id : Option Nat) : Prop :=
  ∀ (M : Mem), (∀ (k : Nat) (B : Blk), mem'[k]? = some B → M[k]? = some B) → ∀ (ρ : Ren) (a : Act) (w : World),
    (∀ x ∈ o.op.operands, ∀ u, E x = some u → VR ρ u (a.eval x)) → MRel ρ M w → (∀ k, id = some k → ρ k = none) →
    ∀ (next : Act → World → Prop) (Q : Exit → Act → World → Prop),
      (∀ u w' ρ', VR ρ' v u → MRel ρ' M w' → Mv ρ M w ρ' M w' → (∀ k x, ρ' k = some x → ρ k = some x ∨ id = some k) → next (a.put o.dst u) w') → o.wp P a w next Q

/-- An operation that writes. -/
def Wr (P : Program) (o : Oper) (E : Operand → Option Value) (v : Value) (mem mem' : Mem) : Prop :=
  ∀ (ρ : Ren) (a : Act) (w : World), (∀ x ∈ o.op.operands, ∀ u, E x = some u → VR ρ u (a.eval x)) → MRel ρ mem w →
    ∀ (next : Act → World → Prop) (Q : Exit → Act → World → Prop),
      (∀ u w' ρ', VR ρ' v u → MRel ρ' mem' w' → Mv ρ mem w ρ' mem' w' → next (a.put o.dst u) w') → o.wp P a w next Q

/-- An operation that writes, and knows where. -/
def WrS (P : Program) (o : Oper) (E : Operand → Option Value) (v : Value) (mem mem' : Mem) : Prop :=
  ∀ (ρ : Ren) (a : Act) (w : World), (∀ x ∈ o.op.operands, ∀ u, E x = some u → VR ρ u (a.eval x)) → MRel ρ mem w →
    ∀ (next : Act → World → Prop) (Q : Exit → Act → World → Prop),
      (∀ u w', VR ρ v u → MRel ρ mem' w' → Mv ρ mem w ρ mem' w' → next (a.put o.dst u) w') → o.wp P a w next Q
theorem WrS.wr {P : Program} {o : Oper} {E : Operand → Option Value} {v : Value} {mem mem' : Mem} (h : WrS P o E v mem mem') : Wr P o E v mem mem' :=
  fun ρ a w hH hM next Q hn => h ρ a w hH hM next Q fun u w' hu hM' hmv => hn u w' ρ hu hM' hmv

section
variable {P : Program} {o : Oper} {E : Operand → Option Value} {v : Value} {mem : Mem}

/-- It only computes. -/
theorem NonW.of_pure (h : ∀ (ρ : Ren) (e : Operand → Value), (∀ x ∈ o.op.operands, ∀ u, E x = some u → VR ρ u (e x)) → ∃ u, VR ρ v u ∧ ∀ w, (execOp e o).run P w = .ok (.value u) w) : NonW P o E v mem none := by
  intro M _ ρ a w hH hM _ next Q hn
  obtain ⟨u, hu, hr⟩ := h ρ a.eval hH
  unfold Oper.wp
  rw [hr w]
  exact hn u w ρ hu hM (.refl _ _ _) fun k x hx => .inl hx

/-- It computes and reads. -/
theorem NonW.of_read (h : ∀ (ρ : Ren) (e : Operand → Value) (w : World) (M : Mem), (∀ (k : Nat) (B : Blk), mem[k]? = some B → M[k]? = some B) → (∀ x ∈ o.op.operands, ∀ u, E x = some u → VR ρ u (e x)) → MRel ρ M w →
    ∃ u, VR ρ v u ∧ (execOp e o).run P w = .ok (.value u) w) : NonW P o E v mem none := by
  intro M hMm ρ a w hH hM _ next Q hn
  obtain ⟨u, hu, hr⟩ := h ρ a.eval w M hMm hH hM
  unfold Oper.wp
  rw [hr]
  exact hn u w ρ hu hM (.refl _ _ _) fun k x hx => .inl hx

def Ren.put (ρ : Ren) (k : Nat) (x : Nat × Nat) : Ren := ⟨fun j => if j = k then some x else ρ j, ρ.h, ρ.d, ρ.g⟩
theorem Ren.put_m (ρ : Ren) (k : Nat) (x : Nat × Nat) (j : Nat) : (ρ.put k x) j = if j = k then some x else ρ j := rfl

theorem Ren.le_put {ρ : Ren} {k : Nat} (h : ρ k = none) (x : Nat × Nat) : ρ.le (ρ.put k x) := ⟨fun j y hy => by
  rw [Ren.put_m]
  split
  · rename_i e; subst e; rw [h] at hy; cases hy
  · exact hy, fun _ _ h => h, rfl, Ren.le.gsame rfl⟩

theorem MRel.alloc {ρ : Ren} {M : Mem} {w : World} (hM : MRel ρ M w) {k : Nat} {B : Blk} (hk : M[k]? = some B) (hn : ρ k = none) (hown : B.own = true) {cs : List Value} (hc : PW (VR1 ρ) B.cells cs) :
    MRel (ρ.put k (w.heap.size, 0)) M (w.alloc (.cells cs.toArray B.elem)) := by
  have hle := Ren.le_put hn (w.heap.size, 0)
  refine ⟨fun j b s hj => ?_, fun j b s j' b' s' B' hj hj' hB' ho hne => ?_, fun b cs' hh => ?_, ⟨fun b x hx => ?_, fun j B' hB' hl => ?_⟩⟩
  case refine_4 =>
    have hL := hM.lists.lst b x hx
    refine hL.move (by simp) (RowKit.Below.heap_alloc _ _ _ hL.lt) (fun j s hj => ?_) hL.noh LB.same
    rw [Ren.put_m] at hj
    split at hj
    · have := hL.lt; cases hj; omega
    · exact hL.nomap j s hj
  case refine_5 =>
    rw [Ren.put_m]
    split
    · rename_i e
      subst e
      rw [hk] at hB'
      cases hB'
      rw [Blk.isL_own hown] at hl
      cases hl
    · exact hM.lists.lmap j B' hB' hl
  case refine_3 =>
    obtain ⟨h1, h2, h3⟩ := hM.froz b cs' hh
    refine ⟨by simp; omega, fun i v hv => by rw [World.cell?_alloc_lt _ _ _ h1]; exact h2 i v hv, fun j s' B' hj hB' => ?_⟩
    rw [Ren.put_m] at hj
    split at hj
    · cases hj; omega
    · exact h3 j s' B' hj hB'
  · rw [Ren.put_m] at hj
    split at hj
    · rename_i e
      subst e
      cases hj
      refine ⟨B, hk, by simp, fun i v hv => ?_⟩
      obtain ⟨u, hu, hvu⟩ := hc.get hv
      refine ⟨⟨u, hvu.mono hle, ?_⟩, fun _ => by simp⟩
      rw [Nat.zero_add, World.cell?_alloc_new]
      simpa using hu
    · obtain ⟨B', hB', hlt, hcell⟩ := hM.cell j b s hj
      refine ⟨B', hB', by simp; omega, fun i v hv => ?_⟩
      obtain ⟨⟨u, hu, hw⟩, hf⟩ := hcell i v hv
      exact ⟨⟨u, hu.mono hle, by rw [World.cell?_alloc_lt _ _ _ hlt]; exact hw⟩, fun ho => by rw [World.frozen?_alloc_old _ _ _ (by simp; omega)]; exact hf ho⟩
  · rw [Ren.put_m] at hj hj'
    split at hj
    · rename_i e
      cases hj
      split at hj'
      · rename_i e'; exact absurd (e.trans e'.symm) hne
      · obtain ⟨_, _, hlt, _⟩ := hM.cell j' b' s' hj'
        omega
    · split at hj'
      · cases hj'
        obtain ⟨_, _, hlt, _⟩ := hM.cell j b s hj
        omega
      · exact hM.apart j b s j' b' s' B' hj hj' hB' ho hne

theorem Mv.alloc {ρ : Ren} {M : Mem} {w : World} {k : Nat} (hn : ρ k = none) (ob : Obj) : Mv ρ M w (ρ.put k (w.heap.size, 0)) M (w.alloc ob) := by
  refine ⟨Ren.le_put hn _, fun j x hx h0 => ?_, fun j B h => ⟨B, h, rfl⟩, rfl, rfl, rfl, by simp, fun b hb _ _ => RowKit.Below.heap_alloc _ _ _ hb, fun b cs h h' => (by rw [show (ρ.put k (w.heap.size, 0)).h b = ρ.h b from rfl, h'] at h; cases h), fun b cs h h' => by rw [show (ρ.put k (w.heap.size, 0)).g b = ρ.g b from rfl, h'] at h; cases h⟩
  rw [Ren.put_m] at hx
  split at hx
  · cases hx; exact Nat.le_refl _
  · rw [h0] at hx; cases hx

/-- It makes one block. -/
theorem NonW.of_new {B : Blk} {n : Nat} (hown : B.own = true) (h : ∀ (ρ : Ren) (e : Operand → Value), (∀ x ∈ o.op.operands, ∀ u, E x = some u → VR ρ u (e x)) →
    ∃ cs, PW (VR1 ρ) B.cells cs ∧ ∀ w, ∃ u, (execOp e o).run P w = .ok (.value u) (w.alloc (.cells cs.toArray B.elem)) ∧ ∀ ρ' : Ren, ρ' n = some (w.heap.size, 0) → ρ.le ρ' → VR ρ' v u) {mem' : Mem} (hB' : mem'[n]? = some B) :
    NonW P o E v mem' (some n) := by
  intro M hMm ρ a w hH hM hid next Q hn
  obtain ⟨cs, hcs, hr⟩ := h ρ a.eval hH
  obtain ⟨u, hru, hu⟩ := hr w
  have h0 := hid _ rfl
  have hB : M[n]? = some B := hMm _ _ hB'
  unfold Oper.wp
  rw [hru]
  refine hn u _ (ρ.put n (w.heap.size, 0)) (hu _ (by simp [Ren.put_m]) (Ren.le_put h0 _)) (hM.alloc hB h0 hown hcs) (Mv.alloc h0 _) fun k x hx => ?_
  rw [Ren.put_m] at hx
  split at hx
  · rename_i e; exact .inr (by rw [e])
  · exact .inl hx

/-- It calls a function that touches nothing that was there. -/
theorem NonW.of_quiet {f : FuncId} {args : List Value} (hv : flat v = true) (hp : PC P f args v)
    (h : ∀ (ρ : Ren) (e : Operand → Value), (∀ x ∈ o.op.operands, ∀ u, E x = some u → VR ρ u (e x)) → ∀ w, (execOp e o).run P w = .ok (.enter f args.toArray) w) : NonW P o E v mem none := by
  intro M hMm ρ a w hH hM hid next Q hn
  unfold Oper.wp
  rw [h ρ a.eval hH w, Oper.upon_enter]
  refine (hp w).mono ?_
  rintro e w' ⟨rfl, hb⟩
  exact hn v w' ρ ((VR_flat hv).2 rfl) (hM.below hb) (Mv.of_below hb) fun k x hx => .inl hx

/-! ### Operations that only compute -/

/-- The run of what asks nothing of the world. -/
def pureRun {α : Type} (P : Program) : Sem α → Option α
  | .pure a => some a
  | .program k => pureRun P (k P)
  | .mark _ k => pureRun P k
  | _ => none

theorem pureRun_run {α : Type} {s : Sem α} {a : α} (h : pureRun P s = some a) (w : World) : s.run P w = .ok a w := by
  induction s generalizing a w with
  | pure b => simp only [pureRun, Option.some.injEq] at h; subst h; rfl
  | program k ih => simp only [pureRun] at h; simp only [Sem.run]; exact ih _ h w
  | mark m k ih => simp only [pureRun] at h; simp only [Sem.run]; exact ih h w
  | _ => cases h

def flatAll (E : Operand → Option Value) (xs : List Operand) : Bool := xs.all fun x => match E x with | some v => flat v | none => false

/-- An operation on values without addresses, by the model's own words. -/
def gen (P : Program) (E : Operand → Option Value) (o : Oper) : Option (Bool × Value) :=
  if flatAll E o.op.operands.toList then
    match pureRun P (execOp (fun x => (E x).getD undef) o) with
    | some (.value v) => if flat v then some (true, v) else none
    | _ => none
  else none

theorem flatAll_spec {xs : Array Operand} (h : flatAll E xs.toList = true) {ρ : Ren} {e : Operand → Value} (hH : ∀ x ∈ xs, ∀ u, E x = some u → VR ρ u (e x)) : ∀ x ∈ xs, e x = (E x).getD undef := by
  intro x hx
  have h1 := List.all_eq_true.1 h x (by simpa using hx)
  cases hE : E x with
  | none => simp [hE] at h1
  | some u => simp only [hE] at h1; rw [(VR_flat h1).1 (hH x hx u hE)]; rfl

def Oper.noSelect (o : Oper) : Bool := match o.op with | .select .. => false | _ => true
theorem gen_sound (hs : Oper.noSelect o = true) (h : gen P E o = some (true, v)) (ρ : Ren) (e : Operand → Value) (hH : ∀ x ∈ o.op.operands, ∀ u, E x = some u → VR ρ u (e x)) :
    ∃ u, VR ρ v u ∧ ∀ w, (execOp e o).run P w = .ok (.value u) w := by
  unfold gen at h
  split at h
  · rename_i hf
    split at h
    · rename_i v' hr
      split at h
      · rename_i hv
        cases h
        refine ⟨v, (VR_flat hv).2 rfl, fun w => ?_⟩
        rw [execOp_congr o (fun cs b hh => by simp [Oper.noSelect, hh] at hs) (flatAll_spec hf hH)]
        exact pureRun_run hr w
      · cases h
    · cases h
  · cases h

/-- Floats: the bits of what is valid. -/
def floA (op : BinOp) (k : FloatKind) (a b : Nat) : Option (Bool × Value) :=
  match op with
  | .add | .sub | .mul | .quo => some ((floatBits op k a b).isSome, .float k ((floatBits op k a b).getD 0))
  | _ => none
def comA (op : BinOp) (k : FloatKind) (a b c d : Nat) : Option (Bool × Value) :=
  match op, k with
  | .add, k => some ((cSumBits .add k a b c d).isSome, .complex k ((cSumBits .add k a b c d).getD (0, 0)).1 ((cSumBits .add k a b c d).getD (0, 0)).2)
  | .sub, k => some ((cSumBits .sub k a b c d).isSome, .complex k ((cSumBits .sub k a b c d).getD (0, 0)).1 ((cSumBits .sub k a b c d).getD (0, 0)).2)
  | .mul, .f64 => some ((cMulBits a b c d).isSome, .complex .f64 ((cMulBits a b c d).getD (0, 0)).1 ((cMulBits a b c d).getD (0, 0)).2)
  | _, _ => none
theorem floA_sound {op : BinOp} {k : FloatKind} {a b : Nat} {t : TypeId} {px py : Operand} (h : floA op k a b = some (true, v)) :
    flat v = true ∧ ∀ w, (do eqGuard op t px py (.float k a) (.float k b); binOp op t (.float k a) (.float k b)).run P w = .ok v w := by
  unfold floA at h
  split at h
  all_goals first | (cases h; done) | skip
  all_goals
    simp only [Option.some.injEq, Prod.mk.injEq, Option.isSome_iff_exists] at h
    obtain ⟨⟨r, hr⟩, rfl⟩ := h
    rw [hr]
    refine ⟨rfl, fun w => ?_⟩
    rw [eqGuard_at_float]
    exact run_float_arith w _ t k a b r hr
theorem comA_sound {op : BinOp} {k : FloatKind} {a b c d : Nat} {t : TypeId} {px py : Operand} (h : comA op k a b c d = some (true, v)) :
    flat v = true ∧ ∀ w, (do eqGuard op t px py (.complex k a b) (.complex k c d); binOp op t (.complex k a b) (.complex k c d)).run P w = .ok v w := by
  unfold comA at h
  split at h
  all_goals first | (cases h; done) | skip
  all_goals
    simp only [Option.some.injEq, Prod.mk.injEq, Option.isSome_iff_exists] at h
    obtain ⟨⟨⟨re, im⟩, hr⟩, rfl⟩ := h
    rw [hr]
    refine ⟨rfl, fun w => ?_⟩
  · exact run_complex_sum w .add (.inl rfl) t _ a b c d re im hr
  · exact run_complex_sum w .sub (.inr rfl) t _ a b c d re im hr
  · exact run_complex_mul w t a b c d re im hr
/-- Arithmetic that may panic; shifts. -/
def arith (op : BinOp) (x y : Value) : Option (Bool × Value) :=
  match op, x, y with
  | .shl, .int k a, .int _ b => some (!decide (b < 0), .int k (k.wrap (a * 2 ^ (min b.toNat k.bits))))
  | .shr, .int k a, .int _ b => some (!decide (b < 0), .int k (a.fdiv (2 ^ (min b.toNat k.bits))))
  | .quo, .int k a, .int k' b => if k = k' then some (!decide (b = 0), .int k (k.wrap (a.tdiv b))) else none
  | .rem, .int k a, .int k' b => if k = k' then some (!decide (b = 0), .int k (a.tmod b)) else none
  | .add, .string a, .string b => some (decide (((a.size + b.size : Nat) : Int) ≤ 9223372036854775807), .string (a ++ b))
  | op, .float k a, .float k' b => if k = k' then floA op k a b else none
  | op, .complex k a b, .complex k' c d => if k = k' then comA op k a b c d else none
  | _, _, _ => none

theorem arith_sound {op : BinOp} {t : TypeId} {px py : Operand} {x y : Value} (h : arith op x y = some (true, v)) :
    flat x = true ∧ flat y = true ∧ flat v = true ∧ ∀ w, (do eqGuard op t px py x y; binOp op t x y).run P w = .ok v w := by
  unfold arith at h
  split at h
  · simp only [Option.some.injEq, Prod.mk.injEq, Bool.not_eq_true', decide_eq_false_iff_not] at h
    obtain ⟨h1, rfl⟩ := h
    exact ⟨rfl, rfl, rfl, fun w => by simp [eqGuard_shl, binOp_shl, Op.shift, h1]⟩
  · simp only [Option.some.injEq, Prod.mk.injEq, Bool.not_eq_true', decide_eq_false_iff_not] at h
    obtain ⟨h1, rfl⟩ := h
    exact ⟨rfl, rfl, rfl, fun w => by simp [eqGuard_shr, binOp_shr, Op.shift, h1]⟩
  · split at h
    · rename_i hk
      subst hk
      simp only [Option.some.injEq, Prod.mk.injEq, Bool.not_eq_true', decide_eq_false_iff_not] at h
      obtain ⟨h1, rfl⟩ := h
      exact ⟨rfl, rfl, rfl, fun w => by simp [eqGuard_quo, binOp_quo, Op.intDiv, h1]⟩
    · cases h
  · split at h
    · rename_i hk
      subst hk
      simp only [Option.some.injEq, Prod.mk.injEq, Bool.not_eq_true', decide_eq_false_iff_not] at h
      obtain ⟨h1, rfl⟩ := h
      exact ⟨rfl, rfl, rfl, fun w => by simp [eqGuard_rem, binOp_rem, Op.intDiv, h1]⟩
    · cases h
  · simp only [Option.some.injEq, Prod.mk.injEq, decide_eq_true_eq] at h
    obtain ⟨h1, rfl⟩ := h
    exact ⟨rfl, rfl, rfl, fun w => by
      have : ¬ (((_ : ByteArray).size + (_ : ByteArray).size : Nat) : Int) > 9223372036854775807 := Int.not_lt.2 h1
      simp only [Sem.run_bind, eqGuard_add, Sem.run_pure, Result.andThen_ok, binOp, Op.stringOp, IntKind.max_i64, if_neg this]⟩
  · split at h
    · rename_i hk
      subst hk
      obtain ⟨h1, h2⟩ := floA_sound (P := P) (t := t) (px := px) (py := py) h
      exact ⟨rfl, rfl, h1, h2⟩
    · cases h
  · split at h
    · rename_i hk
      subst hk
      obtain ⟨h1, h2⟩ := comA_sound (P := P) (t := t) (px := px) (py := py) h
      exact ⟨rfl, rfl, h1, h2⟩
    · cases h
  · cases h

/-- Equality of two arrays of integers, place by place. -/
def eqInts : List Value → List Value → Option Bool
  | [], [] => some true
  | .int k a :: xs, .int k' b :: ys => if k = k' then match eqInts xs ys with | some r => some (a == b && r) | none => none else none
  | _, _ => none

end
end Go.Ev
/-! Relative states, part C: the operations that compute on values with addresses, and equality of arrays and structs. -/
namespace Go.Ev
section
variable {P : Program} {o : Oper} {E : Operand → Option Value} {v : Value} {ρ : Ren} {e : Operand → Value}

/-! ### Equality -/
/-- Is a variable of the type a row of cells? -/
def rowD : TypeDesc → Bool
  | .struct _ | .array _ _ => true
  | _ => false
def isRow (P : Program) (t : TypeId) : Bool :=
  match P.underlying t with
  | some d => rowD d
  | none => false
theorem isRow_eq {t : TypeId} {d : TypeDesc} (h : P.underlying t = some d) : isRow P t = rowD d := by unfold isRow; rw [h]
/-- A part of a row of cells, as a value of type t. -/
def cellsVal (P : Program) (t : TypeId) (cs : List Value) : Option Value :=
  if isRow P t then some (.agg cs.toArray) else match cs with | [c] => some c | _ => none

def eqItems (P : Program) (f : TypeId → List Value → List Value → Option Bool) (e : TypeId) (xs ys : List Value) : List Nat → Option Bool
  | [] => some true
  | i :: is =>
    match f e ((xs.drop (i * P.cellsOf e)).take (P.cellsOf e)) ((ys.drop (i * P.cellsOf e)).take (P.cellsOf e)), eqItems P f e xs ys is with
    | some r, some r' => some (r && r')
    | _, _ => none
def eqFields (P : Program) (f : TypeId → List Value → List Value → Option Bool) (xs ys : List Value) : List Field → Option Bool
  | [] => some true
  | g :: fs =>
    if g.name ≠ "_" then
      match f g.type ((xs.drop g.offset).take (P.cellsOf g.type)) ((ys.drop g.offset).take (P.cellsOf g.type)), eqFields P f xs ys fs with
      | some r, some r' => some (r && r')
      | _, _ => none
    else eqFields P f xs ys fs
def eqCells (P : Program) : Nat → TypeId → List Value → List Value → Option Bool
  | 0, _, _, _ => none
  | d + 1, t, xs, ys =>
    match P.underlying t with
    | some (.int _) => match xs, ys with | [.int k a], [.int k' b] => if k = k' then some (a == b) else none | _, _ => none
    | some .bool => match xs, ys with | [.bool a], [.bool b] => some (a == b) | _, _ => none
    | some .string => match xs, ys with | [.string a], [.string b] => some (a.toList == b.toList) | _, _ => none
    | some (.array n e) => if (P.info? e).isSome then eqItems P (eqCells P d) e xs ys (List.range n) else none
    | some (.struct fs) => if P.stoodInHeld t then none else eqFields P (eqCells P d) xs ys fs.toList
    | _ => none

theorem run_isAgg {t : TypeId} {d : TypeDesc} (hd : P.underlying t = some d) (w : World) : (isAgg t).run P w = .ok (isRow P t) w := by
  unfold isAgg
  rw [Sem.run_bind, run_underlying hd, isRow_eq hd]
  cases d <;> rfl

theorem run_part_cells {t : TypeId} {d : TypeDesc} (hd : P.underlying t = some d) {cs : Array Value} {off : Nat} {v : Value} (hv : cellsVal P t ((cs.toList.drop off).take (P.cellsOf t)) = some v) (w : World) :
    (part t cs off).run P w = .ok v w := by
  obtain ⟨i, hi⟩ := info_of_underlying hd
  have hx : (cs.extract off (off + P.cellsOf t)) = ((cs.toList.drop off).take (P.cellsOf t)).toArray := by
    apply Array.toList_inj.1
    rw [Array.toList_extract]
    simp [List.extract]
  have hone : ∀ c, (cs.toList.drop off).take (P.cellsOf t) = [c] → cs[off]? = some c := by
    intro c hc
    have h0 : ((cs.toList.drop off).take (P.cellsOf t))[0]? = some c := by rw [hc]; rfl
    rw [List.getElem?_take] at h0
    split at h0
    · simpa using h0
    · cases h0
  unfold cellsVal at hv
  unfold part
  rw [Sem.run_bind, run_isAgg hd]
  simp only [Result.andThen_ok]
  split at hv
  · rename_i h
    cases hv
    simp [h, run_sizeOf w hi, hx]
  · rename_i h
    split at hv
    · rename_i c hc
      cases hv
      simp [h, hone _ hc]
    · cases hv

/-- A value in the form of its type. -/
def formed (P : Program) (t : TypeId) (v : Value) : Prop := cellsVal P t v.cells.toList = some v

theorem cellsVal_formed {t : TypeId} {cs : List Value} {v : Value} (h : cellsVal P t cs = some v) (h1 : ∀ c ∈ cs, flat1 c = true) : formed P t v ∧ flat2 v = true ∧ v.cells.toList = cs := by
  unfold formed
  unfold cellsVal at *
  split at h
  · rename_i hr; cases h; exact ⟨by rw [if_pos hr]; rfl, List.all_eq_true.2 h1, rfl⟩
  · rename_i hr
    split at h
    · cases h
      have h0 := h1 _ (List.mem_singleton.2 rfl)
      rw [(flat1_cells h0).1]
      refine ⟨by simp [hr], ?_, rfl⟩
      unfold flat2
      split
      · cases h0
      · exact h0
    · cases h

theorem cellsVal_some {t : TypeId} {d : Nat} {xs ys : List Value} {r : Bool} (h : eqCells P d t xs ys = some r) : (∃ x, cellsVal P t xs = some x) ∧ ∃ y, cellsVal P t ys = some y := by
  cases d with
  | zero => simp [eqCells] at h
  | succ d =>
    unfold eqCells at h
    unfold cellsVal
    cases hu : P.underlying t with
    | none => simp [hu] at h
    | some k =>
      rw [isRow_eq hu]
      simp only [hu] at h
      cases k <;> simp only [reduceCtorEq] at h <;> simp only [rowD] <;> first
        | exact ⟨⟨_, rfl⟩, _, rfl⟩
        | (split at h
           · exact ⟨⟨_, rfl⟩, _, rfl⟩
           · cases h)

theorem eqCells_und {t : TypeId} {d : Nat} {xs ys : List Value} {r : Bool} (h : eqCells P d t xs ys = some r) : ∃ k, P.underlying t = some k := by
  cases d with
  | zero => simp [eqCells] at h
  | succ d =>
    unfold eqCells at h
    split at h <;> first | exact ⟨_, by assumption⟩ | cases h

theorem eqCells_sound (d : Nat) : ∀ (D : Nat) (t : TypeId) (x y : Value) (r : Bool) (w : World), d ≤ D → formed P t x → formed P t y → flat2 x = true → flat2 y = true → eqCells P d t x.cells.toList y.cells.toList = some r → (Op.equalIn D t x y).run P w = .ok r w := by
  induction d with
  | zero => intro D t x y r w _ _ _ _ _ h; simp [eqCells] at h
  | succ d ih =>
    intro D t x y r w hD hx hy fx fy h
    obtain ⟨D, rfl⟩ : ∃ D', D = D' + 1 := ⟨D - 1, by omega⟩
    have items : ∀ (e : TypeId) (xs ys : Array Value), (∀ c ∈ xs.toList, flat1 c = true) → (∀ c ∈ ys.toList, flat1 c = true) → ∀ (is : List Nat) (r : Bool), eqItems P (eqCells P d) e xs.toList ys.toList is = some r → (Op.eqItems D e (P.cellsOf e) xs ys is).run P w = .ok r w := by
      intro e xs ys h1 h2 is
      induction is with
      | nil => intro r h; simp only [eqItems, Option.some.injEq] at h; subst h; rfl
      | cons i is ih2 =>
        intro r h
        unfold eqItems at h
        split at h
        · rename_i r1 r2 e1 e2
          cases h
          obtain ⟨⟨a, ha⟩, b, hb⟩ := cellsVal_some e1
          obtain ⟨k, hk⟩ := eqCells_und e1
          obtain ⟨fa, ga, ca⟩ := cellsVal_formed ha fun c hc => h1 c (List.mem_of_mem_drop (List.mem_of_mem_take hc))
          obtain ⟨fb, gb, cb⟩ := cellsVal_formed hb fun c hc => h2 c (List.mem_of_mem_drop (List.mem_of_mem_take hc))
          simp only [Op.eqItems, Sem.run_bind, run_part_cells hk ha w, run_part_cells hk hb w, Result.andThen_ok]
          rw [ih D e a b r1 w (by omega) fa fb ga gb (by rw [ca, cb]; exact e1)]
          cases r1
          · simp
          · simpa using ih2 r2 e2
        · cases h
    have fields : ∀ (xs ys : Array Value), (∀ c ∈ xs.toList, flat1 c = true) → (∀ c ∈ ys.toList, flat1 c = true) → ∀ (fs : List Field) (r : Bool), eqFields P (eqCells P d) xs.toList ys.toList fs = some r → (Op.eqFields D xs ys fs).run P w = .ok r w := by
      intro xs ys h1 h2 fs
      induction fs with
      | nil => intro r h; simp only [eqFields, Option.some.injEq] at h; subst h; rfl
      | cons f fs ih2 =>
        intro r h
        unfold eqFields at h
        unfold Op.eqFields
        split at h
        · rename_i hn
          rw [if_pos hn]
          split at h
          · rename_i r1 r2 e1 e2
            cases h
            obtain ⟨⟨a, ha⟩, b, hb⟩ := cellsVal_some e1
            obtain ⟨k, hk⟩ := eqCells_und e1
            obtain ⟨fa, ga, ca⟩ := cellsVal_formed ha fun c hc => h1 c (List.mem_of_mem_drop (List.mem_of_mem_take hc))
            obtain ⟨fb, gb, cb⟩ := cellsVal_formed hb fun c hc => h2 c (List.mem_of_mem_drop (List.mem_of_mem_take hc))
            simp only [Sem.run_bind, run_part_cells hk ha w, run_part_cells hk hb w, Result.andThen_ok]
            rw [ih D f.type a b r1 w (by omega) fa fb ga gb (by rw [ca, cb]; exact e1)]
            cases r1
            · simp
            · simpa using ih2 r2 e2
          · cases h
        · rename_i hn
          rw [if_neg hn]
          exact ih2 r h
    have aggs : isRow P t = true → ∃ xs ys : Array Value, x = .agg xs ∧ y = .agg ys := by
      intro hrow
      unfold formed cellsVal at hx hy
      rw [if_pos hrow] at hx hy
      exact ⟨_, _, (Option.some.inj hx).symm, (Option.some.inj hy).symm⟩
    have ones : isRow P t = false → ∀ {a b : Value}, x.cells.toList = [a] → y.cells.toList = [b] → x = a ∧ y = b := by
      intro hrow a b ha hb
      unfold formed cellsVal at hx hy
      simp only [hrow, Bool.false_eq_true, if_false, ha, hb, Option.some.injEq] at hx hy
      exact ⟨hx.symm, hy.symm⟩
    unfold eqCells at h
    cases hu : P.underlying t with
    | none => simp [hu] at h
    | some k =>
      have hr0 := isRow_eq hu
      simp only [hu] at h
      cases k <;> simp only [reduceCtorEq] at h
      · split at h
        · rename_i a b e1 e2; cases h
          obtain ⟨rfl, rfl⟩ := ones hr0 e1 e2
          exact run_equalIn_bool' w D t _ _ hu
        · cases h
      · split at h
        · rename_i k1 a k2 b e1 e2
          split at h
          · rename_i hk; subst hk; cases h
            obtain ⟨rfl, rfl⟩ := ones hr0 e1 e2
            exact run_equalIn_int w D t _ _ _ _ hu
          · cases h
        · cases h
      · split at h
        · rename_i a b e1 e2; cases h
          obtain ⟨rfl, rfl⟩ := ones hr0 e1 e2
          exact run_equalIn_string w D t _ _ hu
        · cases h
      · rename_i n el
        obtain ⟨xs, ys, rfl, rfl⟩ := aggs hr0
        split at h
        · rename_i hi
          obtain ⟨i, hi⟩ := Option.isSome_iff_exists.1 hi
          rw [run_equalIn_array w D xs ys hu hi]
          exact items el xs ys (List.all_eq_true.1 fx) (List.all_eq_true.1 fy) _ _ h
        · cases h
      · rename_i fs
        obtain ⟨xs, ys, rfl, rfl⟩ := aggs hr0
        split at h
        · cases h
        · rename_i hst
          have hf : P.fieldsOf t = fs := by unfold Program.fieldsOf; rw [hu]
          rw [run_equalIn_struct w D t xs ys (by rw [hf]; exact hu) (by simpa using hst), hf]
          exact fields xs ys (List.all_eq_true.1 fx) (List.all_eq_true.1 fy) _ _ h

/-- '==' and '!=' of two values without addresses. -/
def eqAgg (P : Program) (op : BinOp) (t : TypeId) (x y : Value) : Option (Bool × Value) :=
  match x, y with
  | .agg xs, .agg ys =>
    if isRow P t && xs.toList.all flat1 && ys.toList.all flat1 && !P.eqGuardType P.depth t then
      match op, eqCells P 10 t xs.toList ys.toList with
      | .eql, some r => some (true, .bool r)
      | .neq, some r => some (true, .bool (!r))
      | _, _ => none
    else none
  | _, _ => none

theorem eqAgg_sound {op : BinOp} {t : TypeId} {px py : Operand} {x y : Value} (h : eqAgg P op t x y = some (true, v)) :
    flat x = true ∧ flat y = true ∧ flat v = true ∧ ∀ w, (do eqGuard op t px py x y; binOp op t x y).run P w = .ok v w := by
  unfold eqAgg at h
  split at h
  · rename_i xs ys
    split at h
    · rename_i hc
      simp only [Bool.and_eq_true, Bool.not_eq_true'] at hc
      obtain ⟨⟨⟨hr, fx⟩, fy⟩, hg⟩ := hc
      have hfx : formed P t (.agg xs) := by unfold formed cellsVal; rw [if_pos hr]; rfl
      have hfy : formed P t (.agg ys) := by unfold formed cellsVal; rw [if_pos hr]; rfl
      split at h
      · rename_i r he
        cases h
        refine ⟨fx, fy, rfl, fun w => ?_⟩
        rw [Sem.run_bind, run_eqGuard_agg w .eql t px py xs ys hg, Result.andThen_ok, run_eql_struct, eqCells_sound 10 10000 t _ _ r w (by omega) hfx hfy fx fy he]
        rfl
      · rename_i r he
        cases h
        refine ⟨fx, fy, rfl, fun w => ?_⟩
        rw [Sem.run_bind, run_eqGuard_agg w .neq t px py xs ys hg, Result.andThen_ok, run_neq_struct, eqCells_sound 10 10000 t _ _ r w (by omega) hfx hfy fx fy he]
        rfl
      · cases h
    · cases h
  · cases h
end
end Go.Ev
/-! Relative states, part D: the operations that compute, on values with addresses. -/
namespace Go.Ev
section
variable {P : Program} {o : Oper} {E : Operand → Option Value} {v : Value} {ρ : Ren} {e : Operand → Value}

theorem VR_ptr {k off : Nat} {u : Value} : VR ρ (.pointer (some ⟨k, off, none⟩)) u ↔ ∃ b s, ρ k = some (b, s) ∧ u = .pointer (some ⟨b, s + off, none⟩) := by
  rw [VR_of2 (by simp), VR2_of1 (by simp), VR1_ptr]
  simp only [rA]
  cases ρ k with
  | none => simp
  | some x =>
    obtain ⟨x, y⟩ := x
    simp only [Option.some.injEq, Prod.mk.injEq]
    exact ⟨fun ⟨a', h1, h2⟩ => ⟨x, y, ⟨rfl, rfl⟩, by rw [h2, ← h1]⟩, fun ⟨b, s, ⟨h1, h2⟩, h3⟩ => ⟨_, rfl, by rw [h3, h1, h2]⟩⟩
theorem VR1_ptr' {k off : Nat} {u : Value} : VR1 ρ (.pointer (some ⟨k, off, none⟩)) u ↔ ∃ b s, ρ k = some (b, s) ∧ u = .pointer (some ⟨b, s + off, none⟩) := by
  rw [← VR2_of1 (by simp), ← VR_of2 (by simp), VR_ptr]
theorem VR_slice {k off l c : Nat} {u : Value} : VR ρ (.slice (some ⟨k, off, none⟩) l c) u ↔ ∃ b s, ρ k = some (b, s) ∧ u = .slice (some ⟨b, s + off, none⟩) l c := by
  rw [VR_of2 (by simp), VR2_of1 (by simp), VR1_slice]
  simp only [rA]
  cases ρ k with
  | none => simp
  | some x =>
    obtain ⟨x, y⟩ := x
    simp only [Option.some.injEq, Prod.mk.injEq]
    exact ⟨fun ⟨a', h1, h2⟩ => ⟨x, y, ⟨rfl, rfl⟩, by rw [h2, ← h1]⟩, fun ⟨b, s, ⟨h1, h2⟩, h3⟩ => ⟨_, rfl, by rw [h3, h1, h2]⟩⟩

def fieldAddrOp (P : Program) (s : TypeId) (x : Value) (f : Nat) : Option (Bool × Value) :=
  match P.underlying s, x with
  | some (.struct fs), .pointer (some ⟨k, off, none⟩) =>
    match fs[f]? with
    | some fl => if (P.info? fl.type).isSome && P.cellsOf fl.type != 0 then some (true, .pointer (some ⟨k, off + fl.offset, none⟩)) else none
    | none => none
  | some (.struct fs), .iface off (.iface 1 (.tuple cs)) =>
    match fs[f]? with
    | some fl => if (P.info? fl.type).isSome && P.cellsOf fl.type != 0 then some (true, celTok (off + fl.offset) cs) else none
    | none => none
  | some (.struct fs), .iface k (.iface (off + 2) (.chan (some m))) =>
    match fs[f]? with
    | some fl => if (P.info? fl.type).isSome && P.cellsOf fl.type != 0 then some (true, lelTok k (off + fl.offset) m) else none
    | none => none
  | _, _ => none
theorem VR_lel {k off m : Nat} {u : Value} : VR ρ (.iface k (.iface (off + 2) (.chan (some m)))) u ↔ lelR ρ k off m u := by
  rw [VR_of2 (by simp), VR2_of1 (by simp), VR1_tok rfl]
  rfl
theorem VR_row {l : Nat} {cs : Array Value} {u : Value} : VR ρ (.iface l (.iface 0 (.tuple cs))) u ↔ rowR ρ l cs.toList u := by
  rw [VR_of2 (by simp), VR2_of1 (by simp), VR1_tok rfl]
  rfl
theorem VR_cel {off : Nat} {cs : Array Value} {u : Value} : VR ρ (.iface off (.iface 1 (.tuple cs))) u ↔ celR ρ off cs.toList u := by
  rw [VR_of2 (by simp), VR2_of1 (by simp), VR1_tok rfl]
  rfl
theorem fieldAddrOp_sound {s : TypeId} {x u : Value} {f : Nat} (h : fieldAddrOp P s x f = some (true, v)) (hx : VR ρ x u) : ∃ r, VR ρ v r ∧ ∀ w, (Instr.fieldAt s u f).run P w = .ok r w := by
  unfold fieldAddrOp at h
  split at h
  · rename_i fs k off hs
    split at h
    · rename_i fl hfl
      split at h
      · rename_i hc
        cases h
        simp only [Bool.and_eq_true, bne_iff_ne, ne_eq] at hc
        obtain ⟨i, hi⟩ := Option.isSome_iff_exists.1 hc.1
        obtain ⟨b, s', hρ, rfl⟩ := VR_ptr.1 hx
        refine ⟨_, VR_ptr.2 ⟨b, s', hρ, rfl⟩, fun w => ?_⟩
        simp [Instr.fieldAt, run_underlying hs, hfl, Instr.sureAddr, fieldPlace, run_sizeOf w hi, hc.2, Addr.add_lit, Nat.add_assoc]
      · cases h
    · cases h
  · rename_i fs off cs hs
    split at h
    · rename_i fl hfl
      split at h
      · rename_i hc
        cases h
        simp only [Bool.and_eq_true, bne_iff_ne, ne_eq] at hc
        obtain ⟨i, hi⟩ := Option.isSome_iff_exists.1 hc.1
        obtain ⟨hp, b, s', rfl, hcs⟩ := VR_cel.1 hx
        refine ⟨_, VR_cel.2 ⟨hp, b, s', rfl, hcs⟩, fun w => ?_⟩
        simp [Instr.fieldAt, run_underlying hs, hfl, Instr.sureAddr, fieldPlace, run_sizeOf w hi, hc.2, Addr.add_lit, Nat.add_assoc]
      · cases h
    · cases h
  · rename_i fs k off m hs
    split at h
    · rename_i fl hfl
      split at h
      · rename_i hc
        cases h
        simp only [Bool.and_eq_true, bne_iff_ne, ne_eq] at hc
        obtain ⟨i, hi⟩ := Option.isSome_iff_exists.1 hc.1
        obtain ⟨b, x, rfl, hg, hk, hm⟩ := VR_lel.1 hx
        refine ⟨_, VR_lel.2 ⟨b, x, rfl, hg, hk, hm⟩, fun w => ?_⟩
        simp [Instr.fieldAt, run_underlying hs, hfl, Instr.sureAddr, fieldPlace, run_sizeOf w hi, hc.2, Addr.add_lit]
      · cases h
    · cases h
  · cases h

def indexAddrOp (P : Program) (t : TypeId) (x ix : Value) : Option (Bool × Value) :=
  match P.underlying t, x, ix with
  | some (.array len el), .pointer (some ⟨k, off, none⟩), .int _ i =>
    if (P.info? el).isSome then some (decide (0 ≤ i) && decide (i < (len : Int)), .pointer (some ⟨k, off + i.toNat * P.cellsOf el, none⟩)) else none
  | some (.slice el), .slice (some ⟨k, off, none⟩) len _, .int _ i =>
    if (P.info? el).isSome then some (decide (0 ≤ i) && decide (i < (len : Int)), .pointer (some ⟨k, off + i.toNat * P.cellsOf el, none⟩)) else none
  | some (.slice el), .iface N (.chan (some len)), .int _ i =>
    match P.info? el with
    | some inf => if inf.size = 1 then some (decide (0 ≤ i) && decide (i < (len : Int)), wordTok N i.toNat) else none
    | none => none
  | some (.slice el), .iface len (.iface 0 (.tuple cs)), .int _ i =>
    if (P.info? el).isSome then some (decide (0 ≤ i) && decide (i < (len : Int)), celTok (i.toNat * P.cellsOf el) cs) else none
  | some (.slice el), .iface k (.slice none len (z + 1)), .int _ i =>
    if (P.info? el).isSome && Nat.beq (P.cellsOf el) (z + 1) then some (decide (0 ≤ i) && decide (i < (len : Int)), lelTok k (i.toNat * P.cellsOf el) (len * (z + 1))) else none
  | _, _, _ => none
/-- What a slice that stands for words is. -/
theorem VR_lst {k l z : Nat} {u : Value} : VR ρ (.iface k (.slice none l (z + 1))) u ↔ lstR ρ k l z u := by
  rw [VR_of2 (by simp), VR2_of1 (by simp)]
  exact VR1_tok rfl
theorem VR_sliceTok {N l : Nat} {u : Value} : VR ρ (.iface N (.chan (some l))) u ↔ ∃ a c, u = .slice a l c ∧ l ≤ c ∧ (l = 0 ∨ ∃ b off cs, a = some ⟨b, off, none⟩ ∧ ρ.h b = some cs ∧ ∀ i, i < l → cs[off + i]? = some (word32 N i)) := by
  rw [VR_of2 (by simp), VR2_of1 (by simp), VR1_tok rfl]
  rfl
theorem VR_wordTok {N i : Nat} {u : Value} : VR ρ (.iface N (.map (some i))) u ↔ ∃ b off cs, u = .pointer (some ⟨b, off, none⟩) ∧ ρ.h b = some cs ∧ cs[off]? = some (word32 N i) := by
  rw [VR_of2 (by simp), VR2_of1 (by simp), VR1_tok rfl]
  rfl
theorem indexAddrOp_sound {t : TypeId} {x u ix uix : Value} (h : indexAddrOp P t x ix = some (true, v)) (hx : VR ρ x u) (hix : VR ρ ix uix) :
    ∃ r, VR ρ v r ∧ ∀ w, (Instr.indexAt t u uix).run P w = .ok r w := by
  unfold indexAddrOp at h
  split at h
  · rename_i len el k off kk i ht
    split at h
    · rename_i hc
      obtain ⟨inf, hi⟩ := Option.isSome_iff_exists.1 hc
      simp only [Option.some.injEq, Prod.mk.injEq, Bool.and_eq_true, decide_eq_true_eq] at h
      obtain ⟨⟨h0, h1⟩, rfl⟩ := h
      obtain ⟨b, s', hρ, rfl⟩ := VR_ptr.1 hx
      rw [VR_flat rfl] at hix
      subst hix
      refine ⟨_, VR_ptr.2 ⟨b, s', hρ, rfl⟩, fun w => ?_⟩
      simp [Instr.indexAt, asIntOf, run_underlying ht, Instr.sureAddr, h0, h1, run_sizeOf w hi, Addr.add_lit, Nat.add_assoc]
    · cases h
  · rename_i el k off len cap kk i ht
    split at h
    · rename_i hc
      obtain ⟨inf, hi⟩ := Option.isSome_iff_exists.1 hc
      simp only [Option.some.injEq, Prod.mk.injEq, Bool.and_eq_true, decide_eq_true_eq] at h
      obtain ⟨⟨h0, h1⟩, rfl⟩ := h
      obtain ⟨b, s', hρ, rfl⟩ := VR_slice.1 hx
      rw [VR_flat rfl] at hix
      subst hix
      refine ⟨_, VR_ptr.2 ⟨b, s', hρ, rfl⟩, fun w => ?_⟩
      simp [Instr.indexAt, asIntOf, run_underlying ht, h0, h1, run_sizeOf w hi, Addr.add_lit, Nat.add_assoc]
    · cases h
  · rename_i el N len kk i ht
    split at h
    · rename_i inf hi
      split at h
      · rename_i hsz
        simp only [Option.some.injEq, Prod.mk.injEq, Bool.and_eq_true, decide_eq_true_eq] at h
        obtain ⟨⟨h0, h1⟩, rfl⟩ := h
        obtain ⟨a, c, rfl, hlc, hor⟩ := VR_sliceTok.1 hx
        rw [VR_flat rfl] at hix
        subst hix
        rcases hor with h00 | ⟨b, off, cs, rfl, hb, hcs⟩
        · exact absurd h1 (by omega)
        · refine ⟨.pointer (some ⟨b, off + i.toNat, none⟩), VR_wordTok.2 ⟨b, off + i.toNat, cs, rfl, hb, hcs i.toNat (by omega)⟩, fun w => ?_⟩
          have hc1 : P.cellsOf el = 1 := by simp [Program.cellsOf, hi, hsz]
          simp [Instr.indexAt, asIntOf, run_underlying ht, h0, h1, run_sizeOf w hi, Addr.add_lit, hc1]
      · cases h
    · cases h
  · rename_i el len cs kk i ht
    split at h
    · rename_i hc
      obtain ⟨inf, hi⟩ := Option.isSome_iff_exists.1 hc
      simp only [Option.some.injEq, Prod.mk.injEq, Bool.and_eq_true, decide_eq_true_eq] at h
      obtain ⟨⟨h0, h1⟩, rfl⟩ := h
      obtain ⟨hp, a, c, rfl, hlc, hor⟩ := VR_row.1 hx
      rw [VR_flat rfl] at hix
      subst hix
      rcases hor with h00 | ⟨b, s, rfl, hcs⟩
      · exact absurd h1 (by omega)
      · refine ⟨_, VR_cel.2 ⟨hp, b, s, rfl, hcs⟩, fun w => ?_⟩
        simp [Instr.indexAt, asIntOf, run_underlying ht, h0, h1, run_sizeOf w hi, Addr.add_lit]
    · cases h
  · rename_i el k len z kk i ht
    split at h
    · rename_i hc
      rw [Bool.and_eq_true] at hc
      obtain ⟨inf, hi⟩ := Option.isSome_iff_exists.1 hc.1
      have hsz := Nat.eq_of_beq_eq_true hc.2
      simp only [Option.some.injEq, Prod.mk.injEq, Bool.and_eq_true, decide_eq_true_eq] at h
      obtain ⟨⟨h0, h1⟩, rfl⟩ := h
      obtain ⟨a, c, rfl, hlc, hor⟩ := VR_lst.1 hx
      rw [VR_flat rfl] at hix
      subst hix
      rcases hor with ⟨rfl, rfl⟩ | ⟨b, x, rfl, hg, hk, _, _, hlen⟩
      · exact absurd h1 (by omega)
      · refine ⟨_, VR_lel.2 ⟨b, x, rfl, hg, hk, hlen⟩, fun w => ?_⟩
        simp [Instr.indexAt, asIntOf, run_underlying ht, h0, h1, run_sizeOf w hi, Addr.add_lit]
    · cases h
  · cases h

/-- A part of the cells, as 'part' gives it. -/
def partOp (P : Program) (t : TypeId) (cs : List Value) (off : Nat) : Option (Bool × Value) :=
  if isRow P t then some (true, .agg ((cs.drop off).take (P.cellsOf t)).toArray)
  else if (P.underlying t).isSome then some (decide (off < cs.length), cs.getD off undef) else none
theorem partOp_sound {t : TypeId} {cs us : Array Value} {off : Nat} (h : partOp P t cs.toList off = some (true, v)) (hc : PW (VR1 ρ) cs.toList us.toList) :
    ∃ r, VR2 ρ v r ∧ ∀ w, (part t us off).run P w = .ok r w := by
  unfold partOp at h
  split at h
  · rename_i hr
    cases h
    obtain ⟨d, hd⟩ : ∃ d, P.underlying t = some d := by unfold isRow at hr; split at hr; exact ⟨_, by assumption⟩; cases hr
    refine ⟨.agg ((us.toList.drop off).take (P.cellsOf t)).toArray, VR2_agg.2 ⟨_, rfl, by simpa using (hc.drop off).take _⟩, fun w => ?_⟩
    exact run_part_cells hd (by unfold cellsVal; rw [if_pos hr]) w
  · rename_i hr
    split at h
    · rename_i hs
      obtain ⟨d, hd⟩ := Option.isSome_iff_exists.1 hs
      simp only [Option.some.injEq, Prod.mk.injEq, decide_eq_true_eq] at h
      obtain ⟨hlt, rfl⟩ := h
      have hg : cs.toList[off]? = some (cs.toList.getD off undef) := by rw [List.getD_eq_getElem?_getD, List.getElem?_eq_getElem hlt]; rfl
      obtain ⟨u, hu, hR⟩ := hc.get hg
      refine ⟨u, hR.toVR2, fun w => ?_⟩
      have hu' : us[off]? = some u := by simpa using hu
      unfold part
      rw [Sem.run_bind, run_isAgg hd]
      simp [hr, hu']
    · cases h

def indexOp (P : Program) (t : TypeId) (x ix : Value) : Option (Bool × Value) :=
  match P.underlying t, x, ix with
  | some (.array len el), .agg cs, .int _ i =>
    if (P.info? el).isSome then
      match partOp P el cs.toList (i.toNat * P.cellsOf el) with
      | some (c, v) => some (decide (0 ≤ i) && decide (i < (len : Int)) && c, v)
      | none => none
    else none
  | some .string, .string s, .int _ i => some (decide (0 ≤ i) && decide (i.toNat < s.size), .int .u8 (s.data.getD i.toNat 0).toNat)
  | _, _, _ => none
theorem indexOp_sound {t : TypeId} {x u ix uix : Value} (h : indexOp P t x ix = some (true, v)) (hx : VR ρ x u) (hix : VR ρ ix uix) :
    ∃ r, VR ρ v r ∧ ∀ w, (Instr.index t u uix).run P w = .ok r w := by
  unfold indexOp at h
  split at h
  · rename_i len el cs kk i ht
    split at h
    · rename_i hc
      obtain ⟨inf, hi⟩ := Option.isSome_iff_exists.1 hc
      split at h
      · rename_i c v' hp
        simp only [Option.some.injEq, Prod.mk.injEq, Bool.and_eq_true, decide_eq_true_eq] at h
        obtain ⟨⟨⟨h0, h1⟩, rfl⟩, rfl⟩ := h
        obtain ⟨us, rfl, hcs⟩ := VR2_agg.1 ((VR_of2 (by simp)).1 hx)
        rw [VR_flat rfl] at hix
        subst hix
        obtain ⟨r, hr, hrun⟩ := partOp_sound hp hcs
        refine ⟨r, hr.toVR, fun w => ?_⟩
        simp [Instr.index, asIntOf, run_underlying ht, h0, h1, run_sizeOf w hi, hrun w]
      · cases h
    · cases h
  · rename_i s kk i ht
    simp only [Option.some.injEq, Prod.mk.injEq, Bool.and_eq_true, decide_eq_true_eq] at h
    obtain ⟨⟨h0, h1⟩, rfl⟩ := h
    rw [VR_flat rfl] at hix hx
    subst hix; subst hx
    refine ⟨_, (VR_flat rfl).2 rfl, fun w => ?_⟩
    have hs : s[i.toNat]? = some (s.data.getD i.toNat 0) := by
      rw [getElem?_pos s i.toNat h1, Array.getD_eq_getD_getElem?]
      have h1' : i.toNat < s.data.size := h1
      rw [Array.getElem?_eq_getElem h1']
      rfl
    simp [Instr.index, asIntOf, run_underlying ht, h0, hs]
  · cases h

def fieldOp (P : Program) (t : TypeId) (x : Value) (f : Nat) : Option (Bool × Value) :=
  match P.underlying t, x with
  | some (.struct fs), .agg cs => match fs[f]? with | some fl => partOp P fl.type cs.toList fl.offset | none => none
  | _, _ => none
theorem fieldOp_sound {t : TypeId} {x u : Value} {f : Nat} (h : fieldOp P t x f = some (true, v)) (hx : VR ρ x u) :
    ∃ r, VR ρ v r ∧ ∀ w, (Instr.field t u f).run P w = .ok r w := by
  unfold fieldOp at h
  split at h
  · rename_i fs cs ht
    split at h
    · rename_i fl hfl
      obtain ⟨us, rfl, hcs⟩ := VR2_agg.1 ((VR_of2 (by simp)).1 hx)
      obtain ⟨r, hr, hrun⟩ := partOp_sound h hcs
      exact ⟨r, hr.toVR, fun w => by simp [Instr.field, run_underlying ht, hfl, asAgg, hrun w]⟩
    · cases h
  · cases h

def extractOp (x : Value) (i : Nat) : Option (Bool × Value) :=
  match x with
  | .tuple vs => match isWild vs.toList with
    | true => none
    | false => match vs.toList[i]? with | some v => some (true, v) | none => none
  | _ => none
theorem extractOp_sound {x u : Value} {i : Nat} (h : extractOp x i = some (true, v)) (hx : VR ρ x u) : ∃ r, VR ρ v r ∧ ∀ w, (Instr.extract u i).run P w = .ok r w := by
  unfold extractOp at h
  split at h
  · split at h
    · cases h
    · rename_i hw
      split at h
      · rename_i v' hv
        cases h
        obtain ⟨us, rfl, hcs⟩ := (VR_tuple hw).1 hx
        obtain ⟨r, hr, hR⟩ := hcs.get hv
        have hr' : us[i]? = some r := by simpa using hr
        exact ⟨r, hR.toVR, fun w => by simp [Instr.extract, hr']⟩
      · cases h
  · cases h

/-- The bounds of a slice expression: from an operand, or what stands for none. -/
def boundOp (E : Operand → Option Value) (x : Option Operand) (none_ most : Nat) : Option (Bool × Nat) :=
  match x with
  | none => some (true, none_)
  | some x => match E x with | some (.int _ i) => some (decide (0 ≤ i) && decide (i ≤ (most : Int)), i.toNat) | _ => none

def sliceOp (P : Program) (E : Operand → Option Value) (t : TypeId) (x : Value) (lo hi : Option Operand) : Option (Bool × Value) :=
  match P.underlying t, x with
  | some (.array n el), .pointer (some ⟨k, off, none⟩) =>
    if (P.info? el).isSome then
      match boundOp E hi n n with
      | some (ch, h) => match boundOp E lo 0 h with
        | some (cl, l) => some (ch && cl, .slice (some ⟨k, off + (if n = l then 0 else l * P.cellsOf el), none⟩) (h - l) (n - l))
        | none => none
      | none => none
    else none
  | some (.slice el), .slice (some ⟨k, off, none⟩) len cap =>
    if (P.info? el).isSome then
      match boundOp E hi len cap with
      | some (ch, h) => match boundOp E lo 0 h with
        | some (cl, l) => some (ch && cl, .slice (some ⟨k, off + (if cap = l then 0 else l * P.cellsOf el), none⟩) (h - l) (cap - l))
        | none => none
      | none => none
    else none
  | some (.slice el), .slice none len cap =>
    if (P.info? el).isSome then
      match boundOp E hi len cap with
      | some (ch, h) => match boundOp E lo 0 h with
        | some (cl, l) => some (ch && cl, .slice none (h - l) (cap - l))
        | none => none
      | none => none
    else none
  | some .string, .string s =>
    match boundOp E hi s.size s.size with
    | some (ch, h) => match boundOp E lo 0 h with
      | some (cl, l) => some (ch && cl, .string (s.extract l h))
      | none => none
    | none => none
  | some (.slice el), .iface N (.chan (some len)) =>
    match P.info? el with
    | some inf => if (decide (inf.size = 1) || Nat.beq len 0) = true then
        match boundOp E hi len len with
        | some (ch, h) => match boundOp E lo 0 h with
          | some (cl, l) => some (ch && cl, sliceTok (N / 2 ^ (32 * l)) (h - l))
          | none => none
        | none => none
      else none
    | none => none
  | some (.slice el), .iface len (.iface 0 (.tuple cs)) =>
    match P.info? el, lo with
    | some _, none => match boundOp E hi len len with
      | some (ch, h) => some (ch, .iface h (.iface 0 (.tuple cs)))
      | none => none
    | _, _ => none
  | _, _ => none
theorem boundOp_cap {x : Option Operand} {n m m' y : Nat} (h : boundOp E x n m = some (true, y)) (hm : m ≤ m') (hn : n ≤ m) : boundOp E x n m' = some (true, y) ∧ y ≤ m := by
  unfold boundOp at *
  split at h
  · simp only [Option.some.injEq, Prod.mk.injEq, true_and] at h; subst h; exact ⟨rfl, hn⟩
  · split at h
    · simp only [Option.some.injEq, Prod.mk.injEq, Bool.and_eq_true, decide_eq_true_eq] at h
      obtain ⟨⟨h0, h1⟩, rfl⟩ := h
      simp only [Option.some.injEq, Prod.mk.injEq, Bool.and_eq_true, decide_eq_true_eq, and_true]
      omega
    · cases h
theorem word32_shift (N l i : Nat) : word32 (N / 2 ^ (32 * l)) i = word32 N (l + i) := by
  unfold word32
  rw [Nat.div_div_eq_div_mul, ← Nat.pow_add, ← Nat.mul_add]

theorem boundOp_sound {x : Option Operand} {n m y : Nat} {c : Bool} (hc : c = true) (h : boundOp E x n m = some (c, y)) (hH : ∀ z, x = some z → ∀ u, E z = some u → VR ρ u (e z)) (code : BoundsCode) (w : World) :
    (match x.map e with | some v => Instr.sliceBound v m code | none => pure n : Sem Nat).run P w = .ok y w := by
  subst hc
  unfold boundOp at h
  split at h
  · cases h; rfl
  · rename_i z
    split at h
    · rename_i k i hz
      simp only [Option.some.injEq, Prod.mk.injEq, Bool.and_eq_true, decide_eq_true_eq] at h
      obtain ⟨⟨h0, h1⟩, rfl⟩ := h
      have := (VR_flat rfl).1 (hH z rfl _ hz)
      simp [this, Instr.sliceBound, asIntOf, h0, h1]
    · cases h

theorem run_sliceBounds {lo hi : Option Operand} {len cap h l : Nat} {ch cl : Bool} (hch : ch = true) (hcl : cl = true) (h1 : boundOp E hi len cap = some (ch, h)) (h2 : boundOp E lo 0 h = some (cl, l))
    (hlo : ∀ z, lo = some z → ∀ u, E z = some u → VR ρ u (e z)) (hhi : ∀ z, hi = some z → ∀ u, E z = some u → VR ρ u (e z)) (is : Bool) (w : World) :
    (Instr.sliceBounds is len cap (lo.map e) (hi.map e) none).run P w = .ok (l, h, cap) w := by
  have b1 := boundOp_sound (P := P) (ρ := ρ) (e := e) hch h1 hhi (if is then .sliceAcap else .sliceAlen) w
  have b2 := boundOp_sound (P := P) (ρ := ρ) (e := e) hcl h2 hlo .sliceB w
  unfold Instr.sliceBounds
  cases hi with
  | none =>
    simp only [Option.map_none, Sem.run_pure, Result.ok.injEq, and_true] at b1
    subst b1
    cases lo with
    | none => simp only [Option.map_none, Sem.run_pure, Result.ok.injEq, and_true] at b2; subst b2; simp
    | some z => simp only [Option.map_some] at b2; simp [b2]
  | some y =>
    simp only [Option.map_some] at b1
    cases lo with
    | none => simp only [Option.map_none, Sem.run_pure, Result.ok.injEq, and_true] at b2; subst b2; simp [b1]
    | some z => simp only [Option.map_some] at b2; simp [b1, b2]

theorem add_if (b s off l n c : Nat) : (if c = l then (⟨b, s + off, none⟩ : Addr) else Addr.add ⟨b, s + off, none⟩ n) = ⟨b, s + (off + (if c = l then 0 else n)), none⟩ := by
  split
  · rfl
  · rw [Addr.add_lit, Nat.add_assoc]

theorem sliceOp_sound {t : TypeId} {x u : Value} {lo hi : Option Operand} (h : sliceOp P E t x lo hi = some (true, v)) (hx : VR ρ x u)
    (hlo : ∀ z, lo = some z → ∀ u, E z = some u → VR ρ u (e z)) (hhi : ∀ z, hi = some z → ∀ u, E z = some u → VR ρ u (e z)) :
    ∃ r, VR ρ v r ∧ ∀ w, (Instr.sliceAt t u (lo.map e) (hi.map e) none).run P w = .ok r w := by
  unfold sliceOp at h
  split at h
  · rename_i n el k off ht
    split at h
    · rename_i hc
      obtain ⟨inf, hi'⟩ := Option.isSome_iff_exists.1 hc
      split at h
      · rename_i ch hh e1
        split at h
        · rename_i cl l e2
          simp only [Option.some.injEq, Prod.mk.injEq, Bool.and_eq_true] at h
          obtain ⟨⟨hch, hcl⟩, rfl⟩ := h
          obtain ⟨b, s', hρ, rfl⟩ := VR_ptr.1 hx
          refine ⟨_, VR_slice.2 ⟨b, s', hρ, rfl⟩, fun w => ?_⟩
          simp only [Instr.sliceAt, Sem.run_bind, run_underlying ht, Result.andThen_ok, Instr.sureAddr, Sem.run_pure, run_sliceBounds hch hcl e1 e2 hlo hhi, run_sizeOf w hi', add_if]
        · cases h
      · cases h
    · cases h
  · rename_i el k off len cap ht
    split at h
    · rename_i hc
      obtain ⟨inf, hi'⟩ := Option.isSome_iff_exists.1 hc
      split at h
      · rename_i ch hh e1
        split at h
        · rename_i cl l e2
          simp only [Option.some.injEq, Prod.mk.injEq, Bool.and_eq_true] at h
          obtain ⟨⟨hch, hcl⟩, rfl⟩ := h
          obtain ⟨b, s', hρ, rfl⟩ := VR_slice.1 hx
          refine ⟨_, VR_slice.2 ⟨b, s', hρ, rfl⟩, fun w => ?_⟩
          simp only [Instr.sliceAt, Instr.slice, Sem.run_bind, run_underlying ht, Result.andThen_ok, Sem.run_pure, run_sliceBounds hch hcl e1 e2 hlo hhi, run_sizeOf w hi', ← add_if]
          congr 3
          split <;> rfl
        · cases h
      · cases h
    · cases h
  · rename_i el len cap ht
    split at h
    · rename_i hc
      obtain ⟨inf, hi'⟩ := Option.isSome_iff_exists.1 hc
      split at h
      · rename_i ch hh e1
        split at h
        · rename_i cl l e2
          simp only [Option.some.injEq, Prod.mk.injEq, Bool.and_eq_true] at h
          obtain ⟨⟨hch, hcl⟩, rfl⟩ := h
          rw [VR_flat rfl] at hx
          subst hx
          refine ⟨_, (VR_flat rfl).2 rfl, fun w => ?_⟩
          simp only [Instr.sliceAt, Instr.slice, Sem.run_bind, run_underlying ht, Result.andThen_ok, Sem.run_pure, run_sliceBounds hch hcl e1 e2 hlo hhi, run_sizeOf w hi', Option.map_none]
          congr 2
          split <;> rfl
        · cases h
      · cases h
    · cases h
  · rename_i s ht
    split at h
    · rename_i ch hh e1
      split at h
      · rename_i cl l e2
        simp only [Option.some.injEq, Prod.mk.injEq, Bool.and_eq_true] at h
        obtain ⟨⟨hch, hcl⟩, rfl⟩ := h
        rw [VR_flat rfl] at hx
        subst hx
        refine ⟨_, (VR_flat rfl).2 rfl, fun w => ?_⟩
        simp [Instr.sliceAt, Instr.slice, run_underlying ht, run_sliceBounds hch hcl e1 e2 hlo hhi]
      · cases h
    · cases h
  · rename_i el N len ht
    split at h
    · rename_i inf hi'
      split at h
      · rename_i hsz
        split at h
        · rename_i ch hh e1
          split at h
          · rename_i cl l e2
            simp only [Option.some.injEq, Prod.mk.injEq, Bool.and_eq_true] at h
            obtain ⟨⟨hch, hcl⟩, rfl⟩ := h
            subst hch hcl
            obtain ⟨a, c, rfl, hlc, hor⟩ := VR_sliceTok.1 hx
            obtain ⟨e1', hle⟩ := boundOp_cap e1 hlc (Nat.le_refl _)
            have e1n : boundOp E hi len c = some (true, hh) := e1'
            obtain ⟨_, hle2⟩ := boundOp_cap e2 (Nat.le_refl hh) (Nat.zero_le _)
            rcases hor with h00 | ⟨b, off, cs, rfl, hb, hcs⟩
            · cases a with
              | none =>
                refine ⟨.slice none (hh - l) (c - l), VR_sliceTok.2 ⟨none, c - l, rfl, by omega, .inl (by omega)⟩, fun w => ?_⟩
                simp only [Instr.sliceAt, Instr.slice, Sem.run_bind, run_underlying ht, Result.andThen_ok, Sem.run_pure, run_sliceBounds rfl rfl e1n e2 hlo hhi, run_sizeOf w hi', Option.map_none]
                congr 2
                split <;> rfl
              | some a =>
                refine ⟨.slice (some (if c = l then a else a.add (l * P.cellsOf el))) (hh - l) (c - l), VR_sliceTok.2 ⟨_, c - l, rfl, by omega, .inl (by omega)⟩, fun w => ?_⟩
                simp only [Instr.sliceAt, Instr.slice, Sem.run_bind, run_underlying ht, Result.andThen_ok, Sem.run_pure, run_sliceBounds rfl rfl e1n e2 hlo hhi, run_sizeOf w hi']
                congr 3
                split <;> rfl
            · refine ⟨.slice (some ⟨b, off + (if c = l then 0 else l * P.cellsOf el), none⟩) (hh - l) (c - l), VR_sliceTok.2 ⟨_, c - l, rfl, by omega, .inr ⟨b, _, cs, rfl, hb, fun i hi => ?_⟩⟩, fun w => ?_⟩
              · have hsz1 : inf.size = 1 := by
                  rw [Bool.or_eq_true, decide_eq_true_eq] at hsz
                  rcases hsz with hsz | hsz
                  · exact hsz
                  · have := Nat.eq_of_beq_eq_true hsz
                    omega
                have hc1 : P.cellsOf el = 1 := by simp [Program.cellsOf, hi', hsz1]
                rw [word32_shift, ← hcs (l + i) (by omega), hc1]
                congr 1
                rw [if_neg (by omega)]
                omega
              · have := add_if b 0 off l (l * P.cellsOf el) c
                simp only [Nat.zero_add] at this
                simp only [Instr.sliceAt, Instr.slice, Sem.run_bind, run_underlying ht, Result.andThen_ok, Sem.run_pure, run_sliceBounds rfl rfl e1n e2 hlo hhi, run_sizeOf w hi', ← this]
                congr 3
                split <;> rfl
          · cases h
        · cases h
      · cases h
    · cases h
  · rename_i el len cs ht
    split at h
    · rename_i inf hi'
      split at h
      · rename_i ch hh e1
        simp only [Option.some.injEq, Prod.mk.injEq] at h
        obtain ⟨hch, rfl⟩ := h
        subst hch
        obtain ⟨hp, a, c, rfl, hlc, hor⟩ := VR_row.1 hx
        obtain ⟨e1', hle⟩ := boundOp_cap e1 hlc (Nat.le_refl _)
        have e1n : boundOp E hi len c = some (true, hh) := e1'
        have e2 : boundOp E none 0 hh = some (true, 0) := rfl
        have hsb : ∀ w, (Instr.sliceBounds true len c none (hi.map e) none).run P w = .ok (0, hh, c) w := fun w => run_sliceBounds rfl rfl e1n e2 hlo hhi true w
        rcases hor with h00 | ⟨b, s, rfl, hcs⟩
        · cases a with
          | none =>
            refine ⟨.slice none (hh - 0) (c - 0), VR_row.2 ⟨hp, none, c - 0, rfl, by omega, .inl (by omega)⟩, fun w => ?_⟩
            simp only [Instr.sliceAt, Instr.slice, Sem.run_bind, run_underlying ht, Result.andThen_ok, Sem.run_pure, Option.map_none, hsb w, run_sizeOf w hi']
            congr 2
            split <;> rfl
          | some a =>
            refine ⟨.slice (some (if c = 0 then a else a.add (0 * P.cellsOf el))) (hh - 0) (c - 0), VR_row.2 ⟨hp, _, c - 0, rfl, by omega, .inl (by omega)⟩, fun w => ?_⟩
            simp only [Instr.sliceAt, Instr.slice, Sem.run_bind, run_underlying ht, Result.andThen_ok, Sem.run_pure, Option.map_none, hsb w, run_sizeOf w hi']
            congr 3
            split <;> rfl
        · refine ⟨.slice (some ⟨b, s + (if c = 0 then 0 else 0 * P.cellsOf el), none⟩) (hh - 0) (c - 0), VR_row.2 ⟨hp, _, c - 0, rfl, by omega, .inr ⟨b, s, by rw [Nat.zero_mul, ite_self, Nat.add_zero], hcs⟩⟩, fun w => ?_⟩
          have := add_if b 0 s 0 (0 * P.cellsOf el) c
          simp only [Nat.zero_add] at this
          simp only [Instr.sliceAt, Instr.slice, Sem.run_bind, run_underlying ht, Result.andThen_ok, Sem.run_pure, Option.map_none, hsb w, run_sizeOf w hi', ← this]
          congr 3
          split <;> rfl
      · cases h
    · cases h
  · cases h

def arrayAtOp (P : Program) (t : TypeId) (x : Value) : Option (Bool × Value) :=
  match P.underlying t, x with
  | some (.array n _), .slice (some ⟨k, off, none⟩) len _ => some (decide (n ≤ len), .pointer (some ⟨k, off, none⟩))
  | _, _ => none
theorem arrayAtOp_sound {t : TypeId} {x u : Value} (h : arrayAtOp P t x = some (true, v)) (hx : VR ρ x u) : ∃ r, VR ρ v r ∧ ∀ w, (Instr.arrayAt t u).run P w = .ok r w := by
  unfold arrayAtOp at h
  split at h
  · rename_i n el k off len cap ht
    simp only [Option.some.injEq, Prod.mk.injEq, decide_eq_true_eq] at h
    obtain ⟨hn, rfl⟩ := h
    obtain ⟨b, s', hρ, rfl⟩ := VR_slice.1 hx
    exact ⟨_, VR_ptr.2 ⟨b, s', hρ, rfl⟩, fun w => by simp [Instr.arrayAt, run_underlying ht, Nat.not_lt.2 hn]⟩
  · cases h

/-- A slice or a pointer against nil. -/
def nilEq (P : Program) (op : BinOp) (t : TypeId) (x y : Value) : Option (Bool × Value) :=
  match P.underlying t, x, y with
  | some (.slice _), .slice a _ _, .slice none _ _ => match op with | .eql => some (true, .bool a.isNone) | .neq => some (true, .bool (!a.isNone)) | _ => none
  | some (.pointer _), .pointer a, .pointer none => match op with | .eql => some (true, .bool a.isNone) | .neq => some (true, .bool (!a.isNone)) | _ => none
  | some (.func _ _ _), .func _ _ _, .nilFunc => match op with | .eql => some (true, .bool false) | .neq => some (true, .bool true) | _ => none
  | _, _, _ => none
theorem eqGuard_at_func {op : BinOp} {t : TypeId} {x y : Operand} (f : Fn) (p q : Array Value) (v : Value) : eqGuard op t x y (.func f p q) v = pure () := by cases op <;> rfl
theorem run_equalIn_nilFunc (d : Nat) {t : TypeId} {ps rs : Array TypeId} {va : Bool} (ht : P.underlying t = some (.func ps rs va)) (f : Fn) (p q : Array Value) (w : World) : (Op.equalIn (d + 1) t (.func f p q) .nilFunc).run P w = .ok false w := by
  simp [Op.equalIn, run_underlying ht]
theorem run_equalIn_nilSlice (d : Nat) {t el : TypeId} (ht : P.underlying t = some (.slice el)) (a' : Option Addr) {l c l2 c2 : Nat} (w : World) : (Op.equalIn (d + 1) t (.slice a' l c) (.slice none l2 c2)).run P w = .ok a'.isNone w := by
  cases a' <;> simp [Op.equalIn, run_underlying ht]
theorem run_equalIn_nilPtr (d : Nat) {t el : TypeId} (ht : P.underlying t = some (.pointer el)) (a' : Option Addr) (w : World) : (Op.equalIn (d + 1) t (.pointer a') (.pointer none)).run P w = .ok a'.isNone w := by
  cases a' <;> simp [Op.equalIn, run_underlying ht]
theorem nilEq_sound {op : BinOp} {t : TypeId} {px py : Operand} {x y ux uy : Value} (h : nilEq P op t x y = some (true, v)) (hx : VR ρ x ux) (hy : VR ρ y uy) :
    ∃ r, VR ρ v r ∧ ∀ w, (do eqGuard op t px py ux uy; binOp op t ux uy).run P w = .ok r w := by
  unfold nilEq at h
  split at h
  · rename_i el a l c l2 c2 ht
    rw [VR_flat rfl] at hy
    subst hy
    obtain ⟨a', rfl, ha⟩ : ∃ a', ux = .slice a' l c ∧ a'.isNone = a.isNone := by
      cases a with
      | none => rw [VR_flat rfl] at hx; exact ⟨none, hx, rfl⟩
      | some a => rw [VR_of2 (by simp), VR2_of1 (by simp), VR1_slice] at hx; obtain ⟨a', _, rfl⟩ := hx; exact ⟨some a', rfl, rfl⟩
    have hq : ∀ w, (Op.equal t (.slice a' l c) (.slice none l2 c2)).run P w = .ok a'.isNone w := fun w => run_equalIn_nilSlice 9999 ht a' w
    split at h
    · cases h; exact ⟨.bool a.isNone, (VR_flat rfl).2 rfl, fun w => by rw [eqGuard_at_slice, ← ha]; simp [binOp, hq w]⟩
    · cases h; exact ⟨.bool (!a.isNone), (VR_flat rfl).2 rfl, fun w => by rw [eqGuard_at_slice, ← ha]; simp [binOp, hq w]⟩
    · cases h
  · rename_i el a ht
    rw [VR_flat rfl] at hy
    subst hy
    obtain ⟨a', rfl, ha⟩ : ∃ a', ux = .pointer a' ∧ a'.isNone = a.isNone := by
      cases a with
      | none => rw [VR_flat rfl] at hx; exact ⟨none, hx, rfl⟩
      | some a => rw [VR_of2 (by simp), VR2_of1 (by simp), VR1_ptr] at hx; obtain ⟨a', _, rfl⟩ := hx; exact ⟨some a', rfl, rfl⟩
    have hq : ∀ w, (Op.equal t (.pointer a') (.pointer none)).run P w = .ok a'.isNone w := fun w => run_equalIn_nilPtr 9999 ht a' w
    split at h
    · cases h; exact ⟨.bool a.isNone, (VR_flat rfl).2 rfl, fun w => by rw [eqGuard_at_pointer, ← ha]; simp [binOp, hq w]⟩
    · cases h; exact ⟨.bool (!a.isNone), (VR_flat rfl).2 rfl, fun w => by rw [eqGuard_at_pointer, ← ha]; simp [binOp, hq w]⟩
    · cases h
  · rename_i ps rs va f p q ht
    rw [VR_flat rfl] at hy
    subst hy
    obtain ⟨p', q', rfl⟩ : ∃ p' q', ux = .func f p' q' := by
      rw [VR_of2 (by simp), VR2_of1 (by simp), VR1_func] at hx
      obtain ⟨p', q', _, _, rfl⟩ := hx
      exact ⟨_, _, rfl⟩
    have hq : ∀ w, (Op.equal t (.func f p' q') .nilFunc).run P w = .ok false w := fun w => run_equalIn_nilFunc 9999 ht f p' q' w
    split at h
    · cases h; exact ⟨.bool false, (VR_flat rfl).2 rfl, fun w => by rw [eqGuard_at_func]; simp [binOp, hq w]⟩
    · cases h; exact ⟨.bool true, (VR_flat rfl).2 rfl, fun w => by rw [eqGuard_at_func]; simp [binOp, hq w]⟩
    · cases h
  · cases h
end
end Go.Ev
/-! Relative states, part E: loads, new blocks, stores, calls; one operation as a whole. -/
namespace Go.Ev
section
variable {P : Program} {o : Oper} {E : Operand → Option Value} {v : Value} {ρ : Ren} {e : Operand → Value} {mem : Mem}

/-! ### Parts put together -/
def PartR (ρ : Ren) (p q : Nat × Value) : Prop := p.1 = q.1 ∧ VR2 ρ p.2 q.2

theorem foldl_set_rel (off : Nat) : ∀ (l l' : List (Value × Nat)), PW (fun p q => p.2 = q.2 ∧ VR1 ρ p.1 q.1) l l' → ∀ (cs cs' : Array Value), PW (VR1 ρ) cs.toList cs'.toList →
    PW (VR1 ρ) (l.foldl (fun cs p => cs.setIfInBounds (off + p.2) p.1) cs).toList (l'.foldl (fun cs p => cs.setIfInBounds (off + p.2) p.1) cs').toList
  | [], l', h, cs, cs', hc => by rw [h.unnil]; exact hc
  | p :: l, l', h, cs, cs', hc => by
    obtain ⟨q, m', rfl, ⟨h1, h2⟩, ht⟩ := h.uncons
    simp only [List.foldl_cons]
    refine foldl_set_rel off l m' ht _ _ ?_
    rw [h1]
    simp only [Array.toList_setIfInBounds]
    exact hc.set _ h2

theorem PW_zipIdx {l m : List Value} (h : PW (VR1 ρ) l m) : PW (fun p q => p.2 = q.2 ∧ VR1 ρ p.1 q.1) l.zipIdx m.zipIdx := by
  refine ⟨by simp [h.1], fun i x y hx hy => ?_⟩
  rw [List.getElem?_zipIdx] at hx hy
  cases hl : l[i]? with
  | none => simp [hl] at hx
  | some a =>
    obtain ⟨b, hb, hR⟩ := h.get hl
    simp only [hl, hb, Option.map_some, Option.some.injEq] at hx hy
    subst hx; subst hy
    exact ⟨rfl, hR⟩

theorem fill_rel (place : Nat → Option (Nat × Nat)) : ∀ (parts parts' : List (Nat × Value)), PW (PartR ρ) parts parts' → ∀ (cs cs' r : Array Value), PW (VR1 ρ) cs.toList cs'.toList →
    Instr.fill place cs parts = some r → ∃ r', Instr.fill place cs' parts' = some r' ∧ PW (VR1 ρ) r.toList r'.toList
  | [], parts', h, cs, cs', r, hc, hf => by rw [h.unnil]; cases hf; exact ⟨cs', rfl, hc⟩
  | (i, v) :: parts, parts', h, cs, cs', r, hc, hf => by
    obtain ⟨⟨j, u⟩, m', rfl, ⟨h1, h2⟩, ht⟩ := h.uncons
    simp only at h1
    subst h1
    have hcells := h2.cells
    unfold Instr.fill at hf ⊢
    split at hf
    · cases hf
    · rename_i off size hp
      simp only
      have hsz : u.cells.size = v.cells.size := by have := hcells.1; simpa using this.symm
      have hcsz : cs'.size = cs.size := by have := hc.1; simpa using this.symm
      rw [hsz, hcsz]
      split at hf
      · cases hf
      · rename_i hcond
        rw [if_neg hcond]
        refine fill_rel place parts m' ht _ _ r ?_ hf
        rw [← Array.foldl_toList, ← Array.foldl_toList, Array.toList_zipIdx, Array.toList_zipIdx]
        exact foldl_set_rel off _ _ (PW_zipIdx hcells) _ _ hc

/-- The operands' values, with their places. -/
def partVals (E : Operand → Option Value) : List (Nat × Operand) → Option (List (Nat × Value))
  | [] => some []
  | (i, x) :: r => match E x, partVals E r with
    | some (.tuple _), _ => none
    | some v, some vs => some ((i, v) :: vs)
    | _, _ => none
theorem partVals_rel : ∀ (ps : List (Nat × Operand)) (vs : List (Nat × Value)), partVals E ps = some vs → (∀ p ∈ ps, ∀ u, E p.2 = some u → VR ρ u (e p.2)) → PW (PartR ρ) vs (ps.map fun p => (p.1, e p.2))
  | [], vs, h, _ => by cases h; exact PW.nil
  | (i, x) :: r, vs, h, hH => by
    unfold partVals at h
    split at h
    · cases h
    · rename_i v vs' hn hv hvs
      cases h
      refine PW.cons ⟨rfl, ?_⟩ (partVals_rel r vs' hvs fun p hp => hH p (by simp [hp]))
      exact (VR_of2 (fun t ht => hn t ht)).1 (hH (i, x) (by simp) v hv)
    · cases h

def placesOf (P : Program) (fs : Array Field) : Array (Nat × Nat) := fs.map fun f => (f.offset, P.cellsOf f.type)

def buildOp (P : Program) (E : Operand → Option Value) (t : TypeId) (parts : Array (Nat × Operand)) : Option (Bool × Value) :=
  match (P.info? t).bind (·.zero), partVals E parts.toList with
  | some z, some vs =>
    if z.cells.toList.all flat1 then
      match P.underlying t with
      | some (.struct fs) =>
        if fs.toList.all fun f => (P.info? f.type).isSome then
          match Instr.fill ((placesOf P fs)[·]?) z.cells vs with
          | some cs => some (true, .agg cs)
          | none => none
        else none
      | some (.array _ el) =>
        if (P.info? el).isSome then
          match Instr.fill (fun i => some (i * P.cellsOf el, P.cellsOf el)) z.cells vs with
          | some cs => some (true, .agg cs)
          | none => none
        else none
      | _ => none
    else none
  | _, _ => none

theorem run_zero {t : TypeId} {z : Value} (h : (P.info? t).bind (·.zero) = some z) (w : World) : (zeroValue t).run P w = .ok z w := by
  cases hi : P.info? t with
  | none => simp [hi] at h
  | some i => simp [hi] at h; simp [zeroValue, typeInfo, hi, h]

theorem run_mapM_list {α β : Type} (f : α → Sem β) (g : α → β) (w : World) : ∀ (l : List α), (∀ a ∈ l, (f a).run P w = .ok (g a) w) → (l.mapM f).run P w = .ok (l.map g) w
  | [], _ => by simp
  | a :: l, h => by
    rw [List.mapM_cons]
    simp [h a (by simp), run_mapM_list f g w l (fun b hb => h b (by simp [hb]))]

theorem run_places {fs : Array Field} (h : fs.toList.all (fun f => (P.info? f.type).isSome) = true) (w : World) :
    (fs.mapM fun f : Field => do pure (f.offset, ← sizeOf f.type)).run P w = .ok (placesOf P fs) w := by
  rw [Array.mapM_eq_mapM_toList, Sem.run_map, run_mapM_list _ (fun f : Field => (f.offset, P.cellsOf f.type)) w fs.toList ?_]
  · simp only [Result.andThen_ok, placesOf]
    congr 1
    apply Array.toList_inj.1
    simp
  · intro f hf
    obtain ⟨i, hi⟩ := Option.isSome_iff_exists.1 (List.all_eq_true.1 h f hf)
    simp [run_sizeOf w hi]

theorem buildOp_sound {t : TypeId} {parts : Array (Nat × Operand)} (h : buildOp P E t parts = some (true, v)) (hH : ∀ p ∈ parts.toList, ∀ u, E p.2 = some u → VR ρ u (e p.2)) :
    ∃ r, VR ρ v r ∧ ∀ w, (Instr.build t (parts.map fun (i, x) => (i, e x))).run P w = .ok r w := by
  unfold buildOp at h
  split at h
  · rename_i z vs hz hvs
    split at h
    · rename_i hfl
      have hrel := partVals_rel _ _ hvs hH
      have hmap : (parts.map fun (i, x) => (i, e x)).toList = parts.toList.map fun p => (p.1, e p.2) := by simp
      have hzz : PW (VR1 ρ) z.cells.toList z.cells.toList := (PW_flat (fun _ _ => VR1_flat) hfl).2 rfl
      split at h
      · rename_i fs ht
        split at h
        · rename_i hall
          split at h
          · rename_i cs hf
            cases h
            obtain ⟨r', hr', hp⟩ := fill_rel _ _ _ hrel _ _ _ hzz hf
            refine ⟨.agg r', (VR2_agg.2 ⟨r', rfl, hp⟩).toVR, fun w => ?_⟩
            simp only [Instr.build, Sem.run_bind, run_zero hz, Result.andThen_ok, run_underlying ht, run_places hall, hmap, hr', Sem.run_pure]
          · cases h
        · cases h
      · rename_i n el ht
        split at h
        · rename_i hel
          obtain ⟨i, hi⟩ := Option.isSome_iff_exists.1 hel
          split at h
          · rename_i cs hf
            cases h
            obtain ⟨r', hr', hp⟩ := fill_rel _ _ _ hrel _ _ _ hzz hf
            refine ⟨.agg r', (VR2_agg.2 ⟨r', rfl, hp⟩).toVR, fun w => ?_⟩
            simp only [Instr.build, Sem.run_bind, run_zero hz, Result.andThen_ok, run_underlying ht, run_sizeOf w hi, hmap, hr', Sem.run_pure]
          · cases h
        · cases h
      · cases h
    · cases h
  · cases h

def binD (P : Program) (E : Operand → Option Value) (o : Oper) (op : BinOp) (t : TypeId) (x y : Value) : Option (Bool × Value) :=
  match arith op x y with
  | some r => some r
  | none => match eqAgg P op t x y with
    | some r => some r
    | none => match nilEq P op t x y with
      | some r => some r
      | none => gen P E o

def convD (P : Program) (E : Operand → Option Value) (o : Oper) (s d : TypeId) (x : Value) : Option (Bool × Value) :=
  match x, P.underlying d, P.underlying s with
  | .float k b, some (.int kd), some _ => some ((floatToIntVal k b kd).isSome, .int kd ((floatToIntVal k b kd).getD 0))
  | _, _, _ => gen P E o

def lenD (P : Program) (E : Operand → Option Value) (o : Oper) (b : Builtin) (ts : Array TypeId) (args : Array Operand) : Option (Bool × Value) :=
  match b, args.toList, ts.toList with
  | .len, [x], [t] => match P.underlying t, E x with
    | some (.slice _), some (.slice _ n _) => some (true, .int .i64 n)
    | some (.slice _), some (.iface _ (.chan (some n))) => some (true, .int .i64 n)
    | some (.slice _), some (.iface _ (.slice none n (_ + 1))) => some (true, .int .i64 n)
    | some (.slice _), some (.iface n (.iface 0 (.tuple _))) => some (true, .int .i64 n)
    | some (.array n _), some _ => some (true, .int .i64 n)
    | _, _ => gen P E o
  | .cap, [x], [t] => match P.underlying t, E x with
    | some (.slice _), some (.slice _ _ n) => some (true, .int .i64 n)
    | _, _ => gen P E o
  | .max, _, _ | .min, _, _ => gen P E o
  | .complex, _, _ | .real, _, _ | .imag, _, _ => gen P E o
  | _, _, _ => none

/-- May a function value carry it? -/
def capOk : Value → Bool
  | .pointer _ => true
  | v => flat0 v
theorem rP_of_VR {v u : Value} (h : VR ρ v u) (hc : capOk v = true) : rP ρ v = some u := by
  by_cases hp : ∃ a, v = .pointer (some a)
  · obtain ⟨a, rfl⟩ := hp
    rw [VR_of2 (by simp), VR2_of1 (by simp)] at h
    exact h
  · have h0 : flat0 v = true := by
      unfold capOk at hc
      split at hc
      · rename_i a
        cases a with
        | none => rfl
        | some a => exact absurd ⟨a, rfl⟩ hp
      · exact hc
    have h1 : flat v = true := by
      cases v with
      | pointer a => cases a with | none => rfl | some a => cases h0
      | slice a l c => cases a with | none => rfl | some a => cases h0
      | func f x y => cases h0
      | agg cs => cases h0
      | tuple vs => cases h0
      | iface t v => cases v with
        | chan r => cases r with | none => rfl | some r => cases h0
        | map r => cases r with | none => rfl | some r => cases h0
        | slice a l c => cases a with
          | none => cases c with | zero => rfl | succ c => cases h0
          | some a => rfl
        | iface t v => cases h0
        | _ => rfl
      | _ => rfl
    rw [(VR_flat h1).1 h]
    exact rP_flat h0
theorem rPL_of_rel : ∀ {l us : List Value}, PW (VR ρ) l us → l.all capOk = true → rPL ρ l = some us
  | [], us, h, _ => by rw [h.unnil]; rfl
  | v :: l, us, h, hc => by
    obtain ⟨u, us', rfl, hu, ht⟩ := h.uncons
    simp only [List.all_cons, Bool.and_eq_true] at hc
    simp only [rPL, rP_of_VR hu hc.1, rPL_of_rel ht hc.2]
theorem mapM_rel : ∀ (xs : List Operand) (vs : List Value), xs.mapM E = some vs → (∀ x ∈ xs, ∀ u, E x = some u → VR ρ u (e x)) → PW (VR ρ) vs (xs.map e)
  | [], vs, h, _ => by simp at h; subst h; exact PW.nil
  | x :: xs, vs, h, hH => by
    rw [List.mapM_cons] at h
    simp only [bind, Option.bind_eq_some_iff, pure, Option.some.injEq] at h
    obtain ⟨v, hv, vs', hvs, rfl⟩ := h
    exact PW.cons (hH x (by simp) v hv) (mapM_rel xs vs' hvs fun y hy => hH y (by simp [hy]))
def funcOp (E : Operand → Option Value) (fn : Fn) (first captured : Array Operand) : Option (Bool × Value) :=
  match first.toList.mapM E, captured.toList.mapM E with
  | some x, some y => if x.all capOk && y.all capOk then some (true, .func fn x.toArray y.toArray) else none
  | _, _ => none

def opPure (P : Program) (E : Operand → Option Value) (o : Oper) : Option (Bool × Value) :=
  match o.op with
  | .move x | .assign x => (E x).map (true, ·)
  | .pick c a b => match E c with
    | some (.bool true) => (E a).map (true, ·)
    | some (.bool false) => (E b).map (true, ·)
    | _ => none
  | .nilCheck x => match E x with | some (.pointer (some a)) => some (true, .pointer (some a)) | _ => none
  | .fieldAddr s x f => match E x with | some vx => fieldAddrOp P s vx f | none => none
  | .indexAddr t x i => match E x, E i with | some vx, some vi => indexAddrOp P t vx vi | _, _ => none
  | .index t x i => match E x, E i with | some vx, some vi => indexOp P t vx vi | _, _ => none
  | .slice t x lo hi none => match E x with | some vx => sliceOp P E t vx lo hi | none => none
  | .extract x i => match E x with | some vx => extractOp vx i | none => none
  | .field t x f => match E x with | some vx => fieldOp P t vx f | none => none
  | .sliceToArrayPointer t x => match E x with | some vx => arrayAtOp P t vx | none => none
  | .build t parts => buildOp P E t parts
  | .binOp op t x y _ => match E x, E y with | some vx, some vy => binD P E o op t vx vy | _, _ => none
  | .convert s d x => match E x with | some vx => convD P E o s d vx | none => none
  | .unOp .. | .makeInterface .. => gen P E o
  | .makeFunc fn first captured => funcOp E fn first captured
  | .call c => match c.callee with | .builtin b => lenD P E o b c.argTypes c.args | _ => none
  | _ => none

theorem opPure_sound (h : opPure P E o = some (true, v)) (ρ : Ren) (e : Operand → Value) (hH : ∀ x ∈ o.op.operands, ∀ u, E x = some u → VR ρ u (e x)) :
    ∃ u, VR ρ v u ∧ ∀ w, (execOp e o).run P w = .ok (.value u) w := by
  have hgen : Oper.noSelect o = true → gen P E o = some (true, v) → ∃ u, VR ρ v u ∧ ∀ w, (execOp e o).run P w = .ok (.value u) w := fun hs hg => gen_sound hs hg ρ e hH
  unfold opPure at h
  split at h
  · rename_i x ho
    cases hx : E x with
    | none => simp [hx] at h
    | some vx => simp [hx] at h; subst h; exact ⟨e x, hH x (by simp [ho, Op.operands]) _ hx, fun w => by simp [execOp, ho]⟩
  · rename_i x ho
    cases hx : E x with
    | none => simp [hx] at h
    | some vx => simp [hx] at h; subst h; exact ⟨e x, hH x (by simp [ho, Op.operands]) _ hx, fun w => by simp [execOp, ho]⟩
  · rename_i c a b ho
    split at h
    · rename_i hc
      have hc' := VR_bool (hH c (by simp [ho, Op.operands]) _ hc)
      cases hx : E a with
      | none => simp [hx] at h
      | some vx => simp [hx] at h; subst h; exact ⟨e a, hH a (by simp [ho, Op.operands]) _ hx, fun w => by simp [execOp, ho, hc', asBool]⟩
    · rename_i hc
      have hc' := VR_bool (hH c (by simp [ho, Op.operands]) _ hc)
      cases hx : E b with
      | none => simp [hx] at h
      | some vx => simp [hx] at h; subst h; exact ⟨e b, hH b (by simp [ho, Op.operands]) _ hx, fun w => by simp [execOp, ho, hc', asBool]⟩
    · cases h
  · rename_i x ho
    split at h
    · rename_i a hx
      cases h
      have hv := hH x (by simp [ho, Op.operands]) _ hx
      obtain ⟨a', ha, hu⟩ : ∃ a', e x = .pointer (some a') ∧ True := by
        have := hv
        rw [VR_of2 (by simp), VR2_of1 (by simp), VR1_ptr] at this
        obtain ⟨a', _, h2⟩ := this
        exact ⟨a', h2, trivial⟩
      exact ⟨e x, hv, fun w => by simp [execOp, ho, ha]⟩
    · cases h
  · rename_i s x f ho
    split at h
    · rename_i vx hx
      obtain ⟨r, hr, hrun⟩ := fieldAddrOp_sound h (hH x (by simp [ho, Op.operands]) _ hx)
      exact ⟨r, hr, fun w => by simp [execOp, ho, hrun w]⟩
    · cases h
  · rename_i t x i ho
    split at h
    · rename_i vx vi hx hi
      obtain ⟨r, hr, hrun⟩ := indexAddrOp_sound h (hH x (by simp [ho, Op.operands]) _ hx) (hH i (by simp [ho, Op.operands]) _ hi)
      exact ⟨r, hr, fun w => by simp [execOp, ho, hrun w]⟩
    · cases h
  · rename_i t x i ho
    split at h
    · rename_i vx vi hx hi
      obtain ⟨r, hr, hrun⟩ := indexOp_sound h (hH x (by simp [ho, Op.operands]) _ hx) (hH i (by simp [ho, Op.operands]) _ hi)
      exact ⟨r, hr, fun w => by simp [execOp, ho, hrun w]⟩
    · cases h
  · rename_i t x lo hi ho
    split at h
    · rename_i vx hx
      obtain ⟨r, hr, hrun⟩ := sliceOp_sound h (hH x (by simp [ho, Op.operands]) _ hx) (fun z hz => hH z (by simp [ho, Op.operands, hz])) (fun z hz => hH z (by simp [ho, Op.operands, hz]))
      exact ⟨r, hr, fun w => by simp [execOp, ho, hrun w]⟩
    · cases h
  · rename_i x i ho
    split at h
    · rename_i vx hx
      obtain ⟨r, hr, hrun⟩ := extractOp_sound (P := P) h (hH x (by simp [ho, Op.operands]) _ hx)
      exact ⟨r, hr, fun w => by simp [execOp, ho, hrun w]⟩
    · cases h
  · rename_i t x f ho
    split at h
    · rename_i vx hx
      obtain ⟨r, hr, hrun⟩ := fieldOp_sound h (hH x (by simp [ho, Op.operands]) _ hx)
      exact ⟨r, hr, fun w => by simp [execOp, ho, hrun w]⟩
    · cases h
  · rename_i t x ho
    split at h
    · rename_i vx hx
      obtain ⟨r, hr, hrun⟩ := arrayAtOp_sound h (hH x (by simp [ho, Op.operands]) _ hx)
      exact ⟨r, hr, fun w => by simp [execOp, ho, hrun w]⟩
    · cases h
  · rename_i t parts ho
    obtain ⟨r, hr, hrun⟩ := buildOp_sound h (fun p hp => hH p.2 (by simp only [ho, Op.operands]; simp; exact ⟨p.1, by simpa using hp⟩))
    exact ⟨r, hr, fun w => by simp only [execOp, ho, Sem.run_bind, hrun w, Result.andThen_ok, Sem.run_pure]⟩
  · rename_i op t x y yt ho
    split at h
    · rename_i vx vy hx hy
      have hvx := hH x (by simp [ho, Op.operands]) _ hx
      have hvy := hH y (by simp [ho, Op.operands]) _ hy
      unfold binD at h
      split at h
      · rename_i r hr
        cases h
        obtain ⟨f1, f2, f3, hrun⟩ := arith_sound (P := P) (t := t) (px := x) (py := y) hr
        rw [VR_flat f1] at hvx
        rw [VR_flat f2] at hvy
        refine ⟨v, (VR_flat f3).2 rfl, fun w => ?_⟩
        have := hrun w
        rw [← hvx, ← hvy] at this
        simp only [execOp, ho, Sem.run_bind] at this ⊢
        rw [this]; rfl
      · split at h
        · rename_i r hr
          cases h
          obtain ⟨f1, f2, f3, hrun⟩ := eqAgg_sound (px := x) (py := y) hr
          rw [VR_flat f1] at hvx
          rw [VR_flat f2] at hvy
          refine ⟨v, (VR_flat f3).2 rfl, fun w => ?_⟩
          have := hrun w
          rw [← hvx, ← hvy] at this
          simp only [execOp, ho, Sem.run_bind] at this ⊢
          rw [this]; rfl
        · split at h
          · rename_i r hr
            cases h
            obtain ⟨r, hr, hrun⟩ := nilEq_sound (px := x) (py := y) hr hvx hvy
            refine ⟨r, hr, fun w => ?_⟩
            have := hrun w
            simp only [execOp, ho, Sem.run_bind] at this ⊢
            rw [this]; rfl
          · exact hgen (by simp [Oper.noSelect, ho]) h
    · cases h
  · rename_i s d x ho
    split at h
    · rename_i vx hx
      have hvx := hH x (by simp [ho, Op.operands]) _ hx
      unfold convD at h
      split at h
      · rename_i k b kd u hd hu
        simp only [Option.some.injEq, Prod.mk.injEq, Option.isSome_iff_exists] at h
        obtain ⟨⟨n, hn⟩, rfl⟩ := h
        rw [VR_flat rfl] at hvx
        rw [hn]
        refine ⟨_, (VR_flat rfl).2 rfl, fun w => ?_⟩
        have := run_convert_float_int w s d k kd b n (by rw [hu]; rfl) hd hn
        simp only [execOp, ho, Sem.run_bind, hvx, this]; rfl
      · exact hgen (by simp [Oper.noSelect, ho]) h
    · cases h
  · rename_i ho; exact hgen (by simp [Oper.noSelect, ho]) h
  · rename_i ho; exact hgen (by simp [Oper.noSelect, ho]) h
  · rename_i fn first captured ho
    unfold funcOp at h
    split at h
    · rename_i x y hx hy
      split at h
      · rename_i hc
        cases h
        simp only [Bool.and_eq_true] at hc
        have h1 := mapM_rel (ρ := ρ) (e := e) _ _ hx (fun z hz => hH z (by simp [ho, Op.operands]; left; simpa using hz))
        have h2 := mapM_rel (ρ := ρ) (e := e) _ _ hy (fun z hz => hH z (by simp [ho, Op.operands]; right; simpa using hz))
        refine ⟨.func fn (first.map e) (captured.map e), VR1.toVR (VR1_func.2 ⟨_, _, by simpa using rPL_of_rel h1 hc.1, by simpa using rPL_of_rel h2 hc.2, ?_⟩), fun w => by simp [execOp, ho, Instr.makeFunc]⟩
        congr 1 <;> (apply Array.toList_inj.1; simp)
      · cases h
    · cases h
  · rename_i c ho
    split at h
    · rename_i b hb
      unfold lenD at h
      obtain ⟨callee, args, argTypes⟩ := c
      simp only at hb h
      subst hb
      split at h
      · rename_i x t ha htt
        split at h
        · rename_i el sa n cp ht hx
          cases h
          obtain rfl : args = #[x] := Array.toList_inj.1 ha
          obtain rfl : argTypes = #[t] := Array.toList_inj.1 htt
          have hv := hH x (by simp [ho, Op.operands, Call.operands]) _ hx
          obtain ⟨a', ha'⟩ : ∃ a', e x = .slice a' n cp := by
            cases sa with
            | none => rw [VR_flat rfl] at hv; exact ⟨_, hv⟩
            | some a => rw [VR_of2 (by simp), VR2_of1 (by simp), VR1_slice] at hv; obtain ⟨a', _, h2⟩ := hv; exact ⟨_, h2⟩
          exact ⟨_, (VR_flat rfl).2 rfl, fun w => by simp [execOp, ho, resolve, invoke, builtin, Builtin.len_, ha', run_underlying ht, goInt]⟩
        · rename_i el N n ht hx
          cases h
          obtain rfl : args = #[x] := Array.toList_inj.1 ha
          obtain rfl : argTypes = #[t] := Array.toList_inj.1 htt
          obtain ⟨a', c', ha', _⟩ := VR_sliceTok.1 (hH x (by simp [ho, Op.operands, Call.operands]) _ hx)
          exact ⟨_, (VR_flat rfl).2 rfl, fun w => by simp [execOp, ho, resolve, invoke, builtin, Builtin.len_, ha', run_underlying ht, goInt]⟩
        · rename_i el N n z ht hx
          cases h
          obtain rfl : args = #[x] := Array.toList_inj.1 ha
          obtain rfl : argTypes = #[t] := Array.toList_inj.1 htt
          obtain ⟨a', c', ha', _⟩ := VR_lst.1 (hH x (by simp [ho, Op.operands, Call.operands]) _ hx)
          exact ⟨_, (VR_flat rfl).2 rfl, fun w => by simp [execOp, ho, resolve, invoke, builtin, Builtin.len_, ha', run_underlying ht, goInt]⟩
        · rename_i el n cs ht hx
          cases h
          obtain rfl : args = #[x] := Array.toList_inj.1 ha
          obtain rfl : argTypes = #[t] := Array.toList_inj.1 htt
          obtain ⟨_, a', c', ha', _⟩ := VR_row.1 (hH x (by simp [ho, Op.operands, Call.operands]) _ hx)
          exact ⟨_, (VR_flat rfl).2 rfl, fun w => by simp [execOp, ho, resolve, invoke, builtin, Builtin.len_, ha', run_underlying ht, goInt]⟩
        · rename_i n el vx ht hx
          cases h
          obtain rfl : args = #[x] := Array.toList_inj.1 ha
          obtain rfl : argTypes = #[t] := Array.toList_inj.1 htt
          exact ⟨_, (VR_flat rfl).2 rfl, fun w => by simp [execOp, ho, resolve, invoke, builtin, Builtin.len_, run_underlying ht, goInt]⟩
        · exact hgen (by simp [Oper.noSelect, ho]) h
      · rename_i x t ha htt
        split at h
        · rename_i el sa n cp ht hx
          cases h
          obtain rfl : args = #[x] := Array.toList_inj.1 ha
          obtain rfl : argTypes = #[t] := Array.toList_inj.1 htt
          have hv := hH x (by simp [ho, Op.operands, Call.operands]) _ hx
          obtain ⟨a', ha'⟩ : ∃ a', e x = .slice a' n cp := by
            cases sa with
            | none => rw [VR_flat rfl] at hv; exact ⟨_, hv⟩
            | some a => rw [VR_of2 (by simp), VR2_of1 (by simp), VR1_slice] at hv; obtain ⟨a', _, h2⟩ := hv; exact ⟨_, h2⟩
          exact ⟨_, (VR_flat rfl).2 rfl, fun w => by simp [execOp, ho, resolve, invoke, builtin, Builtin.cap_, ha', run_underlying ht, goInt]⟩
        · exact hgen (by simp [Oper.noSelect, ho]) h
      · exact hgen (by simp [Oper.noSelect, ho]) h
      · exact hgen (by simp [Oper.noSelect, ho]) h
      · exact hgen (by simp [Oper.noSelect, ho]) h
      · exact hgen (by simp [Oper.noSelect, ho]) h
      · exact hgen (by simp [Oper.noSelect, ho]) h
      · cases h
    · cases h
  · cases h

/-! ### Loads -/
def loadOp (P : Program) (mem : Mem) (t : TypeId) (x : Value) : Option (Bool × Value) :=
  match x with
  | .pointer (some ⟨k, off, none⟩) =>
    match mem[k]? with
    | some B =>
      if isRow P t then some (decide (off + P.cellsOf t ≤ B.cells.length), .agg ((B.cells.drop off).take (P.cellsOf t)).toArray)
      else if (P.underlying t).isSome then some (decide (off < B.cells.length), B.cells.getD off undef) else none
    | none => none
  | _ => none

theorem MRel.cellAt {w : World} (h : MRel ρ mem w) {k b s : Nat} {B : Blk} (hk : ρ k = some (b, s)) (hB : mem[k]? = some B) {i : Nat} {c : Value} (hc : B.cells[i]? = some c) : ∃ u, VR1 ρ c u ∧ w.cell? ⟨b, s + i, none⟩ = some u := by
  obtain ⟨B', hB', _, hcell⟩ := h.cell k b s hk
  rw [hB] at hB'
  cases hB'
  exact (hcell i c hc).1

theorem list_choose {α : Type} {n : Nat} {p : Nat → α → Prop} (h : ∀ i, i < n → ∃ a, p i a) : ∃ l : List α, l.length = n ∧ ∀ i a, l[i]? = some a → p i a := by
  induction n with
  | zero => exact ⟨[], rfl, by simp⟩
  | succ n ih =>
    obtain ⟨l, hl, hp⟩ := ih fun i hi => h i (by omega)
    obtain ⟨a, ha⟩ := h n (by omega)
    refine ⟨l ++ [a], by simp [hl], fun i b hb => ?_⟩
    by_cases hi : i < l.length
    · rw [List.getElem?_append_left hi] at hb; exact hp i b hb
    · rw [List.getElem?_append_right (by omega)] at hb
      have : i - l.length = 0 := by
        rcases Nat.eq_zero_or_pos (i - l.length) with h0 | h0
        · exact h0
        · rw [List.getElem?_eq_none (by simp; omega)] at hb; cases hb
      rw [this] at hb
      simp at hb
      subst hb
      have : i = n := by omega
      rw [this]; exact ha

theorem MRel.row {w : World} (h : MRel ρ mem w) {k b s : Nat} {B : Blk} (hk : ρ k = some (b, s)) (hB : mem[k]? = some B) {off n : Nat} (hn : off + n ≤ B.cells.length) :
    ∃ us : List Value, PW (VR1 ρ) ((B.cells.drop off).take n) us ∧ us.length = n ∧ ∀ j u, us[j]? = some u → w.cell? ⟨b, s + off + j, none⟩ = some u := by
  obtain ⟨us, hl, hp⟩ := list_choose (n := n) (p := fun j u => VR1 ρ (B.cells.getD (off + j) undef) u ∧ w.cell? ⟨b, s + off + j, none⟩ = some u) (fun i hi => by
    have hc : B.cells[off + i]? = some (B.cells.getD (off + i) undef) := by rw [List.getD_eq_getElem?_getD, List.getElem?_eq_getElem (by omega)]; rfl
    obtain ⟨u, hu, hw⟩ := h.cellAt hk hB hc
    exact ⟨u, hu, by rw [Nat.add_assoc]; exact hw⟩)
  refine ⟨us, ⟨by simp; omega, fun i x y hx hy => ?_⟩, hl, fun j u hj => (hp j u hj).2⟩
  rw [List.getElem?_take] at hx
  split at hx
  · rw [List.getElem?_drop] at hx
    have := (hp i y hy).1
    rw [List.getD_eq_getElem?_getD, hx] at this
    exact this
  · cases hx

theorem loadOp_sound {t : TypeId} {x u : Value} {M : Mem} {w : World} (h : loadOp P mem t x = some (true, v)) (hMm : ∀ (k : Nat) (B : Blk), mem[k]? = some B → M[k]? = some B) (hx : VR ρ x u) (hM : MRel ρ M w) :
    ∃ r, VR ρ v r ∧ (Instr.loadAt t u).run P w = .ok r w := by
  unfold loadOp at h
  split at h
  · rename_i k off
    obtain ⟨b, s, hρ, rfl⟩ := VR_ptr.1 hx
    split at h
    · rename_i B hB
      have hB' := hMm k B hB
      split at h
      · rename_i hr
        simp only [Option.some.injEq, Prod.mk.injEq, decide_eq_true_eq] at h
        obtain ⟨hn, rfl⟩ := h
        obtain ⟨d, hd⟩ : ∃ d, P.underlying t = some d := by unfold isRow at hr; split at hr; exact ⟨_, by assumption⟩; cases hr
        obtain ⟨i, hi⟩ := info_of_underlying hd
        obtain ⟨us, hpw, hl, hc⟩ := hM.row hρ hB' hn
        refine ⟨.agg us.toArray, (VR2_agg.2 ⟨_, rfl, by simpa using hpw⟩).toVR, ?_⟩
        have hload := run_loadCells_list (P := P) w ⟨b, s + off, none⟩ us (fun j v hv => by rw [Addr.add_lit]; exact hc j v hv)
        rw [hl] at hload
        simp [Instr.loadAt, Instr.sureAddr, loadVar, run_isAgg hd, hr, run_sizeOf w hi, hload]
      · rename_i hr
        split at h
        · rename_i hs
          obtain ⟨d, hd⟩ := Option.isSome_iff_exists.1 hs
          simp only [Option.some.injEq, Prod.mk.injEq, decide_eq_true_eq] at h
          obtain ⟨hlt, rfl⟩ := h
          have hg : B.cells[off]? = some (B.cells.getD off undef) := by rw [List.getD_eq_getElem?_getD, List.getElem?_eq_getElem hlt]; rfl
          obtain ⟨u, hu, hw⟩ := hM.cellAt hρ hB' hg
          refine ⟨u, hu.toVR, ?_⟩
          simp [Instr.loadAt, Instr.sureAddr, loadVar, run_isAgg hd, hr, hw]
        · cases h
    · cases h
  · cases h

/-- Cells of a row that nobody writes any more. -/
def celLoad (P : Program) (t : TypeId) (off : Nat) (cs : List Value) : Option (Bool × Value) :=
  if isRow P t then some (decide (off + P.cellsOf t ≤ cs.length), .agg ((cs.drop off).take (P.cellsOf t)).toArray)
  else if (P.underlying t).isSome then some (decide (off < cs.length), cs.getD off undef) else none
theorem plain_flat {v : Value} (h : plain v = true) : flat1 v = true := by
  cases v <;> first | rfl | cases h
theorem celLoad_sound {t : TypeId} {off : Nat} {cs : List Value} {u : Value} {M : Mem} {w : World} (h : celLoad P t off cs = some (true, v)) (hx : celR ρ off cs u) (hM : MRel ρ M w) : ∃ r, VR ρ v r ∧ (Instr.loadAt t u).run P w = .ok r w := by
  obtain ⟨hp, b, s, rfl, hcs⟩ := hx
  have hcell : ∀ (i : Nat) (x : Value), cs[i]? = some x → w.cell? ⟨b, s + i, none⟩ = some x := fun i x hi => by
    obtain ⟨hs, hb, hi'⟩ := hcs i x hi
    exact (hM.froz b hs hb).2.1 _ _ hi'
  have hfl : ∀ x ∈ cs, flat1 x = true := fun x hx => plain_flat (List.all_eq_true.1 hp x hx)
  unfold celLoad at h
  split at h
  · rename_i hr
    simp only [Option.some.injEq, Prod.mk.injEq, decide_eq_true_eq] at h
    obtain ⟨hn, rfl⟩ := h
    obtain ⟨d, hd⟩ : ∃ d, P.underlying t = some d := by unfold isRow at hr; split at hr; exact ⟨_, by assumption⟩; cases hr
    obtain ⟨i, hi⟩ := info_of_underlying hd
    have hl : ((cs.drop off).take (P.cellsOf t)).length = P.cellsOf t := by rw [List.length_take, List.length_drop]; omega
    refine ⟨.agg ((cs.drop off).take (P.cellsOf t)).toArray, (VR_flat ?_).2 rfl, ?_⟩
    · show (((cs.drop off).take (P.cellsOf t)).toArray.toList).all flat1 = true
      rw [List.all_eq_true]
      intro x hx
      exact hfl x (List.mem_of_mem_drop (List.mem_of_mem_take (by simpa using hx)))
    · have hload := run_loadCells_list (P := P) w ⟨b, s + off, none⟩ ((cs.drop off).take (P.cellsOf t)) (fun j v hv => by
        rw [Addr.add_lit, Nat.add_assoc]
        rw [List.getElem?_take] at hv
        split at hv
        · rw [List.getElem?_drop] at hv
          exact hcell _ _ hv
        · cases hv)
      rw [hl] at hload
      simp [Instr.loadAt, Instr.sureAddr, loadVar, run_isAgg hd, hr, run_sizeOf w hi, hload]
  · rename_i hr
    split at h
    · rename_i hs'
      obtain ⟨d, hd⟩ := Option.isSome_iff_exists.1 hs'
      simp only [Option.some.injEq, Prod.mk.injEq, decide_eq_true_eq] at h
      obtain ⟨hlt, rfl⟩ := h
      have hg : cs[off]? = some (cs.getD off undef) := by rw [List.getD_eq_getElem?_getD, List.getElem?_eq_getElem hlt]; rfl
      have hw := hcell off _ hg
      have hf := hfl _ (List.mem_of_getElem? hg)
      refine ⟨cs.getD off undef, (VR1.toVR ((VR1_flat hf).2 rfl)), ?_⟩
      simp [Instr.loadAt, Instr.sureAddr, loadVar, run_isAgg hd, hr, hw]
    · cases h
/-- Cells of a list. -/
def lelLoad (P : Program) (mem : Mem) (t : TypeId) (k off m : Nat) : Option (Bool × Value) :=
  match mem[k]? with
  | some B => if isRow P t then some (decide (off + P.cellsOf t ≤ m), .agg ((B.cells.drop off).take (P.cellsOf t)).toArray)
    else if (P.underlying t).isSome then some (decide (off < m), B.cells.getD off undef) else none
  | none => none
theorem lelLoad_sound {t : TypeId} {k off m : Nat} {u : Value} {M : Mem} {w : World} (h : lelLoad P mem t k off m = some (true, v)) (hMm : ∀ (k : Nat) (B : Blk), mem[k]? = some B → M[k]? = some B) (hx : lelR ρ k off m u) (hM : MRel ρ M w) : ∃ r, VR ρ v r ∧ (Instr.loadAt t u).run P w = .ok r w := by
  obtain ⟨b, x, rfl, hg, hxk, hm⟩ := hx
  have hL := hM.lists.lst b x hg
  unfold lelLoad at h
  split at h
  · rename_i B hB
    obtain ⟨B', tl, h1, _, h3⟩ := hL.list
    rw [hxk, hMm k B hB] at h1
    cases h1
    have hcell : ∀ (i : Nat) (y : Value), i < m → B.cells[i]? = some y → flat1 y = true ∧ w.cell? ⟨b, i, none⟩ = some y := fun i y hi hy => by
      rw [h3, List.getElem?_append_left (by omega)] at hy
      exact hL.cells i y hy
    have hlen : m ≤ B.cells.length := by rw [h3, List.length_append]; omega
    split at h
    · rename_i hr
      simp only [Option.some.injEq, Prod.mk.injEq, decide_eq_true_eq] at h
      obtain ⟨hn, rfl⟩ := h
      obtain ⟨d, hd⟩ : ∃ d, P.underlying t = some d := by unfold isRow at hr; split at hr; exact ⟨_, by assumption⟩; cases hr
      obtain ⟨i, hi⟩ := info_of_underlying hd
      have hl : ((B.cells.drop off).take (P.cellsOf t)).length = P.cellsOf t := by rw [List.length_take, List.length_drop]; omega
      have hat : ∀ (j : Nat) (y : Value), ((B.cells.drop off).take (P.cellsOf t))[j]? = some y → flat1 y = true ∧ w.cell? ⟨b, off + j, none⟩ = some y := fun j y hj => by
        rw [List.getElem?_take] at hj
        split at hj
        · rw [List.getElem?_drop] at hj
          exact hcell _ _ (by omega) hj
        · cases hj
      refine ⟨.agg ((B.cells.drop off).take (P.cellsOf t)).toArray, (VR_flat ?_).2 rfl, ?_⟩
      · show (((B.cells.drop off).take (P.cellsOf t)).toArray.toList).all flat1 = true
        rw [List.all_eq_true]
        intro y hy
        obtain ⟨j, hj⟩ := List.getElem?_of_mem (show y ∈ (B.cells.drop off).take (P.cellsOf t) by simpa using hy)
        exact (hat j y hj).1
      · have hload := run_loadCells_list (P := P) w ⟨b, off, none⟩ ((B.cells.drop off).take (P.cellsOf t)) (fun j y hy => by
          rw [Addr.add_lit]
          exact (hat j y hy).2)
        rw [hl] at hload
        simp [Instr.loadAt, Instr.sureAddr, loadVar, run_isAgg hd, hr, run_sizeOf w hi, hload]
    · rename_i hr
      split at h
      · rename_i hs'
        obtain ⟨d, hd⟩ := Option.isSome_iff_exists.1 hs'
        simp only [Option.some.injEq, Prod.mk.injEq, decide_eq_true_eq] at h
        obtain ⟨hlt, rfl⟩ := h
        have hg' : B.cells[off]? = some (B.cells.getD off undef) := by rw [List.getD_eq_getElem?_getD, List.getElem?_eq_getElem (by omega)]; rfl
        obtain ⟨hf, hw⟩ := hcell off _ hlt hg'
        refine ⟨B.cells.getD off undef, (VR1.toVR ((VR1_flat hf).2 rfl)), ?_⟩
        simp [Instr.loadAt, Instr.sureAddr, loadVar, run_isAgg hd, hr, hw]
      · cases h
  · cases h
/-- A word that nobody writes any more. -/
theorem load_word {t : TypeId} {N i : Nat} {u : Value} {M : Mem} {w : World} (ht : P.underlying t = some (.int .u32)) (hx : VR ρ (.iface N (.map (some i))) u) (hM : MRel ρ M w) : (Instr.loadAt t u).run P w = .ok (word32 N i) w := by
  obtain ⟨b, off, cs, rfl, hb, hcs⟩ := VR_wordTok.1 hx
  have hc := (hM.froz b cs hb).2.1 off _ hcs
  have hr : isRow P t = false := by unfold isRow; rw [ht]; rfl
  simp [Instr.loadAt, Instr.sureAddr, loadVar, run_isAgg ht, hr, hc]
/-! ### New blocks -/
/-- Rows of zero values, one behind the other. -/
def rowsL (z : List Value) (m n : Nat) : List Value := (List.range n).map fun k => z.getD (k % m) undef
theorem rowsL_eq (z : Array Value) (hz : 0 < z.size) (n : Nat) : (Array.range n).map (z[· % z.size]!) = (rowsL z.toList z.size n).toArray := by
  apply Array.ext
  · simp [rowsL]
  · intro i h1 h2
    have hm : i % z.size < z.size := Nat.mod_lt _ hz
    simp [rowsL, hm]
theorem rowsL_flat {z : List Value} {m : Nat} (hm : 0 < m) (hz : z.all flat1 = true) (hl : z.length = m) (n : Nat) : (rowsL z m n).all flat1 = true := by
  simp only [rowsL, List.all_map, List.all_eq_true]
  intro k _
  have hk : k % m < z.length := by rw [hl]; exact Nat.mod_lt _ hm
  show flat1 (z.getD (k % m) undef) = true
  rw [List.getD_eq_getElem?_getD, List.getElem?_eq_getElem hk]
  exact List.all_eq_true.1 hz _ (List.getElem_mem hk)
/-- What an operation makes: the block, and the value that leads to it (at number k). -/
def newOp (P : Program) (E : Operand → Option Value) (k : Nat) (o : Oper) : Option (Bool × Blk × Value) :=
  match o.op with
  | .alloc t => match (P.info? t).bind (·.zero) with
    | some z => if z.cells.toList.all flat1 then some (true, ⟨z.cells.toList, t, true⟩, .pointer (some ⟨k, 0, none⟩)) else none
    | none => none
  | .box t x => match E x with
    | some (.tuple _) => none
    | some v => some (true, ⟨v.cells.toList, t, true⟩, .pointer (some ⟨k, 0, none⟩))
    | none => none
  | .makeSlice t l c => match P.underlying t, E l, E c with
    | some (.slice el), some (.int _ n), some (.int _ m) => match P.info? el with
      | some i => match i.zero with
        | some z => if i.size = 1 && flat1 z then
            some (decide (0 ≤ n) && decide (n ≤ m) && Nat.ble (i.bytes * m.toNat) 281474976710656 && Nat.ble m.toNat 281474976710656, ⟨List.replicate m.toNat z, el, true⟩, .slice (some ⟨k, 0, none⟩) n.toNat m.toNat)
          else none
        | none => none
      | none => none
    | _, _, _ => none
  | .buildSlice t n parts => match P.underlying t with
    | some (.slice el) => match P.info? el, partVals E parts.toList with
      | some i, some vs => match i.zero with
        | some z => if i.size = 1 && flat1 z && decide (n ≤ 65536) then
            match Instr.fill (fun j => some (j * 1, 1)) (List.replicate n z).toArray vs with
            | some cs => some (true, ⟨cs.toList, el, true⟩, .slice (some ⟨k, 0, none⟩) n n)
            | none => none
          else match Nat.ble 1 (n * i.size) && Nat.ble (n * i.size) 65536 && z.cells.toList.all flat1 && Nat.ble 1 z.cells.size with
            | true => match Instr.fill (fun j => some (j * i.size, i.size)) (rowsL z.cells.toList z.cells.size (n * i.size)).toArray vs with
              | some cs => some (true, ⟨cs.toList, el, true⟩, .slice (some ⟨k, 0, none⟩) n n)
              | none => none
            | false => none
        | none => none
      | _, _ => none
    | _ => none
  | _ => none

theorem madeCells_one {z : Value} (hz : flat1 z = true) (n : Nat) : madeCells z.cells n = (List.replicate n z).toArray := by
  apply Array.ext
  · simp [madeCells]
  · intro i h1 h2
    simp [madeCells, (flat1_cells hz).1, Nat.mod_one]

theorem newOp_run {B : Blk} {n : Nat} (h : newOp P E n o = some (true, B, v)) (ρ : Ren) (e : Operand → Value) (hH : ∀ x ∈ o.op.operands, ∀ u, E x = some u → VR ρ u (e x)) :
    ∃ cs, PW (VR1 ρ) B.cells cs ∧ ∀ w, ∃ u, (execOp e o).run P w = .ok (.value u) (w.alloc (.cells cs.toArray B.elem)) ∧ ∀ ρ' : Ren, ρ' n = some (w.heap.size, 0) → VR ρ' v u := by
  unfold newOp at h
  split at h
  · rename_i t ho
    split at h
    · rename_i z hz
      split at h
      · rename_i hf
        cases h
        refine ⟨z.cells.toList, (PW_flat (fun _ _ => VR1_flat) hf).2 rfl, fun w => ⟨.pointer (some ⟨w.heap.size, 0, none⟩), ?_, fun ρ' hk => VR_ptr.2 ⟨_, _, hk, rfl⟩⟩⟩
        simp [execOp, ho, Instr.alloc, run_zero hz, newVar, newRow]
      · cases h
    · cases h
  · rename_i t x ho
    split at h
    · cases h
    · rename_i v' hn hx
      cases h
      have hv := hH x (by simp [ho, Op.operands]) _ hx
      have hc := ((VR_of2 (fun vs hvs => hn vs hvs)).1 hv).cells
      refine ⟨(e x).cells.toList, hc, fun w => ⟨.pointer (some ⟨w.heap.size, 0, none⟩), ?_, fun ρ' hk => VR_ptr.2 ⟨_, _, hk, rfl⟩⟩⟩
      simp [execOp, ho, Instr.box, newVar, newRow]
    · cases h
  · rename_i t l c ho
    split at h
    · rename_i el kl n kc m ht hl hc
      split at h
      · rename_i i hi
        split at h
        · rename_i z hz
          split at h
          · rename_i hcond
            simp only [Option.some.injEq, Prod.mk.injEq, Bool.and_eq_true, decide_eq_true_eq] at h hcond
            obtain ⟨⟨⟨⟨h0, h1⟩, h2'⟩, h3'⟩, rfl, rfl⟩ := h
            have h3 := Nat.le_of_ble_eq_true h3'
            have h2 : (i.bytes : Int) * m ≤ 281474976710656 := by
              have h4 := Nat.le_of_ble_eq_true h2'
              have e : (i.bytes : Int) * m = ((i.bytes * m.toNat : Nat) : Int) := by rw [Int.natCast_mul, Int.toNat_of_nonneg (by omega)]
              rw [e]; omega
            have el1 := (VR_flat rfl).1 (hH l (by simp [ho, Op.operands]) _ hl)
            have ec1 := (VR_flat rfl).1 (hH c (by simp [ho, Op.operands]) _ hc)
            refine ⟨List.replicate m.toNat z, PW.replicate _ ((VR1_flat hcond.2).2 rfl), fun w => ⟨.slice (some ⟨w.heap.size, 0, none⟩) n.toNat m.toNat, ?_, fun ρ' hk => VR_slice.2 ⟨_, _, hk, rfl⟩⟩⟩
            have hrun := run_make w t el i z ht hi hz kl kc n m h0 h1 h2 (by omega)
            rw [hcond.1, Nat.mul_one, madeCells_one hcond.2] at hrun
            simp only [execOp, ho, el1, ec1, Sem.run_bind, hrun, Result.andThen_ok, Sem.run_pure]
          · cases h
        · cases h
      · cases h
    · cases h
  · rename_i t n parts ho
    split at h
    · rename_i el ht
      split at h
      · rename_i i vs hi hvs
        split at h
        · rename_i z hz
          split at h
          · rename_i hcond
            simp only [Bool.and_eq_true, decide_eq_true_eq] at hcond
            split at h
            · rename_i cs hf
              cases h
              have hrel := partVals_rel (ρ := ρ) (e := e) _ _ hvs (fun p hp => hH p.2 (by simp only [ho, Op.operands]; simp; exact ⟨p.1, by simpa using hp⟩))
              have hmap : (parts.map fun (i, x) => (i, e x)).toList = parts.toList.map fun p => (p.1, e p.2) := by simp
              obtain ⟨r', hr', hp⟩ := fill_rel _ _ _ hrel _ (List.replicate n z).toArray _ (by simpa using PW.replicate n ((VR1_flat (ρ := ρ) hcond.1.2).2 rfl)) hf
              refine ⟨r'.toList, hp, fun w => ⟨.slice (some ⟨w.heap.size, 0, none⟩) n n, ?_, fun ρ' hk => VR_slice.2 ⟨_, _, hk, rfl⟩⟩⟩
              have hzr := run_zero (P := P) (t := el) (z := z) (by simp [hi, hz]) w
              have hsz : P.cellsOf el = 1 := by simp [Program.cellsOf, hi, hcond.1.1]
              have hlim : ¬ n * 1 > 2 ^ 24 := by omega
              by_cases hn : n = 0
              · subst hn
                simp only [List.replicate_zero] at hr'
                simp [execOp, ho, Instr.buildSlice, run_underlying ht, run_sizeOf w hi, hsz, newRow]
                simp only [Nat.mul_one] at hr'
                have e0 : ∀ f : Nat → Value, Array.map f (Array.range 0) = #[] := fun f => by rw [Array.range_zero']; simp
                rw [e0, hr']
                rfl
              · have hbase : ((Array.range (n * 1)).map fun x => z.cells[x % z.cells.size]!) = (List.replicate n z).toArray := by
                  have := madeCells_one hcond.1.2 n
                  unfold madeCells at this
                  simpa using this
                have hn1 : ¬ n * 1 = 0 := by omega
                simp only [execOp, ho, Instr.buildSlice, Sem.run_bind, run_underlying ht, Result.andThen_ok, run_sizeOf w hi, hsz, if_neg hlim, if_neg hn1, hzr, Sem.run_pure, hbase, hmap, hr', newRow, run_newObj]
                rfl
            · cases h
          · split at h
            · rename_i hcond
              simp only [Bool.and_eq_true, Nat.ble_eq] at hcond
              obtain ⟨⟨⟨hc1, hc2⟩, hc3⟩, hc4⟩ := hcond
              split at h
              · rename_i cs hf
                cases h
                have hrel := partVals_rel (ρ := ρ) (e := e) _ _ hvs (fun p hp => hH p.2 (by simp only [ho, Op.operands]; simp; exact ⟨p.1, by simpa using hp⟩))
                have hmap : (parts.map fun (i, x) => (i, e x)).toList = parts.toList.map fun p => (p.1, e p.2) := by simp
                obtain ⟨r', hr', hp⟩ := fill_rel _ _ _ hrel _ (rowsL z.cells.toList z.cells.size (n * i.size)).toArray _ (by simpa using (PW_flat (fun _ _ => VR1_flat (ρ := ρ)) (rowsL_flat hc4 hc3 (by simp) (n * i.size))).2 rfl) hf
                refine ⟨r'.toList, hp, fun w => ⟨.slice (some ⟨w.heap.size, 0, none⟩) n n, ?_, fun ρ' hk => VR_slice.2 ⟨_, _, hk, rfl⟩⟩⟩
                have hzr := run_zero (P := P) (t := el) (z := z) (by simp [hi, hz]) w
                have hsz : P.cellsOf el = i.size := by simp [Program.cellsOf, hi]
                have hlim : ¬ n * i.size > 2 ^ 24 := by omega
                have hn1 : ¬ n * i.size = 0 := by omega
                have hbase := rowsL_eq z.cells hc4 (n * i.size)
                simp only [execOp, ho, Instr.buildSlice, Sem.run_bind, run_underlying ht, Result.andThen_ok, run_sizeOf w hi, hsz, if_neg hlim, if_neg hn1, hzr, Sem.run_pure, hbase, hmap, hr', newRow, run_newObj]
                rfl
              · cases h
            · cases h
        · cases h
      · cases h
    · cases h
  · cases h
theorem newOp_own {c : Bool} {B : Blk} {n : Nat} (h : newOp P E n o = some (c, B, v)) : B.own = true := by
  unfold newOp at h
  repeat' split at h
  all_goals first | (cases h; done) | (cases h; rfl)
theorem newOp_sound {B : Blk} {n : Nat} (h : newOp P E n o = some (true, B, v)) {mem' : Mem} (hB' : mem'[n]? = some B) : NonW P o E v mem' (some n) := by
  refine NonW.of_new (newOp_own h) (fun ρ e hH => ?_) hB'
  obtain ⟨cs, h1, h2⟩ := newOp_run h ρ e hH
  refine ⟨cs, h1, fun w => ?_⟩
  obtain ⟨u, h3, h4⟩ := h2 w
  exact ⟨u, h3, fun ρ' hk _ => h4 ρ' hk⟩
/-- A row that nobody writes any more. -/
theorem NonW.of_tok {B : Blk} {n k N l c : Nat} (h : newOp P E n o = some (true, B, .slice (some ⟨k, 0, none⟩) l c)) (hlc : l ≤ c) (hB : B.cells = (List.range l).map (word32 N)) : NonW P o E (sliceTok N l) [] none := by
  intro M hMm ρ a w hH hM hid next Q hn
  obtain ⟨cs, hcs, hr⟩ := newOp_run h ρ a.eval hH
  obtain ⟨u, hru, hu⟩ := hr w
  have hfl : B.cells.all flat1 = true := by
    rw [hB, List.all_map, List.all_eq_true]
    intro i _
    rfl
  have e1 : cs = B.cells := (PW_flat (fun _ _ => VR1_flat) hfl).1 hcs
  obtain ⟨b, s, hb, rfl⟩ := VR_slice.1 (hu ⟨fun j => if j = n then some (w.heap.size, 0) else none, ρ.h, ρ.d, ρ.g⟩ (if_pos rfl))
  have hbs : b = w.heap.size ∧ s = 0 := by
    have hb' : (if k = n then some (w.heap.size, 0) else none) = some (b, s) := hb
    split at hb'
    · cases hb'; exact ⟨rfl, rfl⟩
    · cases hb'
  obtain ⟨rfl, rfl⟩ := hbs
  have hnone : ρ.h w.heap.size = none := by
    cases hh : ρ.h w.heap.size with
    | none => rfl
    | some cs' =>
      have := (hM.froz _ _ hh).1
      omega
  have hle : ρ.le ⟨ρ.m, fun b => if b = w.heap.size then some B.cells else ρ.h b, ρ.d, ρ.g⟩ := ⟨fun _ _ hk => hk, fun b cs' hh => by
    show (if b = w.heap.size then some B.cells else ρ.h b) = some cs'
    rw [if_neg (fun e => by rw [e, hnone] at hh; cases hh)]
    exact hh, rfl, Ren.le.gsame rfl⟩
  have hlt : ∀ b, b < w.heap.size → ∀ i, (w.alloc (.cells cs.toArray B.elem)).cell? ⟨b, i, none⟩ = w.cell? ⟨b, i, none⟩ := fun b hb i => World.cell?_alloc_lt _ _ _ hb
  unfold Oper.wp
  rw [hru]
  refine hn _ _ ⟨ρ.m, fun b => if b = w.heap.size then some B.cells else ρ.h b, ρ.d, ρ.g⟩ ?_ ?_ ?_ fun k x hk => .inl hk
  · refine VR_sliceTok.2 ⟨_, c, rfl, hlc, .inr ⟨w.heap.size, 0, B.cells, rfl, if_pos rfl, fun i hi => ?_⟩⟩
    rw [hB, Nat.zero_add, List.getElem?_map, List.getElem?_range hi]
    rfl
  · refine ⟨fun j b s hj => ?_, hM.apart, fun b cs' hh => ?_, ⟨fun b x hx => ?_, hM.lists.lmap⟩⟩
    · obtain ⟨B', hB', hl, hcell⟩ := hM.cell j b s hj
      refine ⟨B', hB', by simp; omega, fun i v hv => ?_⟩
      obtain ⟨⟨u, hu, hw⟩, hf⟩ := hcell i v hv
      exact ⟨⟨u, hu.mono hle, by rw [hlt b hl]; exact hw⟩, fun ho => by rw [World.frozen?_alloc_old _ _ _ (by simp; omega)]; exact hf ho⟩
    · have hh' : (if b = w.heap.size then some B.cells else ρ.h b) = some cs' := hh
      split at hh'
      · rename_i e
        subst e
        cases hh'
        refine ⟨by simp, fun i v hv => ?_, fun k' s B' hk' hB' => ?_⟩
        · rw [World.cell?_alloc_new, e1]
          simpa using hv
        · obtain ⟨_, _, h5, _⟩ := hM.cell k' _ s hk'
          omega
      · obtain ⟨h1, h2, h3⟩ := hM.froz b cs' hh'
        exact ⟨by simp; omega, fun i v hv => by rw [hlt b h1]; exact h2 i v hv, h3⟩
    · have hL := hM.lists.lst b x hx
      refine hL.move (by simp) (RowKit.Below.heap_alloc _ _ _ hL.lt) hL.nomap ?_ LB.same
      show (if b = w.heap.size then some B.cells else ρ.h b) = none
      rw [if_neg (by have := hL.lt; omega)]
      exact hL.noh
  · refine ⟨hle, fun j x hx h0 => (by rw [show ρ.m j = some x from hx] at h0; cases h0), fun j B h => ⟨B, h, rfl⟩, rfl, rfl, rfl, by simp, fun b hb _ _ => RowKit.Below.heap_alloc _ _ _ hb, fun b cs' hh h' => ?_, fun b x h h' => by rw [h] at h'; cases h'⟩
    have hh' : (if b = w.heap.size then some B.cells else ρ.h b) = some cs' := hh
    split at hh'
    · rename_i e; rw [e]; exact Nat.le_refl _
    · rw [h'] at hh'; cases hh'

/-! ### Stores -/
def setL : List Value → Nat → List Value → List Value
  | l, _, [] => l
  | l, off, v :: vs => setL (l.set off v) (off + 1) vs
theorem setL_length : ∀ (vs l : List Value) (off : Nat), (setL l off vs).length = l.length
  | [], _, _ => rfl
  | v :: vs, l, off => by rw [setL, setL_length vs]; simp
theorem setL_get : ∀ (vs l : List Value) (off i : Nat), off + vs.length ≤ l.length → (setL l off vs)[i]? = if off ≤ i ∧ i < off + vs.length then vs[i - off]? else l[i]?
  | [], l, off, i, _ => by simp only [setL, List.length_nil]; rw [if_neg (by omega)]
  | v :: vs, l, off, i, h => by
    simp only [List.length_cons] at h ⊢
    rw [setL, setL_get vs (l.set off v) (off + 1) i (by simp; omega)]
    by_cases h1 : off + 1 ≤ i ∧ i < off + 1 + vs.length
    · rw [if_pos h1, if_pos (by omega)]
      rw [show i - off = (i - (off + 1)) + 1 by omega, List.getElem?_cons_succ]
    · rw [if_neg h1, List.getElem?_set]
      by_cases h2 : off = i
      · subst h2
        rw [if_pos rfl, if_pos (by omega), if_pos (by omega)]
        simp
      · rw [if_neg h2, if_neg (by omega)]

theorem setCells_heap (b : Nat) : ∀ (vs : List Value) (o : Nat) (w : World), (w.setCells b o vs).heap.size = w.heap.size ∧ (w.setCells b o vs).os = w.os ∧ (w.setCells b o vs).tape = w.tape ∧ (w.setCells b o vs).output = w.output ∧
    ∀ k, k ≠ b → (w.setCells b o vs).heap[k]? = w.heap[k]?
  | [], _, _ => ⟨rfl, rfl, rfl, rfl, fun _ _ => rfl⟩
  | v :: vs, o, w => by
    obtain ⟨h1, h2, h3, h4, h5⟩ := setCells_heap b vs (o + 1) (w.setCell ⟨b, o, none⟩ v)
    rw [World.setCells]
    exact ⟨h1.trans (by simp), h2, h3, h4, fun k hk => (h5 k hk).trans (RowKit.Below.heap_setCell _ _ _ _ hk)⟩

theorem MRel.setCells {w : World} (hM : MRel ρ mem w) {k b s : Nat} {B : Blk} (hk : ρ k = some (b, s)) (hB : mem[k]? = some B) (ho : B.own = true) {off : Nat} {vs us : List Value} (hn : off + vs.length ≤ B.cells.length) (hp : PW (VR1 ρ) vs us) :
    MRel ρ (mem.set k { B with cells := setL B.cells off vs }) (w.setCells b (s + off) us) := by
  have hkl : k < mem.length := (List.getElem?_eq_some_iff.1 hB).1
  obtain ⟨hsz, _, _, _, hheap⟩ := setCells_heap b us (s + off) w
  have hcell0 : ∀ i, i < B.cells.length → (w.cell? ⟨b, s + i, none⟩).isSome = true := fun i hi => by
    obtain ⟨u, _, hw⟩ := hM.cellAt hk hB (List.getElem?_eq_getElem hi)
    rw [hw]; rfl
  refine ⟨fun j b' s' hj => ?_, fun j b' s' j' b'' s'' B' hj hj' hB' ho' hne => ?_, fun b' cs hh => ?_, ⟨fun b' x hx => ?_, fun j B' hB' hl => ?_⟩⟩
  case refine_4 =>
    have hL := hM.lists.lst b' x hx
    have hne : b' ≠ b := fun e => by subst e; exact hL.nomap k s hk
    refine hL.move (Nat.le_of_eq hsz.symm) (hheap b' hne) hL.nomap hL.noh fun B' hB' hl => ?_
    have hxk : x.k ≠ k := fun e => by
      rw [e, hB] at hB'
      cases hB'
      rw [Blk.isL_own ho] at hl
      cases hl
    exact ⟨B', [], by rw [List.getElem?_set_ne (Ne.symm hxk)]; exact hB', hl, (List.append_nil _).symm⟩
  case refine_5 =>
    by_cases hjk : j = k
    · subst hjk
      rw [List.getElem?_set_self hkl] at hB'
      cases hB'
      have hf : Blk.isL { B with cells := setL B.cells off vs } = false := Blk.isL_own ho
      rw [hf] at hl
      cases hl
    · rw [List.getElem?_set_ne (Ne.symm hjk)] at hB'
      exact hM.lists.lmap j B' hB' hl
  case refine_3 =>
    obtain ⟨h1, h2, h3⟩ := hM.froz b' cs hh
    have hbb : b' ≠ b := fun e => by
      subst e
      have := h3 k s B hk hB
      rw [ho] at this
      cases this
    refine ⟨by rw [hsz]; exact h1, fun i v hv => ?_, fun j s' B' hj hB' => ?_⟩
    · rw [World.cell?_setCells_out b us (s + off) w ⟨b', i, none⟩ (fun h _ => absurd h hbb)]
      exact h2 i v hv
    · by_cases hjk : j = k
      · subst hjk
        rw [hk] at hj
        cases hj
        exact absurd rfl hbb
      · rw [List.getElem?_set_ne (Ne.symm hjk)] at hB'
        exact h3 j s' B' hj hB'
  · by_cases hjk : j = k
    · subst hjk
      rw [hk] at hj
      cases hj
      refine ⟨_, List.getElem?_set_self hkl, ?_, fun i v hv => ?_⟩
      · obtain ⟨_, _, hlt, _⟩ := hM.cell j b s hk
        rw [hsz]; exact hlt
      · simp only at hv ⊢
        obtain ⟨B', hB', _, hold⟩ := hM.cell j b s hk
        rw [hB] at hB'
        cases hB'
        rw [setL_get _ _ _ _ hn] at hv
        split at hv
        · rename_i hi
          obtain ⟨u, hu, hR⟩ := hp.get hv
          have hil : i - off < us.length := (List.getElem?_eq_some_iff.1 hu).1
          have := World.cell?_setCells_in b us (s + off) w (fun q hq => by have := hcell0 (off + q) (by have := hp.1; omega); rwa [← Nat.add_assoc] at this) (i - off) hil
          refine ⟨⟨u, hR, ?_⟩, fun _ => ?_⟩
          · rw [show s + i = s + off + (i - off) by omega, this]
            rw [List.getElem?_eq_getElem hil] at hu
            exact hu
          · rw [World.frozen?_setCells]
            exact (hold i (B.cells[i]'(by omega)) (List.getElem?_eq_getElem _)).2 ho
        · rename_i hi
          obtain ⟨⟨u, hu, hw⟩, hf⟩ := hold i v hv
          refine ⟨⟨u, hu, ?_⟩, fun hh => by rw [World.frozen?_setCells]; exact hf hh⟩
          rw [World.cell?_setCells_out b us (s + off) w ⟨b, s + i, none⟩ (fun _ _ => by have := hp.1; simp only; omega)]
          exact hw
    · obtain ⟨B', hB', hlt, hold⟩ := hM.cell j b' s' hj
      have hbb : b ≠ b' := hM.apart k b s j b' s' B hk hj hB ho (Ne.symm hjk)
      refine ⟨B', by rw [List.getElem?_set_ne (Ne.symm hjk)]; exact hB', by rw [hsz]; exact hlt, fun i v hv => ?_⟩
      obtain ⟨⟨u, hu, hw⟩, hf⟩ := hold i v hv
      refine ⟨⟨u, hu, ?_⟩, fun hh => by rw [World.frozen?_setCells]; exact hf hh⟩
      rw [World.cell?_setCells_out b us (s + off) w ⟨b', s' + i, none⟩ (fun h _ => absurd h.symm hbb)]
      exact hw
  · by_cases hjk : j = k
    · subst hjk
      rw [hk] at hj
      cases hj
      exact hM.apart j b s j' b'' s'' B hk hj' hB ho hne
    · rw [List.getElem?_set_ne (Ne.symm hjk)] at hB'
      exact hM.apart j b' s' j' b'' s'' B' hj hj' hB' ho' hne

theorem Mv.setCells {w : World} {k b s : Nat} {B : Blk} (hk : ρ k = some (b, s)) (hB : mem[k]? = some B) (ho : B.own = true) (cs us : List Value) (o : Nat) :
    Mv ρ mem w ρ (mem.set k { B with cells := cs }) (w.setCells b o us) := by
  obtain ⟨hsz, h2, h3, h4, hheap⟩ := setCells_heap b us o w
  refine ⟨.refl _, (fun k x h h' => by rw [h] at h'; cases h'), fun j B' hB' => ?_, h2, h3, h4, Nat.le_of_eq hsz.symm, fun b' _ _ hb' => ?_, fun b cs h h' => (by rw [h] at h'; cases h'), fun b cs h h' => by rw [h] at h'; cases h'⟩
  · by_cases hjk : j = k
    · subst hjk
      rw [hB] at hB'
      cases hB'
      exact ⟨_, List.getElem?_set_self (List.getElem?_eq_some_iff.1 hB).1, rfl⟩
    · exact ⟨B', by rw [List.getElem?_set_ne (Ne.symm hjk)]; exact hB', rfl⟩
  · refine hheap b' fun e => ?_
    subst e
    have := hb' k s B hk hB
    rw [ho] at this
    cases this

def isTuple : Value → Bool
  | .tuple _ => true
  | _ => false
def storeOp (P : Program) (mem : Mem) (t : TypeId) (x y : Value) : Option (Bool × Mem) :=
  match x with
  | .pointer (some ⟨k, off, none⟩) =>
    match mem[k]? with
    | some B =>
      if B.own && (P.info? t).isSome && y.cells.toList.length == P.cellsOf t && !isTuple y then
        some (decide (off + y.cells.toList.length ≤ B.cells.length), mem.set k { B with cells := setL B.cells off y.cells.toList })
      else none
    | none => none
  | _ => none

theorem isOne_oneCell {v : Value} (h : isOne v = true) : v.oneCell' = true := by cases v <;> first | rfl | cases h

theorem storeOp_sound {t : TypeId} {x y ux uy : Value} {mem' : Mem} {w : World} (h : storeOp P mem t x y = some (true, mem')) (hx : VR ρ x ux) (hy : VR ρ y uy) (hM : MRel ρ mem w) :
    ∃ w', (Instr.storeAt t ux uy).run P w = .ok () w' ∧ MRel ρ mem' w' ∧ Mv ρ mem w ρ mem' w' := by
  unfold storeOp at h
  split at h
  · rename_i k off
    obtain ⟨b, s, hρ, rfl⟩ := VR_ptr.1 hx
    split at h
    · rename_i B hB
      split at h
      · rename_i hc
        simp only [Bool.and_eq_true, beq_iff_eq] at hc
        obtain ⟨hc, htup⟩ := hc
        have hn : ∀ vs, y ≠ .tuple vs := fun vs hvs => by rw [hvs] at htup; cases htup
        simp only [Option.some.injEq, Prod.mk.injEq, decide_eq_true_eq] at h
        obtain ⟨hlen, rfl⟩ := h
        obtain ⟨i, hi⟩ := Option.isSome_iff_exists.1 hc.1.2
        have hcells := ((VR_of2 (fun vs hvs => hn vs hvs)).1 hy).cells
        refine ⟨w.setCells b (s + off) uy.cells.toList, ?_, hM.setCells hρ hB hc.1.1 hlen hcells, Mv.setCells hρ hB hc.1.1 _ _ _⟩
        have hsize : uy.cells.size = P.cellsOf t := by have := hcells.1; simp at this; rw [← hc.2]; simp [this]
        obtain ⟨B', hB', _, hold⟩ := hM.cell k b s hρ
        rw [hB] at hB'
        cases hB'
        have hget : ∀ j, j < uy.cells.toList.length → off + j < B.cells.length := fun j hj => by have := hcells.1; omega
        have hst := run_storeCells_cells (P := P) b (s + off) uy.cells.toList 0 w
          (fun j hj => by obtain ⟨⟨u, _, hw⟩, _⟩ := hold (off + j) _ (List.getElem?_eq_getElem (hget j hj)); rw [Nat.add_zero, Nat.add_assoc, hw]; rfl)
          (fun j hj => by have := (hold (off + j) _ (List.getElem?_eq_getElem (hget j hj))).2 hc.1.1; rw [Nat.add_zero, Nat.add_assoc]; exact this)
          (fun c hc' => by
            obtain ⟨j, hj⟩ := List.getElem?_of_mem hc'
            have hjl : j < y.cells.toList.length := by have := hcells.1; have := (List.getElem?_eq_some_iff.1 hj).1; omega
            exact isOne_oneCell (hcells.2 j _ c (List.getElem?_eq_getElem hjl) hj).one)
        simp only [Nat.add_zero] at hst
        simp [Instr.storeAt, Instr.sureAddr, storeVar, run_sizeOf w hi, hsize, hst]
      · cases h
    · cases h
  · cases h
end
end Go.Ev
/-! Relative states, part F: copies, appends that find room, calls; one operation as a whole, and a region's operations in the order of the text. -/
namespace Go.Ev
section
variable {P : Program} {o : Oper} {E : Operand → Option Value} {v : Value} {ρ : Ren} {e : Operand → Value} {mem : Mem}

/-- Cells that are stored into a block of the code's own. -/
theorem store_row {w : World} {k b s : Nat} {B : Blk} (hM : MRel ρ mem w) (hk : ρ k = some (b, s)) (hB : mem[k]? = some B) (ho : B.own = true) {off : Nat} {vs us : List Value} (hn : off + vs.length ≤ B.cells.length) (hp : PW (VR1 ρ) vs us) :
    (storeCells ⟨b, s + off, none⟩ us).run P w = .ok () (w.setCells b (s + off) us) := by
  obtain ⟨B', hB', _, hold⟩ := hM.cell k b s hk
  rw [hB] at hB'
  cases hB'
  have hget : ∀ j, j < us.length → off + j < B.cells.length := fun j hj => by have := hp.1; omega
  have hst := run_storeCells_cells (P := P) b (s + off) us 0 w
    (fun j hj => by obtain ⟨⟨u, _, hw⟩, _⟩ := hold (off + j) _ (List.getElem?_eq_getElem (hget j hj)); rw [Nat.add_zero, Nat.add_assoc, hw]; rfl)
    (fun j hj => by have := (hold (off + j) _ (List.getElem?_eq_getElem (hget j hj))).2 ho; rw [Nat.add_zero, Nat.add_assoc]; exact this)
    (fun c hc' => by
      obtain ⟨j, hj⟩ := List.getElem?_of_mem hc'
      have hjl : j < vs.length := by have := hp.1; have := (List.getElem?_eq_some_iff.1 hj).1; omega
      exact isOne_oneCell (hp.2 j _ c (List.getElem?_eq_getElem hjl) hj).one)
  simpa using hst

def copyOp (P : Program) (mem : Mem) (dT : TypeId) (d x : Value) : Option (Bool × Mem × Value) :=
  match P.underlying dT, d, x with
  | some (.slice el), .slice (some ⟨k, off, none⟩) dLen _, .slice (some ⟨k2, off2, none⟩) sLen _ =>
    match mem[k]?, mem[k2]? with
    | some B, some B2 =>
      if B.own && (P.info? el).isSome then
        some (decide (off2 + Nat.min sLen dLen * P.cellsOf el ≤ B2.cells.length) && decide (off + Nat.min sLen dLen * P.cellsOf el ≤ B.cells.length),
          mem.set k { B with cells := setL B.cells off ((B2.cells.drop off2).take (Nat.min sLen dLen * P.cellsOf el)) }, .int .i64 (Nat.min sLen dLen))
      else none
    | _, _ => none
  | _, _, _ => none
theorem copyOp_sound {dT t : TypeId} {ts : Array TypeId} {d x ud ux : Value} {mem' : Mem} {w : World} (h : copyOp P mem dT d x = some (true, mem', v)) (hts : ts[0]? = some dT) (hd : VR ρ d ud) (hx : VR ρ x ux) (hM : MRel ρ mem w) :
    ∃ w', (Builtin.copy_ ts t #[ud, ux]).run P w = .ok v w' ∧ flat v = true ∧ MRel ρ mem' w' ∧ Mv ρ mem w ρ mem' w' := by
  unfold copyOp at h
  split at h
  · rename_i el k off dLen dCap k2 off2 sLen sCap ht
    obtain ⟨b, s, hρ, rfl⟩ := VR_slice.1 hd
    obtain ⟨b2, s2, hρ2, rfl⟩ := VR_slice.1 hx
    split at h
    · rename_i B B2 hB hB2
      split at h
      · rename_i hc
        simp only [Bool.and_eq_true] at hc
        simp only [Option.some.injEq, Prod.mk.injEq, Bool.and_eq_true, decide_eq_true_eq] at h
        obtain ⟨⟨h1, h2⟩, rfl, rfl⟩ := h
        obtain ⟨i, hi⟩ := Option.isSome_iff_exists.1 hc.2
        obtain ⟨us, hpw, hl, hcell⟩ := hM.row hρ2 hB2 h1
        have hlen : off + ((B2.cells.drop off2).take (Nat.min sLen dLen * P.cellsOf el)).length ≤ B.cells.length := by rw [hpw.1, hl]; exact h2
        have hload := run_loadCells_list (P := P) w ⟨b2, s2 + off2, none⟩ us (fun j v hv => by rw [Addr.add_lit]; exact hcell j v hv)
        rw [hl] at hload
        refine ⟨_, ?_, rfl, hM.setCells hρ hB hc.1 hlen hpw, Mv.setCells hρ hB hc.1 _ _ _⟩
        simp [Builtin.copy_, hts, run_underlying ht, Builtin.lenOf, Builtin.firstCells, run_sizeOf w hi, hload, store_row hM hρ hB hc.1 hlen hpw, goInt]
      · cases h
    · cases h
  · cases h

def appendOp (P : Program) (mem : Mem) (sT xT : TypeId) (d x : Value) : Option (Bool × Mem × Value) :=
  match P.underlying sT, P.underlying xT, d, x with
  | some (.slice el), some (.slice _), .slice (some ⟨k, off, none⟩) dLen cap, .slice (some ⟨k2, off2, none⟩) n _ =>
    match mem[k]?, mem[k2]? with
    | some B, some B2 =>
      if B.own && (P.info? el).isSome then
        some (decide (dLen + n ≤ cap) && decide (off2 + n * P.cellsOf el ≤ B2.cells.length) && decide (off + dLen * P.cellsOf el + n * P.cellsOf el ≤ B.cells.length),
          mem.set k { B with cells := setL B.cells (off + dLen * P.cellsOf el) ((B2.cells.drop off2).take (n * P.cellsOf el)) }, .slice (some ⟨k, off, none⟩) (dLen + n) cap)
      else none
    | _, _ => none
  | _, _, _, _ => none
theorem appendOp_sound {sT xT t : TypeId} {ts : Array TypeId} {d x ud ux : Value} {mem' : Mem} {w : World} (h : appendOp P mem sT xT d x = some (true, mem', v)) (hts : ts = #[sT, xT]) (hd : VR ρ d ud) (hx : VR ρ x ux) (hM : MRel ρ mem w) :
    ∃ w' u, (Builtin.append_ ts t #[ud, ux]).run P w = .ok u w' ∧ VR ρ v u ∧ MRel ρ mem' w' ∧ Mv ρ mem w ρ mem' w' := by
  unfold appendOp at h
  split at h
  · rename_i el xe k off dLen cap k2 off2 n xc ht hxt
    obtain ⟨b, s, hρ, rfl⟩ := VR_slice.1 hd
    obtain ⟨b2, s2, hρ2, rfl⟩ := VR_slice.1 hx
    split at h
    · rename_i B B2 hB hB2
      split at h
      · rename_i hc
        simp only [Bool.and_eq_true] at hc
        simp only [Option.some.injEq, Prod.mk.injEq, Bool.and_eq_true, decide_eq_true_eq] at h
        obtain ⟨⟨⟨h0, h1⟩, h2⟩, rfl, rfl⟩ := h
        obtain ⟨i, hi⟩ := Option.isSome_iff_exists.1 hc.2
        obtain ⟨us, hpw, hl, hcell⟩ := hM.row hρ2 hB2 h1
        have hlen : off + dLen * P.cellsOf el + ((B2.cells.drop off2).take (n * P.cellsOf el)).length ≤ B.cells.length := by rw [hpw.1, hl]; exact h2
        have hload := run_loadCells_list (P := P) w ⟨b2, s2 + off2, none⟩ us (fun j v hv => by rw [Addr.add_lit]; exact hcell j v hv)
        rw [hl] at hload
        have hst := store_row (P := P) hM hρ hB hc.1 hlen hpw
        rw [← Nat.add_assoc] at hst
        have hset := hM.setCells hρ hB hc.1 hlen hpw
        rw [← Nat.add_assoc] at hset
        refine ⟨_, _, ?_, VR_slice.2 ⟨b, s, hρ, rfl⟩, hset, Mv.setCells hρ hB hc.1 _ _ _⟩
        subst hts
        simp [Builtin.append_, run_underlying ht, run_underlying hxt, Builtin.lenOf, Builtin.firstCells, run_sizeOf w hi, h0, hload, Addr.add_lit, hst]
      · cases h
    · cases h
  · cases h

/-! ### Lists that grow -/
def appendLOp (P : Program) (mem : Mem) (sT xT : TypeId) (d x : Value) : Option (Bool × Mem × Value) :=
  match P.underlying sT, d, x with
  | some (.slice el), .iface k (.slice none l (z + 1)), .slice (some ⟨k2, off2, none⟩) n _ =>
    match P.info? el, mem[k]?, mem[k2]? with
    | some i, some B, some B2 => match i.zero with
      | some zv =>
        if ((Nat.beq sT xT && Nat.beq i.size (z + 1)) && (Nat.beq zv.cells.size (z + 1) && B.isL)) && ((B2.cells.drop off2).take (n * (z + 1))).all flat1 then
          some (Nat.ble 1 n && Nat.beq B.cells.length (l * (z + 1)) && Nat.ble (off2 + n * (z + 1)) B2.cells.length && Nat.ble (l + n) 140737488355328 && Nat.ble ((l + n) * i.bytes) 140737488355328,
            mem.set k { B with cells := B.cells ++ (B2.cells.drop off2).take (n * (z + 1)) }, .iface k (.slice none (l + n) (z + 1)))
        else none
      | none => none
    | _, _, _ => none
  | _, _, _ => none
def Ren.putG (ρ : Ren) (b : Nat) (x : Lst) : Ren := ⟨ρ.m, ρ.h, ρ.d, fun j => if j = b then some x else ρ.g j⟩
theorem putG_some {b b' : Nat} {x y : Lst} (h : (ρ.putG b x).g b' = some y) : (b' = b ∧ y = x) ∨ (b' ≠ b ∧ ρ.g b' = some y) := by
  have h' : (if b' = b then some x else ρ.g b') = some y := h
  split at h'
  · rename_i e; cases h'; exact .inl ⟨e, rfl⟩
  · rename_i e; exact .inr ⟨e, h'⟩
theorem putG_self {b : Nat} {x : Lst} : (ρ.putG b x).g b = some x := if_pos rfl
theorem putG_le {b : Nat} {x : Lst} (h : ∀ y, ρ.g b = some y → y.le x) : ρ.le (ρ.putG b x) := ⟨fun _ _ h => h, fun _ _ h => h, rfl, fun b' y hy => by
  by_cases e : b' = b
  · subst e; exact ⟨x, putG_self, h y hy⟩
  · exact ⟨y, (if_neg e).trans hy, .refl y⟩⟩
theorem getElem?_app {α : Type} {l m : List α} {i : Nat} {a : α} (h : (l ++ m)[i]? = some a) : l[i]? = some a ∨ (l.length ≤ i ∧ m[i - l.length]? = some a) := by
  rcases Nat.lt_or_ge i l.length with hi | hi
  · rw [List.getElem?_append_left hi] at h; exact .inl h
  · rw [List.getElem?_append_right hi] at h; exact .inr ⟨hi, h⟩
section
variable {w : World} {k : Nat} {B : Blk}
theorem MRel.notList (hM : MRel ρ mem w) (hB : mem[k]? = some B) (hl : B.isL = true) {j : Nat} {x : Nat × Nat} (hj : ρ j = some x) : j ≠ k := fun e => by
  subst e
  rw [hM.lists.lmap _ B hB hl] at hj
  cases hj
theorem kept_set (hB : mem[k]? = some B) (cs : List Value) : ∀ (j : Nat) (D : Blk), mem[j]? = some D → ∃ D' : Blk, (mem.set k { B with cells := cs })[j]? = some D' ∧ D'.own = D.own := fun j D hD => by
  by_cases e : j = k
  · subst e
    rw [hB] at hD
    cases hD
    exact ⟨_, List.getElem?_set_self (List.getElem?_eq_some_iff.1 hB).1, rfl⟩
  · exact ⟨D, by rw [List.getElem?_set_ne (Ne.symm e)]; exact hD, rfl⟩
theorem list_set (hB : mem[k]? = some B) (new : List Value) : ∀ (j : Nat) (D : Blk), mem[j]? = some D → D.isL = true → ∃ (D' : Blk) (t : List Value), (mem.set k { B with cells := B.cells ++ new })[j]? = some D' ∧ D'.isL = true ∧ D'.cells = D.cells ++ t := fun j D hD hl => by
  by_cases e : j = k
  · subst e
    rw [hB] at hD
    cases hD
    exact ⟨_, new, List.getElem?_set_self (List.getElem?_eq_some_iff.1 hB).1, hl, rfl⟩
  · exact ⟨D, [], by rw [List.getElem?_set_ne (Ne.symm e)]; exact hD, hl, (List.append_nil _).symm⟩
theorem lmap_set (hM : MRel ρ mem w) (hB : mem[k]? = some B) (hl : B.isL = true) (cs : List Value) : ∀ (j : Nat) (D : Blk), (mem.set k { B with cells := cs })[j]? = some D → D.isL = true → ρ j = none := fun j D hD hd => by
  by_cases e : j = k
  · subst e; exact hM.lists.lmap j B hB hl
  · rw [List.getElem?_set_ne (Ne.symm e)] at hD
    exact hM.lists.lmap j D hD hd
/-- A list in a new block. -/
theorem MRel.growL (hM : MRel ρ mem w) (hB : mem[k]? = some B) (hl : B.isL = true) {new t : List Value} (sz cap : Nat) {ca : Array Value} {el : TypeId} (hca : ca.toList = B.cells ++ new ++ t) (hf : ∀ v ∈ B.cells ++ new, flat1 v = true) (hcap : cap ≤ ca.size) :
    MRel (ρ.putG w.heap.size ⟨k, sz, cap, B.cells ++ new⟩) (mem.set k { B with cells := B.cells ++ new }) (w.alloc (.cells ca el)) ∧ Mv ρ mem w (ρ.putG w.heap.size ⟨k, sz, cap, B.cells ++ new⟩) (mem.set k { B with cells := B.cells ++ new }) (w.alloc (.cells ca el)) := by
  have hkl : k < mem.length := (List.getElem?_eq_some_iff.1 hB).1
  have hle : ρ.le (ρ.putG w.heap.size ⟨k, sz, cap, B.cells ++ new⟩) := putG_le fun y hy => by
    have := (hM.lists.lst _ y hy).lt
    omega
  refine ⟨⟨fun j b s hj => ?_, fun j b s j' b' s' D hj hj' hD ho hne => ?_, fun b cs' hh => ?_, ⟨fun b x hx => ?_, lmap_set hM hB hl _⟩⟩,
    ⟨hle, fun j x h h' => (by rw [show ρ j = some x from h] at h'; cases h'), kept_set hB _, rfl, rfl, rfl, by simp, fun b hb _ _ => RowKit.Below.heap_alloc _ _ _ hb, fun b cs h h' => (by rw [show ρ.h b = some cs from h] at h'; cases h'), fun b x hx h0 => ?_⟩⟩
  · have hj0 : ρ j = some (b, s) := hj
    have hjk := hM.notList hB hl hj0
    obtain ⟨D, hD, hlt, hcell⟩ := hM.cell j b s hj0
    refine ⟨D, by rw [List.getElem?_set_ne (Ne.symm hjk)]; exact hD, by simp; omega, fun i v hv => ?_⟩
    obtain ⟨⟨u, hu, hw⟩, hf⟩ := hcell i v hv
    exact ⟨⟨u, hu.mono hle, by rw [World.cell?_alloc_lt _ _ _ hlt]; exact hw⟩, fun ho => by rw [World.frozen?_alloc_old _ _ _ (by simp; omega)]; exact hf ho⟩
  · have hj0 : ρ j = some (b, s) := hj
    rw [List.getElem?_set_ne (Ne.symm (hM.notList hB hl hj0))] at hD
    exact hM.apart j b s j' b' s' D hj hj' hD ho hne
  · obtain ⟨h1, h2, h3⟩ := hM.froz b cs' hh
    refine ⟨by simp; omega, fun i v hv => by rw [World.cell?_alloc_lt _ _ _ h1]; exact h2 i v hv, fun j s' D hj hD => ?_⟩
    have hj0 : ρ j = some (b, s') := hj
    rw [List.getElem?_set_ne (Ne.symm (hM.notList hB hl hj0))] at hD
    exact h3 j s' D hj0 hD
  · rcases putG_some hx with ⟨rfl, rfl⟩ | ⟨hne, hx⟩
    · refine ⟨by simp, fun i v hv => ⟨hf v (List.mem_of_getElem? hv), ?_⟩, fun i hi => ⟨?_, by simp⟩, fun j s hj => ?_, ?_, ⟨_, [], List.getElem?_set_self hkl, hl, (List.append_nil _).symm⟩⟩
      · rw [World.cell?_alloc_new, ← Array.getElem?_toList, hca, List.getElem?_append_left (List.getElem?_eq_some_iff.1 hv).1]
        exact hv
      · rw [World.cell?_alloc_new, Array.getElem?_eq_getElem (Nat.lt_of_lt_of_le hi hcap)]
        rfl
      · obtain ⟨_, _, hlt, _⟩ := hM.cell j _ s hj
        omega
      · show ρ.h w.heap.size = none
        cases hc : ρ.h w.heap.size with
        | none => rfl
        | some cs => have := (hM.froz _ cs hc).1; omega
    · have hL := hM.lists.lst b x hx
      exact hL.move (by simp) (RowKit.Below.heap_alloc _ _ _ hL.lt) hL.nomap hL.noh (list_set hB new _)
  · rcases putG_some hx with ⟨rfl, _⟩ | ⟨_, hx⟩
    · exact Nat.le_refl _
    · rw [h0] at hx; cases hx
/-- A list that finds room. -/
theorem MRel.roomL (hM : MRel ρ mem w) (hB : mem[k]? = some B) (hl : B.isL = true) {b : Nat} {x : Lst} (hg : ρ.g b = some x) (hk : x.k = k) (hcs : x.cs = B.cells) {new : List Value} (hf : ∀ v ∈ new, flat1 v = true) (hroom : B.cells.length + new.length ≤ x.cap) :
    MRel (ρ.putG b ⟨x.k, x.sz, x.cap, B.cells ++ new⟩) (mem.set k { B with cells := B.cells ++ new }) (w.setCells b B.cells.length new) ∧ Mv ρ mem w (ρ.putG b ⟨x.k, x.sz, x.cap, B.cells ++ new⟩) (mem.set k { B with cells := B.cells ++ new }) (w.setCells b B.cells.length new) := by
  have hkl : k < mem.length := (List.getElem?_eq_some_iff.1 hB).1
  have hLb := hM.lists.lst b x hg
  obtain ⟨hsz, ho1, ho2, ho3, hheap⟩ := setCells_heap b new B.cells.length w
  have hin := World.cell?_setCells_in b new B.cells.length w fun j hj => (hLb.room _ (by omega)).1
  have hle : ρ.le (ρ.putG b ⟨x.k, x.sz, x.cap, B.cells ++ new⟩) := putG_le fun y hy => by
    rw [hg] at hy
    cases hy
    exact ⟨rfl, rfl, rfl, new, by rw [hcs]⟩
  have hout : ∀ b' i, b' ≠ b → (w.setCells b B.cells.length new).cell? ⟨b', i, none⟩ = w.cell? ⟨b', i, none⟩ := fun b' i hne => World.cell?_setCells_out b new _ w _ fun h _ => absurd h hne
  refine ⟨⟨fun j b' s hj => ?_, fun j b' s j' b'' s' D hj hj' hD ho hne => ?_, fun b' cs' hh => ?_, ⟨fun b' y hy => ?_, lmap_set hM hB hl _⟩⟩,
    ⟨hle, fun j x h h' => (by rw [show ρ j = some x from h] at h'; cases h'), kept_set hB _, ho1, ho2, ho3, Nat.le_of_eq hsz.symm, fun b' _ h0 _ => hheap b' fun e => (by subst e; rw [hg] at h0; cases h0), fun b cs h h' => (by rw [show ρ.h b = some cs from h] at h'; cases h'), fun b' y hy h0 => ?_⟩⟩
  · have hj0 : ρ j = some (b', s) := hj
    have hne : b' ≠ b := fun e => by subst e; exact hLb.nomap j s hj0
    obtain ⟨D, hD, hlt, hcell⟩ := hM.cell j b' s hj0
    refine ⟨D, by rw [List.getElem?_set_ne (Ne.symm (hM.notList hB hl hj0))]; exact hD, by rw [hsz]; exact hlt, fun i v hv => ?_⟩
    obtain ⟨⟨u, hu, hw⟩, hf⟩ := hcell i v hv
    exact ⟨⟨u, hu.mono hle, by rw [hout _ _ hne]; exact hw⟩, fun ho => by rw [World.frozen?_setCells]; exact hf ho⟩
  · have hj0 : ρ j = some (b', s) := hj
    rw [List.getElem?_set_ne (Ne.symm (hM.notList hB hl hj0))] at hD
    exact hM.apart j b' s j' b'' s' D hj hj' hD ho hne
  · have hh0 : ρ.h b' = some cs' := hh
    obtain ⟨h1, h2, h3⟩ := hM.froz b' cs' hh0
    have hne : b' ≠ b := fun e => by subst e; rw [hLb.noh] at hh0; cases hh0
    refine ⟨by rw [hsz]; exact h1, fun i v hv => by rw [hout _ _ hne]; exact h2 i v hv, fun j s' D hj hD => ?_⟩
    have hj0 : ρ j = some (b', s') := hj
    rw [List.getElem?_set_ne (Ne.symm (hM.notList hB hl hj0))] at hD
    exact h3 j s' D hj0 hD
  · rcases putG_some hy with ⟨rfl, rfl⟩ | ⟨hne, hy⟩
    · have hcell : ∀ i, i < B.cells.length → (w.setCells b' B.cells.length new).cell? ⟨b', i, none⟩ = w.cell? ⟨b', i, none⟩ := fun i hi => World.cell?_setCells_out b' new _ w _ fun _ _ => .inl hi
      refine ⟨by rw [hsz]; exact hLb.lt, fun i v hv => ?_, fun i hi => ⟨?_, by rw [World.frozen?_setCells]; exact (hLb.room i hi).2⟩, hLb.nomap, hLb.noh, ⟨{ B with cells := B.cells ++ new }, [], by rw [hk]; exact List.getElem?_set_self hkl, hl, (List.append_nil _).symm⟩⟩
      · rcases getElem?_app hv with hv | ⟨hi, hv⟩
        · obtain ⟨h1, h2⟩ := hLb.cells i v (by rw [hcs]; exact hv)
          exact ⟨h1, by rw [hcell i (List.getElem?_eq_some_iff.1 hv).1]; exact h2⟩
        · refine ⟨hf v (List.mem_of_getElem? hv), ?_⟩
          have hil := (List.getElem?_eq_some_iff.1 hv).1
          have := hin (i - B.cells.length) hil
          rw [Nat.add_sub_cancel' hi] at this
          rw [this, ← hv, List.getElem?_eq_getElem hil]
      · by_cases h1 : B.cells.length ≤ i ∧ i < B.cells.length + new.length
        · have := hin (i - B.cells.length) (by omega)
          rw [Nat.add_sub_cancel' h1.1] at this
          rw [this]
          rfl
        · rw [World.cell?_setCells_out b' new _ w _ fun _ _ => by simp only; omega]
          exact (hLb.room i hi).1
    · have hL := hM.lists.lst b' y hy
      exact hL.move (Nat.le_of_eq hsz.symm) (hheap b' hne) hL.nomap hL.noh (list_set hB new _)
  · rcases putG_some hy with ⟨rfl, _⟩ | ⟨_, hy⟩
    · rw [hg] at h0; cases h0
    · rw [h0] at hy; cases hy
end
theorem appendLOp_sound {sT xT t : TypeId} {d x ud ux : Value} {mem' : Mem} {w : World} (h : appendLOp P mem sT xT d x = some (true, mem', v)) (hd : VR ρ d ud) (hx : VR ρ x ux) (hM : MRel ρ mem w) :
    ∃ w' u ρ', (Builtin.append_ #[sT, xT] t #[ud, ux]).run P w = .ok u w' ∧ VR ρ' v u ∧ MRel ρ' mem' w' ∧ Mv ρ mem w ρ' mem' w' := by
  unfold appendLOp at h
  split at h
  · rename_i el k l z k2 off2 n xc ht
    split at h
    · rename_i i B B2 hi hB hB2
      split at h
      · rename_i zv hz
        split at h
        · rename_i hc
          simp only [Bool.and_eq_true] at hc
          obtain ⟨⟨⟨e1, e2⟩, e3, hl⟩, hnf⟩ := hc
          simp only [Option.some.injEq, Prod.mk.injEq, Bool.and_eq_true, Nat.ble_eq] at h
          obtain ⟨⟨⟨⟨⟨h1, e4⟩, h3⟩, h4⟩, h5⟩, rfl, rfl⟩ := h
          have hs := Nat.eq_of_beq_eq_true e2
          have hzs := Nat.eq_of_beq_eq_true e3
          have h2 := Nat.eq_of_beq_eq_true e4
          obtain rfl : sT = xT := Nat.eq_of_beq_eq_true e1
          obtain ⟨b2, s2, hρ2, rfl⟩ := VR_slice.1 hx
          obtain ⟨us, hpw, hlu, hcell⟩ := hM.row hρ2 hB2 h3
          generalize hnew : (B2.cells.drop off2).take (n * (z + 1)) = new at *
          obtain rfl : us = new := (PW_flat (fun _ _ => VR1_flat) hnf).1 hpw
          have hfn : ∀ v ∈ us, flat1 v = true := fun v hv => List.all_eq_true.1 hnf v hv
          have hadd : ∀ j v, us[j]? = some v → w.cell? ((⟨b2, s2 + off2, none⟩ : Addr).add j) = some v := fun j v hv => by rw [Addr.add_lit]; exact hcell j v hv
          have hMd : MRel ρ mem w.drew := ⟨hM.cell, hM.apart, hM.froz, hM.lists.heap (Nat.le_refl _) fun _ _ _ => rfl⟩
          have hsize : ∀ m, (Builtin.zeroCells zv.cells m).size = m * (z + 1) := fun m => by rw [size_zeroCells, hzs]
          obtain ⟨a, c, rfl, hlc, hor⟩ := VR_lst.1 hd
          rcases hor with ⟨rfl, rfl⟩ | ⟨b, x, rfl, hg, hxk, hxs, hcap, hlen⟩
          · obtain rfl : l = 0 := by omega
            have hBn : B.cells = [] := List.length_eq_zero_iff.1 (by rw [h2, Nat.zero_mul])
            have hrun := run_append_nil (P := P) w sT t el i zv ht hi hz ⟨b2, s2 + off2, none⟩ n xc us (by rw [hs, hlu]) hadd h1 (by omega) (by rw [Nat.zero_add] at h5; omega)
            have hge := grownCap_ge w n 0 el
            obtain ⟨m1, m2⟩ := hMd.growL hB hl (new := us) (z + 1) (grownCap w n 0 el * (z + 1)) (ca := us.toArray ++ Builtin.zeroCells zv.cells (grownCap w n 0 el - n)) (el := el) (t := (Builtin.zeroCells zv.cells (grownCap w n 0 el - n)).toList)
              (by rw [hBn]; simp) (fun v hv => hfn v (by rw [hBn] at hv; simpa using hv)) (by
                rw [Array.size_append, hsize, List.size_toArray, hlu, ← Nat.add_mul, Nat.add_sub_cancel' hge]
                exact Nat.le_refl _)
            refine ⟨_, _, _, hrun, VR_lst.2 ⟨_, _, (by rw [Nat.zero_add]; rfl), by omega, .inr ⟨_, _, rfl, putG_self, rfl, rfl, Nat.le_refl _, ?_⟩⟩, m1, ⟨m2.sub, m2.new, m2.kept, m2.os, m2.tape, m2.output, m2.size, m2.block, m2.newh, m2.newg⟩⟩
            simp only [List.length_append, h2, hlu, ← Nat.add_mul]
            exact Nat.le_refl _
          · obtain ⟨B', tl, hB', _, htl⟩ := (hM.lists.lst b x hg).list
            rw [hxk, hB] at hB'
            cases hB'
            have htn : tl = [] := List.length_eq_zero_iff.1 (by have := congrArg List.length htl; rw [List.length_append] at this; omega)
            have hxc : x.cs = B.cells := by rw [htl, htn, List.append_nil]
            have hLb := hM.lists.lst b x hg
            by_cases hroom : l + n ≤ c
            · have hrm : B.cells.length + us.length ≤ x.cap := by
                rw [h2, hlu, ← Nat.add_mul]
                exact Nat.le_trans (Nat.mul_le_mul_right _ hroom) hcap
              obtain ⟨m1, m2⟩ := hM.roomL hB hl hg hxk hxc hfn hrm
              have hload := run_loadCells_list (P := P) w ⟨b2, s2 + off2, none⟩ us hadd
              rw [hlu] at hload
              have hst := run_storeCells_cells (P := P) b B.cells.length us 0 w (fun j hj => by rw [Nat.add_zero]; exact (hLb.room _ (by omega)).1) (fun j hj => by rw [Nat.add_zero]; exact (hLb.room _ (by omega)).2) (fun v hv => isOne_oneCell (flat1_cells (hfn v hv)).2)
              rw [Nat.add_zero] at hst
              have hco : P.cellsOf el = z + 1 := by rw [← hs]; simp [Program.cellsOf, hi]
              refine ⟨_, .slice (some ⟨b, 0, none⟩) (l + n) c, ρ.putG b ⟨x.k, x.sz, x.cap, B.cells ++ us⟩, ?_, VR_lst.2 ⟨_, _, rfl, hroom, .inr ⟨b, _, rfl, putG_self, hxk, hxs, hcap, ?_⟩⟩, m1, m2⟩
              · simp [Builtin.append_, run_underlying ht, Builtin.lenOf, Builtin.firstCells, run_sizeOf w hi, hroom, hco, hload, Addr.add_lit, ← h2, hst]
              · simp only [List.length_append, h2, hlu, ← Nat.add_mul]
                exact Nat.le_refl _
            · have hrun := run_append_grow (P := P) w sT t el i zv ht hi hz ⟨b, 0, none⟩ l c B.cells (by rw [hs, h2]) (fun j v hv => by rw [Addr.add_lit, Nat.zero_add]; exact (hLb.cells j v (by rw [hxc]; exact hv)).2) ⟨b2, s2 + off2, none⟩ n xc us (by rw [hs, hlu]) hadd (by omega) (by omega) (growslice_fits (by omega) h5)
              have hge := grownCap_ge w (l + n) c el
              obtain ⟨m1, m2⟩ := hMd.growL hB hl (new := us) (z + 1) (grownCap w (l + n) c el * (z + 1)) (ca := B.cells.toArray ++ us.toArray ++ Builtin.zeroCells zv.cells (grownCap w (l + n) c el - (l + n))) (el := el) (t := (Builtin.zeroCells zv.cells (grownCap w (l + n) c el - (l + n))).toList)
                (by simp) (fun v hv => (List.mem_append.1 hv).elim (fun h => by
                  obtain ⟨j, hj⟩ := List.mem_iff_getElem?.1 h
                  exact (hLb.cells j v (by rw [hxc]; exact hj)).1) (hfn v)) (by
                  rw [Array.size_append, Array.size_append, hsize, List.size_toArray, List.size_toArray, hlu, h2, ← Nat.add_mul, ← Nat.add_mul, Nat.add_sub_cancel' hge]
                  exact Nat.le_refl _)
              refine ⟨_, _, _, hrun, VR_lst.2 ⟨_, _, rfl, by omega, .inr ⟨_, _, rfl, putG_self, rfl, rfl, Nat.le_refl _, ?_⟩⟩, m1, ⟨m2.sub, m2.new, m2.kept, m2.os, m2.tape, m2.output, m2.size, m2.block, m2.newh, m2.newg⟩⟩
              simp only [List.length_append, h2, hlu, ← Nat.add_mul]
              exact Nat.le_refl _
        · cases h
      · cases h
    · cases h
  · cases h

/-! ### Bytes as a string -/
def isByte : Value → Bool
  | .int .u8 _ => true
  | _ => false
def intOf : Value → Int
  | .int _ n => n
  | _ => 0
/-- The string of these bytes. -/
def strOf (ns : List Int) : ByteArray := ns.foldl (fun r n => r.push (UInt8.ofNat n.toNat)) ByteArray.empty
theorem bytes_back : ∀ {l : List Value}, l.all isByte = true → l = (l.map intOf).map (Value.int .u8)
  | [], _ => rfl
  | v :: l, h => by
    simp only [List.all_cons, Bool.and_eq_true] at h
    rw [List.map_cons, List.map_cons, ← bytes_back h.2]
    unfold isByte at h
    split at h
    · rfl
    · exact absurd h.1 (by simp)
theorem bytes_flat {l : List Value} (h : l.all isByte = true) : l.all flat1 = true := by
  rw [List.all_eq_true] at *
  intro v hv
  have := h v hv
  unfold isByte at this
  split at this
  · rfl
  · cases this
def textOp (P : Program) (mem : Mem) (src dst : TypeId) (x : Value) : Option (Bool × Value) :=
  match P.underlying src, P.underlying dst, x with
  | some (.slice el), some .string, .slice (some ⟨k, off, none⟩) n _ =>
    match P.underlying el, mem[k]? with
    | some (.int .u8), some B => some (decide (off + n ≤ B.cells.length) && ((B.cells.drop off).take n).all isByte, .string (strOf (((B.cells.drop off).take n).map intOf)))
    | _, _ => none
  | _, _, _ => none
theorem textOp_sound {M : Mem} {src dst : TypeId} {x u : Value} {w : World} (h : textOp P mem src dst x = some (true, v)) (hMm : ∀ (k : Nat) (B : Blk), mem[k]? = some B → M[k]? = some B) (hx : VR ρ x u) (hM : MRel ρ M w) :
    ∃ r, VR ρ v r ∧ (convert src dst u).run P w = .ok r w := by
  unfold textOp at h
  split at h
  · rename_i el k off n cap hs hd
    obtain ⟨b, s, hρ, rfl⟩ := VR_slice.1 hx
    split at h
    · rename_i B he hB
      simp only [Option.some.injEq, Prod.mk.injEq, Bool.and_eq_true, decide_eq_true_eq] at h
      obtain ⟨⟨h0, h1⟩, rfl⟩ := h
      obtain ⟨us, hpw, hl, hcell⟩ := hM.row hρ (hMm _ _ hB) h0
      rw [PW_flat (fun _ _ => VR1_flat) (bytes_flat h1)] at hpw
      have hload := run_loadCells_list (P := P) w ⟨b, s + off, none⟩ us (fun j v hv => by rw [Addr.add_lit]; exact hcell j v hv)
      rw [hl] at hload
      rw [hpw, bytes_back h1] at hload
      refine ⟨_, (VR_flat rfl).2 rfl, ?_⟩
      rw [run_convert_bytes_string w src dst el _ n cap hs he hd, run_bytesToString w _ n cap _ hload]
      rfl
    · cases h
  · cases h

/-! ### Calls -/
/-- The function that a call goes to, and its arguments. -/
def calleeOf (E : Operand → Option Value) (c : Call) : Option (FuncId × List Value) :=
  match c.callee with
  | .value f => match E f, c.args.toList.mapM E with
    | some (.func (.func g) first captured), some vs => some (g, first.toList ++ vs ++ captured.toList)
    | _, _ => none
  | _ => none

/-- A call that answers v and touches nothing that was there. -/
def QC (P : Program) (g : FuncId) (args : List Value) (v : Value) : Prop :=
  (∀ w, (callFunc g args.toArray).run P w = .ok (.value v) w) ∨ ((∀ w, (callFunc g args.toArray).run P w = .ok (.enter g args.toArray) w) ∧ PC P g args v)

/-- A call that answers v and leaves the memory mem'. -/
def MC (P : Program) (g : FuncId) (args : List Value) (mem : Mem) (v : Value) (mem' : Mem) : Prop :=
  (∀ us w, (callFunc g us).run P w = .ok (.enter g us) w) ∧ CT P g args mem fun v' m' => v' = v ∧ m' = mem'

/-- A call that turns block k from C into B, in whatever memory, and touches nothing else that was there. -/
def QO (P : Program) (g : FuncId) (args : List Value) (v : Value) (k : Nat) (C B : Blk) : Prop :=
  (∀ us w, (callFunc g us).run P w = .ok (.enter g us) w) ∧ ∀ M : Mem, M[k]? = some C → ∀ ρ w us, PW (VR ρ) args us → MRel ρ M w →
    Calls P g us.toArray w fun e w' => ∃ u, e = .returned u ∧ VR ρ v u ∧ MRel ρ (M.set k B) w' ∧ Mv ρ M w ρ (M.set k B) w'

inductive Ans where
  | auto
  | tst (b : Bool)
  | res (v : Value)
  | rd (v : Value)
  | ab (v : Value)
  | tk (N : Nat)
  | own (k : Nat) (v : Value) (B : Blk)
  | mem (v : Value) (m : Mem)
  | add (v : Value) (l : Mem)
  | at (n : Nat) (v : Value)
  | is (n : Nat) (v : Value)
  | cut (live : List Nat) (e : Exit) (S : St)

inductive Eff where
  | pure
  | read
  | new (B : Blk)
  | write (m : Mem)
  | adds (l : Mem)
  | own (k : Nat) (B : Blk)

/-- A part of the relation that the first blocks have. -/
def preG (n : Nat) (g : Nat → Option Lst) (b : Nat) : Option Lst := match g b with | some x => if x.k < n then some x else none | none => none
theorem preG_some {n b : Nat} {g : Nat → Option Lst} {x : Lst} : preG n g b = some x ↔ g b = some x ∧ x.k < n := by
  unfold preG
  split
  · rename_i y hy
    split
    · rename_i h; constructor
      · intro e; cases e; exact ⟨hy, h⟩
      · rintro ⟨e, _⟩; rw [hy] at e; exact e
    · rename_i h; constructor
      · intro e; cases e
      · rintro ⟨e, h2⟩; rw [hy] at e; cases e; exact absurd h2 h
  · rename_i hy; rw [hy]; constructor
    · intro e; cases e
    · rintro ⟨e, _⟩; cases e
theorem preG_none {n b : Nat} {g : Nat → Option Lst} (h : g b = none) : preG n g b = none := by unfold preG; rw [h]
def preR (n : Nat) (ρ : Ren) : Ren := ⟨fun k => if k < n then ρ k else none, ρ.h, ρ.d, preG n ρ.g⟩
theorem preR_some {n k : Nat} {ρ : Ren} {x : Nat × Nat} : preR n ρ k = some x ↔ k < n ∧ ρ k = some x := by
  show (if k < n then ρ k else none) = some x ↔ _
  by_cases h : k < n
  · rw [if_pos h]; exact ⟨fun e => ⟨h, e⟩, fun e => e.2⟩
  · rw [if_neg h]; exact ⟨fun e => (by cases e), fun e => absurd e.1 h⟩
/-- Does a value keep to the first n blocks? -/
def low0 (n : Nat) : Value → Bool
  | .pointer (some a) => decide (a.block < n)
  | _ => true
def low1 (n : Nat) : Value → Bool
  | .pointer (some a) => decide (a.block < n)
  | .slice (some a) _ _ => decide (a.block < n)
  | .func _ x y => x.toList.all (low0 n) && y.toList.all (low0 n)
  | .iface k (.slice none _ (_ + 1)) => decide (k < n)
  | .iface _ (.iface (_ + 2) _) => false
  | _ => true
def low2 (n : Nat) : Value → Bool
  | .agg cs => cs.toList.all (low1 n)
  | v => low1 n v
def lowV (n : Nat) : Value → Bool
  | .tuple vs => !isWild vs.toList && vs.toList.all (low2 n)
  | v => low2 n v
theorem rPL_pre {n : Nat} {ρ : Ren} : ∀ {l us : List Value}, rPL ρ l = some us → l.all (low0 n) = true → rPL (preR n ρ) l = some us
  | [], us, h, _ => h
  | v :: l, us, h, hv => by
    simp only [List.all_cons, Bool.and_eq_true] at hv
    unfold rPL at h
    split at h
    · rename_i u us' h1 h2
      cases h
      have h3 : rP (preR n ρ) v = some u := by
        cases v with
        | pointer a => cases a with
          | none => exact h1
          | some a =>
            have ha : a.block < n := by simpa [low0] using hv.1
            unfold rP rA preR at *
            simp only [if_pos ha] at *
            exact h1
        | slice a l c => cases a with
          | none => exact h1
          | some a => cases h1
        | iface t v => cases v with
          | chan r => cases r with | none => exact h1 | some r => cases h1
          | map r => cases r with | none => exact h1 | some r => cases h1
          | slice a l c => cases a with
            | none => cases c with | zero => exact h1 | succ c => cases h1
            | some a => exact h1
          | _ => exact h1
        | _ => exact h1
      simp only [rPL, h3, rPL_pre h2 hv.2]
    · cases h
theorem tokR_pre {n : Nat} {ρ : Ren} {v u : Value} (h : tokR ρ v u) (hv : low1 n v = true) : tokR (preR n ρ) v u := by
  unfold tokR at *
  split at h
  · obtain ⟨a, c, e, hlc, hor⟩ := h
    refine ⟨a, c, e, hlc, hor.imp id ?_⟩
    rintro ⟨b, x, e1, e2, e3, e4⟩
    exact ⟨b, x, e1, preG_some.2 ⟨e2, by rw [e3]; exact of_decide_eq_true hv⟩, e3, e4⟩
  · exact h
  · exact h
  · exact h
  · exact h
  · cases hv
  · exact h
theorem VR1_pre {n : Nat} {ρ : Ren} {v u : Value} (h : VR1 ρ v u) (hv : low1 n v = true) : VR1 (preR n ρ) v u := by
  have hA : ∀ a : Addr, a.block < n → rA (preR n ρ) a = rA ρ a := fun a ha => by
    unfold rA
    rw [show preR n ρ a.block = if a.block < n then ρ a.block else none from rfl, if_pos ha]
  rcases h.inv with ⟨a, a', rfl, h1, rfl⟩ | ⟨a, l, c, a', rfl, h1, rfl⟩ | ⟨f, x, y, x', y', rfl, h1, h2, rfl⟩ | ⟨ht, htr⟩ | ⟨hf, _, rfl⟩
  · simp only [low1, decide_eq_true_eq] at hv
    exact VR1_ptr.2 ⟨a', (hA a hv).trans h1, rfl⟩
  · simp only [low1, decide_eq_true_eq] at hv
    exact VR1_slice.2 ⟨a', (hA a hv).trans h1, rfl⟩
  · simp only [low1, Bool.and_eq_true] at hv
    exact VR1_func.2 ⟨x', y', rPL_pre h1 hv.1, rPL_pre h2 hv.2, rfl⟩
  · exact (VR1_tok ht).2 (tokR_pre htr hv)
  · exact (VR1_flat hf).2 rfl
theorem VR2_pre {n : Nat} {ρ : Ren} {v u : Value} (h : VR2 ρ v u) (hv : low2 n v = true) : VR2 (preR n ρ) v u := by
  by_cases hc : ∃ cs, v = .agg cs
  · obtain ⟨cs, rfl⟩ := hc
    obtain ⟨us, rfl, hp⟩ := VR2_agg.1 h
    exact VR2_agg.2 ⟨us, rfl, hp.1, fun i a b ha hb => VR1_pre (hp.2 i a b ha hb) (List.all_eq_true.1 hv a (List.mem_of_getElem? ha))⟩
  · have hne : ∀ cs, v ≠ .agg cs := fun cs e => hc ⟨cs, e⟩
    rw [VR2_of1 hne] at h ⊢
    refine VR1_pre h ?_
    unfold low2 at hv
    split at hv
    · exact absurd rfl (hne _)
    · exact hv
theorem VR_pre {n : Nat} {ρ : Ren} {v u : Value} (h : VR ρ v u) (hv : lowV n v = true) : VR (preR n ρ) v u := by
  by_cases hc : ∃ cs, v = .tuple cs
  · obtain ⟨cs, rfl⟩ := hc
    simp only [lowV, Bool.and_eq_true, Bool.not_eq_true'] at hv
    obtain ⟨us, rfl, hp⟩ := (VR_tuple hv.1).1 h
    exact (VR_tuple hv.1).2 ⟨us, rfl, hp.1, fun i a b ha hb => VR2_pre (hp.2 i a b ha hb) (List.all_eq_true.1 hv.2 a (List.mem_of_getElem? ha))⟩
  · have hne : ∀ cs, v ≠ .tuple cs := fun cs e => hc ⟨cs, e⟩
    rw [VR_of2 hne] at h ⊢
    refine VR2_pre h ?_
    unfold lowV at hv
    split at hv
    · exact absurd rfl (hne _)
    · exact hv
/-- A value without an address of the evaluator's own. -/
def abs1 (v : Value) : Bool := (isTok v && !isLst v) || flat1 v
def abs2 : Value → Bool
  | .agg cs => cs.toList.all abs1
  | v => abs1 v
def absV : Value → Bool
  | .tuple vs => !isWild vs.toList && vs.toList.all abs2
  | v => abs2 v
theorem tokR_h {ρ ρ' : Ren} (hh : ρ.h = ρ'.h) {v u : Value} (hl : isLst v = false) (h : tokR ρ v u) : tokR ρ' v u := by
  unfold tokR at *
  split at h
  · cases hl
  · rw [hh] at h; exact h
  · rw [hh] at h; exact h
  · unfold rowR holdsR at *; rw [hh] at h; exact h
  · unfold celR holdsR at *; rw [hh] at h; exact h
  · cases hl
  · exact h
theorem VR1_abs {ρ ρ' : Ren} (hh : ρ.h = ρ'.h) {v u : Value} (ha : abs1 v = true) (h : VR1 ρ v u) : VR1 ρ' v u := by
  cases ht : isTok v with
  | true =>
    cases hl : isLst v with
    | false => exact (VR1_tok ht).2 (tokR_h hh hl ((VR1_tok ht).1 h))
    | true =>
      have hf : flat1 v = true := by simpa [abs1, hl] using ha
      rw [flat1_tok hf] at ht
      cases ht
  | false =>
    have hf : flat1 v = true := by simpa [abs1, ht] using ha
    exact (VR1_flat hf).2 ((VR1_flat hf).1 h)
theorem VR2_abs {ρ ρ' : Ren} (hh : ρ.h = ρ'.h) {v u : Value} (ha : abs2 v = true) (h : VR2 ρ v u) : VR2 ρ' v u := by
  by_cases hc : ∃ cs, v = .agg cs
  · obtain ⟨cs, rfl⟩ := hc
    obtain ⟨us, rfl, hp⟩ := VR2_agg.1 h
    exact VR2_agg.2 ⟨us, rfl, hp.1, fun i a b h1 h2 => VR1_abs hh (List.all_eq_true.1 ha a (List.mem_of_getElem? h1)) (hp.2 i a b h1 h2)⟩
  · have hne : ∀ cs, v ≠ .agg cs := fun cs e => hc ⟨cs, e⟩
    rw [VR2_of1 hne] at h ⊢
    refine VR1_abs hh ?_ h
    unfold abs2 at ha
    split at ha
    · exact absurd rfl (hne _)
    · exact ha
theorem VR_abs {ρ ρ' : Ren} (hh : ρ.h = ρ'.h) {v u : Value} (ha : absV v = true) (h : VR ρ v u) : VR ρ' v u := by
  by_cases hc : ∃ cs, v = .tuple cs
  · obtain ⟨cs, rfl⟩ := hc
    simp only [absV, Bool.and_eq_true, Bool.not_eq_true'] at ha
    obtain ⟨us, rfl, hp⟩ := (VR_tuple ha.1).1 h
    exact (VR_tuple ha.1).2 ⟨us, rfl, hp.1, fun i a b h1 h2 => VR2_abs hh (List.all_eq_true.1 ha.2 a (List.mem_of_getElem? h1)) (hp.2 i a b h1 h2)⟩
  · have hne : ∀ cs, v ≠ .tuple cs := fun cs e => hc ⟨cs, e⟩
    rw [VR_of2 hne] at h ⊢
    refine VR2_abs hh ?_ h
    unfold absV at ha
    split at ha
    · exact absurd rfl (hne _)
    · exact ha
theorem flat_abs {v : Value} (h : flat v = true) : absV v = true := by
  have k1 : ∀ v, flat1 v = true → abs1 v = true := fun v h => by unfold abs1; rw [h, Bool.or_true]
  have k2 : ∀ v, flat2 v = true → abs2 v = true := fun v h => by
    cases v with
    | agg cs => exact List.all_eq_true.2 fun a ha => k1 a (List.all_eq_true.1 h a ha)
    | _ => exact k1 _ h
  by_cases hc : ∃ vs, v = .tuple vs
  · obtain ⟨vs, rfl⟩ := hc
    simp only [flat, absV, Bool.and_eq_true] at h ⊢
    exact ⟨h.1, List.all_eq_true.2 fun a ha => k2 a (List.all_eq_true.1 h.2 a ha)⟩
  · have key : flat v = flat2 v ∧ absV v = abs2 v := by cases v <;> first | exact ⟨rfl, rfl⟩ | exact absurd ⟨_, rfl⟩ hc
    rw [key.2]
    rw [key.1] at h
    exact k2 v h
theorem VR1_fun {ρ ρ' : Ren} (hle : ρ.le ρ') {v u u' : Value} (ht : isTok v = false) (h : VR1 ρ v u) (h' : VR1 ρ' v u') : u' = u := by
  have := h.mono hle
  unfold VR1 at *
  rw [ht] at *
  simp only at *
  rw [this] at h'
  cases h'
  rfl
def joinG (g' g : Nat → Option Lst) (b : Nat) : Option Lst := match g' b with | some y => some y | none => g b
theorem MRel.g_none {ρ : Ren} {M : Mem} {w : World} (hM : MRel ρ M w) {k b s : Nat} (h : ρ k = some (b, s)) : ρ.g b = none := by
  cases hg : ρ.g b with
  | none => rfl
  | some x => exact absurd h ((hM.lists.lst b x hg).nomap k s)
section
variable {ρ ρ' σ : Ren} {n : Nat} {mem mem' M M' : Mem} {w w' : World}
theorem joinG_le (hM : MRel ρ M w) (hmv : Mv (preR n ρ) mem w ρ' mem' w') : ∀ b x, ρ.g b = some x → ∃ y, joinG ρ'.g ρ.g b = some y ∧ x.le y := fun b x hx => by
  have hL := hM.lists.lst b x hx
  unfold joinG
  cases hy : ρ'.g b with
  | none => exact ⟨x, hx, .refl x⟩
  | some y =>
    rcases Nat.lt_or_ge x.k n with hlt | hge
    · obtain ⟨z, hz, hl⟩ := hmv.sub.g b x (preG_some.2 ⟨hx, hlt⟩)
      rw [hy] at hz
      cases hz
      exact ⟨y, rfl, hl⟩
    · have hp : (preR n ρ).g b = none := by
        cases hp : (preR n ρ).g b with
        | none => rfl
        | some z =>
          obtain ⟨h1, h2⟩ := preG_some.1 hp
          rw [hx] at h1
          cases h1
          omega
      have := hmv.newg b y hy hp
      have := hL.lt
      omega
theorem joinG_new (hmv : Mv (preR n ρ) mem w ρ' mem' w') : ∀ b x, joinG ρ'.g ρ.g b = some x → ρ.g b = none → w.heap.size ≤ b := fun b x hx h0 => by
  unfold joinG at hx
  split at hx
  · rename_i y hy
    exact hmv.newg b y hy (preG_none h0)
  · rw [h0] at hx; cases hx
theorem LRel.join (hM : MRel ρ M w) (hL' : LRel ρ' mem' w') (hmv : Mv (preR n ρ) mem w ρ' mem' w') (hg : σ.g = joinG ρ'.g ρ.g) (hh : σ.h = ρ'.h) (hm : ∀ k x, σ k = some x → ρ' k = some x ∨ (n ≤ k ∧ ρ k = some x))
    (h1 : ∀ (k : Nat) (B : Blk), mem'[k]? = some B → B.isL = true → M'[k]? = some B) (h2 : ∀ (k : Nat) (B : Blk), n ≤ k → M[k]? = some B → B.isL = true → M'[k]? = some B) : ∀ b x, σ.g b = some x → LB σ M' w' b x := fun b x hx => by
  rw [hg] at hx
  unfold joinG at hx
  split at hx
  · rename_i y hy
    cases hx
    have hL := hL'.lst b x hy
    have fresh : ∀ k s, ρ k = some (b, s) → False := fun k s hk => by
      obtain ⟨_, _, hlt, _⟩ := hM.cell k b s hk
      have := hmv.newg b x hy (preG_none (hM.g_none hk))
      omega
    refine ⟨hL.lt, hL.cells, hL.room, fun k s hk => ?_, by rw [hh]; exact hL.noh, ?_⟩
    · rcases hm k _ hk with h | ⟨_, h4⟩
      · exact hL.nomap k s h
      · exact fresh k s h4
    · obtain ⟨B, t, e1, e2, e3⟩ := hL.list
      exact ⟨B, t, h1 _ _ e1 e2, e2, e3⟩
  · rename_i hy
    have hL := hM.lists.lst b x hx
    have hp : (preR n ρ).g b = none := by
      cases hp : (preR n ρ).g b with
      | none => rfl
      | some z =>
        obtain ⟨y, h3, _⟩ := hmv.sub.g b z hp
        rw [hy] at h3
        cases h3
    have hge : n ≤ x.k := by
      rcases Nat.lt_or_ge x.k n with hlt | hge
      · rw [show (preR n ρ).g b = some x from preG_some.2 ⟨hx, hlt⟩] at hp
        cases hp
      · exact hge
    have hb := hmv.block b hL.lt hp fun k s B hk hB => absurd (preR_some.1 hk).2 (hL.nomap k s)
    refine hL.move hmv.size hb (fun k s hk => ?_) ?_ fun B hB hl => ⟨B, [], h2 _ _ hge hB hl, hl, (List.append_nil _).symm⟩
    · rcases hm k _ hk with h | ⟨_, h4⟩
      · cases hpk : preR n ρ k with
        | none => have := hmv.new k _ h hpk; have := hL.lt; simp only at *; omega
        | some z =>
          have := hmv.sub.m k z hpk
          rw [h] at this
          cases this
          exact hL.nomap k s (preR_some.1 hpk).2
      · exact hL.nomap k s h4
    · rw [hh]
      cases hc : ρ'.h b with
      | none => rfl
      | some cs => have := hmv.newh b cs hc hL.noh; have := hL.lt; omega
end
/-- A call that reads the first blocks of a memory, and touches nothing that was there. -/
theorem NonW.of_mc {g : FuncId} {args : List Value} (hv : absV v = true) (hc : MC P g args mem v mem)
    (hlow : args.all (lowV mem.length) = true) (hin : mem.all (fun B => B.cells.all (low1 mem.length)) = true)
    (h : ∀ (ρ : Ren) (e : Operand → Value), (∀ x ∈ o.op.operands, ∀ u, E x = some u → VR ρ u (e x)) → ∃ us : List Value, PW (VR ρ) args us ∧ execOp e o = callFunc g us.toArray) : NonW P o E v mem none := by
  intro M hMm ρ a w hH hM hid next Q hn
  obtain ⟨us, hus, he⟩ := h ρ a.eval hH
  unfold Oper.wp
  rw [he, hc.1, Oper.upon_enter]
  have hus' : PW (VR (preR mem.length ρ)) args us := ⟨hus.1, fun i x y hx hy => VR_pre (hus.2 i x y hx hy) (List.all_eq_true.1 hlow x (List.mem_of_getElem? hx))⟩
  have hget : ∀ k, k < mem.length → M[k]? = mem[k]? := fun k hk => by
    have h1 : mem[k]? = some mem[k] := List.getElem?_eq_getElem hk
    rw [h1, hMm k _ h1]
  have hM0 : MRel (preR mem.length ρ) mem w := by
    refine ⟨fun k b s hk => ?_, fun k b s k' b' s' B hk hk' hB ho hne => ?_, fun b cs hh => ?_, ⟨fun b x hx => ?_, fun k B hB hl => ?_⟩⟩
    case refine_4 =>
      obtain ⟨hx, hlt⟩ := preG_some.1 hx
      have hL := hM.lists.lst b x hx
      exact hL.move (Nat.le_refl _) rfl (fun k s hk => hL.nomap k s (preR_some.1 hk).2) hL.noh fun B hB hl => ⟨B, [], by rw [← hget _ hlt]; exact hB, hl, (List.append_nil _).symm⟩
    case refine_5 =>
      have h0 := hM.lists.lmap k B (hMm k B hB) hl
      show (if k < mem.length then ρ k else none) = none
      rw [h0, ite_self]
    case refine_3 =>
      obtain ⟨h1, h2, h3⟩ := hM.froz b cs hh
      exact ⟨h1, h2, fun k s B hk hB => h3 k s B (preR_some.1 hk).2 (by rw [hget k (preR_some.1 hk).1]; exact hB)⟩
    · obtain ⟨hlt, hρ⟩ := preR_some.1 hk
      obtain ⟨B, hB, hb, hcell⟩ := hM.cell k b s hρ
      rw [hget k hlt] at hB
      refine ⟨B, hB, hb, fun i x hx => ?_⟩
      obtain ⟨⟨u, hu, hw⟩, hf⟩ := hcell i x hx
      exact ⟨⟨u, VR1_pre hu (List.all_eq_true.1 (List.all_eq_true.1 hin B (List.mem_of_getElem? hB)) x (List.mem_of_getElem? hx)), hw⟩, hf⟩
    · exact hM.apart k b s k' b' s' B (preR_some.1 hk).2 (preR_some.1 hk').2 (by rw [hget k (preR_some.1 hk).1]; exact hB) ho hne
  refine (hc.2 (preR mem.length ρ) w us hus' hM0).mono ?_
  rintro e w' ⟨v', mem', ρ', u, rfl, ⟨rfl, rfl⟩, hu, hM', hmv⟩
  have hblk : ∀ (k b s : Nat), mem'.length ≤ k → ρ k = some (b, s) → w'.heap[b]? = w.heap[b]? := fun k b s hk hρ => by
    obtain ⟨_, _, hb, _⟩ := hM.cell k b s hρ
    refine hmv.block b hb (preG_none (hM.g_none hρ)) fun k0 s0 B0 hk0 hB0 => ?_
    obtain ⟨hlt, hρ0⟩ := preR_some.1 hk0
    cases ho : B0.own with
    | false => rfl
    | true => exact absurd rfl (hM.apart k0 b s0 k b s B0 hρ0 hρ (by rw [hget k0 hlt]; exact hB0) ho (by omega))
  let σ : Ren := ⟨ρ.m, ρ'.h, ρ.d, joinG ρ'.g ρ.g⟩
  have hle : ρ.le σ := ⟨fun _ _ h => h, hmv.sub.h, rfl, joinG_le hM hmv⟩
  have hls : ∀ b x, σ.g b = some x → LB σ M w' b x := LRel.join (σ := σ) hM hM'.lists hmv rfl rfl (fun k x hk => by
    rcases Nat.lt_or_ge k mem'.length with hlt | hge
    · exact .inl (hmv.sub.m k x (preR_some.2 ⟨hlt, hk⟩))
    · exact .inr ⟨hge, hk⟩) (fun k B hB _ => hMm k B hB) (fun k B _ hB _ => hB)
  have hM2 : MRel σ M w' := by
    refine ⟨fun k b s hk => ?_, hM.apart, fun b cs hh => ?_, ⟨hls, hM.lists.lmap⟩⟩
    · obtain ⟨B, hB, hb, hcell⟩ := hM.cell k b s hk
      refine ⟨B, hB, Nat.lt_of_lt_of_le hb hmv.size, fun i x hx => ?_⟩
      obtain ⟨⟨u0, hu0, hw0⟩, hf0⟩ := hcell i x hx
      rcases Nat.lt_or_ge k mem'.length with hlt | hge
      · have hpk : preR mem'.length ρ k = some (b, s) := preR_some.2 ⟨hlt, hk⟩
        obtain ⟨B1, hB1, _, hcell1⟩ := hM'.cell k b s (hmv.sub.m k _ hpk)
        rw [hget k hlt] at hB
        rw [hB] at hB1
        cases hB1
        obtain ⟨⟨u1, hu1, hw1⟩, hf1⟩ := hcell1 i x hx
        cases ht : isTok x with
        | true => exact ⟨⟨u1, (VR1_tok (ρ := σ) ht).2 (tokR_mono (ρ := ρ') (ρ' := σ) (fun _ _ h => h) (fun b x h => ⟨x, by show joinG ρ'.g ρ.g b = some x; unfold joinG; rw [h], .refl x⟩) ((VR1_tok (ρ := ρ') ht).1 hu1)), hw1⟩, hf1⟩
        | false =>
          have e := VR1_fun hmv.sub ht (VR1_pre hu0 (List.all_eq_true.1 (List.all_eq_true.1 hin B (List.mem_of_getElem? hB)) x (List.mem_of_getElem? hx))) hu1
          subst e
          exact ⟨⟨_, hu0.mono hle, hw1⟩, hf1⟩
      · have hh := hblk k b s hge hk
        exact ⟨⟨u0, hu0.mono hle, by rw [World.cell?_of_block (a := ⟨b, s + i, none⟩) hh]; exact hw0⟩, fun ho => by rw [World.frozen?_of_block (a := ⟨b, s + i, none⟩) hh]; exact hf0 ho⟩
    · obtain ⟨h1, h2, h3⟩ := hM'.froz b cs hh
      refine ⟨h1, h2, fun k s B hk hB => ?_⟩
      rcases Nat.lt_or_ge k mem'.length with hlt | hge
      · exact h3 k s B (hmv.sub.m k _ (preR_some.2 ⟨hlt, hk⟩)) (by rw [← hget k hlt]; exact hB)
      · cases hb : ρ.h b with
        | some cs' => exact (hM.froz b cs' hb).2.2 k s B hk hB
        | none =>
          have h4 := hmv.newh b cs hh hb
          obtain ⟨_, _, h5, _⟩ := hM.cell k b s hk
          omega
  refine hn u w' σ (VR_abs (ρ := ρ') (ρ' := σ) rfl hv hu) hM2 ⟨hle, (fun k x h h' => by rw [show σ k = ρ k from rfl, h'] at h; cases h), fun k B h => ⟨B, h, rfl⟩, hmv.os, hmv.tape, hmv.output, hmv.size, fun b hb hg hk => ?_, hmv.newh, joinG_new hmv⟩ fun k x hx => .inl hx
  refine hmv.block b hb (preG_none hg) fun k0 s0 B0 hk0 hB0 => ?_
  obtain ⟨hlt, hρ0⟩ := preR_some.1 hk0
  exact hk k0 s0 B0 hρ0 (by rw [hget k0 hlt]; exact hB0)

structure Out where
  ok : Bool
  obs : List Prop
  v : Value
  eff : Eff

def callOp (P : Program) (mem : Mem) (E : Operand → Option Value) (c : Call) (ans : List Ans) : Option (Out × List Ans) :=
  match calleeOf E c, ans with
  | some (g, args), .res v :: ans => if args.all flat && flat v then some (⟨true, [QC P g args v], v, .pure⟩, ans) else none
  | some (g, args), .rd v :: ans => if absV v then some (⟨args.all (lowV mem.length) && mem.all (fun B => B.cells.all (low1 mem.length)), [MC P g args mem v mem], v, .read⟩, ans) else none
  | some (g, args), .ab v :: ans => if absV v then some (⟨args.all (lowV 0), [MC P g args [] v []], v, .pure⟩, ans) else none
  | some (g, args), .own k v B :: ans => match mem[k]? with
    | some C => some (⟨true, [QO P g args v k C B], v, .own k B⟩, ans)
    | none => none
  | some (g, args), .mem v m :: ans => some (⟨true, [MC P g args mem v m], v, .write m⟩, ans)
  | some (g, args), .add v l :: ans => some (⟨true, [MC P g args mem v (mem ++ l)], v, .adds l⟩, ans)
  | _, _ => none

def pureOut (r : Option (Bool × Value)) (f : Eff) (ans : List Ans) : Option (Out × List Ans) :=
  match r with
  | some (c, v) => some (⟨c, [], v, f⟩, ans)
  | none => none

def newEv (P : Program) (mem : Mem) (E : Operand → Option Value) (o : Oper) (ans : List Ans) : Option (Out × List Ans) :=
  match ans, newOp P E mem.length o with
  | .tk N :: ans, some (c, B, .slice (some ⟨_, 0, none⟩) l m) => some (⟨c && Nat.ble l m, [B.cells = (List.range l).map (word32 N)], sliceTok N l, .pure⟩, ans)
  | ans, some (c, B, v) => some (⟨c, [], v, .new B⟩, ans)
  | _, none => none

def evOp (P : Program) (mem : Mem) (E : Operand → Option Value) (o : Oper) (ans : List Ans) : Option (Out × List Ans) :=
  match o.op with
  | .load t x => match E x with
    | some (.iface N (.map (some i))) => match P.underlying t with
      | some (.int .u32) => some (⟨true, [], word32 N i, .pure⟩, ans)
      | _ => none
    | some (.iface off (.iface 1 (.tuple cs))) => pureOut (celLoad P t off cs.toList) .pure ans
    | some (.iface k (.iface (off + 2) (.chan (some m)))) => pureOut (lelLoad P mem t k off m) .read ans
    | some vx => pureOut (loadOp P mem t vx) .read ans
    | none => none
  | .store t x y => match E x, E y with
    | some vx, some vy => match storeOp P mem t vx vy with
      | some (c, m) => some (⟨c, [], undef, .write m⟩, ans)
      | none => none
    | _, _ => none
  | .alloc .. | .box .. | .makeSlice .. | .buildSlice .. => newEv P mem E o ans
  | .call c => match c.callee with
    | .value _ => callOp P mem E c ans
    | .builtin .copy => match c.args.toList, c.argTypes.toList with
      | [d, x], dT :: _ => match E d, E x with
        | some vd, some vx => match copyOp P mem dT vd vx with
          | some (ok, m, v) => some (⟨ok, [], v, .write m⟩, ans)
          | none => none
        | _, _ => none
      | _, _ => none
    | .builtin .append => match c.args.toList, c.argTypes.toList with
      | [d, x], [sT, xT] => match E d, E x with
        | some vd, some vx => match appendOp P mem sT xT vd vx with
          | some (ok, m, v) => some (⟨ok, [], v, .write m⟩, ans)
          | none => match appendLOp P mem sT xT vd vx with
            | some (ok, m, v) => some (⟨ok, [], v, .write m⟩, ans)
            | none => none
        | _, _ => none
      | _, _ => none
    | _ => pureOut (opPure P E o) .pure ans
  | .convert src dst x =>
    match P.underlying src with
    | some (.slice _) => match E x with | some vx => pureOut (textOp P mem src dst vx) .read ans | none => none
    | _ => pureOut (opPure P E o) .pure ans
  | _ => pureOut (opPure P E o) .pure ans

/-- What an operation's outcome says of the machine. -/
def OutR (P : Program) (mem : Mem) (E : Operand → Option Value) (o : Oper) (r : Out) : Prop :=
  match r.eff with
  | .pure => NonW P o E r.v [] none
  | .read => NonW P o E r.v mem none
  | .new B => ∀ M : Mem, M[mem.length]? = some B → NonW P o E r.v M (some mem.length)
  | .write m => Wr P o E r.v mem m
  | .adds l => Wr P o E r.v mem (mem ++ l)
  | .own k B => k < mem.length ∧ ∀ M : Mem, M[k]? = mem[k]? → WrS P o E r.v M (M.set k B)

theorem closed_self {l : List Value} (h : l.all flat = true) : PW (VR ρ) l l := (PW_VR_flat h).2 rfl

theorem callee_run {c : Call} {g : FuncId} {args : List Value} (ho : o.op = .call c) (h : calleeOf E c = some (g, args))
    (hH : ∀ x ∈ o.op.operands, ∀ u, E x = some u → VR ρ u (e x)) : ∃ us : List Value, PW (VR ρ) args us ∧ execOp e o = callFunc g us.toArray := by
  unfold calleeOf at h
  obtain ⟨callee, cargs, cts⟩ := c
  simp only at h
  split at h
  · rename_i f
    split at h
    · rename_i g' first captured vs hf hvs
      simp only [Option.some.injEq, Prod.mk.injEq] at h
      obtain ⟨rfl, rfl⟩ := h
      have hvf := hH f (by simp [ho, Op.operands, Call.operands]) _ hf
      rw [VR_of2 (by simp), VR2_of1 (by simp)] at hvf
      obtain ⟨first', captured', h1, h2, hef⟩ := VR1_func.1 hvf
      have hm := mapM_rel (ρ := ρ) (e := e) _ _ hvs (fun x hx => hH x (by simp [ho, Op.operands, Call.operands]; right; simpa using hx))
      refine ⟨first' ++ cargs.toList.map e ++ captured', (((rPL_rel h1).mono fun _ _ h => h.toVR).append hm).append ((rPL_rel h2).mono fun _ _ h => h.toVR), ?_⟩
      have he : execOp e o = (resolve e { callee := .value f, args := cargs, argTypes := cts } o.type >>= fun d => invoke d.target d.args) := by simp only [execOp, ho]
      rw [he]
      simp only [resolve, hef, Deferred.ofValue, pure_bind, invoke]
      congr 1
      apply Array.toList_inj.1
      simp
    · cases h
  · cases h

theorem newEv_sound {ans ans' : List Ans} {r : Out} (h : newEv P mem E o ans = some (r, ans')) (hok : r.ok = true) (hobs : ∀ p ∈ r.obs, p) : OutR P mem E o r := by
  unfold newEv at h
  split at h
  · rename_i hn
    cases h
    simp only [Bool.and_eq_true, Nat.ble_eq] at hok
    obtain ⟨rfl, hlc⟩ := hok
    exact NonW.of_tok hn hlc (hobs _ (List.mem_singleton_self _))
  · rename_i hn
    cases h
    simp only at hok
    subst hok
    exact fun M hB => newOp_sound hn hB
  · cases h

theorem evOp_sound {ans ans' : List Ans} {r : Out} (h : evOp P mem E o ans = some (r, ans')) (hok : r.ok = true) (hobs : ∀ p ∈ r.obs, p) : OutR P mem E o r := by
  have hpure : ∀ (q : Option (Bool × Value)) (f : Eff), pureOut q f ans = some (r, ans') → ∃ v, q = some (true, v) ∧ r.v = v ∧ r.eff = f := by
    intro q f hq
    unfold pureOut at hq
    split at hq
    · cases hq; simp only at hok; subst hok; exact ⟨_, rfl, rfl, rfl⟩
    · cases hq
  have hpp : ∀ (hq : pureOut (opPure P E o) .pure ans = some (r, ans')), OutR P mem E o r := by
    intro hq
    obtain ⟨v, h1, h2, h3⟩ := hpure _ _ hq
    unfold OutR
    rw [h3, h2]
    exact NonW.of_pure fun ρ e hH => opPure_sound h1 ρ e hH
  unfold evOp at h
  split at h
  · rename_i t x ho
    split at h
    · rename_i N i hx
      split at h
      · rename_i ht
        cases h
        refine NonW.of_read fun ρ e w M hMm hH hM => ⟨word32 N i, (VR_flat rfl).2 rfl, ?_⟩
        simp [execOp, ho, load_word ht (hH x (by simp [ho, Op.operands]) _ hx) hM]
      · cases h
    · rename_i off cs hx
      obtain ⟨v, h1, h2, h3⟩ := hpure _ _ h
      unfold OutR
      rw [h3, h2]
      refine NonW.of_read fun ρ e w M hMm hH hM => ?_
      obtain ⟨u, hu, hr⟩ := celLoad_sound h1 (VR_cel.1 (hH x (by simp [ho, Op.operands]) _ hx)) hM
      exact ⟨u, hu, by simp [execOp, ho, hr]⟩
    · rename_i k off m hx
      obtain ⟨v, h1, h2, h3⟩ := hpure _ _ h
      unfold OutR
      rw [h3, h2]
      refine NonW.of_read fun ρ e w M hMm hH hM => ?_
      obtain ⟨u, hu, hr⟩ := lelLoad_sound h1 hMm (VR_lel.1 (hH x (by simp [ho, Op.operands]) _ hx)) hM
      exact ⟨u, hu, by simp [execOp, ho, hr]⟩
    · rename_i vx _ _ _ hx
      obtain ⟨v, h1, h2, h3⟩ := hpure _ _ h
      unfold OutR
      rw [h3, h2]
      refine NonW.of_read fun ρ e w M hMm hH hM => ?_
      obtain ⟨u, hu, hr⟩ := loadOp_sound h1 hMm (hH x (by simp [ho, Op.operands]) _ hx) hM
      exact ⟨u, hu, by simp [execOp, ho, hr]⟩
    · cases h
  · rename_i t x y ho
    split at h
    · rename_i vx vy hx hy
      split at h
      · rename_i c m hs
        cases h
        simp only at hok
        subst hok
        intro ρ a w hH hM next Q hn
        obtain ⟨w', hr, hM', hmv⟩ := storeOp_sound hs (hH x (by simp [ho, Op.operands]) _ hx) (hH y (by simp [ho, Op.operands]) _ hy) hM
        unfold Oper.wp
        have : (execOp a.eval o).run P w = .ok .skip w' := by simp [execOp, ho, hr]
        rw [this]
        exact hn undef w' ρ VR_undef hM' hmv
      · cases h
    · cases h
  · exact newEv_sound h hok hobs
  · exact newEv_sound h hok hobs
  · exact newEv_sound h hok hobs
  · exact newEv_sound h hok hobs
  · rename_i c ho
    split at h
    · rename_i f hcf
      unfold callOp at h
      split at h
      · rename_i g args v ans1 hc
        split at h
        · rename_i hf
          simp only [Bool.and_eq_true] at hf
          cases h
          have hq := hobs _ (List.mem_singleton.2 rfl)
          have hrun : ∀ (ρ : Ren) (e : Operand → Value), (∀ x ∈ o.op.operands, ∀ u, E x = some u → VR ρ u (e x)) → execOp e o = callFunc g args.toArray := fun ρ e hH => by
            obtain ⟨us, hus, he⟩ := callee_run ho hc hH
            rw [(PW_VR_flat hf.1).1 hus] at he
            exact he
          rcases hq with hq | ⟨hq, hpc⟩
          · exact NonW.of_pure fun ρ e hH => ⟨v, (VR_flat hf.2).2 rfl, fun w => by rw [hrun ρ e hH]; exact hq w⟩
          · exact NonW.of_quiet hf.2 hpc fun ρ e hH w => by rw [hrun ρ e hH]; exact hq w
        · cases h
      · rename_i g args v ans1 hc
        split at h
        · rename_i hf
          cases h
          simp only [Bool.and_eq_true] at hok
          exact NonW.of_mc hf (hobs _ (List.mem_singleton.2 rfl)) hok.1 hok.2 fun ρ e hH => callee_run ho hc hH
        · cases h
      · rename_i g args v ans1 hc
        split at h
        · rename_i hf
          cases h
          exact NonW.of_mc hf (hobs _ (List.mem_singleton.2 rfl)) hok rfl fun ρ e hH => callee_run ho hc hH
        · cases h
      · rename_i g args k v B ans1 hc
        split at h
        · rename_i C hC
          cases h
          obtain ⟨henter, hct⟩ := hobs _ (List.mem_singleton.2 rfl)
          refine ⟨(List.getElem?_eq_some_iff.1 hC).1, fun M hMk ρ a w hH hM next Q hn => ?_⟩
          obtain ⟨us, hus, he⟩ := callee_run ho hc hH
          unfold Oper.wp
          rw [he, henter, Oper.upon_enter]
          refine (hct M (hMk.trans hC) ρ w us hus hM).mono ?_
          rintro e w' ⟨u, rfl, hu, hM', hmv⟩
          exact hn u w' hu hM' hmv
        · cases h
      · rename_i g args v m ans1 hc
        cases h
        obtain ⟨henter, hct⟩ := hobs _ (List.mem_singleton.2 rfl)
        intro ρ a w hH hM next Q hn
        obtain ⟨us, hus, he⟩ := callee_run ho hc hH
        unfold Oper.wp
        rw [he, henter, Oper.upon_enter]
        refine (hct ρ w us hus hM).mono ?_
        rintro e w' ⟨v', mem', ρ', u, rfl, ⟨rfl, rfl⟩, hu, hM', hmv⟩
        exact hn u w' ρ' hu hM' hmv
      · rename_i g args v m ans1 hc
        cases h
        obtain ⟨henter, hct⟩ := hobs _ (List.mem_singleton.2 rfl)
        intro ρ a w hH hM next Q hn
        obtain ⟨us, hus, he⟩ := callee_run ho hc hH
        unfold Oper.wp
        rw [he, henter, Oper.upon_enter]
        refine (hct ρ w us hus hM).mono ?_
        rintro e w' ⟨v', mem', ρ', u, rfl, ⟨rfl, rfl⟩, hu, hM', hmv⟩
        exact hn u w' ρ' hu hM' hmv
      · cases h
    · rename_i hcb
      split at h
      · rename_i d x dT ts ha hts
        split at h
        · rename_i vd vx hd hx
          split at h
          · rename_i okk m v hcp
            cases h
            simp only at hok
            subst hok
            intro ρ a w hH hM next Q hn
            obtain ⟨callee, cargs, cts⟩ := c
            simp only at hcb ha hts
            obtain rfl : cargs = #[d, x] := Array.toList_inj.1 ha
            obtain ⟨w', hr, hv, hM', hmv⟩ := copyOp_sound (t := o.type) (ts := cts) hcp (by rw [← Array.getElem?_toList, hts]; rfl) (hH d (by simp [ho, Op.operands, Call.operands]) _ hd) (hH x (by simp [ho, Op.operands, Call.operands]) _ hx) hM
            unfold Oper.wp
            have : (execOp a.eval o).run P w = .ok (.value v) w' := by subst hcb; simp [execOp, ho, resolve, invoke, builtin, hr]
            rw [this]
            exact hn v w' ρ ((VR_flat hv).2 rfl) hM' hmv
          · cases h
        · cases h
      · cases h
    · rename_i hcb
      split at h
      · rename_i d x sT xT ha hts
        split at h
        · rename_i vd vx hd hx
          split at h
          · rename_i okk m v hcp
            cases h
            simp only at hok
            subst hok
            intro ρ a w hH hM next Q hn
            obtain ⟨callee, cargs, cts⟩ := c
            simp only at hcb ha hts
            obtain rfl : cargs = #[d, x] := Array.toList_inj.1 ha
            obtain rfl : cts = #[sT, xT] := Array.toList_inj.1 hts
            obtain ⟨w', u, hr, hv, hM', hmv⟩ := appendOp_sound (t := o.type) hcp rfl (hH d (by simp [ho, Op.operands, Call.operands]) _ hd) (hH x (by simp [ho, Op.operands, Call.operands]) _ hx) hM
            unfold Oper.wp
            have : (execOp a.eval o).run P w = .ok (.value u) w' := by subst hcb; simp [execOp, ho, resolve, invoke, builtin, hr]
            rw [this]
            exact hn u w' ρ hv hM' hmv
          · split at h
            · rename_i okk m v hcp
              cases h
              simp only at hok
              subst hok
              intro ρ a w hH hM next Q hn
              obtain ⟨callee, cargs, cts⟩ := c
              simp only at hcb ha hts
              obtain rfl : cargs = #[d, x] := Array.toList_inj.1 ha
              obtain rfl : cts = #[sT, xT] := Array.toList_inj.1 hts
              obtain ⟨w', u, ρ', hr, hv, hM', hmv⟩ := appendLOp_sound (t := o.type) hcp (hH d (by simp [ho, Op.operands, Call.operands]) _ hd) (hH x (by simp [ho, Op.operands, Call.operands]) _ hx) hM
              unfold Oper.wp
              have : (execOp a.eval o).run P w = .ok (.value u) w' := by subst hcb; simp [execOp, ho, resolve, invoke, builtin, hr]
              rw [this]
              exact hn u w' ρ' hv hM' hmv
            · cases h
        · cases h
      · cases h
    · exact hpp h
  · rename_i src dst x ho
    split at h
    · split at h
      · rename_i vx hx
        obtain ⟨v, h1, h2, h3⟩ := hpure _ _ h
        unfold OutR
        rw [h3, h2]
        refine NonW.of_read fun ρ e w M hMm hH hM => ?_
        obtain ⟨u, hu, hr⟩ := textOp_sound h1 hMm (hH x (by simp [ho, Op.operands]) _ hx) hM
        exact ⟨u, hu, by simp [execOp, ho, hr]⟩
      · cases h
    · exact hpp h
  · exact hpp h
end
end Go.Ev
