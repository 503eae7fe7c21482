/-
  Relative states, part J: of what a call made, some blocks are kept, and numbered anew.
  Relative states, part K: a contract on a small memory, in a caller's memory.
  Relative states, part S: a call's contract out of one run, without a stated print: the tests, the obligations and the value are read off what is handed in.
  Relative states, part T: an argument that is a struct of a struct of two integers and one of three, opened.
  Relative states, part U: a function's body piece by piece: its first statements, and then the rest, from states that forget what is no longer needed.
  Relative states, part V: triples relative to the memory at a function's beginning; what was made since may be numbered anew, or be left behind.
-/
import Derived.Test.YtljolfnpncjklaaGreatEv2
import Derived.Test.YtljolfnpncjklaaGreatRows
import Derived.WalkKit
import Derived.ProofKit
import Derived.OpenShut
import Derived.Below
import Derived.Carry
import Derived.Lib.SmallJoins
/-! Relative states, part J: of what a call made, some blocks are kept, and numbered anew. -/
namespace Go.Ev

/-- Where k stands in a list, counted from i. -/
def posOf : List Nat → Nat → Nat → Option Nat
  | [], _, _ => none
  | x :: l, i, k => match Nat.beq x k with | true => some i | false => posOf l (i + 1) k
theorem posOf_spec : ∀ {l : List Nat} {i k p : Nat}, posOf l i k = some p → ∃ q, p = i + q ∧ l[q]? = some k
  | [], _, _, _, h => by cases h
  | x :: l, i, k, p, h => by
    unfold posOf at h
    split at h
    · rename_i hx
      cases h
      exact ⟨0, rfl, by rw [Nat.eq_of_beq_eq_true hx]; rfl⟩
    · obtain ⟨q, rfl, hq⟩ := posOf_spec h
      exact ⟨q + 1, by omega, hq⟩
def stays (keep : List Nat) (k : Nat) : Bool := match keep[k]? with | some j => Nat.beq j k | none => false
theorem stays_spec {keep : List Nat} {k : Nat} : stays keep k = true ↔ keep[k]? = some k := by
  unfold stays
  split
  · rename_i j h
    rw [h]
    exact ⟨fun e => by rw [Nat.eq_of_beq_eq_true e], fun e => by cases e; exact Nat.beq_refl _⟩
  · rename_i h
    rw [h]
    exact ⟨fun e => (by cases e), fun e => (by cases e)⟩
def reG (keep : List Nat) (g : Nat → Option Lst) (b : Nat) : Option Lst := match g b with | some x => if stays keep x.k = true then some x else none | none => none
theorem reG_some {keep : List Nat} {g : Nat → Option Lst} {b : Nat} {x : Lst} : reG keep g b = some x ↔ g b = some x ∧ keep[x.k]? = some x.k := by
  unfold reG
  split
  · rename_i y h
    rw [h]
    split
    · rename_i hs
      exact ⟨fun e => by cases e; exact ⟨rfl, stays_spec.1 hs⟩, fun e => e.1⟩
    · rename_i hs
      exact ⟨fun e => (by cases e), fun e => by cases e.1; exact absurd (stays_spec.2 e.2) hs⟩
  · rename_i h
    rw [h]
    exact ⟨fun e => (by cases e), fun e => (by cases e.1)⟩
def reR (keep : List Nat) (ρ : Ren) : Ren := ⟨fun k => match keep[k]? with | some k0 => ρ k0 | none => none, ρ.h, ρ.d, reG keep ρ.g⟩
theorem reR_some {keep : List Nat} {ρ : Ren} {k : Nat} {x : Nat × Nat} : reR keep ρ k = some x ↔ ∃ k0, keep[k]? = some k0 ∧ ρ k0 = some x := by
  show (match keep[k]? with | some k0 => ρ k0 | none => none) = some x ↔ _
  cases h : keep[k]? with
  | none => exact ⟨fun e => (by cases e), fun ⟨_, e, _⟩ => (by cases e)⟩
  | some k0 => exact ⟨fun e => ⟨k0, rfl, e⟩, fun ⟨_, e, r⟩ => (by cases e; exact r)⟩
def reV0 (keep : List Nat) : Value → Option Value
  | .pointer (some ⟨k, off, sp⟩) => match posOf keep 0 k with | some p => some (.pointer (some ⟨p, off, sp⟩)) | none => none
  | v => some v
def reL0 (keep : List Nat) : List Value → Option (List Value)
  | [] => some []
  | v :: l => match reV0 keep v, reL0 keep l with | some v', some l' => some (v' :: l') | _, _ => none
def reV1 (keep : List Nat) : Value → Option Value
  | .pointer (some ⟨k, off, sp⟩) => match posOf keep 0 k with | some p => some (.pointer (some ⟨p, off, sp⟩)) | none => none
  | .slice (some ⟨k, off, sp⟩) l c => match posOf keep 0 k with | some p => some (.slice (some ⟨p, off, sp⟩) l c) | none => none
  | .func f x y => match reL0 keep x.toList, reL0 keep y.toList with | some x', some y' => some (.func f x'.toArray y'.toArray) | _, _ => none
  | .iface k (.slice none l (z + 1)) => match stays keep k with | true => some (.iface k (.slice none l (z + 1))) | false => none
  | .iface _ (.iface (_ + 2) _) => none
  | v => some v
def reL (keep : List Nat) : List Value → Option (List Value)
  | [] => some []
  | v :: l => match reV1 keep v, reL keep l with | some v', some l' => some (v' :: l') | _, _ => none
def reV2 (keep : List Nat) : Value → Option Value
  | .agg cs => match reL keep cs.toList with | some l => some (.agg l.toArray) | none => none
  | v => reV1 keep v
def reL2 (keep : List Nat) : List Value → Option (List Value)
  | [] => some []
  | v :: l => match reV2 keep v, reL2 keep l with | some v', some l' => some (v' :: l') | _, _ => none
def reV (keep : List Nat) : Value → Option Value
  | .tuple vs => match isWild vs.toList with
    | true => none
    | false => match reL2 keep vs.toList with | some l => some (.tuple l.toArray) | none => none
  | v => reV2 keep v
section
variable {keep : List Nat} {ρ : Ren}
theorem rA_re {k off p : Nat} {sp} {a : Addr} (h : rA ρ ⟨k, off, sp⟩ = some a) (hp : posOf keep 0 k = some p) : rA (reR keep ρ) ⟨p, off, sp⟩ = some a := by
  obtain ⟨q, rfl, hq⟩ := posOf_spec hp
  have : reR keep ρ (0 + q) = ρ k := by
    show (match keep[0 + q]? with | some k0 => ρ k0 | none => none) = ρ k
    rw [Nat.zero_add, hq]
  unfold rA at *
  simp only [this] at *
  exact h
theorem reL0_rel : ∀ {l l' us : List Value}, rPL ρ l = some us → reL0 keep l = some l' → rPL (reR keep ρ) l' = some us
  | [], l', us, h, hl => by cases hl; exact h
  | v :: l, l', us, h, hl => by
    unfold rPL at h
    split at h
    · rename_i u us' h1 h2
      cases h
      unfold reL0 at hl
      split at hl
      · rename_i v' l'' h3 h4
        cases hl
        have h5 : rP (reR keep ρ) v' = some u := by
          unfold reV0 at h3
          split at h3
          · rename_i k off sp
            split at h3
            · rename_i p hp
              cases h3
              simp only [rP, Option.map_eq_some_iff] at h1 ⊢
              obtain ⟨a', ha, rfl⟩ := h1
              exact ⟨a', rA_re ha hp, rfl⟩
            · cases h3
          · rename_i hn
            cases h3
            cases v with
            | pointer a => cases a with
              | none => exact h1
              | some a => obtain ⟨k, off, sp⟩ := a; exact absurd rfl (hn k off sp)
            | slice a l c => cases a with
              | none => exact h1
              | some a => cases h1
            | iface t v => cases v with
              | chan r => cases r with | none => exact h1 | some r => cases h1
              | map r => cases r with | none => exact h1 | some r => cases h1
              | slice a l c => cases a with
                | none => cases c with | zero => exact h1 | succ c => cases h1
                | some a => exact h1
              | _ => exact h1
            | _ => exact h1
        simp only [rPL, h5, reL0_rel h2 h4]
      · cases hl
    · cases h
theorem VR1_re {v v' u : Value} (h : VR1 ρ v u) (hv : reV1 keep v = some v') : VR1 (reR keep ρ) v' u := by
  unfold reV1 at hv
  split at hv
  · rename_i k off sp
    split at hv
    · rename_i p hp
      cases hv
      obtain ⟨a', ha, rfl⟩ := VR1_ptr.1 h
      exact VR1_ptr.2 ⟨a', rA_re ha hp, rfl⟩
    · cases hv
  · rename_i k off sp l c
    split at hv
    · rename_i p hp
      cases hv
      obtain ⟨a', ha, rfl⟩ := VR1_slice.1 h
      exact VR1_slice.2 ⟨a', rA_re ha hp, rfl⟩
    · cases hv
  · rename_i f x y
    split at hv
    · rename_i x1 y1 h1 h2
      cases hv
      obtain ⟨x', y', h3, h4, rfl⟩ := VR1_func.1 h
      exact VR1_func.2 ⟨x', y', by simpa using reL0_rel h3 h1, by simpa using reL0_rel h4 h2, rfl⟩
    · cases hv
  · rename_i k l z
    split at hv
    · rename_i hs
      cases hv
      obtain ⟨a, c, e, hlc, hor⟩ := (VR1_tok (v := .iface k (.slice none l (z + 1))) rfl).1 h
      refine (VR1_tok (v := .iface k (.slice none l (z + 1))) rfl).2 ⟨a, c, e, hlc, hor.imp id ?_⟩
      rintro ⟨b, x, e1, e2, e3, e4⟩
      exact ⟨b, x, e1, reG_some.2 ⟨e2, by rw [e3]; exact stays_spec.1 hs⟩, e3, e4⟩
    · cases hv
  · cases hv
  · rename_i h1 h2 h3 h4 h5
    cases hv
    rcases h.inv with ⟨a, a', rfl, _, _⟩ | ⟨a, l, c, a', rfl, _, _⟩ | ⟨f, x, y, _, _, rfl, _, _, _⟩ | ⟨ht, htr⟩ | ⟨hf, _, rfl⟩
    · obtain ⟨k, off, sp⟩ := a; exact absurd rfl (h1 k off sp)
    · obtain ⟨k, off, sp⟩ := a; exact absurd rfl (h2 k off sp l c)
    · exact absurd rfl (h3 f x y)
    · refine (VR1_tok ht).2 ?_
      unfold tokR at *
      split at htr
      · exact absurd rfl (h4 _ _ _)
      · exact htr
      · exact htr
      · exact htr
      · exact htr
      · exact absurd rfl (h5 _ _ _)
      · exact htr
    · exact (VR1_flat hf).2 rfl
theorem reL_rel : ∀ {l l' us : List Value}, PW (VR1 ρ) l us → reL keep l = some l' → PW (VR1 (reR keep ρ)) l' us
  | [], l', us, h, hl => by cases hl; rw [h.unnil]; exact PW.nil
  | v :: l, l', us, h, hl => by
    obtain ⟨u, us', rfl, hu, ht⟩ := h.uncons
    unfold reL at hl
    split at hl
    · rename_i v' l'' h1 h2
      cases hl
      exact PW.cons (VR1_re hu h1) (reL_rel ht h2)
    · cases hl
theorem VR2_re {v v' u : Value} (h : VR2 ρ v u) (hv : reV2 keep v = some v') : VR2 (reR keep ρ) v' u := by
  unfold reV2 at hv
  split at hv
  · split at hv
    · rename_i cs l hl
      cases hv
      obtain ⟨us, rfl, hp⟩ := VR2_agg.1 h
      exact VR2_agg.2 ⟨us, rfl, by simpa using reL_rel hp hl⟩
    · cases hv
  · rename_i hn
    exact (VR1_re ((VR2_of1 fun cs e => hn cs e).1 h) hv).toVR2
theorem reL2_rel : ∀ {l l' us : List Value}, PW (VR2 ρ) l us → reL2 keep l = some l' → PW (VR2 (reR keep ρ)) l' us
  | [], l', us, h, hl => by cases hl; rw [h.unnil]; exact PW.nil
  | v :: l, l', us, h, hl => by
    obtain ⟨u, us', rfl, hu, ht⟩ := h.uncons
    unfold reL2 at hl
    split at hl
    · rename_i v' l'' h1 h2
      cases hl
      exact PW.cons (VR2_re hu h1) (reL2_rel ht h2)
    · cases hl
theorem reL2_len : ∀ {l l' : List Value}, reL2 keep l = some l' → l'.length = l.length
  | [], l', h => by cases h; rfl
  | v :: l, l', h => by
    unfold reL2 at h
    split at h
    · rename_i h1 h2
      cases h
      rw [List.length_cons, List.length_cons, reL2_len h2]
    · cases h
theorem VR_re {v v' u : Value} (h : VR ρ v u) (hv : reV keep v = some v') : VR (reR keep ρ) v' u := by
  unfold reV at hv
  split at hv
  · split at hv
    · cases hv
    · rename_i hw
      split at hv
      · rename_i l hl
        cases hv
        obtain ⟨us, rfl, hp⟩ := (VR_tuple hw).1 h
        exact .inr ⟨us, rfl, by simpa using reL2_rel hp hl⟩
      · cases hv
  · rename_i hn
    exact (VR2_re ((VR_of2 fun vs e => hn vs e).1 h) hv).toVR
def sameIx0 (keep : List Nat) : Value → Bool
  | .pointer (some ⟨k, _, _⟩) => match posOf keep 0 k with | some p => Nat.beq p k | none => false
  | _ => true
def sameIx (keep : List Nat) : Value → Bool
  | .pointer (some ⟨k, _, _⟩) => match posOf keep 0 k with | some p => Nat.beq p k | none => false
  | .slice (some ⟨k, _, _⟩) _ _ => match posOf keep 0 k with | some p => Nat.beq p k | none => false
  | .func _ x y => x.toList.all (sameIx0 keep) && y.toList.all (sameIx0 keep)
  | .iface k (.slice none _ (_ + 1)) => stays keep k
  | .iface _ (.iface (_ + 2) _) => false
  | _ => true
theorem reL0_same : ∀ {l : List Value}, l.all (sameIx0 keep) = true → reL0 keep l = some l
  | [], _ => rfl
  | v :: l, h => by
    simp only [List.all_cons, Bool.and_eq_true] at h
    have h1 : reV0 keep v = some v := by
      have h0 := h.1
      unfold sameIx0 at h0
      split at h0
      · rename_i k off sp
        split at h0
        · rename_i p hp
          have := Nat.eq_of_beq_eq_true h0
          subst this
          unfold reV0
          simp only [hp]
        · cases h0
      · rename_i hn
        unfold reV0
        split
        · exact absurd rfl (hn _ _ _)
        · rfl
    simp only [reL0, h1, reL0_same h.2]
theorem reV1_same {v : Value} (h : sameIx keep v = true) : reV1 keep v = some v := by
  unfold sameIx at h
  split at h
  · rename_i k off sp
    split at h
    · rename_i p hp
      have := Nat.eq_of_beq_eq_true h
      subst this
      unfold reV1
      simp only [hp]
    · cases h
  · rename_i k off sp l c
    split at h
    · rename_i p hp
      have := Nat.eq_of_beq_eq_true h
      subst this
      unfold reV1
      simp only [hp]
    · cases h
  · rename_i f x y
    simp only [Bool.and_eq_true] at h
    unfold reV1
    simp only [reL0_same h.1, reL0_same h.2, Array.toArray_toList]
  · unfold reV1
    simp only [h]
  · cases h
  · rename_i h1 h2 h3 h4 h5
    unfold reV1
    split
    · exact absurd rfl (h1 _ _ _)
    · exact absurd rfl (h2 _ _ _ _ _)
    · exact absurd rfl (h3 _ _ _)
    · exact absurd rfl (h4 _ _ _)
    · exact absurd rfl (h5 _ _ _)
    · rfl
def blk0 : Blk := ⟨[], 0, false⟩
def reM (keep : List Nat) (mem : Mem) : Mem := keep.map fun k => mem.getD k blk0
def nodupB : List Nat → Bool
  | [] => true
  | k :: l => (l.all fun j => !Nat.beq j k) && nodupB l
theorem nodupB_spec : ∀ {l : List Nat}, nodupB l = true → l.Nodup
  | [], _ => List.nodup_nil
  | k :: l, h => by
    simp only [nodupB, Bool.and_eq_true] at h
    refine List.nodup_cons.2 ⟨fun hk => ?_, nodupB_spec h.2⟩
    have := List.all_eq_true.1 h.1 k hk
    simp at this
/-- Its first n are 0, 1, ..; the others lie behind; nothing is named twice; all are there. -/
def keepOk (n : Nat) (keep : List Nat) (len : Nat) : Bool := nodupB keep && (keep.all fun k => decide (k < len)) && ((List.range n).all fun k => match keep[k]? with | some j => Nat.beq j k | none => false) && ((keep.drop n).all fun k => decide (n ≤ k))
theorem keepOk_spec {n len : Nat} (h : keepOk n keep len = true) : keep.Nodup ∧ (∀ k ∈ keep, k < len) ∧ (∀ k, k < n → keep[k]? = some k) ∧ ∀ (k k0 : Nat), n ≤ k → keep[k]? = some k0 → n ≤ k0 := by
  simp only [keepOk, Bool.and_eq_true] at h
  obtain ⟨⟨⟨h1, h2⟩, h3⟩, h4⟩ := h
  refine ⟨nodupB_spec h1, fun k hk => by simpa using List.all_eq_true.1 h2 k hk, fun k hk => ?_, fun k k0 hk hk0 => ?_⟩
  · have := List.all_eq_true.1 h3 k (List.mem_range.2 hk)
    split at this
    · rename_i j hj
      rw [hj, Nat.eq_of_beq_eq_true this]
    · cases this
  · have hm : k0 ∈ keep.drop n := by
      rw [List.mem_iff_getElem?]
      exact ⟨k - n, by rw [List.getElem?_drop, show n + (k - n) = k by omega]; exact hk0⟩
    simpa using List.all_eq_true.1 h4 k0 hm
theorem reM_get {mem : Mem} {k k0 : Nat} {B : Blk} (h : keep[k]? = some k0) (hB : mem[k0]? = some B) : (reM keep mem)[k]? = some B := by
  unfold reM
  rw [List.getElem?_map, h, Option.map_some, List.getD_eq_getElem?_getD, hB]
  rfl
theorem MRel.re {mem : Mem} {w : World} (h : MRel ρ mem w) {n : Nat} (hk : keepOk n keep mem.length = true) (hc : ∀ B ∈ reM keep mem, B.cells.all (sameIx keep) = true) : MRel (reR keep ρ) (reM keep mem) w := by
  obtain ⟨hnd, hall, _, _⟩ := keepOk_spec hk
  refine ⟨fun k b s hk => ?_, fun k b s k' b' s' B hk hk' hB ho hne => ?_, fun b cs hh => ?_, ⟨fun b x hx => ?_, fun k B hB hl => ?_⟩⟩
  case refine_4 =>
    obtain ⟨hx, hkx⟩ := reG_some.1 hx
    have hL := h.lists.lst b x hx
    exact hL.move (Nat.le_refl _) rfl (fun k s hk => by obtain ⟨k0, _, hρ⟩ := reR_some.1 hk; exact hL.nomap k0 s hρ) hL.noh fun B hB hl => ⟨B, [], reM_get hkx hB, hl, (List.append_nil _).symm⟩
  case refine_5 =>
    cases hρ : reR keep ρ k with
    | none => rfl
    | some x =>
      obtain ⟨k0, hk0, hx⟩ := reR_some.1 hρ
      have hlt := hall k0 (List.mem_of_getElem? hk0)
      have hB0 : mem[k0]? = some mem[k0] := List.getElem?_eq_getElem hlt
      rw [reM_get hk0 hB0] at hB
      cases hB
      rw [h.lists.lmap k0 _ hB0 hl] at hx
      cases hx
  case refine_3 =>
    obtain ⟨h1, h2, h3⟩ := h.froz b cs hh
    refine ⟨h1, h2, fun k s B hk hB => ?_⟩
    obtain ⟨k0, hk0, hρ⟩ := reR_some.1 hk
    obtain ⟨B0, hB0, _⟩ := h.cell k0 b s hρ
    rw [reM_get hk0 hB0] at hB
    cases hB
    exact h3 k0 s _ hρ hB0
  · obtain ⟨k0, hk0, hρ⟩ := reR_some.1 hk
    obtain ⟨B, hB, hb, hcell⟩ := h.cell k0 b s hρ
    have hB' := reM_get hk0 hB
    refine ⟨B, hB', hb, fun i v hv => ?_⟩
    obtain ⟨⟨u, hu, hw⟩, hf⟩ := hcell i v hv
    exact ⟨⟨u, VR1_re hu (reV1_same (List.all_eq_true.1 (hc B (List.mem_of_getElem? hB')) v (List.mem_of_getElem? hv))), hw⟩, hf⟩
  · obtain ⟨k0, hk0, hρ⟩ := reR_some.1 hk
    obtain ⟨k1, hk1, hρ'⟩ := reR_some.1 hk'
    obtain ⟨B0, hB0, _⟩ := h.cell k0 b s hρ
    rw [reM_get hk0 hB0] at hB
    cases hB
    refine h.apart k0 b s k1 b' s' _ hρ hρ' hB0 ho fun e => hne ?_
    subst e
    have l1 := (List.getElem?_eq_some_iff.1 hk0).1
    exact (List.getElem?_inj l1 hnd).1 (hk0.trans hk1.symm)
theorem Mv.re {ρ' : Ren} {mem mem' : Mem} {w w' : World} (hM : MRel ρ mem w) (h : Mv ρ mem w ρ' mem' w') (hk : keepOk mem.length keep mem'.length = true) : Mv ρ mem w (reR keep ρ') (reM keep mem') w' := by
  obtain ⟨_, _, hfirst, hrest⟩ := keepOk_spec hk
  have hdom : ∀ k x, ρ k = some x → k < mem.length := fun k ⟨b, s⟩ hx => by
    obtain ⟨B, hB, _⟩ := hM.cell k b s hx
    exact (List.getElem?_eq_some_iff.1 hB).1
  have hgk : ∀ b x, ρ.g b = some x → x.k < mem.length := fun b x hx => by
    obtain ⟨B, _, hB, _⟩ := (hM.lists.lst b x hx).list
    exact (List.getElem?_eq_some_iff.1 hB).1
  refine ⟨⟨fun k x hx => reR_some.2 ⟨k, hfirst k (hdom k x hx), h.sub.m k x hx⟩, h.sub.h, h.sub.d, fun b x hx => ?_⟩, fun k x hx hk0 => ?_, fun k B hB => ?_, h.os, h.tape, h.output, h.size, h.block, h.newh, fun b x hx h0 => h.newg b x (reG_some.1 hx).1 h0⟩
  case refine_1 =>
    obtain ⟨y, hy, hl⟩ := h.sub.g b x hx
    exact ⟨y, reG_some.2 ⟨hy, by rw [hl.k]; exact hfirst _ (hgk b x hx)⟩, hl⟩
  · obtain ⟨k0, e, hρ⟩ := reR_some.1 hx
    refine h.new k0 x hρ ?_
    rcases Nat.lt_or_ge k mem.length with hlt | hge
    · rw [hfirst k hlt] at e
      cases e
      exact hk0
    · have := hrest k k0 hge e
      cases hr : ρ k0 with
      | none => rfl
      | some y => have := hdom k0 y hr; omega
  · have hlt := (List.getElem?_eq_some_iff.1 hB).1
    obtain ⟨B', hB', ho⟩ := h.kept k B hB
    exact ⟨B', reM_get (hfirst k hlt) hB', ho⟩
variable {P : Program}
/-- A call of which the blocks that are named remain. -/
def evFnR (P : Program) (fn : Func) (fuel : Nat) (keep : List Nat) (args : List Value) (mem : Mem) (ans : List Ans) : Option (Bool × List Prop × Value × Mem) :=
  match evFn P fn fuel args mem ans with
  | some r => match reV keep r.v with
    | some v => some (allB (r.ok :: keepOk mem.length keep r.mem.length :: (reM keep r.mem).map fun B => B.cells.all (sameIx keep)), r.obs, v, reM keep r.mem)
    | none => none
  | none => none
theorem MC.of_evR (hm : P.follows .mixedOrders = true) {f : FuncId} {fn : Func} (hf : P.funcs[f]? = some fn) (fuel : Nat) (keep : List Nat) {args : List Value} {mem mem' : Mem} (ans : List Ans) {ok : Bool} {obs : List Prop} {v : Value}
    (h : evFnR P fn fuel keep args mem ans = some (ok, obs, v, mem')) (hok : ok = true) (hobs : allP obs) (he : ∀ us w, (callFunc f us).run P w = .ok (.enter f us) w) : MC P f args mem v mem' := by
  unfold evFnR at h
  split at h
  · rename_i r hr
    split at h
    · rename_i v' hv
      cases h
      rw [allB_cons, allB_cons, Bool.and_eq_true, Bool.and_eq_true] at hok
      refine ⟨he, fun ρ w us hus hM => ?_⟩
      refine (CT.of_ev hm hf hr hok.1 (allP_iff hobs) ρ w us hus hM).mono ?_
      rintro e w' ⟨v', m, ρ', u, h1, ⟨rfl, rfl⟩, hu, hM', hmv⟩
      exact ⟨v, _, reR keep ρ', u, h1, ⟨rfl, rfl⟩, VR_re hu hv, hM'.re hok.2.1 fun B hB => allB_map hok.2.2 B hB, Mv.re hM hmv hok.2.1⟩
    · cases h
  · cases h
end
end Go.Ev
/-! Relative states, part K: a contract on a small memory, in a caller's memory. -/
namespace Go.Ev

theorem getElem?_pre {m n : Mem} {k : Nat} {B : Blk} (h : m[k]? = some B) : (m ++ n)[k]? = some B := by rw [List.getElem?_append_left (List.getElem?_eq_some_iff.1 h).1]; exact h

/-- Where the small memory's block i lies in the caller's (of m blocks); what is new comes behind. -/
def fIx (σ : List Nat) (m i : Nat) : Nat := match σ[i]? with | some k => k | none => m + (i - σ.length)
def fV0 (σ : List Nat) (m : Nat) : Value → Value
  | .pointer (some ⟨k, off, sp⟩) => .pointer (some ⟨fIx σ m k, off, sp⟩)
  | v => v
def fV1 (σ : List Nat) (m : Nat) : Value → Value
  | .pointer (some ⟨k, off, sp⟩) => .pointer (some ⟨fIx σ m k, off, sp⟩)
  | .slice (some ⟨k, off, sp⟩) l c => .slice (some ⟨fIx σ m k, off, sp⟩) l c
  | .func f x y => .func f (x.toList.map (fV0 σ m)).toArray (y.toList.map (fV0 σ m)).toArray
  | v => v
def fV2 (σ : List Nat) (m : Nat) : Value → Value
  | .agg cs => .agg (cs.toList.map (fV1 σ m)).toArray
  | v => fV1 σ m v
def fV (σ : List Nat) (m : Nat) : Value → Value
  | .tuple vs => .tuple (vs.toList.map (fV2 σ m)).toArray
  | v => fV2 σ m v
def subR (σ : List Nat) (ρ : Ren) : Ren := ⟨fun k => match σ[k]? with | some k' => ρ k' | none => none, ρ.h, ρ.d, fun _ => none⟩
theorem subR_m (σ : List Nat) (ρ : Ren) (k : Nat) : subR σ ρ k = match σ[k]? with | some k' => ρ k' | none => none := rfl
section
variable {σ : List Nat} {m : Nat} {ρ ρ' : Ren}
theorem rA_map {k off k' : Nat} {sp} (h : ρ k = ρ' k') : rA ρ ⟨k, off, sp⟩ = rA ρ' ⟨k', off, sp⟩ := by
  unfold rA
  simp only [h]
theorem rPL_f {n : Nat} (hag : ∀ k, k < n → ρ k = ρ' (fIx σ m k)) : ∀ {l : List Value}, l.all (noNew0 n) = true → rPL ρ' (l.map (fV0 σ m)) = rPL ρ l
  | [], _ => rfl
  | v :: l, h => by
    simp only [List.all_cons, Bool.and_eq_true] at h
    have h1 : rP ρ' (fV0 σ m v) = rP ρ v := by
      cases v with
      | pointer a => cases a with
        | none => rfl
        | some a =>
          obtain ⟨k, off, sp⟩ := a
          have hk : k < n := by simpa [noNew0] using h.1
          show (rA ρ' _).map _ = (rA ρ _).map _
          rw [rA_map (hag k hk)]
      | slice a l c => cases a <;> rfl
      | iface t v => cases v with
        | chan r => cases r <;> rfl
        | map r => cases r <;> rfl
        | slice a l c => cases a with
          | none => cases c <;> rfl
          | some a => rfl
        | _ => rfl
      | _ => rfl
    simp only [List.map_cons, rPL, h1, rPL_f hag h.2]
/-- Values under a renumbering that agrees on the blocks below n. -/
theorem VR1_f {v u : Value} {n : Nat} (hh : ρ.h = ρ'.h) (hag : ∀ k, k < n → ρ k = ρ' (fIx σ m k)) (hn : noNew1 n v = true) (hl : isLst v = false) : VR1 ρ v u ↔ VR1 ρ' (fV1 σ m v) u := by
  cases v with
  | func f x y =>
    simp only [noNew1, Bool.and_eq_true] at hn
    show VR1 ρ (.func f x y) u ↔ VR1 ρ' (.func f (x.toList.map (fV0 σ m)).toArray (y.toList.map (fV0 σ m)).toArray) u
    rw [VR1_func, VR1_func]
    simp only [rPL_f hag hn.1, rPL_f hag hn.2]
  | pointer a => cases a with
    | none => exact Iff.rfl
    | some a =>
      obtain ⟨k, off, sp⟩ := a
      simp only [noNew1, decide_eq_true_eq] at hn
      show (rA ρ _).map _ = _ ↔ (rA ρ' _).map _ = _
      rw [rA_map (hag k hn)]
  | slice a l c => cases a with
    | none => exact Iff.rfl
    | some a =>
      obtain ⟨k, off, sp⟩ := a
      simp only [noNew1, decide_eq_true_eq] at hn
      show (rA ρ _).map _ = _ ↔ (rA ρ' _).map _ = _
      rw [rA_map (hag k hn)]
  | iface t v =>
    show VR1 ρ (.iface t v) u ↔ VR1 ρ' (.iface t v) u
    cases ht : isTok (.iface t v) with
    | true =>
      rw [VR1_tok ht, VR1_tok ht]
      exact ⟨tokR_h hh hl, tokR_h hh.symm hl⟩
    | false =>
      have hf : flat1 (.iface t v) = true := by
        cases v with
        | chan r => cases r with | none => rfl | some r => cases ht
        | map r => cases r with | none => rfl | some r => cases ht
        | slice a l c => cases a with
          | none => cases c with | zero => rfl | succ c => cases ht
          | some a => rfl
        | iface t v => cases ht
        | _ => rfl
      rw [VR1_flat hf, VR1_flat hf]
  | _ => exact Iff.rfl
theorem PW_map {α β : Type} {R R' : α → β → Prop} {f : α → α} {p : α → Bool} (hp : ∀ a b, p a = true → (R a b ↔ R' (f a) b)) {l : List α} {us : List β} (hl : l.all p = true) : PW R l us ↔ PW R' (l.map f) us := by
  induction l generalizing us with
  | nil => constructor <;> (intro h; rw [h.unnil]; exact PW.nil)
  | cons a l ih =>
    simp only [List.all_cons, Bool.and_eq_true] at hl
    constructor
    · intro h
      obtain ⟨b, us', rfl, hb, ht⟩ := h.uncons
      exact PW.cons ((hp a b hl.1).1 hb) ((ih hl.2).1 ht)
    · intro h
      obtain ⟨b, us', rfl, hb, ht⟩ := PW.uncons (a := f a) (l := l.map f) h
      exact PW.cons ((hp a b hl.1).2 hb) ((ih hl.2).2 ht)
theorem fV1_noAgg {v : Value} (h : ∀ cs, v ≠ .agg cs) : ∀ cs, fV1 σ m v ≠ .agg cs := by
  intro cs
  unfold fV1
  split
  · simp
  · simp
  · simp
  · exact h cs
/-- No list in a value. -/
def noL2 : Value → Bool
  | .agg cs => cs.toList.all fun v => !isLst v
  | v => !isLst v
def noLV : Value → Bool
  | .tuple vs => vs.toList.all noL2
  | v => noL2 v
theorem all_and2 {α : Type} {p q : α → Bool} {l : List α} (h : l.all p = true) (h' : l.all q = true) : l.all (fun a => p a && q a) = true :=
  List.all_eq_true.2 fun a ha => by rw [List.all_eq_true.1 h a ha, List.all_eq_true.1 h' a ha]; rfl
theorem VR2_f {v u : Value} {n : Nat} (hh : ρ.h = ρ'.h) (hag : ∀ k, k < n → ρ k = ρ' (fIx σ m k)) (hn : noNew2 n v = true) (hl : noL2 v = true) : VR2 ρ v u ↔ VR2 ρ' (fV2 σ m v) u := by
  by_cases hc : ∃ cs, v = .agg cs
  · obtain ⟨cs, rfl⟩ := hc
    show VR2 ρ (.agg cs) u ↔ VR2 ρ' (.agg (cs.toList.map (fV1 σ m)).toArray) u
    rw [VR2_agg, VR2_agg]
    constructor
    · rintro ⟨us, rfl, hp⟩
      exact ⟨us, rfl, by simpa using (PW_map (R := VR1 ρ) (R' := VR1 ρ') (f := fV1 σ m) (p := fun a => noNew1 n a && !isLst a) (fun _ _ h => by
        rw [Bool.and_eq_true, Bool.not_eq_true'] at h
        exact VR1_f hh hag h.1 h.2) (all_and2 hn hl)).1 hp⟩
    · rintro ⟨us, rfl, hp⟩
      exact ⟨us, rfl, (PW_map (R := VR1 ρ) (R' := VR1 ρ') (f := fV1 σ m) (p := fun a => noNew1 n a && !isLst a) (fun _ _ h => by
        rw [Bool.and_eq_true, Bool.not_eq_true'] at h
        exact VR1_f hh hag h.1 h.2) (all_and2 hn hl)).2 (by simpa using hp)⟩
  · have hne : ∀ cs, v ≠ .agg cs := fun cs e => hc ⟨cs, e⟩
    have e1 : fV2 σ m v = fV1 σ m v := by
      unfold fV2
      split
      · exact absurd rfl (hne _)
      · rfl
    have e2 : noNew2 n v = noNew1 n v := by
      unfold noNew2
      split
      · exact absurd rfl (hne _)
      · rfl
    have e3 : noL2 v = !isLst v := by
      unfold noL2
      split
      · exact absurd rfl (hne _)
      · rfl
    rw [e1, VR2_of1 hne, VR2_of1 (fV1_noAgg hne)]
    exact VR1_f hh hag (e2 ▸ hn) (by rw [e3] at hl; simpa using hl)
theorem fV2_noTuple {v : Value} (h : ∀ vs, v ≠ .tuple vs) : ∀ vs, fV2 σ m v ≠ .tuple vs := by
  intro vs
  unfold fV2
  split
  · simp
  · unfold fV1
    split
    · simp
    · simp
    · simp
    · exact h vs
theorem VR_f {v u : Value} {n : Nat} (hh : ρ.h = ρ'.h) (hag : ∀ k, k < n → ρ k = ρ' (fIx σ m k)) (hn : noNew n v = true) (hl : noLV v = true) (ht : ∀ vs, v = .tuple vs → isWild vs.toList = false) : VR ρ v u ↔ VR ρ' (fV σ m v) u := by
  by_cases hc : ∃ vs, v = .tuple vs
  · obtain ⟨vs, rfl⟩ := hc
    have hwi := ht vs rfl
    have hwi' : isWild ((vs.toList.map (fV2 σ m)).toArray).toList = false := by
      cases hvs : vs.toList with
      | nil => rfl
      | cons a l => cases l with
        | nil => rw [hvs] at hwi; cases hwi
        | cons b l => rfl
    show VR ρ (.tuple vs) u ↔ VR ρ' (.tuple (vs.toList.map (fV2 σ m)).toArray) u
    rw [VR_tuple hwi, VR_tuple hwi']
    have hn' : vs.toList.all (noNew2 n) = true := by
      simp only [noNew, hwi, Bool.false_or] at hn
      exact hn
    constructor
    · rintro ⟨us, rfl, hp⟩
      exact ⟨us, rfl, by simpa using (PW_map (R := VR2 ρ) (R' := VR2 ρ') (f := fV2 σ m) (p := fun a => noNew2 n a && noL2 a) (fun _ _ h => by
        rw [Bool.and_eq_true] at h
        exact VR2_f hh hag h.1 h.2) (all_and2 hn' hl)).1 hp⟩
    · rintro ⟨us, rfl, hp⟩
      exact ⟨us, rfl, (PW_map (R := VR2 ρ) (R' := VR2 ρ') (f := fV2 σ m) (p := fun a => noNew2 n a && noL2 a) (fun _ _ h => by
        rw [Bool.and_eq_true] at h
        exact VR2_f hh hag h.1 h.2) (all_and2 hn' hl)).2 (by simpa using hp)⟩
  · have hne : ∀ vs, v ≠ .tuple vs := fun vs e => hc ⟨vs, e⟩
    have e1 : fV σ m v = fV2 σ m v := by
      unfold fV
      split
      · exact absurd rfl (hne _)
      · rfl
    have e2 : noNew n v = noNew2 n v := by
      unfold noNew
      split
      · exact absurd rfl (hne _)
      · rfl
    have e3 : noLV v = noL2 v := by
      unfold noLV
      split
      · exact absurd rfl (hne _)
      · rfl
    rw [e1, VR_of2 hne, VR_of2 (fV2_noTuple hne)]
    exact VR2_f hh hag (e2 ▸ hn) (e3 ▸ hl)
/-- A value that is no tuple of one and points below n. -/
def okV (n : Nat) (v : Value) : Bool := noNew n v && noLV v && (match v with | .tuple vs => !isWild vs.toList | _ => true)
theorem okV_f {v u : Value} {n : Nat} (hh : ρ.h = ρ'.h) (hag : ∀ k, k < n → ρ k = ρ' (fIx σ m k)) (h : okV n v = true) : VR ρ v u ↔ VR ρ' (fV σ m v) u := by
  simp only [okV, Bool.and_eq_true] at h
  refine VR_f hh hag h.1.1 h.1.2 fun vs e => ?_
  subst e
  simpa using h.2
/-- Does a value point to block k? -/
def refs0 (k : Nat) : Value → Bool
  | .pointer (some ⟨j, _, _⟩) => Nat.beq j k
  | _ => false
def refs1 (k : Nat) : Value → Bool
  | .pointer (some ⟨j, _, _⟩) => Nat.beq j k
  | .slice (some ⟨j, _, _⟩) _ _ => Nat.beq j k
  | .func _ x y => x.toList.any (refs0 k) || y.toList.any (refs0 k)
  | _ => false
theorem refs0_def {k : Nat} : ∀ {l us : List Value}, rPL ρ l = some us → l.any (refs0 k) = true → ∃ x, ρ k = some x
  | [], us, _, hr => by cases hr
  | v :: l, us, h, hr => by
    simp only [List.any_cons, Bool.or_eq_true] at hr
    unfold rPL at h
    split at h
    · rename_i u us' h1 h2
      rcases hr with hr | hr
      · unfold refs0 at hr
        split at hr
        · rename_i j off sp
          simp only [rP, Option.map_eq_some_iff] at h1
          obtain ⟨a', ha, _⟩ := h1
          unfold rA at ha
          rw [← Nat.eq_of_beq_eq_true hr]
          split at ha
          · rename_i b s _ h2; exact ⟨_, h2⟩
          · cases ha
        · cases hr
      · exact refs0_def h2 hr
    · cases h
def refs (k : Nat) : Value → Bool
  | .agg cs => cs.toList.any (refs1 k)
  | .tuple _ => false
  | v => refs1 k v
theorem refs1_def {k : Nat} {v u : Value} (h : VR1 ρ v u) (hr : refs1 k v = true) : ∃ x, ρ k = some x := by
  have hA : ∀ {a a' : Addr}, rA ρ a = some a' → ∃ x, ρ a.block = some x := fun {a a'} e => by
    unfold rA at e
    split at e
    · rename_i b s _ h2; exact ⟨_, h2⟩
    · cases e
  unfold refs1 at hr
  split at hr
  · rename_i j off sp
    obtain ⟨a', ha, _⟩ := VR1_ptr.1 h
    have := hA ha
    rwa [Nat.eq_of_beq_eq_true hr] at this
  · rename_i j off sp l c
    obtain ⟨a', ha, _⟩ := VR1_slice.1 h
    have := hA ha
    rwa [Nat.eq_of_beq_eq_true hr] at this
  · obtain ⟨x', y', h1, h2, _⟩ := VR1_func.1 h
    rcases Bool.or_eq_true_iff.1 hr with hr | hr
    · exact refs0_def h1 hr
    · exact refs0_def h2 hr
  · cases hr
theorem refs_def {k : Nat} {v u : Value} (h : VR ρ v u) (hr : refs k v = true) : ∃ x, ρ k = some x := by
  unfold refs at hr
  split at hr
  · rename_i cs
    obtain ⟨us, rfl, hp⟩ := VR2_agg.1 ((VR_of2 (by simp)).1 h)
    obtain ⟨c, hc, hcr⟩ := List.any_eq_true.1 hr
    obtain ⟨i, hi⟩ := List.mem_iff_getElem?.1 hc
    obtain ⟨b, hb, hR⟩ := hp.get hi
    exact refs1_def hR hcr
  · cases hr
  · rename_i h1 h2
    exact refs1_def ((VR2_of1 fun cs e => h1 cs e).1 ((VR_of2 fun vs e => h2 vs e).1 h)) hr
variable {P : Program}
/-- A CONTRACT ON THE ARGUMENTS' BLOCKS ALONE, WHICH ONLY READS THEM AND MAKES NEW ONES, IN A CALLER'S MEMORY. -/
theorem MC.frame {f : FuncId} {args : List Value} {mem0 news mem : Mem} {v : Value} {σ : List Nat} (h : MC P f args mem0 v (mem0 ++ news)) (hσ : σ.length = mem0.length)
    (hro : ∀ B ∈ mem0, B.own = false ∧ B.cells.all flat1 = true) (hnew : ∀ B ∈ news, B.cells.all flat1 = true)
    (hcells : ∀ (k k' : Nat) (B : Blk), σ[k]? = some k' → mem0[k]? = some B → ∃ C : Blk, mem[k']? = some C ∧ C.cells = B.cells)
    (hargs : args.all (okV mem0.length) = true) (hdef : ∀ k, k < mem0.length → args.any (refs k) = true) (hv : okV (mem0 ++ news).length v = true) (hnl : (mem0 ++ news).all (fun B => !Nat.beq B.elem lstT) = true := by rfl) :
    MC P f (args.map (fV σ mem.length)) mem (fV σ mem.length v) (mem ++ news) := by
  refine ⟨h.1, fun ρ w us hus hM => ?_⟩
  have hag0 : ∀ k, k < mem0.length → subR σ ρ k = ρ (fIx σ mem.length k) := fun k hk => by
    have hk' : k < σ.length := by omega
    rw [subR_m]
    unfold fIx
    rw [List.getElem?_eq_getElem hk']
  have hus0 : PW (VR (subR σ ρ)) args us := (PW_map (R := VR (subR σ ρ)) (R' := VR ρ) (f := fV σ mem.length) (p := okV mem0.length) (fun _ _ h => okV_f rfl hag0 h) hargs).2 hus
  have noL : ∀ (k : Nat) (B : Blk), (mem0 ++ news)[k]? = some B → B.isL = true → False := fun k B hB hl => by
    have h1 := List.all_eq_true.1 hnl B (List.mem_of_getElem? hB)
    simp only [Blk.isL, Bool.and_eq_true] at hl
    rw [hl.2] at h1
    cases h1
  have hM0 : MRel (subR σ ρ) mem0 w := by
    refine ⟨fun k b s hk => ?_, fun k b s k' b' s' B _ _ hB ho _ => ?_, fun b cs hh => ?_, LRel.empty (fun _ => rfl) fun k B hB hl => (noL k B (getElem?_pre hB) hl).elim⟩
    case refine_3 =>
      obtain ⟨h1, h2, h3⟩ := hM.froz b cs hh
      exact ⟨h1, h2, fun k s B _ hB => (hro B (List.mem_of_getElem? hB)).1⟩
    · have hk0 := hk
      rw [subR_m] at hk
      split at hk
      · rename_i k' hk'
        have hlt : k < mem0.length := by have := (List.getElem?_eq_some_iff.1 hk').1; omega
        have hB : mem0[k]? = some mem0[k] := List.getElem?_eq_getElem hlt
        obtain ⟨C, hC, hcc⟩ := hcells k k' _ hk' hB
        obtain ⟨C', hC', hb, hcell⟩ := hM.cell k' b s hk
        rw [hC] at hC'
        cases hC'
        obtain ⟨hown, hfl⟩ := hro _ (List.mem_of_getElem? hB)
        refine ⟨_, hB, hb, fun i x hx => ⟨?_, fun ho => by rw [hown] at ho; cases ho⟩⟩
        obtain ⟨⟨u, hu, hw⟩, _⟩ := hcell i x (by rw [hcc]; exact hx)
        have hf := List.all_eq_true.1 hfl x (List.mem_of_getElem? hx)
        rw [VR1_flat hf] at hu
        exact ⟨u, (VR1_flat hf).2 hu, hw⟩
      · cases hk
    · rw [(hro B (List.mem_of_getElem? hB)).1] at ho; cases ho
  refine (h.2 (subR σ ρ) w us hus0 hM0).mono ?_
  rintro e w' ⟨v', m', ρ', u, rfl, ⟨rfl, rfl⟩, hu, hM', hmv⟩
  have hbelow : RowKit.Below w.heap.size w w' := ⟨hmv.os, hmv.tape, hmv.output, hmv.size, fun b hb => hmv.block b hb rfl fun k s B _ hB => (hro B (List.mem_of_getElem? hB)).1⟩
  have hMw := hM.below hbelow
  have hsub : ∀ k, k < mem0.length → ∃ x, ρ' k = some x ∧ subR σ ρ k = some x := fun k hk => by
    obtain ⟨a, ha, hr⟩ := List.any_eq_true.1 (hdef k hk)
    obtain ⟨i, hi⟩ := List.mem_iff_getElem?.1 ha
    obtain ⟨b, hb, hR⟩ := hus0.get hi
    obtain ⟨x, hx⟩ := refs_def hR hr
    exact ⟨x, hmv.sub.m k x hx, hx⟩
  have hdom : ∀ k x, ρ k = some x → k < mem.length := fun k ⟨b, s⟩ hx => by
    obtain ⟨B, hB, _⟩ := hM.cell k b s hx
    exact (List.getElem?_eq_some_iff.1 hB).1
  let ρ1 : Ren := ⟨fun k => if k < mem.length then ρ k else ρ' (mem0.length + (k - mem.length)), ρ'.h, ρ.d, ρ.g⟩
  have hlo : ∀ k, k < mem.length → ρ1 k = ρ k := fun k hk => if_pos hk
  have hhi : ∀ k, mem.length ≤ k → ρ1 k = ρ' (mem0.length + (k - mem.length)) := fun k hk => if_neg (by omega)
  have hag1 : ∀ k, k < (mem0 ++ news).length → ρ' k = ρ1 (fIx σ mem.length k) := fun k hk => by
    rcases Nat.lt_or_ge k mem0.length with hlt | hge
    · obtain ⟨x, h1, h2⟩ := hsub k hlt
      have h3 := hag0 k hlt
      rw [h2] at h3
      rw [h1, hlo _ (hdom _ x h3.symm), h3]
    · have e : fIx σ mem.length k = mem.length + (k - mem0.length) := by
        unfold fIx
        rw [List.getElem?_eq_none (by omega), hσ]
      rw [e, hhi _ (by omega)]
      congr 1
      omega
  have hnewIdx : ∀ k b s, mem.length ≤ k → ρ1 k = some (b, s) → ∃ B : Blk, news[k - mem.length]? = some B ∧ (mem ++ news)[k]? = some B ∧ (mem0 ++ news)[mem0.length + (k - mem.length)]? = some B ∧ ρ' (mem0.length + (k - mem.length)) = some (b, s) ∧ w.heap.size ≤ b := fun k b s hk hx => by
    rw [hhi k hk] at hx
    obtain ⟨B, hB, _⟩ := hM'.cell _ b s hx
    have hB2 := hB
    rw [List.getElem?_append_right (by omega), Nat.add_sub_cancel_left] at hB
    refine ⟨B, hB, by rw [List.getElem?_append_right hk]; exact hB, hB2, hx, ?_⟩
    have hnone : subR σ ρ (mem0.length + (k - mem.length)) = none := by
      rw [subR_m, List.getElem?_eq_none (by omega)]
    exact hmv.new _ _ hx hnone
  refine ⟨_, _, ρ1, u, rfl, ⟨rfl, rfl⟩, (okV_f (ρ := ρ') (ρ' := ρ1) rfl hag1 hv).1 hu, ⟨fun k b s hk => ?_, fun k b s k' b' s' B hk hk' hB ho hne => ?_, fun b cs hh => ?_, ⟨fun b x hx => ?_, fun k B hB hl => ?_⟩⟩, ⟨fun k x hx => ?_, hmv.sub.h, rfl, Ren.le.gsame rfl⟩, fun k x hx hk0 => ?_, fun k B hB => ⟨B, getElem?_pre hB, rfl⟩, hmv.os, hmv.tape, hmv.output, hmv.size, fun b hb _ _ => hbelow.block b hb, hmv.newh, fun b x h1 h2 => by rw [show ρ.g b = some x from h1] at h2; cases h2⟩
  case refine_4 =>
    have hx' : ρ.g b = some x := hx
    have hL := hMw.lists.lst b x hx'
    have hlt := (hM.lists.lst b x hx').lt
    refine hL.move (Nat.le_refl _) rfl (fun k s hk => ?_) ?_ fun B hB hl => ⟨B, [], getElem?_pre hB, hl, (List.append_nil _).symm⟩
    · rcases Nat.lt_or_ge k mem.length with h1 | h1
      · rw [hlo k h1] at hk
        exact hL.nomap k s hk
      · obtain ⟨_, _, _, _, _, h2⟩ := hnewIdx k b s h1 hk
        omega
    · show ρ'.h b = none
      cases hc : ρ'.h b with
      | none => rfl
      | some cs => have := hmv.newh b cs hc (hM.lists.lst b x hx').noh; omega
  case refine_5 =>
    rcases Nat.lt_or_ge k mem.length with h1 | h1
    · rw [hlo k h1]
      rw [List.getElem?_append_left h1] at hB
      exact hM.lists.lmap k B hB hl
    · rw [List.getElem?_append_right h1] at hB
      exact (noL (mem0.length + (k - mem.length)) B (by rw [List.getElem?_append_right (by omega), Nat.add_sub_cancel_left]; exact hB) hl).elim
  · rcases Nat.lt_or_ge k mem.length with hlt | hge
    · rw [hlo k hlt] at hk
      obtain ⟨B, hB, hb, hcell⟩ := hMw.cell k b s hk
      refine ⟨B, getElem?_pre hB, hb, fun i x hx => ⟨?_, (hcell i x hx).2⟩⟩
      obtain ⟨⟨u, hu, hw⟩, _⟩ := hcell i x hx
      exact ⟨u, hu.mono (show ρ.le ρ1 from ⟨fun j y hy => by rw [hlo j (hdom j y hy)]; exact hy, hmv.sub.h, rfl, Ren.le.gsame rfl⟩), hw⟩
    · obtain ⟨B, hB, hB1, hB0, hρ', _⟩ := hnewIdx k b s hge hk
      obtain ⟨B', hB', hb, hcell⟩ := hM'.cell _ b s hρ'
      rw [hB0] at hB'
      cases hB'
      refine ⟨B, hB1, hb, fun i x hx => ⟨?_, (hcell i x hx).2⟩⟩
      obtain ⟨⟨u, hu, hw⟩, _⟩ := hcell i x hx
      have hf := List.all_eq_true.1 (hnew B (List.mem_of_getElem? hB)) x (List.mem_of_getElem? hx)
      rw [VR1_flat hf] at hu
      exact ⟨u, (VR1_flat hf).2 hu, hw⟩
  · rcases Nat.lt_or_ge k mem.length with hlt | hge
    · rw [hlo k hlt] at hk
      rw [List.getElem?_append_left hlt] at hB
      rcases Nat.lt_or_ge k' mem.length with hlt' | hge'
      · rw [hlo k' hlt'] at hk'
        exact hMw.apart k b s k' b' s' B hk hk' hB ho hne
      · obtain ⟨_, _, _, _, _, hb'⟩ := hnewIdx k' b' s' hge' hk'
        obtain ⟨_, _, hb, _⟩ := hM.cell k b s hk
        omega
    · obtain ⟨C, hC, hC1, hC0, hρ', hb⟩ := hnewIdx k b s hge hk
      rw [hB] at hC1
      cases hC1
      rcases Nat.lt_or_ge k' mem.length with hlt' | hge'
      · rw [hlo k' hlt'] at hk'
        obtain ⟨_, _, hb', _⟩ := hM.cell k' b' s' hk'
        omega
      · obtain ⟨_, _, _, _, hρ2, _⟩ := hnewIdx k' b' s' hge' hk'
        exact hM'.apart _ b s _ b' s' B hρ' hρ2 hC0 ho (by omega)
  · obtain ⟨h1, h2, h3⟩ := hM'.froz b cs hh
    refine ⟨h1, h2, fun k s B hk hB => ?_⟩
    rcases Nat.lt_or_ge k mem.length with hlt | hge
    · rw [hlo k hlt] at hk
      rw [List.getElem?_append_left hlt] at hB
      cases hb : ρ.h b with
      | some cs' => exact (hM.froz b cs' hb).2.2 k s B hk hB
      | none =>
        have h4 := hmv.newh b cs hh hb
        obtain ⟨_, _, h5, _⟩ := hM.cell k b s hk
        omega
    · obtain ⟨C, _, hC1, hC0, hρ', _⟩ := hnewIdx k b s hge hk
      rw [hB] at hC1
      cases hC1
      exact h3 _ s B hρ' hC0
  · rw [hlo k (hdom k x hx)]; exact hx
  · rcases Nat.lt_or_ge k mem.length with hlt | hge
    · rw [hlo k hlt, hk0] at hx; cases hx
    · obtain ⟨b, s⟩ := x
      obtain ⟨_, _, _, _, _, hb⟩ := hnewIdx k b s hge hx
      exact hb
/-- A CONTRACT ON THE ONE BLOCK THAT A CALL WRITES, IN WHATEVER MEMORY HOLDS IT AT NUMBER k. -/
theorem QO.of_mc {f : FuncId} {args : List Value} {v : Value} {k : Nat} {C B : Blk} (h : MC P f args [C] v [B]) (hC : C.own = true) (hcC : C.cells.all flat1 = true) (hcB : B.cells.all flat1 = true)
    (hv : flat v = true) (hargs : args.all (okV 1) = true) (hdef : args.any (refs 0) = true) (m : Nat) : QO P f (args.map (fV [k] m)) v k C B := by
  refine ⟨h.1, fun M hMk ρ w us hus hM => ?_⟩
  have hag0 : ∀ j, j < 1 → subR [k] ρ j = ρ (fIx [k] m j) := fun j hj => by
    have : j = 0 := by omega
    subst this
    rfl
  have hus0 : PW (VR (subR [k] ρ)) args us := (PW_map (R := VR (subR [k] ρ)) (R' := VR ρ) (f := fV [k] m) (p := okV 1) (fun _ _ h => okV_f rfl hag0 h) hargs).2 hus
  have hsub0 : ∀ j x, subR [k] ρ j = some x → j = 0 ∧ ρ k = some x := fun j x hj => by
    rw [subR_m] at hj
    split at hj
    · rename_i k' hk'
      cases j with
      | zero => simp at hk'; subst hk'; exact ⟨rfl, hj⟩
      | succ j => simp at hk'
    · cases hj
  obtain ⟨a, ha, hr⟩ := List.any_eq_true.1 hdef
  obtain ⟨i, hi⟩ := List.mem_iff_getElem?.1 ha
  obtain ⟨u0, hu0, hR⟩ := hus0.get hi
  obtain ⟨⟨b0, s0⟩, hx0⟩ := refs_def hR hr
  have hρk : ρ k = some (b0, s0) := (hsub0 0 _ hx0).2
  have hM0 : MRel (subR [k] ρ) [C] w := by
    refine ⟨fun j b s hj => ?_, fun j b s j' b' s' B' hj hj' _ _ hne => ?_, fun b cs hh => ?_, LRel.empty (fun _ => rfl) fun j B' hB' hl => ?_⟩
    case refine_4 =>
      cases j with
      | zero => simp at hB'; subst hB'; rw [Blk.isL_own hC] at hl; cases hl
      | succ j => simp at hB'
    case refine_3 =>
      obtain ⟨h1, h2, h3⟩ := hM.froz b cs hh
      refine ⟨h1, h2, fun j s B' hj hB' => ?_⟩
      obtain ⟨rfl, hρ⟩ := hsub0 j _ hj
      cases hB'
      exact h3 k s C hρ hMk
    · obtain ⟨rfl, hρ⟩ := hsub0 j _ hj
      obtain ⟨C', hC', hb, hcell⟩ := hM.cell k b s hρ
      rw [hMk] at hC'
      cases hC'
      refine ⟨C, rfl, hb, fun i x hx => ⟨?_, (hcell i x hx).2⟩⟩
      obtain ⟨⟨u, hu, hw⟩, _⟩ := hcell i x hx
      have hf := List.all_eq_true.1 hcC x (List.mem_of_getElem? hx)
      rw [VR1_flat hf] at hu
      exact ⟨u, (VR1_flat hf).2 hu, hw⟩
    · exact absurd ((hsub0 j _ hj).1.trans (hsub0 j' _ hj').1.symm) hne
  refine (h.2 (subR [k] ρ) w us hus0 hM0).mono ?_
  rintro e w' ⟨v', m', ρ', u, rfl, ⟨rfl, rfl⟩, hu, hM', hmv⟩
  have hρ' : ρ' 0 = some (b0, s0) := hmv.sub.m 0 _ hx0
  have hBo : B.own = true := by
    obtain ⟨B', hB', ho⟩ := hmv.kept 0 C rfl
    cases hB'
    rw [ho, hC]
  have hkl : k < M.length := (List.getElem?_eq_some_iff.1 hMk).1
  have hblk : ∀ j b s, j ≠ k → ρ j = some (b, s) → w'.heap[b]? = w.heap[b]? := fun j b s hj hρ => by
    obtain ⟨_, _, hb, _⟩ := hM.cell j b s hρ
    refine hmv.block b hb rfl fun j0 s1 B0 hj0 _ => ?_
    obtain ⟨rfl, hρ0⟩ := hsub0 j0 _ hj0
    exact absurd rfl (hM.apart k b s1 j b s C hρ0 hρ hMk hC (Ne.symm hj))
  refine ⟨u, rfl, ?_, ⟨fun j b s hj => ?_, fun j b s j' b' s' D hj hj' hD ho hne => ?_, fun b cs hh => ?_, ⟨fun b x hx => ?_, fun j D hD hl => ?_⟩⟩, .refl _, (fun j x h1 h2 => by rw [h1] at h2; cases h2), fun j D hD => ?_, hmv.os, hmv.tape, hmv.output, hmv.size, fun b hb _ hk => ?_, (fun b cs h1 h2 => by rw [h1] at h2; cases h2), fun b cs h1 h2 => by rw [h1] at h2; cases h2⟩
  case refine_5 =>
    have hL := hM.lists.lst b x hx
    refine hL.move hmv.size (hmv.block b hL.lt rfl fun j0 s1 B0 hj0 _ => ?_) hL.nomap hL.noh fun D hD hl => ⟨D, [], ?_, hl, (List.append_nil _).symm⟩
    · exact absurd (hsub0 j0 _ hj0).2 (hL.nomap k s1)
    · rw [List.getElem?_set_ne (fun e => ?_)]
      · exact hD
      · rw [← e, hMk] at hD
        cases hD
        rw [Blk.isL_own hC] at hl
        cases hl
  case refine_6 =>
    by_cases hjk : j = k
    · subst hjk
      rw [List.getElem?_set_self hkl] at hD
      cases hD
      rw [Blk.isL_own hBo] at hl
      cases hl
    · rw [List.getElem?_set_ne (Ne.symm hjk)] at hD
      exact hM.lists.lmap j D hD hl
  · rw [(VR_flat hv).1 hu]
    exact (VR_flat hv).2 rfl
  · by_cases hjk : j = k
    · subst hjk
      rw [hρk] at hj
      cases hj
      obtain ⟨B', hB', hb, hcell⟩ := hM'.cell 0 _ _ hρ'
      cases hB'
      refine ⟨B, by rw [List.getElem?_set_self hkl], hb, fun i x hx => ⟨?_, (hcell i x hx).2⟩⟩
      obtain ⟨⟨u, hu, hw⟩, _⟩ := hcell i x hx
      have hf := List.all_eq_true.1 hcB x (List.mem_of_getElem? hx)
      rw [VR1_flat hf] at hu
      exact ⟨u, (VR1_flat hf).2 hu, hw⟩
    · obtain ⟨D, hD, hb, hcell⟩ := hM.cell j b s hj
      have hh := hblk j b s hjk hj
      refine ⟨D, by rw [List.getElem?_set_ne (Ne.symm hjk)]; exact hD, Nat.lt_of_lt_of_le hb hmv.size, fun i x hx => ?_⟩
      obtain ⟨⟨u, hu, hw⟩, hf⟩ := hcell i x hx
      exact ⟨⟨u, hu, by rw [World.cell?_of_block (a := ⟨b, s + i, none⟩) hh]; exact hw⟩, fun ho => by rw [World.frozen?_of_block (a := ⟨b, s + i, none⟩) hh]; exact hf ho⟩
  · by_cases hjk : j = k
    · subst hjk
      exact hM.apart j b s j' b' s' C hj hj' hMk hC hne
    · rw [List.getElem?_set_ne (Ne.symm hjk)] at hD
      exact hM.apart j b s j' b' s' D hj hj' hD ho hne
  · obtain ⟨h1, h2, h3⟩ := hM'.froz b cs (hmv.sub.h b cs hh)
    refine ⟨h1, h2, fun j s D hj hD => ?_⟩
    by_cases hjk : j = k
    · subst hjk
      have := (hM.froz b cs hh).2.2 j s C hj hMk
      rw [hC] at this
      cases this
    · rw [List.getElem?_set_ne (Ne.symm hjk)] at hD
      exact (hM.froz b cs hh).2.2 j s D hj hD
  · by_cases hjk : j = k
    · subst hjk
      rw [hMk] at hD
      cases hD
      exact ⟨B, by rw [List.getElem?_set_self hkl], by rw [hBo, hC]⟩
    · exact ⟨D, by rw [List.getElem?_set_ne (Ne.symm hjk)]; exact hD, rfl⟩
  · refine hmv.block b hb rfl fun j0 s1 B0 hj0 hB0 => ?_
    obtain ⟨rfl, hρ0⟩ := hsub0 j0 _ hj0
    cases hB0
    exact hk k s1 C hρ0 hMk
end
end Go.Ev
/-! Relative states, part S: a call's contract out of one run, without a stated print: the tests, the obligations and the value are read off what is handed in. -/
namespace Go.Ev
open Go.ChangeShapes Go.WideShapes Go.ChangeAt Go.RowKit
section
variable {P : Program}
def evFn4 (P : Program) (fn : Func) (fuel : Nat) (args : List Value) (ans : List Ans) : Option (Bool × Prop × Value) :=
  match evFn3 P fn fuel args ans with
  | some (a, b, c) => some (a, allP b, c)
  | none => none
theorem PC.run (hm : P.follows .mixedOrders = true) {f : FuncId} {fn : Func} (hf : P.funcs[f]? = some fn) {args : List Value} (ans : List Ans) {X : Bool} {A : Prop} {v v' : Value}
    (hfl : args.all flat = true) (hx : X = true) (ha : A) (hv : flat v = true) (hr : v = v') (e : evFn4 P fn 400 args ans = some (X, A, v)) : PC P f args v' := by
  unfold evFn4 at e
  split at e
  · rename_i a b c he
    cases e
    exact PC.of_ev3 hm hf 400 ans he hfl hx ha hv hr
  · cases e
def evFnM4 (P : Program) (fn : Func) (fuel : Nat) (args : List Value) (mem : Mem) (ans : List Ans) : Option (Bool × Prop × Value × Mem) :=
  match evFnM P fn fuel args mem ans with
  | some (a, b, c, d) => some (a, allP b, c, d)
  | none => none
theorem MC.run (hm : P.follows .mixedOrders = true) {f : FuncId} {fn : Func} (hf : P.funcs[f]? = some fn) {args : List Value} {mem mem' mem'' : Mem} (ans : List Ans) {X : Bool} {A : Prop} {v v' : Value}
    (hx : X = true) (ha : A) (hr : v = v') (hr' : mem' = mem'') (he : ∀ us w, (callFunc f us).run P w = .ok (.enter f us) w) (e : evFnM4 P fn 400 args mem ans = some (X, A, v, mem')) : MC P f args mem v' mem'' := by
  subst hr hr'
  unfold evFnM4 at e
  split at e
  · rename_i a b c d h
    cases e
    exact MC.of_ev hm hf 400 ans h hx ha he
  · cases e
theorem tT {p : Prop} [Decidable p] (h : p) : decide p = true := decide_eq_true h
theorem tF {p : Prop} [Decidable p] (h : ¬ p) : (!decide p) = true := by rw [decide_eq_false h]; rfl
theorem ts0 : conj [] = true := rfl
theorem qs0 : True := trivial
theorem ts1 {b0 : Bool} (hb0 : b0 = true) : conj [b0] = true := by subst hb0; rfl
theorem ts2 {b0 b1 : Bool} (hb0 : b0 = true) (hb1 : b1 = true) : conj [b0, b1] = true := by subst hb0 hb1; rfl
theorem ts3 {b0 b1 b2 : Bool} (hb0 : b0 = true) (hb1 : b1 = true) (hb2 : b2 = true) : conj [b0, b1, b2] = true := by subst hb0 hb1 hb2; rfl
theorem ts4 {b0 b1 b2 b3 : Bool} (hb0 : b0 = true) (hb1 : b1 = true) (hb2 : b2 = true) (hb3 : b3 = true) : conj [b0, b1, b2, b3] = true := by subst hb0 hb1 hb2 hb3; rfl
theorem ts5 {b0 b1 b2 b3 b4 : Bool} (hb0 : b0 = true) (hb1 : b1 = true) (hb2 : b2 = true) (hb3 : b3 = true) (hb4 : b4 = true) : conj [b0, b1, b2, b3, b4] = true := by subst hb0 hb1 hb2 hb3 hb4; rfl
theorem ts6 {b0 b1 b2 b3 b4 b5 : Bool} (hb0 : b0 = true) (hb1 : b1 = true) (hb2 : b2 = true) (hb3 : b3 = true) (hb4 : b4 = true) (hb5 : b5 = true) : conj [b0, b1, b2, b3, b4, b5] = true := by subst hb0 hb1 hb2 hb3 hb4 hb5; rfl
theorem ts7 {b0 b1 b2 b3 b4 b5 b6 : Bool} (hb0 : b0 = true) (hb1 : b1 = true) (hb2 : b2 = true) (hb3 : b3 = true) (hb4 : b4 = true) (hb5 : b5 = true) (hb6 : b6 = true) : conj [b0, b1, b2, b3, b4, b5, b6] = true := by subst hb0 hb1 hb2 hb3 hb4 hb5 hb6; rfl
theorem ts8 {b0 b1 b2 b3 b4 b5 b6 b7 : Bool} (hb0 : b0 = true) (hb1 : b1 = true) (hb2 : b2 = true) (hb3 : b3 = true) (hb4 : b4 = true) (hb5 : b5 = true) (hb6 : b6 = true) (hb7 : b7 = true) : conj [b0, b1, b2, b3, b4, b5, b6, b7] = true := by subst hb0 hb1 hb2 hb3 hb4 hb5 hb6 hb7; rfl
theorem ts9 {b0 b1 b2 b3 b4 b5 b6 b7 b8 : Bool} (hb0 : b0 = true) (hb1 : b1 = true) (hb2 : b2 = true) (hb3 : b3 = true) (hb4 : b4 = true) (hb5 : b5 = true) (hb6 : b6 = true) (hb7 : b7 = true) (hb8 : b8 = true) : conj [b0, b1, b2, b3, b4, b5, b6, b7, b8] = true := by subst hb0 hb1 hb2 hb3 hb4 hb5 hb6 hb7 hb8; rfl
theorem ts10 {b0 b1 b2 b3 b4 b5 b6 b7 b8 b9 : Bool} (hb0 : b0 = true) (hb1 : b1 = true) (hb2 : b2 = true) (hb3 : b3 = true) (hb4 : b4 = true) (hb5 : b5 = true) (hb6 : b6 = true) (hb7 : b7 = true) (hb8 : b8 = true) (hb9 : b9 = true) : conj [b0, b1, b2, b3, b4, b5, b6, b7, b8, b9] = true := by subst hb0 hb1 hb2 hb3 hb4 hb5 hb6 hb7 hb8 hb9; rfl
theorem ts11 {b0 b1 b2 b3 b4 b5 b6 b7 b8 b9 b10 : Bool} (hb0 : b0 = true) (hb1 : b1 = true) (hb2 : b2 = true) (hb3 : b3 = true) (hb4 : b4 = true) (hb5 : b5 = true) (hb6 : b6 = true) (hb7 : b7 = true) (hb8 : b8 = true) (hb9 : b9 = true) (hb10 : b10 = true) : conj [b0, b1, b2, b3, b4, b5, b6, b7, b8, b9, b10] = true := by subst hb0 hb1 hb2 hb3 hb4 hb5 hb6 hb7 hb8 hb9 hb10; rfl
theorem ts12 {b0 b1 b2 b3 b4 b5 b6 b7 b8 b9 b10 b11 : Bool} (hb0 : b0 = true) (hb1 : b1 = true) (hb2 : b2 = true) (hb3 : b3 = true) (hb4 : b4 = true) (hb5 : b5 = true) (hb6 : b6 = true) (hb7 : b7 = true) (hb8 : b8 = true) (hb9 : b9 = true) (hb10 : b10 = true) (hb11 : b11 = true) : conj [b0, b1, b2, b3, b4, b5, b6, b7, b8, b9, b10, b11] = true := by subst hb0 hb1 hb2 hb3 hb4 hb5 hb6 hb7 hb8 hb9 hb10 hb11; rfl
theorem qs1 {A0 : Prop} (a0 : A0) : A0 ∧ True := ⟨a0, trivial⟩
theorem qs2 {A0 A1 : Prop} (a0 : A0) (a1 : A1) : A0 ∧ A1 ∧ True := ⟨a0, a1, trivial⟩
theorem qs3 {A0 A1 A2 : Prop} (a0 : A0) (a1 : A1) (a2 : A2) : A0 ∧ A1 ∧ A2 ∧ True := ⟨a0, a1, a2, trivial⟩
theorem qs4 {A0 A1 A2 A3 : Prop} (a0 : A0) (a1 : A1) (a2 : A2) (a3 : A3) : A0 ∧ A1 ∧ A2 ∧ A3 ∧ True := ⟨a0, a1, a2, a3, trivial⟩
theorem qs5 {A0 A1 A2 A3 A4 : Prop} (a0 : A0) (a1 : A1) (a2 : A2) (a3 : A3) (a4 : A4) : A0 ∧ A1 ∧ A2 ∧ A3 ∧ A4 ∧ True := ⟨a0, a1, a2, a3, a4, trivial⟩
theorem qs6 {A0 A1 A2 A3 A4 A5 : Prop} (a0 : A0) (a1 : A1) (a2 : A2) (a3 : A3) (a4 : A4) (a5 : A5) : A0 ∧ A1 ∧ A2 ∧ A3 ∧ A4 ∧ A5 ∧ True := ⟨a0, a1, a2, a3, a4, a5, trivial⟩
theorem qs7 {A0 A1 A2 A3 A4 A5 A6 : Prop} (a0 : A0) (a1 : A1) (a2 : A2) (a3 : A3) (a4 : A4) (a5 : A5) (a6 : A6) : A0 ∧ A1 ∧ A2 ∧ A3 ∧ A4 ∧ A5 ∧ A6 ∧ True := ⟨a0, a1, a2, a3, a4, a5, a6, trivial⟩
theorem qs8 {A0 A1 A2 A3 A4 A5 A6 A7 : Prop} (a0 : A0) (a1 : A1) (a2 : A2) (a3 : A3) (a4 : A4) (a5 : A5) (a6 : A6) (a7 : A7) : A0 ∧ A1 ∧ A2 ∧ A3 ∧ A4 ∧ A5 ∧ A6 ∧ A7 ∧ True := ⟨a0, a1, a2, a3, a4, a5, a6, a7, trivial⟩
theorem qs9 {A0 A1 A2 A3 A4 A5 A6 A7 A8 : Prop} (a0 : A0) (a1 : A1) (a2 : A2) (a3 : A3) (a4 : A4) (a5 : A5) (a6 : A6) (a7 : A7) (a8 : A8) : A0 ∧ A1 ∧ A2 ∧ A3 ∧ A4 ∧ A5 ∧ A6 ∧ A7 ∧ A8 ∧ True := ⟨a0, a1, a2, a3, a4, a5, a6, a7, a8, trivial⟩
theorem qs10 {A0 A1 A2 A3 A4 A5 A6 A7 A8 A9 : Prop} (a0 : A0) (a1 : A1) (a2 : A2) (a3 : A3) (a4 : A4) (a5 : A5) (a6 : A6) (a7 : A7) (a8 : A8) (a9 : A9) : A0 ∧ A1 ∧ A2 ∧ A3 ∧ A4 ∧ A5 ∧ A6 ∧ A7 ∧ A8 ∧ A9 ∧ True := ⟨a0, a1, a2, a3, a4, a5, a6, a7, a8, a9, trivial⟩
theorem qs11 {A0 A1 A2 A3 A4 A5 A6 A7 A8 A9 A10 : Prop} (a0 : A0) (a1 : A1) (a2 : A2) (a3 : A3) (a4 : A4) (a5 : A5) (a6 : A6) (a7 : A7) (a8 : A8) (a9 : A9) (a10 : A10) : A0 ∧ A1 ∧ A2 ∧ A3 ∧ A4 ∧ A5 ∧ A6 ∧ A7 ∧ A8 ∧ A9 ∧ A10 ∧ True := ⟨a0, a1, a2, a3, a4, a5, a6, a7, a8, a9, a10, trivial⟩
theorem qs12 {A0 A1 A2 A3 A4 A5 A6 A7 A8 A9 A10 A11 : Prop} (a0 : A0) (a1 : A1) (a2 : A2) (a3 : A3) (a4 : A4) (a5 : A5) (a6 : A6) (a7 : A7) (a8 : A8) (a9 : A9) (a10 : A10) (a11 : A11) : A0 ∧ A1 ∧ A2 ∧ A3 ∧ A4 ∧ A5 ∧ A6 ∧ A7 ∧ A8 ∧ A9 ∧ A10 ∧ A11 ∧ True := ⟨a0, a1, a2, a3, a4, a5, a6, a7, a8, a9, a10, a11, trivial⟩
theorem qs13 {A0 A1 A2 A3 A4 A5 A6 A7 A8 A9 A10 A11 A12 : Prop} (a0 : A0) (a1 : A1) (a2 : A2) (a3 : A3) (a4 : A4) (a5 : A5) (a6 : A6) (a7 : A7) (a8 : A8) (a9 : A9) (a10 : A10) (a11 : A11) (a12 : A12) : A0 ∧ A1 ∧ A2 ∧ A3 ∧ A4 ∧ A5 ∧ A6 ∧ A7 ∧ A8 ∧ A9 ∧ A10 ∧ A11 ∧ A12 ∧ True := ⟨a0, a1, a2, a3, a4, a5, a6, a7, a8, a9, a10, a11, a12, trivial⟩
theorem qs14 {A0 A1 A2 A3 A4 A5 A6 A7 A8 A9 A10 A11 A12 A13 : Prop} (a0 : A0) (a1 : A1) (a2 : A2) (a3 : A3) (a4 : A4) (a5 : A5) (a6 : A6) (a7 : A7) (a8 : A8) (a9 : A9) (a10 : A10) (a11 : A11) (a12 : A12) (a13 : A13) : A0 ∧ A1 ∧ A2 ∧ A3 ∧ A4 ∧ A5 ∧ A6 ∧ A7 ∧ A8 ∧ A9 ∧ A10 ∧ A11 ∧ A12 ∧ A13 ∧ True := ⟨a0, a1, a2, a3, a4, a5, a6, a7, a8, a9, a10, a11, a12, a13, trivial⟩
theorem qs15 {A0 A1 A2 A3 A4 A5 A6 A7 A8 A9 A10 A11 A12 A13 A14 : Prop} (a0 : A0) (a1 : A1) (a2 : A2) (a3 : A3) (a4 : A4) (a5 : A5) (a6 : A6) (a7 : A7) (a8 : A8) (a9 : A9) (a10 : A10) (a11 : A11) (a12 : A12) (a13 : A13) (a14 : A14) : A0 ∧ A1 ∧ A2 ∧ A3 ∧ A4 ∧ A5 ∧ A6 ∧ A7 ∧ A8 ∧ A9 ∧ A10 ∧ A11 ∧ A12 ∧ A13 ∧ A14 ∧ True := ⟨a0, a1, a2, a3, a4, a5, a6, a7, a8, a9, a10, a11, a12, a13, a14, trivial⟩
theorem qs16 {A0 A1 A2 A3 A4 A5 A6 A7 A8 A9 A10 A11 A12 A13 A14 A15 : Prop} (a0 : A0) (a1 : A1) (a2 : A2) (a3 : A3) (a4 : A4) (a5 : A5) (a6 : A6) (a7 : A7) (a8 : A8) (a9 : A9) (a10 : A10) (a11 : A11) (a12 : A12) (a13 : A13) (a14 : A14) (a15 : A15) : A0 ∧ A1 ∧ A2 ∧ A3 ∧ A4 ∧ A5 ∧ A6 ∧ A7 ∧ A8 ∧ A9 ∧ A10 ∧ A11 ∧ A12 ∧ A13 ∧ A14 ∧ A15 ∧ True := ⟨a0, a1, a2, a3, a4, a5, a6, a7, a8, a9, a10, a11, a12, a13, a14, a15, trivial⟩
theorem qs17 {A0 A1 A2 A3 A4 A5 A6 A7 A8 A9 A10 A11 A12 A13 A14 A15 A16 : Prop} (a0 : A0) (a1 : A1) (a2 : A2) (a3 : A3) (a4 : A4) (a5 : A5) (a6 : A6) (a7 : A7) (a8 : A8) (a9 : A9) (a10 : A10) (a11 : A11) (a12 : A12) (a13 : A13) (a14 : A14) (a15 : A15) (a16 : A16) : A0 ∧ A1 ∧ A2 ∧ A3 ∧ A4 ∧ A5 ∧ A6 ∧ A7 ∧ A8 ∧ A9 ∧ A10 ∧ A11 ∧ A12 ∧ A13 ∧ A14 ∧ A15 ∧ A16 ∧ True := ⟨a0, a1, a2, a3, a4, a5, a6, a7, a8, a9, a10, a11, a12, a13, a14, a15, a16, trivial⟩
theorem qs18 {A0 A1 A2 A3 A4 A5 A6 A7 A8 A9 A10 A11 A12 A13 A14 A15 A16 A17 : Prop} (a0 : A0) (a1 : A1) (a2 : A2) (a3 : A3) (a4 : A4) (a5 : A5) (a6 : A6) (a7 : A7) (a8 : A8) (a9 : A9) (a10 : A10) (a11 : A11) (a12 : A12) (a13 : A13) (a14 : A14) (a15 : A15) (a16 : A16) (a17 : A17) : A0 ∧ A1 ∧ A2 ∧ A3 ∧ A4 ∧ A5 ∧ A6 ∧ A7 ∧ A8 ∧ A9 ∧ A10 ∧ A11 ∧ A12 ∧ A13 ∧ A14 ∧ A15 ∧ A16 ∧ A17 ∧ True := ⟨a0, a1, a2, a3, a4, a5, a6, a7, a8, a9, a10, a11, a12, a13, a14, a15, a16, a17, trivial⟩
theorem qs19 {A0 A1 A2 A3 A4 A5 A6 A7 A8 A9 A10 A11 A12 A13 A14 A15 A16 A17 A18 : Prop} (a0 : A0) (a1 : A1) (a2 : A2) (a3 : A3) (a4 : A4) (a5 : A5) (a6 : A6) (a7 : A7) (a8 : A8) (a9 : A9) (a10 : A10) (a11 : A11) (a12 : A12) (a13 : A13) (a14 : A14) (a15 : A15) (a16 : A16) (a17 : A17) (a18 : A18) : A0 ∧ A1 ∧ A2 ∧ A3 ∧ A4 ∧ A5 ∧ A6 ∧ A7 ∧ A8 ∧ A9 ∧ A10 ∧ A11 ∧ A12 ∧ A13 ∧ A14 ∧ A15 ∧ A16 ∧ A17 ∧ A18 ∧ True := ⟨a0, a1, a2, a3, a4, a5, a6, a7, a8, a9, a10, a11, a12, a13, a14, a15, a16, a17, a18, trivial⟩
theorem qs20 {A0 A1 A2 A3 A4 A5 A6 A7 A8 A9 A10 A11 A12 A13 A14 A15 A16 A17 A18 A19 : Prop} (a0 : A0) (a1 : A1) (a2 : A2) (a3 : A3) (a4 : A4) (a5 : A5) (a6 : A6) (a7 : A7) (a8 : A8) (a9 : A9) (a10 : A10) (a11 : A11) (a12 : A12) (a13 : A13) (a14 : A14) (a15 : A15) (a16 : A16) (a17 : A17) (a18 : A18) (a19 : A19) : A0 ∧ A1 ∧ A2 ∧ A3 ∧ A4 ∧ A5 ∧ A6 ∧ A7 ∧ A8 ∧ A9 ∧ A10 ∧ A11 ∧ A12 ∧ A13 ∧ A14 ∧ A15 ∧ A16 ∧ A17 ∧ A18 ∧ A19 ∧ True := ⟨a0, a1, a2, a3, a4, a5, a6, a7, a8, a9, a10, a11, a12, a13, a14, a15, a16, a17, a18, a19, trivial⟩
theorem qs21 {A0 A1 A2 A3 A4 A5 A6 A7 A8 A9 A10 A11 A12 A13 A14 A15 A16 A17 A18 A19 A20 : Prop} (a0 : A0) (a1 : A1) (a2 : A2) (a3 : A3) (a4 : A4) (a5 : A5) (a6 : A6) (a7 : A7) (a8 : A8) (a9 : A9) (a10 : A10) (a11 : A11) (a12 : A12) (a13 : A13) (a14 : A14) (a15 : A15) (a16 : A16) (a17 : A17) (a18 : A18) (a19 : A19) (a20 : A20) : A0 ∧ A1 ∧ A2 ∧ A3 ∧ A4 ∧ A5 ∧ A6 ∧ A7 ∧ A8 ∧ A9 ∧ A10 ∧ A11 ∧ A12 ∧ A13 ∧ A14 ∧ A15 ∧ A16 ∧ A17 ∧ A18 ∧ A19 ∧ A20 ∧ True := ⟨a0, a1, a2, a3, a4, a5, a6, a7, a8, a9, a10, a11, a12, a13, a14, a15, a16, a17, a18, a19, a20, trivial⟩
theorem qs22 {A0 A1 A2 A3 A4 A5 A6 A7 A8 A9 A10 A11 A12 A13 A14 A15 A16 A17 A18 A19 A20 A21 : Prop} (a0 : A0) (a1 : A1) (a2 : A2) (a3 : A3) (a4 : A4) (a5 : A5) (a6 : A6) (a7 : A7) (a8 : A8) (a9 : A9) (a10 : A10) (a11 : A11) (a12 : A12) (a13 : A13) (a14 : A14) (a15 : A15) (a16 : A16) (a17 : A17) (a18 : A18) (a19 : A19) (a20 : A20) (a21 : A21) : A0 ∧ A1 ∧ A2 ∧ A3 ∧ A4 ∧ A5 ∧ A6 ∧ A7 ∧ A8 ∧ A9 ∧ A10 ∧ A11 ∧ A12 ∧ A13 ∧ A14 ∧ A15 ∧ A16 ∧ A17 ∧ A18 ∧ A19 ∧ A20 ∧ A21 ∧ True := ⟨a0, a1, a2, a3, a4, a5, a6, a7, a8, a9, a10, a11, a12, a13, a14, a15, a16, a17, a18, a19, a20, a21, trivial⟩
theorem qs23 {A0 A1 A2 A3 A4 A5 A6 A7 A8 A9 A10 A11 A12 A13 A14 A15 A16 A17 A18 A19 A20 A21 A22 : Prop} (a0 : A0) (a1 : A1) (a2 : A2) (a3 : A3) (a4 : A4) (a5 : A5) (a6 : A6) (a7 : A7) (a8 : A8) (a9 : A9) (a10 : A10) (a11 : A11) (a12 : A12) (a13 : A13) (a14 : A14) (a15 : A15) (a16 : A16) (a17 : A17) (a18 : A18) (a19 : A19) (a20 : A20) (a21 : A21) (a22 : A22) : A0 ∧ A1 ∧ A2 ∧ A3 ∧ A4 ∧ A5 ∧ A6 ∧ A7 ∧ A8 ∧ A9 ∧ A10 ∧ A11 ∧ A12 ∧ A13 ∧ A14 ∧ A15 ∧ A16 ∧ A17 ∧ A18 ∧ A19 ∧ A20 ∧ A21 ∧ A22 ∧ True := ⟨a0, a1, a2, a3, a4, a5, a6, a7, a8, a9, a10, a11, a12, a13, a14, a15, a16, a17, a18, a19, a20, a21, a22, trivial⟩
theorem qs24 {A0 A1 A2 A3 A4 A5 A6 A7 A8 A9 A10 A11 A12 A13 A14 A15 A16 A17 A18 A19 A20 A21 A22 A23 : Prop} (a0 : A0) (a1 : A1) (a2 : A2) (a3 : A3) (a4 : A4) (a5 : A5) (a6 : A6) (a7 : A7) (a8 : A8) (a9 : A9) (a10 : A10) (a11 : A11) (a12 : A12) (a13 : A13) (a14 : A14) (a15 : A15) (a16 : A16) (a17 : A17) (a18 : A18) (a19 : A19) (a20 : A20) (a21 : A21) (a22 : A22) (a23 : A23) : A0 ∧ A1 ∧ A2 ∧ A3 ∧ A4 ∧ A5 ∧ A6 ∧ A7 ∧ A8 ∧ A9 ∧ A10 ∧ A11 ∧ A12 ∧ A13 ∧ A14 ∧ A15 ∧ A16 ∧ A17 ∧ A18 ∧ A19 ∧ A20 ∧ A21 ∧ A22 ∧ A23 ∧ True := ⟨a0, a1, a2, a3, a4, a5, a6, a7, a8, a9, a10, a11, a12, a13, a14, a15, a16, a17, a18, a19, a20, a21, a22, a23, trivial⟩

/-- Each argument reads behind a call that touches nothing as it read before. -/
theorem trodAll_below {H : Type} {enc : TypeId × Value → H} {W W' : World} (hl : laidOutB P = true) (hb : Below W.heap.size W W') :
    ∀ {ts : List TypeId} {vs : List Value} {ds : List (DataW H)} {ps : List MemPlace}, ts.all (fun t => P.readableRec t && decide (t < P.types.size)) = true → DataW.TrodAll enc P W 0 (fun _ => true) true ts vs ds ps →
      DataW.TrodAll enc P W' 0 (fun b => decide (b < W.heap.size)) true ts vs ds ps := by
  intro ts
  induction ts with
  | nil =>
    intro vs ds ps _ h
    obtain ⟨rfl, rfl, rfl⟩ := trodAll_nil h
    exact trodAll_mk0
  | cons t ts ih =>
    intro vs ds ps ha h
    obtain ⟨v, vs', d, ds', p, q, rfl, rfl, rfl, h1, h2⟩ := trodAll_cons h
    simp only [List.all_cons, Bool.and_eq_true, decide_eq_true_eq] at ha
    refine trodAll_cons_mk (Below.trod hl ha.1.1 ha.1.2 h1 hb ?_) (ih (by simpa using ha.2) h2)
    obtain ⟨m, hm⟩ := h1
    exact DataW.trod_lt m _ _ _ hm
theorem arg_int {H : Type} {enc : TypeId × Value → H} {W : World} {base b0 : Nat} {spare : Nat → Bool} {held : Bool} {r : Reach} {t : TypeId} {k : IntKind} {v : Value} {d : DataW H} {ps : List MemPlace} (ht : P.underlying t = some (.int k)) (hval : Value.okWide P W r b0 t v) (hd : DataW.Trod enc P W base spare held t v d ps) :
    ∃ n, v = .int k n ∧ (Lit.int k n).wf = true := by
  obtain ⟨n, h1, _, _, h2⟩ := open_int ht hval hd
  exact ⟨n, h1, h2⟩
theorem arg_ints2 {H : Type} {enc : TypeId × Value → H} {W : World} {base b0 : Nat} {spare : Nat → Bool} {held : Bool} {r : Reach} {t : TypeId} {f0 f1 : Field} {k : IntKind} {v : Value} {d : DataW H} {ps : List MemPlace} (hs : P.underlying t = some (.struct #[f0, f1])) (hone : Go.Deep.oneCellFields P #[f0, f1] = true) (hC : P.cellsOf t = 2)
    (h0 : P.underlying f0.type = some (.int k)) (h1 : P.underlying f1.type = some (.int k)) (hv : Value.okWide P W r b0 t v) (hd : DataW.Trod enc P W base spare held t v d ps) :
    ∃ a b, v = .agg #[.int k a, .int k b] ∧ (Lit.int k a).wf = true ∧ (Lit.int k b).wf = true := by
  obtain ⟨v0, v1, y0, y1, n, rfl, _, _, t0, t1⟩ := Go.Joins.open_agg2 hs hone hC hv hd
  obtain ⟨a, e0, _, w0⟩ := DataW.trod_int h0 t0
  obtain ⟨b, e1, _, w1⟩ := DataW.trod_int h1 t1
  cases e0; cases e1
  exact ⟨a, b, rfl, w0, w1⟩
theorem arg_ints3 {H : Type} {enc : TypeId × Value → H} {W : World} {base b0 : Nat} {spare : Nat → Bool} {held : Bool} {r : Reach} {t : TypeId} {f0 f1 f2 : Field} {k : IntKind} {v : Value} {d : DataW H} {ps : List MemPlace} (hs : P.underlying t = some (.struct #[f0, f1, f2])) (hone : Go.Deep.oneCellFields P #[f0, f1, f2] = true) (hC : P.cellsOf t = 3)
    (h0 : P.underlying f0.type = some (.int k)) (h1 : P.underlying f1.type = some (.int k)) (h2 : P.underlying f2.type = some (.int k)) (hv : Value.okWide P W r b0 t v) (hd : DataW.Trod enc P W base spare held t v d ps) :
    ∃ a b c, v = .agg #[.int k a, .int k b, .int k c] ∧ (Lit.int k a).wf = true ∧ (Lit.int k b).wf = true ∧ (Lit.int k c).wf = true := by
  obtain ⟨v0, v1, v2, y0, y1, y2, n, rfl, _, _, t0, t1, t2⟩ := Go.Joins.open_agg3 hs hone hC hv hd
  obtain ⟨a, e0, _, w0⟩ := DataW.trod_int h0 t0
  obtain ⟨b, e1, _, w1⟩ := DataW.trod_int h1 t1
  obtain ⟨c, e2, _, w2⟩ := DataW.trod_int h2 t2
  cases e0; cases e1; cases e2
  exact ⟨a, b, c, rfl, w0, w1, w2⟩
end
end Go.Ev
/-! Relative states, part T: an argument that is a struct of a struct of two integers and one of three, opened. -/
namespace Go.Ev
open Go.ChangeShapes Go.WideShapes Go.ChangeAt Go.RowKit Go.Joins Go.Deep
section
variable {P : Program}
theorem array5 {α : Type} {cs : Array α} (h : cs.size = 5) : ∃ c0 c1 c2 c3 c4, cs = #[c0, c1, c2, c3, c4] := by
  obtain ⟨l⟩ := cs
  match l, h with
  | [c0, c1, c2, c3, c4], _ => exact ⟨c0, c1, c2, c3, c4, rfl⟩
theorem arg_ell {H : Type} {enc : TypeId × Value → H} {W : World} {base b0 : Nat} {spare : Nat → Bool} {held : Bool} {r : Reach} {t : TypeId} {f0 f1 g0 g1 k0 k1 k2 : Field} {k : IntKind} {v : Value} {d : DataW H} {ps : List MemPlace} (hs : P.underlying t = some (.struct #[f0, f1])) (hC : P.cellsOf t = 5)
    (o0 : f0.offset = 0) (c0 : P.cellsOf f0.type = 2) (o1 : f1.offset = 2) (c1 : P.cellsOf f1.type = 3) (hp : P.underlying f0.type = some (.struct #[g0, g1])) (hone0 : Go.Deep.oneCellFields P #[g0, g1] = true) (hm : P.underlying f1.type = some (.struct #[k0, k1, k2])) (hone1 : Go.Deep.oneCellFields P #[k0, k1, k2] = true)
    (e0 : P.underlying g0.type = some (.int k)) (e1 : P.underlying g1.type = some (.int k)) (e2 : P.underlying k0.type = some (.int k)) (e3 : P.underlying k1.type = some (.int k)) (e4 : P.underlying k2.type = some (.int k)) (hv : Value.okWide P W r b0 t v) (hd : DataW.Trod enc P W base spare held t v d ps) :
    ∃ x y a b c, v = .agg #[.int k x, .int k y, .int k a, .int k b, .int k c] ∧ (Lit.int k x).wf = true ∧ (Lit.int k y).wf = true ∧ (Lit.int k a).wf = true ∧ (Lit.int k b).wf = true ∧ (Lit.int k c).wf = true := by
  obtain ⟨cs, rfl, hsz⟩ := okWide_struct hs hv
  obtain ⟨v0, v1, v2, v3, v4, rfl⟩ := array5 (hsz.trans hC)
  obtain ⟨fuel, hf⟩ := hd
  obtain ⟨y0, y1, n, hx, _, h0, h1⟩ := trod_struct2 hs hf
  have h0' : DataW.trod enc P W base spare held n f0.type [v0, v1] = some y0 := by simpa [Value.cells, o0, c0] using h0
  have h1' : DataW.trod enc P W base spare held n f1.type [v2, v3, v4] = some y1 := by simpa [Value.cells, o1, c1] using h1
  obtain ⟨z0, z1, n2, _, _, i0, i1⟩ := trod_struct2 hp h0'
  obtain ⟨z2, z3, z4, n3, _, _, i2, i3, i4⟩ := trod_struct3 hm h1'
  obtain ⟨p0, q0⟩ := hone_of hone0 0 g0 rfl
  obtain ⟨p1, q1⟩ := hone_of hone0 1 g1 rfl
  obtain ⟨p2, q2⟩ := hone_of hone1 0 k0 rfl
  obtain ⟨p3, q3⟩ := hone_of hone1 1 k1 rfl
  obtain ⟨p4, q4⟩ := hone_of hone1 2 k2 rfl
  have i0' : DataW.trod enc P W base spare held n2 g0.type [v0] = some z0 := by simpa [p0, q0] using i0
  have i1' : DataW.trod enc P W base spare held n2 g1.type [v1] = some z1 := by simpa [p1, q1] using i1
  have i2' : DataW.trod enc P W base spare held n3 k0.type [v2] = some z2 := by simpa [p2, q2] using i2
  have i3' : DataW.trod enc P W base spare held n3 k1.type [v3] = some z3 := by simpa [p3, q3] using i3
  have i4' : DataW.trod enc P W base spare held n3 k2.type [v4] = some z4 := by simpa [p4, q4] using i4
  obtain ⟨x, j0, _, w0⟩ := DataW.trod_int e0 i0'
  obtain ⟨y, j1, _, w1⟩ := DataW.trod_int e1 i1'
  obtain ⟨a, j2, _, w2⟩ := DataW.trod_int e2 i2'
  obtain ⟨b, j3, _, w3⟩ := DataW.trod_int e3 i3'
  obtain ⟨c, j4, _, w4⟩ := DataW.trod_int e4 i4'
  cases j0; cases j1; cases j2; cases j3; cases j4
  exact ⟨x, y, a, b, c, rfl, w0, w1, w2, w3, w4⟩
end
end Go.Ev
/-! Relative states, part U: a function's body piece by piece: its first statements, and then the rest, from states that forget what is no longer needed. -/
namespace Go.Ev
section
variable {P : Program}
def takeS : Nat → Code → List Code
  | 0, _ => []
  | n + 1, .seq a b => a :: takeS n b
  | _ + 1, c => [c]
def dropS : Nat → Code → Code
  | 0, c => c
  | n + 1, .seq _ b => dropS n b
  | _ + 1, _ => .skip
def hasS : Nat → Code → Bool
  | 0, _ => true
  | n + 1, .seq _ b => hasS n b
  | _ + 1, _ => false
def bodyOf (fn : Func) : Code := match fn.body with | some c => c | none => .skip
def wpN (P : Program) : List Code → (Exit → Act → World → Prop) → Act → World → Prop
  | [], Q, a, w => Q .normal a w
  | c :: cs, Q, a, w => c.wp P (Exit.then (wpN P cs Q) Q) a w
theorem wpN_mono {Q Q' : Exit → Act → World → Prop} (hq : ∀ e a w, Q e a w → Q' e a w) : ∀ {cs : List Code} {a : Act} {w : World}, wpN P cs Q a w → wpN P cs Q' a w
  | [], _, _, h => hq _ _ _ h
  | _ :: _, _, _, h => wp_mono h fun e _ _ h' => by
    cases e with
    | normal => exact wpN_mono hq h'
    | _ => exact hq _ _ _ h'
def TriN (P : Program) (cs : List Code) (S : St) (Q : Exit → St → Prop) : Prop :=
  ∀ ρ a w, ARel ρ S a w → wpN P cs (fun e a' w' => ∃ S' ρ', Q e S' ∧ ARel ρ' S' a' w' ∧ Mv ρ S.mem w ρ' S'.mem w') a w
theorem TriN.cons {c : Code} {cs : List Code} {S S1 : St} {Q : Exit → St → Prop} (h : Tri P c S (to .normal S1)) (h' : TriN P cs S1 Q) : TriN P (c :: cs) S Q := by
  intro ρ a w hr
  refine wp_mono (h ρ a w hr) ?_
  rintro e a1 w1 ⟨S2, ρ1, ⟨h1, h2⟩, r1, m1⟩
  subst h1 h2
  refine wpN_mono ?_ (h' ρ1 a1 w1 r1)
  rintro e a2 w2 ⟨S2, ρ2, q2, r2, m2⟩
  exact ⟨S2, ρ2, q2, r2, m1.trans hr.mem m2⟩
theorem TriN.stop {c : Code} {cs : List Code} {S S1 : St} {x : Exit} (h : Tri P c S (to x S1)) (hx : x ≠ .normal) : TriN P (c :: cs) S (to x S1) := by
  intro ρ a w hr
  refine wp_mono (h ρ a w hr) ?_
  rintro e a1 w1 ⟨S2, ρ1, ⟨h1, h2⟩, r1, m1⟩
  subst h1 h2
  cases e with
  | normal => exact absurd rfl hx
  | _ => exact ⟨_, ρ1, ⟨rfl, rfl⟩, r1, m1⟩
theorem TriN.drop {cs : List Code} {S S1 : St} {e : Exit} (h : TriN P cs S (to e S1)) (live : List Nat) {n : Nat} (hn : S.mem.length ≤ n) (hk : allB (keepL n (maskD live n S1)) = true) : TriN P cs S (to e (maskD live n S1)) := by
  intro ρ a w hr
  refine wpN_mono ?_ (h ρ a w hr)
  rintro e' a' w' ⟨S', ρ', ⟨h1, h2⟩, r, m⟩
  subst h2
  rw [keepL, allB_append, Bool.and_eq_true] at hk
  refine ⟨_, cutR n ρ', ⟨h1, rfl⟩, ⟨?_, r.defers, r.mem.drop fun B hB => allB_map hk.2 B hB⟩, Mv.drop hr.mem m hn⟩
  exact PW_cut (p := noNew n) (fun _ _ => VR_cut) (maskT_rel r.tmps) (List.all_eq_true.2 fun v hv => allB_map hk.1 v hv)
theorem wpN_seq {Q Q' : Exit → Act → World → Prop} : ∀ {n : Nat} {c : Code} {a : Act} {w : World}, hasS n c = true → wpN P (takeS n c) Q a w → (∀ a w, Q .normal a w → (dropS n c).wp P Q' a w) → (∀ e a w, e ≠ .normal → Q e a w → Q' e a w) → c.wp P Q' a w
  | 0, _, _, _, _, h, h1, _ => h1 _ _ h
  | n + 1, c, a, w, hs, h, h1, h2 => by
    cases c with
    | seq x y =>
      refine wp_seq (wp_mono h ?_)
      intro e a1 w1 h'
      cases e with
      | normal => exact wpN_seq (n := n) hs h' h1 h2
      | _ => exact h2 _ _ _ (by simp) h'
    | _ => cases hs
/-- The first n statements, and the rest. -/
theorem Tri.segs (n : Nat) {c : Code} {S S1 : St} {Q : Exit → St → Prop} (hs : hasS n c = true) (h : TriN P (takeS n c) S (to .normal S1)) (h' : Tri P (dropS n c) S1 Q) : Tri P c S Q := by
  intro ρ a w hr
  refine wpN_seq hs (h ρ a w hr) ?_ ?_
  · rintro a1 w1 ⟨S2, ρ1, ⟨_, h2⟩, r1, m1⟩
    subst h2
    refine wp_mono (h' ρ1 a1 w1 r1) ?_
    rintro e a2 w2 ⟨S3, ρ2, q2, r2, m2⟩
    exact ⟨S3, ρ2, q2, r2, m1.trans hr.mem m2⟩
  · rintro e a1 w1 hne ⟨S2, ρ1, ⟨h1, _⟩, _⟩
    exact absurd h1 hne
/-- The first n statements end the function. -/
theorem Tri.segs_stop (n : Nat) {c : Code} {S S1 : St} {x : Exit} (hs : hasS n c = true) (hx : x ≠ .normal) (h : TriN P (takeS n c) S (to x S1)) : Tri P c S (to x S1) := by
  intro ρ a w hr
  refine wpN_seq hs (h ρ a w hr) ?_ ?_
  · rintro a1 w1 ⟨S2, ρ1, ⟨h1, _⟩, _⟩
    exact absurd h1.symm hx
  · intro e a1 w1 _ h1
    exact h1
def evN (P : Program) (fuel : Nat) : List Code → St → List Ans → Option Res
  | [], S, ans => some ⟨[], [], .normal, S, ans⟩
  | c :: cs, S, ans => match evC P fuel c S ans with
    | some r => match r.e with
      | .normal => match evN P fuel cs r.S r.ans with
        | some r2 => some (r.and r2)
        | none => none
      | _ => some r
    | none => none
theorem evN_sound (hm : P.follows .mixedOrders = true) (fuel : Nat) : ∀ (cs : List Code) (S : St) (ans : List Ans) (r : Res), evN P fuel cs S ans = some r → allB r.ok = true → (∀ p ∈ r.obs, p) → TriN P cs S (to r.e r.S)
  | [], S, ans, r, h, _, _ => by
    cases h
    exact fun ρ a w hr => ⟨S, ρ, ⟨rfl, rfl⟩, hr, .refl _ _ _⟩
  | c :: cs, S, ans, r, h, hok, hobs => by
    unfold evN at h
    split at h
    · rename_i r1 h1
      split at h
      · rename_i he
        split at h
        · rename_i r2 h2
          cases h
          simp only [Res.and, allB_append, Bool.and_eq_true] at hok
          have o1 : ∀ p ∈ r1.obs, p := fun p hp => hobs p (by simp [Res.and, hp])
          have o2 : ∀ p ∈ r2.obs, p := fun p hp => hobs p (by simp [Res.and, hp])
          have t1 := (evC_sound hm _ _ _ _ _ h1 hok.1 o1).1
          have t1' : Tri P c S (to .normal r1.S) := by
            have : r1.Q = to r1.e r1.S := rfl
            rw [this, he] at t1
            exact t1
          exact TriN.cons t1' (evN_sound hm fuel cs r1.S r1.ans r2 h2 hok.2 o2)
        · cases h
      · rename_i hne
        cases h
        exact TriN.stop (evC_sound hm _ _ _ _ _ h1 hok hobs).1 (fun e => hne e)
    · cases h
def evN4 (P : Program) (cs : List Code) (fuel : Nat) (live : List Nat) (n : Nat) (S : St) (ans : List Ans) : Option (Bool × Prop × Exit × St) :=
  match evN P fuel cs S ans with
  | some r => some (allB (r.ok ++ (decide (S.mem.length ≤ n) :: keepL n (maskD live n r.S))), allP r.obs, r.e, maskD live n r.S)
  | none => none
theorem TriN.run (hm : P.follows .mixedOrders = true) {cs : List Code} (live : List Nat) (n : Nat) (ans : List Ans) {S S' : St} {x : Exit} {X : Bool} {A : Prop} (hx : X = true) (ha : A) (e : evN4 P cs 400 live n S ans = some (X, A, x, S')) : TriN P cs S (to x S') := by
  unfold evN4 at e
  split at e
  · rename_i r hr
    cases e
    rw [allB_append, allB_cons, Bool.and_eq_true, Bool.and_eq_true, decide_eq_true_eq] at hx
    exact TriN.drop (evN_sound hm _ _ _ _ _ hr hx.1 (allP_iff ha)) live hx.2.1 hx.2.2
  · cases e
/-- The body's end, and what the function returns. -/
theorem PC.of_body {f : FuncId} {fn : Func} {c : Code} (hf : P.funcs[f]? = some fn) (hb : fn.body = some c) {args : List Value} {S : St} {x : Exit} {v : Value} (ha : args.all flat = true) (h : Tri P c ⟨args ++ List.replicate (fn.ntmps - args.length) undef, []⟩ (to x S)) (hx : Exit.isEnd x = true) (hr : resOf P fn S = some (true, v)) (hv : flat v = true) : PC P f args v := by
  refine PC.of_ct ha hv ?_
  intro ρ w us hus hM
  refine (CT.of_tri hf hb (Q := fun v' _ => v' = v) (h.mono ?_) ρ w us hus hM).mono fun e w' ⟨v', m, ρ', u, h1, h2, h3⟩ => ⟨v', m, ρ', u, h1, h2, h3⟩
  rintro e S1 ⟨rfl, rfl⟩
  exact ⟨hx, v, hr, rfl⟩
end
end Go.Ev
/-! Relative states, part V: triples relative to the memory at a function's beginning; what was made since may be numbered anew, or be left behind. -/
namespace Go.Ev
section
variable {P : Program} {n0 : Nat}
def TriB (P : Program) (n0 : Nat) (c : Code) (S : St) (Q : Exit → St → Prop) : Prop :=
  ∀ (ρb : Ren) (memb : Mem) (wb : World), memb.length = n0 → MRel ρb memb wb → ∀ ρ a w, ARel ρ S a w → Mv ρb memb wb ρ S.mem w →
    c.wp P (fun e a' w' => ∃ S' ρ', Q e S' ∧ ARel ρ' S' a' w' ∧ Mv ρb memb wb ρ' S'.mem w') a w
theorem TriB.of {c : Code} {S : St} {Q : Exit → St → Prop} (h : Tri P c S Q) : TriB P n0 c S Q := by
  intro ρb memb wb _ hM ρ a w hr hm
  refine wp_mono (h ρ a w hr) ?_
  rintro e a1 w1 ⟨S1, ρ1, q, r1, m1⟩
  exact ⟨S1, ρ1, q, r1, hm.trans hM m1⟩
theorem TriB.tri {c : Code} {S : St} {Q : Exit → St → Prop} (h : TriB P S.mem.length c S Q) : Tri P c S Q :=
  fun ρ a w hr => h ρ S.mem w rfl hr.mem ρ a w hr (.refl _ _ _)
theorem TriB.mono {c : Code} {S : St} {Q Q' : Exit → St → Prop} (h : TriB P n0 c S Q) (hq : ∀ e S, Q e S → Q' e S) : TriB P n0 c S Q' := by
  intro ρb memb wb hl hM ρ a w hr hm
  refine wp_mono (h ρb memb wb hl hM ρ a w hr hm) ?_
  rintro e a1 w1 ⟨S1, ρ1, q, r⟩
  exact ⟨S1, ρ1, hq _ _ q, r⟩
/-- The first n statements, and the rest. -/
theorem TriB.segs (n : Nat) {c : Code} {S S1 : St} {Q : Exit → St → Prop} (hs : hasS n c = true) (h : TriN P (takeS n c) S (to .normal S1)) (h' : TriB P n0 (dropS n c) S1 Q) : TriB P n0 c S Q := by
  intro ρb memb wb hl hM ρ a w hr hm
  refine wpN_seq hs (h ρ a w hr) ?_ ?_
  · rintro a1 w1 ⟨S2, ρ1, ⟨_, h2⟩, r1, m1⟩
    subst h2
    exact h' ρb memb wb hl hM ρ1 a1 w1 r1 (hm.trans hM m1)
  · rintro e a1 w1 hne ⟨S2, ρ1, ⟨h1, _⟩, _⟩
    exact absurd h1 hne
theorem TriB.seq {x y : Code} {S S1 : St} {Q : Exit → St → Prop} (h : TriB P n0 x S (to .normal S1)) (h' : TriB P n0 y S1 Q) : TriB P n0 (.seq x y) S Q := by
  intro ρb memb wb hl hM ρ a w hr hm
  refine wp_seq (wp_mono (h ρb memb wb hl hM ρ a w hr hm) ?_)
  rintro e a1 w1 ⟨S2, ρ1, ⟨h1, h2⟩, r1, m1⟩
  subst h1 h2
  exact h' ρb memb wb hl hM ρ1 a1 w1 r1 m1
/-- A block left by its own exit. -/
theorem TriB.block {id : Nat} {c : Code} {S S1 : St} (h : TriB P n0 c S (to (.exit id) S1)) : TriB P n0 (.block id c) S (to .normal S1) := by
  intro ρb memb wb hl hM ρ a w hr hm
  refine wp_block (wp_mono (h ρb memb wb hl hM ρ a w hr hm) ?_)
  rintro e a1 w1 ⟨S2, ρ1, ⟨h1, h2⟩, r1, m1⟩
  subst h1 h2
  simp only [Exit.inBlock, if_pos]
  exact ⟨S2, ρ1, ⟨rfl, rfl⟩, r1, m1⟩
/-! ### Numbered anew -/
def reW (keep : List Nat) (v : Value) : Option Value :=
  match v with
  | .tuple vs => match isWild vs.toList with | true => some v | false => reV keep v
  | v => reV keep v
def reTs (keep : List Nat) : List Value → Option (List Value)
  | [] => some []
  | v :: l => match reW keep v, reTs keep l with | some v', some l' => some (v' :: l') | _, _ => none
theorem reW_rel {keep : List Nat} {ρ : Ren} {v v' u : Value} (h : VR ρ v u) (hv : reW keep v = some v') : VR (reR keep ρ) v' u := by
  unfold reW at hv
  split at hv
  · split at hv
    · rename_i hw
      cases hv
      exact .inl hw
    · exact VR_re h hv
  · exact VR_re h hv
theorem reTs_rel {keep : List Nat} {ρ : Ren} : ∀ {l l' us : List Value}, PW (VR ρ) l us → reTs keep l = some l' → PW (VR (reR keep ρ)) l' us
  | [], l', us, h, hl => by cases hl; rw [h.unnil]; exact PW.nil
  | v :: l, l', us, h, hl => by
    obtain ⟨u, us', rfl, hu, ht⟩ := h.uncons
    unfold reTs at hl
    split at hl
    · rename_i v' l'' h1 h2
      cases hl
      exact PW.cons (reW_rel hu h1) (reTs_rel ht h2)
    · cases hl
def reS (keep live : List Nat) (S : St) : Option St :=
  match reTs keep (maskT live 0 S.tmps) with
  | some ts => some ⟨ts, reM keep S.mem⟩
  | none => none
theorem TriB.re {c : Code} {S S1 S2 : St} {e : Exit} (h : TriB P n0 c S (to e S1)) (live keep : List Nat) (hS : reS keep live S1 = some S2) (hk : keepOk n0 keep S1.mem.length = true) (hc : ∀ B ∈ reM keep S1.mem, B.cells.all (sameIx keep) = true) : TriB P n0 c S (to e S2) := by
  intro ρb memb wb hl hM ρ a w hr hm
  refine wp_mono (h ρb memb wb hl hM ρ a w hr hm) ?_
  rintro e' a' w' ⟨S', ρ', ⟨h1, h2⟩, r, m⟩
  subst h2
  unfold reS at hS
  split at hS
  · rename_i ts hts
    cases hS
    refine ⟨_, reR keep ρ', ⟨h1, rfl⟩, ⟨reTs_rel (maskT_rel r.tmps) hts, r.defers, r.mem.re hk hc⟩, Mv.re hM m (by rw [hl]; exact hk)⟩
  · cases hS
/-- A piece by the evaluator, numbered anew. -/
def evR4 (P : Program) (n0 : Nat) (c : Code) (fuel : Nat) (live keep : List Nat) (S : St) (ans : List Ans) : Option (Bool × Prop × Exit × St) :=
  match evC P fuel c S ans with
  | some r => match reS keep live r.S with
    | some S' => some (allB (r.ok ++ (keepOk n0 keep r.S.mem.length :: (reM keep r.S.mem).map fun B => B.cells.all (sameIx keep))), allP r.obs, r.e, S')
    | none => none
  | none => none
theorem TriB.run (hm : P.follows .mixedOrders = true) {c : Code} (live keep : List Nat) (ans : List Ans) {S S' : St} {x : Exit} {X : Bool} {A : Prop} (hx : X = true) (ha : A) (e : evR4 P n0 c 400 live keep S ans = some (X, A, x, S')) : TriB P n0 c S (to x S') := by
  unfold evR4 at e
  split at e
  · rename_i r hr
    split at e
    · rename_i S2 hS
      cases e
      rw [allB_append, allB_cons, Bool.and_eq_true, Bool.and_eq_true] at hx
      have t1 : Tri P c S (to r.e r.S) := (evC_sound hm _ _ _ _ _ hr hx.1 (allP_iff ha)).1
      exact (TriB.of t1).re live keep hS hx.2.1 fun B hB => allB_map hx.2.2 B hB
    · cases e
  · cases e
/-! ### Loops -/
def TriLB (P : Program) (n0 : Nat) (c : Code) (S : St) (Q : Exit → St → Prop) : Prop :=
  ∀ (ρb : Ren) (memb : Mem) (wb : World), memb.length = n0 → MRel ρb memb wb → ∀ ρ a w, ARel ρ S a w → Mv ρb memb wb ρ S.mem w → ∀ (b : Frame) (k : List Item) (cs : List Frame),
    ∃ e a' w', (∃ S' ρ', Q e S' ∧ ARel ρ' S' a' w' ∧ Mv ρb memb wb ρ' S'.mem w') ∧ Arrives P (lone (b.at a (.code c :: .inLoop c :: k)) cs w) b k cs e a' w'
theorem TriLB.again {c : Code} {S S1 : St} {Q : Exit → St → Prop} (h : TriB P n0 c S (to .normal S1)) (h' : TriLB P n0 c S1 Q) : TriLB P n0 c S Q := by
  intro ρb memb wb hl hM ρ a w hr hm b k cs
  obtain ⟨e, a1, w1, ⟨S2, ρ1, ⟨h1, h2⟩, r1, m1⟩, harr⟩ := h ρb memb wb hl hM ρ a w hr hm b (.inLoop c :: k) cs
  subst h1 h2
  obtain ⟨e2, a2, w2, q2, harr2⟩ := h' ρb memb wb hl hM ρ1 a1 w1 r1 m1 b k cs
  exact ⟨e2, a2, w2, q2, .of_steps (Steps.trans harr (.one step_inLoop)) harr2⟩
theorem TriLB.leave {c : Code} {S S1 : St} {x : Nat} (h : TriB P n0 c S (to (.exit x) S1)) : TriLB P n0 c S (to (.exit x) S1) := by
  intro ρb memb wb hl hM ρ a w hr hm b k cs
  obtain ⟨e, a1, w1, ⟨S2, ρ1, ⟨h1, h2⟩, r1, m1⟩, harr⟩ := h ρb memb wb hl hM ρ a w hr hm b (.inLoop c :: k) cs
  subst h1 h2
  exact ⟨_, a1, w1, ⟨S2, ρ1, ⟨rfl, rfl⟩, r1, m1⟩, .pass (x := .inLoop c) rfl (fun _ _ => .inl (by simp)) harr⟩
theorem TriLB.tri {c : Code} {S : St} {Q : Exit → St → Prop} (h : TriLB P n0 c S Q) : TriB P n0 (.loop c) S Q := by
  intro ρb memb wb hl hM ρ a w hr hm b k cs
  obtain ⟨e, a', w', hq, harr⟩ := h ρb memb wb hl hM ρ a w hr hm b k cs
  exact ⟨e, a', w', hq, .of_steps (.one step_loop) harr⟩
end
end Go.Ev
/-! Values without an address under a renumbering; a contract on one slice that is only read; an argument that is a strip. -/
namespace Go.Ev
section
variable {σ : List Nat} {m : Nat}
theorem fV0_flat {v : Value} (h : flat0 v = true) : fV0 σ m v = v := by
  cases v with
  | pointer a => cases a with | none => rfl | some a => cases h
  | _ => rfl
theorem map_same {α : Type} {f : α → α} {p : α → Bool} (hf : ∀ a, p a = true → f a = a) : ∀ {l : List α}, l.all p = true → l.map f = l
  | [], _ => rfl
  | a :: l, h => by
    simp only [List.all_cons, Bool.and_eq_true] at h
    rw [List.map_cons, hf a h.1, map_same hf h.2]
theorem fV1_flat {v : Value} (h : flat1 v = true) : fV1 σ m v = v := by
  cases v with
  | pointer a => cases a with | none => rfl | some a => cases h
  | slice a l c => cases a with | none => rfl | some a => cases h
  | func f x y =>
    simp only [flat1, Bool.and_eq_true] at h
    simp only [fV1, map_same (fun _ => fV0_flat) h.1, map_same (fun _ => fV0_flat) h.2, Array.toArray_toList]
  | _ => rfl
theorem fV2_flat {v : Value} (h : flat2 v = true) : fV2 σ m v = v := by
  unfold flat2 at h
  unfold fV2
  split at h
  · simp only [map_same (fun _ => fV1_flat) h, Array.toArray_toList]
  · rename_i h1
    split
    · exact absurd rfl (h1 _)
    · exact fV1_flat h
theorem fV_flat {v : Value} (h : flat v = true) : fV σ m v = v := by
  unfold flat at h
  unfold fV
  split at h
  · simp only [Bool.and_eq_true] at h
    simp only [map_same (fun _ => fV2_flat) h.2, Array.toArray_toList]
  · rename_i h1
    split
    · exact absurd rfl (h1 _)
    · exact fV2_flat h
theorem okV_flat {n : Nat} {v : Value} (h : flat v = true) : okV n v = true := by
  have k0 : ∀ v, flat0 v = true → noNew0 n v = true := fun v h => by
    cases v with
    | pointer a => cases a with | none => rfl | some a => cases h
    | _ => rfl
  have k1 : ∀ v, flat1 v = true → noNew1 n v = true := fun v h => by
    cases v with
    | pointer a => cases a with | none => rfl | some a => cases h
    | slice a l c => cases a with | none => rfl | some a => cases h
    | func f x y =>
      simp only [flat1, Bool.and_eq_true] at h
      simp only [noNew1, Bool.and_eq_true]
      exact ⟨List.all_eq_true.2 fun a ha => k0 a (List.all_eq_true.1 h.1 a ha), List.all_eq_true.2 fun a ha => k0 a (List.all_eq_true.1 h.2 a ha)⟩
    | iface t v => cases v with
      | slice a l c => cases a with
        | none => cases c with | zero => rfl | succ c => cases h
        | some a => rfl
      | iface t v => cases h
      | _ => rfl
    | _ => rfl
  have k2 : ∀ v, flat2 v = true → noNew2 n v = true := fun v h => by
    by_cases hc : ∃ cs, v = .agg cs
    · obtain ⟨cs, rfl⟩ := hc
      exact List.all_eq_true.2 fun a ha => k1 a (List.all_eq_true.1 h a ha)
    · have hne : ∀ cs, v ≠ .agg cs := fun cs e => hc ⟨cs, e⟩
      unfold flat2 at h
      unfold noNew2
      split at h
      · exact absurd rfl (hne _)
      · split
        · exact absurd rfl (hne _)
        · exact k1 v h
  have l1 : ∀ v, flat1 v = true → isLst v = false := fun v h => by
    unfold isLst
    split
    · cases h
    · cases h
    · rfl
  have l2 : ∀ v, flat2 v = true → noL2 v = true := fun v h => by
    by_cases hc : ∃ cs, v = .agg cs
    · obtain ⟨cs, rfl⟩ := hc
      exact List.all_eq_true.2 fun a ha => by rw [l1 a (List.all_eq_true.1 h a ha)]; rfl
    · have hne : ∀ cs, v ≠ .agg cs := fun cs e => hc ⟨cs, e⟩
      unfold flat2 at h
      unfold noL2
      split at h
      · exact absurd rfl (hne _)
      · split
        · exact absurd rfl (hne _)
        · rw [l1 v h]; rfl
  by_cases hc : ∃ cs, v = .tuple cs
  · obtain ⟨cs, rfl⟩ := hc
    simp only [flat, Bool.and_eq_true] at h
    simp only [okV, noNew, noLV, Bool.and_eq_true, Bool.or_eq_true]
    exact ⟨⟨.inr (List.all_eq_true.2 fun a ha => k2 a (List.all_eq_true.1 h.2 a ha)), List.all_eq_true.2 fun a ha => l2 a (List.all_eq_true.1 h.2 a ha)⟩, h.1⟩
  · have hne : ∀ cs, v ≠ .tuple cs := fun cs e => hc ⟨cs, e⟩
    unfold flat at h
    unfold okV noNew noLV
    split at h
    · exact absurd rfl (hne _)
    · rw [Bool.and_eq_true, Bool.and_eq_true]
      refine ⟨⟨?_, ?_⟩, ?_⟩
      · split
        · exact absurd rfl (hne _)
        · exact k2 v h
      · split
        · exact absurd rfl (hne _)
        · exact l2 v h
      · split
        · exact absurd rfl (hne _)
        · rfl
/-- A contract on a slice of one block that is only read, in whatever memory holds the block at number k. -/
theorem MC.at1 {P : Program} {f : FuncId} {cs : List Value} {t : TypeId} {l c : Nat} {v : Value} (h : MC P f [.slice (some ⟨0, 0, none⟩) l c] [⟨cs, t, false⟩] v [⟨cs, t, false⟩]) (hcs : cs.all flat1 = true) (hv : flat v = true)
    (M : Mem) (k : Nat) (C : Blk) (hM : M[k]? = some C) (hC : C.cells = cs) (ht : Nat.beq t lstT = false := by rfl) : MC P f [.slice (some ⟨k, 0, none⟩) l c] M v M := by
  have := MC.frame (news := []) (mem := M) (σ := [k]) (by simpa using h) rfl (fun B hB => by simp at hB; subst hB; exact ⟨rfl, hcs⟩) (fun B hB => by cases hB)
    (fun i i' B hi hB => by
      cases i with
      | zero => simp at hi hB; subst hi hB; exact ⟨C, hM, hC⟩
      | succ i => simp at hi)
    (by simp [okV, noNew, noNew2, noNew1, noLV, noL2, isLst]) (fun i hi => by
      have : i = 0 := by simp at hi; omega
      subst this
      simp [refs, refs1]) (okV_flat hv) (by simp only [List.append_nil, List.all_cons, List.all_nil, ht]; rfl)
  rw [fV_flat hv, List.append_nil] at this
  exact this
end
end Go.Ev
/-! An argument that is a struct of two structs of two integers and of two integers, opened. -/
namespace Go.Ev
open Go.ChangeShapes Go.WideShapes Go.ChangeAt Go.RowKit Go.Joins Go.Deep
section
variable {P : Program}
theorem array6 {α : Type} {cs : Array α} (h : cs.size = 6) : ∃ c0 c1 c2 c3 c4 c5, cs = #[c0, c1, c2, c3, c4, c5] := by
  obtain ⟨l⟩ := cs
  match l, h with
  | [c0, c1, c2, c3, c4, c5], _ => exact ⟨c0, c1, c2, c3, c4, c5, rfl⟩
theorem arg_strip {H : Type} {enc : TypeId × Value → H} {W : World} {base b0 : Nat} {spare : Nat → Bool} {held : Bool} {r : Reach} {t : TypeId} {f0 f1 f2 f3 g0 g1 k0 k1 : Field} {k : IntKind} {v : Value} {d : DataW H} {ps : List MemPlace} (hs : P.underlying t = some (.struct #[f0, f1, f2, f3])) (hC : P.cellsOf t = 6)
    (o0 : f0.offset = 0) (c0 : P.cellsOf f0.type = 2) (o1 : f1.offset = 2) (c1 : P.cellsOf f1.type = 2) (o2 : f2.offset = 4) (c2 : P.cellsOf f2.type = 1) (o3 : f3.offset = 5) (c3 : P.cellsOf f3.type = 1) (hp : P.underlying f0.type = some (.struct #[g0, g1])) (hone0 : Go.Deep.oneCellFields P #[g0, g1] = true) (hm : P.underlying f1.type = some (.struct #[k0, k1])) (hone1 : Go.Deep.oneCellFields P #[k0, k1] = true)
    (e0 : P.underlying g0.type = some (.int k)) (e1 : P.underlying g1.type = some (.int k)) (e2 : P.underlying k0.type = some (.int k)) (e3 : P.underlying k1.type = some (.int k)) (e4 : P.underlying f2.type = some (.int k)) (e5 : P.underlying f3.type = some (.int k)) (hv : Value.okWide P W r b0 t v) (hd : DataW.Trod enc P W base spare held t v d ps) :
    ∃ x y a b c e, v = .agg #[.int k x, .int k y, .int k a, .int k b, .int k c, .int k e] ∧ (Lit.int k x).wf = true ∧ (Lit.int k y).wf = true ∧ (Lit.int k a).wf = true ∧ (Lit.int k b).wf = true ∧ (Lit.int k c).wf = true ∧ (Lit.int k e).wf = true := by
  obtain ⟨cs, rfl, hsz⟩ := okWide_struct hs hv
  obtain ⟨v0, v1, v2, v3, v4, v5, rfl⟩ := array6 (hsz.trans hC)
  obtain ⟨fuel, hf⟩ := hd
  obtain ⟨y0, y1, y2, y3, n, hx, _, h0, h1, h2, h3⟩ := trod_struct4 hs hf
  have h0' : DataW.trod enc P W base spare held n f0.type [v0, v1] = some y0 := by simpa [Value.cells, o0, c0] using h0
  have h1' : DataW.trod enc P W base spare held n f1.type [v2, v3] = some y1 := by simpa [Value.cells, o1, c1] using h1
  have h2' : DataW.trod enc P W base spare held n f2.type [v4] = some y2 := by simpa [Value.cells, o2, c2] using h2
  have h3' : DataW.trod enc P W base spare held n f3.type [v5] = some y3 := by simpa [Value.cells, o3, c3] using h3
  obtain ⟨z0, z1, n2, _, _, i0, i1⟩ := trod_struct2 hp h0'
  obtain ⟨z2, z3, n3, _, _, i2, i3⟩ := trod_struct2 hm h1'
  obtain ⟨p0, q0⟩ := hone_of hone0 0 g0 rfl
  obtain ⟨p1, q1⟩ := hone_of hone0 1 g1 rfl
  obtain ⟨p2, q2⟩ := hone_of hone1 0 k0 rfl
  obtain ⟨p3, q3⟩ := hone_of hone1 1 k1 rfl
  have i0' : DataW.trod enc P W base spare held n2 g0.type [v0] = some z0 := by simpa [p0, q0] using i0
  have i1' : DataW.trod enc P W base spare held n2 g1.type [v1] = some z1 := by simpa [p1, q1] using i1
  have i2' : DataW.trod enc P W base spare held n3 k0.type [v2] = some z2 := by simpa [p2, q2] using i2
  have i3' : DataW.trod enc P W base spare held n3 k1.type [v3] = some z3 := by simpa [p3, q3] using i3
  obtain ⟨x, j0, _, w0⟩ := DataW.trod_int e0 i0'
  obtain ⟨y, j1, _, w1⟩ := DataW.trod_int e1 i1'
  obtain ⟨a, j2, _, w2⟩ := DataW.trod_int e2 i2'
  obtain ⟨b, j3, _, w3⟩ := DataW.trod_int e3 i3'
  obtain ⟨c, j4, _, w4⟩ := DataW.trod_int e4 h2'
  obtain ⟨e, j5, _, w5⟩ := DataW.trod_int e5 h3'
  cases j0; cases j1; cases j2; cases j3; cases j4; cases j5
  exact ⟨x, y, a, b, c, e, rfl, w0, w1, w2, w3, w4, w5⟩
end
end Go.Ev
/-! Calls on values that stand for what nobody writes any more: what a function made is left as it is when it returns. -/
namespace Go.Ev
section
variable {P : Program}
/-- What the machine holds in a block. -/
def cellsOf (w : World) (b : Nat) : Option (List Value) := match w.heap[b]? with | some (.cells c _ _) => some c.toList | _ => none
theorem cellsOf_get {w : World} {b : Nat} {cs : List Value} (h : cellsOf w b = some cs) : b < w.heap.size ∧ ∀ i v, cs[i]? = some v → w.cell? ⟨b, i, none⟩ = some v := by
  unfold cellsOf at h
  split at h
  · rename_i c e f hg
    cases h
    refine ⟨(Array.getElem?_eq_some_iff.1 hg).1, fun i v hv => ?_⟩
    unfold World.cell?
    simp only [hg, Option.isSome_none, Bool.false_eq_true, if_false]
    rw [← Array.getElem?_toList]
    exact hv
  · cases h
theorem cell_cellsOf {w : World} {b i : Nat} {v : Value} (h : w.cell? ⟨b, i, none⟩ = some v) : ∃ cs, cellsOf w b = some cs ∧ ∀ j u, w.cell? ⟨b, j, none⟩ = some u → cs[j]? = some u := by
  unfold World.cell? at h
  simp only at h
  split at h
  · rename_i c e f hg
    refine ⟨c.toList, by unfold cellsOf; rw [hg], fun j u hu => ?_⟩
    unfold World.cell? at hu
    simp only [hg, Option.isSome_none, Bool.false_eq_true, if_false] at hu
    rw [Array.getElem?_toList]
    exact hu
  · cases h
/-- A result, and the value that stands for it. -/
def Frz1 (mem : Mem) (x v : Value) : Prop :=
  (x = v ∧ abs1 v = true) ∨ (∃ N l k off c B, v = sliceTok N l ∧ x = .slice (some ⟨k, off, none⟩) l c ∧ l ≤ c ∧ mem[k]? = some B ∧ ∀ i, i < l → B.cells[off + i]? = some (word32 N i)) ∨ (∃ N c, v = sliceTok N 0 ∧ x = .slice none 0 c) ∨ (∃ l k off c B cs, v = rowTok l cs ∧ x = .slice (some ⟨k, off, none⟩) l c ∧ l ≤ c ∧ mem[k]? = some B ∧ cs.all plain = true ∧ ∀ (i : Nat) (y : Value), cs[i]? = some y → B.cells[off + i]? = some y) ∨ ∃ cs c, v = rowTok 0 cs ∧ cs.all plain = true ∧ x = .slice none 0 c
def Frz2 (mem : Mem) (x v : Value) : Prop := (∃ xs vs : Array Value, x = .agg xs ∧ v = .agg vs ∧ PW (Frz1 mem) xs.toList vs.toList) ∨ Frz1 mem x v
def Frz (mem : Mem) (x v : Value) : Prop := (∃ xs vs : Array Value, x = .tuple xs ∧ v = .tuple vs ∧ isWild xs.toList = false ∧ PW (Frz2 mem) xs.toList vs.toList) ∨ Frz2 mem x v
theorem Frz1.ofAbs {mem : Mem} {v : Value} (h : abs1 v = true) : Frz1 mem v v := .inl ⟨rfl, h⟩
theorem PW_self {α : Type} {R : α → α → Prop} : ∀ {l : List α}, (∀ a ∈ l, R a a) → PW R l l
  | [], _ => PW.nil
  | a :: l, h => PW.cons (h a (by simp)) (PW_self fun b hb => h b (by simp [hb]))
theorem Frz2.ofAbs {mem : Mem} {v : Value} (h : abs2 v = true) : Frz2 mem v v := by
  by_cases hc : ∃ cs, v = .agg cs
  · obtain ⟨cs, rfl⟩ := hc
    exact .inl ⟨cs, cs, rfl, rfl, PW_self fun a ha => .ofAbs (List.all_eq_true.1 h a ha)⟩
  · have hne : ∀ cs, v ≠ .agg cs := fun cs e => hc ⟨cs, e⟩
    refine .inr (.ofAbs ?_)
    unfold abs2 at h
    split at h
    · exact absurd rfl (hne _)
    · exact h
theorem Frz.ofAbs {mem : Mem} {v : Value} (h : absV v = true) : Frz mem v v := by
  by_cases hc : ∃ cs, v = .tuple cs
  · obtain ⟨cs, rfl⟩ := hc
    simp only [absV, Bool.and_eq_true, Bool.not_eq_true'] at h
    exact .inl ⟨cs, cs, rfl, rfl, h.1, PW_self fun a ha => .ofAbs (List.all_eq_true.1 h.2 a ha)⟩
  · have hne : ∀ cs, v ≠ .tuple cs := fun cs e => hc ⟨cs, e⟩
    refine .inr (.ofAbs ?_)
    unfold absV at h
    split at h
    · exact absurd rfl (hne _)
    · exact h
section
variable {ρ' σ : Ren} {mem : Mem} {w' : World}
theorem tokR_ext {ρ ρ' : Ren} (hh : ∀ (b : Nat) (cs : List Value) (i : Nat) (v : Value), ρ.h b = some cs → cs[i]? = some v → ∃ cs', ρ'.h b = some cs' ∧ ∀ (j : Nat) u, cs[j]? = some u → cs'[j]? = some u) {v u : Value} (hl : isLst v = false) (ht : tokR ρ v u) : tokR ρ' v u := by
  unfold tokR at *
  split at ht
  · cases hl
  · rename_i N l
    obtain ⟨a, c, e, hlc, hor⟩ := ht
    refine ⟨a, c, e, hlc, ?_⟩
    rcases hor with h0 | ⟨b, off, cs, e1, e2, e3⟩
    · exact .inl h0
    · rcases Nat.eq_zero_or_pos l with h0 | h0
      · exact .inl h0
      · obtain ⟨cs', h1, h2⟩ := hh b cs _ _ e2 (e3 0 h0)
        exact .inr ⟨b, off, cs', e1, h1, fun i hi => h2 _ _ (e3 i hi)⟩
  · obtain ⟨b, off, cs, e1, e2, e3⟩ := ht
    obtain ⟨cs', h1, h2⟩ := hh b cs _ _ e2 e3
    exact ⟨b, off, cs', e1, h1, h2 _ _ e3⟩
  · obtain ⟨hp, a, c, e, hlc, hor⟩ := ht
    refine ⟨hp, a, c, e, hlc, hor.imp id ?_⟩
    rintro ⟨b, s, e1, e2⟩
    exact ⟨b, s, e1, fun i v hi => let ⟨hs, g1, g2⟩ := e2 i v hi; let ⟨cs', k1, k2⟩ := hh b hs _ _ g1 g2; ⟨cs', k1, k2 _ _ g2⟩⟩
  · obtain ⟨hp, b, s, e1, e2⟩ := ht
    exact ⟨hp, b, s, e1, fun i v hi => let ⟨hs, g1, g2⟩ := e2 i v hi; let ⟨cs', k1, k2⟩ := hh b hs _ _ g1 g2; ⟨cs', k1, k2 _ _ g2⟩⟩
  · cases hl
  · exact ht
theorem Frz1.sound (hM' : MRel ρ' mem w') (hh : ∀ (b : Nat) (cs : List Value) (i : Nat) (v : Value), ρ'.h b = some cs → cs[i]? = some v → ∃ cs', σ.h b = some cs' ∧ ∀ (j : Nat) u, cs[j]? = some u → cs'[j]? = some u)
    (hn : ∀ k b s, ρ' k = some (b, s) → ∀ (i : Nat) (v : Value), w'.cell? ⟨b, i, none⟩ = some v → ∃ cs : List Value, σ.h b = some cs ∧ ∀ (j : Nat) (u : Value), w'.cell? ⟨b, j, none⟩ = some u → cs[j]? = some u) {x v u : Value} (hz : Frz1 mem x v) (h : VR1 ρ' x u) : VR1 σ v u := by
  rcases hz with ⟨rfl, ha⟩ | ⟨N, l, k, off, c, B, rfl, rfl, hlc, hB, hcs⟩ | ⟨N, c, rfl, rfl⟩ | ⟨l, k, off, c, B, cs, rfl, rfl, hlc, hB, hpl, hcs⟩ | ⟨cs, c, rfl, hpl, rfl⟩
  · cases ht : isTok x with
    | true =>
      cases hl : isLst x with
      | false => exact (VR1_tok ht).2 (tokR_ext hh hl ((VR1_tok ht).1 h))
      | true =>
        have hf : flat1 x = true := by simpa [abs1, hl] using ha
        rw [flat1_tok hf] at ht
        cases ht
    | false =>
      have hf : flat1 x = true := by simpa [abs1, ht] using ha
      exact (VR1_flat hf).2 ((VR1_flat hf).1 h)
  · obtain ⟨a', ha, rfl⟩ := VR1_slice.1 h
    refine (VR1_tok rfl).2 ⟨_, c, rfl, hlc, ?_⟩
    rcases Nat.eq_zero_or_pos l with h0 | h0
    · exact .inl h0
    unfold rA at ha
    split at ha
    · rename_i b s hs hρ
      cases ha
      obtain ⟨B', hB', _, hcell⟩ := hM'.cell k b s hρ
      rw [hB] at hB'
      cases hB'
      have hw : ∀ i, i < l → w'.cell? ⟨b, s + (off + i), none⟩ = some (word32 N i) := fun i hi => by
        obtain ⟨⟨y, hy, hw⟩, _⟩ := hcell (off + i) _ (hcs i hi)
        rw [(VR1_flat rfl).1 hy] at hw
        exact hw
      obtain ⟨cs, h1, h2⟩ := hn k b s hρ _ _ (hw 0 h0)
      exact .inr ⟨b, s + off, cs, rfl, h1, fun i hi => by rw [Nat.add_assoc]; exact h2 _ _ (hw i hi)⟩
    · cases ha
  · rw [(VR1_flat rfl).1 h]
    exact (VR1_tok rfl).2 ⟨none, c, rfl, Nat.zero_le _, .inl rfl⟩
  · obtain ⟨a', ha, rfl⟩ := VR1_slice.1 h
    refine (VR1_tok rfl).2 ⟨hpl, _, c, rfl, hlc, ?_⟩
    unfold rA at ha
    split at ha
    · rename_i b s hs hρ
      cases ha
      obtain ⟨B', hB', _, hcell⟩ := hM'.cell k b s hρ
      rw [hB] at hB'
      cases hB'
      refine .inr ⟨b, s + off, rfl, fun i y hi => ?_⟩
      obtain ⟨⟨z, hz, hw⟩, _⟩ := hcell (off + i) _ (hcs i y hi)
      rw [(VR1_flat (plain_flat (List.all_eq_true.1 hpl y (List.mem_of_getElem? hi)))).1 hz, ← Nat.add_assoc] at hw
      obtain ⟨cs', h1, h2⟩ := hn k b s hρ _ _ hw
      exact ⟨cs', h1, h2 _ _ hw⟩
    · cases ha
  · rw [(VR1_flat rfl).1 h]
    exact (VR1_tok rfl).2 ⟨hpl, none, c, rfl, Nat.zero_le _, .inl rfl⟩
theorem Frz2.sound (hM' : MRel ρ' mem w') (hh : ∀ (b : Nat) (cs : List Value) (i : Nat) (v : Value), ρ'.h b = some cs → cs[i]? = some v → ∃ cs', σ.h b = some cs' ∧ ∀ (j : Nat) u, cs[j]? = some u → cs'[j]? = some u)
    (hn : ∀ k b s, ρ' k = some (b, s) → ∀ (i : Nat) (v : Value), w'.cell? ⟨b, i, none⟩ = some v → ∃ cs : List Value, σ.h b = some cs ∧ ∀ (j : Nat) (u : Value), w'.cell? ⟨b, j, none⟩ = some u → cs[j]? = some u) {x v u : Value} (hz : Frz2 mem x v) (h : VR2 ρ' x u) : VR2 σ v u := by
  rcases hz with ⟨xs, vs, rfl, rfl, hp⟩ | hz
  · obtain ⟨us, rfl, hq⟩ := VR2_agg.1 h
    refine VR2_agg.2 ⟨us, rfl, hp.1.symm.trans hq.1, fun i a b ha hb => ?_⟩
    have hx : ∃ y, xs.toList[i]? = some y := ⟨_, List.getElem?_eq_getElem (by rw [hp.1]; exact (List.getElem?_eq_some_iff.1 ha).1)⟩
    obtain ⟨y, hy⟩ := hx
    exact Frz1.sound hM' hh hn (hp.2 i y a hy ha) (hq.2 i y b hy hb)
  · have key : ∀ y, Frz1 mem x y → (∀ cs, x ≠ .agg cs) ∧ ∀ cs, y ≠ .agg cs := fun y hy => by
      rcases hy with ⟨rfl, ha⟩ | ⟨N, l, k, off, c, B, rfl, rfl, _⟩ | ⟨N, c, rfl, rfl⟩ | ⟨l, k, off, c, B, cs, rfl, rfl, _⟩ | ⟨cs, c, rfl, _, rfl⟩
      · have : ∀ cs, x ≠ .agg cs := fun cs e => by subst e; cases ha
        exact ⟨this, this⟩
      · exact ⟨fun cs e => (by cases e), fun cs e => (by cases e)⟩
      · exact ⟨fun cs e => (by cases e), fun cs e => (by cases e)⟩
      · exact ⟨fun cs e => (by cases e), fun cs e => (by cases e)⟩
      · exact ⟨fun cs e => (by cases e), fun cs e => (by cases e)⟩
    obtain ⟨k1, k2⟩ := key v hz
    rw [VR2_of1 k1] at h
    rw [VR2_of1 k2]
    exact Frz1.sound hM' hh hn hz h
theorem Frz.sound (hM' : MRel ρ' mem w') (hh : ∀ (b : Nat) (cs : List Value) (i : Nat) (v : Value), ρ'.h b = some cs → cs[i]? = some v → ∃ cs', σ.h b = some cs' ∧ ∀ (j : Nat) u, cs[j]? = some u → cs'[j]? = some u)
    (hn : ∀ k b s, ρ' k = some (b, s) → ∀ (i : Nat) (v : Value), w'.cell? ⟨b, i, none⟩ = some v → ∃ cs : List Value, σ.h b = some cs ∧ ∀ (j : Nat) (u : Value), w'.cell? ⟨b, j, none⟩ = some u → cs[j]? = some u) {x v u : Value} (hz : Frz mem x v) (h : VR ρ' x u) : VR σ v u := by
  rcases hz with ⟨xs, vs, rfl, rfl, hw, hp⟩ | hz
  · obtain ⟨us, rfl, hq⟩ := (VR_tuple hw).1 h
    refine .inr ⟨us, rfl, hp.1.symm.trans hq.1, fun i a b ha hb => ?_⟩
    have hx : ∃ y, xs.toList[i]? = some y := ⟨_, List.getElem?_eq_getElem (by rw [hp.1]; exact (List.getElem?_eq_some_iff.1 ha).1)⟩
    obtain ⟨y, hy⟩ := hx
    exact Frz2.sound hM' hh hn (hp.2 i y a hy ha) (hq.2 i y b hy hb)
  · have key : (∀ cs, x ≠ .tuple cs) ∧ ∀ cs, v ≠ .tuple cs := by
      rcases hz with ⟨xs, vs, rfl, rfl, _⟩ | ⟨rfl, ha⟩ | ⟨N, l, k, off, c, B, rfl, rfl, _⟩ | ⟨N, c, rfl, rfl⟩ | ⟨l, k, off, c, B, cs, rfl, rfl, _⟩ | ⟨cs, c, rfl, _, rfl⟩
      · exact ⟨fun cs e => (by cases e), fun cs e => (by cases e)⟩
      · have : ∀ cs, x ≠ .tuple cs := fun cs e => by subst e; cases ha
        exact ⟨this, this⟩
      · exact ⟨fun cs e => (by cases e), fun cs e => (by cases e)⟩
      · exact ⟨fun cs e => (by cases e), fun cs e => (by cases e)⟩
      · exact ⟨fun cs e => (by cases e), fun cs e => (by cases e)⟩
      · exact ⟨fun cs e => (by cases e), fun cs e => (by cases e)⟩
    rw [VR_of2 key.1] at h
    rw [VR_of2 key.2]
    exact Frz2.sound hM' hh hn hz h
end
/-- A CALL ON VALUES THAT STAND FOR WHAT NOBODY WRITES ANY MORE, OUT OF ITS TEXT. -/
theorem AC.of_ev (hm : P.follows .mixedOrders = true) {f : FuncId} {fn : Func} (hf : P.funcs[f]? = some fn) {fuel : Nat} {args : List Value} {ans : List Ans} {r : FRes} {v : Value}
    (h : evFn P fn fuel args [] ans = some r) (hok : r.ok = true) (hobs : ∀ p ∈ r.obs, p) (hz : Frz r.mem r.v v) (he : ∀ us w, (callFunc f us).run P w = .ok (.enter f us) w) : MC P f args [] v [] := by
  refine ⟨he, fun ρ w us hus hM => ?_⟩
  refine (CT.of_ev hm hf h hok hobs ρ w us hus hM).mono ?_
  rintro e w' ⟨v', m', ρ', u, rfl, ⟨rfl, rfl⟩, hu, hM', hmv⟩
  have hnone : ∀ k x, ρ k = some x → False := fun k ⟨b, s⟩ hk => by
    obtain ⟨B, hB, _⟩ := hM.cell k b s hk
    cases hB
  let σ : Ren := ⟨fun _ => none, fun b => if w.heap.size ≤ b then cellsOf w' b else ρ'.h b, ρ.d, fun _ => none⟩
  have hgn : ∀ b, ρ.g b = none := fun b => by
    cases hg : ρ.g b with
    | none => rfl
    | some x => obtain ⟨B, _, hB, _⟩ := (hM.lists.lst b x hg).list; cases hB
  have hσ1 : ∀ b, w.heap.size ≤ b → σ.h b = cellsOf w' b := fun b hb => if_pos hb
  have hσ2 : ∀ b, ¬ w.heap.size ≤ b → σ.h b = ρ'.h b := fun b hb => if_neg hb
  refine ⟨v, [], σ, u, rfl, ⟨rfl, rfl⟩, Frz.sound hM' (fun b cs i x hb hx => ?_) (fun k b s hk i x hx => ?_) hz hu, ⟨fun k b s hk => (by cases hk), fun k b s k' b' s' B hk => (by cases hk), fun b cs hb => ?_, LRel.empty (fun _ => rfl) fun k B h _ => by cases h⟩,
    ⟨⟨fun k x hk => (hnone k x hk).elim, fun b cs hb => ?_, rfl, fun b x hx => by rw [hgn b] at hx; cases hx⟩, fun k x hk => (by cases hk), fun k B hB => (by cases hB), hmv.os, hmv.tape, hmv.output, hmv.size, fun b hb hg _ => hmv.block b hb hg fun k s B hk _ => (hnone k _ hk).elim, (fun b cs hb h0 => ?_), fun b x hx _ => by cases hx⟩⟩
  · by_cases hs : w.heap.size ≤ b
    · rw [hσ1 b hs]
      obtain ⟨_, h2, _⟩ := hM'.froz b cs hb
      obtain ⟨cs', h3, h4⟩ := cell_cellsOf (h2 i x hx)
      exact ⟨cs', h3, fun j y hy => h4 j y (h2 j y hy)⟩
    · rw [hσ2 b hs]
      exact ⟨cs, hb, fun _ _ h => h⟩
  · have hs : w.heap.size ≤ b := by
      cases h0 : ρ k with
      | some x => exact (hnone k x h0).elim
      | none => exact hmv.new k (b, s) hk h0
    rw [hσ1 b hs]
    exact cell_cellsOf hx
  · by_cases hs : w.heap.size ≤ b
    · rw [hσ1 b hs] at hb
      obtain ⟨h1, h2⟩ := cellsOf_get hb
      exact ⟨h1, h2, fun k s B hk => by cases hk⟩
    · rw [hσ2 b hs] at hb
      obtain ⟨h1, h2, _⟩ := hM'.froz b cs hb
      exact ⟨h1, h2, fun k s B hk => by cases hk⟩
  · have h1 := (hM.froz b cs hb).1
    rw [hσ2 b (by omega)]
    exact hmv.sub.h b cs hb
  · by_cases hs : w.heap.size ≤ b
    · exact hs
    · rw [hσ2 b hs] at hb
      exact hmv.newh b cs hb h0
def evFnA3 (P : Program) (fn : Func) (fuel : Nat) (args : List Value) (ans : List Ans) : Option (Bool × Prop × Value) :=
  match evFn P fn fuel args [] ans with
  | some r => some (r.ok, allP r.obs, r.v)
  | none => none
/-- A result without an address of the evaluator's own. -/
theorem AC.runA (hm : P.follows .mixedOrders = true) {f : FuncId} {fn : Func} (hf : P.funcs[f]? = some fn) {args : List Value} (ans : List Ans) {X : Bool} {A : Prop} {v : Value}
    (hx : X = true) (ha : A) (hz : absV v = true) (he : ∀ us w, (callFunc f us).run P w = .ok (.enter f us) w) (e : evFnA3 P fn 400 args ans = some (X, A, v)) : MC P f args [] v [] := by
  unfold evFnA3 at e
  split at e
  · rename_i r hr
    cases e
    exact AC.of_ev hm hf hr hx (allP_iff ha) (Frz.ofAbs hz) he
  · cases e
def evFnA4 (P : Program) (fn : Func) (fuel : Nat) (args : List Value) (ans : List Ans) : Option (Bool × Prop × Value × Mem) :=
  match evFn P fn fuel args [] ans with
  | some r => some (r.ok, allP r.obs, r.v, r.mem)
  | none => none
theorem AC.run (hm : P.follows .mixedOrders = true) {f : FuncId} {fn : Func} (hf : P.funcs[f]? = some fn) {args : List Value} (ans : List Ans) {X : Bool} {A : Prop} {x v : Value} {mem : Mem}
    (hx : X = true) (ha : A) (hz : Frz mem x v) (he : ∀ us w, (callFunc f us).run P w = .ok (.enter f us) w) (e : evFnA4 P fn 400 args ans = some (X, A, x, mem)) : MC P f args [] v [] := by
  unfold evFnA4 at e
  split at e
  · rename_i r hr
    cases e
    exact AC.of_ev hm hf hr hx (allP_iff ha) hz he
  · cases e
end
end Go.Ev
