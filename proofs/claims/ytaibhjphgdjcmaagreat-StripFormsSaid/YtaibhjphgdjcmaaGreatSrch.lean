/-
  Lists that grow: a list born of a nil slice in a cell; what a header reads.
  Package golden: of weights that are as good, the search takes the least; what a fold over what was asked comes to.
  The reference's search: what is asked goes to a list that grows.
  The reference's search: Best.
  The reference's search: Fuse and Cut answer as the program's do.
-/
import Derived.Test.YtaibhjphgdjcmaaGreatEv5
import Derived.Test.YtaibhjphgdjcmaaGreatGold4
import Derived.Test.YtaibhjphgdjcmaaGreatTokJ
import Derived.Test.YtaibhjphgdjcmaaGreatGoldM
/-! Lists that grow: a list born of a nil slice in a cell; what a header reads. -/
namespace Go.Ev
section
variable {P : Program} {ρ : Ren} {mem : Mem} {w : World}
theorem MRel.fresh (h : MRel ρ mem w) {k : Nat} (hk : mem.length ≤ k) : ρ k = none := by
  cases hx : ρ k with
  | none => rfl
  | some x =>
    obtain ⟨B, hB, _⟩ := h.cell k x.1 x.2 hx
    have := (List.getElem?_eq_some_iff.1 hB).1
    omega
/-- The list's block. -/
def noneB : Blk := ⟨[], lstT, false⟩
/-- The nil slice in cell i of block j becomes a list without elements (of z + 1 cells each). -/
def bornAt (mem : Mem) (j i z : Nat) : Mem := match mem[j]? with
  | some B => mem.set j { B with cells := B.cells.set i (lstTok mem.length 0 z) } ++ [noneB]
  | none => mem
theorem bornAt_eq {j i z : Nat} {B : Blk} (hB : mem[j]? = some B) : bornAt mem j i z = mem.set j { B with cells := B.cells.set i (lstTok mem.length 0 z) } ++ [noneB] := by
  unfold bornAt
  rw [hB]
theorem VR1_born {k z : Nat} {u : Value} (h : VR1 ρ (.slice none 0 0) u) : VR1 ρ (lstTok k 0 z) u := by
  rw [(VR1_flat rfl).1 h]
  exact (VR1_tok rfl).2 ⟨none, 0, rfl, Nat.le_refl _, .inl ⟨rfl, rfl⟩⟩
theorem born_kept {j i z : Nat} {B : Blk} (hB : mem[j]? = some B) : ∀ (k : Nat) (D : Blk), mem[k]? = some D → ∃ D', (bornAt mem j i z)[k]? = some D' ∧ D'.own = D.own := fun k D hD => by
  rw [bornAt_eq hB]
  obtain ⟨D', h1, h2⟩ := kept_set hB (B.cells.set i (lstTok mem.length 0 z)) k D hD
  exact ⟨D', getElem?_pre h1, h2⟩
theorem MRel.born (h : MRel ρ mem w) {j i z : Nat} {B : Blk} (hB : mem[j]? = some B) (ho : B.own = true) (hi : B.cells[i]? = some (.slice none 0 0)) : MRel ρ (bornAt mem j i z) w := by
  have hjl : j < mem.length := (List.getElem?_eq_some_iff.1 hB).1
  have hfr := h.fresh (Nat.le_refl mem.length)
  have hlt : ∀ k x, ρ k = some x → k < mem.length := fun k x hx => by
    rcases Nat.lt_or_ge k mem.length with hk | hk
    · exact hk
    · rw [h.fresh hk] at hx; cases hx
  rw [bornAt_eq hB]
  have hget : ∀ k, k < mem.length → k ≠ j → (mem.set j { B with cells := B.cells.set i (lstTok mem.length 0 z) } ++ [noneB])[k]? = mem[k]? := fun k hk hne => by
    rw [List.getElem?_append_left (by rw [List.length_set]; exact hk), List.getElem?_set_ne (Ne.symm hne)]
  have hgetj : (mem.set j { B with cells := B.cells.set i (lstTok mem.length 0 z) } ++ [noneB])[j]? = some { B with cells := B.cells.set i (lstTok mem.length 0 z) } := by
    rw [List.getElem?_append_left (by rw [List.length_set]; exact hjl), List.getElem?_set_self hjl]
  have hback : ∀ (k : Nat) (D : Blk), ρ k ≠ none → (mem.set j { B with cells := B.cells.set i (lstTok mem.length 0 z) } ++ [noneB])[k]? = some D → ∃ D', mem[k]? = some D' ∧ D'.own = D.own := fun k D hk hD => by
    obtain ⟨x, hx⟩ := Option.ne_none_iff_exists'.1 hk
    by_cases e : k = j
    · subst e
      rw [hgetj] at hD
      cases hD
      exact ⟨B, hB, rfl⟩
    · rw [hget k (hlt k x hx) e] at hD
      exact ⟨D, hD, rfl⟩
  refine ⟨fun k b s hk => ?_, fun k b s k' b' s' D hk hk' hD hd hne => ?_, fun b cs hh => ?_, ⟨fun b x hx => ?_, fun k D hD hl => ?_⟩⟩
  · obtain ⟨D, hD, hb, hcell⟩ := h.cell k b s hk
    by_cases e : k = j
    · subst e
      rw [hB] at hD
      cases hD
      refine ⟨_, hgetj, hb, fun p v hv => ?_⟩
      have hv' : (B.cells.set i (lstTok mem.length 0 z))[p]? = some v := hv
      by_cases hp : i = p
      · subst hp
        obtain ⟨⟨u, hu, hw⟩, hf⟩ := hcell i _ hi
        rw [List.getElem?_set_self (List.getElem?_eq_some_iff.1 hi).1] at hv'
        cases hv'
        exact ⟨⟨u, VR1_born hu, hw⟩, hf⟩
      · rw [List.getElem?_set_ne hp] at hv'
        exact hcell p v hv'
    · exact ⟨D, by rw [hget k (hlt k _ hk) e]; exact hD, hb, hcell⟩
  · obtain ⟨D', h1, h2⟩ := hback k D (by rw [hk]; simp) hD
    exact h.apart k b s k' b' s' D' hk hk' h1 (h2.trans hd) hne
  · obtain ⟨h1, h2, h3⟩ := h.froz b cs hh
    refine ⟨h1, h2, fun k s D hk hD => ?_⟩
    obtain ⟨D', h4, h5⟩ := hback k D (by rw [hk]; simp) hD
    rw [← h5]
    exact h3 k s D' hk h4
  · have hL := h.lists.lst b x hx
    refine hL.move (Nat.le_refl _) rfl hL.nomap hL.noh fun D hD hl => ⟨D, [], ?_, hl, (List.append_nil _).symm⟩
    rw [hget _ (List.getElem?_eq_some_iff.1 hD).1 fun e => ?_]
    · exact hD
    · rw [e, hB] at hD
      cases hD
      rw [Blk.isL_own ho] at hl
      cases hl
  · rcases Nat.lt_or_ge k mem.length with hk | hk
    · by_cases e : k = j
      · subst e
        rw [hgetj] at hD
        cases hD
        have : Blk.isL { B with cells := B.cells.set i (lstTok mem.length 0 z) } = false := Blk.isL_own ho
        rw [this] at hl
        cases hl
      · rw [hget k hk e] at hD
        exact h.lists.lmap k D hD hl
    · exact h.fresh hk
theorem Mv.weaken {mem2 m' : Mem} {ρ' : Ren} {w' : World} (h : Mv ρ mem2 w ρ' m' w') (hk : ∀ (k : Nat) (D : Blk), mem[k]? = some D → ∃ D', mem2[k]? = some D' ∧ D'.own = D.own) (hM : MRel ρ mem w) : Mv ρ mem w ρ' m' w' :=
  ⟨h.sub, h.new, fun k D hD => by
    obtain ⟨D', h1, h2⟩ := hk k D hD
    obtain ⟨D2, h3, h4⟩ := h.kept k D' h1
    exact ⟨D2, h3, h4.trans h2⟩, h.os, h.tape, h.output, h.size, fun b hb hg hn => h.block b hb hg fun k s D hρ hD => by
    obtain ⟨D0, hD0, _⟩ := hM.cell k b s hρ
    obtain ⟨D', h1, h2⟩ := hk k D0 hD0
    rw [h1] at hD
    cases hD
    rw [h2]
    exact hn k s D0 hρ hD0, h.newh, h.newg⟩
/-- A contract on a memory in which the list is, where it is still to be born. -/
theorem MC.born {g : FuncId} {args : List Value} {v : Value} {mem' : Mem} (j i z : Nat) {B : Blk} (hB : mem[j]? = some B) (ho : B.own = true) (hi : B.cells[i]? = some (.slice none 0 0)) (h : MC P g args (bornAt mem j i z) v mem') : MC P g args mem v mem' :=
  ⟨h.1, fun ρ w us hus hM => (h.2 ρ w us hus (hM.born hB ho hi)).mono fun e w' ⟨v', m, ρ', u, h1, h2, h3, h4, h5⟩ => ⟨v', m, ρ', u, h1, h2, h3, h4, h5.weaken (born_kept hB) hM⟩⟩
theorem Tri.born {c : Code} {S : St} {Q : Exit → St → Prop} (j i z : Nat) {B : Blk} (hB : S.mem[j]? = some B) (ho : B.own = true) (hi : B.cells[i]? = some (.slice none 0 0)) (h : Tri P c ⟨S.tmps, bornAt S.mem j i z⟩ Q) : Tri P c S Q :=
  fun ρ a w hr => wp_mono (h ρ a w ⟨hr.tmps, hr.defers, hr.mem.born hB ho hi⟩) fun e a' w' ⟨S', ρ', h1, h2, h3⟩ => ⟨S', ρ', h1, h2, h3.weaken (born_kept hB) hr.mem⟩
/-- What a header reads. -/
theorem MRel.reads (h : MRel ρ mem w) {k l z : Nat} {u : Value} {B : Blk} (hu : VR ρ (lstTok k l z) u) (hB : mem[k]? = some B) :
    ∃ a c, u = .slice a l c ∧ l ≤ c ∧ ((a = none ∧ l = 0 ∧ c = 0) ∨ ∃ b, a = some ⟨b, 0, none⟩ ∧ b < w.heap.size ∧ ∀ i v, i < l * (z + 1) → B.cells[i]? = some v → w.cell? ⟨b, i, none⟩ = some v) := by
  obtain ⟨a, c, rfl, hlc, hor⟩ := VR_lst.1 hu
  refine ⟨a, c, rfl, hlc, ?_⟩
  rcases hor with ⟨rfl, rfl⟩ | ⟨b, x, rfl, hg, hxk, _, _, hlen⟩
  · exact .inl ⟨rfl, by omega, rfl⟩
  · have hL := h.lists.lst b x hg
    refine .inr ⟨b, rfl, hL.lt, fun i v hi hv => ?_⟩
    obtain ⟨B', t, h1, _, h3⟩ := hL.list
    rw [hxk, hB] at h1
    cases h1
    rw [h3, List.getElem?_append_left (by omega)] at hv
    exact (hL.cells i v hv).2
end
end Go.Ev
/-! Package golden: of weights that are as good, the search takes the least; what a fold over what was asked comes to. -/
namespace Go.Proofs.YtaibhjphgdjcmaaGreat.W
open Go Go.Ev Go.Wide

/-- As good as a value v of a weight w, or better. -/
def Dom (x : An) (v w : Int) : Prop := x.has = true ∧ (x.v < v ∨ (x.v = v ∧ x.w ≤ w))
theorem dom_self {o : Int → Int × Bool} {w : Int} (h : (o w).2 = true) : Dom (mkA w (o w)) (o w).1 w := by
  rw [mkA_has h]
  exact ⟨rfl, .inr ⟨rfl, Int.le_refl _⟩⟩
theorem srch_low {o : Int → Int × Bool} : ∀ (k : Nat) (a b : Int) (x y : An) (L : List Int), InvG k a b x y → x = mkA x.w (o x.w) → y = mkA y.w (o y.w) → (∀ w ∈ L, (o w).2 = true → Dom x (o w).1 w ∨ Dom y (o w).1 w) →
    ∀ w ∈ (srch o k a b x y L).2.2, (o w).2 = true → Dom (srch o k a b x y L).1 (o w).1 w
  | 0, a, b, x, y, L, i, hx, hy, hl, w, hw, hp => by
    have e : x.w = y.w := by rw [i.hx, i.hy]; rfl
    have exy : x = y := by rw [hx, hy, e]
    rcases hl w hw hp with h | h
    · exact h
    · show Dom x _ _
      rw [exy]
      exact h
  | k + 1, a, b, x, y, L, i, hx, hy, hl, w, hw, hp => by
    have p1 := fb_pos k
    have e1 : fb (k + 1 + 1) = fb k + fb (k + 1) := rfl
    have i1 := i.hx
    have i2 := i.hy
    unfold srch at hw ⊢
    cases hs : lessA y x with
    | true =>
      rw [hs] at hw
      obtain ⟨i', _⟩ := i.up o
      have hz := zOf_mk (w := x.w + b - y.w) hy
      obtain ⟨l1, l2⟩ := lessA_iff.1 hs
      refine srch_low k _ _ _ _ _ i' hy (by rw [zOf_w]; exact hz) (fun u hu hq => ?_) w hw hp
      rcases lOf_sub hu with hu | rfl
      · rcases hl u hu hq with ⟨g1, g2⟩ | g
        · refine .inl ⟨l1, .inl ?_⟩
          rcases l2 with l2 | l2
          · rw [g1] at l2; cases l2
          · omega
        · exact .inl g
      · rw [hz]
        exact .inr (dom_self hq)
    | false =>
      rw [hs] at hw
      obtain ⟨i', _⟩ := i.down o
      have hz := zOf_mk (w := a + y.w - x.w) hx
      have l1 : ¬ (y.has = true ∧ (x.has = false ∨ y.v < x.v)) := fun h => by rw [lessA_iff.2 h] at hs; cases hs
      refine srch_low k _ _ _ _ _ i' (by rw [zOf_w]; exact hz) hx (fun u hu hq => ?_) w hw hp
      rcases lOf_sub hu with hu | rfl
      · rcases hl u hu hq with g | ⟨g1, g2⟩
        · exact .inr g
        · refine .inr ?_
          cases hh : x.has with
          | false => exact absurd ⟨g1, .inl hh⟩ l1
          | true =>
            have : ¬ y.v < x.v := fun h => l1 ⟨g1, .inr h⟩
            exact ⟨hh, by omega⟩
      · rw [hz]
        exact .inl (dom_self hq)
theorem gfin_low (o : Int → Int × Bool) : ∀ w ∈ (gfin o).2.2, (o w).2 = true → Dom (gfin o).1 (o w).1 w := by
  refine srch_low 6 0 34 _ _ _ (InvG.start o) (by rw [mkA_w]) (by rw [mkA_w]) fun w h hp => ?_
  rcases List.mem_cons.1 h with rfl | h
  · exact .inl (dom_self hp)
  · obtain rfl := List.mem_singleton.1 h
    exact .inr (dom_self hp)

/-! ### A fold over what was asked -/
structure SS where
  w : Int
  v : Int
  has : Bool
  e : El
def SS.nil : SS := ⟨0, 0, false, .zero⟩
def betterS (s : SS) (v w : Int) : Bool := !s.has || (decide (v < s.v) || (decide (v = s.v) && decide (w < s.w)))
def stepS (mk : Int → Mk) (s : SS) (w : Int) : SS := match decide (((mk w).n : Int) = 0) && betterS s (mk w).e.tr w with | true => ⟨w, (mk w).e.tr, true, (mk w).e⟩ | false => s
def foldS (mk : Int → Mk) (L : List Int) : SS := L.foldl (stepS mk) .nil
theorem foldS_snoc (mk : Int → Mk) (L : List Int) (w : Int) : foldS mk (L ++ [w]) = stepS mk (foldS mk L) w := by unfold foldS; rw [List.foldl_append]; rfl
structure FoldS (mk : Int → Mk) (L : List Int) (s : SS) : Prop where
  low : ∀ w ∈ L, ((mk w).n : Int) = 0 → s.has = true ∧ (s.v < (mk w).e.tr ∨ (s.v = (mk w).e.tr ∧ s.w ≤ w))
  one : s.has = true → s.w ∈ L ∧ ((mk s.w).n : Int) = 0 ∧ s.v = (mk s.w).e.tr ∧ s.e = (mk s.w).e
  non : s.has = false → s = .nil
theorem foldS_spec (mk : Int → Mk) (L : List Int) : FoldS mk L (foldS mk L) := by
  refine snoc_ind (P := fun L => FoldS mk L (foldS mk L)) ⟨(fun w h => by cases h), (fun h => by cases h), fun _ => rfl⟩ (fun L w ih => ?_) L
  rw [foldS_snoc]
  generalize foldS mk L = s at *
  unfold stepS
  split
  · rename_i hb
    rw [Bool.and_eq_true, decide_eq_true_eq] at hb
    obtain ⟨h0, hb⟩ := hb
    refine ⟨fun u hu hn => ⟨rfl, ?_⟩, fun _ => ⟨List.mem_append_right _ (List.mem_singleton.2 rfl), h0, rfl, rfl⟩, fun h => by cases h⟩
    rcases List.mem_append.1 hu with hu | hu
    · obtain ⟨g1, g2⟩ := ih.low u hu hn
      simp only [betterS, g1, Bool.not_true, Bool.false_or, Bool.or_eq_true, Bool.and_eq_true, decide_eq_true_eq] at hb
      show (mk w).e.tr < _ ∨ ((mk w).e.tr = _ ∧ w ≤ u)
      omega
    · obtain rfl := List.mem_singleton.1 hu
      exact .inr ⟨rfl, Int.le_refl _⟩
  · rename_i hb
    refine ⟨fun u hu hn => ?_, fun h => ?_, ih.non⟩
    · rcases List.mem_append.1 hu with hu | hu
      · exact ih.low u hu hn
      · obtain rfl := List.mem_singleton.1 hu
        cases hs : s.has with
        | false => simp [betterS, hs, hn] at hb
        | true =>
          simp only [betterS, hs, hn, decide_true, Bool.true_and, Bool.not_true, Bool.false_or, Bool.or_eq_false_iff, Bool.and_eq_false_iff, decide_eq_false_iff_not] at hb
          exact ⟨rfl, by omega⟩
    · obtain ⟨h1, h2⟩ := ih.one h
      exact ⟨List.mem_append_left _ h1, h2⟩
/-- What the search finds is what the fold finds. -/
theorem foldS_gfin (mk : Int → Mk) : foldS mk (gfin (oM mk)).2.2 = match (gfin (oM mk)).1.has with | true => ⟨(gfin (oM mk)).1.w, (gfin (oM mk)).1.v, true, (mk (gfin (oM mk)).1.w).e⟩ | false => .nil := by
  have hb := gfin_best (oM mk)
  have hl := gfin_low (oM mk)
  have hf := foldS_spec mk (gfin (oM mk)).2.2
  generalize foldS mk (gfin (oM mk)).2.2 = s at *
  generalize (gfin (oM mk)).1 = x at *
  generalize (gfin (oM mk)).2.2 = L at *
  have hlow : ∀ w ∈ L, ((mk w).n : Int) = 0 → x.has = true ∧ (x.v < (mk w).e.tr ∨ (x.v = (mk w).e.tr ∧ x.w ≤ w)) := fun w hw h0 => hl w hw (decide_eq_true h0)
  cases hx : x.has with
  | true =>
    have h0 : ((mk x.w).n : Int) = 0 ∧ x.v = (mk x.w).e.tr := by
      cases hn : decide (((mk x.w).n : Int) = 0) with
      | true =>
        refine ⟨of_decide_eq_true hn, ?_⟩
        have := hb.mx
        rw [mkA_has (p := oM mk x.w) hn] at this
        exact congrArg An.v this
      | false =>
        have := hb.mx
        unfold mkA at this
        rw [show (oM mk x.w).2 = false from hn] at this
        rw [this] at hx
        cases hx
    obtain ⟨g1, g2⟩ := hf.low x.w hb.xl h0.1
    obtain ⟨f1, f2, f3, f4⟩ := hf.one g1
    obtain ⟨_, g4⟩ := hlow s.w f1 f2
    have ew : s.w = x.w := by
      have e1 := h0.2
      rcases g2 with g2 | ⟨g2, g3⟩
      · rcases g4 with g4 | ⟨g4, g5⟩ <;> omega
      · rcases g4 with g4 | ⟨g4, g5⟩ <;> omega
    obtain ⟨sw, sv, sh, se⟩ := s
    simp only at g1 ew f3 f4
    subst g1 ew f4
    simp only
    rw [f3, ← h0.2]
  | false =>
    cases hs : s.has with
    | false => exact hf.non hs
    | true =>
      obtain ⟨f1, f2, _⟩ := hf.one hs
      rw [(hlow s.w f1 f2).1] at hx
      cases hx
end Go.Proofs.YtaibhjphgdjcmaaGreat.W
/-! The reference's search: what is asked goes to a list that grows. -/
namespace Go.Proofs.YtaibhjphgdjcmaaGreat.R
open Go Go.Ev Go.W32
open Go.Proofs.YtaibhjphgdjcmaaGreat.W (mixed ell ellT mayL mayS strV eBlk sBlk ellC El Mk Sp SS mkF mkC ptr betterS stepS)

def schT : TypeId := 98
def schC (fp sp : Value) (em : Bool) (hd : Value) (s : SS) : List Value :=
  [.slice none 0 0, ptr 0, fp, sp, .bool em, hd, .int .i64 s.w, .int .i64 s.v, .bool s.has, .int .i64 s.e.x, .int .i64 s.e.y, .int .i64 s.e.a, .int .i64 s.e.b, .int .i64 s.e.d]
/-- The memory of a search: the ellipse, the other one or the strip, what is answered, the search, what was asked. -/
def memR (B0 B1 B2 : Blk) (fp sp : Value) (em : Bool) (n : Nat) (cs : List Value) (s : SS) : Mem := [B0, B1, B2, ⟨schC fp sp em (lstTok 4 n 0) s, schT, true⟩, ⟨cs, lstT, false⟩]
def nilP : Value := .pointer none
def memF (e f : El) (em : Bool) (n : Nat) (cs : List Value) (s : SS) : Mem := memR (eBlk e.cells) (eBlk f.cells) (eBlk (ellC 0 0 0 0 0)) (ptr 1) nilP em n cs s
def memC (e : El) (p : Sp) (em : Bool) (n : Nat) (cs : List Value) (s : SS) : Mem := memR (eBlk e.cells) (sBlk p.cells) (eBlk (ellC 0 0 0 0 0)) nilP (ptr 1) em n cs s
def valV (v : Int) (ok : Bool) : Value := .agg #[.int .i64 v, .bool ok]
theorem enters_rask : ∀ us w, (callFunc 102 us).run Tryz.prog w = .ok (.enter 102 us) w := enters Tryz.func102 rfl (by kernel_rfl)
/-- Is there room for one more? -/
def roomB (n : Nat) (cs : List Value) : Bool := (Nat.beq cs.length (n * (0 + 1)) && true && Nat.ble (n + 1) 140737488355328) && Nat.ble ((n + 1) * 8) 140737488355328
theorem room_ok {L : List Int} (h : L.length ≤ 40) : roomB L.length (L.map (Value.int .i64)) = true := by
  unfold roomB
  simp only [Bool.and_eq_true, Nat.ble_eq, List.length_map, Nat.zero_add, Nat.mul_one, Nat.beq_refl, and_self, true_and]
  omega
theorem ints_new (n : Nat) (L : List Int) : (L.map (Value.int .i64)).all (noNew1 n) = true := by
  rw [List.all_map, List.all_eq_true]
  intro i _
  rfl
section
variable {e f : El} {em : Bool} {n : Nat} {cs : List Value} {s : SS} {w : Int} {m : Mk}
theorem raskF_new (hr : roomB n cs = true) (hc : (cs ++ [Value.int .i64 w]).all (noNew1 5) = true) (q1 : MC Tryz.prog 120 [e.val, f.val, .int .i64 w] [] m.val []) (q2 : QC Tryz.prog 58 [m.e.val] (.int .i64 m.e.tr)) (hs : s.has = false) (hm : m.n = 0) :
    MC Tryz.prog 102 [ptr 3, .int .i64 w] (memF e f em n cs s) (valV m.e.tr true) (memF e f em (n + 1) (cs ++ [.int .i64 w]) ⟨w, m.e.tr, true, m.e⟩) := by
  obtain ⟨sw, sv, sh, se⟩ := s
  obtain ⟨me, mn⟩ := m
  simp only at hs hm
  subst hs hm
  cases em <;> exact MC.run5 mixed Tryz.func102 [.ab (Mk.mk me 0).val, .res (.int .i64 me.tr)] (ts2 hr hc) (qs2 q1 q2) rfl rfl enters_rask (by kernel_rfl)
theorem raskF_less (hr : roomB n cs = true) (hc : (cs ++ [Value.int .i64 w]).all (noNew1 5) = true) (q1 : MC Tryz.prog 120 [e.val, f.val, .int .i64 w] [] m.val []) (q2 : QC Tryz.prog 58 [m.e.val] (.int .i64 m.e.tr)) (hs : s.has = true) (hm : m.n = 0) (h1 : m.e.tr < s.v) :
    MC Tryz.prog 102 [ptr 3, .int .i64 w] (memF e f em n cs s) (valV m.e.tr true) (memF e f em (n + 1) (cs ++ [.int .i64 w]) ⟨w, m.e.tr, true, m.e⟩) := by
  obtain ⟨sw, sv, sh, se⟩ := s
  obtain ⟨me, mn⟩ := m
  simp only at hs hm
  subst hs hm
  cases em <;> exact MC.run5 mixed Tryz.func102 [.ab (Mk.mk me 0).val, .res (.int .i64 me.tr), .auto, .auto, .tst true] (ts3 hr (tT h1) hc) (qs2 q1 q2) rfl rfl enters_rask (by kernel_rfl)
theorem raskF_left (hr : roomB n cs = true) (hc : (cs ++ [Value.int .i64 w]).all (noNew1 5) = true) (q1 : MC Tryz.prog 120 [e.val, f.val, .int .i64 w] [] m.val []) (q2 : QC Tryz.prog 58 [m.e.val] (.int .i64 m.e.tr)) (hs : s.has = true) (hm : m.n = 0) (h1 : ¬ m.e.tr < s.v) (h2 : m.e.tr = s.v) (h3 : w < s.w) :
    MC Tryz.prog 102 [ptr 3, .int .i64 w] (memF e f em n cs s) (valV m.e.tr true) (memF e f em (n + 1) (cs ++ [.int .i64 w]) ⟨w, m.e.tr, true, m.e⟩) := by
  obtain ⟨sw, sv, sh, se⟩ := s
  obtain ⟨me, mn⟩ := m
  simp only at hs hm
  subst hs hm
  cases em <;> exact MC.run5 mixed Tryz.func102 [.ab (Mk.mk me 0).val, .res (.int .i64 me.tr), .auto, .auto, .tst false, .tst true, .tst true] (ts5 hr (tF h1) (tT h2) (tT h3) hc) (qs2 q1 q2) rfl rfl enters_rask (by kernel_rfl)
theorem raskF_same (hr : roomB n cs = true) (hc : (cs ++ [Value.int .i64 w]).all (noNew1 5) = true) (q1 : MC Tryz.prog 120 [e.val, f.val, .int .i64 w] [] m.val []) (q2 : QC Tryz.prog 58 [m.e.val] (.int .i64 m.e.tr)) (hs : s.has = true) (hm : m.n = 0) (h1 : ¬ m.e.tr < s.v) (h2 : m.e.tr = s.v) (h3 : ¬ w < s.w) :
    MC Tryz.prog 102 [ptr 3, .int .i64 w] (memF e f em n cs s) (valV m.e.tr true) (memF e f em (n + 1) (cs ++ [.int .i64 w]) s) := by
  obtain ⟨sw, sv, sh, se⟩ := s
  obtain ⟨me, mn⟩ := m
  simp only at hs hm
  subst hs hm
  cases em <;> exact MC.run5 mixed Tryz.func102 [.ab (Mk.mk me 0).val, .res (.int .i64 me.tr), .auto, .auto, .tst false, .tst true, .tst false] (ts5 hr (tF h1) (tT h2) (tF h3) hc) (qs2 q1 q2) rfl rfl enters_rask (by kernel_rfl)
theorem raskF_more (hr : roomB n cs = true) (hc : (cs ++ [Value.int .i64 w]).all (noNew1 5) = true) (q1 : MC Tryz.prog 120 [e.val, f.val, .int .i64 w] [] m.val []) (q2 : QC Tryz.prog 58 [m.e.val] (.int .i64 m.e.tr)) (hs : s.has = true) (hm : m.n = 0) (h1 : ¬ m.e.tr < s.v) (h2 : ¬ m.e.tr = s.v) :
    MC Tryz.prog 102 [ptr 3, .int .i64 w] (memF e f em n cs s) (valV m.e.tr true) (memF e f em (n + 1) (cs ++ [.int .i64 w]) s) := by
  obtain ⟨sw, sv, sh, se⟩ := s
  obtain ⟨me, mn⟩ := m
  simp only at hs hm
  subst hs hm
  cases em <;> exact MC.run5 mixed Tryz.func102 [.ab (Mk.mk me 0).val, .res (.int .i64 me.tr), .auto, .auto, .tst false, .tst false] (ts4 hr (tF h1) (tF h2) hc) (qs2 q1 q2) rfl rfl enters_rask (by kernel_rfl)
theorem raskF_none (hr : roomB n cs = true) (hc : (cs ++ [Value.int .i64 w]).all (noNew1 5) = true) (q1 : MC Tryz.prog 120 [e.val, f.val, .int .i64 w] [] m.val []) (q2 : QC Tryz.prog 58 [m.e.val] (.int .i64 m.e.tr)) (hm : ¬ (m.n : Int) = 0) :
    MC Tryz.prog 102 [ptr 3, .int .i64 w] (memF e f em n cs s) (valV m.e.tr (decide ((m.n : Int) = 0))) (memF e f (em || decide ((m.n : Int) = 3)) (n + 1) (cs ++ [.int .i64 w]) s) := by
  obtain ⟨sw, sv, sh, se⟩ := s
  obtain ⟨me, mn⟩ := m
  cases em <;> exact MC.run5 mixed Tryz.func102 [.ab (Mk.mk me mn).val, .res (.int .i64 me.tr), .tst false] (ts3 hr (tF hm) hc) (qs2 q1 q2) rfl rfl enters_rask (by kernel_rfl)
theorem raskF {mk : Int → Mk} (hmk : mk w = m) (hr : roomB n cs = true) (hc : (cs ++ [Value.int .i64 w]).all (noNew1 5) = true) (q1 : MC Tryz.prog 120 [e.val, f.val, .int .i64 w] [] m.val []) (q2 : QC Tryz.prog 58 [m.e.val] (.int .i64 m.e.tr)) :
    MC Tryz.prog 102 [ptr 3, .int .i64 w] (memF e f em n cs s) (valV m.e.tr (decide ((m.n : Int) = 0))) (memF e f (em || decide ((m.n : Int) = 3)) (n + 1) (cs ++ [.int .i64 w]) (stepS mk s w)) := by
  by_cases h0 : m.n = 0
  · have e1 : decide ((m.n : Int) = 0) = true := by rw [h0]; rfl
    have e2 : (em || decide ((m.n : Int) = 3)) = em := by rw [h0]; exact Bool.or_false em
    rw [e1, e2]
    cases hs : s.has with
    | false =>
      have e3 : stepS mk s w = ⟨w, m.e.tr, true, m.e⟩ := by simp [stepS, betterS, hmk, h0, hs]
      rw [e3]
      exact raskF_new hr hc q1 q2 hs h0
    | true =>
      by_cases h1 : m.e.tr < s.v
      · have e3 : stepS mk s w = ⟨w, m.e.tr, true, m.e⟩ := by simp [stepS, betterS, hmk, h0, hs, h1]
        rw [e3]
        exact raskF_less hr hc q1 q2 hs h0 h1
      · by_cases h2 : m.e.tr = s.v
        · by_cases h3 : w < s.w
          · have e3 : stepS mk s w = ⟨w, m.e.tr, true, m.e⟩ := by simp [stepS, betterS, hmk, h0, hs, h2, h3]
            rw [e3]
            exact raskF_left hr hc q1 q2 hs h0 h1 h2 h3
          · have e3 : stepS mk s w = s := by simp [stepS, betterS, hmk, h0, hs, h2, h3]
            rw [e3]
            exact raskF_same hr hc q1 q2 hs h0 h1 h2 h3
        · have e3 : stepS mk s w = s := by simp [stepS, betterS, hmk, h0, hs, h1, h2]
          rw [e3]
          exact raskF_more hr hc q1 q2 hs h0 h1 h2
  · have h0' : ¬ (m.n : Int) = 0 := by omega
    have e3 : stepS mk s w = s := by simp [stepS, hmk, h0]
    rw [e3]
    exact raskF_none hr hc q1 q2 h0'
end
section
variable {e : El} {p : Sp} {em : Bool} {n : Nat} {cs : List Value} {s : SS} {w : Int} {m : Mk}
theorem raskC_new (hr : roomB n cs = true) (hc : (cs ++ [Value.int .i64 w]).all (noNew1 5) = true) (q1 : MC Tryz.prog 121 [e.val, p.val, .int .i64 w] [] m.val []) (q2 : QC Tryz.prog 58 [m.e.val] (.int .i64 m.e.tr)) (hs : s.has = false) (hm : m.n = 0) :
    MC Tryz.prog 102 [ptr 3, .int .i64 w] (memC e p em n cs s) (valV m.e.tr true) (memC e p em (n + 1) (cs ++ [.int .i64 w]) ⟨w, m.e.tr, true, m.e⟩) := by
  obtain ⟨sw, sv, sh, se⟩ := s
  obtain ⟨me, mn⟩ := m
  simp only at hs hm
  subst hs hm
  cases em <;> exact MC.run5 mixed Tryz.func102 [.ab (Mk.mk me 0).val, .res (.int .i64 me.tr)] (ts2 hr hc) (qs2 q1 q2) rfl rfl enters_rask (by kernel_rfl)
theorem raskC_less (hr : roomB n cs = true) (hc : (cs ++ [Value.int .i64 w]).all (noNew1 5) = true) (q1 : MC Tryz.prog 121 [e.val, p.val, .int .i64 w] [] m.val []) (q2 : QC Tryz.prog 58 [m.e.val] (.int .i64 m.e.tr)) (hs : s.has = true) (hm : m.n = 0) (h1 : m.e.tr < s.v) :
    MC Tryz.prog 102 [ptr 3, .int .i64 w] (memC e p em n cs s) (valV m.e.tr true) (memC e p em (n + 1) (cs ++ [.int .i64 w]) ⟨w, m.e.tr, true, m.e⟩) := by
  obtain ⟨sw, sv, sh, se⟩ := s
  obtain ⟨me, mn⟩ := m
  simp only at hs hm
  subst hs hm
  cases em <;> exact MC.run5 mixed Tryz.func102 [.ab (Mk.mk me 0).val, .res (.int .i64 me.tr), .auto, .auto, .tst true] (ts3 hr (tT h1) hc) (qs2 q1 q2) rfl rfl enters_rask (by kernel_rfl)
theorem raskC_left (hr : roomB n cs = true) (hc : (cs ++ [Value.int .i64 w]).all (noNew1 5) = true) (q1 : MC Tryz.prog 121 [e.val, p.val, .int .i64 w] [] m.val []) (q2 : QC Tryz.prog 58 [m.e.val] (.int .i64 m.e.tr)) (hs : s.has = true) (hm : m.n = 0) (h1 : ¬ m.e.tr < s.v) (h2 : m.e.tr = s.v) (h3 : w < s.w) :
    MC Tryz.prog 102 [ptr 3, .int .i64 w] (memC e p em n cs s) (valV m.e.tr true) (memC e p em (n + 1) (cs ++ [.int .i64 w]) ⟨w, m.e.tr, true, m.e⟩) := by
  obtain ⟨sw, sv, sh, se⟩ := s
  obtain ⟨me, mn⟩ := m
  simp only at hs hm
  subst hs hm
  cases em <;> exact MC.run5 mixed Tryz.func102 [.ab (Mk.mk me 0).val, .res (.int .i64 me.tr), .auto, .auto, .tst false, .tst true, .tst true] (ts5 hr (tF h1) (tT h2) (tT h3) hc) (qs2 q1 q2) rfl rfl enters_rask (by kernel_rfl)
theorem raskC_same (hr : roomB n cs = true) (hc : (cs ++ [Value.int .i64 w]).all (noNew1 5) = true) (q1 : MC Tryz.prog 121 [e.val, p.val, .int .i64 w] [] m.val []) (q2 : QC Tryz.prog 58 [m.e.val] (.int .i64 m.e.tr)) (hs : s.has = true) (hm : m.n = 0) (h1 : ¬ m.e.tr < s.v) (h2 : m.e.tr = s.v) (h3 : ¬ w < s.w) :
    MC Tryz.prog 102 [ptr 3, .int .i64 w] (memC e p em n cs s) (valV m.e.tr true) (memC e p em (n + 1) (cs ++ [.int .i64 w]) s) := by
  obtain ⟨sw, sv, sh, se⟩ := s
  obtain ⟨me, mn⟩ := m
  simp only at hs hm
  subst hs hm
  cases em <;> exact MC.run5 mixed Tryz.func102 [.ab (Mk.mk me 0).val, .res (.int .i64 me.tr), .auto, .auto, .tst false, .tst true, .tst false] (ts5 hr (tF h1) (tT h2) (tF h3) hc) (qs2 q1 q2) rfl rfl enters_rask (by kernel_rfl)
theorem raskC_more (hr : roomB n cs = true) (hc : (cs ++ [Value.int .i64 w]).all (noNew1 5) = true) (q1 : MC Tryz.prog 121 [e.val, p.val, .int .i64 w] [] m.val []) (q2 : QC Tryz.prog 58 [m.e.val] (.int .i64 m.e.tr)) (hs : s.has = true) (hm : m.n = 0) (h1 : ¬ m.e.tr < s.v) (h2 : ¬ m.e.tr = s.v) :
    MC Tryz.prog 102 [ptr 3, .int .i64 w] (memC e p em n cs s) (valV m.e.tr true) (memC e p em (n + 1) (cs ++ [.int .i64 w]) s) := by
  obtain ⟨sw, sv, sh, se⟩ := s
  obtain ⟨me, mn⟩ := m
  simp only at hs hm
  subst hs hm
  cases em <;> exact MC.run5 mixed Tryz.func102 [.ab (Mk.mk me 0).val, .res (.int .i64 me.tr), .auto, .auto, .tst false, .tst false] (ts4 hr (tF h1) (tF h2) hc) (qs2 q1 q2) rfl rfl enters_rask (by kernel_rfl)
theorem raskC_none (hr : roomB n cs = true) (hc : (cs ++ [Value.int .i64 w]).all (noNew1 5) = true) (q1 : MC Tryz.prog 121 [e.val, p.val, .int .i64 w] [] m.val []) (q2 : QC Tryz.prog 58 [m.e.val] (.int .i64 m.e.tr)) (hm : ¬ (m.n : Int) = 0) :
    MC Tryz.prog 102 [ptr 3, .int .i64 w] (memC e p em n cs s) (valV m.e.tr (decide ((m.n : Int) = 0))) (memC e p (em || decide ((m.n : Int) = 3)) (n + 1) (cs ++ [.int .i64 w]) s) := by
  obtain ⟨sw, sv, sh, se⟩ := s
  obtain ⟨me, mn⟩ := m
  cases em <;> exact MC.run5 mixed Tryz.func102 [.ab (Mk.mk me mn).val, .res (.int .i64 me.tr), .tst false] (ts3 hr (tF hm) hc) (qs2 q1 q2) rfl rfl enters_rask (by kernel_rfl)
theorem raskC {mk : Int → Mk} (hmk : mk w = m) (hr : roomB n cs = true) (hc : (cs ++ [Value.int .i64 w]).all (noNew1 5) = true) (q1 : MC Tryz.prog 121 [e.val, p.val, .int .i64 w] [] m.val []) (q2 : QC Tryz.prog 58 [m.e.val] (.int .i64 m.e.tr)) :
    MC Tryz.prog 102 [ptr 3, .int .i64 w] (memC e p em n cs s) (valV m.e.tr (decide ((m.n : Int) = 0))) (memC e p (em || decide ((m.n : Int) = 3)) (n + 1) (cs ++ [.int .i64 w]) (stepS mk s w)) := by
  by_cases h0 : m.n = 0
  · have e1 : decide ((m.n : Int) = 0) = true := by rw [h0]; rfl
    have e2 : (em || decide ((m.n : Int) = 3)) = em := by rw [h0]; exact Bool.or_false em
    rw [e1, e2]
    cases hs : s.has with
    | false =>
      have e3 : stepS mk s w = ⟨w, m.e.tr, true, m.e⟩ := by simp [stepS, betterS, hmk, h0, hs]
      rw [e3]
      exact raskC_new hr hc q1 q2 hs h0
    | true =>
      by_cases h1 : m.e.tr < s.v
      · have e3 : stepS mk s w = ⟨w, m.e.tr, true, m.e⟩ := by simp [stepS, betterS, hmk, h0, hs, h1]
        rw [e3]
        exact raskC_less hr hc q1 q2 hs h0 h1
      · by_cases h2 : m.e.tr = s.v
        · by_cases h3 : w < s.w
          · have e3 : stepS mk s w = ⟨w, m.e.tr, true, m.e⟩ := by simp [stepS, betterS, hmk, h0, hs, h2, h3]
            rw [e3]
            exact raskC_left hr hc q1 q2 hs h0 h1 h2 h3
          · have e3 : stepS mk s w = s := by simp [stepS, betterS, hmk, h0, hs, h2, h3]
            rw [e3]
            exact raskC_same hr hc q1 q2 hs h0 h1 h2 h3
        · have e3 : stepS mk s w = s := by simp [stepS, betterS, hmk, h0, hs, h1, h2]
          rw [e3]
          exact raskC_more hr hc q1 q2 hs h0 h1 h2
  · have h0' : ¬ (m.n : Int) = 0 := by omega
    have e3 : stepS mk s w = s := by simp [stepS, hmk, h0]
    rw [e3]
    exact raskC_none hr hc q1 q2 h0'
end
end Go.Proofs.YtaibhjphgdjcmaaGreat.R
/-! The reference's search: Best. -/
namespace Go.Proofs.YtaibhjphgdjcmaaGreat.R
open Go Go.Ev Go.W32
open Go.Proofs.YtaibhjphgdjcmaaGreat.W (mixed ell ellT mayL mayS strV eBlk sBlk ellC El Mk Sp SS mkF mkC ptr betterS stepS An lessA noNews lows empM empM_snoc foldS foldS_snoc foldS_spec mkA mkA_has mkA_w oM InvG srch fb fb_pos zOf lOf gfin wrapS)

theorem atMost_pc (x y : An) : PC Tryz.prog 103 [valV x.v x.has, valV y.v y.has] (.bool (!lessA y x)) := by
  obtain ⟨w, v, b⟩ := x
  obtain ⟨w', v', b'⟩ := y
  cases b <;> cases b'
  · exact PC.run mixed Tryz.func103 [] rfl ts0 qs0 rfl rfl (by kernel_rfl)
  · exact PC.run mixed Tryz.func103 [] rfl ts0 qs0 rfl rfl (by kernel_rfl)
  · exact PC.run mixed Tryz.func103 [] rfl ts0 qs0 rfl rfl (by kernel_rfl)
  · refine PC.run (v := .bool (decide (v ≤ v'))) mixed Tryz.func103 [] rfl ts0 qs0 rfl ?_ (by kernel_rfl)
    refine congrArg Value.bool ?_
    show decide (v ≤ v') = !(true && (!true || decide (v' < v)))
    by_cases h : v ≤ v'
    · rw [decide_eq_true h, decide_eq_false (by omega)]; rfl
    · rw [decide_eq_false h, decide_eq_true (by omega)]; rfl
theorem enters_atMost : ∀ us w, (callFunc 103 us).run Tryz.prog w = .ok (.enter 103 us) w := enters Tryz.func103 rfl (by kernel_rfl)
theorem atMost_qc (x y : An) {r : Bool} (h : (!lessA y x) = r) : QC Tryz.prog 103 [valV x.v x.has, valV y.v y.has] (.bool r) := h ▸ QC.of_pc enters_atMost (atMost_pc x y)
theorem enters_rbest : ∀ us w, (callFunc 70 us).run Tryz.prog w = .ok (.enter 70 us) w := enters Tryz.func70 rfl (by kernel_rfl)
def pBlk (x : An) : Blk := ⟨[.int .i64 x.v, .bool x.has], 96, true⟩
def evT4 (P : Program) (c : Code) (live : List Nat) (n : Nat) (S : St) (ans : List Ans) : Option (Bool × Prop × Exit × St) :=
  match evC P 400 c S ans with
  | some r => some (allB (r.ok ++ (decide (S.mem.length ≤ n) :: keepL n (maskD live n r.S))), allP r.obs, r.e, maskD live n r.S)
  | none => none
theorem Tri_run {P : Program} (hm : P.follows .mixedOrders = true) {c : Code} (live : List Nat) (n : Nat) (ans : List Ans) {S S' : St} {x : Exit} {X : Bool} {A : Prop} (hx : X = true) (ha : A) (e : evT4 P c live n S ans = some (X, A, x, S')) : Tri P c S (to x S') := by
  unfold evT4 at e
  split at e
  · rename_i r hr
    cases e
    rw [allB_append, allB_cons, Bool.and_eq_true, Bool.and_eq_true, decide_eq_true_eq] at hx
    exact Tri.drop (evC_sound hm _ _ _ _ _ hr hx.1 (allP_iff ha)).1 live hx.2.1 hx.2.2
  · cases e
theorem TriL_again {P : Program} {c : Code} {S S1 : St} {Q : Exit → St → Prop} (h : Tri P c S (to .normal S1)) (h' : TriL P c S1 Q) : TriL P c S Q := TriL.step (h.mono fun e S2 => by
  rintro ⟨rfl, rfl⟩
  exact h')
theorem TriL_leave {P : Program} {c : Code} {S S1 : St} {x : Nat} (h : Tri P c S (to (.exit x) S1)) : TriL P c S (to (.exit x) S1) := TriL.step (h.mono fun e S2 => by
  rintro ⟨rfl, rfl⟩
  exact ⟨rfl, rfl⟩)
noncomputable def rbL : Code := loopN Tryz.f70 0
theorem NET {p : Prop} [Decidable p] (h : ¬ p) : (!decide p) = true := by rw [decide_eq_false h]; rfl
theorem NEF {p : Prop} [Decidable p] (h : p) : (!(!decide p)) = true := by rw [decide_eq_true h]; rfl
theorem intsF (L : List Int) : (L.map (Value.int .i64)).all flat1 = true := by
  rw [List.all_map, List.all_eq_true]
  intro i _
  rfl
def resS (s : SS) : Value := .tuple #[.int .i64 s.w, .int .i64 s.v, .bool s.has]
def rbV : List Nat := [0, 5, 6, 7, 8, 9, 10]
def stF (e f : El) (a b : Int) (x y : An) (em : Bool) (n : Nat) (cs : List Value) (s : SS) : St :=
  ⟨slots 67 [(0, ptr 3), (5, .int .i64 a), (6, .int .i64 b), (7, .int .i64 x.w), (8, .int .i64 y.w), (9, ptr 5), (10, ptr 6)], memF e f em n cs s ++ [pBlk x, pBlk y]⟩
def enF (e f : El) (x y : An) (em : Bool) (n : Nat) (cs : List Value) (s : SS) : St := ⟨slots 67 [(0, ptr 3)], memF e f em n cs s ++ [pBlk x, pBlk y]⟩
section
variable {e f : El} {em em' : Bool} {n n' : Nat} {cs cs' : List Value} {s s' : SS} {a b w : Int} {x y z : An}
theorem rbF_end (hc : cs.all (noNew1 7) = true) (hab : ¬ IntKind.i64.wrap (b - a) > 2) : Tri Tryz.prog rbL (stF e f a b x y em n cs s) (to (.exit 0) (enF e f x y em n cs s)) :=
  Tri_run mixed [0] 7 [.tst false] (ts2 (tF hab) hc) qs0 (by kernel_rfl)
theorem rbF_loS (hc : cs.all (noNew1 7) = true) (hab : IntKind.i64.wrap (b - a) > 2) (hl : (!lessA y x) = true) (w1 : IntKind.i64.wrap (a + y.w) = a + y.w) (w2 : IntKind.i64.wrap (a + y.w - x.w) = w) (hk : w = x.w) (hz : z = x) : Tri Tryz.prog rbL (stF e f a b x y em n cs s) (to .normal (stF e f a y.w z x em n cs s)) := by
  subst hk
  rw [hz]
  exact Tri_run mixed rbV 7 [.tst true, .res (.bool true), .is 9 (.int .i64 (a + y.w)), .is 2 (.int .i64 x.w), .tst false] (ts3 (tT hab) (NEF (p := x.w = x.w) rfl) hc) (qs3 (atMost_qc x y hl) (congrArg (Value.int .i64) w1) (congrArg (Value.int .i64) w2)) (by kernel_rfl)
theorem rbF_loA (hc : cs'.all (noNew1 7) = true) (hab : IntKind.i64.wrap (b - a) > 2) (hl : (!lessA y x) = true) (w1 : IntKind.i64.wrap (a + y.w) = a + y.w) (w2 : IntKind.i64.wrap (a + y.w - x.w) = w) (hk : ¬ w = x.w) (hz : z.w = w) (h : MC Tryz.prog 102 [ptr 3, .int .i64 w] (memF e f em n cs s ++ [pBlk x, pBlk x]) (valV z.v z.has) (memF e f em' n' cs' s' ++ [pBlk x, pBlk x])) : Tri Tryz.prog rbL (stF e f a b x y em n cs s) (to .normal (stF e f a y.w z x em' n' cs' s')) := by
  obtain ⟨zw, zv, zh⟩ := z
  simp only at hz
  subst hz
  exact Tri_run mixed rbV 7 [.tst true, .res (.bool true), .is 9 (.int .i64 (a + y.w)), .is 2 (.int .i64 zw), .tst true, .mem (valV zv zh) (memF e f em' n' cs' s' ++ [pBlk x, pBlk x])] (ts3 (tT hab) (NET (p := zw = x.w) hk) hc) (qs4 (atMost_qc x y hl) (congrArg (Value.int .i64) w1) (congrArg (Value.int .i64) w2) h) (by kernel_rfl)
theorem rbF_upS (hc : cs.all (noNew1 7) = true) (hab : IntKind.i64.wrap (b - a) > 2) (hl : (!lessA y x) = false) (w1 : IntKind.i64.wrap (x.w + b) = x.w + b) (w2 : IntKind.i64.wrap (x.w + b - y.w) = w) (hk : w = y.w) (hz : z = y) : Tri Tryz.prog rbL (stF e f a b x y em n cs s) (to .normal (stF e f x.w b y z em n cs s)) := by
  subst hk
  rw [hz]
  exact Tri_run mixed rbV 7 [.tst true, .res (.bool false), .is 9 (.int .i64 (x.w + b)), .is 2 (.int .i64 y.w), .tst false] (ts3 (tT hab) (NEF (p := y.w = y.w) rfl) hc) (qs3 (atMost_qc x y hl) (congrArg (Value.int .i64) w1) (congrArg (Value.int .i64) w2)) (by kernel_rfl)
theorem rbF_upA (hc : cs'.all (noNew1 7) = true) (hab : IntKind.i64.wrap (b - a) > 2) (hl : (!lessA y x) = false) (w1 : IntKind.i64.wrap (x.w + b) = x.w + b) (w2 : IntKind.i64.wrap (x.w + b - y.w) = w) (hk : ¬ w = y.w) (hz : z.w = w) (h : MC Tryz.prog 102 [ptr 3, .int .i64 w] (memF e f em n cs s ++ [pBlk y, pBlk y]) (valV z.v z.has) (memF e f em' n' cs' s' ++ [pBlk y, pBlk y])) : Tri Tryz.prog rbL (stF e f a b x y em n cs s) (to .normal (stF e f x.w b y z em' n' cs' s')) := by
  obtain ⟨zw, zv, zh⟩ := z
  simp only at hz
  subst hz
  exact Tri_run mixed rbV 7 [.tst true, .res (.bool false), .is 9 (.int .i64 (x.w + b)), .is 2 (.int .i64 zw), .tst true, .mem (valV zv zh) (memF e f em' n' cs' s' ++ [pBlk y, pBlk y])] (ts3 (tT hab) (NET (p := zw = y.w) hk) hc) (qs4 (atMost_qc x y hl) (congrArg (Value.int .i64) w1) (congrArg (Value.int .i64) w2) h) (by kernel_rfl)
theorem rbestF_some {x' y' : An} {em0 em1 : Bool} {n0 n1 : Nat} {cs0 cs1 : List Value} {s0 s1 : SS} (hc : cs'.all (noNew1 5) = true) (hx : x.w = 13) (hy : y.w = 21) (hs : s'.has = true) (h0 : MC Tryz.prog 102 [ptr 3, .int .i64 13] (memF e f em0 n0 cs0 s0) (valV x.v x.has) (memF e f em1 n1 cs1 s1)) (h1 : MC Tryz.prog 102 [ptr 3, .int .i64 21] (memF e f em1 n1 cs1 s1) (valV y.v y.has) (memF e f em n cs s))
    (hl : TriL Tryz.prog rbL (stF e f 0 34 x y em n cs s) (to (.exit 0) (enF e f x' y' em' n' cs' s'))) : MC Tryz.prog 70 [ptr 3] (memF e f em0 n0 cs0 s0) (.tuple #[.int .i64 s'.w, .int .i64 s'.v, .bool true]) (memF e f em' n' cs' s') := by
  obtain ⟨xw, xv, xh⟩ := x
  obtain ⟨yw, yv, yh⟩ := y
  obtain ⟨sw, sv, sh, se⟩ := s'
  simp only at hx hy hs
  subst hx hy hs
  exact MC.run5 mixed Tryz.func70 [.mem (valV xv xh) (memF e f em1 n1 cs1 s1), .mem (valV yv yh) (memF e f em n cs s), .cut rbV (.exit 0) (enF e f x' y' em' n' cs' ⟨sw, sv, true, se⟩)] (ts1 hc) (qs3 h0 h1 hl) rfl rfl enters_rbest (by kernel_rfl)
theorem rbestF_none {x' y' : An} {em0 em1 : Bool} {n0 n1 : Nat} {cs0 cs1 : List Value} {s0 s1 : SS} (hc : cs'.all (noNew1 5) = true) (hx : x.w = 13) (hy : y.w = 21) (hs : s'.has = false) (h0 : MC Tryz.prog 102 [ptr 3, .int .i64 13] (memF e f em0 n0 cs0 s0) (valV x.v x.has) (memF e f em1 n1 cs1 s1)) (h1 : MC Tryz.prog 102 [ptr 3, .int .i64 21] (memF e f em1 n1 cs1 s1) (valV y.v y.has) (memF e f em n cs s))
    (hl : TriL Tryz.prog rbL (stF e f 0 34 x y em n cs s) (to (.exit 0) (enF e f x' y' em' n' cs' s'))) : MC Tryz.prog 70 [ptr 3] (memF e f em0 n0 cs0 s0) (.tuple #[.int .i64 0, .int .i64 0, .bool false]) (memF e f em' n' cs' s') := by
  obtain ⟨xw, xv, xh⟩ := x
  obtain ⟨yw, yv, yh⟩ := y
  obtain ⟨sw, sv, sh, se⟩ := s'
  simp only at hx hy hs
  subst hx hy hs
  exact MC.run5 mixed Tryz.func70 [.mem (valV xv xh) (memF e f em1 n1 cs1 s1), .mem (valV yv yh) (memF e f em n cs s), .cut rbV (.exit 0) (enF e f x' y' em' n' cs' ⟨sw, sv, false, se⟩)] (ts1 hc) (qs3 h0 h1 hl) rfl rfl enters_rbest (by kernel_rfl)
def memLF (e f : El) (mk : Int → Mk) (L : List Int) : Mem := memF e f (empM mk L) L.length (L.map (Value.int .i64)) (foldS mk L)
theorem lowF (hc : cs.all flat1 = true) : ∀ B ∈ memF e f em n cs s, B.cells.all (low1 5) = true := by
  intro B hB
  simp only [memF, memR, List.mem_cons, List.not_mem_nil, or_false] at hB
  rcases hB with rfl | rfl | rfl | rfl | rfl
  · rfl
  · rfl
  · rfl
  · rfl
  · exact lows hc
theorem padKF {v : Value} (hc : cs.all flat1 = true) (hc' : cs'.all flat1 = true) (hv : lowV 5 v = true) (h : MC Tryz.prog 102 [ptr 3, .int .i64 w] (memF e f em n cs s) v (memF e f em' n' cs' s')) (x y : An) : MC Tryz.prog 102 [ptr 3, .int .i64 w] (memF e f em n cs s ++ [pBlk x, pBlk y]) v (memF e f em' n' cs' s' ++ [pBlk x, pBlk y]) :=
  h.pad [pBlk x, pBlk y] rfl rfl (lowF hc) (lowF hc') hv
end
def AsksF (e f : El) (mk : Int → Mk) : Prop := ∀ (L : List Int) (w : Int), 1 ≤ w → w ≤ 33 → L.length ≤ 40 → MC Tryz.prog 102 [ptr 3, .int .i64 w] (memLF e f mk L) (valV (mkA w (oM mk w)).v (mkA w (oM mk w)).has) (memLF e f mk (L ++ [w]))
section
variable {e f : El} {mk : Int → Mk}
theorem asksF (q1 : ∀ w, 1 ≤ w → w ≤ 33 → MC Tryz.prog 120 [e.val, f.val, .int .i64 w] [] (mk w).val []) (ok : ∀ w, 1 ≤ w → w ≤ 33 → (mk w).e.Ok) (hz : ∀ w, ¬ (mk w).n = 0 → (mk w).e.tr = 0) : AsksF e f mk := by
  intro L w h1 h2 hL
  have o := ok w h1 h2
  have em : (L ++ [w]).map (Value.int .i64) = L.map (Value.int .i64) ++ [.int .i64 w] := by simp
  have h := raskF (mk := mk) (s := foldS mk L) (em := empM mk L) rfl (room_ok hL) (by rw [← em]; exact ints_new 5 _) (q1 w h1 h2) (eTrace_qc (mk w).e.x (mk w).e.y o.a o.b o.d)
  unfold memLF
  rw [em, empM_snoc, foldS_snoc, List.length_append]
  have ev : valV (mkA w (oM mk w)).v (mkA w (oM mk w)).has = valV (mk w).e.tr (decide (((mk w).n : Int) = 0)) := by
    by_cases h0 : (mk w).n = 0
    · have : decide (((mk w).n : Int) = 0) = true := by rw [h0]; rfl
      rw [this, mkA_has (show (oM mk w).2 = true from this)]
      rfl
    · have : decide (((mk w).n : Int) = 0) = false := decide_eq_false (by omega)
      rw [this, hz w h0]
      unfold mkA
      rw [show (oM mk w).2 = false from this]
  rw [ev]
  exact h
theorem rloopF (h : AsksF e f mk) : ∀ (k : Nat) (a b : Int) (x y : An) (L : List Int), InvG k a b x y → L.length + k ≤ 8 →
    TriL Tryz.prog rbL (stF e f a b x y (empM mk L) L.length (L.map (Value.int .i64)) (foldS mk L))
      (to (.exit 0) (enF e f (srch (oM mk) k a b x y L).1 (srch (oM mk) k a b x y L).2.1 (empM mk (srch (oM mk) k a b x y L).2.2) (srch (oM mk) k a b x y L).2.2.length ((srch (oM mk) k a b x y L).2.2.map (Value.int .i64)) (foldS mk (srch (oM mk) k a b x y L).2.2)))
  | 0, a, b, x, y, L, i, _ => by
    have e1 := i.hb
    have e2 : fb (0 + 2) = 2 := rfl
    exact TriL_leave (rbF_end (ints_new 7 L) (by rw [wrapS (by have := i.lo; have := i.hi; omega)]; omega))
  | k + 1, a, b, x, y, L, i, hL => by
    have c1 := i.lo
    have c2 := i.hi
    have p1 := fb_pos (k + 1)
    have p2 := i.hx
    have p3 := i.hy
    unfold srch
    cases hl : lessA y x with
    | true =>
      obtain ⟨i', hw, h2, h3, h4, h5⟩ := i.up (oM mk)
      have i1 := i'.lo
      have i2 := i'.hi
      by_cases hk : x.w + b - y.w = y.w
      · have el : lOf y (x.w + b - y.w) L = L := if_pos hk
        refine TriL_again ?_ (rloopF h k _ _ _ _ _ i' (by rw [el]; omega))
        rw [el]
        exact rbF_upS (ints_new 7 L) (by rw [wrapS (by omega)]; omega) (by rw [hl]; rfl) (wrapS (by omega)) (wrapS (by omega)) hk (if_pos hk)
      · have el : lOf y (x.w + b - y.w) L = L ++ [x.w + b - y.w] := if_neg hk
        refine TriL_again ?_ (rloopF h k _ _ _ _ _ i' (by rw [el, List.length_append]; simp only [List.length_singleton]; omega))
        rw [el, show zOf (oM mk) y (x.w + b - y.w) = mkA (x.w + b - y.w) (oM mk (x.w + b - y.w)) from if_neg hk]
        exact rbF_upA (ints_new 7 _) (by rw [wrapS (by omega)]; omega) (by rw [hl]; rfl) (wrapS (by omega)) (wrapS (by omega)) hk (mkA_w _ _) (padKF (intsF _) (intsF _) rfl (h L _ hw.1 hw.2 (by omega)) y y)
    | false =>
      obtain ⟨i', hw, h2, h3, h4, h5⟩ := i.down (oM mk)
      have i1 := i'.lo
      have i2 := i'.hi
      by_cases hk : a + y.w - x.w = x.w
      · have el : lOf x (a + y.w - x.w) L = L := if_pos hk
        refine TriL_again ?_ (rloopF h k _ _ _ _ _ i' (by rw [el]; omega))
        rw [el]
        exact rbF_loS (ints_new 7 L) (by rw [wrapS (by omega)]; omega) (by rw [hl]; rfl) (wrapS (by omega)) (wrapS (by omega)) hk (if_pos hk)
      · have el : lOf x (a + y.w - x.w) L = L ++ [a + y.w - x.w] := if_neg hk
        refine TriL_again ?_ (rloopF h k _ _ _ _ _ i' (by rw [el, List.length_append]; simp only [List.length_singleton]; omega))
        rw [el, show zOf (oM mk) x (a + y.w - x.w) = mkA (a + y.w - x.w) (oM mk (a + y.w - x.w)) from if_neg hk]
        exact rbF_loA (ints_new 7 _) (by rw [wrapS (by omega)]; omega) (by rw [hl]; rfl) (wrapS (by omega)) (wrapS (by omega)) hk (mkA_w _ _) (padKF (intsF _) (intsF _) rfl (h L _ hw.1 hw.2 (by omega)) x x)
theorem rbestF (h : AsksF e f mk) : MC Tryz.prog 70 [ptr 3] (memLF e f mk []) (resS (foldS mk (gfin (oM mk)).2.2)) (memLF e f mk (gfin (oM mk)).2.2) := by
  have h0 := h [] 13 (by decide) (by decide) (by decide)
  have h1 := h [13] 21 (by decide) (by decide) (by decide)
  have hl := rloopF h 6 0 34 _ _ [13, 21] (InvG.start (oM mk)) (by decide)
  have hf := foldS_spec mk (gfin (oM mk)).2.2
  have ew := mkA_w 13 (oM mk 13)
  have ey := mkA_w 21 (oM mk 21)
  have hl' : TriL Tryz.prog rbL (stF e f 0 34 (mkA 13 (oM mk 13)) (mkA 21 (oM mk 21)) (empM mk [13, 21]) [13, 21].length ([13, 21].map (Value.int .i64)) (foldS mk [13, 21])) (to (.exit 0) (enF e f (gfin (oM mk)).1 (gfin (oM mk)).2.1 (empM mk (gfin (oM mk)).2.2) (gfin (oM mk)).2.2.length ((gfin (oM mk)).2.2.map (Value.int .i64)) (foldS mk (gfin (oM mk)).2.2))) := hl
  unfold memLF at h0 h1 ⊢
  generalize (gfin (oM mk)).2.2 = L at *
  generalize hs : foldS mk L = s at *
  cases hh : s.has with
  | true =>
    have := rbestF_some (ints_new 5 L) ew ey hh h0 h1 hl'
    unfold resS
    rw [hh]
    exact this
  | false =>
    have := rbestF_none (ints_new 5 L) ew ey hh h0 h1 hl'
    rw [hf.non hh] at this ⊢
    exact this
def mem0F (e f : El) : Mem := [eBlk e.cells, eBlk f.cells, eBlk (ellC 0 0 0 0 0), ⟨schC (ptr 1) nilP false (.slice none 0 0) .nil, schT, true⟩]
theorem rbest0F (h : AsksF e f mk) : MC Tryz.prog 70 [ptr 3] (mem0F e f) (resS (foldS mk (gfin (oM mk)).2.2)) (memLF e f mk (gfin (oM mk)).2.2) :=
  MC.born 3 5 0 rfl rfl rfl (rbestF h)
end
def stC (e : El) (p : Sp) (a b : Int) (x y : An) (em : Bool) (n : Nat) (cs : List Value) (s : SS) : St :=
  ⟨slots 67 [(0, ptr 3), (5, .int .i64 a), (6, .int .i64 b), (7, .int .i64 x.w), (8, .int .i64 y.w), (9, ptr 5), (10, ptr 6)], memC e p em n cs s ++ [pBlk x, pBlk y]⟩
def enC (e : El) (p : Sp) (x y : An) (em : Bool) (n : Nat) (cs : List Value) (s : SS) : St := ⟨slots 67 [(0, ptr 3)], memC e p em n cs s ++ [pBlk x, pBlk y]⟩
section
variable {e : El} {p : Sp} {em em' : Bool} {n n' : Nat} {cs cs' : List Value} {s s' : SS} {a b w : Int} {x y z : An}
theorem rbC_end (hc : cs.all (noNew1 7) = true) (hab : ¬ IntKind.i64.wrap (b - a) > 2) : Tri Tryz.prog rbL (stC e p a b x y em n cs s) (to (.exit 0) (enC e p x y em n cs s)) :=
  Tri_run mixed [0] 7 [.tst false] (ts2 (tF hab) hc) qs0 (by kernel_rfl)
theorem rbC_loS (hc : cs.all (noNew1 7) = true) (hab : IntKind.i64.wrap (b - a) > 2) (hl : (!lessA y x) = true) (w1 : IntKind.i64.wrap (a + y.w) = a + y.w) (w2 : IntKind.i64.wrap (a + y.w - x.w) = w) (hk : w = x.w) (hz : z = x) : Tri Tryz.prog rbL (stC e p a b x y em n cs s) (to .normal (stC e p a y.w z x em n cs s)) := by
  subst hk
  rw [hz]
  exact Tri_run mixed rbV 7 [.tst true, .res (.bool true), .is 9 (.int .i64 (a + y.w)), .is 2 (.int .i64 x.w), .tst false] (ts3 (tT hab) (NEF (p := x.w = x.w) rfl) hc) (qs3 (atMost_qc x y hl) (congrArg (Value.int .i64) w1) (congrArg (Value.int .i64) w2)) (by kernel_rfl)
theorem rbC_loA (hc : cs'.all (noNew1 7) = true) (hab : IntKind.i64.wrap (b - a) > 2) (hl : (!lessA y x) = true) (w1 : IntKind.i64.wrap (a + y.w) = a + y.w) (w2 : IntKind.i64.wrap (a + y.w - x.w) = w) (hk : ¬ w = x.w) (hz : z.w = w) (h : MC Tryz.prog 102 [ptr 3, .int .i64 w] (memC e p em n cs s ++ [pBlk x, pBlk x]) (valV z.v z.has) (memC e p em' n' cs' s' ++ [pBlk x, pBlk x])) : Tri Tryz.prog rbL (stC e p a b x y em n cs s) (to .normal (stC e p a y.w z x em' n' cs' s')) := by
  obtain ⟨zw, zv, zh⟩ := z
  simp only at hz
  subst hz
  exact Tri_run mixed rbV 7 [.tst true, .res (.bool true), .is 9 (.int .i64 (a + y.w)), .is 2 (.int .i64 zw), .tst true, .mem (valV zv zh) (memC e p em' n' cs' s' ++ [pBlk x, pBlk x])] (ts3 (tT hab) (NET (p := zw = x.w) hk) hc) (qs4 (atMost_qc x y hl) (congrArg (Value.int .i64) w1) (congrArg (Value.int .i64) w2) h) (by kernel_rfl)
theorem rbC_upS (hc : cs.all (noNew1 7) = true) (hab : IntKind.i64.wrap (b - a) > 2) (hl : (!lessA y x) = false) (w1 : IntKind.i64.wrap (x.w + b) = x.w + b) (w2 : IntKind.i64.wrap (x.w + b - y.w) = w) (hk : w = y.w) (hz : z = y) : Tri Tryz.prog rbL (stC e p a b x y em n cs s) (to .normal (stC e p x.w b y z em n cs s)) := by
  subst hk
  rw [hz]
  exact Tri_run mixed rbV 7 [.tst true, .res (.bool false), .is 9 (.int .i64 (x.w + b)), .is 2 (.int .i64 y.w), .tst false] (ts3 (tT hab) (NEF (p := y.w = y.w) rfl) hc) (qs3 (atMost_qc x y hl) (congrArg (Value.int .i64) w1) (congrArg (Value.int .i64) w2)) (by kernel_rfl)
theorem rbC_upA (hc : cs'.all (noNew1 7) = true) (hab : IntKind.i64.wrap (b - a) > 2) (hl : (!lessA y x) = false) (w1 : IntKind.i64.wrap (x.w + b) = x.w + b) (w2 : IntKind.i64.wrap (x.w + b - y.w) = w) (hk : ¬ w = y.w) (hz : z.w = w) (h : MC Tryz.prog 102 [ptr 3, .int .i64 w] (memC e p em n cs s ++ [pBlk y, pBlk y]) (valV z.v z.has) (memC e p em' n' cs' s' ++ [pBlk y, pBlk y])) : Tri Tryz.prog rbL (stC e p a b x y em n cs s) (to .normal (stC e p x.w b y z em' n' cs' s')) := by
  obtain ⟨zw, zv, zh⟩ := z
  simp only at hz
  subst hz
  exact Tri_run mixed rbV 7 [.tst true, .res (.bool false), .is 9 (.int .i64 (x.w + b)), .is 2 (.int .i64 zw), .tst true, .mem (valV zv zh) (memC e p em' n' cs' s' ++ [pBlk y, pBlk y])] (ts3 (tT hab) (NET (p := zw = y.w) hk) hc) (qs4 (atMost_qc x y hl) (congrArg (Value.int .i64) w1) (congrArg (Value.int .i64) w2) h) (by kernel_rfl)
theorem rbestC_some {x' y' : An} {em0 em1 : Bool} {n0 n1 : Nat} {cs0 cs1 : List Value} {s0 s1 : SS} (hc : cs'.all (noNew1 5) = true) (hx : x.w = 13) (hy : y.w = 21) (hs : s'.has = true) (h0 : MC Tryz.prog 102 [ptr 3, .int .i64 13] (memC e p em0 n0 cs0 s0) (valV x.v x.has) (memC e p em1 n1 cs1 s1)) (h1 : MC Tryz.prog 102 [ptr 3, .int .i64 21] (memC e p em1 n1 cs1 s1) (valV y.v y.has) (memC e p em n cs s))
    (hl : TriL Tryz.prog rbL (stC e p 0 34 x y em n cs s) (to (.exit 0) (enC e p x' y' em' n' cs' s'))) : MC Tryz.prog 70 [ptr 3] (memC e p em0 n0 cs0 s0) (.tuple #[.int .i64 s'.w, .int .i64 s'.v, .bool true]) (memC e p em' n' cs' s') := by
  obtain ⟨xw, xv, xh⟩ := x
  obtain ⟨yw, yv, yh⟩ := y
  obtain ⟨sw, sv, sh, se⟩ := s'
  simp only at hx hy hs
  subst hx hy hs
  exact MC.run5 mixed Tryz.func70 [.mem (valV xv xh) (memC e p em1 n1 cs1 s1), .mem (valV yv yh) (memC e p em n cs s), .cut rbV (.exit 0) (enC e p x' y' em' n' cs' ⟨sw, sv, true, se⟩)] (ts1 hc) (qs3 h0 h1 hl) rfl rfl enters_rbest (by kernel_rfl)
theorem rbestC_none {x' y' : An} {em0 em1 : Bool} {n0 n1 : Nat} {cs0 cs1 : List Value} {s0 s1 : SS} (hc : cs'.all (noNew1 5) = true) (hx : x.w = 13) (hy : y.w = 21) (hs : s'.has = false) (h0 : MC Tryz.prog 102 [ptr 3, .int .i64 13] (memC e p em0 n0 cs0 s0) (valV x.v x.has) (memC e p em1 n1 cs1 s1)) (h1 : MC Tryz.prog 102 [ptr 3, .int .i64 21] (memC e p em1 n1 cs1 s1) (valV y.v y.has) (memC e p em n cs s))
    (hl : TriL Tryz.prog rbL (stC e p 0 34 x y em n cs s) (to (.exit 0) (enC e p x' y' em' n' cs' s'))) : MC Tryz.prog 70 [ptr 3] (memC e p em0 n0 cs0 s0) (.tuple #[.int .i64 0, .int .i64 0, .bool false]) (memC e p em' n' cs' s') := by
  obtain ⟨xw, xv, xh⟩ := x
  obtain ⟨yw, yv, yh⟩ := y
  obtain ⟨sw, sv, sh, se⟩ := s'
  simp only at hx hy hs
  subst hx hy hs
  exact MC.run5 mixed Tryz.func70 [.mem (valV xv xh) (memC e p em1 n1 cs1 s1), .mem (valV yv yh) (memC e p em n cs s), .cut rbV (.exit 0) (enC e p x' y' em' n' cs' ⟨sw, sv, false, se⟩)] (ts1 hc) (qs3 h0 h1 hl) rfl rfl enters_rbest (by kernel_rfl)
def memLC (e : El) (p : Sp) (mk : Int → Mk) (L : List Int) : Mem := memC e p (empM mk L) L.length (L.map (Value.int .i64)) (foldS mk L)
theorem lowC (hc : cs.all flat1 = true) : ∀ B ∈ memC e p em n cs s, B.cells.all (low1 5) = true := by
  intro B hB
  simp only [memC, memR, List.mem_cons, List.not_mem_nil, or_false] at hB
  rcases hB with rfl | rfl | rfl | rfl | rfl
  · rfl
  · rfl
  · rfl
  · rfl
  · exact lows hc
theorem padKC {v : Value} (hc : cs.all flat1 = true) (hc' : cs'.all flat1 = true) (hv : lowV 5 v = true) (h : MC Tryz.prog 102 [ptr 3, .int .i64 w] (memC e p em n cs s) v (memC e p em' n' cs' s')) (x y : An) : MC Tryz.prog 102 [ptr 3, .int .i64 w] (memC e p em n cs s ++ [pBlk x, pBlk y]) v (memC e p em' n' cs' s' ++ [pBlk x, pBlk y]) :=
  h.pad [pBlk x, pBlk y] rfl rfl (lowC hc) (lowC hc') hv
end
def AsksC (e : El) (p : Sp) (mk : Int → Mk) : Prop := ∀ (L : List Int) (w : Int), 1 ≤ w → w ≤ 33 → L.length ≤ 40 → MC Tryz.prog 102 [ptr 3, .int .i64 w] (memLC e p mk L) (valV (mkA w (oM mk w)).v (mkA w (oM mk w)).has) (memLC e p mk (L ++ [w]))
section
variable {e : El} {p : Sp} {mk : Int → Mk}
theorem asksC (q1 : ∀ w, 1 ≤ w → w ≤ 33 → MC Tryz.prog 121 [e.val, p.val, .int .i64 w] [] (mk w).val []) (ok : ∀ w, 1 ≤ w → w ≤ 33 → (mk w).e.Ok) (hz : ∀ w, ¬ (mk w).n = 0 → (mk w).e.tr = 0) : AsksC e p mk := by
  intro L w h1 h2 hL
  have o := ok w h1 h2
  have em : (L ++ [w]).map (Value.int .i64) = L.map (Value.int .i64) ++ [.int .i64 w] := by simp
  have h := raskC (mk := mk) (s := foldS mk L) (em := empM mk L) rfl (room_ok hL) (by rw [← em]; exact ints_new 5 _) (q1 w h1 h2) (eTrace_qc (mk w).e.x (mk w).e.y o.a o.b o.d)
  unfold memLC
  rw [em, empM_snoc, foldS_snoc, List.length_append]
  have ev : valV (mkA w (oM mk w)).v (mkA w (oM mk w)).has = valV (mk w).e.tr (decide (((mk w).n : Int) = 0)) := by
    by_cases h0 : (mk w).n = 0
    · have : decide (((mk w).n : Int) = 0) = true := by rw [h0]; rfl
      rw [this, mkA_has (show (oM mk w).2 = true from this)]
      rfl
    · have : decide (((mk w).n : Int) = 0) = false := decide_eq_false (by omega)
      rw [this, hz w h0]
      unfold mkA
      rw [show (oM mk w).2 = false from this]
  rw [ev]
  exact h
theorem rloopC (h : AsksC e p mk) : ∀ (k : Nat) (a b : Int) (x y : An) (L : List Int), InvG k a b x y → L.length + k ≤ 8 →
    TriL Tryz.prog rbL (stC e p a b x y (empM mk L) L.length (L.map (Value.int .i64)) (foldS mk L))
      (to (.exit 0) (enC e p (srch (oM mk) k a b x y L).1 (srch (oM mk) k a b x y L).2.1 (empM mk (srch (oM mk) k a b x y L).2.2) (srch (oM mk) k a b x y L).2.2.length ((srch (oM mk) k a b x y L).2.2.map (Value.int .i64)) (foldS mk (srch (oM mk) k a b x y L).2.2)))
  | 0, a, b, x, y, L, i, _ => by
    have e1 := i.hb
    have e2 : fb (0 + 2) = 2 := rfl
    exact TriL_leave (rbC_end (ints_new 7 L) (by rw [wrapS (by have := i.lo; have := i.hi; omega)]; omega))
  | k + 1, a, b, x, y, L, i, hL => by
    have c1 := i.lo
    have c2 := i.hi
    have p1 := fb_pos (k + 1)
    have p2 := i.hx
    have p3 := i.hy
    unfold srch
    cases hl : lessA y x with
    | true =>
      obtain ⟨i', hw, h2, h3, h4, h5⟩ := i.up (oM mk)
      have i1 := i'.lo
      have i2 := i'.hi
      by_cases hk : x.w + b - y.w = y.w
      · have el : lOf y (x.w + b - y.w) L = L := if_pos hk
        refine TriL_again ?_ (rloopC h k _ _ _ _ _ i' (by rw [el]; omega))
        rw [el]
        exact rbC_upS (ints_new 7 L) (by rw [wrapS (by omega)]; omega) (by rw [hl]; rfl) (wrapS (by omega)) (wrapS (by omega)) hk (if_pos hk)
      · have el : lOf y (x.w + b - y.w) L = L ++ [x.w + b - y.w] := if_neg hk
        refine TriL_again ?_ (rloopC h k _ _ _ _ _ i' (by rw [el, List.length_append]; simp only [List.length_singleton]; omega))
        rw [el, show zOf (oM mk) y (x.w + b - y.w) = mkA (x.w + b - y.w) (oM mk (x.w + b - y.w)) from if_neg hk]
        exact rbC_upA (ints_new 7 _) (by rw [wrapS (by omega)]; omega) (by rw [hl]; rfl) (wrapS (by omega)) (wrapS (by omega)) hk (mkA_w _ _) (padKC (intsF _) (intsF _) rfl (h L _ hw.1 hw.2 (by omega)) y y)
    | false =>
      obtain ⟨i', hw, h2, h3, h4, h5⟩ := i.down (oM mk)
      have i1 := i'.lo
      have i2 := i'.hi
      by_cases hk : a + y.w - x.w = x.w
      · have el : lOf x (a + y.w - x.w) L = L := if_pos hk
        refine TriL_again ?_ (rloopC h k _ _ _ _ _ i' (by rw [el]; omega))
        rw [el]
        exact rbC_loS (ints_new 7 L) (by rw [wrapS (by omega)]; omega) (by rw [hl]; rfl) (wrapS (by omega)) (wrapS (by omega)) hk (if_pos hk)
      · have el : lOf x (a + y.w - x.w) L = L ++ [a + y.w - x.w] := if_neg hk
        refine TriL_again ?_ (rloopC h k _ _ _ _ _ i' (by rw [el, List.length_append]; simp only [List.length_singleton]; omega))
        rw [el, show zOf (oM mk) x (a + y.w - x.w) = mkA (a + y.w - x.w) (oM mk (a + y.w - x.w)) from if_neg hk]
        exact rbC_loA (ints_new 7 _) (by rw [wrapS (by omega)]; omega) (by rw [hl]; rfl) (wrapS (by omega)) (wrapS (by omega)) hk (mkA_w _ _) (padKC (intsF _) (intsF _) rfl (h L _ hw.1 hw.2 (by omega)) x x)
theorem rbestC (h : AsksC e p mk) : MC Tryz.prog 70 [ptr 3] (memLC e p mk []) (resS (foldS mk (gfin (oM mk)).2.2)) (memLC e p mk (gfin (oM mk)).2.2) := by
  have h0 := h [] 13 (by decide) (by decide) (by decide)
  have h1 := h [13] 21 (by decide) (by decide) (by decide)
  have hl := rloopC h 6 0 34 _ _ [13, 21] (InvG.start (oM mk)) (by decide)
  have hf := foldS_spec mk (gfin (oM mk)).2.2
  have ew := mkA_w 13 (oM mk 13)
  have ey := mkA_w 21 (oM mk 21)
  have hl' : TriL Tryz.prog rbL (stC e p 0 34 (mkA 13 (oM mk 13)) (mkA 21 (oM mk 21)) (empM mk [13, 21]) [13, 21].length ([13, 21].map (Value.int .i64)) (foldS mk [13, 21])) (to (.exit 0) (enC e p (gfin (oM mk)).1 (gfin (oM mk)).2.1 (empM mk (gfin (oM mk)).2.2) (gfin (oM mk)).2.2.length ((gfin (oM mk)).2.2.map (Value.int .i64)) (foldS mk (gfin (oM mk)).2.2))) := hl
  unfold memLC at h0 h1 ⊢
  generalize (gfin (oM mk)).2.2 = L at *
  generalize hs : foldS mk L = s at *
  cases hh : s.has with
  | true =>
    have := rbestC_some (ints_new 5 L) ew ey hh h0 h1 hl'
    unfold resS
    rw [hh]
    exact this
  | false =>
    have := rbestC_none (ints_new 5 L) ew ey hh h0 h1 hl'
    rw [hf.non hh] at this ⊢
    exact this
def mem0C (e : El) (p : Sp) : Mem := [eBlk e.cells, sBlk p.cells, eBlk (ellC 0 0 0 0 0), ⟨schC nilP (ptr 1) false (.slice none 0 0) .nil, schT, true⟩]
theorem rbest0C (h : AsksC e p mk) : MC Tryz.prog 70 [ptr 3] (mem0C e p) (resS (foldS mk (gfin (oM mk)).2.2)) (memLC e p mk (gfin (oM mk)).2.2) :=
  MC.born 3 5 0 rfl rfl rfl (rbestC h)
end
end Go.Proofs.YtaibhjphgdjcmaaGreat.R
/-! The reference's search: Fuse and Cut answer as the program's do. -/
namespace Go.Proofs.YtaibhjphgdjcmaaGreat.R
open Go Go.Ev Go.W32
open Go.Proofs.YtaibhjphgdjcmaaGreat.W (mixed ell ellT flat_ellT mayL mayS strV eBlk sBlk ellC El Mk Sp SS mkF mkC ptr empM foldS foldS_spec foldS_gfin oM gfin lesser smE smV gFuse gCut fuseV cutV fuseV_good cutV_good mkF_good mkC_good toMk flat_mk may_ok trI)

theorem tr_qr {e : El} (h : e.Ok) : QC Tryz.prog 58 [e.val] (.int .i64 e.tr) := eTrace_qc e.x e.y h.a h.b h.d
theorem may_qr {e : El} (h : e.Ok) {r : Bool} (hr : e.may = r) : QC Tryz.prog 26 [e.val] (.bool r) := eMay_qc e.x e.y h.a h.b h.d r hr
theorem mays_qr {p : Sp} {r : Bool} (hr : p.may = r) : QC Tryz.prog 71 [p.val] (.bool r) := eStrip_qc p.ox p.oy p.hx p.hy p.lo p.hi r hr
theorem enters_rFuse : ∀ us w, (callFunc 39 us).run Tryz.prog w = .ok (.enter 39 us) w := enters Tryz.func39 rfl (by kernel_rfl)
theorem enters_rCut : ∀ us w, (callFunc 40 us).run Tryz.prog w = .ok (.enter 40 us) w := enters Tryz.func40 rfl (by kernel_rfl)
theorem askF_val {e f : El} (he : e.Ok) (hf : f.Ok) : AsksF e f (mkF e f) := by
  refine asksF (fun w h1 h2 => ?_) (fun w _ _ => (fuseV_good _ _ _ _ _ _ _ _ _ _ w).mk.2.1) fun w hn => ?_
  · have h := eFuseAt_t (x := e.x) (y := e.y) (x' := f.x) (y' := f.y) (w := w) he.a he.b he.d hf.a hf.b hf.d
    have hv : fuseW e.x e.y e.a e.b e.d f.x f.y f.a f.b f.d w = fuseV e.x e.y e.a e.b e.d f.x f.y f.a f.b f.d w := by
      unfold fuseW fuseV
      rw [okW_iff.2 (by omega), Bool.and_true]
      cases mayL e.x e.y e.a e.b e.d <;> cases mayL f.x f.y f.a f.b f.d <;> rfl
    rw [hv, ← (fuseV_good e.x e.y e.a e.b e.d f.x f.y f.a f.b f.d w).mk.1] at h
    exact h
  · rcases mkF_good e f w with ⟨h, _⟩ | ⟨_, h⟩
    · exact absurd h hn
    · rw [h]; rfl
theorem askC_val {e : El} {p : Sp} (he : e.Ok) : AsksC e p (mkC e p) := by
  refine asksC (fun w h1 h2 => ?_) (fun w _ _ => (cutV_good _ _ _ _ _ _ _ _ _ _ _ w).mk.2.1) fun w hn => ?_
  · have h := eCutAt_t (x := e.x) (y := e.y) (ox := p.ox) (oy := p.oy) (hx := p.hx) (hy := p.hy) (lo := p.lo) (hi := p.hi) (w := w) he.a he.b he.d
    have hv : cutW e.x e.y e.a e.b e.d p.ox p.oy p.hx p.hy p.lo p.hi w = cutV e.x e.y e.a e.b e.d p.ox p.oy p.hx p.hy p.lo p.hi w := by
      unfold cutW cutV
      rw [okW_iff.2 (by omega), Bool.and_true]
      cases mayL e.x e.y e.a e.b e.d <;> cases mayS p.ox p.oy p.hx p.hy p.lo p.hi <;> rfl
    rw [hv, ← (cutV_good e.x e.y e.a e.b e.d p.ox p.oy p.hx p.hy p.lo p.hi w).mk.1] at h
    exact h
  · rcases mkC_good e p w with ⟨h, _⟩ | ⟨_, h⟩
    · exact absurd h hn
    · rw [h]; rfl
section
variable {e f : El} {p : Sp} {em : Bool} {n : Nat} {cs : List Value} {s : SS}
theorem rfuse_em (qe : QC Tryz.prog 26 [e.val] (.bool true)) (qf : QC Tryz.prog 26 [f.val] (.bool true)) (hb : MC Tryz.prog 70 [ptr 3] (mem0F e f) (resS s) (memF e f true n cs s)) :
    PC Tryz.prog 39 [e.val, f.val] (Mk.mk .zero 3).val :=
  PC.run mixed Tryz.func39 [.res (.bool true), .res (.bool true), .mem (resS s) (memF e f true n cs s)] rfl ts0 (qs3 qe qf hb) rfl rfl (by kernel_rfl)
theorem rfuse_non (qe : QC Tryz.prog 26 [e.val] (.bool true)) (qf : QC Tryz.prog 26 [f.val] (.bool true)) (hb : MC Tryz.prog 70 [ptr 3] (mem0F e f) (resS s) (memF e f false n cs s))
    (hs : s.has = false) (te : QC Tryz.prog 58 [e.val] (.int .i64 e.tr)) (tf : QC Tryz.prog 58 [f.val] (.int .i64 f.tr)) : PC Tryz.prog 39 [e.val, f.val] (Mk.mk (lesser e f) 0).val := by
  obtain ⟨sw, sv, sh, se⟩ := s
  simp only at hs
  subst hs
  by_cases h : f.tr < e.tr
  · rw [show lesser e f = f by unfold lesser; rw [decide_eq_true h]]
    exact PC.run mixed Tryz.func39 [.res (.bool true), .res (.bool true), .mem (resS ⟨sw, sv, false, se⟩) (memF e f false n cs ⟨sw, sv, false, se⟩), .res (.int .i64 f.tr), .res (.int .i64 e.tr), .tst true] rfl (ts1 (tT h)) (qs5 qe qf hb tf te) rfl rfl (by kernel_rfl)
  · rw [show lesser e f = e by unfold lesser; rw [decide_eq_false h]]
    exact PC.run mixed Tryz.func39 [.res (.bool true), .res (.bool true), .mem (resS ⟨sw, sv, false, se⟩) (memF e f false n cs ⟨sw, sv, false, se⟩), .res (.int .i64 f.tr), .res (.int .i64 e.tr), .tst false] rfl (ts1 (tF h)) (qs5 qe qf hb tf te) rfl rfl (by kernel_rfl)
theorem rfuse_has (qe : QC Tryz.prog 26 [e.val] (.bool true)) (qf : QC Tryz.prog 26 [f.val] (.bool true)) (hb : MC Tryz.prog 70 [ptr 3] (mem0F e f) (resS s) (memF e f false n cs s))
    (hs : s.has = true) (hv : s.v = s.e.tr) (te : QC Tryz.prog 58 [e.val] (.int .i64 e.tr)) (tf : QC Tryz.prog 58 [f.val] (.int .i64 f.tr)) (ts : QC Tryz.prog 58 [s.e.val] (.int .i64 s.e.tr)) :
    PC Tryz.prog 39 [e.val, f.val] (Mk.mk (lesser (lesser e s.e) f) 0).val := by
  obtain ⟨sw, sv, sh, se⟩ := s
  simp only at hs hv ts ⊢
  subst hs hv
  by_cases h : se.tr < e.tr
  · rw [show lesser e se = se by unfold lesser; rw [decide_eq_true h]]
    by_cases h' : f.tr < se.tr
    · rw [show lesser se f = f by unfold lesser; rw [decide_eq_true h']]
      exact PC.run mixed Tryz.func39 [.res (.bool true), .res (.bool true), .mem (resS ⟨sw, se.tr, true, se⟩) (memF e f false n cs ⟨sw, se.tr, true, se⟩), .res (.int .i64 e.tr), .tst true, .res (.int .i64 f.tr), .res (.int .i64 se.tr), .tst true] rfl (ts2 (tT h) (tT h')) (qs6 qe qf hb te tf ts) rfl rfl (by kernel_rfl)
    · rw [show lesser se f = se by unfold lesser; rw [decide_eq_false h']]
      exact PC.run mixed Tryz.func39 [.res (.bool true), .res (.bool true), .mem (resS ⟨sw, se.tr, true, se⟩) (memF e f false n cs ⟨sw, se.tr, true, se⟩), .res (.int .i64 e.tr), .tst true, .res (.int .i64 f.tr), .res (.int .i64 se.tr), .tst false] rfl (ts2 (tT h) (tF h')) (qs6 qe qf hb te tf ts) rfl rfl (by kernel_rfl)
  · rw [show lesser e se = e by unfold lesser; rw [decide_eq_false h]]
    by_cases h' : f.tr < e.tr
    · rw [show lesser e f = f by unfold lesser; rw [decide_eq_true h']]
      exact PC.run mixed Tryz.func39 [.res (.bool true), .res (.bool true), .mem (resS ⟨sw, se.tr, true, se⟩) (memF e f false n cs ⟨sw, se.tr, true, se⟩), .res (.int .i64 e.tr), .tst false, .res (.int .i64 f.tr), .res (.int .i64 e.tr), .tst true] rfl (ts2 (tF h) (tT h')) (qs6 qe qf hb te tf te) rfl rfl (by kernel_rfl)
    · rw [show lesser e f = e by unfold lesser; rw [decide_eq_false h']]
      exact PC.run mixed Tryz.func39 [.res (.bool true), .res (.bool true), .mem (resS ⟨sw, se.tr, true, se⟩) (memF e f false n cs ⟨sw, se.tr, true, se⟩), .res (.int .i64 e.tr), .tst false, .res (.int .i64 f.tr), .res (.int .i64 e.tr), .tst false] rfl (ts2 (tF h) (tF h')) (qs6 qe qf hb te tf te) rfl rfl (by kernel_rfl)
theorem rcut_em (qe : QC Tryz.prog 26 [e.val] (.bool true)) (qf : QC Tryz.prog 71 [p.val] (.bool true)) (hb : MC Tryz.prog 70 [ptr 3] (mem0C e p) (resS s) (memC e p true n cs s)) :
    PC Tryz.prog 40 [e.val, p.val] (Mk.mk .zero 3).val :=
  PC.run mixed Tryz.func40 [.res (.bool true), .res (.bool true), .mem (resS s) (memC e p true n cs s)] rfl ts0 (qs3 qe qf hb) rfl rfl (by kernel_rfl)
theorem rcut_non (qe : QC Tryz.prog 26 [e.val] (.bool true)) (qf : QC Tryz.prog 71 [p.val] (.bool true)) (hb : MC Tryz.prog 70 [ptr 3] (mem0C e p) (resS s) (memC e p false n cs s))
    (hs : s.has = false) : PC Tryz.prog 40 [e.val, p.val] (Mk.mk e 0).val := by
  obtain ⟨sw, sv, sh, se⟩ := s
  simp only at hs
  subst hs
  exact PC.run mixed Tryz.func40 [.res (.bool true), .res (.bool true), .mem (resS ⟨sw, sv, false, se⟩) (memC e p false n cs ⟨sw, sv, false, se⟩)] rfl ts0 (qs3 qe qf hb) rfl rfl (by kernel_rfl)
theorem rcut_has (qe : QC Tryz.prog 26 [e.val] (.bool true)) (qf : QC Tryz.prog 71 [p.val] (.bool true)) (hb : MC Tryz.prog 70 [ptr 3] (mem0C e p) (resS s) (memC e p false n cs s))
    (hs : s.has = true) (hv : s.v = s.e.tr) (te : QC Tryz.prog 58 [e.val] (.int .i64 e.tr)) : PC Tryz.prog 40 [e.val, p.val] (Mk.mk (lesser e s.e) 0).val := by
  obtain ⟨sw, sv, sh, se⟩ := s
  simp only at hs hv ⊢
  subst hs hv
  by_cases h : se.tr < e.tr
  · rw [show lesser e se = se by unfold lesser; rw [decide_eq_true h]]
    exact PC.run mixed Tryz.func40 [.res (.bool true), .res (.bool true), .mem (resS ⟨sw, se.tr, true, se⟩) (memC e p false n cs ⟨sw, se.tr, true, se⟩), .res (.int .i64 e.tr), .tst true] rfl (ts1 (tT h)) (qs4 qe qf hb te) rfl rfl (by kernel_rfl)
  · rw [show lesser e se = e by unfold lesser; rw [decide_eq_false h]]
    exact PC.run mixed Tryz.func40 [.res (.bool true), .res (.bool true), .mem (resS ⟨sw, se.tr, true, se⟩) (memC e p false n cs ⟨sw, se.tr, true, se⟩), .res (.int .i64 e.tr), .tst false] rfl (ts1 (tF h)) (qs4 qe qf hb te) rfl rfl (by kernel_rfl)
end
/-- What the fold and the search find. -/
theorem smE_fold (mk : Int → Mk) (e : El) : smE mk e = match (foldS mk (gfin (oM mk)).2.2).has with | true => lesser e (foldS mk (gfin (oM mk)).2.2).e | false => e := by
  rw [foldS_gfin]
  unfold smE
  cases (gfin (oM mk)).1.has <;> rfl
theorem rFuse_pc {e f : El} (he : e.Ok) (hf : f.Ok) : PC Tryz.prog 39 [e.val, f.val] (gFuse e f).val := by
  have hb := rbest0F (askF_val he hf)
  have hsp := foldS_spec (mkF e f) (gfin (oM (mkF e f))).2.2
  have hok : ∀ w, (mkF e f w).e.Ok := fun w => (fuseV_good _ _ _ _ _ _ _ _ _ _ w).mk.2.1
  unfold gFuse
  rw [smE_fold]
  unfold memLF at hb
  generalize foldS (mkF e f) (gfin (oM (mkF e f))).2.2 = s at *
  generalize (gfin (oM (mkF e f))).2.2 = L at *
  cases h1 : e.may with
  | false => exact PC.run mixed Tryz.func39 [.res (.bool false)] rfl ts0 (qs1 (may_qr he h1)) rfl rfl (by kernel_rfl)
  | true => cases h2 : f.may with
    | false => exact PC.run mixed Tryz.func39 [.res (.bool true), .res (.bool false)] rfl ts0 (qs2 (may_qr he h1) (may_qr hf h2)) rfl rfl (by kernel_rfl)
    | true =>
      simp only [Bool.and_self]
      cases hm : empM (mkF e f) L with
      | true =>
        rw [hm] at hb
        exact rfuse_em (may_qr he h1) (may_qr hf h2) hb
      | false =>
        rw [hm] at hb
        cases hh : s.has with
        | true =>
          obtain ⟨_, _, g3, g4⟩ := hsp.one hh
          exact rfuse_has (may_qr he h1) (may_qr hf h2) hb hh (by rw [g4]; exact g3) (tr_qr he) (tr_qr hf) (tr_qr (by rw [g4]; exact hok _))
        | false => exact rfuse_non (may_qr he h1) (may_qr hf h2) hb hh (tr_qr he) (tr_qr hf)
theorem rFuse_qc {e f : El} (he : e.Ok) (hf : f.Ok) (m : Mk) (h : gFuse e f = m) : QC Tryz.prog 39 [e.val, f.val] m.val := h ▸ QC.of_pc enters_rFuse (rFuse_pc he hf)
theorem rCut_pc {e : El} (p : Sp) (he : e.Ok) : PC Tryz.prog 40 [e.val, p.val] (gCut e p).val := by
  have hb := rbest0C (askC_val (p := p) he)
  have hsp := foldS_spec (mkC e p) (gfin (oM (mkC e p))).2.2
  unfold gCut smV
  rw [smE_fold]
  unfold memLC at hb
  generalize foldS (mkC e p) (gfin (oM (mkC e p))).2.2 = s at *
  generalize (gfin (oM (mkC e p))).2.2 = L at *
  cases h1 : e.may with
  | false => exact PC.run mixed Tryz.func40 [.res (.bool false)] rfl ts0 (qs1 (may_qr he h1)) rfl rfl (by kernel_rfl)
  | true => cases h2 : p.may with
    | false => exact PC.run mixed Tryz.func40 [.res (.bool true), .res (.bool false)] rfl ts0 (qs2 (may_qr he h1) (mays_qr h2)) rfl rfl (by kernel_rfl)
    | true =>
      simp only [Bool.and_self]
      cases hm : empM (mkC e p) L with
      | true =>
        rw [hm] at hb
        exact rcut_em (may_qr he h1) (mays_qr h2) hb
      | false =>
        rw [hm] at hb
        cases hh : s.has with
        | true =>
          obtain ⟨_, _, g3, g4⟩ := hsp.one hh
          exact rcut_has (may_qr he h1) (mays_qr h2) hb hh (by rw [g4]; exact g3) (tr_qr he)
        | false => exact rcut_non (may_qr he h1) (mays_qr h2) hb hh
theorem rCut_qc {e : El} (p : Sp) (he : e.Ok) (m : Mk) (h : gCut e p = m) : QC Tryz.prog 40 [e.val, p.val] m.val := h ▸ QC.of_pc enters_rCut (rCut_pc p he)
end Go.Proofs.YtaibhjphgdjcmaaGreat.R
