/-
  Package golden: what the search found, and smallest.
-/
import Derived.Test.YtaibhjphgdjcmaaGreatGold2
namespace Go.Proofs.YtaibhjphgdjcmaaGreat.W
open Go Go.Ev Go.Wide

/-! ### What the search found -/
structure Fnd (o : Int → Int × Bool) (x y : An) (L : List Int) : Prop where
  mx : x = mkA x.w (o x.w)
  my : y = mkA y.w (o y.w)
  xl : x.w ∈ L
  yl : y.w ∈ L
  rng : ∀ w ∈ L, 1 ≤ w ∧ w ≤ 33
  low : ∀ w ∈ L, (o w).2 = true → (x.has = true ∧ x.v ≤ (o w).1) ∨ (y.has = true ∧ y.v ≤ (o w).1)
  l13 : (13 : Int) ∈ L
  l21 : (21 : Int) ∈ L
theorem lessA_iff {g h : An} : lessA g h = true ↔ g.has = true ∧ (h.has = false ∨ g.v < h.v) := by
  unfold lessA
  cases g.has <;> cases h.has <;> simp
theorem mkA_has {w : Int} {p : Int × Bool} (h : p.2 = true) : mkA w p = ⟨w, p.1, true⟩ := by unfold mkA; rw [h]
theorem zOf_mk {o : Int → Int × Bool} {k : An} {w : Int} (hk : k = mkA k.w (o k.w)) : zOf o k w = mkA w (o w) := by
  unfold zOf
  split
  · rename_i h; rw [h]; exact hk
  · rfl
theorem lOf_mem {k : An} {w : Int} {L : List Int} (hk : k.w ∈ L) : w ∈ lOf k w L ∧ ∀ u ∈ L, u ∈ lOf k w L := by
  unfold lOf
  split
  · rename_i h; exact ⟨h ▸ hk, fun u hu => hu⟩
  · exact ⟨List.mem_append_right _ (List.mem_singleton.2 rfl), fun u hu => List.mem_append_left _ hu⟩
theorem lOf_sub {k : An} {w u : Int} {L : List Int} (h : u ∈ lOf k w L) : u ∈ L ∨ u = w := by
  unfold lOf at h
  split at h
  · exact .inl h
  · rcases List.mem_append.1 h with h | h
    · exact .inl h
    · exact .inr (List.mem_singleton.1 h)
theorem srch_fnd {o : Int → Int × Bool} : ∀ (k : Nat) (a b : Int) (x y : An) (L : List Int), InvG k a b x y → Fnd o x y L →
    Fnd o (srch o k a b x y L).1 (srch o k a b x y L).2.1 (srch o k a b x y L).2.2 ∧ (srch o k a b x y L).1 = (srch o k a b x y L).2.1
  | 0, a, b, x, y, L, i, f => by
    refine ⟨f, ?_⟩
    have e : x.w = y.w := by rw [i.hx, i.hy]; rfl
    show x = y
    rw [f.mx, f.my, e]
  | k + 1, a, b, x, y, L, i, f => by
    unfold srch
    cases hl : lessA y x with
    | true =>
      obtain ⟨i', hw, _⟩ := i.up o
      have hz := zOf_mk (w := x.w + b - y.w) f.my
      have hm := lOf_mem (w := x.w + b - y.w) f.yl
      obtain ⟨l1, l2⟩ := lessA_iff.1 hl
      refine srch_fnd k _ _ _ _ _ i' ⟨f.my, by rw [hz, mkA_w], hm.2 _ f.yl, by rw [zOf_w]; exact hm.1, fun w h => ?_, fun w h hp => ?_, hm.2 _ f.l13, hm.2 _ f.l21⟩
      · rcases lOf_sub h with h | rfl
        · exact f.rng w h
        · exact hw
      · rcases lOf_sub h with h | rfl
        · rcases f.low w h hp with g | g
          · refine .inl ⟨l1, ?_⟩
            rcases l2 with l2 | l2
            · rw [g.1] at l2; cases l2
            · omega
          · exact .inl g
        · rw [hz, mkA_has hp]
          exact .inr ⟨rfl, Int.le_refl _⟩
    | false =>
      obtain ⟨i', hw, _⟩ := i.down o
      have hz := zOf_mk (w := a + y.w - x.w) f.mx
      have hm := lOf_mem (w := a + y.w - x.w) f.xl
      have l1 : ¬ (y.has = true ∧ (x.has = false ∨ y.v < x.v)) := fun h => by rw [lessA_iff.2 h] at hl; cases hl
      refine srch_fnd k _ _ _ _ _ i' ⟨by rw [hz, mkA_w], f.mx, by rw [zOf_w]; exact hm.1, hm.2 _ f.xl, fun w h => ?_, fun w h hp => ?_, hm.2 _ f.l13, hm.2 _ f.l21⟩
      · rcases lOf_sub h with h | rfl
        · exact f.rng w h
        · exact hw
      · rcases lOf_sub h with h | rfl
        · rcases f.low w h hp with g | g
          · exact .inr g
          · refine .inr ?_
            cases hx : x.has with
            | false => exact absurd ⟨g.1, .inl hx⟩ l1
            | true => exact ⟨rfl, by have : ¬ y.v < x.v := fun h => l1 ⟨g.1, .inr h⟩; omega⟩
        · rw [hz, mkA_has hp]
          exact .inl ⟨rfl, Int.le_refl _⟩
structure Best (o : Int → Int × Bool) (x : An) (L : List Int) : Prop where
  mx : x = mkA x.w (o x.w)
  xl : x.w ∈ L
  rng : ∀ w ∈ L, 1 ≤ w ∧ w ≤ 33
  low : ∀ w ∈ L, (o w).2 = true → x.has = true ∧ x.v ≤ (o w).1
  l13 : (13 : Int) ∈ L
  l21 : (21 : Int) ∈ L
theorem gfin_best (o : Int → Int × Bool) : Best o (gfin o).1 (gfin o).2.2 := by
  have f0 : Fnd o (mkA 13 (o 13)) (mkA 21 (o 21)) [13, 21] := by
    refine ⟨by rw [mkA_w], by rw [mkA_w], by rw [mkA_w]; decide, by rw [mkA_w]; decide, by decide, fun w h hp => ?_, by decide, by decide⟩
    rcases List.mem_cons.1 h with rfl | h
    · rw [mkA_has hp]; exact .inl ⟨rfl, Int.le_refl _⟩
    · obtain rfl := List.mem_singleton.1 h
      rw [mkA_has hp]; exact .inr ⟨rfl, Int.le_refl _⟩
  obtain ⟨f, e⟩ := srch_fnd 6 0 34 _ _ _ (InvG.start o) f0
  refine ⟨f.mx, f.xl, f.rng, fun w h hp => ?_, f.l13, f.l21⟩
  rcases f.low w h hp with g | g
  · exact g
  · rw [← e] at g; exact g

/-! ### Ellipses by weight -/
structure El where
  x : Int
  y : Int
  a : Int
  b : Int
  d : Int
def El.val (e : El) : Value := ell e.x e.y e.a e.b e.d
def El.cells (e : El) : List Value := ellC e.x e.y e.a e.b e.d
def El.tr (e : El) : Int := trI e.x e.y e.a e.b e.d
def El.res (e : El) (n : Nat) : Value := ellT e.x e.y e.a e.b e.d n
structure El.Ok (e : El) : Prop where
  a : I64 e.a
  b : I64 e.b
  d : I64 e.d
def El.may (e : El) : Bool := mayL e.x e.y e.a e.b e.d
def El.zero : El := ⟨0, 0, 0, 0, 0⟩
theorem flat_el (e : El) : flat e.val = true := flat_ell _ _ _ _ _
theorem tr_qc {e : El} (h : e.Ok) : QC Tryz.prog 18 [e.val] (.int .i64 e.tr) := trace_qc e.x e.y h.a h.b h.d
def lesser (e f : El) : El := match decide (f.tr < e.tr) with | true => f | false => e
theorem enters_smaller : ∀ us w, (callFunc 98 us).run Tryz.prog w = .ok (.enter 98 us) w := enters Tryz.func98 rfl (by kernel_rfl)
theorem lesser_qc {e f : El} (he : e.Ok) (hf : f.Ok) : QC Tryz.prog 98 [e.val, f.val] (lesser e f).val := by
  refine QC.of_pc enters_smaller ?_
  unfold lesser
  cases hb : decide (f.tr < e.tr) with
  | true => exact PC.run mixed Tryz.func98 [.res (.int .i64 f.tr), .res (.int .i64 e.tr), .tst true] rfl (ts1 hb) (qs2 (tr_qc hf) (tr_qc he)) (flat_el _) rfl (by kernel_rfl)
  | false => exact PC.run mixed Tryz.func98 [.res (.int .i64 f.tr), .res (.int .i64 e.tr), .tst false] rfl (ts1 (b0 := !decide (f.tr < e.tr)) (by rw [hb]; rfl)) (qs2 (tr_qc hf) (tr_qc he)) (flat_el _) rfl (by kernel_rfl)
/-- What a weight makes. -/
structure Mk where
  e : El
  n : Nat
def Mk.val (m : Mk) : Value := m.e.res m.n
def oM (mk : Int → Mk) (w : Int) : Int × Bool := ((mk w).e.tr, decide (((mk w).n : Int) = 0))
def setE (C : List Value) (n : Nat) (e : El) : List Value := setL C (0 + n * 5) e.cells
def arrZ : List Value := List.replicate 170 (.int .i64 0)
def arrM (mk : Int → Mk) (L : List Int) : List Value := L.foldl (fun C w => setE C w.toNat (mk w).e) arrZ
def empM (mk : Int → Mk) (L : List Int) : Bool := L.foldl (fun c w => c || decide (((mk w).n : Int) = 3)) false
theorem arrM_snoc (mk : Int → Mk) (L : List Int) (w : Int) : arrM mk (L ++ [w]) = setE (arrM mk L) w.toNat (mk w).e := by unfold arrM; rw [List.foldl_append]; rfl
theorem empM_snoc (mk : Int → Mk) (L : List Int) (w : Int) : empM mk (L ++ [w]) = (empM mk L || decide (((mk w).n : Int) = 3)) := by unfold empM; rw [List.foldl_append]; rfl
theorem setE_len (C : List Value) (n : Nat) (e : El) : (setE C n e).length = C.length := setL_length _ _ _
theorem snoc_ind {P : List Int → Prop} (h0 : P []) (h1 : ∀ L w, P L → P (L ++ [w])) (L : List Int) : P L := by
  have : ∀ M : List Int, P M.reverse := fun M => by
    induction M with
    | nil => exact h0
    | cons w M ih => rw [List.reverse_cons]; exact h1 _ _ ih
  have h := this L.reverse
  rwa [List.reverse_reverse] at h
theorem arrM_len (mk : Int → Mk) (L : List Int) : (arrM mk L).length = 170 := by
  induction L using snoc_ind with
  | h0 => exact List.length_replicate
  | h1 L w ih => rw [arrM_snoc, setE_len, ih]
theorem setL_flat : ∀ (vs l : List Value) (off : Nat), l.all flat1 = true → vs.all flat1 = true → (setL l off vs).all flat1 = true
  | [], l, _, h, _ => h
  | v :: vs, l, off, h, hv => by
    simp only [List.all_cons, Bool.and_eq_true] at hv
    rw [setL]
    refine setL_flat vs _ _ (List.all_eq_true.2 fun x hx => ?_) hv.2
    rcases List.mem_or_eq_of_mem_set hx with h1 | h1
    · exact List.all_eq_true.1 h x h1
    · rw [h1]; exact hv.1
theorem arrM_flat (mk : Int → Mk) (L : List Int) : (arrM mk L).all flat1 = true := by
  induction L using snoc_ind with
  | h0 => exact List.all_eq_true.2 fun x hx => by rw [(List.mem_replicate.1 hx).2]; rfl
  | h1 L w ih => rw [arrM_snoc]; exact setL_flat _ _ _ ih rfl
theorem arrM_get (mk : Int → Mk) {L : List Int} {w : Int} (hr : ∀ u ∈ L, 1 ≤ u ∧ u ≤ 33) (hw : w ∈ L) : ((arrM mk L).drop (0 + w.toNat * 5)).take 5 = (mk w).e.cells := by
  have key : ∀ i, i < 5 → (arrM mk L)[0 + w.toNat * 5 + i]? = ((mk w).e.cells)[i]? := by
    intro i hi
    induction L using snoc_ind with
    | h0 => cases hw
    | h1 L u ih =>
      have hu := hr u (List.mem_append_right _ (List.mem_singleton.2 rfl))
      have hl := arrM_len mk L
      rw [arrM_snoc]
      unfold setE
      have hlen : ((mk u).e.cells).length = 5 := rfl
      have hww : 1 ≤ w ∧ w ≤ 33 := hr w hw
      rw [setL_get _ _ _ _ (by rw [hlen, hl]; omega)]
      by_cases huw : u = w
      · subst huw
        rw [if_pos (by rw [hlen]; omega)]
        congr 1
        omega
      · rw [if_neg (by rw [hlen]; omega)]
        refine ih (fun v hv => hr v (List.mem_append_left _ hv)) ?_
        rcases List.mem_append.1 hw with h | h
        · exact h
        · exact absurd (List.mem_singleton.1 h).symm huw
  refine List.ext_getElem? fun i => ?_
  rw [List.getElem?_take, List.getElem?_drop]
  by_cases hi : i < 5
  · rw [if_pos hi]; exact key i hi
  · rw [if_neg hi, List.getElem?_eq_none (by show 5 ≤ i; omega)]
/-! ### The closure -/
theorem enters_one : ∀ us w, (callFunc 114 us).run Tryz.prog w = .ok (.enter 114 us) w := enters Tryz.func114 rfl (by kernel_rfl)
section S
variable {B0 B1 : Blk} {E : List Value} {g : FuncId} {C : List Value}
theorem one_run {n : Nat} {m : Mk} (e : Bool) (h0 : B0.cells.all flat1 = true) (h1 : B1.cells.all flat1 = true) (hE : E.all flat1 = true) (hC : (setE C n m.e).all flat1 = true) (r0 : (0 : Int) ≤ (n : Int)) (r1 : (n : Int) < 34) (hlen : 0 + n * 5 + 5 ≤ C.length) (hm : m.e.Ok)
    (h : MC Tryz.prog g [.int .i64 (n : Int), ptr 0, ptr 1] (memS B0 B1 E g C e) m.val (memS B0 B1 E g C e)) :
    MC Tryz.prog 114 [.int .i64 (n : Int), ptr 3, ptr 5, ptr 6] (memS B0 B1 E g C e) (.tuple #[.int .i64 m.e.tr, .bool (decide ((m.n : Int) = 0))]) (memS B0 B1 E g (setE C n m.e) (e || decide ((m.n : Int) = 3))) := by
  have hr : (decide ((0 : Int) ≤ (n : Int)) && decide ((n : Int) < 34)) = true := by rw [decide_eq_true r0, decide_eq_true r1]; rfl
  cases e with
  | true => exact MC.run5 mixed Tryz.func114 [.mem m.val (memS B0 B1 E g C true), .res (.int .i64 m.e.tr)] (tsC hr <| tsC (tT hlen) <| ts4 (noNews (n := 7) h0) (noNews (n := 7) h1) (noNews (n := 7) hE) (noNews (n := 7) hC)) (qs2 h (tr_qc hm)) rfl rfl enters_one (by kernel_rfl)
  | false => exact MC.run5 mixed Tryz.func114 [.mem m.val (memS B0 B1 E g C false), .res (.int .i64 m.e.tr)] (tsC hr <| tsC (tT hlen) <| ts4 (noNews (n := 7) h0) (noNews (n := 7) h1) (noNews (n := 7) hE) (noNews (n := 7) hC)) (qs2 h (tr_qc hm)) rfl rfl enters_one (by kernel_rfl)
end S
end Go.Proofs.YtaibhjphgdjcmaaGreat.W
