/-
  Package info: products of several numbers, mixtures.
-/
import Derived.Test.YtkfkfodaikpjoaaGrow
/-! Package info: products of several numbers. -/
namespace Go.Ev
section
variable {σ : List Nat} {m : Nat}
theorem fV0_flat {v : Value} (h : flat0 v = true) : fV0 σ m v = v := by
  unfold flat0 at h
  unfold fV0
  split at h
  · cases h
  · cases h
  · cases h
  · cases h
  · cases h
  · rename_i h1 _ _ _ _
    split
    · exact absurd rfl (h1 _)
    · rfl
theorem map_same {α : Type} {f : α → α} {p : α → Bool} (hf : ∀ a, p a = true → f a = a) : ∀ {l : List α}, l.all p = true → l.map f = l
  | [], _ => rfl
  | a :: l, h => by
    simp only [List.all_cons, Bool.and_eq_true] at h
    rw [List.map_cons, hf a h.1, map_same hf h.2]
theorem fV1_flat {v : Value} (h : flat1 v = true) : fV1 σ m v = v := by
  unfold flat1 at h
  unfold fV1
  split at h
  · cases h
  · cases h
  · cases h
  · cases h
  · simp only [Bool.and_eq_true] at h
    simp only [map_same (fun _ => fV0_flat) h.1, map_same (fun _ => fV0_flat) h.2, Array.toArray_toList]
  · rename_i h1 h2 _ _ h5
    split
    · exact absurd rfl (h1 _)
    · exact absurd rfl (h2 _ _ _)
    · exact absurd rfl (h5 _ _ _)
    · rfl
theorem fV2_flat {v : Value} (h : flat2 v = true) : fV2 σ m v = v := by
  unfold flat2 at h
  unfold fV2
  split at h
  · simp only [map_same (fun _ => fV1_flat) h, Array.toArray_toList]
  · rename_i h1
    split
    · exact absurd rfl (h1 _)
    · exact fV1_flat h
theorem fV_flat {v : Value} (h : flat v = true) : fV σ m v = v := by
  unfold flat at h
  unfold fV
  split at h
  · simp only [Bool.and_eq_true] at h
    simp only [map_same (fun _ => fV2_flat) h.2, Array.toArray_toList]
  · rename_i h1
    split
    · exact absurd rfl (h1 _)
    · exact fV2_flat h
theorem okV_flat {n : Nat} {v : Value} (h : flat v = true) : okV n v = true := by
  have k0 : ∀ v, flat0 v = true → noNew0 n v = true := fun v h => by
    cases v with
    | pointer a => cases a with | none => rfl | some a => cases h
    | _ => rfl
  have k1 : ∀ v, flat1 v = true → noNew1 n v = true := fun v h => by
    cases v with
    | pointer a => cases a with | none => rfl | some a => cases h
    | slice a l c => cases a with | none => rfl | some a => cases h
    | func f x y =>
      simp only [flat1, Bool.and_eq_true] at h
      simp only [noNew1, Bool.and_eq_true]
      exact ⟨List.all_eq_true.2 fun a ha => k0 a (List.all_eq_true.1 h.1 a ha), List.all_eq_true.2 fun a ha => k0 a (List.all_eq_true.1 h.2 a ha)⟩
    | _ => rfl
  have k2 : ∀ v, flat2 v = true → noNew2 n v = true := fun v h => by
    by_cases hc : ∃ cs, v = .agg cs
    · obtain ⟨cs, rfl⟩ := hc
      exact List.all_eq_true.2 fun a ha => k1 a (List.all_eq_true.1 h a ha)
    · have hne : ∀ cs, v ≠ .agg cs := fun cs e => hc ⟨cs, e⟩
      unfold flat2 at h
      unfold noNew2
      split at h
      · exact absurd rfl (hne _)
      · split
        · exact absurd rfl (hne _)
        · exact k1 v h
  by_cases hc : ∃ cs, v = .tuple cs
  · obtain ⟨cs, rfl⟩ := hc
    simp only [flat, Bool.and_eq_true] at h
    simp only [okV, noNew, Bool.and_eq_true, Bool.or_eq_true]
    exact ⟨.inr (List.all_eq_true.2 fun a ha => k2 a (List.all_eq_true.1 h.2 a ha)), h.1⟩
  · have hne : ∀ cs, v ≠ .tuple cs := fun cs e => hc ⟨cs, e⟩
    unfold flat at h
    unfold okV noNew
    split at h
    · exact absurd rfl (hne _)
    · rw [Bool.and_eq_true]
      constructor
      · split
        · exact absurd rfl (hne _)
        · exact k2 v h
      · split
        · exact absurd rfl (hne _)
        · rfl
/-- A contract on a slice of one block that is only read, in whatever memory holds the block at number k. -/
theorem MC.at1 {P : Program} {f : FuncId} {cs : List Value} {t : TypeId} {l c : Nat} {v : Value} (h : MC P f [.slice (some ⟨0, 0, none⟩) l c] [⟨cs, t, false⟩] v [⟨cs, t, false⟩]) (hcs : cs.all flat1 = true) (hv : flat v = true)
    (M : Mem) (k : Nat) (C : Blk) (hM : M[k]? = some C) (hC : C.cells = cs) : MC P f [.slice (some ⟨k, 0, none⟩) l c] M v M := by
  have := MC.frame (news := []) (mem := M) (σ := [k]) (by simpa using h) rfl (fun B hB => by simp at hB; subst hB; exact ⟨rfl, hcs⟩) (fun B hB => by cases hB)
    (fun i i' B hi hB => by
      cases i with
      | zero => simp at hi hB; subst hi hB; exact ⟨C, hM, hC⟩
      | succ i => simp at hi)
    (by simp [okV, noNew, noNew2, noNew1]) (fun i hi => by
      have : i = 0 := by simp at hi; omega
      subst this
      simp [refs, refs1]) (okV_flat hv)
  rw [fV_flat hv, List.append_nil] at this
  exact this
end
end Go.Ev
/-! An argument that is a struct of two structs of two integers and of two integers, opened. -/
namespace Go.Ev
open Go.ChangeShapes Go.WideShapes Go.ChangeAt Go.RowKit Go.Joins Go.Deep
section
variable {P : Program}
theorem array6 {α : Type} {cs : Array α} (h : cs.size = 6) : ∃ c0 c1 c2 c3 c4 c5, cs = #[c0, c1, c2, c3, c4, c5] := by
  obtain ⟨l⟩ := cs
  match l, h with
  | [c0, c1, c2, c3, c4, c5], _ => exact ⟨c0, c1, c2, c3, c4, c5, rfl⟩
theorem arg_strip {H : Type} {enc : TypeId × Value → H} {W : World} {base b0 : Nat} {spare : Nat → Bool} {held : Bool} {r : Reach} {t : TypeId} {f0 f1 f2 f3 g0 g1 k0 k1 : Field} {k : IntKind} {v : Value} {d : DataW H} {ps : List MemPlace} (hs : P.underlying t = some (.struct #[f0, f1, f2, f3])) (hC : P.cellsOf t = 6)
    (o0 : f0.offset = 0) (c0 : P.cellsOf f0.type = 2) (o1 : f1.offset = 2) (c1 : P.cellsOf f1.type = 2) (o2 : f2.offset = 4) (c2 : P.cellsOf f2.type = 1) (o3 : f3.offset = 5) (c3 : P.cellsOf f3.type = 1) (hp : P.underlying f0.type = some (.struct #[g0, g1])) (hone0 : Go.Deep.oneCellFields P #[g0, g1] = true) (hm : P.underlying f1.type = some (.struct #[k0, k1])) (hone1 : Go.Deep.oneCellFields P #[k0, k1] = true)
    (e0 : P.underlying g0.type = some (.int k)) (e1 : P.underlying g1.type = some (.int k)) (e2 : P.underlying k0.type = some (.int k)) (e3 : P.underlying k1.type = some (.int k)) (e4 : P.underlying f2.type = some (.int k)) (e5 : P.underlying f3.type = some (.int k)) (hv : Value.okWide P W r b0 t v) (hd : DataW.Trod enc P W base spare held t v d ps) :
    ∃ x y a b c e, v = .agg #[.int k x, .int k y, .int k a, .int k b, .int k c, .int k e] ∧ (Lit.int k x).wf = true ∧ (Lit.int k y).wf = true ∧ (Lit.int k a).wf = true ∧ (Lit.int k b).wf = true ∧ (Lit.int k c).wf = true ∧ (Lit.int k e).wf = true := by
  obtain ⟨cs, rfl, hsz⟩ := okWide_struct hs hv
  obtain ⟨v0, v1, v2, v3, v4, v5, rfl⟩ := array6 (hsz.trans hC)
  obtain ⟨fuel, hf⟩ := hd
  obtain ⟨y0, y1, y2, y3, n, hx, _, h0, h1, h2, h3⟩ := trod_struct4 hs hf
  have h0' : DataW.trod enc P W base spare held n f0.type [v0, v1] = some y0 := by simpa [Value.cells, o0, c0] using h0
  have h1' : DataW.trod enc P W base spare held n f1.type [v2, v3] = some y1 := by simpa [Value.cells, o1, c1] using h1
  have h2' : DataW.trod enc P W base spare held n f2.type [v4] = some y2 := by simpa [Value.cells, o2, c2] using h2
  have h3' : DataW.trod enc P W base spare held n f3.type [v5] = some y3 := by simpa [Value.cells, o3, c3] using h3
  obtain ⟨z0, z1, n2, _, _, i0, i1⟩ := trod_struct2 hp h0'
  obtain ⟨z2, z3, n3, _, _, i2, i3⟩ := trod_struct2 hm h1'
  obtain ⟨p0, q0⟩ := hone_of hone0 0 g0 rfl
  obtain ⟨p1, q1⟩ := hone_of hone0 1 g1 rfl
  obtain ⟨p2, q2⟩ := hone_of hone1 0 k0 rfl
  obtain ⟨p3, q3⟩ := hone_of hone1 1 k1 rfl
  have i0' : DataW.trod enc P W base spare held n2 g0.type [v0] = some z0 := by simpa [p0, q0] using i0
  have i1' : DataW.trod enc P W base spare held n2 g1.type [v1] = some z1 := by simpa [p1, q1] using i1
  have i2' : DataW.trod enc P W base spare held n3 k0.type [v2] = some z2 := by simpa [p2, q2] using i2
  have i3' : DataW.trod enc P W base spare held n3 k1.type [v3] = some z3 := by simpa [p3, q3] using i3
  obtain ⟨x, j0, _, w0⟩ := DataW.trod_int e0 i0'
  obtain ⟨y, j1, _, w1⟩ := DataW.trod_int e1 i1'
  obtain ⟨a, j2, _, w2⟩ := DataW.trod_int e2 i2'
  obtain ⟨b, j3, _, w3⟩ := DataW.trod_int e3 i3'
  obtain ⟨c, j4, _, w4⟩ := DataW.trod_int e4 h2'
  obtain ⟨e, j5, _, w5⟩ := DataW.trod_int e5 h3'
  cases j0; cases j1; cases j2; cases j3; cases j4; cases j5
  exact ⟨x, y, a, b, c, e, rfl, w0, w1, w2, w3, w4, w5⟩
end
end Go.Ev
namespace Go.Proofs.Ytkfkfodaikpjoaa.W
open Go Go.Ev Go.Wide

/-- The cells of a number of the program. -/
def wzC (z : Int) : List Value := wC z.natAbs (decide (z < 0))
theorem wzC_flat (z : Int) : (wzC z).all flat1 = true := by
  have h : ∀ N s, (wC N s).all flat1 = true := fun N s => by kernel_rfl
  exact h _ _
def wBlk (cs : List Value) : Blk := ⟨cs, 43, true⟩
def wSl (k n : Nat) : Value := .slice (some ⟨k, 0, none⟩) n n
theorem enters_prod : ∀ us w, (callFunc 36 us).run Try.prog w = .ok (.enter 36 us) w := enters Try.func36 rfl (by kernel_rfl)
theorem of1 : QC Try.prog 31 [.int .i64 1] (wz 1) := QC.of_pc enters_of (of_wz (by omega) (by omega))
theorem mul1 {k : Nat} {a : Int} (ha : Sm k a) (hk : k + 1 ≤ 1023 := by omega) : QC Try.prog 33 [wz 1, wz a] (wz a) := by
  have h := qmul (j := 1) (a := 1) (by unfold Sm; decide) ha (by omega)
  rw [Int.one_mul] at h
  exact h
theorem prod2_mc {i j : Nat} {a b : Int} (ha : Sm i a) (hb : Sm j b) (hk : i + j + 1 ≤ 1023 := by omega) : MC Try.prog 36 [wSl 0 2] [⟨wzC a ++ wzC b, 43, false⟩] (wz (a * b)) [⟨wzC a ++ wzC b, 43, false⟩] :=
  MC.run mixed Try.func36 [.res (wz 1), .res (wz a), .res (wz (a * b))] ts0 (qs3 of1 (mul1 ha (by omega)) (qmul ha hb (by omega))) rfl rfl enters_prod (by kernel_rfl)
theorem prod3_mc {i j k : Nat} {a b c : Int} (ha : Sm i a) (hb : Sm j b) (hc : Sm k c) (hk : i + j + k + 1 ≤ 1023 := by omega) : MC Try.prog 36 [wSl 0 3] [⟨wzC a ++ wzC b ++ wzC c, 43, false⟩] (wz (a * b * c)) [⟨wzC a ++ wzC b ++ wzC c, 43, false⟩] :=
  MC.run mixed Try.func36 [.res (wz 1), .res (wz a), .res (wz (a * b)), .res (wz (a * b * c))] ts0 (qs4 of1 (mul1 ha (by omega)) (qmul ha hb (by omega)) (qmul (ha.mul hb) hc (by omega))) rfl rfl enters_prod (by kernel_rfl)
theorem prod4_mc {i j k l : Nat} {a b c d : Int} (ha : Sm i a) (hb : Sm j b) (hc : Sm k c) (hd : Sm l d) (hk : i + j + k + l + 1 ≤ 1023 := by omega) : MC Try.prog 36 [wSl 0 4] [⟨wzC a ++ wzC b ++ wzC c ++ wzC d, 43, false⟩] (wz (a * b * c * d)) [⟨wzC a ++ wzC b ++ wzC c ++ wzC d, 43, false⟩] :=
  MC.run mixed Try.func36 [.res (wz 1), .res (wz a), .res (wz (a * b)), .res (wz (a * b * c)), .res (wz (a * b * c * d))] ts0 (qs5 of1 (mul1 ha (by omega)) (qmul ha hb (by omega)) (qmul (ha.mul hb) hc (by omega)) (qmul ((ha.mul hb).mul hc) hd (by omega))) rfl rfl enters_prod (by kernel_rfl)
theorem prod2_at {i j : Nat} {a b : Int} (ha : Sm i a) (hb : Sm j b) (M : Mem) (k : Nat) (hM : M[k]? = some (wBlk (wzC a ++ wzC b))) (hk : i + j + 1 ≤ 1023 := by omega) : MC Try.prog 36 [wSl k 2] M (wz (a * b)) M :=
  MC.at1 (prod2_mc ha hb hk) (by simp only [List.all_append, wzC_flat, Bool.and_self]) (flat_wz _) M k _ hM rfl
theorem prod3_at {i j k : Nat} {a b c : Int} (ha : Sm i a) (hb : Sm j b) (hc : Sm k c) (M : Mem) (p : Nat) (hM : M[p]? = some (wBlk (wzC a ++ wzC b ++ wzC c))) (hk : i + j + k + 1 ≤ 1023 := by omega) : MC Try.prog 36 [wSl p 3] M (wz (a * b * c)) M :=
  MC.at1 (prod3_mc ha hb hc hk) (by simp only [List.all_append, wzC_flat, Bool.and_self]) (flat_wz _) M p _ hM rfl
theorem prod4_at {i j k l : Nat} {a b c d : Int} (ha : Sm i a) (hb : Sm j b) (hc : Sm k c) (hd : Sm l d) (M : Mem) (p : Nat) (hM : M[p]? = some (wBlk (wzC a ++ wzC b ++ wzC c ++ wzC d))) (hk : i + j + k + l + 1 ≤ 1023 := by omega) : MC Try.prog 36 [wSl p 4] M (wz (a * b * c * d)) M :=
  MC.at1 (prod4_mc ha hb hc hd hk) (by simp only [List.all_append, wzC_flat, Bool.and_self]) (flat_wz _) M p _ hM rfl

/-! ### Inequalities, and their mixtures -/
def infoC (a b d u v z n : Int) : List Value := wzC a ++ wzC b ++ wzC d ++ wzC u ++ wzC v ++ wzC z ++ wzC n
def infoV (a b d u v z n : Int) : Value := .agg (infoC a b d u v z n).toArray
def infoT (a b d u v z n : Int) (e : Nat) : Value := .tuple #[infoV a b d u v z n, .int .i64 e]
theorem flat_infoV (a b d u v z n : Int) : flat (infoV a b d u v z n) = true := by
  show (infoC a b d u v z n).all flat1 = true
  simp only [infoC, List.all_append, wzC_flat, Bool.and_self]
theorem flat_infoT (a b d u v z n : Int) (e : Nat) : flat (infoT a b d u v z n e) = true := by
  have h := flat_infoV a b d u v z n
  simp only [flat] at h
  show (!false && [infoV a b d u v z n, .int .i64 e].all flat2) = true
  simp only [Bool.not_false, Bool.true_and, List.all_cons, List.all_nil, Bool.and_true, Bool.and_eq_true]
  exact ⟨h, rfl⟩
def iBlk (cs : List Value) : Blk := ⟨cs, 45, true⟩
def mixM (I J : List Value) (w w' : Int) : Mem := [iBlk I, iBlk J, iBlk (infoC 0 0 0 0 0 0 0), wBlk (wzC w), wBlk (wzC w')]
def mixI (w w' n n' x y : Int) : Int := x * w * n' + y * w' * n
theorem enters_mixed : ∀ us w, (callFunc 35 us).run Try.prog w = .ok (.enter 35 us) w := enters Try.func35 rfl (by kernel_rfl)
theorem mixed_mc (a b d u v z a' b' d' u' v' z' : Int) {n n' w w' x y : Int} (hx : Sm 120 x) (hy : Sm 120 y) (hn : Sm 120 n) (hn' : Sm 120 n') (hw : Sm 7 w) (hw' : Sm 7 w') :
    MC Try.prog 35 [wz x, wz y, ptr 3, ptr 1, ptr 4, ptr 0] (mixM (infoC a b d u v z n) (infoC a' b' d' u' v' z' n') w w') (wz (mixI w w' n n' x y)) (mixM (infoC a b d u v z n) (infoC a' b' d' u' v' z' n') w w') :=
  MC.run mixed Try.func35 [.rd (wz (x * w * n')), .rd (wz (y * w' * n)), .res (wz (mixI w w' n n' x y))] ts0
    (qs3 (prod3_at hx hw hn' (mixM (infoC a b d u v z n) (infoC a' b' d' u' v' z' n') w w' ++ [wBlk (wzC x), wBlk (wzC y), wBlk (wzC 0), wBlk (wzC x ++ wzC w ++ wzC n')]) 8 rfl)
      (prod3_at hy hw' hn (mixM (infoC a b d u v z n) (infoC a' b' d' u' v' z' n') w w' ++ [wBlk (wzC x), wBlk (wzC y), wBlk (wzC 0), wBlk (wzC x ++ wzC w ++ wzC n'), wBlk (wzC y ++ wzC w' ++ wzC n)]) 9 rfl)
      (show QC Try.prog 32 [wz (x * w * n'), wz (y * w' * n)] (wz (mixI w w' n n' x y)) from qadd ((hx.mul hw).mul hn') ((hy.mul hw').mul hn)))
    rfl rfl enters_mixed (by kernel_rfl)
theorem enters_mix : ∀ us w, (callFunc 16 us).run Try.prog w = .ok (.enter 16 us) w := enters Try.func16 rfl (by kernel_rfl)
theorem mix_run {a b d u v z n a' b' d' u' v' z' n' w w' : Int} (f0 : ¬ w < 0) (f1 : ¬ w > 34) (sw : Sm 7 w) (sw' : Sm 7 w') (o1 : QC Try.prog 31 [.int .i64 w] (wz w)) (o2 : QC Try.prog 31 [.int .i64 (IntKind.i64.wrap (34 - w))] (wz w'))
    (ha : Sm 120 a) (hb : Sm 120 b) (hd : Sm 120 d) (hu : Sm 120 u) (hv : Sm 120 v) (hz : Sm 120 z) (hn : Sm 120 n)
    (ha' : Sm 120 a') (hb' : Sm 120 b') (hd' : Sm 120 d') (hu' : Sm 120 u') (hv' : Sm 120 v') (hz' : Sm 120 z') (hn' : Sm 120 n') :
    PC Try.prog 16 [infoV a b d u v z n, infoV a' b' d' u' v' z' n', .int .i64 w]
      (infoT (mixI w w' n n' a a') (mixI w w' n n' b b') (mixI w w' n n' d d') (mixI w w' n n' u u') (mixI w w' n n' v v') (mixI w w' n n' z z') (34 * n * n') 0) :=
  PC.run mixed Try.func16 [.tst false, .tst false, .res (wz w), .res (wz w'), .rd (wz (mixI w w' n n' a a')), .rd (wz (mixI w w' n n' b b')), .rd (wz (mixI w w' n n' d d')), .rd (wz (mixI w w' n n' u u')), .rd (wz (mixI w w' n n' v v')), .rd (wz (mixI w w' n n' z z')), .res (wz 34), .rd (wz (34 * n * n'))]
    (by simp only [List.all_cons, List.all_nil, flat_infoV, Bool.true_and, Bool.and_true]; rfl) (ts2 (tF f0) (tF f1))
    (qs10 o1 o2 (mixed_mc a b d u v z a' b' d' u' v' z' ha ha' hn hn' sw sw') (mixed_mc a b d u v z a' b' d' u' v' z' hb hb' hn hn' sw sw') (mixed_mc a b d u v z a' b' d' u' v' z' hd hd' hn hn' sw sw') (mixed_mc a b d u v z a' b' d' u' v' z' hu hu' hn hn' sw sw') (mixed_mc a b d u v z a' b' d' u' v' z' hv hv' hn hn' sw sw') (mixed_mc a b d u v z a' b' d' u' v' z' hz hz' hn hn' sw sw') (QC.of_pc enters_of (of_wz (n := 34) (by omega) (by omega)))
      (prod3_at (i := 7) (by unfold Sm; decide) hn hn' (mixM (infoC a b d u v z n) (infoC a' b' d' u' v' z' n') w w' ++ [wBlk (wzC 34 ++ wzC n ++ wzC n')]) 5 rfl))
    (flat_infoT _ _ _ _ _ _ _ _) rfl (by kernel_rfl)
theorem mix_qc {a b d u v z n a' b' d' u' v' z' n' w : Int} (h0 : 0 ≤ w) (h1 : w ≤ 34) (ha : Sm 120 a) (hb : Sm 120 b) (hd : Sm 120 d) (hu : Sm 120 u) (hv : Sm 120 v) (hz : Sm 120 z) (hn : Sm 120 n)
    (ha' : Sm 120 a') (hb' : Sm 120 b') (hd' : Sm 120 d') (hu' : Sm 120 u') (hv' : Sm 120 v') (hz' : Sm 120 z') (hn' : Sm 120 n') :
    QC Try.prog 16 [infoV a b d u v z n, infoV a' b' d' u' v' z' n', .int .i64 w]
      (infoT (mixI w (34 - w) n n' a a') (mixI w (34 - w) n n' b b') (mixI w (34 - w) n n' d d') (mixI w (34 - w) n n' u u') (mixI w (34 - w) n n' v v') (mixI w (34 - w) n n' z z') (34 * n * n') 0) := by
  have e : IntKind.i64.wrap (34 - w) = 34 - w := i64_wrap (by omega) (by omega)
  have e7 : (2 : Nat) ^ 7 = 128 := by decide
  exact QC.of_pc enters_mix (mix_run (by omega) (by omega) (by unfold Sm; omega) (by unfold Sm; omega) (QC.of_pc enters_of (of_wz (by omega) (by omega))) (by rw [e]; exact QC.of_pc enters_of (of_wz (by omega) (by omega))) ha hb hd hu hv hz hn ha' hb' hd' hu' hv' hz' hn')
end Go.Proofs.Ytkfkfodaikpjoaa.W
