/-
  Package info: products of several numbers, mixtures.
-/
import Derived.Test.YtljolfnpncjklaaGreatGrow
/-! Package info: products of several numbers. -/
namespace Go.Proofs.YtljolfnpncjklaaGreat.W
open Go Go.Ev Go.Wide

/-- The cells of a number of the program. -/
def wzC (z : Int) : List Value := wC z.natAbs (decide (z < 0))
theorem wzC_flat (z : Int) : (wzC z).all flat1 = true := by
  have h : ∀ N s, (wC N s).all flat1 = true := fun N s => by kernel_rfl
  exact h _ _
def wBlk (cs : List Value) : Blk := ⟨cs, 31, true⟩
def wSl (k n : Nat) : Value := .slice (some ⟨k, 0, none⟩) n n
theorem enters_prod : ∀ us w, (callFunc 95 us).run Tryz.prog w = .ok (.enter 95 us) w := enters Tryz.func95 rfl (by kernel_rfl)
theorem of1 : QC Tryz.prog 9 [.int .i64 1] (wz 1) := QC.of_pc enters_of (of_wz (by omega) (by omega))
theorem mul1 {k : Nat} {a : Int} (ha : Sm k a) (hk : k + 1 ≤ 1023 := by omega) : QC Tryz.prog 12 [wz 1, wz a] (wz a) := by
  have h := qmul (j := 1) (a := 1) (by unfold Sm; decide) ha (by omega)
  rw [Int.one_mul] at h
  exact h
theorem prod2_mc {i j : Nat} {a b : Int} (ha : Sm i a) (hb : Sm j b) (hk : i + j + 1 ≤ 1023 := by omega) : MC Tryz.prog 95 [wSl 0 2] [⟨wzC a ++ wzC b, 31, false⟩] (wz (a * b)) [⟨wzC a ++ wzC b, 31, false⟩] :=
  MC.run mixed Tryz.func95 [.res (wz 1), .res (wz a), .res (wz (a * b))] ts0 (qs3 of1 (mul1 ha (by omega)) (qmul ha hb (by omega))) rfl rfl enters_prod (by kernel_rfl)
theorem prod3_mc {i j k : Nat} {a b c : Int} (ha : Sm i a) (hb : Sm j b) (hc : Sm k c) (hk : i + j + k + 1 ≤ 1023 := by omega) : MC Tryz.prog 95 [wSl 0 3] [⟨wzC a ++ wzC b ++ wzC c, 31, false⟩] (wz (a * b * c)) [⟨wzC a ++ wzC b ++ wzC c, 31, false⟩] :=
  MC.run mixed Tryz.func95 [.res (wz 1), .res (wz a), .res (wz (a * b)), .res (wz (a * b * c))] ts0 (qs4 of1 (mul1 ha (by omega)) (qmul ha hb (by omega)) (qmul (ha.mul hb) hc (by omega))) rfl rfl enters_prod (by kernel_rfl)
theorem prod4_mc {i j k l : Nat} {a b c d : Int} (ha : Sm i a) (hb : Sm j b) (hc : Sm k c) (hd : Sm l d) (hk : i + j + k + l + 1 ≤ 1023 := by omega) : MC Tryz.prog 95 [wSl 0 4] [⟨wzC a ++ wzC b ++ wzC c ++ wzC d, 31, false⟩] (wz (a * b * c * d)) [⟨wzC a ++ wzC b ++ wzC c ++ wzC d, 31, false⟩] :=
  MC.run mixed Tryz.func95 [.res (wz 1), .res (wz a), .res (wz (a * b)), .res (wz (a * b * c)), .res (wz (a * b * c * d))] ts0 (qs5 of1 (mul1 ha (by omega)) (qmul ha hb (by omega)) (qmul (ha.mul hb) hc (by omega)) (qmul ((ha.mul hb).mul hc) hd (by omega))) rfl rfl enters_prod (by kernel_rfl)
theorem prod2_at {i j : Nat} {a b : Int} (ha : Sm i a) (hb : Sm j b) (M : Mem) (k : Nat) (hM : M[k]? = some (wBlk (wzC a ++ wzC b))) (hk : i + j + 1 ≤ 1023 := by omega) : MC Tryz.prog 95 [wSl k 2] M (wz (a * b)) M :=
  MC.at1 (prod2_mc ha hb hk) (by simp only [List.all_append, wzC_flat, Bool.and_self]) (flat_wz _) M k _ hM rfl
theorem prod3_at {i j k : Nat} {a b c : Int} (ha : Sm i a) (hb : Sm j b) (hc : Sm k c) (M : Mem) (p : Nat) (hM : M[p]? = some (wBlk (wzC a ++ wzC b ++ wzC c))) (hk : i + j + k + 1 ≤ 1023 := by omega) : MC Tryz.prog 95 [wSl p 3] M (wz (a * b * c)) M :=
  MC.at1 (prod3_mc ha hb hc hk) (by simp only [List.all_append, wzC_flat, Bool.and_self]) (flat_wz _) M p _ hM rfl
theorem prod4_at {i j k l : Nat} {a b c d : Int} (ha : Sm i a) (hb : Sm j b) (hc : Sm k c) (hd : Sm l d) (M : Mem) (p : Nat) (hM : M[p]? = some (wBlk (wzC a ++ wzC b ++ wzC c ++ wzC d))) (hk : i + j + k + l + 1 ≤ 1023 := by omega) : MC Tryz.prog 95 [wSl p 4] M (wz (a * b * c * d)) M :=
  MC.at1 (prod4_mc ha hb hc hd hk) (by simp only [List.all_append, wzC_flat, Bool.and_self]) (flat_wz _) M p _ hM rfl

/-! ### Inequalities, and their mixtures -/
def infoC (a b d u v z n : Int) : List Value := wzC a ++ wzC b ++ wzC d ++ wzC u ++ wzC v ++ wzC z ++ wzC n
def infoV (a b d u v z n : Int) : Value := .agg (infoC a b d u v z n).toArray
def infoT (a b d u v z n : Int) (e : Nat) : Value := .tuple #[infoV a b d u v z n, .int .i64 e]
theorem flat_infoV (a b d u v z n : Int) : flat (infoV a b d u v z n) = true := by
  show (infoC a b d u v z n).all flat1 = true
  simp only [infoC, List.all_append, wzC_flat, Bool.and_self]
theorem flat_infoT (a b d u v z n : Int) (e : Nat) : flat (infoT a b d u v z n e) = true := by
  have h := flat_infoV a b d u v z n
  simp only [flat] at h
  show (!false && [infoV a b d u v z n, .int .i64 e].all flat2) = true
  simp only [Bool.not_false, Bool.true_and, List.all_cons, List.all_nil, Bool.and_true, Bool.and_eq_true]
  exact ⟨h, rfl⟩
def iBlk (cs : List Value) : Blk := ⟨cs, 33, true⟩
def mixM (I J : List Value) (w w' : Int) : Mem := [iBlk I, iBlk J, iBlk (infoC 0 0 0 0 0 0 0), wBlk (wzC w), wBlk (wzC w')]
def mixI (w w' n n' x y : Int) : Int := x * w * n' + y * w' * n
theorem enters_mixed : ∀ us w, (callFunc 111 us).run Tryz.prog w = .ok (.enter 111 us) w := enters Tryz.func111 rfl (by kernel_rfl)
theorem mixed_mc (a b d u v z a' b' d' u' v' z' : Int) {n n' w w' x y : Int} (hx : Sm 120 x) (hy : Sm 120 y) (hn : Sm 120 n) (hn' : Sm 120 n') (hw : Sm 7 w) (hw' : Sm 7 w') :
    MC Tryz.prog 111 [wz x, wz y, ptr 3, ptr 1, ptr 4, ptr 0] (mixM (infoC a b d u v z n) (infoC a' b' d' u' v' z' n') w w') (wz (mixI w w' n n' x y)) (mixM (infoC a b d u v z n) (infoC a' b' d' u' v' z' n') w w') :=
  MC.run mixed Tryz.func111 [.rd (wz (x * w * n')), .rd (wz (y * w' * n)), .res (wz (mixI w w' n n' x y))] ts0
    (qs3 (prod3_at hx hw hn' (mixM (infoC a b d u v z n) (infoC a' b' d' u' v' z' n') w w' ++ [wBlk (wzC x), wBlk (wzC y), wBlk (wzC 0), wBlk (wzC x ++ wzC w ++ wzC n')]) 8 rfl)
      (prod3_at hy hw' hn (mixM (infoC a b d u v z n) (infoC a' b' d' u' v' z' n') w w' ++ [wBlk (wzC x), wBlk (wzC y), wBlk (wzC 0), wBlk (wzC x ++ wzC w ++ wzC n'), wBlk (wzC y ++ wzC w' ++ wzC n)]) 9 rfl)
      (show QC Tryz.prog 11 [wz (x * w * n'), wz (y * w' * n)] (wz (mixI w w' n n' x y)) from qadd ((hx.mul hw).mul hn') ((hy.mul hw').mul hn)))
    rfl rfl enters_mixed (by kernel_rfl)
theorem enters_mix : ∀ us w, (callFunc 89 us).run Tryz.prog w = .ok (.enter 89 us) w := enters Tryz.func89 rfl (by kernel_rfl)
theorem mix_run {a b d u v z n a' b' d' u' v' z' n' w w' : Int} (f0 : ¬ w < 0) (f1 : ¬ w > 34) (sw : Sm 7 w) (sw' : Sm 7 w') (o1 : QC Tryz.prog 9 [.int .i64 w] (wz w)) (o2 : QC Tryz.prog 9 [.int .i64 (IntKind.i64.wrap (34 - w))] (wz w'))
    (ha : Sm 120 a) (hb : Sm 120 b) (hd : Sm 120 d) (hu : Sm 120 u) (hv : Sm 120 v) (hz : Sm 120 z) (hn : Sm 120 n)
    (ha' : Sm 120 a') (hb' : Sm 120 b') (hd' : Sm 120 d') (hu' : Sm 120 u') (hv' : Sm 120 v') (hz' : Sm 120 z') (hn' : Sm 120 n') :
    PC Tryz.prog 89 [infoV a b d u v z n, infoV a' b' d' u' v' z' n', .int .i64 w]
      (infoT (mixI w w' n n' a a') (mixI w w' n n' b b') (mixI w w' n n' d d') (mixI w w' n n' u u') (mixI w w' n n' v v') (mixI w w' n n' z z') (34 * n * n') 0) :=
  PC.run mixed Tryz.func89 [.tst false, .tst false, .res (wz w), .res (wz w'), .rd (wz (mixI w w' n n' a a')), .rd (wz (mixI w w' n n' b b')), .rd (wz (mixI w w' n n' d d')), .rd (wz (mixI w w' n n' u u')), .rd (wz (mixI w w' n n' v v')), .rd (wz (mixI w w' n n' z z')), .res (wz 34), .rd (wz (34 * n * n'))]
    (by simp only [List.all_cons, List.all_nil, flat_infoV, Bool.true_and, Bool.and_true]; rfl) (ts2 (tF f0) (tF f1))
    (qs10 o1 o2 (mixed_mc a b d u v z a' b' d' u' v' z' ha ha' hn hn' sw sw') (mixed_mc a b d u v z a' b' d' u' v' z' hb hb' hn hn' sw sw') (mixed_mc a b d u v z a' b' d' u' v' z' hd hd' hn hn' sw sw') (mixed_mc a b d u v z a' b' d' u' v' z' hu hu' hn hn' sw sw') (mixed_mc a b d u v z a' b' d' u' v' z' hv hv' hn hn' sw sw') (mixed_mc a b d u v z a' b' d' u' v' z' hz hz' hn hn' sw sw') (QC.of_pc enters_of (of_wz (n := 34) (by omega) (by omega)))
      (prod3_at (i := 7) (by unfold Sm; decide) hn hn' (mixM (infoC a b d u v z n) (infoC a' b' d' u' v' z' n') w w' ++ [wBlk (wzC 34 ++ wzC n ++ wzC n')]) 5 rfl))
    (flat_infoT _ _ _ _ _ _ _ _) rfl (by kernel_rfl)
theorem mix_qc {a b d u v z n a' b' d' u' v' z' n' w : Int} (h0 : 0 ≤ w) (h1 : w ≤ 34) (ha : Sm 120 a) (hb : Sm 120 b) (hd : Sm 120 d) (hu : Sm 120 u) (hv : Sm 120 v) (hz : Sm 120 z) (hn : Sm 120 n)
    (ha' : Sm 120 a') (hb' : Sm 120 b') (hd' : Sm 120 d') (hu' : Sm 120 u') (hv' : Sm 120 v') (hz' : Sm 120 z') (hn' : Sm 120 n') :
    QC Tryz.prog 89 [infoV a b d u v z n, infoV a' b' d' u' v' z' n', .int .i64 w]
      (infoT (mixI w (34 - w) n n' a a') (mixI w (34 - w) n n' b b') (mixI w (34 - w) n n' d d') (mixI w (34 - w) n n' u u') (mixI w (34 - w) n n' v v') (mixI w (34 - w) n n' z z') (34 * n * n') 0) := by
  have e : IntKind.i64.wrap (34 - w) = 34 - w := i64_wrap (by omega) (by omega)
  have e7 : (2 : Nat) ^ 7 = 128 := by decide
  exact QC.of_pc enters_mix (mix_run (by omega) (by omega) (by unfold Sm; omega) (by unfold Sm; omega) (QC.of_pc enters_of (of_wz (by omega) (by omega))) (by rw [e]; exact QC.of_pc enters_of (of_wz (by omega) (by omega))) ha hb hd hu hv hz hn ha' hb' hd' hu' hv' hz' hn')
end Go.Proofs.YtljolfnpncjklaaGreat.W
