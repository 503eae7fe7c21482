/-
  Package info: Fuse, Cut, In; awake.
-/
import Derived.Test.YtljolfnpncjklaaGreatInfo4
/-! Package info: Fuse, Cut. -/
namespace Go.Proofs.YtljolfnpncjklaaGreat.W
open Go Go.Ev Go.Wide

theorem enters_or : ∀ us w, (callFunc 54 us).run Tryz.prog w = .ok (.enter 54 us) w := enters Tryz.func54 rfl (by kernel_rfl)
def errC (e f : Nat) : List Value := [.int .i64 e, .int .i64 f]
theorem or00 : MC Tryz.prog 54 [wSl 0 2] [⟨errC 0 0, 50, false⟩] (.int .i64 0) [⟨errC 0 0, 50, false⟩] := MC.run mixed Tryz.func54 [] ts0 qs0 rfl rfl enters_or (by kernel_rfl)
theorem or01 : MC Tryz.prog 54 [wSl 0 2] [⟨errC 0 1, 50, false⟩] (.int .i64 1) [⟨errC 0 1, 50, false⟩] := MC.run mixed Tryz.func54 [] ts0 qs0 rfl rfl enters_or (by kernel_rfl)
theorem or10 : MC Tryz.prog 54 [wSl 0 2] [⟨errC 1 0, 50, false⟩] (.int .i64 1) [⟨errC 1 0, 50, false⟩] := MC.run mixed Tryz.func54 [] ts0 qs0 rfl rfl enters_or (by kernel_rfl)
theorem or11 : MC Tryz.prog 54 [wSl 0 2] [⟨errC 1 1, 50, false⟩] (.int .i64 1) [⟨errC 1 1, 50, false⟩] := MC.run mixed Tryz.func54 [] ts0 qs0 rfl rfl enters_or (by kernel_rfl)
def ellC (x y a b d : Int) : List Value := [.int .i64 x, .int .i64 y, .int .i64 a, .int .i64 b, .int .i64 d]
def eBlk (cs : List Value) : Blk := ⟨cs, 49, true⟩
def Inq.cells (i : Inq) : List Value := infoC i.a i.b i.d i.u i.v i.z i.n
def fuM (C D : Blk) (i j : Inq) (e f : Nat) : Mem := [C, D, eBlk (ellC 0 0 0 0 0), iBlk i.cells, iBlk j.cells, ⟨errC e f, 50, true⟩]
theorem or_at {e f : Nat} {r : Value} (h : MC Tryz.prog 54 [wSl 0 2] [⟨errC e f, 50, false⟩] r [⟨errC e f, 50, false⟩]) (hr : flat r = true) (C D : Blk) (i j : Inq) : MC Tryz.prog 54 [wSl 5 2] (fuM C D i j e f) r (fuM C D i j e f) :=
  MC.at1 h rfl hr _ 5 _ rfl rfl
theorem enters_fuse : ∀ us w, (callFunc 19 us).run Tryz.prog w = .ok (.enter 19 us) w := enters Tryz.func19 rfl (by kernel_rfl)
theorem fuse_run {x y a b d x' y' a' b' d' w X Y A B D : Int} {e : Nat} {i j : Inq} (q1 : QC Tryz.prog 53 [ell x y a b d] (i.res 0)) (q2 : QC Tryz.prog 53 [ell x' y' a' b' d'] (j.res 0)) (q3 : QC Tryz.prog 55 [i.val, j.val, .int .i64 w] (ellT X Y A B D e)) :
    PC Tryz.prog 19 [ell x y a b d, ell x' y' a' b' d', .int .i64 w] (ellT X Y A B D e) :=
  PC.run mixed Tryz.func19 [.res (i.res 0), .res (j.res 0), .rd (.int .i64 0), .res (ellT X Y A B D e)] (by simp only [List.all_cons, List.all_nil, flat_ell, Bool.true_and, Bool.and_true]; rfl) ts0
    (qs4 q1 q2 (or_at or00 rfl (eBlk (ellC x y a b d)) (eBlk (ellC x' y' a' b' d')) i j) q3) (flat_ellT _ _ _ _ _ _) rfl (by kernel_rfl)
theorem fuse_bad {x y a b d x' y' a' b' d' w : Int} {e f : Nat} {i j : Inq} (q1 : QC Tryz.prog 53 [ell x y a b d] (i.res e)) (q2 : QC Tryz.prog 53 [ell x' y' a' b' d'] (j.res f)) (q3 : MC Tryz.prog 54 [wSl 0 2] [⟨errC e f, 50, false⟩] (.int .i64 1) [⟨errC e f, 50, false⟩]) :
    PC Tryz.prog 19 [ell x y a b d, ell x' y' a' b' d', .int .i64 w] (ellT 0 0 0 0 0 1) :=
  PC.run mixed Tryz.func19 [.res (i.res e), .res (j.res f), .rd (.int .i64 1)] (by simp only [List.all_cons, List.all_nil, flat_ell, Bool.true_and, Bool.and_true]; rfl) ts0
    (qs3 q1 q2 (or_at q3 rfl (eBlk (ellC x y a b d)) (eBlk (ellC x' y' a' b' d')) i j)) (flat_ellT _ _ _ _ _ _) rfl (by kernel_rfl)
def fuseV (x y a b d x' y' a' b' d' w : Int) : Value := match mayL x y a b d && mayL x' y' a' b' d' with | true => ellQ (mixQ (ofQ x y a b d) (ofQ x' y' a' b' d') w) | false => ellT 0 0 0 0 0 1
theorem fuse_qc {a b d a' b' d' w : Int} (x y x' y' : Int) (h0 : 0 ≤ w) (h1 : w ≤ 34) (ha : I64 a) (hb : I64 b) (hd : I64 d) (ha' : I64 a') (hb' : I64 b') (hd' : I64 d') (v : Value) (hv : fuseV x y a b d x' y' a' b' d' w = v) : QC Tryz.prog 19 [ell x y a b d, ell x' y' a' b' d', .int .i64 w] v := by
  subst hv
  have q1 := iof_qc x y ha hb hd _ rfl
  have q2 := iof_qc x' y' ha' hb' hd' _ rfl
  refine QC.of_pc enters_fuse ?_
  unfold fuseV
  unfold ofV at q1 q2
  cases h : mayL x y a b d with
  | true =>
    rw [h] at q1
    cases h' : mayL x' y' a' b' d' with
    | true =>
      rw [h'] at q2
      have q3 := eom_qc h0 h1 (ofQ_inp h) (ofQ_inp h')
      obtain ⟨X, Y, A, B, D, e, he⟩ := ellQ_form (mixQ (ofQ x y a b d) (ofQ x' y' a' b' d') w)
      simp only [Bool.and_self]
      rw [he] at q3 ⊢
      exact fuse_run q1 q2 q3
    | false =>
      rw [h'] at q2
      exact fuse_bad q1 q2 or01
  | false =>
    rw [h] at q1
    cases h' : mayL x' y' a' b' d' with
    | true =>
      rw [h'] at q2
      exact fuse_bad q1 q2 or10
    | false =>
      rw [h'] at q2
      exact fuse_bad q1 q2 or11
def strC (ox oy hx hy lo hi : Int) : List Value := [.int .i64 ox, .int .i64 oy, .int .i64 hx, .int .i64 hy, .int .i64 lo, .int .i64 hi]
def cutV (x y a b d ox oy hx hy lo hi w : Int) : Value := match mayL x y a b d && mayS ox oy hx hy lo hi with | true => ellQ (mixQ (ofQ x y a b d) (osQ ox oy hx hy lo hi) w) | false => ellT 0 0 0 0 0 1
theorem fuseV_form (x y a b d x' y' a' b' d' w : Int) : ∃ X Y A B D e, fuseV x y a b d x' y' a' b' d' w = ellT X Y A B D e := by
  unfold fuseV
  split
  · exact ellQ_form _
  · exact ⟨_, _, _, _, _, _, rfl⟩
theorem cutV_form (x y a b d ox oy hx hy lo hi w : Int) : ∃ X Y A B D e, cutV x y a b d ox oy hx hy lo hi w = ellT X Y A B D e := by
  unfold cutV
  split
  · exact ellQ_form _
  · exact ⟨_, _, _, _, _, _, rfl⟩

/-! ### In -/
def sumQ (i : Inq) (p q : Int) : Int := i.a * (p * p) + i.d * (q * q) + i.b * (2 * p * q) - 2 * (i.u * p + i.v * q) + i.z
def inQ (i : Inq) (p q : Int) : Bool := within p q 1073741824 && decide (sumQ i p q ≤ i.n)
theorem cmp_wz {k : Nat} {a b : Int} (ha : Sm k a) (hb : Sm k b) (hk : k ≤ 1023 := by omega) : QC Tryz.prog 130 [wz a, wz b] (.tuple #[.int .i64 (ordI a b), .bool true]) := QC.of_pc enters_cmp (cmp_pc (ha.wf hk) (hb.wf hk))
def pBlk (p q : Int) : Blk := ⟨[.int .i64 p, .int .i64 q], 45, true⟩
theorem ordI_le (a b : Int) : ordI a b ≤ 0 ↔ a ≤ b := by
  unfold ordI
  split
  · omega
  · split <;> omega
theorem Inq.Inp.low {i : Inq} (h : i.Inp) : Low i.a i.b i.d i.u i.v i.z i.n := ⟨h.a.mono (by omega), h.b.mono (by omega), h.d.mono (by omega), h.u.mono (by omega), h.v.mono (by omega), h.z.mono (by omega), h.n.mono (by omega)⟩

/-! ### awake -/
theorem awakeI_v : fuseV (-3) 0 25 0 25 3 0 25 0 25 17 = gballV 0 0 17 0 17 1 := by kernel_rfl
theorem awakeI_r : upI (17 + 17) = 6 := upI_of (m := 6) (by kernel_rfl)
theorem awakeI_r1 : upI (1 * 1 + 1 * 1) = 2 := upI_of (m := 2) (by kernel_rfl)
theorem awakeI_g : gballV 0 0 17 0 17 1 = ellT 0 0 29 0 29 0 := by
  unfold gballV
  rw [show mayL 0 0 17 0 17 = true by decide, show mayR 1 = true by decide]
  simp only
  rw [if_neg (by decide)]
  unfold gsumV gsumR
  rw [awakeI_r, awakeI_r1]
  kernel_rfl
theorem awakeI_pc : PC Tryz.prog 6 [] (.bool true) :=
  PC.run mixed Tryz.func6 [.res (ellT (-3) 0 25 0 25 0), .res (ellT 3 0 25 0 25 0), .res (ellT 0 0 29 0 29 0), .res (.bool true)] rfl ts0
    (qs4 (ball_qc (-3) 0 5 _ rfl) (ball_qc 3 0 5 _ rfl) (fuse_qc (-3) 0 3 0 (a := 25) (b := 0) (d := 25) (a' := 25) (b' := 0) (d' := 25) (w := 17) (by omega) (by omega) .lit .lit .lit .lit .lit .lit _ (awakeI_v.trans awakeI_g)) (inE_qc 0 0 0 4 (a := 29) (b := 0) (d := 29) .lit .lit .lit true (by decide))) rfl rfl (by kernel_rfl)
theorem enters_awakeI : ∀ us w, (callFunc 6 us).run Tryz.prog w = .ok (.enter 6 us) w := enters Tryz.func6 rfl (by kernel_rfl)
theorem awakeI : QC Tryz.prog 6 [] (.bool true) := QC.of_pc enters_awakeI awakeI_pc
end Go.Proofs.YtljolfnpncjklaaGreat.W
