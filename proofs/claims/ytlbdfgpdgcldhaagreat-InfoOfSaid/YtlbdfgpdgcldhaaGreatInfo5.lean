/-
  Package info: Fuse, Cut, In; awake.
-/
import Derived.Test.YtlbdfgpdgcldhaaGreatInfo4
/-! Package info: Fuse, Cut. -/
namespace Go.Proofs.YtlbdfgpdgcldhaaGreat.W
open Go Go.Ev Go.Wide

theorem enters_or : ∀ us w, (callFunc 71 us).run Tryz.prog w = .ok (.enter 71 us) w := enters Tryz.func71 rfl (by kernel_rfl)
def errC (e f : Nat) : List Value := [.int .i64 e, .int .i64 f]
theorem or00 : MC Tryz.prog 71 [wSl 0 2] [⟨errC 0 0, 37, false⟩] (.int .i64 0) [⟨errC 0 0, 37, false⟩] := MC.run mixed Tryz.func71 [] ts0 qs0 rfl rfl enters_or (by kernel_rfl)
theorem or01 : MC Tryz.prog 71 [wSl 0 2] [⟨errC 0 1, 37, false⟩] (.int .i64 1) [⟨errC 0 1, 37, false⟩] := MC.run mixed Tryz.func71 [] ts0 qs0 rfl rfl enters_or (by kernel_rfl)
theorem or10 : MC Tryz.prog 71 [wSl 0 2] [⟨errC 1 0, 37, false⟩] (.int .i64 1) [⟨errC 1 0, 37, false⟩] := MC.run mixed Tryz.func71 [] ts0 qs0 rfl rfl enters_or (by kernel_rfl)
theorem or11 : MC Tryz.prog 71 [wSl 0 2] [⟨errC 1 1, 37, false⟩] (.int .i64 1) [⟨errC 1 1, 37, false⟩] := MC.run mixed Tryz.func71 [] ts0 qs0 rfl rfl enters_or (by kernel_rfl)
def ellC (x y a b d : Int) : List Value := [.int .i64 x, .int .i64 y, .int .i64 a, .int .i64 b, .int .i64 d]
def eBlk (cs : List Value) : Blk := ⟨cs, 27, true⟩
def Inq.cells (i : Inq) : List Value := infoC i.a i.b i.d i.u i.v i.z i.n
def fuM (C D : Blk) (i j : Inq) (e f : Nat) : Mem := [C, D, eBlk (ellC 0 0 0 0 0), iBlk i.cells, iBlk j.cells, ⟨errC e f, 37, true⟩]
theorem or_at {e f : Nat} {r : Value} (h : MC Tryz.prog 71 [wSl 0 2] [⟨errC e f, 37, false⟩] r [⟨errC e f, 37, false⟩]) (hr : flat r = true) (C D : Blk) (i j : Inq) : MC Tryz.prog 71 [wSl 5 2] (fuM C D i j e f) r (fuM C D i j e f) :=
  MC.at1 h rfl hr _ 5 _ rfl rfl
theorem enters_fuse : ∀ us w, (callFunc 22 us).run Tryz.prog w = .ok (.enter 22 us) w := enters Tryz.func22 rfl (by kernel_rfl)
theorem enters_cut : ∀ us w, (callFunc 24 us).run Tryz.prog w = .ok (.enter 24 us) w := enters Tryz.func24 rfl (by kernel_rfl)
theorem fuse_run {x y a b d x' y' a' b' d' w X Y A B D : Int} {e : Nat} {i j : Inq} (q1 : QC Tryz.prog 6 [ell x y a b d] (i.res 0)) (q2 : QC Tryz.prog 6 [ell x' y' a' b' d'] (j.res 0)) (q3 : QC Tryz.prog 72 [i.val, j.val, .int .i64 w] (ellT X Y A B D e)) :
    PC Tryz.prog 22 [ell x y a b d, ell x' y' a' b' d', .int .i64 w] (ellT X Y A B D e) :=
  PC.run mixed Tryz.func22 [.res (i.res 0), .res (j.res 0), .rd (.int .i64 0), .res (ellT X Y A B D e)] (by simp only [List.all_cons, List.all_nil, flat_ell, Bool.true_and, Bool.and_true]; rfl) ts0
    (qs4 q1 q2 (or_at or00 rfl (eBlk (ellC x y a b d)) (eBlk (ellC x' y' a' b' d')) i j) q3) (flat_ellT _ _ _ _ _ _) rfl (by kernel_rfl)
theorem fuse_bad {x y a b d x' y' a' b' d' w : Int} {e f : Nat} {i j : Inq} (q1 : QC Tryz.prog 6 [ell x y a b d] (i.res e)) (q2 : QC Tryz.prog 6 [ell x' y' a' b' d'] (j.res f)) (q3 : MC Tryz.prog 71 [wSl 0 2] [⟨errC e f, 37, false⟩] (.int .i64 1) [⟨errC e f, 37, false⟩]) :
    PC Tryz.prog 22 [ell x y a b d, ell x' y' a' b' d', .int .i64 w] (ellT 0 0 0 0 0 1) :=
  PC.run mixed Tryz.func22 [.res (i.res e), .res (j.res f), .rd (.int .i64 1)] (by simp only [List.all_cons, List.all_nil, flat_ell, Bool.true_and, Bool.and_true]; rfl) ts0
    (qs3 q1 q2 (or_at q3 rfl (eBlk (ellC x y a b d)) (eBlk (ellC x' y' a' b' d')) i j)) (flat_ellT _ _ _ _ _ _) rfl (by kernel_rfl)
def fuseV (x y a b d x' y' a' b' d' w : Int) : Value := match mayL x y a b d && mayL x' y' a' b' d' with | true => ellQ (mixQ (ofQ x y a b d) (ofQ x' y' a' b' d') w) | false => ellT 0 0 0 0 0 1
theorem fuse_qc {a b d a' b' d' w : Int} (x y x' y' : Int) (h0 : 0 ≤ w) (h1 : w ≤ 34) (ha : I64 a) (hb : I64 b) (hd : I64 d) (ha' : I64 a') (hb' : I64 b') (hd' : I64 d') (v : Value) (hv : fuseV x y a b d x' y' a' b' d' w = v) : QC Tryz.prog 22 [ell x y a b d, ell x' y' a' b' d', .int .i64 w] v := by
  subst hv
  have q1 := iof_qc x y ha hb hd _ rfl
  have q2 := iof_qc x' y' ha' hb' hd' _ rfl
  refine QC.of_pc enters_fuse ?_
  unfold fuseV
  unfold ofV at q1 q2
  cases h : mayL x y a b d with
  | true =>
    rw [h] at q1
    cases h' : mayL x' y' a' b' d' with
    | true =>
      rw [h'] at q2
      have q3 := eom_qc h0 h1 (ofQ_inp h) (ofQ_inp h')
      obtain ⟨X, Y, A, B, D, e, he⟩ := ellQ_form (mixQ (ofQ x y a b d) (ofQ x' y' a' b' d') w)
      simp only [Bool.and_self]
      rw [he] at q3 ⊢
      exact fuse_run q1 q2 q3
    | false =>
      rw [h'] at q2
      exact fuse_bad q1 q2 or01
  | false =>
    rw [h] at q1
    cases h' : mayL x' y' a' b' d' with
    | true =>
      rw [h'] at q2
      exact fuse_bad q1 q2 or10
    | false =>
      rw [h'] at q2
      exact fuse_bad q1 q2 or11
def strC (ox oy hx hy lo hi : Int) : List Value := [.int .i64 ox, .int .i64 oy, .int .i64 hx, .int .i64 hy, .int .i64 lo, .int .i64 hi]
def sBlk (cs : List Value) : Blk := ⟨cs, 29, true⟩
theorem cut_run {x y a b d ox oy hx hy lo hi w X Y A B D : Int} {e : Nat} {i j : Inq} (q1 : QC Tryz.prog 6 [ell x y a b d] (i.res 0)) (q2 : QC Tryz.prog 8 [strV ox oy hx hy lo hi] (j.res 0)) (q3 : QC Tryz.prog 72 [i.val, j.val, .int .i64 w] (ellT X Y A B D e)) :
    PC Tryz.prog 24 [ell x y a b d, strV ox oy hx hy lo hi, .int .i64 w] (ellT X Y A B D e) :=
  PC.run mixed Tryz.func24 [.res (i.res 0), .res (j.res 0), .rd (.int .i64 0), .res (ellT X Y A B D e)] (by simp only [List.all_cons, List.all_nil, flat_ell, flat_strV, Bool.true_and, Bool.and_true]; rfl) ts0
    (qs4 q1 q2 (or_at or00 rfl (eBlk (ellC x y a b d)) (sBlk (strC ox oy hx hy lo hi)) i j) q3) (flat_ellT _ _ _ _ _ _) rfl (by kernel_rfl)
theorem cut_bad {x y a b d ox oy hx hy lo hi w : Int} {e f : Nat} {i j : Inq} (q1 : QC Tryz.prog 6 [ell x y a b d] (i.res e)) (q2 : QC Tryz.prog 8 [strV ox oy hx hy lo hi] (j.res f)) (q3 : MC Tryz.prog 71 [wSl 0 2] [⟨errC e f, 37, false⟩] (.int .i64 1) [⟨errC e f, 37, false⟩]) :
    PC Tryz.prog 24 [ell x y a b d, strV ox oy hx hy lo hi, .int .i64 w] (ellT 0 0 0 0 0 1) :=
  PC.run mixed Tryz.func24 [.res (i.res e), .res (j.res f), .rd (.int .i64 1)] (by simp only [List.all_cons, List.all_nil, flat_ell, flat_strV, Bool.true_and, Bool.and_true]; rfl) ts0
    (qs3 q1 q2 (or_at q3 rfl (eBlk (ellC x y a b d)) (sBlk (strC ox oy hx hy lo hi)) i j)) (flat_ellT _ _ _ _ _ _) rfl (by kernel_rfl)
def cutV (x y a b d ox oy hx hy lo hi w : Int) : Value := match mayL x y a b d && mayS ox oy hx hy lo hi with | true => ellQ (mixQ (ofQ x y a b d) (osQ ox oy hx hy lo hi) w) | false => ellT 0 0 0 0 0 1
theorem cut_qc {a b d w : Int} (x y ox oy hx hy lo hi : Int) (h0 : 0 ≤ w) (h1 : w ≤ 34) (ha : I64 a) (hb : I64 b) (hd : I64 d) (v : Value) (hv : cutV x y a b d ox oy hx hy lo hi w = v) : QC Tryz.prog 24 [ell x y a b d, strV ox oy hx hy lo hi, .int .i64 w] v := by
  subst hv
  have q1 := iof_qc x y ha hb hd _ rfl
  have q2 := ios_qc ox oy hx hy lo hi _ rfl
  refine QC.of_pc enters_cut ?_
  unfold cutV
  unfold ofV at q1
  unfold osV at q2
  cases h : mayL x y a b d with
  | true =>
    rw [h] at q1
    cases h' : mayS ox oy hx hy lo hi with
    | true =>
      rw [h'] at q2
      have q3 := eom_qc h0 h1 (ofQ_inp h) (osQ_inp h')
      obtain ⟨X, Y, A, B, D, e, he⟩ := ellQ_form (mixQ (ofQ x y a b d) (osQ ox oy hx hy lo hi) w)
      simp only [Bool.and_self]
      rw [he] at q3 ⊢
      exact cut_run q1 q2 q3
    | false =>
      rw [h'] at q2
      exact cut_bad q1 q2 or01
  | false =>
    rw [h] at q1
    cases h' : mayS ox oy hx hy lo hi with
    | true =>
      rw [h'] at q2
      exact cut_bad q1 q2 or10
    | false =>
      rw [h'] at q2
      exact cut_bad q1 q2 or11
theorem fuseV_form (x y a b d x' y' a' b' d' w : Int) : ∃ X Y A B D e, fuseV x y a b d x' y' a' b' d' w = ellT X Y A B D e := by
  unfold fuseV
  split
  · exact ellQ_form _
  · exact ⟨_, _, _, _, _, _, rfl⟩
theorem cutV_form (x y a b d ox oy hx hy lo hi w : Int) : ∃ X Y A B D e, cutV x y a b d ox oy hx hy lo hi w = ellT X Y A B D e := by
  unfold cutV
  split
  · exact ellQ_form _
  · exact ⟨_, _, _, _, _, _, rfl⟩

/-! ### In -/
def sumQ (i : Inq) (p q : Int) : Int := i.a * (p * p) + i.d * (q * q) + i.b * (2 * p * q) - 2 * (i.u * p + i.v * q) + i.z
def inQ (i : Inq) (p q : Int) : Bool := within p q 1073741824 && decide (sumQ i p q ≤ i.n)
theorem enters_inQ : ∀ us w, (callFunc 13 us).run Tryz.prog w = .ok (.enter 13 us) w := enters Tryz.func13 rfl (by kernel_rfl)
theorem cmp_wz {k : Nat} {a b : Int} (ha : Sm k a) (hb : Sm k b) (hk : k ≤ 1023 := by omega) : QC Tryz.prog 50 [wz a, wz b] (.tuple #[.int .i64 (ordI a b), .bool true]) := QC.of_pc enters_cmp (cmp_pc (ha.wf hk) (hb.wf hk))
def pBlk (p q : Int) : Blk := ⟨[.int .i64 p, .int .i64 q], 23, true⟩
theorem inQ_run {i : Inq} {p q pp qq pq l1 l2 l3 l4 l5 : Int} (hl : Low i.a i.b i.d i.u i.v i.z i.n) (q0 : QC Tryz.prog 44 [pt p q, .int .i64 1073741824] (.bool true))
    (o1 : QC Tryz.prog 28 [.int .i64 (IntKind.i64.wrap (p * p))] (wz pp)) (o2 : QC Tryz.prog 28 [.int .i64 (IntKind.i64.wrap (q * q))] (wz qq)) (o3 : QC Tryz.prog 28 [.int .i64 (IntKind.i64.wrap (IntKind.i64.wrap (2 * p) * q))] (wz pq))
    (o4 : QC Tryz.prog 28 [.int .i64 p] (wz p)) (o5 : QC Tryz.prog 28 [.int .i64 q] (wz q)) (spp : Sm 64 pp) (sqq : Sm 64 qq) (spq : Sm 64 pq) (sp : Sm 64 p) (sq : Sm 64 q)
    (a1 : QC Tryz.prog 29 [wz (i.a * pp), wz (i.d * qq)] (wz l1)) (a2 : QC Tryz.prog 29 [wz l1, wz (i.b * pq)] (wz l2)) (a3 : QC Tryz.prog 29 [wz (i.u * p), wz (i.v * q)] (wz l3)) (a4 : QC Tryz.prog 49 [wz l3, .int .i64 1] (wz (2 * l3))) (a5 : QC Tryz.prog 48 [wz l2, wz (2 * l3)] (wz l4))
    (a6 : QC Tryz.prog 29 [wz l4, wz i.z] (wz l5)) (a7 : QC Tryz.prog 50 [wz l5, wz i.n] (.tuple #[.int .i64 (ordI l5 i.n), .bool true])) :
    PC Tryz.prog 13 [i.val, pt p q] (.bool (decide (ordI l5 i.n ≤ 0))) :=
  PC.run mixed Tryz.func13 [.res (.bool true), .res (wz pp), .rd (wz (i.a * pp)), .res (wz qq), .rd (wz (i.d * qq)), .res (wz l1), .res (wz pq), .rd (wz (i.b * pq)), .res (wz l2), .res (wz p), .rd (wz (i.u * p)), .res (wz q), .rd (wz (i.v * q)), .res (wz l3), .res (wz (2 * l3)), .res (wz l4), .res (wz l5), .res (.tuple #[.int .i64 (ordI l5 i.n), .bool true])]
    (by simp only [List.all_cons, List.all_nil, Inq.flat_val, flat_pt, Bool.and_self]) ts0
    (qs18 q0 o1 (prod2_at hl.a spp [iBlk i.cells, pBlk p q, wBlk (wzC i.a ++ wzC pp)] 2 rfl) o2 (prod2_at hl.d sqq [iBlk i.cells, pBlk p q, wBlk (wzC i.a ++ wzC pp), wBlk (wzC i.d ++ wzC qq)] 3 rfl) a1 o3
      (prod2_at hl.b spq [iBlk i.cells, pBlk p q, wBlk (wzC i.a ++ wzC pp), wBlk (wzC i.d ++ wzC qq), wBlk (wzC l1), wBlk (wzC i.b ++ wzC pq)] 5 rfl) a2 o4
      (prod2_at hl.u sp [iBlk i.cells, pBlk p q, wBlk (wzC i.a ++ wzC pp), wBlk (wzC i.d ++ wzC qq), wBlk (wzC l2), wBlk (wzC i.b ++ wzC pq), wBlk (wzC i.u ++ wzC p)] 6 rfl) o5
      (prod2_at hl.v sq [iBlk i.cells, pBlk p q, wBlk (wzC i.a ++ wzC pp), wBlk (wzC i.d ++ wzC qq), wBlk (wzC l2), wBlk (wzC i.b ++ wzC pq), wBlk (wzC i.u ++ wzC p), wBlk (wzC i.v ++ wzC q)] 7 rfl) a3 a4 a5 a6 a7)
    rfl rfl (by kernel_rfl)
theorem ordI_le (a b : Int) : ordI a b ≤ 0 ↔ a ≤ b := by
  unfold ordI
  split
  · omega
  · split <;> omega
theorem inQ_qc {i : Inq} (hl : Low i.a i.b i.d i.u i.v i.z i.n) (p q : Int) (r : Bool) (hr : inQ i p q = r) : QC Tryz.prog 13 [i.val, pt p q] (.bool r) := by
  subst hr
  refine QC.of_pc enters_inQ ?_
  unfold inQ
  cases h : within p q 1073741824 with
  | false =>
    exact PC.run mixed Tryz.func13 [.res (.bool false)] (by simp only [List.all_cons, List.all_nil, Inq.flat_val, flat_pt, Bool.and_self]) ts0 (qs1 (iwithin_qc p q 1073741824 (by omega) (by omega) _ h)) rfl rfl (by kernel_rfl)
  | true =>
    have g := within_iff.1 h
    have bp := mul_bd (x := p) (y := p) (p := 1073741824) (q := 1073741824) (by omega) (by omega)
    have bq := mul_bd (x := q) (y := q) (p := 1073741824) (q := 1073741824) (by omega) (by omega)
    have br := mul_bd (x := 2 * p) (y := q) (p := 2147483648) (q := 1073741824) (by omega) (by omega)
    have e1 : IntKind.i64.wrap (p * p) = p * p := i64_wrap (by omega) (by omega)
    have e2 : IntKind.i64.wrap (q * q) = q * q := i64_wrap (by omega) (by omega)
    have e3 : IntKind.i64.wrap (2 * p) = 2 * p := i64_wrap (by omega) (by omega)
    have e4 : IntKind.i64.wrap (2 * p * q) = 2 * p * q := i64_wrap (by omega) (by omega)
    have ipp : I64 (p * p) := ⟨by omega, by omega⟩
    have iqq : I64 (q * q) := ⟨by omega, by omega⟩
    have ipq : I64 (2 * p * q) := ⟨by omega, by omega⟩
    have ip : I64 p := ⟨by omega, by omega⟩
    have iq : I64 q := ⟨by omega, by omega⟩
    have s1 := (hl.a.mul ipp.sm).add (hl.d.mul iqq.sm)
    have s2 := s1.add ((hl.b.mul ipq.sm).mono (k := 170 + 64 + 1) (by omega))
    have s3 := (hl.u.mul ip.sm).add (hl.v.mul iq.sm)
    have s3' := s3.add s3
    rw [show i.u * p + i.v * q + (i.u * p + i.v * q) = 2 * (i.u * p + i.v * q) by omega] at s3'
    have s4 := (s2.mono (k := 270) (by omega)).sub (s3'.mono (k := 270) (by omega))
    have s5 := s4.add (hl.z.mono (k := 271) (by omega))
    have hrun := inQ_run (l5 := sumQ i p q) hl (iwithin_qc p q 1073741824 (by omega) (by omega) _ h) (by rw [e1]; exact ipp.of) (by rw [e2]; exact iqq.of) (by rw [e3, e4]; exact ipq.of) ip.of iq.of ipp.sm iqq.sm ipq.sm ip.sm iq.sm
      (qadd (hl.a.mul ipp.sm) (hl.d.mul iqq.sm)) (qadd s1 ((hl.b.mul ipq.sm).mono (by omega))) (qadd (hl.u.mul ip.sm) (hl.v.mul iq.sm)) (qshl s3) (qsub (s2.mono (k := 270) (by omega)) (s3'.mono (k := 270) (by omega)))
      (show QC Tryz.prog 29 [wz (i.a * (p * p) + i.d * (q * q) + i.b * (2 * p * q) - 2 * (i.u * p + i.v * q)), wz i.z] (wz (sumQ i p q)) from qadd s4 (hl.z.mono (k := 271) (by omega)))
      (cmp_wz (k := 272) s5 (hl.n.mono (by omega)))
    rw [decide_eq_decide.2 (ordI_le (sumQ i p q) i.n)] at hrun
    exact hrun
theorem Inq.Inp.low {i : Inq} (h : i.Inp) : Low i.a i.b i.d i.u i.v i.z i.n := ⟨h.a.mono (by omega), h.b.mono (by omega), h.d.mono (by omega), h.u.mono (by omega), h.v.mono (by omega), h.z.mono (by omega), h.n.mono (by omega)⟩

/-! ### awake -/
theorem awakeI_v : fuseV (-3) 0 25 0 25 3 0 25 0 25 17 = gballV 0 0 17 0 17 1 := by kernel_rfl
theorem awakeI_r : upI (17 + 17) = 6 := upI_of (m := 6) (by kernel_rfl)
theorem awakeI_r1 : upI (1 * 1 + 1 * 1) = 2 := upI_of (m := 2) (by kernel_rfl)
theorem awakeI_g : gballV 0 0 17 0 17 1 = ellT 0 0 29 0 29 0 := by
  unfold gballV
  rw [show mayL 0 0 17 0 17 = true by decide, show mayR 1 = true by decide]
  simp only
  rw [if_neg (by decide)]
  unfold gsumV gsumR
  rw [awakeI_r, awakeI_r1]
  kernel_rfl
theorem awakeI_pc : PC Tryz.prog 17 [] (.bool true) :=
  PC.run mixed Tryz.func17 [.res (ellT (-3) 0 25 0 25 0), .res (ellT 3 0 25 0 25 0), .res (ellT 0 0 29 0 29 0), .res (.bool true)] rfl ts0
    (qs4 (ball_qc (-3) 0 5 _ rfl) (ball_qc 3 0 5 _ rfl) (fuse_qc (-3) 0 3 0 (a := 25) (b := 0) (d := 25) (a' := 25) (b' := 0) (d' := 25) (w := 17) (by omega) (by omega) .lit .lit .lit .lit .lit .lit _ (awakeI_v.trans awakeI_g)) (inE_qc 0 0 0 4 (a := 29) (b := 0) (d := 29) .lit .lit .lit true (by decide))) rfl rfl (by kernel_rfl)
theorem enters_awakeI : ∀ us w, (callFunc 17 us).run Tryz.prog w = .ok (.enter 17 us) w := enters Tryz.func17 rfl (by kernel_rfl)
theorem awakeI : QC Tryz.prog 17 [] (.bool true) := QC.of_pc enters_awakeI awakeI_pc
end Go.Proofs.YtlbdfgpdgcldhaaGreat.W
