/-
  Package info: Of, OfStrip, Fuse, Cut, In; awake.
-/
import Derived.Test.YtljolfnpncjklaaGreatInfo3
/-! Package info: Of, OfStrip. -/
namespace Go.Proofs.YtljolfnpncjklaaGreat.W
open Go Go.Ev Go.Wide

/-- An inequality. -/
structure Inq where
  a : Int
  b : Int
  d : Int
  u : Int
  v : Int
  z : Int
  n : Int
def Inq.val (i : Inq) : Value := infoV i.a i.b i.d i.u i.v i.z i.n
def Inq.res (i : Inq) (e : Nat) : Value := infoT i.a i.b i.d i.u i.v i.z i.n e
structure Inq.Inp (i : Inq) : Prop where
  a : Sm 53 i.a
  b : Sm 53 i.b
  d : Sm 53 i.d
  u : Sm 80 i.u
  v : Sm 80 i.v
  z : Sm 107 i.z
  n : Sm 104 i.n
def mixQ (i j : Inq) (w : Int) : Inq := ⟨mixI w (34 - w) i.n j.n i.a j.a, mixI w (34 - w) i.n j.n i.b j.b, mixI w (34 - w) i.n j.n i.d j.d, mixI w (34 - w) i.n j.n i.u j.u, mixI w (34 - w) i.n j.n i.v j.v, mixI w (34 - w) i.n j.n i.z j.z, 34 * i.n * j.n⟩
def ellQ (i : Inq) : Value := ellI i.a i.b i.d i.u i.v i.z i.n
theorem ellQ_form (i : Inq) : ∃ x y A B D e, ellQ i = ellT x y A B D e := ellI_form _ _ _ _ _ _ _
theorem mixI_sm {p q : Nat} {w x y n n' : Int} (h0 : 0 ≤ w) (h1 : w ≤ 34) (hx : Sm p x) (hy : Sm p y) (hn : Sm q n) (hn' : Sm q n') : Sm (p + 7 + q + 1) (mixI w (34 - w) n n' x y) := by
  have e7 : (2 : Nat) ^ 7 = 128 := by decide
  have sw : Sm 7 w := by unfold Sm; omega
  have sw' : Sm 7 (34 - w) := by unfold Sm; omega
  exact ((hx.mul sw).mul hn').add ((hy.mul sw').mul hn)
theorem mixQ_low {i j : Inq} {w : Int} (h0 : 0 ≤ w) (h1 : w ≤ 34) (hi : i.Inp) (hj : j.Inp) : Low (mixQ i j w).a (mixQ i j w).b (mixQ i j w).d (mixQ i j w).u (mixQ i j w).v (mixQ i j w).z (mixQ i j w).n :=
  ⟨(mixI_sm h0 h1 hi.a hj.a hi.n hj.n).mono (by omega), (mixI_sm h0 h1 hi.b hj.b hi.n hj.n).mono (by omega), (mixI_sm h0 h1 hi.d hj.d hi.n hj.n).mono (by omega), (mixI_sm h0 h1 hi.u hj.u hi.n hj.n).mono (by omega), (mixI_sm h0 h1 hi.v hj.v hi.n hj.n).mono (by omega), (mixI_sm h0 h1 hi.z hj.z hi.n hj.n).mono (by omega),
    (((show Sm 7 (34 : Int) by unfold Sm; decide).mul hi.n).mul hj.n).mono (by omega)⟩
theorem mixQ_qc {i j : Inq} {w : Int} (h0 : 0 ≤ w) (h1 : w ≤ 34) (hi : i.Inp) (hj : j.Inp) : QC Tryz.prog 89 [i.val, j.val, .int .i64 w] ((mixQ i j w).res 0) :=
  mix_qc h0 h1 (hi.a.mono (by omega)) (hi.b.mono (by omega)) (hi.d.mono (by omega)) (hi.u.mono (by omega)) (hi.v.mono (by omega)) (hi.z.mono (by omega)) (hi.n.mono (by omega)) (hj.a.mono (by omega)) (hj.b.mono (by omega)) (hj.d.mono (by omega)) (hj.u.mono (by omega)) (hj.v.mono (by omega)) (hj.z.mono (by omega)) (hj.n.mono (by omega))
theorem Inq.flat_val (i : Inq) : flat i.val = true := flat_infoV _ _ _ _ _ _ _
theorem enters_eom : ∀ us w, (callFunc 55 us).run Tryz.prog w = .ok (.enter 55 us) w := enters Tryz.func55 rfl (by kernel_rfl)
theorem eom_run {i j m : Inq} {w x y A B D : Int} {e : Nat} (q1 : QC Tryz.prog 89 [i.val, j.val, .int .i64 w] (m.res 0)) (q2 : QC Tryz.prog 7 [m.val] (ellT x y A B D e)) : PC Tryz.prog 55 [i.val, j.val, .int .i64 w] (ellT x y A B D e) :=
  PC.run mixed Tryz.func55 [.res (m.res 0), .res (ellT x y A B D e)] (by simp only [List.all_cons, List.all_nil, Inq.flat_val, Bool.true_and, Bool.and_true]; rfl) ts0 (qs2 q1 q2) (flat_ellT _ _ _ _ _ _) rfl (by kernel_rfl)
theorem eom_qc {i j : Inq} {w : Int} (h0 : 0 ≤ w) (h1 : w ≤ 34) (hi : i.Inp) (hj : j.Inp) : QC Tryz.prog 55 [i.val, j.val, .int .i64 w] (ellQ (mixQ i j w)) := by
  have q2 : QC Tryz.prog 7 [(mixQ i j w).val] (ellQ (mixQ i j w)) := ellI_qc (mixQ_low h0 h1 hi hj)
  obtain ⟨x, y, A, B, D, e, he⟩ := ellQ_form (mixQ i j w)
  rw [he] at q2 ⊢
  exact QC.of_pc enters_eom (eom_run (mixQ_qc h0 h1 hi hj) q2)

/-! ### Of -/
def ofQ (x y a b d : Int) : Inq := ⟨d, -b, a, d * x + -b * y, -b * x + a * y, quadI d (-b) a x y, detI a b d⟩
def noQ : Inq := ⟨0, 0, 0, 0, 0, 0, 0⟩
theorem Sm.of_le {k : Nat} {z : Int} (m : Nat) (hm : m < 2 ^ k) (h0 : -(m : Int) ≤ z) (h1 : z ≤ m) : Sm k z := by
  unfold Sm
  omega
theorem ofQ_inp {x y a b d : Int} (h : mayL x y a b d = true) : (ofQ x y a b d).Inp := by
  have g := mayL_iff.1 h
  have sa : Sm 47 a := .of_le 70368744177664 (by decide) (by omega) (by omega)
  have sb : Sm 47 b := .of_le 70368744177664 (by decide) (by omega) (by omega)
  have sd : Sm 47 d := .of_le 70368744177664 (by decide) (by omega) (by omega)
  have sx : Sm 23 x := .of_le 4194304 (by decide) (by omega) (by omega)
  have sy : Sm 23 y := .of_le 4194304 (by decide) (by omega) (by omega)
  refine ⟨sd.mono (by omega), sb.neg.mono (by omega), sa.mono (by omega), ((sd.mul sx).add (sb.neg.mul sy)).mono (by omega), ((sb.neg.mul sx).add (sa.mul sy)).mono (by omega), ?_, (detI_sm sa sb sd).mono (by omega)⟩
  show Sm 107 (quadI d (-b) a x y)
  rw [quadI_eq]
  have h2 := sb.neg.mul (sx.mul sy)
  have h3 := h2.add h2
  rw [show -b * (x * y) + -b * (x * y) = 2 * (-b * (x * y)) by omega] at h3
  exact (((sd.mul (sx.mul sx)).add (sa.mul (sy.mul sy))).add h3).mono (by omega)
theorem enters_iof : ∀ us w, (callFunc 53 us).run Tryz.prog w = .ok (.enter 53 us) w := enters Tryz.func53 rfl (by kernel_rfl)
def ofV (x y a b d : Int) : Value := match mayL x y a b d with | true => (ofQ x y a b d).res 0 | false => noQ.res 1
theorem iof_qc {a b d : Int} (x y : Int) (ha : I64 a) (hb : I64 b) (hd : I64 d) (v : Value) (hv : ofV x y a b d = v) : QC Tryz.prog 53 [ell x y a b d] v := by
  subst hv
  refine QC.of_pc enters_iof ?_
  have hfl : [ell x y a b d].all flat = true := by simp only [List.all_cons, List.all_nil, flat_ell, Bool.and_self]
  unfold ofV
  cases h : mayL x y a b d with
  | false =>
    exact PC.run mixed Tryz.func53 [.res (.bool false)] hfl ts0 (qs1 (mayL_qc x y ha hb hd _ h)) (flat_infoT _ _ _ _ _ _ _ _) rfl (by kernel_rfl)
  | true =>
    have g := mayL_iff.1 h
    have sa : Sm 47 a := .of_le 70368744177664 (by decide) (by omega) (by omega)
    have sb : Sm 47 b := .of_le 70368744177664 (by decide) (by omega) (by omega)
    have sd : Sm 47 d := .of_le 70368744177664 (by decide) (by omega) (by omega)
    have sx : Sm 23 x := .of_le 4194304 (by decide) (by omega) (by omega)
    have sy : Sm 23 y := .of_le 4194304 (by decide) (by omega) (by omega)
    have hnb : I64 (-b) := ⟨by omega, by omega⟩
    have hxI : I64 x := ⟨by omega, by omega⟩
    have hyI : I64 y := ⟨by omega, by omega⟩
    have qa : QC Tryz.prog 86 [sym a b d] (sym d (-b) a) := by
      have := QC.of_pc enters_adj (adj_pc a b d)
      unfold adjV at this
      rw [mayM_iff.2 (by omega)] at this
      exact this
    exact PC.run mixed Tryz.func53 [.res (.bool true), .res (sym d (-b) a), .res (wz d), .res (wz (-b)), .res (wz a), .res (wz x), .res (wz y), .res (wz (d * x)), .res (wz (-b * y)), .res (wz (d * x + -b * y)), .res (wz (-b * x)), .res (wz (a * y)), .res (wz (-b * x + a * y)), .res (wz (quadI d (-b) a x y)), .res (wz (detI a b d))]
      hfl ts0 (qs15 (mayL_qc x y ha hb hd _ h) qa hd.of hnb.of ha.of hxI.of hyI.of (qmul sd sx) (qmul sb.neg sy) (qadd (sd.mul sx) (sb.neg.mul sy)) (qmul sb.neg sx) (qmul sa sy) (qadd (sb.neg.mul sx) (sa.mul sy)) (QC.of_pc enters_quadM (quadM_pc hd hnb ha hxI hyI)) (QC.of_pc enters_detM (detM_pc ha hb hd)))
      (flat_infoT _ _ _ _ _ _ _ _) rfl (by kernel_rfl)

/-! ### OfStrip -/
def midI (ox oy hx hy lo hi : Int) : Int := lo + hi + 2 * hx * ox + 2 * hy * oy
def osQ (ox oy hx hy lo hi : Int) : Inq := ⟨2 * hx * (2 * hx), 2 * hx * (2 * hy), 2 * hy * (2 * hy), midI ox oy hx hy lo hi * (2 * hx), midI ox oy hx hy lo hi * (2 * hy), midI ox oy hx hy lo hi * midI ox oy hx hy lo hi, (hi - lo) * (hi - lo)⟩
theorem mul_bd {x y p q : Int} (hx : -p ≤ x ∧ x ≤ p) (hy : -q ≤ y ∧ y ≤ q) : -(p * q) ≤ x * y ∧ x * y ≤ p * q := by
  have h1 : x.natAbs ≤ p.natAbs := by omega
  have h2 : y.natAbs ≤ q.natAbs := by omega
  have h3 : (x * y).natAbs ≤ p.natAbs * q.natAbs := by rw [Int.natAbs_mul]; exact Nat.mul_le_mul h1 h2
  have h4 : ((p.natAbs * q.natAbs : Nat) : Int) = p * q := by
    rw [Int.natCast_mul, Int.natAbs_of_nonneg (by omega), Int.natAbs_of_nonneg (by omega)]
  omega
theorem mid_facts {ox oy hx hy lo hi : Int} (h : mayS ox oy hx hy lo hi = true) : IntKind.i64.wrap (2 * hx) = 2 * hx ∧ IntKind.i64.wrap (2 * hy) = 2 * hy ∧ IntKind.i64.wrap (hi - lo) = hi - lo ∧
    IntKind.i64.wrap (IntKind.i64.wrap (IntKind.i64.wrap (lo + hi) + IntKind.i64.wrap (2 * hx * ox)) + IntKind.i64.wrap (2 * hy * oy)) = midI ox oy hx hy lo hi ∧ (-3000000000000000 ≤ midI ox oy hx hy lo hi ∧ midI ox oy hx hy lo hi ≤ 3000000000000000) := by
  have g := mayS_iff.1 h
  have b1 := mul_bd (x := 2 * hx) (y := ox) (p := 33554432) (q := 4194304) (by omega) (by omega)
  have b2 := mul_bd (x := 2 * hy) (y := oy) (p := 33554432) (q := 4194304) (by omega) (by omega)
  unfold midI
  generalize 2 * hx * ox = X at *
  generalize 2 * hy * oy = Y at *
  have e1 : IntKind.i64.wrap (lo + hi) = lo + hi := i64_wrap (by omega) (by omega)
  have e2 : IntKind.i64.wrap X = X := i64_wrap (by omega) (by omega)
  have e3 : IntKind.i64.wrap Y = Y := i64_wrap (by omega) (by omega)
  have e4 : IntKind.i64.wrap (lo + hi + X) = lo + hi + X := i64_wrap (by omega) (by omega)
  refine ⟨i64_wrap (by omega) (by omega), i64_wrap (by omega) (by omega), i64_wrap (by omega) (by omega), ?_, by omega, by omega⟩
  rw [e1, e2, e3, e4]
  exact i64_wrap (by omega) (by omega)
theorem strip_sm {ox oy hx hy lo hi : Int} (h : mayS ox oy hx hy lo hi = true) : Sm 26 (2 * hx) ∧ Sm 26 (2 * hy) ∧ Sm 53 (midI ox oy hx hy lo hi) ∧ Sm 52 (hi - lo) := by
  have g := mayS_iff.1 h
  have g2 := (mid_facts h).2.2.2.2
  exact ⟨.of_le 33554432 (by decide) (by omega) (by omega), .of_le 33554432 (by decide) (by omega) (by omega), .of_le 3000000000000000 (by decide) (by omega) (by omega), .of_le 2251799813685248 (by decide) (by omega) (by omega)⟩
theorem osQ_inp {ox oy hx hy lo hi : Int} (h : mayS ox oy hx hy lo hi = true) : (osQ ox oy hx hy lo hi).Inp := by
  obtain ⟨sx, sy, sm, sw⟩ := strip_sm h
  exact ⟨(sx.mul sx).mono (by omega), (sx.mul sy).mono (by omega), (sy.mul sy).mono (by omega), (sm.mul sx).mono (by omega), (sm.mul sy).mono (by omega), (sm.mul sm).mono (by omega), (sw.mul sw).mono (by omega)⟩
def osV (ox oy hx hy lo hi : Int) : Value := match mayS ox oy hx hy lo hi with | true => (osQ ox oy hx hy lo hi).res 0 | false => noQ.res 1
end Go.Proofs.YtljolfnpncjklaaGreat.W
