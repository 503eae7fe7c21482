/-
  Numbers as laws are given them: Of, the program's and the reference's.
-/
import Derived.Test.YtljolfnpncjklaaGreatNum
import Derived.Test.YtljolfnpncjklaaGreatTokM
/-! Numbers as laws are given them: Of. -/
namespace Go.Ev
section
variable {σ : List Nat} {m : Nat}
theorem fV1_abs {v : Value} (h : abs1 v = true) : fV1 σ m v = v := by
  cases ht : isTok v with
  | true =>
    cases v with
    | iface t x => rfl
    | _ => cases ht
  | false =>
    have hf : flat1 v = true := by simpa [abs1, ht] using h
    have := fV_flat (σ := σ) (m := m) (v := v) (by
      unfold flat
      cases v with
      | tuple vs => cases hf
      | agg cs => cases hf
      | _ => exact hf)
    cases v with
    | tuple vs => cases hf
    | agg cs => cases hf
    | _ => exact this
theorem map_id_of {f : Value → Value} : ∀ {l : List Value}, (∀ a ∈ l, f a = a) → l.map f = l
  | [], _ => rfl
  | a :: l, h => by rw [List.map_cons, h a (by simp), map_id_of fun b hb => h b (by simp [hb])]
theorem fV2_abs {v : Value} (h : abs2 v = true) : fV2 σ m v = v := by
  by_cases hc : ∃ cs, v = .agg cs
  · obtain ⟨cs, rfl⟩ := hc
    show Value.agg (cs.toList.map (fV1 σ m)).toArray = _
    rw [map_id_of fun a ha => fV1_abs (List.all_eq_true.1 h a ha)]
  · have h1 : abs1 v = true := by
      unfold abs2 at h
      split at h
      · exact absurd ⟨_, rfl⟩ hc
      · exact h
    have : fV2 σ m v = fV1 σ m v := by
      unfold fV2
      split
      · exact absurd ⟨_, rfl⟩ hc
      · rfl
    rw [this, fV1_abs h1]
theorem fV_abs {v : Value} (h : absV v = true) : fV σ m v = v := by
  by_cases hc : ∃ vs, v = .tuple vs
  · obtain ⟨vs, rfl⟩ := hc
    simp only [absV, Bool.and_eq_true] at h
    show Value.tuple (vs.toList.map (fV2 σ m)).toArray = _
    rw [map_id_of fun a ha => fV2_abs (List.all_eq_true.1 h.2 a ha)]
  · have h2 : abs2 v = true := by
      unfold absV at h
      split at h
      · exact absurd ⟨_, rfl⟩ hc
      · exact h
    have : fV σ m v = fV2 σ m v := by
      unfold fV
      split
      · exact absurd ⟨_, rfl⟩ hc
      · rfl
    rw [this, fV2_abs h2]
end
end Go.Ev
namespace Go.Proofs.YtljolfnpncjklaaGreat.R
open Go Go.Ev Go.W32
open Go.Proofs.YtljolfnpncjklaaGreat.W (mixed i64_wrap clamp WF Hi clamp_eq wadd wmul wshift Sm I64 wv wR flat_wR wv_form wadd_wf wmul_wf wshift_wf of_pc add_pc mul_pc shift_pc enters_of enters_add enters_mul enters_shift)

/-- Parts, multiplied and added. -/
def accN (l : List Int) (a : Option Int) : Option Int := l.foldl (fun a x => wadd (wmul a (some 4611686018427387904)) (some x)) a
/-- The number that parts and a shift make. -/
def numA (l : List Int) (k : Int) : Option Int := wshift (accN (l.take 17) (some 0)) k
theorem numA_wf (l : List Int) (k : Int) : WF (numA l k) := wshift_wf _ _
theorem zero_wf : WF (some 0) := fun z e => by cases e; exact Go.Proofs.YtljolfnpncjklaaGreat.W.Hi_pos
theorem accN_wf (l : List Int) {a : Option Int} (h : WF a) : WF (accN l a) := by
  induction l generalizing a with
  | nil => exact h
  | cons x l ih => exact ih (wadd_wf _ _)
theorem accN_take {l : List Int} {i : Nat} {x : Int} (h : l[i]? = some x) (a : Option Int) : accN (l.take (i + 1)) a = wadd (wmul (accN (l.take i) a) (some 4611686018427387904)) (some x) := by
  unfold accN
  rw [List.take_add_one, h, Option.toList_some, List.foldl_append]
  rfl
def wB (o : Bool) (N : Nat) (s : Bool) : Blk := ⟨(wR o N s).cells.toList, 31, true⟩
def zW : Blk := ⟨List.replicate 16 (.int .u64 0) ++ [.bool false, .bool false], 31, true⟩
def slI (n cap : Nat) : Value := .slice (some ⟨0, 0, none⟩) n cap
def nS (l : List Int) (n cap : Nat) (k : Int) (i : Nat) (o : Bool) (N : Nat) (s : Bool) (s' o' : Bool) (N' : Nat) : St :=
  ⟨slots 41 [(1, pB 1), (2, pB 2), (3, pB 3), (4, pB 4), (5, pB 5), (11, slI n cap), (12, i6 n), (13, i6 i)], [intB 2 l, ⟨[slI n cap, i6 k], 24, true⟩, zW, zB, wB o N s, rBB s' o' N']⟩
def nL : List Nat := [1, 2, 3, 4, 5, 11, 12, 13]
theorem ints_get {l : List Int} {i : Nat} {x : Int} (h : l[i]? = some x) : (l.map (Value.int .i64)).getD (0 + ((i : Nat) : Int).toNat * 1) undef = i6 x := by
  rw [Int.toNat_natCast, Nat.zero_add, Nat.mul_one, List.getD_eq_getElem?_getD, List.getElem?_map, h]
  rfl
theorem ints_lt {l : List Int} {i : Nat} (h : i < l.length) : decide (0 + ((i : Nat) : Int).toNat * 1 < (l.map (Value.int .i64)).length) = true := decide_eq_true (by rw [Int.toNat_natCast, List.length_map]; omega)
def c62 : Int := 4611686018427387904
theorem n_round {l : List Int} {n cap : Nat} {k x : Int} {i : Nat} {o1 o2 o3 : Bool} {N1 N2 N3 : Nat} {s1 s2 s3 : Bool} {p1 q1 p2 q2 p3 q3 : Bool} {M1 M2 M3 : Nat} (hi : i < n) (hl : i < l.length) (h17 : i < 17) (hx : l[i]? = some x)
    (h1 : QC Tryz.prog 9 [.int .i64 4611686018427387904] (wR false 4611686018427387904 false)) (h2 : QC Tryz.prog 12 [wR o1 N1 s1, wR false 4611686018427387904 false] (wR o2 N2 s2)) (h3 : QC Tryz.prog 9 [.int .i64 x] (wR false x.natAbs (decide (x < 0)))) (h4 : QC Tryz.prog 11 [wR o2 N2 s2, wR false x.natAbs (decide (x < 0))] (wR o3 N3 s3))
    (g1 : MC Tryz.prog 10 [.int .i64 4611686018427387904] [] (rB false false 4611686018427387904) []) (g2 : MC Tryz.prog 14 [rB p1 q1 M1, rB false false 4611686018427387904] [] (rB p2 q2 M2) []) (g3 : MC Tryz.prog 10 [.int .i64 x] [] (rB (decide (x < 0)) false x.natAbs) []) (g4 : MC Tryz.prog 13 [rB p2 q2 M2, rB (decide (x < 0)) false x.natAbs] [] (rB p3 q3 M3) []) :
    Tri Tryz.prog (loopN Tryz.f4 0) (nS l n cap k i o1 N1 s1 p1 q1 M1) (to .normal (nS l n cap k (i + 1) o3 N3 s3 p3 q3 M3)) := by
  have t0 := tsC (ltI hi) <| tsC (ltI hi) <| tsC (ints_lt hl) <| tsC (tF (p := (i : Int) ≥ 17) (by omega)) <| tsC (wrapN (n := (i : Int) + 1) (m := i + 1) (by omega) (by omega)) ts0
  have t1 := qsC (ints_get hx) <| qsC h1 <| qsC h2 <| qsC h3 <| qsC h4 <| qsC g1 <| qsC g2 <| qsC g3 <| qsC g4 qs0
  cases o1 with
  | false => cases o2 with
    | false => cases o3 with
      | false => exact Tri.go mixed nL [.tst true, .is 2 (i6 x), .tst false, .res (wR false 4611686018427387904 false), .res (wR false N2 s2), .res (wR false x.natAbs (decide (x < 0))), .res (wR false N3 s3), .ab (rB false false 4611686018427387904), .ab (rB p2 q2 M2), .ab (rB (decide (x < 0)) false x.natAbs), .ab (rB p3 q3 M3), .at 2 (i6 ((i + 1 : Nat) : Int))] t0 t1 (by kernel_rfl)
      | true => exact Tri.go mixed nL [.tst true, .is 2 (i6 x), .tst false, .res (wR false 4611686018427387904 false), .res (wR false N2 s2), .res (wR false x.natAbs (decide (x < 0))), .res (wR true N3 s3), .ab (rB false false 4611686018427387904), .ab (rB p2 q2 M2), .ab (rB (decide (x < 0)) false x.natAbs), .ab (rB p3 q3 M3), .at 2 (i6 ((i + 1 : Nat) : Int))] t0 t1 (by kernel_rfl)
    | true => cases o3 with
      | false => exact Tri.go mixed nL [.tst true, .is 2 (i6 x), .tst false, .res (wR false 4611686018427387904 false), .res (wR true N2 s2), .res (wR false x.natAbs (decide (x < 0))), .res (wR false N3 s3), .ab (rB false false 4611686018427387904), .ab (rB p2 q2 M2), .ab (rB (decide (x < 0)) false x.natAbs), .ab (rB p3 q3 M3), .at 2 (i6 ((i + 1 : Nat) : Int))] t0 t1 (by kernel_rfl)
      | true => exact Tri.go mixed nL [.tst true, .is 2 (i6 x), .tst false, .res (wR false 4611686018427387904 false), .res (wR true N2 s2), .res (wR false x.natAbs (decide (x < 0))), .res (wR true N3 s3), .ab (rB false false 4611686018427387904), .ab (rB p2 q2 M2), .ab (rB (decide (x < 0)) false x.natAbs), .ab (rB p3 q3 M3), .at 2 (i6 ((i + 1 : Nat) : Int))] t0 t1 (by kernel_rfl)
  | true => cases o2 with
    | false => cases o3 with
      | false => exact Tri.go mixed nL [.tst true, .is 2 (i6 x), .tst false, .res (wR false 4611686018427387904 false), .res (wR false N2 s2), .res (wR false x.natAbs (decide (x < 0))), .res (wR false N3 s3), .ab (rB false false 4611686018427387904), .ab (rB p2 q2 M2), .ab (rB (decide (x < 0)) false x.natAbs), .ab (rB p3 q3 M3), .at 2 (i6 ((i + 1 : Nat) : Int))] t0 t1 (by kernel_rfl)
      | true => exact Tri.go mixed nL [.tst true, .is 2 (i6 x), .tst false, .res (wR false 4611686018427387904 false), .res (wR false N2 s2), .res (wR false x.natAbs (decide (x < 0))), .res (wR true N3 s3), .ab (rB false false 4611686018427387904), .ab (rB p2 q2 M2), .ab (rB (decide (x < 0)) false x.natAbs), .ab (rB p3 q3 M3), .at 2 (i6 ((i + 1 : Nat) : Int))] t0 t1 (by kernel_rfl)
    | true => cases o3 with
      | false => exact Tri.go mixed nL [.tst true, .is 2 (i6 x), .tst false, .res (wR false 4611686018427387904 false), .res (wR true N2 s2), .res (wR false x.natAbs (decide (x < 0))), .res (wR false N3 s3), .ab (rB false false 4611686018427387904), .ab (rB p2 q2 M2), .ab (rB (decide (x < 0)) false x.natAbs), .ab (rB p3 q3 M3), .at 2 (i6 ((i + 1 : Nat) : Int))] t0 t1 (by kernel_rfl)
      | true => exact Tri.go mixed nL [.tst true, .is 2 (i6 x), .tst false, .res (wR false 4611686018427387904 false), .res (wR true N2 s2), .res (wR false x.natAbs (decide (x < 0))), .res (wR true N3 s3), .ab (rB false false 4611686018427387904), .ab (rB p2 q2 M2), .ab (rB (decide (x < 0)) false x.natAbs), .ab (rB p3 q3 M3), .at 2 (i6 ((i + 1 : Nat) : Int))] t0 t1 (by kernel_rfl)
theorem n_end {l : List Int} {n cap : Nat} {k : Int} {o : Bool} {N : Nat} {s p q : Bool} {M : Nat} : Tri Tryz.prog (loopN Tryz.f4 0) (nS l n cap k n o N s p q M) (to (.exit 0) (nS l n cap k n o N s p q M)) := by
  cases o <;> exact Tri.go mixed nL [.tst false] (tsC (tF (p := (n : Int) < (n : Int)) (by omega)) ts0) qs0 (by kernel_rfl)
theorem n_end17 {l : List Int} {n cap : Nat} {k x : Int} {o : Bool} {N : Nat} {s p q : Bool} {M : Nat} (hi : 17 < n) (hl : 17 < l.length) (hx : l[17]? = some x) : Tri Tryz.prog (loopN Tryz.f4 0) (nS l n cap k 17 o N s p q M) (to (.exit 0) (nS l n cap k 17 o N s p q M)) := by
  cases o <;> exact Tri.go mixed nL [.tst true, .is 2 (i6 x)] (tsC (ltI hi) <| tsC (ltI hi) <| tsC (ints_lt hl) ts0) (qsC (ints_get hx) qs0) (by kernel_rfl)
theorem c62_eq : wv (some 4611686018427387904) = wR false 4611686018427387904 false := rfl
theorem r62_eq : rV (some 4611686018427387904) = rB false false 4611686018427387904 := rfl
theorem c62_wf : WF (some 4611686018427387904) := small_WF (by decide)
/-- One part more. -/
theorem n_step {l : List Int} {n cap : Nat} {k x : Int} {i : Nat} {A : Option Int} (hA : WF A) (hi : i < n) (hl : i < l.length) (h17 : i < 17) (hx : l[i]? = some x) (hr : I64 x) {o N s p q M o3 N3 s3 p3 q3 M3} (e1 : wv A = wR o N s) (e2 : rV A = rB p q M)
    (e3 : wv (wadd (wmul A (some 4611686018427387904)) (some x)) = wR o3 N3 s3) (e4 : rV (wadd (wmul A (some 4611686018427387904)) (some x)) = rB p3 q3 M3) :
    Tri Tryz.prog (loopN Tryz.f4 0) (nS l n cap k i o N s p q M) (to .normal (nS l n cap k (i + 1) o3 N3 s3 p3 q3 M3)) := by
  have xw : WF (some x) := small_WF (by have := hr.1; have := hr.2; omega)
  obtain ⟨o2, N2, s2, e5⟩ := wv_form (wmul A (some 4611686018427387904))
  obtain ⟨p2, q2, M2, e6⟩ := rV_form (wmul A (some 4611686018427387904))
  have h1 := QC.of_pc Go.Proofs.YtljolfnpncjklaaGreat.W.enters_of (of_pc (n := 4611686018427387904) (by omega) (by omega))
  have h2 := QC.of_pc enters_mul (mul_pc hA c62_wf)
  have h3 := QC.of_pc Go.Proofs.YtljolfnpncjklaaGreat.W.enters_of (of_pc hr.1 hr.2)
  have h4 := QC.of_pc enters_add (add_pc (wmul_wf A (some 4611686018427387904)) xw)
  have g1 := rOf_t (n := 4611686018427387904) (by omega) (by omega)
  have g2 := rMul_t hA c62_wf
  have g3 := rOf_t hr.1 hr.2
  have g4 := rAdd_t (wmul_wf A (some 4611686018427387904)) xw
  rw [e1, e5] at h2
  rw [e5, e3] at h4
  rw [e2, e6] at g2
  rw [e6, e4] at g4
  exact n_round hi hl h17 hx h1 h2 h3 h4 g1 g2 g3 g4
theorem n_loop {l : List Int} {cap : Nat} {k : Int} (hl : ∀ x ∈ l, I64 x) {o N s p q M} (e1 : wv (accN (l.take 17) (some 0)) = wR o N s) (e2 : rV (accN (l.take 17) (some 0)) = rB p q M) :
    TriL Tryz.prog (loopN Tryz.f4 0) (nS l l.length cap k 0 false 0 false false false 0) (to (.exit 0) (nS l l.length cap k (min l.length 17) o N s p q M)) := by
  have hz : ∀ i, WF (accN (l.take i) (some 0)) := fun i => accN_wf _ zero_wf
  have hw : ∀ A, ∃ o N s, wv A = wR o N s := wv_form
  -- the two forms of each number
  let wo : Option Int → Bool := fun A => A.isNone
  let wn : Option Int → Nat := fun A => match A with | none => 0 | some z => z.natAbs
  let ws : Option Int → Bool := fun A => match A with | none => false | some z => decide (z < 0)
  have hwv : ∀ A, wv A = wR (wo A) (wn A) (ws A) := fun A => by cases A <;> rfl
  have hrv : ∀ A, rV A = rB (ws A) (wo A) (wn A) := fun A => by cases A <;> rfl
  have h := TriL.count (P := Tryz.prog) (c := loopN Tryz.f4 0) (e := .exit 0) (S' := nS l l.length cap k (min l.length 17) o N s p q M)
    (fun i => nS l l.length cap k i (wo (accN (l.take i) (some 0))) (wn (accN (l.take i) (some 0))) (ws (accN (l.take i) (some 0))) (ws (accN (l.take i) (some 0))) (wo (accN (l.take i) (some 0))) (wn (accN (l.take i) (some 0)))) (by simp) (min l.length 17) (fun i hi => ?_) ?_
  · exact h
  · have hil : i < l.length := by omega
    have hx : l[i]? = some l[i] := List.getElem?_eq_getElem hil
    refine n_step (hz i) hil hil (by omega) hx (hl _ (List.getElem_mem hil)) (hwv _) (hrv _) ?_ ?_
    · rw [accN_take hx]; exact hwv _
    · rw [accN_take hx]; exact hrv _
  · have et : l.take (min l.length 17) = l.take 17 := by
      rcases Nat.le_total l.length 17 with h | h
      · rw [Nat.min_eq_left h, List.take_of_length_le (Nat.le_refl _), List.take_of_length_le h]
      · rw [Nat.min_eq_right h]
    have f1 : wR (wo (accN (l.take 17) (some 0))) (wn (accN (l.take 17) (some 0))) (ws (accN (l.take 17) (some 0))) = wR o N s := (hwv _).symm.trans e1
    have f2 : rB (ws (accN (l.take 17) (some 0))) (wo (accN (l.take 17) (some 0))) (wn (accN (l.take 17) (some 0))) = rB p q M := (hrv _).symm.trans e2
    have eS : nS l l.length cap k (min l.length 17) (wo (accN (l.take (min l.length 17)) (some 0))) (wn (accN (l.take (min l.length 17)) (some 0))) (ws (accN (l.take (min l.length 17)) (some 0))) (ws (accN (l.take (min l.length 17)) (some 0))) (wo (accN (l.take (min l.length 17)) (some 0))) (wn (accN (l.take (min l.length 17)) (some 0))) = nS l l.length cap k (min l.length 17) o N s p q M := by
      rw [et]
      unfold nS wB
      rw [f1]
      have f3 : ∀ a b c, rBB a b c = ⟨(rB a b c).cells.toList, 36, true⟩ := fun _ _ _ => rfl
      rw [f3, f3, f2]
    rw [eS]
    rcases Nat.lt_or_ge 17 l.length with h | h
    · rw [Nat.min_eq_right (by omega)]
      exact n_end17 h h (List.getElem?_eq_getElem h)
    · rw [Nat.min_eq_left h]
      exact n_end
theorem enters_nOf : ∀ us w, (callFunc 4 us).run Tryz.prog w = .ok (.enter 4 us) w := enters Tryz.func4 rfl (by kernel_rfl)
theorem ints_noNew (l : List Int) : (l.map (Value.int .i64)).all (noNew1 1) = true := by
  rw [List.all_map, List.all_eq_true]
  intro x _
  rfl
theorem ints_flat (l : List Int) : (l.map (Value.int .i64)).all flat1 = true := by
  rw [List.all_map, List.all_eq_true]
  intro x _
  rfl
def numR (o : Bool) (N : Nat) (s p q : Bool) (M : Nat) : Value := .tuple #[wR o N s, rB p q M]
theorem nOf_run {l : List Int} {n cap m : Nat} {k : Int} {o1 o2 : Bool} {N1 N2 : Nat} {s1 s2 p1 q1 p2 q2 : Bool} {M1 M2 : Nat} (hn : (l.map (Value.int .i64)).all (noNew1 1) = true) (h0 : QC Tryz.prog 9 [.int .i64 0] (wR false 0 false)) (g0 : MC Tryz.prog 10 [.int .i64 0] [] (rB false false 0) [])
    (hl : TriL Tryz.prog (loopN Tryz.f4 0) (nS l n cap k 0 false 0 false false false 0) (to (.exit 0) (nS l n cap k m o1 N1 s1 p1 q1 M1))) (h1 : QC Tryz.prog 15 [wR o1 N1 s1, .int .i64 k] (wR o2 N2 s2)) (g1 : MC Tryz.prog 16 [rB p1 q1 M1, .int .i64 k] [] (rB p2 q2 M2) []) :
    MC Tryz.prog 4 [.agg #[slI n cap, i6 k]] [intB 2 l] (numR o2 N2 s2 p2 q2 M2) [intB 2 l] := by
  cases o1 with
  | false => cases o2 with
    | false => exact MC.run mixed Tryz.func4 [.res (wR false 0 false), .ab (rB false false 0), .cut nL (.exit 0) (nS l n cap k m false N1 s1 p1 q1 M1), .res (wR false N2 s2), .ab (rB p2 q2 M2)] (ts1 hn) (qsC h0 <| qsC g0 <| qsC hl <| qsC h1 <| qsC g1 qs0) rfl rfl enters_nOf (by kernel_rfl)
    | true => exact MC.run mixed Tryz.func4 [.res (wR false 0 false), .ab (rB false false 0), .cut nL (.exit 0) (nS l n cap k m false N1 s1 p1 q1 M1), .res (wR true N2 s2), .ab (rB p2 q2 M2)] (ts1 hn) (qsC h0 <| qsC g0 <| qsC hl <| qsC h1 <| qsC g1 qs0) rfl rfl enters_nOf (by kernel_rfl)
  | true => cases o2 with
    | false => exact MC.run mixed Tryz.func4 [.res (wR false 0 false), .ab (rB false false 0), .cut nL (.exit 0) (nS l n cap k m true N1 s1 p1 q1 M1), .res (wR false N2 s2), .ab (rB p2 q2 M2)] (ts1 hn) (qsC h0 <| qsC g0 <| qsC hl <| qsC h1 <| qsC g1 qs0) rfl rfl enters_nOf (by kernel_rfl)
    | true => exact MC.run mixed Tryz.func4 [.res (wR false 0 false), .ab (rB false false 0), .cut nL (.exit 0) (nS l n cap k m true N1 s1 p1 q1 M1), .res (wR true N2 s2), .ab (rB p2 q2 M2)] (ts1 hn) (qsC h0 <| qsC g0 <| qsC hl <| qsC h1 <| qsC g1 qs0) rfl rfl enters_nOf (by kernel_rfl)
theorem nOf_nil {k : Int} {o2 : Bool} {N2 : Nat} {s2 p2 q2 : Bool} {M2 : Nat} (h0 : QC Tryz.prog 9 [.int .i64 0] (wR false 0 false)) (g0 : MC Tryz.prog 10 [.int .i64 0] [] (rB false false 0) [])
    (h1 : QC Tryz.prog 15 [wR false 0 false, .int .i64 k] (wR o2 N2 s2)) (g1 : MC Tryz.prog 16 [rB false false 0, .int .i64 k] [] (rB p2 q2 M2) []) :
    MC Tryz.prog 4 [.agg #[tk 0 0, i6 k]] [] (numR o2 N2 s2 p2 q2 M2) [] := by
  cases o2 with
  | false => exact AC.runA mixed Tryz.func4 [.res (wR false 0 false), .ab (rB false false 0), .res (wR false N2 s2), .ab (rB p2 q2 M2)] ts0 (qsC h0 <| qsC g0 <| qsC h1 <| qsC g1 qs0) rfl enters_nOf (by kernel_rfl)
  | true => exact AC.runA mixed Tryz.func4 [.res (wR false 0 false), .ab (rB false false 0), .res (wR true N2 s2), .ab (rB p2 q2 M2)] ts0 (qsC h0 <| qsC g0 <| qsC h1 <| qsC g1 qs0) rfl enters_nOf (by kernel_rfl)
theorem abs_numR (o : Bool) (N : Nat) (s p q : Bool) (M : Nat) : absV (numR o N s p q M) = true := by cases o <;> rfl
theorem okV_numR (n : Nat) (o : Bool) (N : Nat) (s p q : Bool) (M : Nat) : okV n (numR o N s p q M) = true := by cases o <;> rfl
def numOut (A : Option Int) : Value := .tuple #[wv A, rV A]
/-- A number made, in whatever memory holds its parts. -/
theorem nOf_at {l : List Int} {j cap : Nat} {k : Int} {mem : Mem} {C : Blk} (hl : ∀ x ∈ l, I64 x) (hk : I64 k) (hC : mem[j]? = some C) (hc : C.cells = l.map (Value.int .i64)) :
    MC Tryz.prog 4 [numV j l cap k] mem (numOut (numA l k)) mem := by
  obtain ⟨o1, N1, s1, e1⟩ := wv_form (accN (l.take 17) (some 0))
  obtain ⟨p1, q1, M1, e2⟩ := rV_form (accN (l.take 17) (some 0))
  obtain ⟨o2, N2, s2, e3⟩ := wv_form (numA l k)
  obtain ⟨p2, q2, M2, e4⟩ := rV_form (numA l k)
  have hw := accN_wf (l.take 17) zero_wf
  have h0 := QC.of_pc Go.Proofs.YtljolfnpncjklaaGreat.W.enters_of (of_pc (n := 0) (by omega) (by omega))
  have g0 := rOf_t (n := 0) (by omega) (by omega)
  have h1 := QC.of_pc enters_shift (shift_pc hw hk.1 hk.2)
  have g1 := rShift_t hw hk.1 hk.2
  unfold numOut
  have e5 : wshift (accN (l.take 17) (some 0)) k = numA l k := rfl
  rw [e5] at h1 g1
  rw [e1, e3] at h1
  rw [e2, e4] at g1
  rw [e3, e4]
  cases l with
  | nil =>
    have f1 : wR false 0 false = wR o1 N1 s1 := e1
    have f2 : rB false false 0 = rB p1 q1 M1 := e2
    rw [← f1] at h1
    rw [← f2] at g1
    have h := nOf_nil h0 g0 h1 g1
    have key := MC.frame (σ := []) (mem0 := []) (news := []) (mem := mem) h rfl (fun X hX => by cases hX) (fun X hX => by cases hX) (fun i' k' X h1 h2 => by cases h1) rfl (fun i hi => absurd hi (Nat.not_lt_zero i)) (okV_numR _ _ _ _ _ _ _)
    rw [fV_abs (abs_numR _ _ _ _ _ _), List.append_nil] at key
    exact key
  | cons a l =>
    have hloop := n_loop (cap := cap) (k := k) hl e1 e2
    have h := nOf_run (ints_noNew (a :: l)) h0 g0 hloop h1 g1
    have key := MC.frame (σ := [j]) (mem0 := [intB 2 (a :: l)]) (news := []) (mem := mem) h rfl (fun X hX => by
      cases hX with
      | head => exact ⟨rfl, ints_flat (a :: l)⟩
      | tail _ h => cases h) (fun X hX => by cases hX) (fun i k' X h1 h2 => by
      cases i with
      | zero => cases h1; cases h2; exact ⟨C, hC, hc⟩
      | succ i => cases h1) rfl (fun i hi => by
      have : i = 0 := by simpa using hi
      subst this
      rfl) (okV_numR _ _ _ _ _ _ _)
    rw [fV_abs (abs_numR _ _ _ _ _ _), List.append_nil] at key
    exact key
end Go.Proofs.YtljolfnpncjklaaGreat.R
