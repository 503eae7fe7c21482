/-
  The reference, on numbers whose words nobody writes any more: plus, minus, cmp, times.
-/
import Derived.Test.YtljolfnpncjklaaGreatTokA
/-! The reference: plus, minus, cmp, times. -/
namespace Go.Ev
section
variable {P : Program}
theorem TriL.leave {c : Code} {S S' : St} {x : Exit} (hx : x ≠ .normal) (h : Tri P c S (to x S')) : TriL P c S (to x S') :=
  TriL.step (h.mono fun e S1 ⟨h1, h2⟩ => by
    subst h1 h2
    cases e with
    | normal => exact absurd rfl hx
    | _ => exact ⟨rfl, rfl⟩)
theorem TriL.again {c : Code} {S S1 : St} {Q : Exit → St → Prop} (h : Tri P c S (to .normal S1)) (h' : TriL P c S1 Q) : TriL P c S Q :=
  TriL.step (h.mono fun e S2 ⟨h1, h2⟩ => by
    subst h1 h2
    exact h')
end
end Go.Ev
namespace Go.Proofs.YtljolfnpncjklaaGreat.R
open Go Go.Ev Go.W32
open Go.Proofs.YtljolfnpncjklaaGreat.W (mixed rsl i64_wrap u64_wrap u32_wrap bitLen_lt_iff enters_trim enters_rbits)

def out (m : Nat) (f : Nat → Nat) : Blk := ⟨cells m f, 77, true⟩
theorem cells_word {m N i : Nat} (h : i < m) : (cells m (wd N))[0 + i]? = some (word32 N i) := by
  unfold cells
  rw [Nat.zero_add, List.getElem?_map, List.getElem?_range h]
  rfl
/-- A result of words over a block, and what stands for it. -/
theorem Frz1.rsl {mem : Mem} {k n m N : Nat} {C : Blk} (hC : mem[k]? = some C) (hc : C.cells = cells m (wd N)) (hn : n ≤ m) : Frz1 mem (rsl k n m) (tk N n) :=
  .inr (.inl ⟨N, n, k, 0, m, C, rfl, rfl, hn, hC, fun i hi => by rw [hc]; exact cells_word (by omega)⟩)
theorem Frz.rsl {mem : Mem} {k n m N : Nat} {C : Blk} (hC : mem[k]? = some C) (hc : C.cells = cells m (wd N)) (hn : n ≤ m) : Frz mem (rsl k n m) (tk N n) := .inr (.inr (Frz1.rsl hC hc hn))

/-! ### plus -/
def plS (X n0 Y n1 c i : Nat) (q : List Value) : St := ⟨slots 58 [(0, tk X n0), (1, tk Y n1), (5, rsl 0 (n0 + 1) (n0 + 1)), (6, u6 c), (20, .int .i64 n0), (21, .int .i64 i)], [⟨q, 77, true⟩]⟩
def plL : List Nat := [0, 1, 5, 6, 20, 21]
theorem pl_in {X n0 Y n1 c i a b x y lo hi m : Nat} {f : Nat → Nat} (hi0 : i < n0) (hi1 : i < n1) (hm : i < m) (ha : wd X i = a) (hb : wd Y i = b) (hx : c + a = x) (hy : x + b = y) (hy2 : y < 18446744073709551616) (hlo : y % 4294967296 = lo) (hhi : y / 4294967296 = hi) (hbig : n0 < 1000000) :
    Tri Tryz.prog (loopN Tryz.f43 0) (plS X n0 Y n1 c i (cells m f)) (to .normal (plS X n0 Y n1 hi (i + 1) (cells m (fun t => if t = i then lo else f t)))) := by
  rw [← cells_set]
  have o1 : word32 X ((i : Nat) : Int).toNat = u3 a := by rw [tk_get, ha]
  have o2 : word32 Y ((i : Nat) : Int).toNat = u3 b := by rw [tk_get, hb]
  exact Tri.go mixed plL [.tst true, .is 6 (u3 a), .at 0 (u6 a), .at 0 (u6 x), .tst true, .is 4 (u3 b), .at 0 (u6 b), .at 0 (u6 y), .at 4 (u3 lo), .at 4 (u6 hi), .at 1 (.int .i64 ((i + 1 : Nat) : Int))]
    (tsC (ltI hi0) <| tsC (ltI hi0) <| tsC (wrapU (n := (a : Int)) (m := a) rfl (by omega)) <| tsC (wrapU (n := (c : Int) + (a : Int)) (m := x) (by omega) (by omega)) <| tsC (ltI hi1) <| tsC (ltI hi1) <| tsC (wrapU (n := (b : Int)) (m := b) rfl (by omega)) <| tsC (wrapU (n := (x : Int) + (b : Int)) (m := y) (by omega) (by omega)) <| tsC (wrap32 hlo) <| tsC (ltI (j := i) (n := n0 + 1) (by omega)) <| tsC (ltL (f := f) hm) <| tsC (shr32 hhi) <| tsC (wrapN (n := (i : Int) + 1) (m := i + 1) (by omega) (by omega)) ts0)
    (qs2 o1 o2) (by kernel_rfl)
theorem pl_out {X n0 Y n1 c i a x lo hi m : Nat} {f : Nat → Nat} (hi0 : i < n0) (hi1 : ¬ i < n1) (hm : i < m) (ha : wd X i = a) (hx : c + a = x) (hx2 : x < 18446744073709551616) (hlo : x % 4294967296 = lo) (hhi : x / 4294967296 = hi) (hbig : n0 < 1000000) :
    Tri Tryz.prog (loopN Tryz.f43 0) (plS X n0 Y n1 c i (cells m f)) (to .normal (plS X n0 Y n1 hi (i + 1) (cells m (fun t => if t = i then lo else f t)))) := by
  rw [← cells_set]
  have o1 : word32 X ((i : Nat) : Int).toNat = u3 a := by rw [tk_get, ha]
  exact Tri.go mixed plL [.tst true, .is 6 (u3 a), .at 0 (u6 a), .at 0 (u6 x), .tst false, .at 3 (u3 lo), .at 4 (u6 hi), .at 1 (.int .i64 ((i + 1 : Nat) : Int))]
    (tsC (ltI hi0) <| tsC (ltI hi0) <| tsC (wrapU (n := (a : Int)) (m := a) rfl (by omega)) <| tsC (wrapU (n := (c : Int) + (a : Int)) (m := x) (by omega) (by omega)) <| tsC (tF (p := (i : Int) < (n1 : Int)) (by omega)) <| tsC (wrap32 hlo) <| tsC (ltI (j := i) (n := n0 + 1) (by omega)) <| tsC (ltL (f := f) hm) <| tsC (shr32 hhi) <| tsC (wrapN (n := (i : Int) + 1) (m := i + 1) (by omega) (by omega)) ts0)
    (qs1 o1) (by kernel_rfl)
theorem pl_end {X n0 Y n1 c m : Nat} {f : Nat → Nat} : Tri Tryz.prog (loopN Tryz.f43 0) (plS X n0 Y n1 c n0 (cells m f)) (to (.exit 0) (plS X n0 Y n1 c n0 (cells m f))) := by
  exact Tri.go mixed plL [.tst false] (tsC (tF (p := (n0 : Int) < (n0 : Int)) (by omega)) ts0) qs0 (by kernel_rfl)
/-- Words of the sum, as far as they are made. -/
def sumW (X Y i t : Nat) : Nat := if t < i then wd (X + Y) t else 0
theorem pl_loop {X n0 Y n1 : Nat} (hbig : n0 < 1000) (hY : Y < 2 ^ (32 * n1)) :
    TriL Tryz.prog (loopN Tryz.f43 0) (plS X n0 Y n1 0 0 (cells (n0 + 1) fun _ => 0)) (to (.exit 0) (plS X n0 Y n1 (car X Y n0) n0 (cells (n0 + 1) (sumW X Y n0)))) := by
  have h := TriL.count (P := Tryz.prog) (c := loopN Tryz.f43 0) (e := .exit 0) (fun i => plS X n0 Y n1 (car X Y i) i (cells (n0 + 1) (sumW X Y i))) (by simp) n0 (fun i hi => ?_) pl_end
  · have e : sumW X Y 0 = fun _ => 0 := funext fun t => if_neg (by omega)
    rw [car_zero, e] at h
    exact h
  · have hc := car_le X Y i
    have ha := wd_lt X i
    have hb := wd_lt Y i
    have hw := wd_add X Y i
    have hcs := car_succ X Y i
    have hf : (fun t => if t = i then wd (X + Y) i else sumW X Y i t) = sumW X Y (i + 1) := funext fun t => by
      unfold sumW
      by_cases h1 : t = i
      · rw [if_pos h1, if_pos (by omega), h1]
      · rw [if_neg h1]
        by_cases h2 : t < i
        · rw [if_pos h2, if_pos (by omega)]
        · rw [if_neg h2, if_neg (by omega)]
    show Tri _ _ (plS X n0 Y n1 (car X Y i) i (cells (n0 + 1) (sumW X Y i))) (to _ (plS X n0 Y n1 (car X Y (i + 1)) (i + 1) (cells (n0 + 1) (sumW X Y (i + 1)))))
    rw [← hf]
    by_cases h2 : i < n1
    · exact pl_in hi h2 (by omega) rfl rfl rfl rfl (by omega) (by rw [hw]; congr 1; omega) (by rw [hcs]; congr 1; omega) (by omega)
    · have hz : wd Y i = 0 := wd_eq_zero (Nat.lt_of_lt_of_le hY (Nat.pow_le_pow_right (by omega) (by omega)))
      exact pl_out hi h2 (by omega) rfl rfl (by omega) (by rw [hw, hz]; congr 1; omega) (by rw [hcs, hz]; congr 1; omega) (by omega)
theorem enters_rplus : ∀ us w, (callFunc 43 us).run Tryz.prog w = .ok (.enter 43 us) w := enters Tryz.func43 rfl (by kernel_rfl)
/-- The out block with the last word set. -/
def setB (m j v : Nat) (f : Nat → Nat) : Blk := ⟨(cells m f).set (0 + ((j : Nat) : Int).toNat * 1) (u3 v), 77, true⟩
theorem setB_eq (m j v : Nat) (f : Nat → Nat) : setB m j v f = out m (fun t => if t = j then v else f t) := by
  unfold setB out
  rw [← cells_set]
  rfl
theorem pl_fn0 {X n0 Y n1 c lo t N : Nat} {f : Nat → Nat} (hlt : ¬ n0 < n1) (hbig : n0 < 1000) (hlo : c % 4294967296 = lo)
    (hl : TriL Tryz.prog (loopN Tryz.f43 0) (plS X n0 Y n1 0 0 (List.replicate (((n0 + 1 : Nat) : Int)).toNat (Value.int .u32 0))) (to (.exit 0) (plS X n0 Y n1 c n0 (cells (n0 + 1) f))))
    (ht : MC Tryz.prog 77 [rsl 0 (n0 + 1) (n0 + 1)] [setB (n0 + 1) n0 lo f] (rsl 0 t (n0 + 1)) [setB (n0 + 1) n0 lo f]) (hz : Frz [setB (n0 + 1) n0 lo f] (rsl 0 t (n0 + 1)) (tk N t)) :
    MC Tryz.prog 43 [tk X n0, tk Y n1] [] (tk N t) [] :=
  AC.run mixed Tryz.func43 [.tst false, .at 2 (.int .i64 ((n0 + 1 : Nat) : Int)), .cut plL (.exit 0) (plS X n0 Y n1 c n0 (cells (n0 + 1) f)), .at 4 (u3 lo), .mem (rsl 0 t (n0 + 1)) [setB (n0 + 1) n0 lo f]]
    ((tsC (tF (p := (n0 : Int) < (n1 : Int)) (by omega)) <| tsC (wrapN (n := (n0 : Int) + 1) (m := n0 + 1) (by omega) (by omega)) <| tsC (mkOk (n := n0 + 1) (by omega)) <| tsC (wrap32 hlo) <| tsC (ltI (j := n0) (n := n0 + 1) (by omega)) <| tsC (ltL (f := f) (m := n0 + 1) (j := n0) (by omega)) ts0))
    (qs2 hl ht) hz enters_rplus (by kernel_rfl)
theorem pl_fn1 {X n0 Y n1 c lo t N : Nat} {f : Nat → Nat} (hlt : n1 < n0) (hbig : n0 < 1000) (hlo : c % 4294967296 = lo)
    (hl : TriL Tryz.prog (loopN Tryz.f43 0) (plS X n0 Y n1 0 0 (List.replicate (((n0 + 1 : Nat) : Int)).toNat (Value.int .u32 0))) (to (.exit 0) (plS X n0 Y n1 c n0 (cells (n0 + 1) f))))
    (ht : MC Tryz.prog 77 [rsl 0 (n0 + 1) (n0 + 1)] [setB (n0 + 1) n0 lo f] (rsl 0 t (n0 + 1)) [setB (n0 + 1) n0 lo f]) (hz : Frz [setB (n0 + 1) n0 lo f] (rsl 0 t (n0 + 1)) (tk N t)) :
    MC Tryz.prog 43 [tk Y n1, tk X n0] [] (tk N t) [] :=
  AC.run mixed Tryz.func43 [.tst true, .at 6 (.int .i64 ((n0 + 1 : Nat) : Int)), .cut plL (.exit 0) (plS X n0 Y n1 c n0 (cells (n0 + 1) f)), .at 4 (u3 lo), .mem (rsl 0 t (n0 + 1)) [setB (n0 + 1) n0 lo f]]
    ((tsC (ltI hlt) <| tsC (wrapN (n := (n0 : Int) + 1) (m := n0 + 1) (by omega) (by omega)) <| tsC (mkOk (n := n0 + 1) (by omega)) <| tsC (wrap32 hlo) <| tsC (ltI (j := n0) (n := n0 + 1) (by omega)) <| tsC (ltL (f := f) (m := n0 + 1) (j := n0) (by omega)) ts0))
    (qs2 hl ht) hz enters_rplus (by kernel_rfl)
theorem pl_last {X Y n0 : Nat} (hX : X < 2 ^ (32 * n0)) (hY : Y < 2 ^ (32 * n0)) : out (n0 + 1) (fun t => if t = n0 then car X Y n0 % 4294967296 else sumW X Y n0 t) = blk true (n0 + 1) (X + Y) := by
  have hc := car_le X Y n0
  have hw := wd_add X Y n0
  rw [wd_eq_zero hX, wd_eq_zero hY] at hw
  unfold out blk
  congr 1
  refine cells_congr fun t ht => ?_
  unfold sumW
  by_cases h : t = n0
  · rw [if_pos h, h, hw]
    congr 1
    omega
  · rw [if_neg h, if_pos (by omega)]
/-- The sum. -/
theorem plus_t {A B na nb : Nat} (hA : A < 2 ^ (32 * na)) (hB : B < 2 ^ (32 * nb)) (hna : na < 500) (hnb : nb < 500) :
    MC Tryz.prog 43 [tk A na, tk B nb] [] (tk (A + B) (nw (A + B))) [] := by
  have hp : ∀ a b : Nat, a ≤ b → (2 : Nat) ^ (32 * a) ≤ 2 ^ (32 * b) := fun a b h => Nat.pow_le_pow_right (by omega) (by omega)
  have hsum : ∀ X Y n : Nat, X < 2 ^ (32 * n) → Y < 2 ^ (32 * n) → X + Y < 2 ^ (32 * (n + 1)) := fun X Y n hx hy => by
    rw [pow_succ32]
    omega
  by_cases h : na < nb
  · have hA' := Nat.lt_of_lt_of_le hA (hp na nb (by omega))
    have hl := pl_loop (X := B) (n0 := nb) (Y := A) (n1 := na) (by omega) hA
    rw [← cells_rep] at hl
    have e : setB (nb + 1) nb (car B A nb % 4294967296) (sumW B A nb) = blk true (nb + 1) (A + B) := by rw [setB_eq, pl_last hB hA', Nat.add_comm B A]
    have hs := hsum A B nb hA' hB
    exact pl_fn1 (X := B) (n0 := nb) (Y := A) (n1 := na) (t := nw (A + B)) (N := A + B) h (by omega) rfl hl (by
      rw [e]
      exact trim_at (C := blk true (nb + 1) (A + B)) hs (Nat.le_refl _) (by omega) rfl rfl) (by rw [e]; exact Frz.rsl (C := blk true (nb + 1) (A + B)) rfl rfl (nw_le hs))
  · have hB' := Nat.lt_of_lt_of_le hB (hp nb na (by omega))
    have hl := pl_loop (X := A) (n0 := na) (Y := B) (n1 := nb) (by omega) hB
    rw [← cells_rep] at hl
    have e : setB (na + 1) na (car A B na % 4294967296) (sumW A B na) = blk true (na + 1) (A + B) := by rw [setB_eq, pl_last hA hB']
    have hs := hsum A B na hA hB'
    exact pl_fn0 (X := A) (n0 := na) (Y := B) (n1 := nb) (t := nw (A + B)) (N := A + B) h (by omega) rfl hl (by
      rw [e]
      exact trim_at (C := blk true (na + 1) (A + B)) hs (Nat.le_refl _) (by omega) rfl rfl) (by rw [e]; exact Frz.rsl (C := blk true (na + 1) (A + B)) rfl rfl (nw_le hs))

/-! ### minus -/
def i6 (n : Int) : Value := .int .i64 n
def miS (X n0 Y n1 : Nat) (c : Int) (i : Nat) (q : List Value) : St := ⟨slots 44 [(0, tk X n0), (1, tk Y n1), (5, rsl 0 n0 n0), (6, i6 c), (12, .int .i64 n0), (13, .int .i64 i)], [⟨q, 77, true⟩]⟩
def miL : List Nat := [0, 1, 5, 6, 12, 13]
theorem wrapI {n z : Int} (h : n = z) (h0 : -9223372036854775808 ≤ z) (h1 : z ≤ 9223372036854775807) : decide (IntKind.i64.wrap n = z) = true := by
  rw [h, i64_wrap (by omega) (by omega)]
  exact decide_eq_true rfl
theorem wrap32I {x : Int} {lo : Nat} (h : x % 4294967296 = lo) : decide (IntKind.u32.wrap x = (lo : Int)) = true := decide_eq_true (by rw [u32_wrap]; exact h)
theorem shr32I {x c : Int} (h : x / 4294967296 = c) : decide (x.fdiv (2 ^ (min (Int.toNat 32) 64)) = c) = true := decide_eq_true (by
  have e : ((2 : Int) ^ (min (Int.toNat 32) 64)) = 4294967296 := by decide
  rw [e, Int.fdiv_eq_ediv_of_nonneg _ (by omega)]
  exact h)
theorem mi_in {X n0 Y n1 i a b lo m : Nat} {c x y c' : Int} {f : Nat → Nat} (hi0 : i < n0) (hi1 : i < n1) (hm : i < m) (ha : wd X i = a) (hb : wd Y i = b) (ha2 : a < 4294967296) (hb2 : b < 4294967296) (hc0 : -1 ≤ c) (hc1 : c ≤ 0) (hx : c + a = x) (hy : x - b = y) (hlo : y % 4294967296 = lo) (hc' : y / 4294967296 = c') (hbig : n0 < 1000000) :
    Tri Tryz.prog (loopN Tryz.f45 0) (miS X n0 Y n1 c i (cells m f)) (to .normal (miS X n0 Y n1 c' (i + 1) (cells m (fun t => if t = i then lo else f t)))) := by
  rw [← cells_set]
  have o1 : word32 X ((i : Nat) : Int).toNat = u3 a := by rw [tk_get, ha]
  have o2 : word32 Y ((i : Nat) : Int).toNat = u3 b := by rw [tk_get, hb]
  exact Tri.go mixed miL [.tst true, .is 6 (u3 a), .at 0 (i6 a), .at 0 (i6 x), .tst true, .is 4 (u3 b), .at 0 (i6 b), .at 0 (i6 y), .at 4 (u3 lo), .at 4 (i6 c'), .at 1 (.int .i64 ((i + 1 : Nat) : Int))]
    (tsC (ltI hi0) <| tsC (ltI hi0) <| tsC (wrapI (n := (a : Int)) (z := (a : Int)) rfl (by omega) (by omega)) <| tsC (wrapI (n := c + (a : Int)) (z := x) hx (by omega) (by omega)) <| tsC (ltI hi1) <| tsC (ltI hi1) <| tsC (wrapI (n := (b : Int)) (z := (b : Int)) rfl (by omega) (by omega)) <| tsC (wrapI (n := x - (b : Int)) (z := y) hy (by omega) (by omega)) <| tsC (wrap32I hlo) <| tsC (ltI hi0) <| tsC (ltL (f := f) hm) <| tsC (shr32I hc') <| tsC (wrapN (n := (i : Int) + 1) (m := i + 1) (by omega) (by omega)) ts0)
    (qs2 o1 o2) (by kernel_rfl)
theorem mi_out {X n0 Y n1 i a lo m : Nat} {c x c' : Int} {f : Nat → Nat} (hi0 : i < n0) (hi1 : ¬ i < n1) (hm : i < m) (ha : wd X i = a) (ha2 : a < 4294967296) (hc0 : -1 ≤ c) (hc1 : c ≤ 0) (hx : c + a = x) (hlo : x % 4294967296 = lo) (hc' : x / 4294967296 = c') (hbig : n0 < 1000000) :
    Tri Tryz.prog (loopN Tryz.f45 0) (miS X n0 Y n1 c i (cells m f)) (to .normal (miS X n0 Y n1 c' (i + 1) (cells m (fun t => if t = i then lo else f t)))) := by
  rw [← cells_set]
  have o1 : word32 X ((i : Nat) : Int).toNat = u3 a := by rw [tk_get, ha]
  exact Tri.go mixed miL [.tst true, .is 6 (u3 a), .at 0 (i6 a), .at 0 (i6 x), .tst false, .at 3 (u3 lo), .at 4 (i6 c'), .at 1 (.int .i64 ((i + 1 : Nat) : Int))]
    (tsC (ltI hi0) <| tsC (ltI hi0) <| tsC (wrapI (n := (a : Int)) (z := (a : Int)) rfl (by omega) (by omega)) <| tsC (wrapI (n := c + (a : Int)) (z := x) hx (by omega) (by omega)) <| tsC (tF (p := (i : Int) < (n1 : Int)) (by omega)) <| tsC (wrap32I hlo) <| tsC (ltI hi0) <| tsC (ltL (f := f) hm) <| tsC (shr32I hc') <| tsC (wrapN (n := (i : Int) + 1) (m := i + 1) (by omega) (by omega)) ts0)
    (qs1 o1) (by kernel_rfl)
theorem mi_end {X n0 Y n1 m : Nat} {c : Int} {f : Nat → Nat} : Tri Tryz.prog (loopN Tryz.f45 0) (miS X n0 Y n1 c n0 (cells m f)) (to (.exit 0) (miS X n0 Y n1 c n0 (cells m f))) :=
  Tri.go mixed miL [.tst false] (tsC (tF (p := (n0 : Int) < (n0 : Int)) (by omega)) ts0) qs0 (by kernel_rfl)
/-- Words of the difference, as far as they are made. -/
def difW (X Y i t : Nat) : Nat := if t < i then wd (X - Y) t else 0
theorem mi_loop {X n0 Y n1 : Nat} (hbig : n0 < 1000) (hY : Y < 2 ^ (32 * n1)) (hle : Y ≤ X) :
    TriL Tryz.prog (loopN Tryz.f45 0) (miS X n0 Y n1 0 0 (cells n0 fun _ => 0)) (to (.exit 0) (miS X n0 Y n1 (-(bor X Y n0 : Int)) n0 (cells n0 (difW X Y n0)))) := by
  have h := TriL.count (P := Tryz.prog) (c := loopN Tryz.f45 0) (e := .exit 0) (fun i => miS X n0 Y n1 (-(bor X Y i : Int)) i (cells n0 (difW X Y i))) (by simp) n0 (fun i hi => ?_) mi_end
  · have e : difW X Y 0 = fun _ => 0 := funext fun t => if_neg (by omega)
    rw [bor_zero, e] at h
    exact h
  · have hc := bor_le X Y i
    have ha := wd_lt X i
    have hb := wd_lt Y i
    have hw := wd_sub hle i
    have hcs := bor_succ hle i
    have hf : (fun t => if t = i then wd (X - Y) i else difW X Y i t) = difW X Y (i + 1) := funext fun t => by
      unfold difW
      by_cases h1 : t = i
      · rw [if_pos h1, if_pos (by omega), h1]
      · rw [if_neg h1]
        by_cases h2 : t < i
        · rw [if_pos h2, if_pos (by omega)]
        · rw [if_neg h2, if_neg (by omega)]
    show Tri _ _ (miS X n0 Y n1 (-(bor X Y i : Int)) i (cells n0 (difW X Y i))) (to _ (miS X n0 Y n1 (-(bor X Y (i + 1) : Int)) (i + 1) (cells n0 (difW X Y (i + 1)))))
    rw [← hf]
    have hq : ((wd X i : Int) - wd Y i - bor X Y i) / 4294967296 = -(bor X Y (i + 1) : Int) := by
      split at hcs <;> omega
    by_cases h2 : i < n1
    · exact mi_in (x := -(bor X Y i : Int) + wd X i) (y := -(bor X Y i : Int) + wd X i - wd Y i) hi h2 hi rfl rfl ha hb (by omega) (by omega) rfl rfl (by rw [hw]; congr 1; omega) (by rw [← hq]; congr 1; omega) (by omega)
    · have hz : wd Y i = 0 := wd_eq_zero (Nat.lt_of_lt_of_le hY (Nat.pow_le_pow_right (by omega) (by omega)))
      exact mi_out (x := -(bor X Y i : Int) + wd X i) hi h2 hi rfl ha (by omega) (by omega) rfl (by rw [hw]; congr 1; omega) (by rw [← hq]; congr 1; omega) (by omega)
theorem enters_rminus : ∀ us w, (callFunc 45 us).run Tryz.prog w = .ok (.enter 45 us) w := enters Tryz.func45 rfl (by kernel_rfl)
theorem mi_fn {X n0 Y n1 t N : Nat} {c : Int} {f : Nat → Nat} (hbig : n0 < 1000)
    (hl : TriL Tryz.prog (loopN Tryz.f45 0) (miS X n0 Y n1 0 0 (List.replicate (((n0 : Nat) : Int)).toNat (Value.int .u32 0))) (to (.exit 0) (miS X n0 Y n1 c n0 (cells n0 f))))
    (ht : MC Tryz.prog 77 [rsl 0 n0 n0] [out n0 f] (rsl 0 t n0) [out n0 f]) (hz : Frz [out n0 f] (rsl 0 t n0) (tk N t)) :
    MC Tryz.prog 45 [tk X n0, tk Y n1] [] (tk N t) [] :=
  AC.run mixed Tryz.func45 [.cut miL (.exit 0) (miS X n0 Y n1 c n0 (cells n0 f)), .mem (rsl 0 t n0) [out n0 f]]
    ((tsC (mkOk (n := n0) (by omega)) ts0)) (qs2 hl ht) hz enters_rminus (by kernel_rfl)
/-- The difference. -/
theorem minus_t {A B na nb : Nat} (hA : A < 2 ^ (32 * na)) (hB : B < 2 ^ (32 * nb)) (hle : B ≤ A) (hna : na < 500) :
    MC Tryz.prog 45 [tk A na, tk B nb] [] (tk (A - B) (nw (A - B))) [] := by
  have hl := mi_loop (X := A) (n0 := na) (Y := B) (n1 := nb) (by omega) hB hle
  rw [← cells_rep] at hl
  have e : out na (difW A B na) = blk true na (A - B) := by
    unfold out blk
    congr 1
    exact cells_congr fun t ht => if_pos ht
  have hs : A - B < 2 ^ (32 * na) := by omega
  exact mi_fn (t := nw (A - B)) (by omega) hl (by
    rw [e]
    exact trim_at (C := blk true na (A - B)) hs (Nat.le_refl _) (by omega) rfl rfl) (by rw [e]; exact Frz.rsl (C := blk true na (A - B)) rfl rfl (nw_le hs))

/-! ### cmp -/
def cmS (A na B nb : Nat) (z : Int) : St := ⟨slots 41 [(0, tk A na), (1, tk B nb), (4, i6 0), (5, i6 z)], []⟩
def cmE (A na B nb : Nat) (v : Int) : St := ⟨slots 41 [(0, tk A na), (1, tk B nb), (4, i6 v)], []⟩
theorem tNo {p : Prop} [Decidable p] (h : p) : (!(!decide p)) = true := by rw [decide_eq_true h]; rfl
theorem geZ (k : Nat) : decide ((k : Int) ≥ 0) = true := decide_eq_true (by omega)
theorem cm_eq {A na B nb k a : Nat} {z : Int} (h0 : k < na) (h1 : k < nb) (ha : wd A k = a) (hb : wd B k = a) (hz : (k : Int) - 1 = z) (hk : k < 1000000) :
    Tri Tryz.prog (loopN Tryz.f44 0) (cmS A na B nb (k : Nat)) (to .normal (cmS A na B nb z)) := by
  have o1 : word32 A ((k : Nat) : Int).toNat = u3 a := by rw [tk_get, ha]
  have o2 : word32 B ((k : Nat) : Int).toNat = u3 a := by rw [tk_get, hb]
  exact Tri.go mixed [0, 1, 4, 5] [.tst true, .is 3 (u3 a), .is 3 (u3 a), .tst false, .at 2 (i6 z)]
    (tsC (geZ k) <| tsC (ltI h0) <| tsC (ltI h1) <| tsC (tNo (p := (a : Int) = (a : Int)) rfl) <| tsC (wrapI hz (by omega) (by omega)) ts0) (qs2 o1 o2) (by kernel_rfl)
theorem cm_ne {A na B nb k a b : Nat} {v : Int} (h0 : k < na) (h1 : k < nb) (ha : wd A k = a) (hb : wd B k = b) (hne : a ≠ b) (hv : v = if a < b then -1 else 1) :
    Tri Tryz.prog (loopN Tryz.f44 0) (cmS A na B nb (k : Nat)) (to .ret (cmE A na B nb v)) := by
  have o1 : word32 A ((k : Nat) : Int).toNat = u3 a := by rw [tk_get, ha]
  have o2 : word32 B ((k : Nat) : Int).toNat = u3 b := by rw [tk_get, hb]
  by_cases h : a < b
  · rw [if_pos h] at hv
    subst hv
    exact Tri.go mixed [0, 1, 4] [.tst true, .is 3 (u3 a), .is 3 (u3 b), .tst true, .is 3 (u3 a), .is 3 (u3 b), .tst true]
      (tsC (geZ k) <| tsC (ltI h0) <| tsC (ltI h1) <| tsC (tF (p := (a : Int) = (b : Int)) (by omega)) <| tsC (ltI h0) <| tsC (ltI h1) <| tsC (tT (p := (a : Int) < (b : Int)) (by omega)) ts0) (qs4 o1 o2 o1 o2) (by kernel_rfl)
  · rw [if_neg h] at hv
    subst hv
    exact Tri.go mixed [0, 1, 4] [.tst true, .is 3 (u3 a), .is 3 (u3 b), .tst true, .is 3 (u3 a), .is 3 (u3 b), .tst false]
      (tsC (geZ k) <| tsC (ltI h0) <| tsC (ltI h1) <| tsC (tF (p := (a : Int) = (b : Int)) (by omega)) <| tsC (ltI h0) <| tsC (ltI h1) <| tsC (tF (p := (a : Int) < (b : Int)) (by omega)) ts0) (qs4 o1 o2 o1 o2) (by kernel_rfl)
theorem cm_end {A na B nb : Nat} {z : Int} (h : ¬ z ≥ 0) : Tri Tryz.prog (loopN Tryz.f44 0) (cmS A na B nb z) (to (.exit 0) (cmE A na B nb 0)) :=
  Tri.go mixed [0, 1, 4] [.tst false] (tsC (tF h) ts0) qs0 (by kernel_rfl)
/-- How numbers compare. -/
def rcmp (A B : Nat) : Int := if A < B then -1 else if B < A then 1 else 0
def rcmpX (A B : Nat) : Exit := if A = B then .exit 0 else .ret
theorem wd_div (N k : Nat) : N / 2 ^ (32 * k) = N / 2 ^ (32 * (k + 1)) * 4294967296 + wd N k := by
  unfold wd
  have e : N / 2 ^ (32 * (k + 1)) = N / 2 ^ (32 * k) / 4294967296 := by rw [pow_succ32, Nat.div_div_eq_div_mul]
  rw [e]; omega
theorem lt_of_div {A B k : Nat} (h : A / 2 ^ (32 * k) < B / 2 ^ (32 * k)) : A < B := by
  rcases Nat.lt_or_ge A B with h3 | h3
  · exact h3
  · have := Nat.div_le_div_right (c := 2 ^ (32 * k)) h3
    omega
theorem cm_loop {A na B nb : Nat} (hn : na < 1000) (hab : na = nb) (k : Nat) : k ≤ na → A / 2 ^ (32 * k) = B / 2 ^ (32 * k) → ∀ z : Int, (k : Int) - 1 = z → TriL Tryz.prog (loopN Tryz.f44 0) (cmS A na B nb z) (to (rcmpX A B) (cmE A na B nb (rcmp A B))) := by
  induction k with
  | zero =>
    intro _ he z hz
    rw [Nat.mul_zero, Nat.pow_zero, Nat.div_one, Nat.div_one] at he
    subst he
    have e1 : rcmpX A A = .exit 0 := if_pos rfl
    have e2 : rcmp A A = 0 := by unfold rcmp; rw [if_neg (by omega), if_neg (by omega)]
    rw [e1, e2]
    exact TriL.leave (by simp) (cm_end (by omega))
  | succ k ih =>
    intro hk he z hz
    have hz' : z = (k : Nat) := by omega
    rw [hz']
    have d1 := wd_div A k
    have d2 := wd_div B k
    rw [he] at d1
    by_cases e : wd A k = wd B k
    · have hd : A / 2 ^ (32 * k) = B / 2 ^ (32 * k) := by rw [d1, d2, e]
      exact TriL.again (cm_eq (by omega) (by omega) rfl e.symm rfl (by omega)) (ih (by omega) hd _ rfl)
    · have hne : A ≠ B := fun h => e (by rw [h])
      have e1 : rcmpX A B = .ret := if_neg hne
      rw [e1]
      refine TriL.leave (by simp) (cm_ne (by omega) (by omega) rfl rfl e ?_)
      unfold rcmp
      by_cases hlt : wd A k < wd B k
      · have : A < B := lt_of_div (k := k) (by rw [d1, d2]; omega)
        rw [if_pos hlt, if_pos this]
      · have : B < A := lt_of_div (k := k) (by rw [d1, d2]; omega)
        rw [if_neg hlt, if_neg (by omega), if_pos this]
theorem enters_rcmp : ∀ us w, (callFunc 44 us).run Tryz.prog w = .ok (.enter 44 us) w := enters Tryz.func44 rfl (by kernel_rfl)
theorem cmp_len {A na B nb : Nat} {v : Int} (hne : na ≠ nb) (hv : v = if na < nb then -1 else 1) : MC Tryz.prog 44 [tk A na, tk B nb] [] (i6 v) [] := by
  by_cases h : na < nb
  · rw [if_pos h] at hv
    subst hv
    exact AC.runA mixed Tryz.func44 [.tst true, .tst true] ((tsC (tF (p := (na : Int) = (nb : Int)) (by omega)) <| tsC (tT (p := (na : Int) < (nb : Int)) (by omega)) ts0)) qs0 rfl enters_rcmp (by kernel_rfl)
  · rw [if_neg h] at hv
    subst hv
    exact AC.runA mixed Tryz.func44 [.tst true, .tst false] ((tsC (tF (p := (na : Int) = (nb : Int)) (by omega)) <| tsC (tF (p := (na : Int) < (nb : Int)) (by omega)) ts0)) qs0 rfl enters_rcmp (by kernel_rfl)
theorem cmp_ret {A na B nb : Nat} {z v : Int} (he : na = nb) (hz : (na : Int) - 1 = z) (hn : na < 1000) (hl : TriL Tryz.prog (loopN Tryz.f44 0) (cmS A na B nb z) (to .ret (cmE A na B nb v))) :
    MC Tryz.prog 44 [tk A na, tk B nb] [] (i6 v) [] :=
  AC.runA mixed Tryz.func44 [.tst false, .at 2 (i6 z), .cut [0, 1, 4, 5] .ret (cmE A na B nb v)] ((tsC (tNo (p := (na : Int) = (nb : Int)) (by omega)) <| tsC (wrapI hz (by omega) (by omega)) ts0)) (qs1 hl) rfl enters_rcmp (by kernel_rfl)
theorem cmp_end {A na B nb : Nat} {z : Int} (he : na = nb) (hz : (na : Int) - 1 = z) (hn : na < 1000) (hl : TriL Tryz.prog (loopN Tryz.f44 0) (cmS A na B nb z) (to (.exit 0) (cmE A na B nb 0))) :
    MC Tryz.prog 44 [tk A na, tk B nb] [] (i6 0) [] :=
  AC.runA mixed Tryz.func44 [.tst false, .at 2 (i6 z), .cut [0, 1, 4, 5] (.exit 0) (cmE A na B nb 0)] ((tsC (tNo (p := (na : Int) = (nb : Int)) (by omega)) <| tsC (wrapI hz (by omega) (by omega)) ts0)) (qs1 hl) rfl enters_rcmp (by kernel_rfl)
theorem nw_mono {A B : Nat} (h : A ≤ B) : nw A ≤ nw B := nw_le (Nat.lt_of_le_of_lt h (lt_nw B))
/-- Numbers compared. -/
theorem cmp_t {A B : Nat} (hn : nw A < 1000) :
    MC Tryz.prog 44 [tk A (nw A), tk B (nw B)] [] (i6 (rcmp A B)) [] := by
  by_cases h : nw A = nw B
  · have hd : A / 2 ^ (32 * nw A) = B / 2 ^ (32 * nw A) := by
      rw [Nat.div_eq_of_lt (lt_nw A), h, Nat.div_eq_of_lt (lt_nw B)]
    have hl := cm_loop hn h (nw A) (Nat.le_refl _) hd _ rfl
    by_cases e : A = B
    · have e1 : rcmpX A B = .exit 0 := if_pos e
      have e2 : rcmp A B = 0 := by unfold rcmp; rw [if_neg (by omega), if_neg (by omega)]
      rw [e1, e2] at hl
      rw [e2]
      exact cmp_end h rfl hn hl
    · have e1 : rcmpX A B = .ret := if_neg e
      rw [e1] at hl
      exact cmp_ret h rfl hn hl
  · refine cmp_len h ?_
    unfold rcmp
    by_cases hlt : A < B
    · have := nw_mono (Nat.le_of_lt hlt)
      rw [if_pos hlt, if_pos (by omega)]
    · by_cases hgt : B < A
      · have := nw_mono (Nat.le_of_lt hgt)
        rw [if_neg hlt, if_pos hgt, if_neg (by omega)]
      · have : A = B := by omega
        exact absurd (by rw [this]) h

/-! ### times -/
def tiS (M na N nb i x c j : Nat) (q : List Value) : St := ⟨slots 67 [(1, tk N nb), (5, rsl 0 (na + nb) (na + nb)), (6, .int .i64 i), (7, u3 x), (8, u6 c), (17, tk M na), (18, .int .i64 na), (19, .int .i64 i), (24, tk N nb), (25, .int .i64 nb), (26, .int .i64 j)], [⟨q, 77, true⟩]⟩
def tiL : List Nat := [1, 5, 6, 7, 8, 17, 18, 19, 24, 25, 26]
def toS (M na N nb i : Nat) (q : List Value) : St := ⟨slots 67 [(1, tk N nb), (5, rsl 0 (na + nb) (na + nb)), (17, tk M na), (18, .int .i64 na), (19, .int .i64 i)], [⟨q, 77, true⟩]⟩
def toL : List Nat := [1, 5, 17, 18, 19]
theorem ti_round {M na N nb i x c j y p z s w lo hi m : Nat} {f : Nat → Nat} (hi0 : i < na) (hj : j < nb) (hm : i + j < m) (hy : wd N j = y) (hz : f (i + j) = z) (hx64 : x < 4294967296) (hy64 : y < 4294967296) (hz64 : z < 4294967296) (hp : x * y = p) (hs : p + z = s) (hw : c + s = w) (hw2 : w < 18446744073709551616) (hlo : w % 4294967296 = lo) (hhi : w / 4294967296 = hi) (hbig : na < 1000) (hbig2 : nb < 1000) :
    Tri Tryz.prog (loopN Tryz.f46 1) (tiS M na N nb i x c j (cells m f)) (to .normal (tiS M na N nb i x hi (j + 1) (cells m (fun t => if t = i + j then lo else f t)))) := by
  rw [← cells_set]
  have o1 : word32 N ((j : Nat) : Int).toNat = u3 y := by rw [tk_get, hy]
  have o2 : (cells m f).getD (0 + ((i + j : Nat) : Int).toNat * 1) undef = u3 z := by rw [cells_get0 f hm, hz]; rfl
  have t6 : decide (IntKind.u64.wrap ((x : Int) * (y : Int)) = (p : Int)) = true := wrapU (by rw [← hp, Int.natCast_mul]) (by omega)
  exact Tri.go mixed tiL [.tst true, .is 2 (u3 y), .at 4 (u6 x), .at 1 (u6 y), .at 0 (u6 p), .at 3 (.int .i64 ((i + j : Nat) : Int)), .is 1 (u3 z), .at 0 (u6 z), .at 0 (u6 s), .at 0 (u6 w), .at 4 (.int .i64 ((i + j : Nat) : Int)), .at 1 (u3 lo), .at 3 (u6 hi), .at 1 (.int .i64 ((j + 1 : Nat) : Int))]
    (tsC (ltI hj) <| tsC (ltI hj) <| tsC (wrapU (n := (x : Int)) (m := x) rfl (by omega)) <| tsC (wrapU (n := (y : Int)) (m := y) rfl (by omega)) <| tsC t6 <| tsC (wrapN (n := (i : Int) + (j : Int)) (m := i + j) (by omega) (by omega)) <| tsC (ltI (j := i + j) (n := na + nb) (by omega)) <| tsC (ltL (f := f) hm) <|
      tsC (wrapU (n := (z : Int)) (m := z) rfl (by omega)) <| tsC (wrapU (n := (p : Int) + (z : Int)) (m := s) (by omega) (by omega)) <| tsC (wrapU (n := (c : Int) + (s : Int)) (m := w) (by omega) (by omega)) <| tsC (wrapN (n := (i : Int) + (j : Int)) (m := i + j) (by omega) (by omega)) <| tsC (wrap32 hlo) <| tsC (ltI (j := i + j) (n := na + nb) (by omega)) <| tsC (ltL (f := f) hm) <| tsC (shr32 hhi) <|
      tsC (wrapN (n := (j : Int) + 1) (m := j + 1) (by omega) (by omega)) ts0)
    (qs2 o1 o2) (by kernel_rfl)
theorem ti_end {M na N nb i x c m : Nat} {f : Nat → Nat} : Tri Tryz.prog (loopN Tryz.f46 1) (tiS M na N nb i x c nb (cells m f)) (to (.exit 2) (tiS M na N nb i x c nb (cells m f))) :=
  Tri.go mixed tiL [.tst false] (tsC (tF (p := (nb : Int) < (nb : Int)) (by omega)) ts0) qs0 (by kernel_rfl)
theorem to_round {M na N nb i x c k m : Nat} {f g : Nat → Nat} (hi : i < na) (hm : i + nb < m) (hx : wd M i = x) (hk : c % 4294967296 = k) (hbig : na < 1000) (hbig2 : nb < 1000)
    (hl : TriL Tryz.prog (loopN Tryz.f46 1) (tiS M na N nb i x 0 0 (cells m f)) (to (.exit 2) (tiS M na N nb i x c nb (cells m g)))) :
    Tri Tryz.prog (loopN Tryz.f46 0) (toS M na N nb i (cells m f)) (to .normal (toS M na N nb (i + 1) (cells m (fun t => if t = i + nb then k else g t)))) := by
  rw [← cells_set]
  have o1 : word32 M ((i : Nat) : Int).toNat = u3 x := by rw [tk_get, hx]
  exact Tri.go mixed toL [.tst true, .is 2 (u3 x), .cut tiL (.exit 2) (tiS M na N nb i x c nb (cells m g)), .at 4 (.int .i64 ((i + nb : Nat) : Int)), .at 1 (u3 k), .at 2 (.int .i64 ((i + 1 : Nat) : Int))]
    (tsC (ltI hi) <| tsC (ltI hi) <| tsC (wrapN (n := (i : Int) + (nb : Int)) (m := i + nb) (by omega) (by omega)) <| tsC (wrap32 hk) <| tsC (ltI (j := i + nb) (n := na + nb) (by omega)) <| tsC (ltL (f := g) hm) <| tsC (wrapN (n := (i : Int) + 1) (m := i + 1) (by omega) (by omega)) ts0)
    (qs2 o1 hl) (by kernel_rfl)
theorem to_end {M na N nb m : Nat} {f : Nat → Nat} : Tri Tryz.prog (loopN Tryz.f46 0) (toS M na N nb na (cells m f)) (to (.exit 0) (toS M na N nb na (cells m f))) :=
  Tri.go mixed toL [.tst false] (tsC (tF (p := (na : Int) < (na : Int)) (by omega)) ts0) qs0 (by kernel_rfl)
theorem ti_loop {M na N nb i : Nat} (hi : i < na) (hbig : na < 1000) (hbig2 : nb < 1000) :
    TriL Tryz.prog (loopN Tryz.f46 1) (tiS M na N nb i (wd M i) 0 0 (cells (na + nb) (wd (rowP M N i)))) (to (.exit 2) (tiS M na N nb i (wd M i) (carryK M N i nb) nb (cells (na + nb) (prodW M N i nb)))) := by
  have h := TriL.count (P := Tryz.prog) (c := loopN Tryz.f46 1) (e := .exit 2) (fun j => tiS M na N nb i (wd M i) (carryK M N i j) j (cells (na + nb) (prodW M N i j))) (by simp) nb (fun j hj => ?_) ti_end
  · rw [carryK_zero, funext (prodW_zero M N i)] at h
    exact h
  · have hT := colT_lt M N i j (carryK_lt M N i j)
    have hzz : prodW M N i j (i + j) = wd (rowP M N i) (i + j) := by unfold prodW; rw [decide_eq_false (by omega)]
    have hTe : carryK M N i j + (wd M i * wd N j + wd (rowP M N i) (i + j)) = colT M N i j := by unfold colT; omega
    have key := ti_round (M := M) (na := na) (N := N) (nb := nb) (i := i) (x := wd M i) (c := carryK M N i j) (j := j) (m := na + nb) (f := prodW M N i j) hi hj (by omega) rfl hzz (wd_lt M i) (wd_lt N j) (wd_lt _ _) rfl rfl hTe (by omega) rfl (carryK_succ M N i j).symm hbig hbig2
    rw [funext (fun t => (prodW_succ M N i j t).symm)] at key
    exact key
theorem to_loop {M na N nb : Nat} (hbig : na < 1000) (hbig2 : nb < 1000) (hN : N < 2 ^ (32 * nb)) :
    TriL Tryz.prog (loopN Tryz.f46 0) (toS M na N nb 0 (cells (na + nb) fun _ => 0)) (to (.exit 0) (toS M na N nb na (cells (na + nb) (wd (rowP M N na))))) := by
  have h := TriL.count (P := Tryz.prog) (c := loopN Tryz.f46 0) (e := .exit 0) (fun i => toS M na N nb i (cells (na + nb) (wd (rowP M N i)))) (by simp) na (fun i hi => ?_) to_end
  · have e : wd (rowP M N 0) = fun _ => 0 := funext fun t => by
      unfold rowP wd
      rw [Nat.mul_zero, Nat.pow_zero, Nat.mod_one, Nat.zero_mul, Nat.zero_div, Nat.zero_mod]
    rw [e] at h
    exact h
  · have hk := carryK_lt M N i nb
    have key := to_round (m := na + nb) hi (by omega) rfl (Nat.mod_eq_of_lt hk) hbig hbig2 (ti_loop (M := M) (N := N) hi hbig hbig2)
    rw [funext (fun t => prodW_all M N i nb t hN)] at key
    exact key
theorem enters_rtimes : ∀ us w, (callFunc 46 us).run Tryz.prog w = .ok (.enter 46 us) w := enters Tryz.func46 rfl (by kernel_rfl)
theorem times_fn {M na N nb t R : Nat} {f : Nat → Nat} (hbig : na < 500) (hbig2 : nb < 500)
    (hl : TriL Tryz.prog (loopN Tryz.f46 0) (toS M na N nb 0 (List.replicate (((na + nb : Nat) : Int)).toNat (Value.int .u32 0))) (to (.exit 0) (toS M na N nb na (cells (na + nb) f))))
    (ht : MC Tryz.prog 77 [rsl 0 (na + nb) (na + nb)] [out (na + nb) f] (rsl 0 t (na + nb)) [out (na + nb) f]) (hz : Frz [out (na + nb) f] (rsl 0 t (na + nb)) (tk R t)) :
    MC Tryz.prog 46 [tk M na, tk N nb] [] (tk R t) [] :=
  AC.run mixed Tryz.func46 [.at 5 (.int .i64 ((na + nb : Nat) : Int)), .cut toL (.exit 0) (toS M na N nb na (cells (na + nb) f)), .mem (rsl 0 t (na + nb)) [out (na + nb) f]]
    ((tsC (wrapN (n := (na : Int) + (nb : Int)) (m := na + nb) (by omega) (by omega)) <| tsC (mkOk (n := na + nb) (by omega)) ts0))
    (qs2 hl ht) hz enters_rtimes (by kernel_rfl)
/-- The product. -/
theorem times_t {A B na nb : Nat} (hA : A < 2 ^ (32 * na)) (hB : B < 2 ^ (32 * nb)) (hna : na < 400) (hnb : nb < 400) :
    MC Tryz.prog 46 [tk A na, tk B nb] [] (tk (A * B) (nw (A * B))) [] := by
  have hl := to_loop (M := A) (na := na) (N := B) (nb := nb) (by omega) (by omega) hB
  have e : rowP A B na = A * B := by unfold rowP; rw [Nat.mod_eq_of_lt hA]
  rw [← cells_rep, e] at hl
  have hAB : A * B < 2 ^ (32 * (na + nb)) := by
    rw [Nat.mul_add, Nat.pow_add]
    exact Nat.mul_lt_mul'' hA hB
  exact times_fn (by omega) (by omega) hl (trim_at (C := blk true (na + nb) (A * B)) hAB (Nat.le_refl _) (by omega) rfl rfl) (Frz.rsl (C := blk true (na + nb) (A * B)) rfl rfl (nw_le hAB))
end Go.Proofs.YtljolfnpncjklaaGreat.R
