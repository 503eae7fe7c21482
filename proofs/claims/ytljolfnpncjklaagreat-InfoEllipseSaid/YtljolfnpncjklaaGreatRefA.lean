/-
  The reference: trim.
-/
import Derived.Test.YtljolfnpncjklaaGreatWide1
import Derived.Test.YtljolfnpncjklaaGreatEv3
namespace Go.Proofs.YtljolfnpncjklaaGreat.W
open Go Go.Ev Go.Wide

def rsl (k n c : Nat) : Value := .slice (some ⟨k, 0, none⟩) n c
def trS (n c : Nat) (q : List Value) : St := ⟨slots 21 [(0, rsl 0 n c), (2, .slice none 0 0)], [⟨q, 77, false⟩]⟩
def trL : List Nat := [0, 2]
theorem tr_key (n c : Nat) (q : List Value) : evM Tryz.prog (loopN Tryz.f77 0) 400 trL (trS (n + 1) c q) [.tst true, .at 3 (.int .i64 n), .is 1 (.int .u32 0), .at 5 (.int .i64 n), .is 0 (rsl 0 n c)] =
    some (conj [decide (((n + 1 : Nat) : Int) > 0), decide (IntKind.i64.wrap (((n + 1 : Nat) : Int) - 1) = (n : Int)), decide ((n : Int) < ((n + 1 : Nat) : Int)), decide (0 + ((n : Nat) : Int).toNat * 1 < q.length), decide (IntKind.i64.wrap (((n + 1 : Nat) : Int) - 1) = (n : Int)), decide ((n : Int) ≤ (c : Int)) && true],
      [q.getD (0 + ((n : Nat) : Int).toNat * 1) undef = .int .u32 0, Value.slice (some ⟨0, 0 + (if c = 0 then 0 else 0 * 1), none⟩) (((n : Nat) : Int).toNat - 0) (c - 0) = rsl 0 n c], .normal, trS n c q) := by kernel_rfl
theorem tr_slice (n c : Nat) : Value.slice (some ⟨0, 0 + (if c = 0 then 0 else 0 * 1), none⟩) (((n : Nat) : Int).toNat - 0) (c - 0) = rsl 0 n c := by
  have e : (if c = 0 then 0 else 0 * 1) = 0 := by split <;> rfl
  rw [e]; rfl
/-- Out: nothing is left, or the last word is not 0. -/
theorem tr_end0 (c : Nat) (q : List Value) : evM Tryz.prog (loopN Tryz.f77 0) 400 trL (trS 0 c q) [] = some (true, [], .exit 0, trS 0 c q) := by kernel_rfl
theorem tr_end (n c x : Nat) (q : List Value) : evM Tryz.prog (loopN Tryz.f77 0) 400 trL (trS (n + 1) c q) [.tst true, .at 3 (.int .i64 n), .is 1 (.int .u32 x), .tst false] =
    some (conj [decide (((n + 1 : Nat) : Int) > 0), decide (IntKind.i64.wrap (((n + 1 : Nat) : Int) - 1) = (n : Int)), decide ((n : Int) < ((n + 1 : Nat) : Int)), decide (0 + ((n : Nat) : Int).toNat * 1 < q.length), !((x : Int) == 0)],
      [q.getD (0 + ((n : Nat) : Int).toNat * 1) undef = .int .u32 x], .exit 0, trS (n + 1) c q) := by kernel_rfl
theorem trim_key (n c t : Nat) (q : List Value) : evFnM Tryz.prog Tryz.f77 400 [rsl 0 n c] [⟨q, 77, false⟩] [.cut trL (.exit 0) (trS t c q)] =
    some (conj [q.all (noNew1 1)], [TriL Tryz.prog (loopN Tryz.f77 0) (trS n c q) (to (.exit 0) (trS t c q))], rsl 0 t c, [⟨q, 77, false⟩]) := by kernel_rfl
theorem enters_trim : ∀ us w, (callFunc 77 us).run Tryz.prog w = .ok (.enter 77 us) w := enters Tryz.func77 rfl (by kernel_rfl)
theorem trim_mc {n c t : Nat} {q : List Value} {x : Nat → Nat} (hq : ∀ i, i < n → q.getD (0 + ((i : Nat) : Int).toNat * 1) undef = .int .u32 (x i)) (hlen : n ≤ q.length) (hflat : q.all (noNew1 1) = true)
    (hn : n ≤ c) (hc : c < 9223372036854775807) (ht : t ≤ n) (hz : ∀ i, t ≤ i → i < n → x i = 0) (hl : t ≠ 0 → x (t - 1) ≠ 0) :
    MC Tryz.prog 77 [rsl 0 n c] [⟨q, 77, false⟩] (rsl 0 t c) [⟨q, 77, false⟩] := by
  refine MC.of_ev mixed Tryz.func77 400 _ (trim_key n c t q) (by rw [conj_cons, conj_nil, hflat]; rfl) ⟨?_, trivial⟩ enters_trim
  have hend : Tri Tryz.prog (loopN Tryz.f77 0) (trS t c q) (to (.exit 0) (trS t c q)) := by
    cases t with
    | zero => exact Tri.of_ev mixed 400 trL [] (tr_end0 c q) rfl trivial
    | succ k =>
      have hx := hl (by omega)
      rw [Nat.add_sub_cancel] at hx
      refine Tri.of_ev mixed 400 trL _ (tr_end k c (x k) q) ?_ ⟨hq k (by omega), trivial⟩
      have w1 : IntKind.i64.wrap (((k + 1 : Nat) : Int) - 1) = (k : Int) := by rw [i64_wrap (by omega) (by omega)]; omega
      rw [w1]
      rw [conj_cons, conj_cons, conj_cons, conj_cons, conj_cons, conj_nil, decide_eq_true (show ((k + 1 : Nat) : Int) > 0 by omega), decide_eq_true rfl, decide_eq_true (show (k : Int) < ((k + 1 : Nat) : Int) by omega),
        decide_eq_true (show 0 + ((k : Nat) : Int).toNat * 1 < q.length by omega), show (((x k : Nat) : Int) == 0) = false by rw [beq_eq_false_iff_ne]; omega]
      rfl
  have h := TriL.count (P := Tryz.prog) (c := loopN Tryz.f77 0) (e := .exit 0) (S' := trS t c q) (fun i => trS (n - i) c q) (by simp) (n - t) (fun i hi => ?_) (by
    show Tri _ _ (trS (n - (n - t)) c q) _
    rw [show n - (n - t) = t by omega]; exact hend)
  · exact h
  · have key := tr_key (n - i - 1) c q
    rw [show n - i - 1 + 1 = n - i by omega] at key
    have hv := hq (n - i - 1) (by omega)
    rw [hz (n - i - 1) (by omega) (by omega)] at hv
    show Tri _ _ (trS (n - i) c q) (to _ (trS (n - (i + 1)) c q))
    rw [show n - (i + 1) = n - i - 1 by omega]
    refine Tri.of_ev mixed 400 trL _ key ?_ ⟨hv, tr_slice _ _, trivial⟩
    have w1 : IntKind.i64.wrap (((n - i : Nat) : Int) - 1) = ((n - i - 1 : Nat) : Int) := by rw [i64_wrap (by omega) (by omega)]; omega
    simp only [conj_cons, conj_nil, Bool.and_eq_true, decide_eq_true_eq, w1, and_true, Int.toNat_natCast, true_and]
    omega
end Go.Proofs.YtljolfnpncjklaaGreat.W
