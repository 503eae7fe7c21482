/-
  WideShifts: shifted by so many bits, and back.
-/
import Derived.Test.YtfgnjkjnhakihaaNum3
namespace Go.Proofs.Ytfgnjkjnhakihaa.R
open Go Go.Ev Go.W32
open Go.Proofs.Ytfgnjkjnhakihaa.W (mixed clamp WF Hi bitLen_Hi clamp_eq wadd wmul wsub wneg wshift wcmp ordI signI I64 wv wR wz flat_wR awakeN over_pc enters_over sign_pc enters_sign add_pc enters_add bits_pc enters_bits shift_pc enters_shift cmp_pc enters_cmp absN bitLen_lt_iff i64_wrap u64_wrap)

theorem enters_wideShifts : ∀ us w, (callFunc 7 us).run Try.prog w = .ok (.enter 7 us) w := enters Try.func7 rfl (by kernel_rfl)
def cmp0 : Value := .tuple #[.int .i64 0, .bool true]
section
variable {e0 : Bool} {n0 c0 : Nat} {k0 kk : Int} {u r : Nat} {q0 : List Value}
theorem wsh_none (hn0 : q0.all (noNew1 1) = true) (w2 : (q0.all (low1 2) && true) = true) (hu : IntKind.u64.wrap kk = u) (hr : (u : Int).tmod 300 = r) (hr2 : IntKind.i64.wrap (r : Int) = r)
    (g0 : MC Try.prog 13 [numX e0 0 n0 c0 k0] [qB q0, xB e0 0 n0 c0 k0] (numOut none) [qB q0, xB e0 0 n0 c0 k0]) (h1 : QC Try.prog 43 [wv none] (.bool true)) : MC Try.prog 7 [numX e0 0 n0 c0 k0, .int .i64 kk] [qB q0] (.bool true) [qB q0] := by
  have ht : conj [(q0.all (low1 2) && true), decide (IntKind.u64.wrap kk = (u : Int)), decide ((u : Int).tmod 300 = (r : Int)), decide (IntKind.i64.wrap (r : Int) = (r : Int))] = true := tsC w2 <| ts3 (tT hu) (tT hr) (tT hr2)
  cases e0 <;> exact MC.run mixed Try.func7 [.rd (numOut none), .at 9 (u6 u), .at 0 (u6 r), .at 0 (i6 r), .res (.bool true), .res (.bool true)] (ts2 ht hn0) (qs3 g0 h1 awakeN) rfl rfl enters_wideShifts (by kernel_rfl)
theorem wsh_big {a : Int} {b : Nat} (hb : (b : Int) > 400) (hn0 : q0.all (noNew1 1) = true) (w2 : (q0.all (low1 2) && true) = true) (hu : IntKind.u64.wrap kk = u) (hr : (u : Int).tmod 300 = r) (hr2 : IntKind.i64.wrap (r : Int) = r)
    (g0 : MC Try.prog 13 [numX e0 0 n0 c0 k0] [qB q0, xB e0 0 n0 c0 k0] (numOut (some a)) [qB q0, xB e0 0 n0 c0 k0]) (h1 : QC Try.prog 43 [wz a] (.bool false)) (h2 : QC Try.prog 37 [wz a] (i6 b)) : MC Try.prog 7 [numX e0 0 n0 c0 k0, .int .i64 kk] [qB q0] (.bool true) [qB q0] := by
  have ht : conj [(q0.all (low1 2) && true), decide (IntKind.u64.wrap kk = (u : Int)), decide ((u : Int).tmod 300 = (r : Int)), decide (IntKind.i64.wrap (r : Int) = (r : Int)), decide ((b : Int) > 400)] = true := tsC w2 <| ts4 (tT hu) (tT hr) (tT hr2) (tT hb)
  cases e0 <;> exact MC.run mixed Try.func7 [.rd (numOut (some a)), .at 9 (u6 u), .at 0 (u6 r), .at 0 (i6 r), .res (.bool false), .res (i6 b), .tst true, .res (.bool true)] (ts2 ht hn0) (qs4 g0 h1 h2 awakeN) rfl rfl enters_wideShifts (by kernel_rfl)
theorem wsh_go {a b c : Int} {ba bb : Nat} {m : Int} {sa : Int} (hb : ¬ (ba : Int) > 400) (hn0 : q0.all (noNew1 1) = true) (w2 : (q0.all (low1 2) && true) = true) (hu : IntKind.u64.wrap kk = u) (hr : (u : Int).tmod 300 = r) (hr2 : IntKind.i64.wrap (r : Int) = r) (hm : IntKind.i64.wrap (0 - (r : Int)) = m) (hs : ¬ sa = 0) (hbb : IntKind.i64.wrap ((ba : Int) + r) = bb)
    (g0 : MC Try.prog 13 [numX e0 0 n0 c0 k0] [qB q0, xB e0 0 n0 c0 k0] (numOut (some a)) [qB q0, xB e0 0 n0 c0 k0]) (h1 : QC Try.prog 43 [wz a] (.bool false)) (h2 : QC Try.prog 37 [wz a] (i6 ba)) (h3 : QC Try.prog 33 [wz a, i6 r] (wz b)) (h4 : QC Try.prog 33 [wz b, i6 1] (wz c)) (h5 : QC Try.prog 25 [wz b, wz b] (wz c))
    (h6 : QC Try.prog 21 [wz c, wz c] cmp0) (h7 : QC Try.prog 33 [wz b, i6 m] (wz a)) (h8 : QC Try.prog 21 [wz a, wz a] cmp0) (h9 : QC Try.prog 35 [wz a] (i6 sa)) (h10 : QC Try.prog 37 [wz b] (i6 bb)) : MC Try.prog 7 [numX e0 0 n0 c0 k0, .int .i64 kk] [qB q0] (.bool true) [qB q0] := by
  have ht : conj [(q0.all (low1 2) && true), decide (IntKind.u64.wrap kk = (u : Int)), decide ((u : Int).tmod 300 = (r : Int)), decide (IntKind.i64.wrap (r : Int) = (r : Int)), !decide ((ba : Int) > 400), decide (IntKind.i64.wrap (0 - (r : Int)) = m), !decide (sa = 0), decide (IntKind.i64.wrap ((ba : Int) + r) = (bb : Int)), decide ((bb : Int) = (bb : Int))] = true :=
    tsC w2 <| tsC (tT hu) <| tsC (tT hr) <| tsC (tT hr2) <| tsC (tF hb) <| tsC (tT hm) <| tsC (tF hs) <| tsC (tT hbb) <| tsC (tT rfl) ts0
  cases e0 <;> exact MC.run mixed Try.func7 [.rd (numOut (some a)), .at 9 (u6 u), .at 0 (u6 r), .at 0 (i6 r), .res (.bool false), .res (i6 ba), .tst false, .res (wz b), .res (wz c), .res (wz c), .res cmp0, .at 8 (i6 m), .res (wz a), .res cmp0, .res (i6 sa), .tst true, .res (i6 ba), .at 2 (i6 bb), .res (i6 bb), .tst true, .res (.bool true)] (ts2 ht hn0)
    (qsC g0 <| qsC h1 <| qsC h2 <| qsC h3 <| qsC h4 <| qsC h5 <| qsC h6 <| qsC h7 <| qsC h8 <| qsC h9 <| qsC h2 <| qsC h10 <| qsC awakeN qs0) rfl rfl enters_wideShifts (by kernel_rfl)
theorem wsh_zero {m : Int} (hn0 : q0.all (noNew1 1) = true) (w2 : (q0.all (low1 2) && true) = true) (hu : IntKind.u64.wrap kk = u) (hr : (u : Int).tmod 300 = r) (hr2 : IntKind.i64.wrap (r : Int) = r) (hm : IntKind.i64.wrap (0 - (r : Int)) = m)
    (g0 : MC Try.prog 13 [numX e0 0 n0 c0 k0] [qB q0, xB e0 0 n0 c0 k0] (numOut (some 0)) [qB q0, xB e0 0 n0 c0 k0]) (h1 : QC Try.prog 43 [wz 0] (.bool false)) (h2 : QC Try.prog 37 [wz 0] (i6 0)) (h3 : QC Try.prog 33 [wz 0, i6 r] (wz 0)) (h4 : QC Try.prog 33 [wz 0, i6 1] (wz 0)) (h5 : QC Try.prog 25 [wz 0, wz 0] (wz 0))
    (h6 : QC Try.prog 21 [wz 0, wz 0] cmp0) (h7 : QC Try.prog 33 [wz 0, i6 m] (wz 0)) (h9 : QC Try.prog 35 [wz 0] (i6 0)) : MC Try.prog 7 [numX e0 0 n0 c0 k0, .int .i64 kk] [qB q0] (.bool true) [qB q0] := by
  have ht : conj [(q0.all (low1 2) && true), decide (IntKind.u64.wrap kk = (u : Int)), decide ((u : Int).tmod 300 = (r : Int)), decide (IntKind.i64.wrap (r : Int) = (r : Int)), decide (IntKind.i64.wrap (0 - (r : Int)) = m)] = true := tsC w2 <| ts4 (tT hu) (tT hr) (tT hr2) (tT hm)
  cases e0 <;> exact MC.run mixed Try.func7 [.rd (numOut (some 0)), .at 9 (u6 u), .at 0 (u6 r), .at 0 (i6 r), .res (.bool false), .res (i6 0), .res (wz 0), .res (wz 0), .res (wz 0), .res cmp0, .at 8 (i6 m), .res (wz 0), .res cmp0, .res (i6 0), .res (i6 0), .res (.bool true)] (ts2 ht hn0)
    (qsC g0 <| qsC h1 <| qsC h2 <| qsC h3 <| qsC h4 <| qsC h5 <| qsC h6 <| qsC h7 <| qsC h6 <| qsC h9 <| qsC h2 <| qsC awakeN qs0) rfl rfl enters_wideShifts (by kernel_rfl)
theorem wcmp_self (a : Int) : wcmp (some a) (some a) = cmp0 := by
  show Value.tuple #[.int .i64 (if a < a then -1 else if a < a then 1 else 0), .bool true] = _
  rw [if_neg (Int.lt_irrefl a), if_neg (Int.lt_irrefl a)]
  rfl
theorem wideShifts_mc {l0 : List Int} (hl0 : ∀ x ∈ l0, I64 x) (hk0 : I64 k0) : MC Try.prog 7 [numV 0 l0 c0 k0, .int .i64 kk] [iB l0] (.bool true) [iB l0] := by
  show MC _ _ [numX l0.isEmpty 0 l0.length c0 k0, .int .i64 kk] [qB (l0.map (Value.int .i64))] _ [qB (l0.map (Value.int .i64))]
  have x2 := lw1 (ints_low 2 l0)
  have w0 := numA_wf l0 k0
  have ov : ∀ A, QC Try.prog 43 [wv A] (.bool A.isNone) := fun A => QC.of_pc enters_over (over_pc A)
  obtain ⟨u, hu⟩ : ∃ u : Nat, IntKind.u64.wrap kk = u := ⟨(kk % 18446744073709551616).toNat, by rw [u64_wrap]; omega⟩
  obtain ⟨r, hr⟩ : ∃ r : Nat, u % 300 = r := ⟨_, rfl⟩
  have hr1 : (u : Int).tmod 300 = r := by rw [Int.tmod_eq_emod_of_nonneg (by omega)]; omega
  have hr2 : IntKind.i64.wrap (r : Int) = r := i64_wrap (by omega) (by omega)
  have hm : IntKind.i64.wrap (0 - (r : Int)) = -(r : Int) := by rw [i64_wrap (by omega) (by omega)]; omega
  cases hA : numA l0 k0 with
  | none => exact wsh_none (ints_no 1 l0) x2 hu hr1 hr2 (nOf_in hl0 hk0 hA rfl) (ov none)
  | some a =>
    rw [hA] at w0
    have hbits := QC.of_pc enters_bits (bits_pc w0)
    by_cases hb : ((bitLen a.natAbs : Nat) : Int) > 400
    · exact wsh_big hb (ints_no 1 l0) x2 hu hr1 hr2 (nOf_in hl0 hk0 hA rfl) (ov (some a)) hbits
    · obtain ⟨e1, wb, hbl⟩ := wshift_up (a := a) (r := r) (by omega) (by omega)
      have h3 := QC.of_pc enters_shift (shift_pc (k := (r : Int)) w0 (by omega) (by omega))
      rw [e1] at h3
      have h4 := QC.of_pc enters_shift (shift_pc (k := 1) wb (by omega) (by omega))
      obtain ⟨e2, wc, _⟩ := wshift_up (a := a) (r := r + 1) (by omega) (by omega)
      have ec : a * 2 ^ r * 2 = a * 2 ^ (r + 1) := by rw [Int.pow_succ, ← Int.mul_assoc]
      have e3 : wshift (some (a * 2 ^ r)) 1 = some (a * 2 ^ (r + 1)) := by
        show clamp (a * 2 ^ r * 2) = _
        rw [ec]
        exact clamp_eq (wc _ rfl)
      rw [e3] at h4
      have h5 := QC.of_pc enters_add (add_pc wb wb)
      have e4 : wadd (some (a * 2 ^ r)) (some (a * 2 ^ r)) = some (a * 2 ^ (r + 1)) := by
        have dbl : ∀ x : Int, x + x = x * 2 := fun x => by omega
        show clamp (a * 2 ^ r + a * 2 ^ r) = _
        rw [dbl, ec]
        exact clamp_eq (wc _ rfl)
      rw [e4] at h5
      have h6 := QC.of_pc enters_cmp (cmp_pc wc wc)
      rw [wcmp_self] at h6
      have h7 := QC.of_pc enters_shift (shift_pc (k := -(r : Int)) wb (by omega) (by omega))
      rw [wshift_down w0] at h7
      have h8 := QC.of_pc enters_cmp (cmp_pc w0 w0)
      rw [wcmp_self] at h8
      have h9 := QC.of_pc enters_sign (sign_pc w0)
      have h10 := QC.of_pc enters_bits (bits_pc wb)
      by_cases h0 : a = 0
      · subst h0
        rw [Int.zero_mul] at h3 h4 h5 h6 h7 h10
        exact wsh_zero (ints_no 1 l0) x2 hu hr1 hr2 hm (nOf_in hl0 hk0 hA rfl) (ov (some 0)) hbits h3 (by rw [Int.zero_mul] at h4; exact h4) (by rw [Int.zero_mul] at h5; exact h5) h8 h7 h9
      · have hs : ¬ signI (some a) = 0 := by
          show ¬ (if a < 0 then -1 else if a = 0 then 0 else (1 : Int)) = 0
          by_cases h : a < 0
          · rw [if_pos h]; decide
          · rw [if_neg h, if_neg h0]; decide
        have hbb : IntKind.i64.wrap (((bitLen a.natAbs : Nat) : Int) + r) = ((bitLen (a * 2 ^ r).natAbs : Nat) : Int) := by
          rw [hbl h0, i64_wrap (by omega) (by omega)]
          omega
        exact wsh_go hb (ints_no 1 l0) x2 hu hr1 hr2 hm hs hbb (nOf_in hl0 hk0 hA rfl) (ov (some a)) hbits h3 h4 h5 h6 h7 h8 h9 h10
end
end Go.Proofs.Ytfgnjkjnhakihaa.R
