/-
  The reference's inequalities: who is in; the same as the program's.
-/
import Derived.Test.YtlbdfgpdgcldhaaGreatTokJ
namespace Go.Proofs.YtlbdfgpdgcldhaaGreat.R
open Go Go.Ev Go.W32
open Go.Proofs.YtlbdfgpdgcldhaaGreat.W (mixed i64_wrap WF Sm I64 pt within within_iff Low Inq sumQ inQ ordI ordI_le wcmp mul_bd sm2 textB text_wz wz str_refl)

theorem enters_eHas : ∀ us w, (callFunc 14 us).run Tryz.prog w = .ok (.enter 14 us) w := enters Tryz.func14 rfl (by kernel_rfl)
theorem eHas_1 {i : Inq} {p q : Int} (h1 : QC Tryz.prog 46 [.int .i64 p, .int .i64 1073741824] (.bool false)) : MC Tryz.prog 14 [riV i, pt p q] [] (.bool false) [] :=
  AC.runA mixed Tryz.func14 [.ab (.bool false), .res (.bool false)] ts0 (qs2 (eover i) h1) rfl enters_eHas (by kernel_rfl)
theorem eHas_2 {i : Inq} {p q : Int} (h1 : QC Tryz.prog 46 [.int .i64 p, .int .i64 1073741824] (.bool true)) (h2 : QC Tryz.prog 46 [.int .i64 q, .int .i64 1073741824] (.bool false)) : MC Tryz.prog 14 [riV i, pt p q] [] (.bool false) [] :=
  AC.runA mixed Tryz.func14 [.ab (.bool false), .res (.bool true), .res (.bool false)] ts0 (qs3 (eover i) h1 h2) rfl enters_eHas (by kernel_rfl)
theorem eHas_3 {i : Inq} {p q pp qq l1 pq t u l2 l3 l4 l5 l6 o : Int} (h1 : QC Tryz.prog 46 [.int .i64 p, .int .i64 1073741824] (.bool true)) (h2 : QC Tryz.prog 46 [.int .i64 q, .int .i64 1073741824] (.bool true)) (b1 : MC Tryz.prog 35 [.int .i64 p] [] (rz p) []) (b2 : MC Tryz.prog 35 [.int .i64 q] [] (rz q) []) (m1 : MC Tryz.prog 40 [rz p, rz p] [] (rz pp) []) (m2 : MC Tryz.prog 40 [rz q, rz q] [] (rz qq) []) (d1 : MC Tryz.prog 36 [rz i.a, rz pp, rz i.d, rz qq] [] (rz l1) []) (b3 : MC Tryz.prog 35 [.int .i64 2] [] (rz 2) []) (m3 : MC Tryz.prog 40 [rz p, rz q] [] (rz pq) []) (m4 : MC Tryz.prog 40 [rz 2, rz pq] [] (rz t) []) (m5 : MC Tryz.prog 40 [rz i.b, rz t] [] (rz u) []) (a1 : MC Tryz.prog 39 [rz l1, rz u] [] (rz l2) []) (d2 : MC Tryz.prog 36 [rz i.u, rz p, rz i.v, rz q] [] (rz l3) []) (m6 : MC Tryz.prog 40 [rz 2, rz l3] [] (rz l4) []) (s1 : MC Tryz.prog 52 [rz l2, rz l4] [] (rz l5) []) (a2 : MC Tryz.prog 39 [rz l5, rz i.z] [] (rz l6) []) (c1 : MC Tryz.prog 53 [rz l6, rz i.n] [] (.tuple #[.int .i64 o, .bool true]) []) : MC Tryz.prog 14 [riV i, pt p q] [] (.bool (decide (o ≤ 0))) [] :=
  AC.runA mixed Tryz.func14 [.ab (.bool false), .res (.bool true), .res (.bool true), .ab (rz p), .ab (rz q), .ab (rz pp), .ab (rz qq), .ab (rz l1), .ab (rz 2), .ab (rz pq), .ab (rz t), .ab (rz u), .ab (rz l2), .ab (rz 2), .ab (rz l3), .ab (rz l4), .ab (rz l5), .ab (rz l6), .ab (.tuple #[.int .i64 o, .bool true])] ts0 (qsC (eover i) <| qsC h1 <| qsC h2 <| qsC b1 <| qsC b2 <| qsC m1 <| qsC m2 <| qsC d1 <| qsC b3 <| qsC m3 <| qsC m4 <| qsC m5 <| qsC a1 <| qsC b3 <| qsC d2 <| qsC m6 <| qsC s1 <| qsC a2 <| qsC c1 qs0) rfl enters_eHas (by kernel_rfl)
theorem eHas_t {i : Inq} (hl : Low i.a i.b i.d i.u i.v i.z i.n) (p q : Int) : MC Tryz.prog 14 [riV i, pt p q] [] (.bool (inQ i p q)) [] := by
  unfold inQ
  rw [within_win]
  cases h : win p 1073741824 with
  | false => exact eHas_1 (ewithin_qc p _ (by omega) (by omega) _ h)
  | true =>
    have w1 := ewithin_qc p 1073741824 (by omega) (by omega) _ h
    cases h' : win q 1073741824 with
    | false => exact eHas_2 w1 (ewithin_qc q _ (by omega) (by omega) _ h')
    | true =>
      have w2 := ewithin_qc q 1073741824 (by omega) (by omega) _ h'
      have g := win_iff.1 h
      have g' := win_iff.1 h'
      have ip : I64 p := ⟨by omega, by omega⟩
      have iq : I64 q := ⟨by omega, by omega⟩
      have spp := ip.sm.mul ip.sm
      have sqq := iq.sm.mul iq.sm
      have spq := ip.sm.mul iq.sm
      have st := sm2.mul spq
      have s1 := ((hl.a.mul spp).add (hl.d.mul sqq)).mono (k := 305) (by omega)
      have su := (hl.b.mul st).mono (k := 305) (by omega)
      have s2 := s1.add su
      have s3 := (hl.u.mul ip.sm).add (hl.v.mul iq.sm)
      have s4 := sm2.mul s3
      have s5 := (s2.mono (k := 310) (by omega)).sub (s4.mono (k := 310) (by omega))
      have s6 := s5.add (hl.z.mono (k := 311) (by omega))
      have a2 := radd s5 (hl.z.mono (k := 311) (by omega))
      have e : i.a * (p * p) + i.d * (q * q) + i.b * (2 * (p * q)) - 2 * (i.u * p + i.v * q) + i.z = sumQ i p q := by
        unfold sumQ
        rw [Int.mul_assoc 2 p q]
      rw [e] at a2 s6
      have c1 : MC Tryz.prog 53 [rz (sumQ i p q), rz i.n] [] (.tuple #[.int .i64 (ordI (sumQ i p q) i.n), .bool true]) [] := rCmp_t (s6.wf (by omega)) (hl.n.wf (by omega))
      have hrun := eHas_3 w1 w2 (ebig ip) (ebig iq) (rmul ip.sm ip.sm) (rmul iq.sm iq.sm) (edot hl.a spp hl.d sqq) (ebig ⟨by omega, by omega⟩) (rmul ip.sm iq.sm) (rmul sm2 spq) (rmul hl.b st) (radd s1 su) (edot hl.u ip.sm hl.v iq.sm) (rmul sm2 s3) (rsub (s2.mono (k := 310) (by omega)) (s4.mono (k := 310) (by omega))) a2 c1
      rw [decide_eq_decide.2 (ordI_le (sumQ i p q) i.n)] at hrun
      exact hrun
theorem enters_isame : ∀ us w, (callFunc 10 us).run Tryz.prog w = .ok (.enter 10 us) w := enters Tryz.func10 rfl (by kernel_rfl)
theorem isame_run {i : Inq} {T0 T1 T2 T3 T4 T5 T6 : ByteArray} (t0 : QC Tryz.prog 41 [wz i.a] (.string T0)) (r0 : MC Tryz.prog 42 [rz i.a] [] (.string T0) []) (t1 : QC Tryz.prog 41 [wz i.b] (.string T1)) (r1 : MC Tryz.prog 42 [rz i.b] [] (.string T1) []) (t2 : QC Tryz.prog 41 [wz i.d] (.string T2)) (r2 : MC Tryz.prog 42 [rz i.d] [] (.string T2) []) (t3 : QC Tryz.prog 41 [wz i.u] (.string T3)) (r3 : MC Tryz.prog 42 [rz i.u] [] (.string T3) []) (t4 : QC Tryz.prog 41 [wz i.v] (.string T4)) (r4 : MC Tryz.prog 42 [rz i.v] [] (.string T4) []) (t5 : QC Tryz.prog 41 [wz i.z] (.string T5)) (r5 : MC Tryz.prog 42 [rz i.z] [] (.string T5) []) (t6 : QC Tryz.prog 41 [wz i.n] (.string T6)) (r6 : MC Tryz.prog 42 [rz i.n] [] (.string T6) []) : MC Tryz.prog 10 [i.val, riV i] [] (.bool (T6.toList == T6.toList)) [] :=
  AC.runA mixed Tryz.func10 [.res (.string T0), .ab (.string T0), .tst true, .res (.string T1), .ab (.string T1), .tst true, .res (.string T2), .ab (.string T2), .tst true, .res (.string T3), .ab (.string T3), .tst true, .res (.string T4), .ab (.string T4), .tst true, .res (.string T5), .ab (.string T5), .tst true, .res (.string T6), .ab (.string T6)] (tsC (str_refl T0) <| tsC (str_refl T1) <| tsC (str_refl T2) <| tsC (str_refl T3) <| tsC (str_refl T4) <| tsC (str_refl T5) <| ts0) (qsC t0 <| qsC r0 <| qsC t1 <| qsC r1 <| qsC t2 <| qsC r2 <| qsC t3 <| qsC r3 <| qsC t4 <| qsC r4 <| qsC t5 <| qsC r5 <| qsC t6 <| qsC r6 <| qs0) rfl enters_isame (by kernel_rfl)
theorem isame {i : Inq} (hl : Low i.a i.b i.d i.u i.v i.z i.n) : MC Tryz.prog 10 [i.val, riV i] [] (.bool true) [] := by
  have h := isame_run (text_wz hl.a _ rfl) (rtext hl.a _ rfl) (text_wz hl.b _ rfl) (rtext hl.b _ rfl) (text_wz hl.d _ rfl) (rtext hl.d _ rfl) (text_wz hl.u _ rfl) (rtext hl.u _ rfl) (text_wz hl.v _ rfl) (rtext hl.v _ rfl) (text_wz hl.z _ rfl) (rtext hl.z _ rfl) (text_wz hl.n _ rfl) (rtext hl.n _ rfl)
  rw [str_refl] at h
  exact h
end Go.Proofs.YtlbdfgpdgcldhaaGreat.R
