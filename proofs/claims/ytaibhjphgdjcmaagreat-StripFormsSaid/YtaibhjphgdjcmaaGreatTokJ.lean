/-
  The reference's inequalities: Ellipse, FuseAt, CutAt.
-/
import Derived.Test.YtaibhjphgdjcmaaGreatTokI
namespace Go.Proofs.YtaibhjphgdjcmaaGreat.R
open Go Go.Ev Go.W32
open Go.Proofs.YtaibhjphgdjcmaaGreat.W (mixed i64_wrap WF signI Sm I64 ell flat_ell ellT flat_ellT pt sym mayL mayL_iff mayL_fits errI detI detI_sm sizI Low wnar cdiv nearI fits64 fits64_iff Inq ofQ noQ osQ mixQ mixQ_low ellQ ellQ_form ellW ellI gballV gballV_form mayS strV ofQ_inp osQ_inp sm2 signI_le0 signI_lt0)

theorem enters_eover : ∀ us w, (callFunc 159 us).run Tryz.prog w = .ok (.enter 159 us) w := enters Tryz.func159 rfl (by kernel_rfl)
theorem eover (i : Inq) : MC Tryz.prog 159 [riV i] [] (.bool false) [] := AC.runA mixed Tryz.func159 [] ts0 qs0 rfl enters_eover (by kernel_rfl)
theorem enters_eEll : ∀ us w, (callFunc 141 us).run Tryz.prog w = .ok (.enter 141 us) w := enters Tryz.func141 rfl (by kernel_rfl)
theorem ee_arg1 {i : Inq} {x1 x2 k q uu vv uv x3 x4 x5 x6 x7 x8 x9 r p p' x10 s y1 y2 x y3 y4 y : Int}  (m1 : MC Tryz.prog 32 [rz i.a, rz i.d] [] (rz x1) []) (m2 : MC Tryz.prog 32 [rz i.b, rz i.b] [] (rz x2) []) (s1 : MC Tryz.prog 31 [rz x1, rz x2] [] (rz k) []) (m3 : MC Tryz.prog 32 [rz k, rz k] [] (rz q) []) (m4 : MC Tryz.prog 32 [rz i.u, rz i.u] [] (rz uu) []) (m5 : MC Tryz.prog 32 [rz i.v, rz i.v] [] (rz vv) []) (m6 : MC Tryz.prog 32 [rz i.u, rz i.v] [] (rz uv) []) (s2 : MC Tryz.prog 31 [rz i.n, rz i.z] [] (rz x3) []) (m7 : MC Tryz.prog 32 [rz x3, rz k] [] (rz x4) []) (d1 : MC Tryz.prog 158 [rz i.d, rz uu, rz i.a, rz vv] [] (rz x5) []) (b1 : MC Tryz.prog 29 [.int .i64 2] [] (rz 2) []) (m8 : MC Tryz.prog 32 [rz i.b, rz uv] [] (rz x6) []) (m9 : MC Tryz.prog 32 [rz 2, rz x6] [] (rz x7) []) (n1 : MC Tryz.prog 62 [rz x7] [] (rz x8) []) (a1 : MC Tryz.prog 61 [rz x5, rz x8] [] (rz x9) []) (a2 : MC Tryz.prog 61 [rz x4, rz x9] [] (rz r) []) (p1 : MC Tryz.prog 32 [rz r, rz i.d] [] (rz p) []) (p2 : MC Tryz.prog 32 [rz r, rz i.a] [] (rz p') []) (p3 : MC Tryz.prog 32 [rz r, rz i.b] [] (rz x10) []) (n2 : MC Tryz.prog 62 [rz x10] [] (rz s) []) (e1 : MC Tryz.prog 32 [rz i.d, rz i.u] [] (rz y1) []) (e2 : MC Tryz.prog 32 [rz i.b, rz i.v] [] (rz y2) []) (e3 : MC Tryz.prog 31 [rz y1, rz y2] [] (rz x) []) (e4 : MC Tryz.prog 32 [rz i.a, rz i.v] [] (rz y3) []) (e5 : MC Tryz.prog 32 [rz i.b, rz i.u] [] (rz y4) []) (e6 : MC Tryz.prog 31 [rz y3, rz y4] [] (rz y) []) (c1 : signI (some i.a) ≤ 0) : MC Tryz.prog 141 [riV i] [] (ellT 0 0 0 0 0 1) [] :=
  AC.runA mixed Tryz.func141 [.ab (rz x1), .ab (rz x2), .ab (rz k), .ab (rz q), .ab (rz uu), .ab (rz vv), .ab (rz uv), .ab (rz x3), .ab (rz x4), .ab (rz x5), .ab (rz 2), .ab (rz x6), .ab (rz x7), .ab (rz x8), .ab (rz x9), .ab (rz r), .ab (rz p), .ab (rz p'), .ab (rz x10), .ab (rz s), .ab (rz y1), .ab (rz y2), .ab (rz x), .ab (rz y3), .ab (rz y4), .ab (rz y), .ab (.bool false), .ab (i6 (signI (some i.a))), .tst true] (tsC (tT c1) ts0) (qsC m1 <| qsC m2 <| qsC s1 <| qsC m3 <| qsC m4 <| qsC m5 <| qsC m6 <| qsC s2 <| qsC m7 <| qsC d1 <| qsC b1 <| qsC m8 <| qsC m9 <| qsC n1 <| qsC a1 <| qsC a2 <| qsC p1 <| qsC p2 <| qsC p3 <| qsC n2 <| qsC e1 <| qsC e2 <| qsC e3 <| qsC e4 <| qsC e5 <| qsC e6 <| qsC (eover i) <| qsC (rsign i.a) <| qs0) rfl enters_eEll (by kernel_rfl)
theorem ee_arg2 {i : Inq} {x1 x2 k q uu vv uv x3 x4 x5 x6 x7 x8 x9 r p p' x10 s y1 y2 x y3 y4 y : Int}  (m1 : MC Tryz.prog 32 [rz i.a, rz i.d] [] (rz x1) []) (m2 : MC Tryz.prog 32 [rz i.b, rz i.b] [] (rz x2) []) (s1 : MC Tryz.prog 31 [rz x1, rz x2] [] (rz k) []) (m3 : MC Tryz.prog 32 [rz k, rz k] [] (rz q) []) (m4 : MC Tryz.prog 32 [rz i.u, rz i.u] [] (rz uu) []) (m5 : MC Tryz.prog 32 [rz i.v, rz i.v] [] (rz vv) []) (m6 : MC Tryz.prog 32 [rz i.u, rz i.v] [] (rz uv) []) (s2 : MC Tryz.prog 31 [rz i.n, rz i.z] [] (rz x3) []) (m7 : MC Tryz.prog 32 [rz x3, rz k] [] (rz x4) []) (d1 : MC Tryz.prog 158 [rz i.d, rz uu, rz i.a, rz vv] [] (rz x5) []) (b1 : MC Tryz.prog 29 [.int .i64 2] [] (rz 2) []) (m8 : MC Tryz.prog 32 [rz i.b, rz uv] [] (rz x6) []) (m9 : MC Tryz.prog 32 [rz 2, rz x6] [] (rz x7) []) (n1 : MC Tryz.prog 62 [rz x7] [] (rz x8) []) (a1 : MC Tryz.prog 61 [rz x5, rz x8] [] (rz x9) []) (a2 : MC Tryz.prog 61 [rz x4, rz x9] [] (rz r) []) (p1 : MC Tryz.prog 32 [rz r, rz i.d] [] (rz p) []) (p2 : MC Tryz.prog 32 [rz r, rz i.a] [] (rz p') []) (p3 : MC Tryz.prog 32 [rz r, rz i.b] [] (rz x10) []) (n2 : MC Tryz.prog 62 [rz x10] [] (rz s) []) (e1 : MC Tryz.prog 32 [rz i.d, rz i.u] [] (rz y1) []) (e2 : MC Tryz.prog 32 [rz i.b, rz i.v] [] (rz y2) []) (e3 : MC Tryz.prog 31 [rz y1, rz y2] [] (rz x) []) (e4 : MC Tryz.prog 32 [rz i.a, rz i.v] [] (rz y3) []) (e5 : MC Tryz.prog 32 [rz i.b, rz i.u] [] (rz y4) []) (e6 : MC Tryz.prog 31 [rz y3, rz y4] [] (rz y) []) (c1 : ¬ signI (some i.a) ≤ 0) (c2 : signI (some k) ≤ 0) : MC Tryz.prog 141 [riV i] [] (ellT 0 0 0 0 0 1) [] :=
  AC.runA mixed Tryz.func141 [.ab (rz x1), .ab (rz x2), .ab (rz k), .ab (rz q), .ab (rz uu), .ab (rz vv), .ab (rz uv), .ab (rz x3), .ab (rz x4), .ab (rz x5), .ab (rz 2), .ab (rz x6), .ab (rz x7), .ab (rz x8), .ab (rz x9), .ab (rz r), .ab (rz p), .ab (rz p'), .ab (rz x10), .ab (rz s), .ab (rz y1), .ab (rz y2), .ab (rz x), .ab (rz y3), .ab (rz y4), .ab (rz y), .ab (.bool false), .ab (i6 (signI (some i.a))), .tst false, .ab (i6 (signI (some k))), .tst true] (tsC (tF c1) <| tsC (tT c2) ts0) (qsC m1 <| qsC m2 <| qsC s1 <| qsC m3 <| qsC m4 <| qsC m5 <| qsC m6 <| qsC s2 <| qsC m7 <| qsC d1 <| qsC b1 <| qsC m8 <| qsC m9 <| qsC n1 <| qsC a1 <| qsC a2 <| qsC p1 <| qsC p2 <| qsC p3 <| qsC n2 <| qsC e1 <| qsC e2 <| qsC e3 <| qsC e4 <| qsC e5 <| qsC e6 <| qsC (eover i) <| qsC (rsign i.a) <| qsC (rsign k) <| qs0) rfl enters_eEll (by kernel_rfl)
theorem ee_empty {i : Inq} {x1 x2 k q uu vv uv x3 x4 x5 x6 x7 x8 x9 r p p' x10 s y1 y2 x y3 y4 y : Int}  (m1 : MC Tryz.prog 32 [rz i.a, rz i.d] [] (rz x1) []) (m2 : MC Tryz.prog 32 [rz i.b, rz i.b] [] (rz x2) []) (s1 : MC Tryz.prog 31 [rz x1, rz x2] [] (rz k) []) (m3 : MC Tryz.prog 32 [rz k, rz k] [] (rz q) []) (m4 : MC Tryz.prog 32 [rz i.u, rz i.u] [] (rz uu) []) (m5 : MC Tryz.prog 32 [rz i.v, rz i.v] [] (rz vv) []) (m6 : MC Tryz.prog 32 [rz i.u, rz i.v] [] (rz uv) []) (s2 : MC Tryz.prog 31 [rz i.n, rz i.z] [] (rz x3) []) (m7 : MC Tryz.prog 32 [rz x3, rz k] [] (rz x4) []) (d1 : MC Tryz.prog 158 [rz i.d, rz uu, rz i.a, rz vv] [] (rz x5) []) (b1 : MC Tryz.prog 29 [.int .i64 2] [] (rz 2) []) (m8 : MC Tryz.prog 32 [rz i.b, rz uv] [] (rz x6) []) (m9 : MC Tryz.prog 32 [rz 2, rz x6] [] (rz x7) []) (n1 : MC Tryz.prog 62 [rz x7] [] (rz x8) []) (a1 : MC Tryz.prog 61 [rz x5, rz x8] [] (rz x9) []) (a2 : MC Tryz.prog 61 [rz x4, rz x9] [] (rz r) []) (p1 : MC Tryz.prog 32 [rz r, rz i.d] [] (rz p) []) (p2 : MC Tryz.prog 32 [rz r, rz i.a] [] (rz p') []) (p3 : MC Tryz.prog 32 [rz r, rz i.b] [] (rz x10) []) (n2 : MC Tryz.prog 62 [rz x10] [] (rz s) []) (e1 : MC Tryz.prog 32 [rz i.d, rz i.u] [] (rz y1) []) (e2 : MC Tryz.prog 32 [rz i.b, rz i.v] [] (rz y2) []) (e3 : MC Tryz.prog 31 [rz y1, rz y2] [] (rz x) []) (e4 : MC Tryz.prog 32 [rz i.a, rz i.v] [] (rz y3) []) (e5 : MC Tryz.prog 32 [rz i.b, rz i.u] [] (rz y4) []) (e6 : MC Tryz.prog 31 [rz y3, rz y4] [] (rz y) []) (c1 : ¬ signI (some i.a) ≤ 0) (c2 : ¬ signI (some k) ≤ 0) (c3 : signI (some r) < 0) : MC Tryz.prog 141 [riV i] [] (ellT 0 0 0 0 0 3) [] :=
  AC.runA mixed Tryz.func141 [.ab (rz x1), .ab (rz x2), .ab (rz k), .ab (rz q), .ab (rz uu), .ab (rz vv), .ab (rz uv), .ab (rz x3), .ab (rz x4), .ab (rz x5), .ab (rz 2), .ab (rz x6), .ab (rz x7), .ab (rz x8), .ab (rz x9), .ab (rz r), .ab (rz p), .ab (rz p'), .ab (rz x10), .ab (rz s), .ab (rz y1), .ab (rz y2), .ab (rz x), .ab (rz y3), .ab (rz y4), .ab (rz y), .ab (.bool false), .ab (i6 (signI (some i.a))), .tst false, .ab (i6 (signI (some k))), .tst false, .ab (i6 (signI (some r))), .tst true] (tsC (tF c1) <| tsC (tF c2) <| tsC (tT c3) ts0) (qsC m1 <| qsC m2 <| qsC s1 <| qsC m3 <| qsC m4 <| qsC m5 <| qsC m6 <| qsC s2 <| qsC m7 <| qsC d1 <| qsC b1 <| qsC m8 <| qsC m9 <| qsC n1 <| qsC a1 <| qsC a2 <| qsC p1 <| qsC p2 <| qsC p3 <| qsC n2 <| qsC e1 <| qsC e2 <| qsC e3 <| qsC e4 <| qsC e5 <| qsC e6 <| qsC (eover i) <| qsC (rsign i.a) <| qsC (rsign k) <| qsC (rsign r) <| qs0) rfl enters_eEll (by kernel_rfl)
theorem ee_over0 {i : Inq} {x1 x2 k q uu vv uv x3 x4 x5 x6 x7 x8 x9 r p p' x10 s y1 y2 x y3 y4 y : Int} {Y A B D : Int} {g1 g2 g3 g4 : Nat} (m1 : MC Tryz.prog 32 [rz i.a, rz i.d] [] (rz x1) []) (m2 : MC Tryz.prog 32 [rz i.b, rz i.b] [] (rz x2) []) (s1 : MC Tryz.prog 31 [rz x1, rz x2] [] (rz k) []) (m3 : MC Tryz.prog 32 [rz k, rz k] [] (rz q) []) (m4 : MC Tryz.prog 32 [rz i.u, rz i.u] [] (rz uu) []) (m5 : MC Tryz.prog 32 [rz i.v, rz i.v] [] (rz vv) []) (m6 : MC Tryz.prog 32 [rz i.u, rz i.v] [] (rz uv) []) (s2 : MC Tryz.prog 31 [rz i.n, rz i.z] [] (rz x3) []) (m7 : MC Tryz.prog 32 [rz x3, rz k] [] (rz x4) []) (d1 : MC Tryz.prog 158 [rz i.d, rz uu, rz i.a, rz vv] [] (rz x5) []) (b1 : MC Tryz.prog 29 [.int .i64 2] [] (rz 2) []) (m8 : MC Tryz.prog 32 [rz i.b, rz uv] [] (rz x6) []) (m9 : MC Tryz.prog 32 [rz 2, rz x6] [] (rz x7) []) (n1 : MC Tryz.prog 62 [rz x7] [] (rz x8) []) (a1 : MC Tryz.prog 61 [rz x5, rz x8] [] (rz x9) []) (a2 : MC Tryz.prog 61 [rz x4, rz x9] [] (rz r) []) (p1 : MC Tryz.prog 32 [rz r, rz i.d] [] (rz p) []) (p2 : MC Tryz.prog 32 [rz r, rz i.a] [] (rz p') []) (p3 : MC Tryz.prog 32 [rz r, rz i.b] [] (rz x10) []) (n2 : MC Tryz.prog 62 [rz x10] [] (rz s) []) (e1 : MC Tryz.prog 32 [rz i.d, rz i.u] [] (rz y1) []) (e2 : MC Tryz.prog 32 [rz i.b, rz i.v] [] (rz y2) []) (e3 : MC Tryz.prog 31 [rz y1, rz y2] [] (rz x) []) (e4 : MC Tryz.prog 32 [rz i.a, rz i.v] [] (rz y3) []) (e5 : MC Tryz.prog 32 [rz i.b, rz i.u] [] (rz y4) []) (e6 : MC Tryz.prog 31 [rz y3, rz y4] [] (rz y) []) (c1 : ¬ signI (some i.a) ≤ 0) (c2 : ¬ signI (some k) ≤ 0) (c3 : ¬ signI (some r) < 0) (f1 : MC Tryz.prog 160 [rz x, rz k] [] (errI 0 2) []) (f2 : MC Tryz.prog 160 [rz y, rz k] [] (errI Y g1) []) (f3 : MC Tryz.prog 161 [rz p, rz q] [] (errI A g2) []) (f4 : MC Tryz.prog 162 [rz s, rz q] [] (errI B g3) []) (f5 : MC Tryz.prog 161 [rz p', rz q] [] (errI D g4) []) : MC Tryz.prog 141 [riV i] [] (ellT 0 0 0 0 0 2) [] :=
  AC.runA mixed Tryz.func141 [.ab (rz x1), .ab (rz x2), .ab (rz k), .ab (rz q), .ab (rz uu), .ab (rz vv), .ab (rz uv), .ab (rz x3), .ab (rz x4), .ab (rz x5), .ab (rz 2), .ab (rz x6), .ab (rz x7), .ab (rz x8), .ab (rz x9), .ab (rz r), .ab (rz p), .ab (rz p'), .ab (rz x10), .ab (rz s), .ab (rz y1), .ab (rz y2), .ab (rz x), .ab (rz y3), .ab (rz y4), .ab (rz y), .ab (.bool false), .ab (i6 (signI (some i.a))), .tst false, .ab (i6 (signI (some k))), .tst false, .ab (i6 (signI (some r))), .tst false, .ab (errI 0 2), .ab (errI Y g1), .ab (errI A g2), .ab (errI B g3), .ab (errI D g4)] (tsC (tF c1) <| tsC (tF c2) <| tsC (tF c3) ts0) (qsC m1 <| qsC m2 <| qsC s1 <| qsC m3 <| qsC m4 <| qsC m5 <| qsC m6 <| qsC s2 <| qsC m7 <| qsC d1 <| qsC b1 <| qsC m8 <| qsC m9 <| qsC n1 <| qsC a1 <| qsC a2 <| qsC p1 <| qsC p2 <| qsC p3 <| qsC n2 <| qsC e1 <| qsC e2 <| qsC e3 <| qsC e4 <| qsC e5 <| qsC e6 <| qsC (eover i) <| qsC (rsign i.a) <| qsC (rsign k) <| qsC (rsign r) <| qsC f1 <| qsC f2 <| qsC f3 <| qsC f4 <| qsC f5 <| qs0) rfl enters_eEll (by kernel_rfl)
theorem ee_over1 {i : Inq} {x1 x2 k q uu vv uv x3 x4 x5 x6 x7 x8 x9 r p p' x10 s y1 y2 x y3 y4 y : Int} {X A B D : Int} {g2 g3 g4 : Nat} (m1 : MC Tryz.prog 32 [rz i.a, rz i.d] [] (rz x1) []) (m2 : MC Tryz.prog 32 [rz i.b, rz i.b] [] (rz x2) []) (s1 : MC Tryz.prog 31 [rz x1, rz x2] [] (rz k) []) (m3 : MC Tryz.prog 32 [rz k, rz k] [] (rz q) []) (m4 : MC Tryz.prog 32 [rz i.u, rz i.u] [] (rz uu) []) (m5 : MC Tryz.prog 32 [rz i.v, rz i.v] [] (rz vv) []) (m6 : MC Tryz.prog 32 [rz i.u, rz i.v] [] (rz uv) []) (s2 : MC Tryz.prog 31 [rz i.n, rz i.z] [] (rz x3) []) (m7 : MC Tryz.prog 32 [rz x3, rz k] [] (rz x4) []) (d1 : MC Tryz.prog 158 [rz i.d, rz uu, rz i.a, rz vv] [] (rz x5) []) (b1 : MC Tryz.prog 29 [.int .i64 2] [] (rz 2) []) (m8 : MC Tryz.prog 32 [rz i.b, rz uv] [] (rz x6) []) (m9 : MC Tryz.prog 32 [rz 2, rz x6] [] (rz x7) []) (n1 : MC Tryz.prog 62 [rz x7] [] (rz x8) []) (a1 : MC Tryz.prog 61 [rz x5, rz x8] [] (rz x9) []) (a2 : MC Tryz.prog 61 [rz x4, rz x9] [] (rz r) []) (p1 : MC Tryz.prog 32 [rz r, rz i.d] [] (rz p) []) (p2 : MC Tryz.prog 32 [rz r, rz i.a] [] (rz p') []) (p3 : MC Tryz.prog 32 [rz r, rz i.b] [] (rz x10) []) (n2 : MC Tryz.prog 62 [rz x10] [] (rz s) []) (e1 : MC Tryz.prog 32 [rz i.d, rz i.u] [] (rz y1) []) (e2 : MC Tryz.prog 32 [rz i.b, rz i.v] [] (rz y2) []) (e3 : MC Tryz.prog 31 [rz y1, rz y2] [] (rz x) []) (e4 : MC Tryz.prog 32 [rz i.a, rz i.v] [] (rz y3) []) (e5 : MC Tryz.prog 32 [rz i.b, rz i.u] [] (rz y4) []) (e6 : MC Tryz.prog 31 [rz y3, rz y4] [] (rz y) []) (c1 : ¬ signI (some i.a) ≤ 0) (c2 : ¬ signI (some k) ≤ 0) (c3 : ¬ signI (some r) < 0) (f1 : MC Tryz.prog 160 [rz x, rz k] [] (errI X 0) []) (f2 : MC Tryz.prog 160 [rz y, rz k] [] (errI 0 2) []) (f3 : MC Tryz.prog 161 [rz p, rz q] [] (errI A g2) []) (f4 : MC Tryz.prog 162 [rz s, rz q] [] (errI B g3) []) (f5 : MC Tryz.prog 161 [rz p', rz q] [] (errI D g4) []) : MC Tryz.prog 141 [riV i] [] (ellT 0 0 0 0 0 2) [] :=
  AC.runA mixed Tryz.func141 [.ab (rz x1), .ab (rz x2), .ab (rz k), .ab (rz q), .ab (rz uu), .ab (rz vv), .ab (rz uv), .ab (rz x3), .ab (rz x4), .ab (rz x5), .ab (rz 2), .ab (rz x6), .ab (rz x7), .ab (rz x8), .ab (rz x9), .ab (rz r), .ab (rz p), .ab (rz p'), .ab (rz x10), .ab (rz s), .ab (rz y1), .ab (rz y2), .ab (rz x), .ab (rz y3), .ab (rz y4), .ab (rz y), .ab (.bool false), .ab (i6 (signI (some i.a))), .tst false, .ab (i6 (signI (some k))), .tst false, .ab (i6 (signI (some r))), .tst false, .ab (errI X 0), .ab (errI 0 2), .ab (errI A g2), .ab (errI B g3), .ab (errI D g4)] (tsC (tF c1) <| tsC (tF c2) <| tsC (tF c3) ts0) (qsC m1 <| qsC m2 <| qsC s1 <| qsC m3 <| qsC m4 <| qsC m5 <| qsC m6 <| qsC s2 <| qsC m7 <| qsC d1 <| qsC b1 <| qsC m8 <| qsC m9 <| qsC n1 <| qsC a1 <| qsC a2 <| qsC p1 <| qsC p2 <| qsC p3 <| qsC n2 <| qsC e1 <| qsC e2 <| qsC e3 <| qsC e4 <| qsC e5 <| qsC e6 <| qsC (eover i) <| qsC (rsign i.a) <| qsC (rsign k) <| qsC (rsign r) <| qsC f1 <| qsC f2 <| qsC f3 <| qsC f4 <| qsC f5 <| qs0) rfl enters_eEll (by kernel_rfl)
theorem ee_over2 {i : Inq} {x1 x2 k q uu vv uv x3 x4 x5 x6 x7 x8 x9 r p p' x10 s y1 y2 x y3 y4 y : Int} {X Y B D : Int} {g3 g4 : Nat} (m1 : MC Tryz.prog 32 [rz i.a, rz i.d] [] (rz x1) []) (m2 : MC Tryz.prog 32 [rz i.b, rz i.b] [] (rz x2) []) (s1 : MC Tryz.prog 31 [rz x1, rz x2] [] (rz k) []) (m3 : MC Tryz.prog 32 [rz k, rz k] [] (rz q) []) (m4 : MC Tryz.prog 32 [rz i.u, rz i.u] [] (rz uu) []) (m5 : MC Tryz.prog 32 [rz i.v, rz i.v] [] (rz vv) []) (m6 : MC Tryz.prog 32 [rz i.u, rz i.v] [] (rz uv) []) (s2 : MC Tryz.prog 31 [rz i.n, rz i.z] [] (rz x3) []) (m7 : MC Tryz.prog 32 [rz x3, rz k] [] (rz x4) []) (d1 : MC Tryz.prog 158 [rz i.d, rz uu, rz i.a, rz vv] [] (rz x5) []) (b1 : MC Tryz.prog 29 [.int .i64 2] [] (rz 2) []) (m8 : MC Tryz.prog 32 [rz i.b, rz uv] [] (rz x6) []) (m9 : MC Tryz.prog 32 [rz 2, rz x6] [] (rz x7) []) (n1 : MC Tryz.prog 62 [rz x7] [] (rz x8) []) (a1 : MC Tryz.prog 61 [rz x5, rz x8] [] (rz x9) []) (a2 : MC Tryz.prog 61 [rz x4, rz x9] [] (rz r) []) (p1 : MC Tryz.prog 32 [rz r, rz i.d] [] (rz p) []) (p2 : MC Tryz.prog 32 [rz r, rz i.a] [] (rz p') []) (p3 : MC Tryz.prog 32 [rz r, rz i.b] [] (rz x10) []) (n2 : MC Tryz.prog 62 [rz x10] [] (rz s) []) (e1 : MC Tryz.prog 32 [rz i.d, rz i.u] [] (rz y1) []) (e2 : MC Tryz.prog 32 [rz i.b, rz i.v] [] (rz y2) []) (e3 : MC Tryz.prog 31 [rz y1, rz y2] [] (rz x) []) (e4 : MC Tryz.prog 32 [rz i.a, rz i.v] [] (rz y3) []) (e5 : MC Tryz.prog 32 [rz i.b, rz i.u] [] (rz y4) []) (e6 : MC Tryz.prog 31 [rz y3, rz y4] [] (rz y) []) (c1 : ¬ signI (some i.a) ≤ 0) (c2 : ¬ signI (some k) ≤ 0) (c3 : ¬ signI (some r) < 0) (f1 : MC Tryz.prog 160 [rz x, rz k] [] (errI X 0) []) (f2 : MC Tryz.prog 160 [rz y, rz k] [] (errI Y 0) []) (f3 : MC Tryz.prog 161 [rz p, rz q] [] (errI 0 2) []) (f4 : MC Tryz.prog 162 [rz s, rz q] [] (errI B g3) []) (f5 : MC Tryz.prog 161 [rz p', rz q] [] (errI D g4) []) : MC Tryz.prog 141 [riV i] [] (ellT 0 0 0 0 0 2) [] :=
  AC.runA mixed Tryz.func141 [.ab (rz x1), .ab (rz x2), .ab (rz k), .ab (rz q), .ab (rz uu), .ab (rz vv), .ab (rz uv), .ab (rz x3), .ab (rz x4), .ab (rz x5), .ab (rz 2), .ab (rz x6), .ab (rz x7), .ab (rz x8), .ab (rz x9), .ab (rz r), .ab (rz p), .ab (rz p'), .ab (rz x10), .ab (rz s), .ab (rz y1), .ab (rz y2), .ab (rz x), .ab (rz y3), .ab (rz y4), .ab (rz y), .ab (.bool false), .ab (i6 (signI (some i.a))), .tst false, .ab (i6 (signI (some k))), .tst false, .ab (i6 (signI (some r))), .tst false, .ab (errI X 0), .ab (errI Y 0), .ab (errI 0 2), .ab (errI B g3), .ab (errI D g4)] (tsC (tF c1) <| tsC (tF c2) <| tsC (tF c3) ts0) (qsC m1 <| qsC m2 <| qsC s1 <| qsC m3 <| qsC m4 <| qsC m5 <| qsC m6 <| qsC s2 <| qsC m7 <| qsC d1 <| qsC b1 <| qsC m8 <| qsC m9 <| qsC n1 <| qsC a1 <| qsC a2 <| qsC p1 <| qsC p2 <| qsC p3 <| qsC n2 <| qsC e1 <| qsC e2 <| qsC e3 <| qsC e4 <| qsC e5 <| qsC e6 <| qsC (eover i) <| qsC (rsign i.a) <| qsC (rsign k) <| qsC (rsign r) <| qsC f1 <| qsC f2 <| qsC f3 <| qsC f4 <| qsC f5 <| qs0) rfl enters_eEll (by kernel_rfl)
theorem ee_over3 {i : Inq} {x1 x2 k q uu vv uv x3 x4 x5 x6 x7 x8 x9 r p p' x10 s y1 y2 x y3 y4 y : Int} {X Y A D : Int} {g4 : Nat} (m1 : MC Tryz.prog 32 [rz i.a, rz i.d] [] (rz x1) []) (m2 : MC Tryz.prog 32 [rz i.b, rz i.b] [] (rz x2) []) (s1 : MC Tryz.prog 31 [rz x1, rz x2] [] (rz k) []) (m3 : MC Tryz.prog 32 [rz k, rz k] [] (rz q) []) (m4 : MC Tryz.prog 32 [rz i.u, rz i.u] [] (rz uu) []) (m5 : MC Tryz.prog 32 [rz i.v, rz i.v] [] (rz vv) []) (m6 : MC Tryz.prog 32 [rz i.u, rz i.v] [] (rz uv) []) (s2 : MC Tryz.prog 31 [rz i.n, rz i.z] [] (rz x3) []) (m7 : MC Tryz.prog 32 [rz x3, rz k] [] (rz x4) []) (d1 : MC Tryz.prog 158 [rz i.d, rz uu, rz i.a, rz vv] [] (rz x5) []) (b1 : MC Tryz.prog 29 [.int .i64 2] [] (rz 2) []) (m8 : MC Tryz.prog 32 [rz i.b, rz uv] [] (rz x6) []) (m9 : MC Tryz.prog 32 [rz 2, rz x6] [] (rz x7) []) (n1 : MC Tryz.prog 62 [rz x7] [] (rz x8) []) (a1 : MC Tryz.prog 61 [rz x5, rz x8] [] (rz x9) []) (a2 : MC Tryz.prog 61 [rz x4, rz x9] [] (rz r) []) (p1 : MC Tryz.prog 32 [rz r, rz i.d] [] (rz p) []) (p2 : MC Tryz.prog 32 [rz r, rz i.a] [] (rz p') []) (p3 : MC Tryz.prog 32 [rz r, rz i.b] [] (rz x10) []) (n2 : MC Tryz.prog 62 [rz x10] [] (rz s) []) (e1 : MC Tryz.prog 32 [rz i.d, rz i.u] [] (rz y1) []) (e2 : MC Tryz.prog 32 [rz i.b, rz i.v] [] (rz y2) []) (e3 : MC Tryz.prog 31 [rz y1, rz y2] [] (rz x) []) (e4 : MC Tryz.prog 32 [rz i.a, rz i.v] [] (rz y3) []) (e5 : MC Tryz.prog 32 [rz i.b, rz i.u] [] (rz y4) []) (e6 : MC Tryz.prog 31 [rz y3, rz y4] [] (rz y) []) (c1 : ¬ signI (some i.a) ≤ 0) (c2 : ¬ signI (some k) ≤ 0) (c3 : ¬ signI (some r) < 0) (f1 : MC Tryz.prog 160 [rz x, rz k] [] (errI X 0) []) (f2 : MC Tryz.prog 160 [rz y, rz k] [] (errI Y 0) []) (f3 : MC Tryz.prog 161 [rz p, rz q] [] (errI A 0) []) (f4 : MC Tryz.prog 162 [rz s, rz q] [] (errI 0 2) []) (f5 : MC Tryz.prog 161 [rz p', rz q] [] (errI D g4) []) : MC Tryz.prog 141 [riV i] [] (ellT 0 0 0 0 0 2) [] :=
  AC.runA mixed Tryz.func141 [.ab (rz x1), .ab (rz x2), .ab (rz k), .ab (rz q), .ab (rz uu), .ab (rz vv), .ab (rz uv), .ab (rz x3), .ab (rz x4), .ab (rz x5), .ab (rz 2), .ab (rz x6), .ab (rz x7), .ab (rz x8), .ab (rz x9), .ab (rz r), .ab (rz p), .ab (rz p'), .ab (rz x10), .ab (rz s), .ab (rz y1), .ab (rz y2), .ab (rz x), .ab (rz y3), .ab (rz y4), .ab (rz y), .ab (.bool false), .ab (i6 (signI (some i.a))), .tst false, .ab (i6 (signI (some k))), .tst false, .ab (i6 (signI (some r))), .tst false, .ab (errI X 0), .ab (errI Y 0), .ab (errI A 0), .ab (errI 0 2), .ab (errI D g4)] (tsC (tF c1) <| tsC (tF c2) <| tsC (tF c3) ts0) (qsC m1 <| qsC m2 <| qsC s1 <| qsC m3 <| qsC m4 <| qsC m5 <| qsC m6 <| qsC s2 <| qsC m7 <| qsC d1 <| qsC b1 <| qsC m8 <| qsC m9 <| qsC n1 <| qsC a1 <| qsC a2 <| qsC p1 <| qsC p2 <| qsC p3 <| qsC n2 <| qsC e1 <| qsC e2 <| qsC e3 <| qsC e4 <| qsC e5 <| qsC e6 <| qsC (eover i) <| qsC (rsign i.a) <| qsC (rsign k) <| qsC (rsign r) <| qsC f1 <| qsC f2 <| qsC f3 <| qsC f4 <| qsC f5 <| qs0) rfl enters_eEll (by kernel_rfl)
theorem ee_over4 {i : Inq} {x1 x2 k q uu vv uv x3 x4 x5 x6 x7 x8 x9 r p p' x10 s y1 y2 x y3 y4 y : Int} {X Y A B : Int} (m1 : MC Tryz.prog 32 [rz i.a, rz i.d] [] (rz x1) []) (m2 : MC Tryz.prog 32 [rz i.b, rz i.b] [] (rz x2) []) (s1 : MC Tryz.prog 31 [rz x1, rz x2] [] (rz k) []) (m3 : MC Tryz.prog 32 [rz k, rz k] [] (rz q) []) (m4 : MC Tryz.prog 32 [rz i.u, rz i.u] [] (rz uu) []) (m5 : MC Tryz.prog 32 [rz i.v, rz i.v] [] (rz vv) []) (m6 : MC Tryz.prog 32 [rz i.u, rz i.v] [] (rz uv) []) (s2 : MC Tryz.prog 31 [rz i.n, rz i.z] [] (rz x3) []) (m7 : MC Tryz.prog 32 [rz x3, rz k] [] (rz x4) []) (d1 : MC Tryz.prog 158 [rz i.d, rz uu, rz i.a, rz vv] [] (rz x5) []) (b1 : MC Tryz.prog 29 [.int .i64 2] [] (rz 2) []) (m8 : MC Tryz.prog 32 [rz i.b, rz uv] [] (rz x6) []) (m9 : MC Tryz.prog 32 [rz 2, rz x6] [] (rz x7) []) (n1 : MC Tryz.prog 62 [rz x7] [] (rz x8) []) (a1 : MC Tryz.prog 61 [rz x5, rz x8] [] (rz x9) []) (a2 : MC Tryz.prog 61 [rz x4, rz x9] [] (rz r) []) (p1 : MC Tryz.prog 32 [rz r, rz i.d] [] (rz p) []) (p2 : MC Tryz.prog 32 [rz r, rz i.a] [] (rz p') []) (p3 : MC Tryz.prog 32 [rz r, rz i.b] [] (rz x10) []) (n2 : MC Tryz.prog 62 [rz x10] [] (rz s) []) (e1 : MC Tryz.prog 32 [rz i.d, rz i.u] [] (rz y1) []) (e2 : MC Tryz.prog 32 [rz i.b, rz i.v] [] (rz y2) []) (e3 : MC Tryz.prog 31 [rz y1, rz y2] [] (rz x) []) (e4 : MC Tryz.prog 32 [rz i.a, rz i.v] [] (rz y3) []) (e5 : MC Tryz.prog 32 [rz i.b, rz i.u] [] (rz y4) []) (e6 : MC Tryz.prog 31 [rz y3, rz y4] [] (rz y) []) (c1 : ¬ signI (some i.a) ≤ 0) (c2 : ¬ signI (some k) ≤ 0) (c3 : ¬ signI (some r) < 0) (f1 : MC Tryz.prog 160 [rz x, rz k] [] (errI X 0) []) (f2 : MC Tryz.prog 160 [rz y, rz k] [] (errI Y 0) []) (f3 : MC Tryz.prog 161 [rz p, rz q] [] (errI A 0) []) (f4 : MC Tryz.prog 162 [rz s, rz q] [] (errI B 0) []) (f5 : MC Tryz.prog 161 [rz p', rz q] [] (errI 0 2) []) : MC Tryz.prog 141 [riV i] [] (ellT 0 0 0 0 0 2) [] :=
  AC.runA mixed Tryz.func141 [.ab (rz x1), .ab (rz x2), .ab (rz k), .ab (rz q), .ab (rz uu), .ab (rz vv), .ab (rz uv), .ab (rz x3), .ab (rz x4), .ab (rz x5), .ab (rz 2), .ab (rz x6), .ab (rz x7), .ab (rz x8), .ab (rz x9), .ab (rz r), .ab (rz p), .ab (rz p'), .ab (rz x10), .ab (rz s), .ab (rz y1), .ab (rz y2), .ab (rz x), .ab (rz y3), .ab (rz y4), .ab (rz y), .ab (.bool false), .ab (i6 (signI (some i.a))), .tst false, .ab (i6 (signI (some k))), .tst false, .ab (i6 (signI (some r))), .tst false, .ab (errI X 0), .ab (errI Y 0), .ab (errI A 0), .ab (errI B 0), .ab (errI 0 2)] (tsC (tF c1) <| tsC (tF c2) <| tsC (tF c3) ts0) (qsC m1 <| qsC m2 <| qsC s1 <| qsC m3 <| qsC m4 <| qsC m5 <| qsC m6 <| qsC s2 <| qsC m7 <| qsC d1 <| qsC b1 <| qsC m8 <| qsC m9 <| qsC n1 <| qsC a1 <| qsC a2 <| qsC p1 <| qsC p2 <| qsC p3 <| qsC n2 <| qsC e1 <| qsC e2 <| qsC e3 <| qsC e4 <| qsC e5 <| qsC e6 <| qsC (eover i) <| qsC (rsign i.a) <| qsC (rsign k) <| qsC (rsign r) <| qsC f1 <| qsC f2 <| qsC f3 <| qsC f4 <| qsC f5 <| qs0) rfl enters_eEll (by kernel_rfl)
theorem ee_bigA {i : Inq} {x1 x2 k q uu vv uv x3 x4 x5 x6 x7 x8 x9 r p p' x10 s y1 y2 x y3 y4 y : Int} {X Y A B D : Int} (m1 : MC Tryz.prog 32 [rz i.a, rz i.d] [] (rz x1) []) (m2 : MC Tryz.prog 32 [rz i.b, rz i.b] [] (rz x2) []) (s1 : MC Tryz.prog 31 [rz x1, rz x2] [] (rz k) []) (m3 : MC Tryz.prog 32 [rz k, rz k] [] (rz q) []) (m4 : MC Tryz.prog 32 [rz i.u, rz i.u] [] (rz uu) []) (m5 : MC Tryz.prog 32 [rz i.v, rz i.v] [] (rz vv) []) (m6 : MC Tryz.prog 32 [rz i.u, rz i.v] [] (rz uv) []) (s2 : MC Tryz.prog 31 [rz i.n, rz i.z] [] (rz x3) []) (m7 : MC Tryz.prog 32 [rz x3, rz k] [] (rz x4) []) (d1 : MC Tryz.prog 158 [rz i.d, rz uu, rz i.a, rz vv] [] (rz x5) []) (b1 : MC Tryz.prog 29 [.int .i64 2] [] (rz 2) []) (m8 : MC Tryz.prog 32 [rz i.b, rz uv] [] (rz x6) []) (m9 : MC Tryz.prog 32 [rz 2, rz x6] [] (rz x7) []) (n1 : MC Tryz.prog 62 [rz x7] [] (rz x8) []) (a1 : MC Tryz.prog 61 [rz x5, rz x8] [] (rz x9) []) (a2 : MC Tryz.prog 61 [rz x4, rz x9] [] (rz r) []) (p1 : MC Tryz.prog 32 [rz r, rz i.d] [] (rz p) []) (p2 : MC Tryz.prog 32 [rz r, rz i.a] [] (rz p') []) (p3 : MC Tryz.prog 32 [rz r, rz i.b] [] (rz x10) []) (n2 : MC Tryz.prog 62 [rz x10] [] (rz s) []) (e1 : MC Tryz.prog 32 [rz i.d, rz i.u] [] (rz y1) []) (e2 : MC Tryz.prog 32 [rz i.b, rz i.v] [] (rz y2) []) (e3 : MC Tryz.prog 31 [rz y1, rz y2] [] (rz x) []) (e4 : MC Tryz.prog 32 [rz i.a, rz i.v] [] (rz y3) []) (e5 : MC Tryz.prog 32 [rz i.b, rz i.u] [] (rz y4) []) (e6 : MC Tryz.prog 31 [rz y3, rz y4] [] (rz y) []) (c1 : ¬ signI (some i.a) ≤ 0) (c2 : ¬ signI (some k) ≤ 0) (c3 : ¬ signI (some r) < 0) (f1 : MC Tryz.prog 160 [rz x, rz k] [] (errI X 0) []) (f2 : MC Tryz.prog 160 [rz y, rz k] [] (errI Y 0) []) (f3 : MC Tryz.prog 161 [rz p, rz q] [] (errI A 0) []) (f4 : MC Tryz.prog 162 [rz s, rz q] [] (errI B 0) []) (f5 : MC Tryz.prog 161 [rz p', rz q] [] (errI D 0) []) (c4 : A > 70368744177664) : MC Tryz.prog 141 [riV i] [] (ellT 0 0 0 0 0 2) [] :=
  AC.runA mixed Tryz.func141 [.ab (rz x1), .ab (rz x2), .ab (rz k), .ab (rz q), .ab (rz uu), .ab (rz vv), .ab (rz uv), .ab (rz x3), .ab (rz x4), .ab (rz x5), .ab (rz 2), .ab (rz x6), .ab (rz x7), .ab (rz x8), .ab (rz x9), .ab (rz r), .ab (rz p), .ab (rz p'), .ab (rz x10), .ab (rz s), .ab (rz y1), .ab (rz y2), .ab (rz x), .ab (rz y3), .ab (rz y4), .ab (rz y), .ab (.bool false), .ab (i6 (signI (some i.a))), .tst false, .ab (i6 (signI (some k))), .tst false, .ab (i6 (signI (some r))), .tst false, .ab (errI X 0), .ab (errI Y 0), .ab (errI A 0), .ab (errI B 0), .ab (errI D 0), .auto, .auto, .auto, .auto, .auto, .auto, .auto, .auto, .auto, .auto, .auto, .tst true] (tsC (tF c1) <| tsC (tF c2) <| tsC (tF c3) <| tsC (tT c4) ts0) (qsC m1 <| qsC m2 <| qsC s1 <| qsC m3 <| qsC m4 <| qsC m5 <| qsC m6 <| qsC s2 <| qsC m7 <| qsC d1 <| qsC b1 <| qsC m8 <| qsC m9 <| qsC n1 <| qsC a1 <| qsC a2 <| qsC p1 <| qsC p2 <| qsC p3 <| qsC n2 <| qsC e1 <| qsC e2 <| qsC e3 <| qsC e4 <| qsC e5 <| qsC e6 <| qsC (eover i) <| qsC (rsign i.a) <| qsC (rsign k) <| qsC (rsign r) <| qsC f1 <| qsC f2 <| qsC f3 <| qsC f4 <| qsC f5 <| qs0) rfl enters_eEll (by kernel_rfl)
theorem ee_bigD {i : Inq} {x1 x2 k q uu vv uv x3 x4 x5 x6 x7 x8 x9 r p p' x10 s y1 y2 x y3 y4 y : Int} {X Y A B D : Int} (m1 : MC Tryz.prog 32 [rz i.a, rz i.d] [] (rz x1) []) (m2 : MC Tryz.prog 32 [rz i.b, rz i.b] [] (rz x2) []) (s1 : MC Tryz.prog 31 [rz x1, rz x2] [] (rz k) []) (m3 : MC Tryz.prog 32 [rz k, rz k] [] (rz q) []) (m4 : MC Tryz.prog 32 [rz i.u, rz i.u] [] (rz uu) []) (m5 : MC Tryz.prog 32 [rz i.v, rz i.v] [] (rz vv) []) (m6 : MC Tryz.prog 32 [rz i.u, rz i.v] [] (rz uv) []) (s2 : MC Tryz.prog 31 [rz i.n, rz i.z] [] (rz x3) []) (m7 : MC Tryz.prog 32 [rz x3, rz k] [] (rz x4) []) (d1 : MC Tryz.prog 158 [rz i.d, rz uu, rz i.a, rz vv] [] (rz x5) []) (b1 : MC Tryz.prog 29 [.int .i64 2] [] (rz 2) []) (m8 : MC Tryz.prog 32 [rz i.b, rz uv] [] (rz x6) []) (m9 : MC Tryz.prog 32 [rz 2, rz x6] [] (rz x7) []) (n1 : MC Tryz.prog 62 [rz x7] [] (rz x8) []) (a1 : MC Tryz.prog 61 [rz x5, rz x8] [] (rz x9) []) (a2 : MC Tryz.prog 61 [rz x4, rz x9] [] (rz r) []) (p1 : MC Tryz.prog 32 [rz r, rz i.d] [] (rz p) []) (p2 : MC Tryz.prog 32 [rz r, rz i.a] [] (rz p') []) (p3 : MC Tryz.prog 32 [rz r, rz i.b] [] (rz x10) []) (n2 : MC Tryz.prog 62 [rz x10] [] (rz s) []) (e1 : MC Tryz.prog 32 [rz i.d, rz i.u] [] (rz y1) []) (e2 : MC Tryz.prog 32 [rz i.b, rz i.v] [] (rz y2) []) (e3 : MC Tryz.prog 31 [rz y1, rz y2] [] (rz x) []) (e4 : MC Tryz.prog 32 [rz i.a, rz i.v] [] (rz y3) []) (e5 : MC Tryz.prog 32 [rz i.b, rz i.u] [] (rz y4) []) (e6 : MC Tryz.prog 31 [rz y3, rz y4] [] (rz y) []) (c1 : ¬ signI (some i.a) ≤ 0) (c2 : ¬ signI (some k) ≤ 0) (c3 : ¬ signI (some r) < 0) (f1 : MC Tryz.prog 160 [rz x, rz k] [] (errI X 0) []) (f2 : MC Tryz.prog 160 [rz y, rz k] [] (errI Y 0) []) (f3 : MC Tryz.prog 161 [rz p, rz q] [] (errI A 0) []) (f4 : MC Tryz.prog 162 [rz s, rz q] [] (errI B 0) []) (f5 : MC Tryz.prog 161 [rz p', rz q] [] (errI D 0) []) (c4 : ¬ A > 70368744177664) (c5 : D > 70368744177664) : MC Tryz.prog 141 [riV i] [] (ellT 0 0 0 0 0 2) [] :=
  AC.runA mixed Tryz.func141 [.ab (rz x1), .ab (rz x2), .ab (rz k), .ab (rz q), .ab (rz uu), .ab (rz vv), .ab (rz uv), .ab (rz x3), .ab (rz x4), .ab (rz x5), .ab (rz 2), .ab (rz x6), .ab (rz x7), .ab (rz x8), .ab (rz x9), .ab (rz r), .ab (rz p), .ab (rz p'), .ab (rz x10), .ab (rz s), .ab (rz y1), .ab (rz y2), .ab (rz x), .ab (rz y3), .ab (rz y4), .ab (rz y), .ab (.bool false), .ab (i6 (signI (some i.a))), .tst false, .ab (i6 (signI (some k))), .tst false, .ab (i6 (signI (some r))), .tst false, .ab (errI X 0), .ab (errI Y 0), .ab (errI A 0), .ab (errI B 0), .ab (errI D 0), .auto, .auto, .auto, .auto, .auto, .auto, .auto, .auto, .auto, .auto, .auto, .tst false, .tst true] (tsC (tF c1) <| tsC (tF c2) <| tsC (tF c3) <| tsC (tF c4) <| tsC (tT c5) ts0) (qsC m1 <| qsC m2 <| qsC s1 <| qsC m3 <| qsC m4 <| qsC m5 <| qsC m6 <| qsC s2 <| qsC m7 <| qsC d1 <| qsC b1 <| qsC m8 <| qsC m9 <| qsC n1 <| qsC a1 <| qsC a2 <| qsC p1 <| qsC p2 <| qsC p3 <| qsC n2 <| qsC e1 <| qsC e2 <| qsC e3 <| qsC e4 <| qsC e5 <| qsC e6 <| qsC (eover i) <| qsC (rsign i.a) <| qsC (rsign k) <| qsC (rsign r) <| qsC f1 <| qsC f2 <| qsC f3 <| qsC f4 <| qsC f5 <| qs0) rfl enters_eEll (by kernel_rfl)
theorem ee_no {i : Inq} {x1 x2 k q uu vv uv x3 x4 x5 x6 x7 x8 x9 r p p' x10 s y1 y2 x y3 y4 y : Int} {X Y A B D : Int} (m1 : MC Tryz.prog 32 [rz i.a, rz i.d] [] (rz x1) []) (m2 : MC Tryz.prog 32 [rz i.b, rz i.b] [] (rz x2) []) (s1 : MC Tryz.prog 31 [rz x1, rz x2] [] (rz k) []) (m3 : MC Tryz.prog 32 [rz k, rz k] [] (rz q) []) (m4 : MC Tryz.prog 32 [rz i.u, rz i.u] [] (rz uu) []) (m5 : MC Tryz.prog 32 [rz i.v, rz i.v] [] (rz vv) []) (m6 : MC Tryz.prog 32 [rz i.u, rz i.v] [] (rz uv) []) (s2 : MC Tryz.prog 31 [rz i.n, rz i.z] [] (rz x3) []) (m7 : MC Tryz.prog 32 [rz x3, rz k] [] (rz x4) []) (d1 : MC Tryz.prog 158 [rz i.d, rz uu, rz i.a, rz vv] [] (rz x5) []) (b1 : MC Tryz.prog 29 [.int .i64 2] [] (rz 2) []) (m8 : MC Tryz.prog 32 [rz i.b, rz uv] [] (rz x6) []) (m9 : MC Tryz.prog 32 [rz 2, rz x6] [] (rz x7) []) (n1 : MC Tryz.prog 62 [rz x7] [] (rz x8) []) (a1 : MC Tryz.prog 61 [rz x5, rz x8] [] (rz x9) []) (a2 : MC Tryz.prog 61 [rz x4, rz x9] [] (rz r) []) (p1 : MC Tryz.prog 32 [rz r, rz i.d] [] (rz p) []) (p2 : MC Tryz.prog 32 [rz r, rz i.a] [] (rz p') []) (p3 : MC Tryz.prog 32 [rz r, rz i.b] [] (rz x10) []) (n2 : MC Tryz.prog 62 [rz x10] [] (rz s) []) (e1 : MC Tryz.prog 32 [rz i.d, rz i.u] [] (rz y1) []) (e2 : MC Tryz.prog 32 [rz i.b, rz i.v] [] (rz y2) []) (e3 : MC Tryz.prog 31 [rz y1, rz y2] [] (rz x) []) (e4 : MC Tryz.prog 32 [rz i.a, rz i.v] [] (rz y3) []) (e5 : MC Tryz.prog 32 [rz i.b, rz i.u] [] (rz y4) []) (e6 : MC Tryz.prog 31 [rz y3, rz y4] [] (rz y) []) (c1 : ¬ signI (some i.a) ≤ 0) (c2 : ¬ signI (some k) ≤ 0) (c3 : ¬ signI (some r) < 0) (f1 : MC Tryz.prog 160 [rz x, rz k] [] (errI X 0) []) (f2 : MC Tryz.prog 160 [rz y, rz k] [] (errI Y 0) []) (f3 : MC Tryz.prog 161 [rz p, rz q] [] (errI A 0) []) (f4 : MC Tryz.prog 162 [rz s, rz q] [] (errI B 0) []) (f5 : MC Tryz.prog 161 [rz p', rz q] [] (errI D 0) []) (c4 : ¬ A > 70368744177664) (c5 : ¬ D > 70368744177664) (h8 : QC Tryz.prog 26 [ell X Y (IntKind.i64.wrap (A + 1)) B (IntKind.i64.wrap (D + 1))] (.bool false)) : MC Tryz.prog 141 [riV i] [] (ellT 0 0 0 0 0 2) [] :=
  AC.runA mixed Tryz.func141 [.ab (rz x1), .ab (rz x2), .ab (rz k), .ab (rz q), .ab (rz uu), .ab (rz vv), .ab (rz uv), .ab (rz x3), .ab (rz x4), .ab (rz x5), .ab (rz 2), .ab (rz x6), .ab (rz x7), .ab (rz x8), .ab (rz x9), .ab (rz r), .ab (rz p), .ab (rz p'), .ab (rz x10), .ab (rz s), .ab (rz y1), .ab (rz y2), .ab (rz x), .ab (rz y3), .ab (rz y4), .ab (rz y), .ab (.bool false), .ab (i6 (signI (some i.a))), .tst false, .ab (i6 (signI (some k))), .tst false, .ab (i6 (signI (some r))), .tst false, .ab (errI X 0), .ab (errI Y 0), .ab (errI A 0), .ab (errI B 0), .ab (errI D 0), .auto, .auto, .auto, .auto, .auto, .auto, .auto, .auto, .auto, .auto, .auto, .tst false, .tst false, .res (.bool false)] (tsC (tF c1) <| tsC (tF c2) <| tsC (tF c3) <| tsC (tF c4) <| tsC (tF c5) ts0) (qsC m1 <| qsC m2 <| qsC s1 <| qsC m3 <| qsC m4 <| qsC m5 <| qsC m6 <| qsC s2 <| qsC m7 <| qsC d1 <| qsC b1 <| qsC m8 <| qsC m9 <| qsC n1 <| qsC a1 <| qsC a2 <| qsC p1 <| qsC p2 <| qsC p3 <| qsC n2 <| qsC e1 <| qsC e2 <| qsC e3 <| qsC e4 <| qsC e5 <| qsC e6 <| qsC (eover i) <| qsC (rsign i.a) <| qsC (rsign k) <| qsC (rsign r) <| qsC f1 <| qsC f2 <| qsC f3 <| qsC f4 <| qsC f5 <| qsC h8 <| qs0) rfl enters_eEll (by kernel_rfl)
theorem ee_ok {i : Inq} {x1 x2 k q uu vv uv x3 x4 x5 x6 x7 x8 x9 r p p' x10 s y1 y2 x y3 y4 y : Int} {X Y A B D X' Y' A' B' D' : Int} {e : Nat} (m1 : MC Tryz.prog 32 [rz i.a, rz i.d] [] (rz x1) []) (m2 : MC Tryz.prog 32 [rz i.b, rz i.b] [] (rz x2) []) (s1 : MC Tryz.prog 31 [rz x1, rz x2] [] (rz k) []) (m3 : MC Tryz.prog 32 [rz k, rz k] [] (rz q) []) (m4 : MC Tryz.prog 32 [rz i.u, rz i.u] [] (rz uu) []) (m5 : MC Tryz.prog 32 [rz i.v, rz i.v] [] (rz vv) []) (m6 : MC Tryz.prog 32 [rz i.u, rz i.v] [] (rz uv) []) (s2 : MC Tryz.prog 31 [rz i.n, rz i.z] [] (rz x3) []) (m7 : MC Tryz.prog 32 [rz x3, rz k] [] (rz x4) []) (d1 : MC Tryz.prog 158 [rz i.d, rz uu, rz i.a, rz vv] [] (rz x5) []) (b1 : MC Tryz.prog 29 [.int .i64 2] [] (rz 2) []) (m8 : MC Tryz.prog 32 [rz i.b, rz uv] [] (rz x6) []) (m9 : MC Tryz.prog 32 [rz 2, rz x6] [] (rz x7) []) (n1 : MC Tryz.prog 62 [rz x7] [] (rz x8) []) (a1 : MC Tryz.prog 61 [rz x5, rz x8] [] (rz x9) []) (a2 : MC Tryz.prog 61 [rz x4, rz x9] [] (rz r) []) (p1 : MC Tryz.prog 32 [rz r, rz i.d] [] (rz p) []) (p2 : MC Tryz.prog 32 [rz r, rz i.a] [] (rz p') []) (p3 : MC Tryz.prog 32 [rz r, rz i.b] [] (rz x10) []) (n2 : MC Tryz.prog 62 [rz x10] [] (rz s) []) (e1 : MC Tryz.prog 32 [rz i.d, rz i.u] [] (rz y1) []) (e2 : MC Tryz.prog 32 [rz i.b, rz i.v] [] (rz y2) []) (e3 : MC Tryz.prog 31 [rz y1, rz y2] [] (rz x) []) (e4 : MC Tryz.prog 32 [rz i.a, rz i.v] [] (rz y3) []) (e5 : MC Tryz.prog 32 [rz i.b, rz i.u] [] (rz y4) []) (e6 : MC Tryz.prog 31 [rz y3, rz y4] [] (rz y) []) (c1 : ¬ signI (some i.a) ≤ 0) (c2 : ¬ signI (some k) ≤ 0) (c3 : ¬ signI (some r) < 0) (f1 : MC Tryz.prog 160 [rz x, rz k] [] (errI X 0) []) (f2 : MC Tryz.prog 160 [rz y, rz k] [] (errI Y 0) []) (f3 : MC Tryz.prog 161 [rz p, rz q] [] (errI A 0) []) (f4 : MC Tryz.prog 162 [rz s, rz q] [] (errI B 0) []) (f5 : MC Tryz.prog 161 [rz p', rz q] [] (errI D 0) []) (c4 : ¬ A > 70368744177664) (c5 : ¬ D > 70368744177664) (h8 : QC Tryz.prog 26 [ell X Y (IntKind.i64.wrap (A + 1)) B (IntKind.i64.wrap (D + 1))] (.bool true)) (h9 : QC Tryz.prog 163 [ell X Y (IntKind.i64.wrap (A + 1)) B (IntKind.i64.wrap (D + 1)), .int .i64 1] (ellT X' Y' A' B' D' e)) : MC Tryz.prog 141 [riV i] [] (ellT X' Y' A' B' D' e) [] :=
  AC.runA mixed Tryz.func141 [.ab (rz x1), .ab (rz x2), .ab (rz k), .ab (rz q), .ab (rz uu), .ab (rz vv), .ab (rz uv), .ab (rz x3), .ab (rz x4), .ab (rz x5), .ab (rz 2), .ab (rz x6), .ab (rz x7), .ab (rz x8), .ab (rz x9), .ab (rz r), .ab (rz p), .ab (rz p'), .ab (rz x10), .ab (rz s), .ab (rz y1), .ab (rz y2), .ab (rz x), .ab (rz y3), .ab (rz y4), .ab (rz y), .ab (.bool false), .ab (i6 (signI (some i.a))), .tst false, .ab (i6 (signI (some k))), .tst false, .ab (i6 (signI (some r))), .tst false, .ab (errI X 0), .ab (errI Y 0), .ab (errI A 0), .ab (errI B 0), .ab (errI D 0), .auto, .auto, .auto, .auto, .auto, .auto, .auto, .auto, .auto, .auto, .auto, .tst false, .tst false, .res (.bool true), .res (ellT X' Y' A' B' D' e)] (tsC (tF c1) <| tsC (tF c2) <| tsC (tF c3) <| tsC (tF c4) <| tsC (tF c5) ts0) (qsC m1 <| qsC m2 <| qsC s1 <| qsC m3 <| qsC m4 <| qsC m5 <| qsC m6 <| qsC s2 <| qsC m7 <| qsC d1 <| qsC b1 <| qsC m8 <| qsC m9 <| qsC n1 <| qsC a1 <| qsC a2 <| qsC p1 <| qsC p2 <| qsC p3 <| qsC n2 <| qsC e1 <| qsC e2 <| qsC e3 <| qsC e4 <| qsC e5 <| qsC e6 <| qsC (eover i) <| qsC (rsign i.a) <| qsC (rsign k) <| qsC (rsign r) <| qsC f1 <| qsC f2 <| qsC f3 <| qsC f4 <| qsC f5 <| qsC h8 <| qsC h9 <| qs0) rfl enters_eEll (by kernel_rfl)
theorem siz_eq (a b d u v z n k : Int) : (n - z) * k + (d * (u * u) + a * (v * v) + -(2 * (b * (u * v)))) = sizI a b d u v z n k := by
  unfold sizI
  have e : 2 * b * u * v = 2 * (b * (u * v)) := by rw [Int.mul_assoc, Int.mul_assoc]
  rw [e]
  omega
theorem eEll_t {i : Inq} (h : Low i.a i.b i.d i.u i.v i.z i.n) : MC Tryz.prog 141 [riV i] [] (ellQ i) [] := by
  have hk := h.det
  have hr := h.siz hk
  have suv := h.u.mul h.v
  have sdot := ((h.d.mul (h.u.mul h.u)).add (h.a.mul (h.v.mul h.v))).mono (k := 561) (by omega)
  have sneg := (sm2.mul (h.b.mul suv)).neg.mono (k := 562) (by omega)
  have m1 := rmul h.a h.d
  have m2 := rmul h.b h.b
  have s1 : MC Tryz.prog 31 [rz (i.a * i.d), rz (i.b * i.b)] [] (rz (detI i.a i.b i.d)) [] := rsub (h.a.mul h.d) (h.b.mul h.b)
  have m3 := rmul hk hk
  have m4 := rmul h.u h.u
  have m5 := rmul h.v h.v
  have m6 := rmul h.u h.v
  have s2 := rsub h.n h.z
  have m7 := rmul (h.n.sub h.z) hk
  have d1 := edot h.d (h.u.mul h.u) h.a (h.v.mul h.v)
  have b1 := ebig (n := 2) ⟨by omega, by omega⟩
  have m8 := rmul h.b suv
  have m9 := rmul sm2 (h.b.mul suv)
  have n1 := rneg ((sm2.mul (h.b.mul suv)).wf (by omega))
  have a1 := radd (sdot.mono (k := 562) (by omega)) sneg
  have a2 := radd (((h.n.sub h.z).mul hk).mono (k := 563) (by omega)) ((sdot.mono (k := 562) (by omega)).add sneg)
  rw [siz_eq] at a2
  have p1 := rmul hr h.d
  have p2 := rmul hr h.a
  have p3 := rmul hr h.b
  have n2 := rneg ((hr.mul h.b).wf (by omega))
  have e1 := rmul h.d h.u
  have e2 := rmul h.b h.v
  have e3 := rsub (h.d.mul h.u) (h.b.mul h.v)
  have e4 := rmul h.a h.v
  have e5 := rmul h.b h.u
  have e6 := rsub (h.a.mul h.v) (h.b.mul h.u)
  unfold ellQ ellI
  by_cases c1 : i.a ≤ 0
  · rw [if_pos c1]
    exact ee_arg1 m1 m2 s1 m3 m4 m5 m6 s2 m7 d1 b1 m8 m9 n1 a1 a2 p1 p2 p3 n2 e1 e2 e3 e4 e5 e6 (signI_le0.2 c1)
  rw [if_neg c1]
  have g1 := mt signI_le0.1 c1
  by_cases c2 : detI i.a i.b i.d ≤ 0
  · rw [if_pos c2]
    exact ee_arg2 m1 m2 s1 m3 m4 m5 m6 s2 m7 d1 b1 m8 m9 n1 a1 a2 p1 p2 p3 n2 e1 e2 e3 e4 e5 e6 g1 (signI_le0.2 c2)
  rw [if_neg c2]
  have g2 := mt signI_le0.1 c2
  by_cases c3 : sizI i.a i.b i.d i.u i.v i.z i.n (detI i.a i.b i.d) < 0
  · rw [if_pos c3]
    exact ee_empty m1 m2 s1 m3 m4 m5 m6 s2 m7 d1 b1 m8 m9 n1 a1 a2 p1 p2 p3 n2 e1 e2 e3 e4 e5 e6 g1 g2 (signI_lt0.2 c3)
  rw [if_neg c3]
  have g3 := mt signI_lt0.1 c3
  have k0 : 0 < detI i.a i.b i.d := by omega
  have q0 := Int.mul_pos k0 k0
  have hkk := hk.mul hk
  have f1 := rNear_t (m := 800) (((h.d.mul h.u).sub (h.b.mul h.v)).mono (by omega)) (hk.mono (by omega)) k0
  have f2 := rNear_t (m := 800) (((h.a.mul h.v).sub (h.b.mul h.u)).mono (by omega)) (hk.mono (by omega)) k0
  have f3 := rCeil_t ((hr.mul h.d).wf (by omega)) (hkk.wf (by omega)) q0
  have f4 := rFloor_t ((hr.mul h.b).neg.wf (by omega)) (hkk.wf (by omega)) q0
  have f5 := rCeil_t ((hr.mul h.a).wf (by omega)) (hkk.wf (by omega)) q0
  unfold ellW
  generalize nearI (i.d * i.u - i.b * i.v) (detI i.a i.b i.d) = X at *
  generalize nearI (i.a * i.v - i.b * i.u) (detI i.a i.b i.d) = Y at *
  generalize cdiv (sizI i.a i.b i.d i.u i.v i.z i.n (detI i.a i.b i.d) * i.d) (detI i.a i.b i.d * detI i.a i.b i.d) = A at *
  generalize (-(sizI i.a i.b i.d i.u i.v i.z i.n (detI i.a i.b i.d) * i.b)).fdiv (detI i.a i.b i.d * detI i.a i.b i.d) = B at *
  generalize cdiv (sizI i.a i.b i.d i.u i.v i.z i.n (detI i.a i.b i.d) * i.a) (detI i.a i.b i.d * detI i.a i.b i.d) = D at *
  have hno : (fits64 X && (fits64 Y && (fits64 A && (fits64 B && fits64 D)))) = false → mayL X Y (A + 1) B (D + 1) = false := fun hf => by
    cases hl : mayL X Y (A + 1) B (D + 1) with
    | true => rw [mayL_fits hl] at hf; cases hf
    | false => rfl
  obtain ⟨r2, w2, h2⟩ := Go.Proofs.YtaibhjphgdjcmaaGreat.W.wnar_form (some Y)
  obtain ⟨r3, w3, h3⟩ := Go.Proofs.YtaibhjphgdjcmaaGreat.W.wnar_form (some A)
  obtain ⟨r4, w4, h4⟩ := Go.Proofs.YtaibhjphgdjcmaaGreat.W.wnar_form (some B)
  obtain ⟨r5, w5, h5⟩ := Go.Proofs.YtaibhjphgdjcmaaGreat.W.wnar_form (some D)
  cases hX : fits64 X with
  | false =>
    rw [hno (by rw [hX]; rfl)]
    rw [wnar_over hX] at f1
    rw [h2] at f2
    rw [h3] at f3
    rw [h4] at f4
    rw [h5] at f5
    exact ee_over0 m1 m2 s1 m3 m4 m5 m6 s2 m7 d1 b1 m8 m9 n1 a1 a2 p1 p2 p3 n2 e1 e2 e3 e4 e5 e6 g1 g2 g3 f1 f2 f3 f4 f5
  | true =>
  rw [wnar_fits hX] at f1
  cases hY : fits64 Y with
  | false =>
    rw [hno (by rw [hX, hY]; rfl)]
    rw [wnar_over hY] at f2
    rw [h3] at f3
    rw [h4] at f4
    rw [h5] at f5
    exact ee_over1 m1 m2 s1 m3 m4 m5 m6 s2 m7 d1 b1 m8 m9 n1 a1 a2 p1 p2 p3 n2 e1 e2 e3 e4 e5 e6 g1 g2 g3 f1 f2 f3 f4 f5
  | true =>
  rw [wnar_fits hY] at f2
  cases hA : fits64 A with
  | false =>
    rw [hno (by rw [hX, hY, hA]; rfl)]
    rw [wnar_over hA] at f3
    rw [h4] at f4
    rw [h5] at f5
    exact ee_over2 m1 m2 s1 m3 m4 m5 m6 s2 m7 d1 b1 m8 m9 n1 a1 a2 p1 p2 p3 n2 e1 e2 e3 e4 e5 e6 g1 g2 g3 f1 f2 f3 f4 f5
  | true =>
  rw [wnar_fits hA] at f3
  cases hB : fits64 B with
  | false =>
    rw [hno (by rw [hX, hY, hA, hB]; rfl)]
    rw [wnar_over hB] at f4
    rw [h5] at f5
    exact ee_over3 m1 m2 s1 m3 m4 m5 m6 s2 m7 d1 b1 m8 m9 n1 a1 a2 p1 p2 p3 n2 e1 e2 e3 e4 e5 e6 g1 g2 g3 f1 f2 f3 f4 f5
  | true =>
  rw [wnar_fits hB] at f4
  cases hD : fits64 D with
  | false =>
    rw [hno (by rw [hX, hY, hA, hB, hD]; rfl)]
    rw [wnar_over hD] at f5
    exact ee_over4 m1 m2 s1 m3 m4 m5 m6 s2 m7 d1 b1 m8 m9 n1 a1 a2 p1 p2 p3 n2 e1 e2 e3 e4 e5 e6 g1 g2 g3 f1 f2 f3 f4 f5
  | true =>
  rw [wnar_fits hD] at f5
  have iA := fits64_iff.1 hA
  have iB := fits64_iff.1 hB
  have iD := fits64_iff.1 hD
  have hm : ∀ r, ¬ A > 70368744177664 → ¬ D > 70368744177664 → mayL X Y (A + 1) B (D + 1) = r → QC Tryz.prog 26 [ell X Y (IntKind.i64.wrap (A + 1)) B (IntKind.i64.wrap (D + 1))] (.bool r) := fun r cA cD hl => by
    rw [i64_wrap (n := A + 1) (by omega) (by omega), i64_wrap (n := D + 1) (by omega) (by omega)]
    exact eMay_qc X Y ⟨by omega, by omega⟩ iB ⟨by omega, by omega⟩ r hl
  cases hl : mayL X Y (A + 1) B (D + 1) with
  | true =>
    have g := mayL_iff.1 hl
    have cA : ¬ A > 70368744177664 := by omega
    have cD : ¬ D > 70368744177664 := by omega
    obtain ⟨X', Y', A', B', D', e, he⟩ := gballV_form X Y (A + 1) B (D + 1) 1
    have h9 : QC Tryz.prog 163 [ell X Y (IntKind.i64.wrap (A + 1)) B (IntKind.i64.wrap (D + 1)), .int .i64 1] (ellT X' Y' A' B' D' e) := by
      rw [i64_wrap (n := A + 1) (by omega) (by omega), i64_wrap (n := D + 1) (by omega) (by omega)]
      exact eGrow_qc X Y 1 ⟨by omega, by omega⟩ iB ⟨by omega, by omega⟩ _ he
    simp only
    rw [he]
    exact ee_ok m1 m2 s1 m3 m4 m5 m6 s2 m7 d1 b1 m8 m9 n1 a1 a2 p1 p2 p3 n2 e1 e2 e3 e4 e5 e6 g1 g2 g3 f1 f2 f3 f4 f5 cA cD (hm true cA cD hl) h9
  | false =>
    by_cases cA : A > 70368744177664
    · exact ee_bigA m1 m2 s1 m3 m4 m5 m6 s2 m7 d1 b1 m8 m9 n1 a1 a2 p1 p2 p3 n2 e1 e2 e3 e4 e5 e6 g1 g2 g3 f1 f2 f3 f4 f5 cA
    by_cases cD : D > 70368744177664
    · exact ee_bigD m1 m2 s1 m3 m4 m5 m6 s2 m7 d1 b1 m8 m9 n1 a1 a2 p1 p2 p3 n2 e1 e2 e3 e4 e5 e6 g1 g2 g3 f1 f2 f3 f4 f5 cA cD
    exact ee_no m1 m2 s1 m3 m4 m5 m6 s2 m7 d1 b1 m8 m9 n1 a1 a2 p1 p2 p3 n2 e1 e2 e3 e4 e5 e6 g1 g2 g3 f1 f2 f3 f4 f5 cA cD (hm false cA cD hl)
theorem enters_fa : ∀ us w, (callFunc 120 us).run Tryz.prog w = .ok (.enter 120 us) w := enters Tryz.func120 rfl (by kernel_rfl)
theorem fa_01 {x y a b d x' y' a' b' d' w : Int} {i j : Inq} (q1 : MC Tryz.prog 139 [ell x y a b d] [] (riT i 0) []) (q2 : MC Tryz.prog 139 [ell x' y' a' b' d'] [] (riT j 1) []) : MC Tryz.prog 120 [ell x y a b d, ell x' y' a' b' d', .int .i64 w] [] (ellT 0 0 0 0 0 1) [] :=
  AC.runA mixed Tryz.func120 [.ab (riT i 0), .ab (riT j 1)] ts0 (qs2 q1 q2) rfl enters_fa (by kernel_rfl)
theorem fa_10 {x y a b d x' y' a' b' d' w : Int} {i j : Inq} (q1 : MC Tryz.prog 139 [ell x y a b d] [] (riT i 1) []) (q2 : MC Tryz.prog 139 [ell x' y' a' b' d'] [] (riT j 0) []) : MC Tryz.prog 120 [ell x y a b d, ell x' y' a' b' d', .int .i64 w] [] (ellT 0 0 0 0 0 1) [] :=
  AC.runA mixed Tryz.func120 [.ab (riT i 1), .ab (riT j 0)] ts0 (qs2 q1 q2) rfl enters_fa (by kernel_rfl)
theorem fa_11 {x y a b d x' y' a' b' d' w : Int} {i j : Inq} (q1 : MC Tryz.prog 139 [ell x y a b d] [] (riT i 1) []) (q2 : MC Tryz.prog 139 [ell x' y' a' b' d'] [] (riT j 1) []) : MC Tryz.prog 120 [ell x y a b d, ell x' y' a' b' d', .int .i64 w] [] (ellT 0 0 0 0 0 1) [] :=
  AC.runA mixed Tryz.func120 [.ab (riT i 1), .ab (riT j 1)] ts0 (qs2 q1 q2) rfl enters_fa (by kernel_rfl)
theorem fa_mix {x y a b d x' y' a' b' d' w : Int} {i j : Inq} (q1 : MC Tryz.prog 139 [ell x y a b d] [] (riT i 0) []) (q2 : MC Tryz.prog 139 [ell x' y' a' b' d'] [] (riT j 0) []) (q3 : MC Tryz.prog 140 [riV i, riV j, .int .i64 w] [] (riT noQ 1) []) : MC Tryz.prog 120 [ell x y a b d, ell x' y' a' b' d', .int .i64 w] [] (ellT 0 0 0 0 0 1) [] :=
  AC.runA mixed Tryz.func120 [.ab (riT i 0), .ab (riT j 0), .ab (riT noQ 1)] ts0 (qs3 q1 q2 q3) rfl enters_fa (by kernel_rfl)
theorem fa_ok {x y a b d x' y' a' b' d' w : Int} {i j m : Inq} {X Y A B D : Int} {e : Nat} (q1 : MC Tryz.prog 139 [ell x y a b d] [] (riT i 0) []) (q2 : MC Tryz.prog 139 [ell x' y' a' b' d'] [] (riT j 0) []) (q3 : MC Tryz.prog 140 [riV i, riV j, .int .i64 w] [] (riT m 0) []) (q4 : MC Tryz.prog 141 [riV m] [] (ellT X Y A B D e) []) : MC Tryz.prog 120 [ell x y a b d, ell x' y' a' b' d', .int .i64 w] [] (ellT X Y A B D e) [] :=
  AC.runA mixed Tryz.func120 [.ab (riT i 0), .ab (riT j 0), .ab (riT m 0), .ab (ellT X Y A B D e)] ts0 (qs4 q1 q2 q3 q4) rfl enters_fa (by kernel_rfl)
theorem enters_ca : ∀ us w, (callFunc 121 us).run Tryz.prog w = .ok (.enter 121 us) w := enters Tryz.func121 rfl (by kernel_rfl)
theorem ca_01 {x y a b d ox oy hx hy lo hi w : Int} {i j : Inq} (q1 : MC Tryz.prog 139 [ell x y a b d] [] (riT i 0) []) (q2 : MC Tryz.prog 142 [strV ox oy hx hy lo hi] [] (riT j 1) []) : MC Tryz.prog 121 [ell x y a b d, strV ox oy hx hy lo hi, .int .i64 w] [] (ellT 0 0 0 0 0 1) [] :=
  AC.runA mixed Tryz.func121 [.ab (riT i 0), .ab (riT j 1)] ts0 (qs2 q1 q2) rfl enters_ca (by kernel_rfl)
theorem ca_10 {x y a b d ox oy hx hy lo hi w : Int} {i j : Inq} (q1 : MC Tryz.prog 139 [ell x y a b d] [] (riT i 1) []) (q2 : MC Tryz.prog 142 [strV ox oy hx hy lo hi] [] (riT j 0) []) : MC Tryz.prog 121 [ell x y a b d, strV ox oy hx hy lo hi, .int .i64 w] [] (ellT 0 0 0 0 0 1) [] :=
  AC.runA mixed Tryz.func121 [.ab (riT i 1), .ab (riT j 0)] ts0 (qs2 q1 q2) rfl enters_ca (by kernel_rfl)
theorem ca_11 {x y a b d ox oy hx hy lo hi w : Int} {i j : Inq} (q1 : MC Tryz.prog 139 [ell x y a b d] [] (riT i 1) []) (q2 : MC Tryz.prog 142 [strV ox oy hx hy lo hi] [] (riT j 1) []) : MC Tryz.prog 121 [ell x y a b d, strV ox oy hx hy lo hi, .int .i64 w] [] (ellT 0 0 0 0 0 1) [] :=
  AC.runA mixed Tryz.func121 [.ab (riT i 1), .ab (riT j 1)] ts0 (qs2 q1 q2) rfl enters_ca (by kernel_rfl)
theorem ca_mix {x y a b d ox oy hx hy lo hi w : Int} {i j : Inq} (q1 : MC Tryz.prog 139 [ell x y a b d] [] (riT i 0) []) (q2 : MC Tryz.prog 142 [strV ox oy hx hy lo hi] [] (riT j 0) []) (q3 : MC Tryz.prog 140 [riV i, riV j, .int .i64 w] [] (riT noQ 1) []) : MC Tryz.prog 121 [ell x y a b d, strV ox oy hx hy lo hi, .int .i64 w] [] (ellT 0 0 0 0 0 1) [] :=
  AC.runA mixed Tryz.func121 [.ab (riT i 0), .ab (riT j 0), .ab (riT noQ 1)] ts0 (qs3 q1 q2 q3) rfl enters_ca (by kernel_rfl)
theorem ca_ok {x y a b d ox oy hx hy lo hi w : Int} {i j m : Inq} {X Y A B D : Int} {e : Nat} (q1 : MC Tryz.prog 139 [ell x y a b d] [] (riT i 0) []) (q2 : MC Tryz.prog 142 [strV ox oy hx hy lo hi] [] (riT j 0) []) (q3 : MC Tryz.prog 140 [riV i, riV j, .int .i64 w] [] (riT m 0) []) (q4 : MC Tryz.prog 141 [riV m] [] (ellT X Y A B D e) []) : MC Tryz.prog 121 [ell x y a b d, strV ox oy hx hy lo hi, .int .i64 w] [] (ellT X Y A B D e) [] :=
  AC.runA mixed Tryz.func121 [.ab (riT i 0), .ab (riT j 0), .ab (riT m 0), .ab (ellT X Y A B D e)] ts0 (qs4 q1 q2 q3 q4) rfl enters_ca (by kernel_rfl)
/-- Fused by any weight. -/
def okW (w : Int) : Bool := decide (0 ≤ w) && decide (w ≤ 34)
def fuseW (x y a b d x' y' a' b' d' w : Int) : Value := match mayL x y a b d && (mayL x' y' a' b' d' && okW w) with | true => ellQ (mixQ (ofQ x y a b d) (ofQ x' y' a' b' d') w) | false => ellT 0 0 0 0 0 1
def cutW (x y a b d ox oy hx hy lo hi w : Int) : Value := match mayL x y a b d && (mayS ox oy hx hy lo hi && okW w) with | true => ellQ (mixQ (ofQ x y a b d) (osQ ox oy hx hy lo hi) w) | false => ellT 0 0 0 0 0 1
theorem okW_iff {w : Int} : okW w = true ↔ 0 ≤ w ∧ w ≤ 34 := by simp [okW]
theorem okW_not {w : Int} (h : okW w = false) : w < 0 ∨ ¬ w < 0 ∧ w > 34 := by
  have : ¬ (0 ≤ w ∧ w ≤ 34) := fun e => by rw [okW_iff.2 e] at h; cases h
  omega
theorem eFuseAt_t {x y a b d x' y' a' b' d' w : Int} (ha : I64 a) (hb : I64 b) (hd : I64 d) (ha' : I64 a') (hb' : I64 b') (hd' : I64 d') : MC Tryz.prog 120 [ell x y a b d, ell x' y' a' b' d', .int .i64 w] [] (fuseW x y a b d x' y' a' b' d' w) [] := by
  have q1 := eOf_t (x := x) (y := y) ha hb hd
  have q2 := eOf_t (x := x') (y := y') ha' hb' hd'
  unfold fuseW
  unfold eofV at q1
  unfold eofV at q2
  cases h1 : mayL x y a b d with
  | false =>
    rw [h1] at q1
    cases h2 : mayL x' y' a' b' d' with
    | false =>
      rw [h2] at q2
      exact fa_11 q1 q2
    | true =>
      rw [h2] at q2
      exact fa_10 q1 q2
  | true =>
    rw [h1] at q1
    cases h2 : mayL x' y' a' b' d' with
    | false =>
      rw [h2] at q2
      exact fa_01 q1 q2
    | true =>
      rw [h2] at q2
      cases h3 : okW w with
      | false =>
        rcases okW_not h3 with h4 | ⟨h4, h5⟩
        · exact fa_mix q1 q2 (eMix_lo h4)
        · exact fa_mix q1 q2 (eMix_hi h4 h5)
      | true =>
        have g := okW_iff.1 h3
        have i1 := ofQ_inp h1
        have i2 := ofQ_inp h2
        have q4 := eEll_t (mixQ_low g.1 g.2 i1 i2)
        simp only [Bool.and_self]
        obtain ⟨X, Y, A, B, D, e, he⟩ := ellQ_form (mixQ (ofQ x y a b d) (ofQ x' y' a' b' d') w)
        rw [he] at q4 ⊢
        exact fa_ok q1 q2 (eMix_t g.1 g.2 i1 i2) q4
theorem eCutAt_t {x y a b d ox oy hx hy lo hi w : Int} (ha : I64 a) (hb : I64 b) (hd : I64 d) : MC Tryz.prog 121 [ell x y a b d, strV ox oy hx hy lo hi, .int .i64 w] [] (cutW x y a b d ox oy hx hy lo hi w) [] := by
  have q1 := eOf_t (x := x) (y := y) ha hb hd
  have q2 := eOs_t ox oy hx hy lo hi
  unfold cutW
  unfold eofV at q1
  unfold eosV at q2
  cases h1 : mayL x y a b d with
  | false =>
    rw [h1] at q1
    cases h2 : mayS ox oy hx hy lo hi with
    | false =>
      rw [h2] at q2
      exact ca_11 q1 q2
    | true =>
      rw [h2] at q2
      exact ca_10 q1 q2
  | true =>
    rw [h1] at q1
    cases h2 : mayS ox oy hx hy lo hi with
    | false =>
      rw [h2] at q2
      exact ca_01 q1 q2
    | true =>
      rw [h2] at q2
      cases h3 : okW w with
      | false =>
        rcases okW_not h3 with h4 | ⟨h4, h5⟩
        · exact ca_mix q1 q2 (eMix_lo h4)
        · exact ca_mix q1 q2 (eMix_hi h4 h5)
      | true =>
        have g := okW_iff.1 h3
        have i1 := ofQ_inp h1
        have i2 := osQ_inp h2
        have q4 := eEll_t (mixQ_low g.1 g.2 i1 i2)
        simp only [Bool.and_self]
        obtain ⟨X, Y, A, B, D, e, he⟩ := ellQ_form (mixQ (ofQ x y a b d) (osQ ox oy hx hy lo hi) w)
        rw [he] at q4 ⊢
        exact ca_ok q1 q2 (eMix_t g.1 g.2 i1 i2) q4
end Go.Proofs.YtaibhjphgdjcmaaGreat.R
