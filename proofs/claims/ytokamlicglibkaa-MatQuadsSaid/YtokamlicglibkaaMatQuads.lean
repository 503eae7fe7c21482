/-
  MatQuads: the parallelogram law.
-/
import Derived.Test.YtokamlicglibkaaMatM
import Derived.Test.YtokamlicglibkaaEvS
namespace Go.Proofs.Ytokamlicglibkaa.W
open Go Go.Ev Go.Wide

theorem quadM_qc {a b d x y : Int} (ha : I64 a) (hb : I64 b) (hd : I64 d) (hx : I64 x) (hy : I64 y) : QC Try.prog 20 [sym a b d, pt x y] (wz (quadI a b d x y)) := QC.of_pc enters_quadM (quadM_pc ha hb hd hx hy)
/-- The coordinate of less than 2^40. -/
def m40 (x : Int) : Int := x.tmod 1099511627776
theorem m40_lt (x : Int) : -1099511627776 < m40 x ∧ m40 x < 1099511627776 := by
  unfold m40
  have h1 := Int.tmod_lt_of_pos x (show (0 : Int) < 1099511627776 by omega)
  have h2 := Int.lt_tmod_of_pos x (show (0 : Int) < 1099511627776 by omega)
  omega
theorem m40_i64 (x : Int) : I64 (m40 x) := by
  have := m40_lt x
  exact ⟨by omega, by omega⟩
def pl (x u : Int) : Int := IntKind.i64.wrap (x + u)
def mi (x u : Int) : Int := IntKind.i64.wrap (x - u)
theorem pl_i64 (x u : Int) : I64 (pl x u) := by
  unfold pl I64
  rw [IntKind.wrap_i64]
  omega
theorem mi_i64 (x u : Int) : I64 (mi x u) := by
  unfold mi I64
  rw [IntKind.wrap_i64]
  omega
theorem pl_m40 (x u : Int) : pl (m40 x) (m40 u) = m40 x + m40 u := by
  have h1 := m40_lt x
  have h2 := m40_lt u
  exact i64_wrap (by omega) (by omega)
theorem mi_m40 (x u : Int) : mi (m40 x) (m40 u) = m40 x - m40 u := by
  have h1 := m40_lt x
  have h2 := m40_lt u
  exact i64_wrap (by omega) (by omega)
theorem parallelogram (a b d x y u v : Int) : (quadI a b d x y + quadI a b d u v) + (quadI a b d x y + quadI a b d u v) = quadI a b d (x + u) (y + v) + quadI a b d (x - u) (y - v) := by
  simp only [quadI_eq]
  grind
theorem matQuads_pc {a b d x y u v : Int} (ha : I64 a) (hb : I64 b) (hd : I64 d) : PC Try.prog 9 [sym a b d, pt x y, pt u v] (.bool true) := by
  have hfl : [sym a b d, pt x y, pt u v].all flat = true := by simp [flat_sym, flat_pt]
  have s1 := quadI_sm ha hb hd (pl_i64 (m40 x) (m40 u)) (pl_i64 (m40 y) (m40 v))
  have s2 := quadI_sm ha hb hd (mi_i64 (m40 x) (m40 u)) (mi_i64 (m40 y) (m40 v))
  have s3 := quadI_sm ha hb hd (m40_i64 x) (m40_i64 y)
  have s4 := quadI_sm ha hb hd (m40_i64 u) (m40_i64 v)
  have key : (quadI a b d (m40 x) (m40 y) + quadI a b d (m40 u) (m40 v)) + (quadI a b d (m40 x) (m40 y) + quadI a b d (m40 u) (m40 v)) = quadI a b d (pl (m40 x) (m40 u)) (pl (m40 y) (m40 v)) + quadI a b d (mi (m40 x) (m40 u)) (mi (m40 y) (m40 v)) := by rw [pl_m40, pl_m40, mi_m40, mi_m40]; exact parallelogram a b d (m40 x) (m40 y) (m40 u) (m40 v)
  exact PC.run mixed Try.func9 [.res (wz (quadI a b d (pl (m40 x) (m40 u)) (pl (m40 y) (m40 v)))), .res (wz (quadI a b d (mi (m40 x) (m40 u)) (mi (m40 y) (m40 v)))), .res (wz (quadI a b d (pl (m40 x) (m40 u)) (pl (m40 y) (m40 v)) + quadI a b d (mi (m40 x) (m40 u)) (mi (m40 y) (m40 v)))), .res (wz (quadI a b d (m40 x) (m40 y))), .res (wz (quadI a b d (m40 u) (m40 v))), .res (wz (quadI a b d (m40 x) (m40 y) + quadI a b d (m40 u) (m40 v))), .res (.string (textB (some (quadI a b d (pl (m40 x) (m40 u)) (pl (m40 y) (m40 v)) + quadI a b d (mi (m40 x) (m40 u)) (mi (m40 y) (m40 v)))))), .res (wz ((quadI a b d (m40 x) (m40 y) + quadI a b d (m40 u) (m40 v)) + (quadI a b d (m40 x) (m40 y) + quadI a b d (m40 u) (m40 v)))), .res (.string (textB (some (quadI a b d (pl (m40 x) (m40 u)) (pl (m40 y) (m40 v)) + quadI a b d (mi (m40 x) (m40 u)) (mi (m40 y) (m40 v)))))), .tst true, .res (.bool true)] hfl (ts1 (str_refl (textB (some (quadI a b d (pl (m40 x) (m40 u)) (pl (m40 y) (m40 v)) + quadI a b d (mi (m40 x) (m40 u)) (mi (m40 y) (m40 v))))))) (qs10 (quadM_qc ha hb hd (pl_i64 (m40 x) (m40 u)) (pl_i64 (m40 y) (m40 v))) (quadM_qc ha hb hd (mi_i64 (m40 x) (m40 u)) (mi_i64 (m40 y) (m40 v))) (qadd s1 s2) (quadM_qc ha hb hd (m40_i64 x) (m40_i64 y)) (quadM_qc ha hb hd (m40_i64 u) (m40_i64 v)) (qadd s3 s4) (text_wz (s1.add s2) _ rfl) (qadd (s3.add s4) (s3.add s4)) (text_wz ((s3.add s4).add (s3.add s4)) (textB (some (quadI a b d (pl (m40 x) (m40 u)) (pl (m40 y) (m40 v)) + quadI a b d (mi (m40 x) (m40 u)) (mi (m40 y) (m40 v))))) (by rw [key])) (awakeM)) (rfl) (rfl) (by kernel_rfl)
theorem enters_matQuads : ∀ us w, (callFunc 9 us).run Try.prog w = .ok (.enter 9 us) w := enters Try.func9 rfl (by kernel_rfl)
end Go.Proofs.Ytokamlicglibkaa.W
