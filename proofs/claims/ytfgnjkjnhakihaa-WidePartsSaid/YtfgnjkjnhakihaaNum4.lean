/-
  Laws on numbers made of parts: calls on numbers in one form; same.
-/
import Derived.Test.YtfgnjkjnhakihaaNum3
import Derived.Test.YtfgnjkjnhakihaaTokF
/-! Laws on numbers made of parts: calls on numbers in one form. -/
namespace Go.Proofs.Ytfgnjkjnhakihaa.R
open Go Go.Ev Go.W32
open Go.Proofs.Ytfgnjkjnhakihaa.W (mixed WF wadd wcmp ordI textB absN wv add_pc enters_add cmp_pc enters_cmp text_pc enters_text over_pc enters_over clamp str_refl)
theorem ucmp {A B : Option Int} (hA : WF A) (hB : WF B) : QC Try.prog 21 [uW A.isNone (absN A) (sgA A), uW B.isNone (absN B) (sgA B)] (wcmp A B) := by
  rw [← uW_eq, ← uW_eq]
  exact QC.of_pc enters_cmp (cmp_pc hA hB)
theorem uadd {A B : Option Int} (hA : WF A) (hB : WF B) : QC Try.prog 25 [uW A.isNone (absN A) (sgA A), uW B.isNone (absN B) (sgA B)] (uW (wadd A B).isNone (absN (wadd A B)) (sgA (wadd A B))) := by
  rw [← uW_eq, ← uW_eq, ← uW_eq]
  exact QC.of_pc enters_add (add_pc hA hB)
theorem utext {A : Option Int} (hA : WF A) : QC Try.prog 17 [uW A.isNone (absN A) (sgA A)] (.string (textB A)) := by
  rw [← uW_eq]
  exact QC.of_pc enters_text (text_pc hA)
theorem uover (A : Option Int) : QC Try.prog 43 [uW A.isNone (absN A) (sgA A)] (.bool A.isNone) := by
  rw [← uW_eq]
  exact QC.of_pc enters_over (over_pc A)
theorem rutext {A : Option Int} (hA : WF A) : MC Try.prog 61 [rB (sgA A) A.isNone (absN A)] [] (.string (textB A)) [] := by
  rw [← rU_eq]
  exact rText_t hA
theorem wcmp_lt {a b : Int} (h : a < b) : wcmp (some a) (some b) = .tuple #[.int .i64 (-1), .bool true] := by
  show Value.tuple #[.int .i64 (if a < b then -1 else if b < a then 1 else 0), .bool true] = _
  rw [if_pos h]
theorem wcmp_gt {a b : Int} (h : b < a) : wcmp (some a) (some b) = .tuple #[.int .i64 1, .bool true] := by
  show Value.tuple #[.int .i64 (if a < b then -1 else if b < a then 1 else 0), .bool true] = _
  rw [if_neg (by omega), if_pos h]
theorem wcmp_eq {a b : Int} (h : a = b) : wcmp (some a) (some b) = .tuple #[.int .i64 0, .bool true] := by
  show Value.tuple #[.int .i64 (if a < b then -1 else if b < a then 1 else 0), .bool true] = _
  rw [if_neg (by omega), if_neg (by omega)]
def wcI : Option Int → Option Int → Int
  | some a, some b => ordI a b
  | _, _ => 0
def wcB : Option Int → Option Int → Bool
  | some _, some _ => true
  | _, _ => false
theorem wcmp_form (A B : Option Int) : wcmp A B = .tuple #[.int .i64 (wcI A B), .bool (wcB A B)] := by
  cases A <;> cases B <;> rfl
theorem clamp_some {x s : Int} (h : clamp x = some s) : x = s := by
  unfold clamp at h
  split at h
  · exact Option.some.inj h
  · cases h
theorem enters_same : ∀ us w, (callFunc 16 us).run Try.prog w = .ok (.enter 16 us) w := enters Try.func16 rfl (by kernel_rfl)
theorem same_run {o s : Bool} {N : Nat} {t : ByteArray} (h1 : QC Try.prog 17 [uW o N s] (.string t)) (h2 : MC Try.prog 61 [rB s o N] [] (.string t) []) (h3 : QC Try.prog 43 [uW o N s] (.bool o)) : MC Try.prog 16 [uW o N s, rB s o N] [] (.bool true) [] := by
  cases o with
  | false => exact AC.runA mixed Try.func16 [.res (.string t), .ab (.string t), .tst true, .res (.bool false)] (ts1 (str_refl t)) (qs3 h1 h2 h3) rfl enters_same (by kernel_rfl)
  | true => exact AC.runA mixed Try.func16 [.res (.string t), .ab (.string t), .tst true, .res (.bool true)] (ts1 (str_refl t)) (qs3 h1 h2 h3) rfl enters_same (by kernel_rfl)
/-- The program's number and the document's are the same. -/
theorem same_t {A : Option Int} (hA : WF A) : MC Try.prog 16 [uW A.isNone (absN A) (sgA A), rB (sgA A) A.isNone (absN A)] [] (.bool true) [] := same_run (utext hA) (rutext hA) (uover A)
end Go.Proofs.Ytfgnjkjnhakihaa.R
