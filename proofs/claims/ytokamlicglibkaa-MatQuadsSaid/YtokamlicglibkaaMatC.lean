/-
  Package mat: awake.
-/
import Derived.Test.YtokamlicglibkaaMatB
import Derived.Test.YtokamlicglibkaaWideT
namespace Go.Proofs.Ytokamlicglibkaa.W
open Go Go.Ev Go.Wide

theorem text_wz {k : Nat} {z : Int} (h : Sm k z) (t : ByteArray) (ht : textB (some z) = t) (hk : k ≤ 1023 := by omega) : QC Try.prog 16 [wz z] (.string t) := ht ▸ QC.of_pc enters_text (text_pc (h.wf hk))
def txt24 : ByteArray := ⟨#[50, 52]⟩
theorem txt24_eq : textB (some 36) = txt24 := by
  rw [text_of (M := 36) (L := 2) (s := false) rfl rfl (by unfold hexLen; rw [bitLen_eq (x := 36) (n := 5) (by decide) (by decide)]; rfl)]
  kernel_rfl
theorem I64.lit {n : Int} (h : (decide (-9223372036854775808 ≤ n) && decide (n ≤ 9223372036854775807)) = true := by decide) : I64 n := by simpa [I64] using h
theorem awakeM_pc : PC Try.prog 28 [] (.bool true) :=
  PC.run mixed Try.func28 [.res (.bool true), .res (.bool false), .res (wz 36), .res (.string txt24)] rfl ts0
    (qs4 (holdsM_qc (a := 4) (b := 0) (d := 9) (x := 2) (y := 0) .lit .lit .lit .lit .lit true (by decide)) (holdsM_qc (a := 4) (b := 0) (d := 9) (x := 2) (y := 1) .lit .lit .lit .lit .lit false (by decide)) (QC.of_pc enters_detM (detM_pc (a := 4) (b := 0) (d := 9) .lit .lit .lit))
      (text_wz (k := 64) (z := 36) (I64.sm .lit) txt24 txt24_eq)) rfl rfl (by kernel_rfl)
theorem enters_awakeM : ∀ us w, (callFunc 28 us).run Try.prog w = .ok (.enter 28 us) w := enters Try.func28 rfl (by kernel_rfl)
theorem awakeM : QC Try.prog 28 [] (.bool true) := QC.of_pc enters_awakeM awakeM_pc
end Go.Proofs.Ytokamlicglibkaa.W
