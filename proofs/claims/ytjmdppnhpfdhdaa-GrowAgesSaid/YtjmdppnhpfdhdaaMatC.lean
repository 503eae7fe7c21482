/-
  Package mat: awake.
-/
import Derived.Test.YtjmdppnhpfdhdaaMatB
import Derived.Test.YtjmdppnhpfdhdaaWideT
namespace Go.Proofs.Ytjmdppnhpfdhdaa.W
open Go Go.Ev Go.Wide

def txt24 : ByteArray := ⟨#[50, 52]⟩
theorem txt24_eq : textB (some 36) = txt24 := by
  rw [text_of (M := 36) (L := 2) (s := false) rfl rfl (by unfold hexLen; rw [bitLen_eq (x := 36) (n := 5) (by decide) (by decide)]; rfl)]
  kernel_rfl
theorem I64.lit {n : Int} (h : (decide (-9223372036854775808 ≤ n) && decide (n ≤ 9223372036854775807)) = true := by decide) : I64 n := by simpa [I64] using h
end Go.Proofs.Ytjmdppnhpfdhdaa.W
