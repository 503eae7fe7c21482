/-
  The number of leading zero bits of a word.
-/
import Derived.Test.YtjmdppnhpfdhdaaWideC
namespace Go.Proofs.Ytjmdppnhpfdhdaa.W
open Go Go.Ev Go.Wide

theorem lz64_pc {x : Nat} (hx : x < 18446744073709551616) : PC Try.prog 102 [.int .u64 x] (.int .i64 (64 - bitLen x)) := by
  have hb : bitLen x ≤ 64 := bitLen_lt_iff.2 hx
  exact PC.of_ev3 mixed Try.func102 400 [.res (.int .i64 (bitLen x))] (ok := true) (obs := [QC Try.prog 107 [.int .u64 x] (.int .i64 (bitLen x))]) (v := .int .i64 (IntKind.i64.wrap (64 - bitLen x))) (by kernel_rfl) (by kernel_rfl) rfl
    ⟨QC.of_pc enters_len64 (len64_pc hx), trivial⟩ (by kernel_rfl) (by rw [i64_wrap (by omega) (by omega)])

end Go.Proofs.Ytjmdppnhpfdhdaa.W
