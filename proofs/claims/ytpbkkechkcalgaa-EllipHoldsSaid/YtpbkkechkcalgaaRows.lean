/-
  No cell of these rows narrows 'for every input' (looked for: loops, veiled, ifaces, maps, wideKeys, modest, calm, conditions, laid).
  DERIVED. THE GIVEN ROWS OF THIS SEAT. 4 by the template 'for every input the law returns true; each argument reads behind the call as it read before'; 0 by the template 'total and deterministic' (their statements: YtpbkkechkcalgaaTotals.lean).
  GIVEN WITH THE SEED: the statements are not yours to turn. If you find one false, say at which input.
  Laid BY PROGRAM, IN A SANDBOX (cutbox-rows.mjs): the forced cells as the released guide's own fill.sh prints them over the translation 15f0820d5d678d5b… (all of the seat's roots in one cut). By AI agents, Wed Nov 11 2026. No macro, syntax, notation, axiom, sorry.
-/
import Derived.Test.YtpbkkechkcalgaaChecked
import GoSem.Claim
import GoSem.ClaimJoined
import GoSem.ClaimMapViews
import Derived.JoinedTies
import Derived.KernelRfl
namespace Go.Proofs.Ytpbkkechkcalgaa
/- THE CELL 'sum', in the pinned program and in every row, IS THE sha256 OF THE DUMP (.gsa) THAT YtpbkkechkcalgaaProg.lean LOADS. Nothing in Lean hashes anything: it is a label: what it is worth is what the hold of that sum in a sandbox is worth. -/
noncomputable def Try.pinned : Pinned := { name := "ytpbkkechkcalgaa", sum := "15f0820d5d678d5b388d17ed24f6254bc028ded2e1a1a259a3e9111e2b95fce0", checked := Try.checked }
namespace Rows
def none {H : Type} : Left H := { results := [], args := [] }

/-- 'alidadelaw4.EllipHolds': WHATEVER THE INPUT: true; the input reads as it did. -/
def ellipHoldsSpec : ChangeSpec := { name := "ellipHolds", fn := fun _ => fun
  | [d1, d2, d3, d4, d5, d6, d7, d8] => { results := [.lit (.bool true)], args := [d1, d2, d3, d4, d5, d6, d7, d8] }
  | _ => none }
def ellipHoldsRow : OpenClaim := { program := "ytpbkkechkcalgaa", sum := "15f0820d5d678d5b388d17ed24f6254bc028ded2e1a1a259a3e9111e2b95fce0", func := "alidade/alidadelaw4.EllipHolds", spec := "ellipHolds", inPlace := ["math/bits.Add64", "math/bits.Sub64"], named := ["math/bits.divideError", "math/bits.overflowError"], apart := false }
def EllipHoldsSaid : Prop := ellipHoldsRow.holds Try.pinned (OpenSpec.ofChange ellipHoldsSpec)

/-- ITS FALSE NEIGHBOUR: 'it returns false'. Refute it at one input. -/
def ellipHoldsWrong : ChangeSpec := { name := "ellipHolds", fn := fun _ => fun
  | [d1, d2, d3, d4, d5, d6, d7, d8] => { results := [.lit (.bool false)], args := [d1, d2, d3, d4, d5, d6, d7, d8] }
  | _ => none }
def EllipHoldsWrongFalsely : Prop := ellipHoldsRow.holds Try.pinned (OpenSpec.ofChange ellipHoldsWrong)

/-- 'alidadelaw4.EllipWider': WHATEVER THE INPUT: true; the input reads as it did. -/
def ellipWiderSpec : ChangeSpec := { name := "ellipWider", fn := fun _ => fun
  | [d1, d2, d3] => { results := [.lit (.bool true)], args := [d1, d2, d3] }
  | _ => none }
def ellipWiderRow : OpenClaim := { program := "ytpbkkechkcalgaa", sum := "15f0820d5d678d5b388d17ed24f6254bc028ded2e1a1a259a3e9111e2b95fce0", func := "alidade/alidadelaw4.EllipWider", spec := "ellipWider", inPlace := ["math/bits.Add64", "math/bits.Sub64"], apart := false }
def EllipWiderSaid : Prop := ellipWiderRow.holds Try.pinned (OpenSpec.ofChange ellipWiderSpec)

/-- ITS FALSE NEIGHBOUR: 'it returns false'. Refute it at one input. -/
def ellipWiderWrong : ChangeSpec := { name := "ellipWider", fn := fun _ => fun
  | [d1, d2, d3] => { results := [.lit (.bool false)], args := [d1, d2, d3] }
  | _ => none }
def EllipWiderWrongFalsely : Prop := ellipWiderRow.holds Try.pinned (OpenSpec.ofChange ellipWiderWrong)

/-- 'alidadelaw4.EllipBackShift': WHATEVER THE INPUT: true; the input reads as it did. -/
def ellipBackShiftSpec : ChangeSpec := { name := "ellipBackShift", fn := fun _ => fun
  | [d1, d2] => { results := [.lit (.bool true)], args := [d1, d2] }
  | _ => none }
def ellipBackShiftRow : OpenClaim := { program := "ytpbkkechkcalgaa", sum := "15f0820d5d678d5b388d17ed24f6254bc028ded2e1a1a259a3e9111e2b95fce0", func := "alidade/alidadelaw4.EllipBackShift", spec := "ellipBackShift", inPlace := ["math/bits.Add64", "math/bits.Sub64"], named := ["math/bits.divideError", "math/bits.overflowError"], apart := false }
def EllipBackShiftSaid : Prop := ellipBackShiftRow.holds Try.pinned (OpenSpec.ofChange ellipBackShiftSpec)

/-- ITS FALSE NEIGHBOUR: 'it returns false'. Refute it at one input. -/
def ellipBackShiftWrong : ChangeSpec := { name := "ellipBackShift", fn := fun _ => fun
  | [d1, d2] => { results := [.lit (.bool false)], args := [d1, d2] }
  | _ => none }
def EllipBackShiftWrongFalsely : Prop := ellipBackShiftRow.holds Try.pinned (OpenSpec.ofChange ellipBackShiftWrong)

/-- 'alidadelaw4.EllipOther': WHATEVER THE INPUT: true; the input reads as it did. -/
def ellipOtherSpec : ChangeSpec := { name := "ellipOther", fn := fun _ => fun
  | [d1, d2, d3] => { results := [.lit (.bool true)], args := [d1, d2, d3] }
  | _ => none }
def ellipOtherRow : OpenClaim := { program := "ytpbkkechkcalgaa", sum := "15f0820d5d678d5b388d17ed24f6254bc028ded2e1a1a259a3e9111e2b95fce0", func := "alidade/alidadelaw4.EllipOther", spec := "ellipOther", inPlace := ["math/bits.Add64", "math/bits.Sub64"], apart := false }
def EllipOtherSaid : Prop := ellipOtherRow.holds Try.pinned (OpenSpec.ofChange ellipOtherSpec)

/-- ITS FALSE NEIGHBOUR: 'it returns false'. Refute it at one input. -/
def ellipOtherWrong : ChangeSpec := { name := "ellipOther", fn := fun _ => fun
  | [d1, d2, d3] => { results := [.lit (.bool false)], args := [d1, d2, d3] }
  | _ => none }
def EllipOtherWrongFalsely : Prop := ellipOtherRow.holds Try.pinned (OpenSpec.ofChange ellipOtherWrong)

/- THE SECOND FORM. 'bulk': how many values and letters a reading holds, each counted each time it is reached (what is shared counts as often as it is met; a slice's spare places count too). A statement '..UptoSaid' is the law's where the arguments, and the package variables that the reading takes, are together of bulk at most 1048576: NARROWER than '..Said'. Prove '..Said' where nothing that the law and all that it calls make is longer than what came in: it says more and counts as full. Else prove '..UptoSaid'. A law counts once. -/
mutual
def uptoBulk {H : Type} : DataW H → Nat
  | .lit (.string bytes) => bytes.length + 1
  | .lit _ => 1
  | .nil => 1
  | .ptr d => uptoBulk d + 1
  | .slice elems spare => uptoBulkAll elems + uptoBulkAll spare + 1
  | .agg parts => uptoBulkAll parts + 1
  | .iface _ d => uptoBulk d + 1
  | .map entries => uptoBulkEntries entries + 1
  | .held _ => 1
def uptoBulkAll {H : Type} : List (DataW H) → Nat
  | [] => 0
  | d :: r => uptoBulk d + uptoBulkAll r
def uptoBulkEntries {H : Type} : List (Lit × DataW H) → Nat
  | [] => 0
  | x :: r => uptoBulkEntry x + uptoBulkEntries r
def uptoBulkEntry {H : Type} : Lit × DataW H → Nat
  | (.string bytes, d) => bytes.length + uptoBulk d + 1
  | (_, d) => uptoBulk d + 1
 end
def uptoSmall : (H : Type) → List (DataW H) → Bool := fun _ ds => decide (uptoBulkAll ds ≤ 1048576)
def OpenSpec.upto (s : _root_.Go.ChangeSpec) : _root_.Go.OpenSpec := { _root_.Go.OpenSpec.ofChange s with cond := some uptoSmall }

/-- 'alidadelaw4.EllipHolds', WHERE WHAT IT READS IS OF BULK AT MOST 1048576: true; the input reads as it did. -/
def ellipHoldsUptoRow : OpenClaim := { program := "ytpbkkechkcalgaa", sum := "15f0820d5d678d5b388d17ed24f6254bc028ded2e1a1a259a3e9111e2b95fce0", func := "alidade/alidadelaw4.EllipHolds", spec := "ellipHolds", inPlace := ["math/bits.Add64", "math/bits.Sub64"], named := ["math/bits.divideError", "math/bits.overflowError"], apart := false, narrowed := true }
def EllipHoldsUptoSaid : Prop := ellipHoldsUptoRow.holds Try.pinned (OpenSpec.upto ellipHoldsSpec)

/-- 'alidadelaw4.EllipWider', WHERE WHAT IT READS IS OF BULK AT MOST 1048576: true; the input reads as it did. -/
def ellipWiderUptoRow : OpenClaim := { program := "ytpbkkechkcalgaa", sum := "15f0820d5d678d5b388d17ed24f6254bc028ded2e1a1a259a3e9111e2b95fce0", func := "alidade/alidadelaw4.EllipWider", spec := "ellipWider", inPlace := ["math/bits.Add64", "math/bits.Sub64"], apart := false, narrowed := true }
def EllipWiderUptoSaid : Prop := ellipWiderUptoRow.holds Try.pinned (OpenSpec.upto ellipWiderSpec)

/-- 'alidadelaw4.EllipBackShift', WHERE WHAT IT READS IS OF BULK AT MOST 1048576: true; the input reads as it did. -/
def ellipBackShiftUptoRow : OpenClaim := { program := "ytpbkkechkcalgaa", sum := "15f0820d5d678d5b388d17ed24f6254bc028ded2e1a1a259a3e9111e2b95fce0", func := "alidade/alidadelaw4.EllipBackShift", spec := "ellipBackShift", inPlace := ["math/bits.Add64", "math/bits.Sub64"], named := ["math/bits.divideError", "math/bits.overflowError"], apart := false, narrowed := true }
def EllipBackShiftUptoSaid : Prop := ellipBackShiftUptoRow.holds Try.pinned (OpenSpec.upto ellipBackShiftSpec)

/-- 'alidadelaw4.EllipOther', WHERE WHAT IT READS IS OF BULK AT MOST 1048576: true; the input reads as it did. -/
def ellipOtherUptoRow : OpenClaim := { program := "ytpbkkechkcalgaa", sum := "15f0820d5d678d5b388d17ed24f6254bc028ded2e1a1a259a3e9111e2b95fce0", func := "alidade/alidadelaw4.EllipOther", spec := "ellipOther", inPlace := ["math/bits.Add64", "math/bits.Sub64"], apart := false, narrowed := true }
def EllipOtherUptoSaid : Prop := ellipOtherUptoRow.holds Try.pinned (OpenSpec.upto ellipOtherSpec)

end Rows
end Go.Proofs.Ytpbkkechkcalgaa
