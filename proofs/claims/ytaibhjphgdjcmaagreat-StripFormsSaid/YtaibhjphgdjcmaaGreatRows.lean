/-
  No cell of these rows narrows 'for every input' (looked for: loops, veiled, ifaces, maps, wideKeys, modest, calm, conditions, laid).
  DERIVED. THE GIVEN ROWS OF THIS SEAT. 5 by the template 'for every input the law returns true; each argument reads behind the call as it read before'; 0 by the template 'total and deterministic' (their statements: YtaibhjphgdjcmaaGreatTotals.lean).
  GIVEN WITH THE SEED: the statements are not yours to turn. If you find one false, say at which input.
  Laid BY PROGRAM, IN A SANDBOX (cutbox-rows.mjs): the forced cells as the released guide's own fill.sh prints them over the translation 6e39f1e5dac0c008… (all of the seat's roots in one cut). By AI agents, Wed Nov 11 2026. No macro, syntax, notation, axiom, sorry.
-/
import Derived.Test.YtaibhjphgdjcmaaGreatChecked
import GoSem.Claim
import GoSem.ClaimJoined
import GoSem.ClaimMapViews
import Derived.JoinedTies
import Derived.KernelRfl
namespace Go.Proofs.YtaibhjphgdjcmaaGreat
/- THE CELL 'sum', in the pinned program and in every row, IS THE sha256 OF THE DUMP (.gsa) THAT YtaibhjphgdjcmaaGreatProg.lean LOADS. Nothing in Lean hashes anything: it is a label: what it is worth is what the hold of that sum in a sandbox is worth. -/
noncomputable def Tryz.pinned : Pinned := { name := "ytaibhjphgdjcmaagreat", sum := "6e39f1e5dac0c008e302fcffa24c8ecc1cd7ef8c0c1d446f6eb87b20432958d0", checked := Tryz.checked }
namespace Rows
def none {H : Type} : Left H := { results := [], args := [] }

/-- 'alidadelaw8.StripForms': WHATEVER THE INPUT: true; the input reads as it did. -/
def stripFormsSpec : ChangeSpec := { name := "stripForms", fn := fun _ => fun
  | [d1, d2, d3, d4] => { results := [.lit (.bool true)], args := [d1, d2, d3, d4] }
  | _ => none }
def stripFormsRow : OpenClaim := { program := "ytaibhjphgdjcmaagreat", sum := "6e39f1e5dac0c008e302fcffa24c8ecc1cd7ef8c0c1d446f6eb87b20432958d0", func := "alidade/alidadelaw8.StripForms", spec := "stripForms", inPlace := ["math/bits.Add64", "math/bits.Sub64"], unfollowed := true, recurses := true, named := ["math/bits.divideError", "math/bits.overflowError"], apart := false }
def StripFormsSaid : Prop := stripFormsRow.holds Tryz.pinned (OpenSpec.ofChange stripFormsSpec)

/-- ITS FALSE NEIGHBOUR: 'it returns false'. Refute it at one input. -/
def stripFormsWrong : ChangeSpec := { name := "stripForms", fn := fun _ => fun
  | [d1, d2, d3, d4] => { results := [.lit (.bool false)], args := [d1, d2, d3, d4] }
  | _ => none }
def StripFormsWrongFalsely : Prop := stripFormsRow.holds Tryz.pinned (OpenSpec.ofChange stripFormsWrong)

/-- 'alidadelaw8.StripHolds': WHATEVER THE INPUT: true; the input reads as it did. -/
def stripHoldsSpec : ChangeSpec := { name := "stripHolds", fn := fun _ => fun
  | [d1, d2, d3, d4, d5, d6] => { results := [.lit (.bool true)], args := [d1, d2, d3, d4, d5, d6] }
  | _ => none }
def stripHoldsRow : OpenClaim := { program := "ytaibhjphgdjcmaagreat", sum := "6e39f1e5dac0c008e302fcffa24c8ecc1cd7ef8c0c1d446f6eb87b20432958d0", func := "alidade/alidadelaw8.StripHolds", spec := "stripHolds", inPlace := ["math/bits.Add64", "math/bits.Sub64"], unfollowed := true, recurses := true, named := ["math/bits.divideError", "math/bits.overflowError"], apart := false }
def StripHoldsSaid : Prop := stripHoldsRow.holds Tryz.pinned (OpenSpec.ofChange stripHoldsSpec)

/-- ITS FALSE NEIGHBOUR: 'it returns false'. Refute it at one input. -/
def stripHoldsWrong : ChangeSpec := { name := "stripHolds", fn := fun _ => fun
  | [d1, d2, d3, d4, d5, d6] => { results := [.lit (.bool false)], args := [d1, d2, d3, d4, d5, d6] }
  | _ => none }
def StripHoldsWrongFalsely : Prop := stripHoldsRow.holds Tryz.pinned (OpenSpec.ofChange stripHoldsWrong)

/-- 'alidadelaw8.StripLess': WHATEVER THE INPUT: true; the input reads as it did. -/
def stripLessSpec : ChangeSpec := { name := "stripLess", fn := fun _ => fun
  | [d1, d2, d3, d4] => { results := [.lit (.bool true)], args := [d1, d2, d3, d4] }
  | _ => none }
def stripLessRow : OpenClaim := { program := "ytaibhjphgdjcmaagreat", sum := "6e39f1e5dac0c008e302fcffa24c8ecc1cd7ef8c0c1d446f6eb87b20432958d0", func := "alidade/alidadelaw8.StripLess", spec := "stripLess", inPlace := ["math/bits.Add64", "math/bits.Sub64"], unfollowed := true, recurses := true, named := ["math/bits.divideError", "math/bits.overflowError"], apart := false }
def StripLessSaid : Prop := stripLessRow.holds Tryz.pinned (OpenSpec.ofChange stripLessSpec)

/-- ITS FALSE NEIGHBOUR: 'it returns false'. Refute it at one input. -/
def stripLessWrong : ChangeSpec := { name := "stripLess", fn := fun _ => fun
  | [d1, d2, d3, d4] => { results := [.lit (.bool false)], args := [d1, d2, d3, d4] }
  | _ => none }
def StripLessWrongFalsely : Prop := stripLessRow.holds Tryz.pinned (OpenSpec.ofChange stripLessWrong)

/-- 'alidadelaw8.StripAgain': WHATEVER THE INPUT: true; the input reads as it did. -/
def stripAgainSpec : ChangeSpec := { name := "stripAgain", fn := fun _ => fun
  | [d1, d2, d3, d4, d5, d6, d7] => { results := [.lit (.bool true)], args := [d1, d2, d3, d4, d5, d6, d7] }
  | _ => none }
def stripAgainRow : OpenClaim := { program := "ytaibhjphgdjcmaagreat", sum := "6e39f1e5dac0c008e302fcffa24c8ecc1cd7ef8c0c1d446f6eb87b20432958d0", func := "alidade/alidadelaw8.StripAgain", spec := "stripAgain", inPlace := ["math/bits.Add64", "math/bits.Sub64"], unfollowed := true, recurses := true, named := ["math/bits.divideError", "math/bits.overflowError"], apart := false }
def StripAgainSaid : Prop := stripAgainRow.holds Tryz.pinned (OpenSpec.ofChange stripAgainSpec)

/-- ITS FALSE NEIGHBOUR: 'it returns false'. Refute it at one input. -/
def stripAgainWrong : ChangeSpec := { name := "stripAgain", fn := fun _ => fun
  | [d1, d2, d3, d4, d5, d6, d7] => { results := [.lit (.bool false)], args := [d1, d2, d3, d4, d5, d6, d7] }
  | _ => none }
def StripAgainWrongFalsely : Prop := stripAgainRow.holds Tryz.pinned (OpenSpec.ofChange stripAgainWrong)

/-- 'alidadelaw8.StripFar': WHATEVER THE INPUT: true; the input reads as it did. -/
def stripFarSpec : ChangeSpec := { name := "stripFar", fn := fun _ => fun
  | [d1, d2, d3] => { results := [.lit (.bool true)], args := [d1, d2, d3] }
  | _ => none }
def stripFarRow : OpenClaim := { program := "ytaibhjphgdjcmaagreat", sum := "6e39f1e5dac0c008e302fcffa24c8ecc1cd7ef8c0c1d446f6eb87b20432958d0", func := "alidade/alidadelaw8.StripFar", spec := "stripFar", inPlace := ["math/bits.Add64", "math/bits.Sub64"], unfollowed := true, recurses := true, named := ["math/bits.divideError", "math/bits.overflowError"], apart := false }
def StripFarSaid : Prop := stripFarRow.holds Tryz.pinned (OpenSpec.ofChange stripFarSpec)

/-- ITS FALSE NEIGHBOUR: 'it returns false'. Refute it at one input. -/
def stripFarWrong : ChangeSpec := { name := "stripFar", fn := fun _ => fun
  | [d1, d2, d3] => { results := [.lit (.bool false)], args := [d1, d2, d3] }
  | _ => none }
def StripFarWrongFalsely : Prop := stripFarRow.holds Tryz.pinned (OpenSpec.ofChange stripFarWrong)

/- THE SECOND FORM. 'bulk': how many values and letters a reading holds, each counted each time it is reached (what is shared counts as often as it is met; a slice's spare places count too). A statement '..UptoSaid' is the law's where the arguments, and the package variables that the reading takes, are together of bulk at most 1048576: NARROWER than '..Said'. Prove '..Said' where nothing that the law and all that it calls make is longer than what came in: it says more and counts as full. Else prove '..UptoSaid'. A law counts once. -/
mutual
def uptoBulk {H : Type} : DataW H → Nat
  | .lit (.string bytes) => bytes.length + 1
  | .lit _ => 1
  | .nil => 1
  | .ptr d => uptoBulk d + 1
  | .slice elems spare => uptoBulkAll elems + uptoBulkAll spare + 1
  | .agg parts => uptoBulkAll parts + 1
  | .iface _ d => uptoBulk d + 1
  | .map entries => uptoBulkEntries entries + 1
  | .held _ => 1
def uptoBulkAll {H : Type} : List (DataW H) → Nat
  | [] => 0
  | d :: r => uptoBulk d + uptoBulkAll r
def uptoBulkEntries {H : Type} : List (Lit × DataW H) → Nat
  | [] => 0
  | x :: r => uptoBulkEntry x + uptoBulkEntries r
def uptoBulkEntry {H : Type} : Lit × DataW H → Nat
  | (.string bytes, d) => bytes.length + uptoBulk d + 1
  | (_, d) => uptoBulk d + 1
 end
def uptoSmall : (H : Type) → List (DataW H) → Bool := fun _ ds => decide (uptoBulkAll ds ≤ 1048576)
def OpenSpec.upto (s : _root_.Go.ChangeSpec) : _root_.Go.OpenSpec := { _root_.Go.OpenSpec.ofChange s with cond := some uptoSmall }

/-- 'alidadelaw8.StripForms', WHERE WHAT IT READS IS OF BULK AT MOST 1048576: true; the input reads as it did. -/
def stripFormsUptoRow : OpenClaim := { program := "ytaibhjphgdjcmaagreat", sum := "6e39f1e5dac0c008e302fcffa24c8ecc1cd7ef8c0c1d446f6eb87b20432958d0", func := "alidade/alidadelaw8.StripForms", spec := "stripForms", inPlace := ["math/bits.Add64", "math/bits.Sub64"], unfollowed := true, recurses := true, named := ["math/bits.divideError", "math/bits.overflowError"], apart := false, narrowed := true }
def StripFormsUptoSaid : Prop := stripFormsUptoRow.holds Tryz.pinned (OpenSpec.upto stripFormsSpec)

/-- 'alidadelaw8.StripHolds', WHERE WHAT IT READS IS OF BULK AT MOST 1048576: true; the input reads as it did. -/
def stripHoldsUptoRow : OpenClaim := { program := "ytaibhjphgdjcmaagreat", sum := "6e39f1e5dac0c008e302fcffa24c8ecc1cd7ef8c0c1d446f6eb87b20432958d0", func := "alidade/alidadelaw8.StripHolds", spec := "stripHolds", inPlace := ["math/bits.Add64", "math/bits.Sub64"], unfollowed := true, recurses := true, named := ["math/bits.divideError", "math/bits.overflowError"], apart := false, narrowed := true }
def StripHoldsUptoSaid : Prop := stripHoldsUptoRow.holds Tryz.pinned (OpenSpec.upto stripHoldsSpec)

/-- 'alidadelaw8.StripLess', WHERE WHAT IT READS IS OF BULK AT MOST 1048576: true; the input reads as it did. -/
def stripLessUptoRow : OpenClaim := { program := "ytaibhjphgdjcmaagreat", sum := "6e39f1e5dac0c008e302fcffa24c8ecc1cd7ef8c0c1d446f6eb87b20432958d0", func := "alidade/alidadelaw8.StripLess", spec := "stripLess", inPlace := ["math/bits.Add64", "math/bits.Sub64"], unfollowed := true, recurses := true, named := ["math/bits.divideError", "math/bits.overflowError"], apart := false, narrowed := true }
def StripLessUptoSaid : Prop := stripLessUptoRow.holds Tryz.pinned (OpenSpec.upto stripLessSpec)

/-- 'alidadelaw8.StripAgain', WHERE WHAT IT READS IS OF BULK AT MOST 1048576: true; the input reads as it did. -/
def stripAgainUptoRow : OpenClaim := { program := "ytaibhjphgdjcmaagreat", sum := "6e39f1e5dac0c008e302fcffa24c8ecc1cd7ef8c0c1d446f6eb87b20432958d0", func := "alidade/alidadelaw8.StripAgain", spec := "stripAgain", inPlace := ["math/bits.Add64", "math/bits.Sub64"], unfollowed := true, recurses := true, named := ["math/bits.divideError", "math/bits.overflowError"], apart := false, narrowed := true }
def StripAgainUptoSaid : Prop := stripAgainUptoRow.holds Tryz.pinned (OpenSpec.upto stripAgainSpec)

/-- 'alidadelaw8.StripFar', WHERE WHAT IT READS IS OF BULK AT MOST 1048576: true; the input reads as it did. -/
def stripFarUptoRow : OpenClaim := { program := "ytaibhjphgdjcmaagreat", sum := "6e39f1e5dac0c008e302fcffa24c8ecc1cd7ef8c0c1d446f6eb87b20432958d0", func := "alidade/alidadelaw8.StripFar", spec := "stripFar", inPlace := ["math/bits.Add64", "math/bits.Sub64"], unfollowed := true, recurses := true, named := ["math/bits.divideError", "math/bits.overflowError"], apart := false, narrowed := true }
def StripFarUptoSaid : Prop := stripFarUptoRow.holds Tryz.pinned (OpenSpec.upto stripFarSpec)

end Rows
end Go.Proofs.YtaibhjphgdjcmaaGreat
