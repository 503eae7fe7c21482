/-
  No cell of these rows narrows 'for every input' (looked for: loops, veiled, ifaces, maps, wideKeys, modest, calm, conditions, laid).
  DERIVED. THE GIVEN ROWS OF THIS SEAT. 3 by the template 'for every input the law returns true; each argument reads behind the call as it read before'; 0 by the template 'total and deterministic' (their statements: YtdgpcjihbfbflaaTotals.lean).
  GIVEN WITH THE SEED: the statements are not yours to turn. If you find one false, say at which input.
  Laid BY PROGRAM, IN A SANDBOX (cutbox-rows.mjs): the forced cells as the released guide's own fill.sh prints them over the translation e5f1139a0437330d… (all of the seat's roots in one cut). By AI agents, Wed Nov 11 2026. No macro, syntax, notation, axiom, sorry.
-/
import Derived.Test.YtdgpcjihbfbflaaChecked
import GoSem.Claim
import GoSem.ClaimJoined
import GoSem.ClaimMapViews
import Derived.JoinedTies
import Derived.KernelRfl
namespace Go.Proofs.Ytdgpcjihbfbflaa
/- THE CELL 'sum', in the pinned program and in every row, IS THE sha256 OF THE DUMP (.gsa) THAT YtdgpcjihbfbflaaProg.lean LOADS. Nothing in Lean hashes anything: it is a label: what it is worth is what the hold of that sum in a sandbox is worth. -/
noncomputable def Try.pinned : Pinned := { name := "ytdgpcjihbfbflaa", sum := "e5f1139a0437330d0b7d7becec1d2d76bab06ff3660c287d0bf9940fa1ebde96", checked := Try.checked }
namespace Rows
def none {H : Type} : Left H := { results := [], args := [] }

/-- 'alidadelaw7.GoldenBest': WHATEVER THE INPUT: true; the input reads as it did. -/
def goldenBestSpec : ChangeSpec := { name := "goldenBest", fn := fun _ => fun
  | [d] => { results := [.lit (.bool true)], args := [d] }
  | _ => none }
def goldenBestRow : OpenClaim := { program := "ytdgpcjihbfbflaa", sum := "e5f1139a0437330d0b7d7becec1d2d76bab06ff3660c287d0bf9940fa1ebde96", func := "alidade/alidadelaw7.GoldenBest", spec := "goldenBest", unfollowed := true, recurses := true, apart := false }
def GoldenBestSaid : Prop := goldenBestRow.holds Try.pinned (OpenSpec.ofChange goldenBestSpec)

/-- ITS FALSE NEIGHBOUR: 'it returns false'. Refute it at one input. -/
def goldenBestWrong : ChangeSpec := { name := "goldenBest", fn := fun _ => fun
  | [d] => { results := [.lit (.bool false)], args := [d] }
  | _ => none }
def GoldenBestWrongFalsely : Prop := goldenBestRow.holds Try.pinned (OpenSpec.ofChange goldenBestWrong)

/-- 'alidadelaw7.GoldenFinds': WHATEVER THE INPUT: true; the input reads as it did. -/
def goldenFindsSpec : ChangeSpec := { name := "goldenFinds", fn := fun _ => fun
  | [d1, d2] => { results := [.lit (.bool true)], args := [d1, d2] }
  | _ => none }
def goldenFindsRow : OpenClaim := { program := "ytdgpcjihbfbflaa", sum := "e5f1139a0437330d0b7d7becec1d2d76bab06ff3660c287d0bf9940fa1ebde96", func := "alidade/alidadelaw7.GoldenFinds", spec := "goldenFinds", unfollowed := true, recurses := true, apart := false }
def GoldenFindsSaid : Prop := goldenFindsRow.holds Try.pinned (OpenSpec.ofChange goldenFindsSpec)

/-- ITS FALSE NEIGHBOUR: 'it returns false'. Refute it at one input. -/
def goldenFindsWrong : ChangeSpec := { name := "goldenFinds", fn := fun _ => fun
  | [d1, d2] => { results := [.lit (.bool false)], args := [d1, d2] }
  | _ => none }
def GoldenFindsWrongFalsely : Prop := goldenFindsRow.holds Try.pinned (OpenSpec.ofChange goldenFindsWrong)

/-- 'alidadelaw7.GoldenWithin': WHATEVER THE INPUT: true; the input reads as it did. -/
def goldenWithinSpec : ChangeSpec := { name := "goldenWithin", fn := fun _ => fun
  | [d1, d2] => { results := [.lit (.bool true)], args := [d1, d2] }
  | _ => none }
def goldenWithinRow : OpenClaim := { program := "ytdgpcjihbfbflaa", sum := "e5f1139a0437330d0b7d7becec1d2d76bab06ff3660c287d0bf9940fa1ebde96", func := "alidade/alidadelaw7.GoldenWithin", spec := "goldenWithin", inPlace := ["math/bits.Add64", "math/bits.Sub64"], unfollowed := true, recurses := true, named := ["math/bits.divideError", "math/bits.overflowError"], apart := false }
def GoldenWithinSaid : Prop := goldenWithinRow.holds Try.pinned (OpenSpec.ofChange goldenWithinSpec)

/-- ITS FALSE NEIGHBOUR: 'it returns false'. Refute it at one input. -/
def goldenWithinWrong : ChangeSpec := { name := "goldenWithin", fn := fun _ => fun
  | [d1, d2] => { results := [.lit (.bool false)], args := [d1, d2] }
  | _ => none }
def GoldenWithinWrongFalsely : Prop := goldenWithinRow.holds Try.pinned (OpenSpec.ofChange goldenWithinWrong)

/- THE SECOND FORM. 'bulk': how many values and letters a reading holds, each counted each time it is reached (what is shared counts as often as it is met; a slice's spare places count too). A statement '..UptoSaid' is the law's where the arguments, and the package variables that the reading takes, are together of bulk at most 1048576: NARROWER than '..Said'. Prove '..Said' where nothing that the law and all that it calls make is longer than what came in: it says more and counts as full. Else prove '..UptoSaid'. A law counts once. -/
mutual
def uptoBulk {H : Type} : DataW H → Nat
  | .lit (.string bytes) => bytes.length + 1
  | .lit _ => 1
  | .nil => 1
  | .ptr d => uptoBulk d + 1
  | .slice elems spare => uptoBulkAll elems + uptoBulkAll spare + 1
  | .agg parts => uptoBulkAll parts + 1
  | .iface _ d => uptoBulk d + 1
  | .map entries => uptoBulkEntries entries + 1
  | .held _ => 1
def uptoBulkAll {H : Type} : List (DataW H) → Nat
  | [] => 0
  | d :: r => uptoBulk d + uptoBulkAll r
def uptoBulkEntries {H : Type} : List (Lit × DataW H) → Nat
  | [] => 0
  | x :: r => uptoBulkEntry x + uptoBulkEntries r
def uptoBulkEntry {H : Type} : Lit × DataW H → Nat
  | (.string bytes, d) => bytes.length + uptoBulk d + 1
  | (_, d) => uptoBulk d + 1
 end
def uptoSmall : (H : Type) → List (DataW H) → Bool := fun _ ds => decide (uptoBulkAll ds ≤ 1048576)
def OpenSpec.upto (s : _root_.Go.ChangeSpec) : _root_.Go.OpenSpec := { _root_.Go.OpenSpec.ofChange s with cond := some uptoSmall }

/-- 'alidadelaw7.GoldenBest', WHERE WHAT IT READS IS OF BULK AT MOST 1048576: true; the input reads as it did. -/
def goldenBestUptoRow : OpenClaim := { program := "ytdgpcjihbfbflaa", sum := "e5f1139a0437330d0b7d7becec1d2d76bab06ff3660c287d0bf9940fa1ebde96", func := "alidade/alidadelaw7.GoldenBest", spec := "goldenBest", unfollowed := true, recurses := true, apart := false, narrowed := true }
def GoldenBestUptoSaid : Prop := goldenBestUptoRow.holds Try.pinned (OpenSpec.upto goldenBestSpec)

/-- 'alidadelaw7.GoldenFinds', WHERE WHAT IT READS IS OF BULK AT MOST 1048576: true; the input reads as it did. -/
def goldenFindsUptoRow : OpenClaim := { program := "ytdgpcjihbfbflaa", sum := "e5f1139a0437330d0b7d7becec1d2d76bab06ff3660c287d0bf9940fa1ebde96", func := "alidade/alidadelaw7.GoldenFinds", spec := "goldenFinds", unfollowed := true, recurses := true, apart := false, narrowed := true }
def GoldenFindsUptoSaid : Prop := goldenFindsUptoRow.holds Try.pinned (OpenSpec.upto goldenFindsSpec)

/-- 'alidadelaw7.GoldenWithin', WHERE WHAT IT READS IS OF BULK AT MOST 1048576: true; the input reads as it did. -/
def goldenWithinUptoRow : OpenClaim := { program := "ytdgpcjihbfbflaa", sum := "e5f1139a0437330d0b7d7becec1d2d76bab06ff3660c287d0bf9940fa1ebde96", func := "alidade/alidadelaw7.GoldenWithin", spec := "goldenWithin", inPlace := ["math/bits.Add64", "math/bits.Sub64"], unfollowed := true, recurses := true, named := ["math/bits.divideError", "math/bits.overflowError"], apart := false, narrowed := true }
def GoldenWithinUptoSaid : Prop := goldenWithinUptoRow.holds Try.pinned (OpenSpec.upto goldenWithinSpec)

end Rows
end Go.Proofs.Ytdgpcjihbfbflaa
