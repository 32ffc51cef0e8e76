/-
  No cell of these rows narrows 'for every input' (looked for: loops, veiled, ifaces, maps, wideKeys, modest, calm, conditions, laid).
  DERIVED. THE GIVEN ROWS OF THIS SEAT. 6 by the template 'for every input the law returns true; each argument reads behind the call as it read before'; 0 by the template 'total and deterministic' (their statements: YtkbjohkijajcgabTotals.lean).
  GIVEN WITH THE SEED: the statements are not yours to turn. If you find one false, say at which input.
  Laid BY PROGRAM, IN A SANDBOX (cutbox-rows.mjs): the forced cells as the released guide's own fill.sh prints them over the translation 635ca4a687883f6e… (all of the seat's roots in one cut). By AI agents, Wed Nov 11 2026. No macro, syntax, notation, axiom, sorry.
-/
import Derived.Test.YtkbjohkijajcgabChecked
import GoSem.Claim
import GoSem.ClaimJoined
import GoSem.ClaimMapViews
import Derived.JoinedTies
import Derived.KernelRfl
namespace Go.Proofs.Ytkbjohkijajcgab
/- THE CELL 'sum', in the pinned program and in every row, IS THE sha256 OF THE DUMP (.gsa) THAT YtkbjohkijajcgabProg.lean LOADS. Nothing in Lean hashes anything: it is a label: what it is worth is what the hold of that sum in a sandbox is worth. -/
noncomputable def Try.pinned : Pinned := { name := "ytkbjohkijajcgab", sum := "635ca4a687883f6ebe4d871ba553a16b5a5b05645cc24aca8ea6bf3ab1958142", checked := Try.checked }
namespace Rows
def none {H : Type} : Left H := { results := [], args := [] }

/-- 'marquetrylaw01.BitsWidth': WHATEVER THE INPUT: true; the input reads as it did. -/
def bitsWidthSpec : ChangeSpec := { name := "bitsWidth", fn := fun _ => fun
  | [d] => { results := [.lit (.bool true)], args := [d] }
  | _ => none }
def bitsWidthRow : OpenClaim := { program := "ytkbjohkijajcgab", sum := "635ca4a687883f6ebe4d871ba553a16b5a5b05645cc24aca8ea6bf3ab1958142", func := "marquetry/marquetrylaw01.BitsWidth", spec := "bitsWidth", apart := false }
def BitsWidthSaid : Prop := bitsWidthRow.holds Try.pinned (OpenSpec.ofChange bitsWidthSpec)

/-- ITS FALSE NEIGHBOUR: 'it returns false'. Refute it at one input. -/
def bitsWidthWrong : ChangeSpec := { name := "bitsWidth", fn := fun _ => fun
  | [d] => { results := [.lit (.bool false)], args := [d] }
  | _ => none }
def BitsWidthWrongFalsely : Prop := bitsWidthRow.holds Try.pinned (OpenSpec.ofChange bitsWidthWrong)

/-- 'marquetrylaw01.BitsSize': WHATEVER THE INPUT: true; the input reads as it did. -/
def bitsSizeSpec : ChangeSpec := { name := "bitsSize", fn := fun _ => fun
  | [d1, d2] => { results := [.lit (.bool true)], args := [d1, d2] }
  | _ => none }
def bitsSizeRow : OpenClaim := { program := "ytkbjohkijajcgab", sum := "635ca4a687883f6ebe4d871ba553a16b5a5b05645cc24aca8ea6bf3ab1958142", func := "marquetry/marquetrylaw01.BitsSize", spec := "bitsSize", apart := false }
def BitsSizeSaid : Prop := bitsSizeRow.holds Try.pinned (OpenSpec.ofChange bitsSizeSpec)

/-- ITS FALSE NEIGHBOUR: 'it returns false'. Refute it at one input. -/
def bitsSizeWrong : ChangeSpec := { name := "bitsSize", fn := fun _ => fun
  | [d1, d2] => { results := [.lit (.bool false)], args := [d1, d2] }
  | _ => none }
def BitsSizeWrongFalsely : Prop := bitsSizeRow.holds Try.pinned (OpenSpec.ofChange bitsSizeWrong)

/-- 'marquetrylaw01.BitsPack': WHATEVER THE INPUT: true; the input reads as it did. -/
def bitsPackSpec : ChangeSpec := { name := "bitsPack", fn := fun _ => fun
  | [d1, d2] => { results := [.lit (.bool true)], args := [d1, d2] }
  | _ => none }
def bitsPackRow : OpenClaim := { program := "ytkbjohkijajcgab", sum := "635ca4a687883f6ebe4d871ba553a16b5a5b05645cc24aca8ea6bf3ab1958142", func := "marquetry/marquetrylaw01.BitsPack", spec := "bitsPack", unfollowed := true, recurses := true, apart := false }
def BitsPackSaid : Prop := bitsPackRow.holds Try.pinned (OpenSpec.ofChange bitsPackSpec)

/-- ITS FALSE NEIGHBOUR: 'it returns false'. Refute it at one input. -/
def bitsPackWrong : ChangeSpec := { name := "bitsPack", fn := fun _ => fun
  | [d1, d2] => { results := [.lit (.bool false)], args := [d1, d2] }
  | _ => none }
def BitsPackWrongFalsely : Prop := bitsPackRow.holds Try.pinned (OpenSpec.ofChange bitsPackWrong)

/-- 'marquetrylaw01.BitsUnpack': WHATEVER THE INPUT: true; the input reads as it did. -/
def bitsUnpackSpec : ChangeSpec := { name := "bitsUnpack", fn := fun _ => fun
  | [d1, d2, d3] => { results := [.lit (.bool true)], args := [d1, d2, d3] }
  | _ => none }
def bitsUnpackRow : OpenClaim := { program := "ytkbjohkijajcgab", sum := "635ca4a687883f6ebe4d871ba553a16b5a5b05645cc24aca8ea6bf3ab1958142", func := "marquetry/marquetrylaw01.BitsUnpack", spec := "bitsUnpack", unfollowed := true, recurses := true, apart := false }
def BitsUnpackSaid : Prop := bitsUnpackRow.holds Try.pinned (OpenSpec.ofChange bitsUnpackSpec)

/-- ITS FALSE NEIGHBOUR: 'it returns false'. Refute it at one input. -/
def bitsUnpackWrong : ChangeSpec := { name := "bitsUnpack", fn := fun _ => fun
  | [d1, d2, d3] => { results := [.lit (.bool false)], args := [d1, d2, d3] }
  | _ => none }
def BitsUnpackWrongFalsely : Prop := bitsUnpackRow.holds Try.pinned (OpenSpec.ofChange bitsUnpackWrong)

/-- 'marquetrylaw01.BitsPackBack': WHATEVER THE INPUT: true; the input reads as it did. -/
def bitsPackBackSpec : ChangeSpec := { name := "bitsPackBack", fn := fun _ => fun
  | [d] => { results := [.lit (.bool true)], args := [d] }
  | _ => none }
def bitsPackBackRow : OpenClaim := { program := "ytkbjohkijajcgab", sum := "635ca4a687883f6ebe4d871ba553a16b5a5b05645cc24aca8ea6bf3ab1958142", func := "marquetry/marquetrylaw01.BitsPackBack", spec := "bitsPackBack", unfollowed := true, recurses := true, apart := false }
def BitsPackBackSaid : Prop := bitsPackBackRow.holds Try.pinned (OpenSpec.ofChange bitsPackBackSpec)

/-- ITS FALSE NEIGHBOUR: 'it returns false'. Refute it at one input. -/
def bitsPackBackWrong : ChangeSpec := { name := "bitsPackBack", fn := fun _ => fun
  | [d] => { results := [.lit (.bool false)], args := [d] }
  | _ => none }
def BitsPackBackWrongFalsely : Prop := bitsPackBackRow.holds Try.pinned (OpenSpec.ofChange bitsPackBackWrong)

/-- 'marquetrylaw01.BitsAll': WHATEVER THE INPUT: true; the input reads as it did. -/
def bitsAllSpec : ChangeSpec := { name := "bitsAll", fn := fun _ => fun
  | [d1, d2] => { results := [.lit (.bool true)], args := [d1, d2] }
  | _ => none }
def bitsAllRow : OpenClaim := { program := "ytkbjohkijajcgab", sum := "635ca4a687883f6ebe4d871ba553a16b5a5b05645cc24aca8ea6bf3ab1958142", func := "marquetry/marquetrylaw01.BitsAll", spec := "bitsAll", unfollowed := true, recurses := true, apart := false }
def BitsAllSaid : Prop := bitsAllRow.holds Try.pinned (OpenSpec.ofChange bitsAllSpec)

/-- ITS FALSE NEIGHBOUR: 'it returns false'. Refute it at one input. -/
def bitsAllWrong : ChangeSpec := { name := "bitsAll", fn := fun _ => fun
  | [d1, d2] => { results := [.lit (.bool false)], args := [d1, d2] }
  | _ => none }
def BitsAllWrongFalsely : Prop := bitsAllRow.holds Try.pinned (OpenSpec.ofChange bitsAllWrong)

/- THE SECOND FORM. 'bulk': how many values and letters a reading holds, each counted each time it is reached (what is shared counts as often as it is met; a slice's spare places count too). A statement '..UptoSaid' is the law's where the arguments, and the package variables that the reading takes, are together of bulk at most 1048576: NARROWER than '..Said'. Prove '..Said' where nothing that the law and all that it calls make is longer than what came in: it says more and counts as full. Else prove '..UptoSaid'. A law counts once. -/
mutual
def uptoBulk {H : Type} : DataW H → Nat
  | .lit (.string bytes) => bytes.length + 1
  | .lit _ => 1
  | .nil => 1
  | .ptr d => uptoBulk d + 1
  | .slice elems spare => uptoBulkAll elems + uptoBulkAll spare + 1
  | .agg parts => uptoBulkAll parts + 1
  | .iface _ d => uptoBulk d + 1
  | .map entries => uptoBulkEntries entries + 1
  | .held _ => 1
def uptoBulkAll {H : Type} : List (DataW H) → Nat
  | [] => 0
  | d :: r => uptoBulk d + uptoBulkAll r
def uptoBulkEntries {H : Type} : List (Lit × DataW H) → Nat
  | [] => 0
  | x :: r => uptoBulkEntry x + uptoBulkEntries r
def uptoBulkEntry {H : Type} : Lit × DataW H → Nat
  | (.string bytes, d) => bytes.length + uptoBulk d + 1
  | (_, d) => uptoBulk d + 1
 end
def uptoSmall : (H : Type) → List (DataW H) → Bool := fun _ ds => decide (uptoBulkAll ds ≤ 1048576)
def OpenSpec.upto (s : _root_.Go.ChangeSpec) : _root_.Go.OpenSpec := { _root_.Go.OpenSpec.ofChange s with cond := some uptoSmall }

/-- 'marquetrylaw01.BitsWidth', WHERE WHAT IT READS IS OF BULK AT MOST 1048576: true; the input reads as it did. -/
def bitsWidthUptoRow : OpenClaim := { program := "ytkbjohkijajcgab", sum := "635ca4a687883f6ebe4d871ba553a16b5a5b05645cc24aca8ea6bf3ab1958142", func := "marquetry/marquetrylaw01.BitsWidth", spec := "bitsWidth", apart := false, narrowed := true }
def BitsWidthUptoSaid : Prop := bitsWidthUptoRow.holds Try.pinned (OpenSpec.upto bitsWidthSpec)

/-- 'marquetrylaw01.BitsSize', WHERE WHAT IT READS IS OF BULK AT MOST 1048576: true; the input reads as it did. -/
def bitsSizeUptoRow : OpenClaim := { program := "ytkbjohkijajcgab", sum := "635ca4a687883f6ebe4d871ba553a16b5a5b05645cc24aca8ea6bf3ab1958142", func := "marquetry/marquetrylaw01.BitsSize", spec := "bitsSize", apart := false, narrowed := true }
def BitsSizeUptoSaid : Prop := bitsSizeUptoRow.holds Try.pinned (OpenSpec.upto bitsSizeSpec)

/-- 'marquetrylaw01.BitsPack', WHERE WHAT IT READS IS OF BULK AT MOST 1048576: true; the input reads as it did. -/
def bitsPackUptoRow : OpenClaim := { program := "ytkbjohkijajcgab", sum := "635ca4a687883f6ebe4d871ba553a16b5a5b05645cc24aca8ea6bf3ab1958142", func := "marquetry/marquetrylaw01.BitsPack", spec := "bitsPack", unfollowed := true, recurses := true, apart := false, narrowed := true }
def BitsPackUptoSaid : Prop := bitsPackUptoRow.holds Try.pinned (OpenSpec.upto bitsPackSpec)

/-- 'marquetrylaw01.BitsUnpack', WHERE WHAT IT READS IS OF BULK AT MOST 1048576: true; the input reads as it did. -/
def bitsUnpackUptoRow : OpenClaim := { program := "ytkbjohkijajcgab", sum := "635ca4a687883f6ebe4d871ba553a16b5a5b05645cc24aca8ea6bf3ab1958142", func := "marquetry/marquetrylaw01.BitsUnpack", spec := "bitsUnpack", unfollowed := true, recurses := true, apart := false, narrowed := true }
def BitsUnpackUptoSaid : Prop := bitsUnpackUptoRow.holds Try.pinned (OpenSpec.upto bitsUnpackSpec)

/-- 'marquetrylaw01.BitsPackBack', WHERE WHAT IT READS IS OF BULK AT MOST 1048576: true; the input reads as it did. -/
def bitsPackBackUptoRow : OpenClaim := { program := "ytkbjohkijajcgab", sum := "635ca4a687883f6ebe4d871ba553a16b5a5b05645cc24aca8ea6bf3ab1958142", func := "marquetry/marquetrylaw01.BitsPackBack", spec := "bitsPackBack", unfollowed := true, recurses := true, apart := false, narrowed := true }
def BitsPackBackUptoSaid : Prop := bitsPackBackUptoRow.holds Try.pinned (OpenSpec.upto bitsPackBackSpec)

/-- 'marquetrylaw01.BitsAll', WHERE WHAT IT READS IS OF BULK AT MOST 1048576: true; the input reads as it did. -/
def bitsAllUptoRow : OpenClaim := { program := "ytkbjohkijajcgab", sum := "635ca4a687883f6ebe4d871ba553a16b5a5b05645cc24aca8ea6bf3ab1958142", func := "marquetry/marquetrylaw01.BitsAll", spec := "bitsAll", unfollowed := true, recurses := true, apart := false, narrowed := true }
def BitsAllUptoSaid : Prop := bitsAllUptoRow.holds Try.pinned (OpenSpec.upto bitsAllSpec)

end Rows
end Go.Proofs.Ytkbjohkijajcgab
