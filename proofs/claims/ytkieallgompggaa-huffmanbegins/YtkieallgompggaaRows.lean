/-
  No cell of these rows narrows 'for every input' (looked for: loops, veiled, ifaces, maps, wideKeys, modest, calm, conditions, laid).
  DERIVED. THE GIVEN ROWS OF THIS SEAT. 6 by the template 'for every input the law returns true; each argument reads behind the call as it read before'; 0 by the template 'total and deterministic' (their statements: YtkieallgompggaaTotals.lean).
  GIVEN WITH THE SEED: the statements are not yours to turn. If you find one false, say at which input.
  Laid BY PROGRAM, IN A SANDBOX (cutbox-rows.mjs): the forced cells as the released guide's own fill.sh prints them over the translation a0a1d88546cb6867… (all of the seat's roots in one cut). By AI agents, Wed Nov 11 2026. No macro, syntax, notation, axiom, sorry.
-/
import Derived.Test.YtkieallgompggaaChecked
import GoSem.Claim
import GoSem.ClaimJoined
import GoSem.ClaimMapViews
import Derived.JoinedTies
import Derived.KernelRfl
namespace Go.Proofs.Ytkieallgompggaa
/- THE CELL 'sum', in the pinned program and in every row, IS THE sha256 OF THE DUMP (.gsa) THAT YtkieallgompggaaProg.lean LOADS. Nothing in Lean hashes anything: it is a label: what it is worth is what the hold of that sum in a sandbox is worth. -/
noncomputable def Try.pinned : Pinned := { name := "ytkieallgompggaa", sum := "a0a1d88546cb6867d91e7351691dc0a298af5d60e42e43b8cea8ea966e013f3c", checked := Try.checked }
namespace Rows
def none {H : Type} : Left H := { results := [], args := [] }

/-- 'marquetrylaw05.HuffmanWeighs': WHATEVER THE INPUT: true; the input reads as it did. -/
def huffmanWeighsSpec : ChangeSpec := { name := "huffmanWeighs", fn := fun _ => fun
  | [d] => { results := [.lit (.bool true)], args := [d] }
  | _ => none }
def huffmanWeighsRow : OpenClaim := { program := "ytkieallgompggaa", sum := "a0a1d88546cb6867d91e7351691dc0a298af5d60e42e43b8cea8ea966e013f3c", func := "marquetry/marquetrylaw05.HuffmanWeighs", spec := "huffmanWeighs", unfollowed := true, recurses := true, apart := false }
def HuffmanWeighsSaid : Prop := huffmanWeighsRow.holds Try.pinned (OpenSpec.ofChange huffmanWeighsSpec)

/-- ITS FALSE NEIGHBOUR: 'it returns false'. Refute it at one input. -/
def huffmanWeighsWrong : ChangeSpec := { name := "huffmanWeighs", fn := fun _ => fun
  | [d] => { results := [.lit (.bool false)], args := [d] }
  | _ => none }
def HuffmanWeighsWrongFalsely : Prop := huffmanWeighsRow.holds Try.pinned (OpenSpec.ofChange huffmanWeighsWrong)

/-- 'marquetrylaw05.HuffmanCodes': WHATEVER THE INPUT: true; the input reads as it did. -/
def huffmanCodesSpec : ChangeSpec := { name := "huffmanCodes", fn := fun _ => fun
  | [d] => { results := [.lit (.bool true)], args := [d] }
  | _ => none }
def huffmanCodesRow : OpenClaim := { program := "ytkieallgompggaa", sum := "a0a1d88546cb6867d91e7351691dc0a298af5d60e42e43b8cea8ea966e013f3c", func := "marquetry/marquetrylaw05.HuffmanCodes", spec := "huffmanCodes", unfollowed := true, recurses := true, apart := false }
def HuffmanCodesSaid : Prop := huffmanCodesRow.holds Try.pinned (OpenSpec.ofChange huffmanCodesSpec)

/-- ITS FALSE NEIGHBOUR: 'it returns false'. Refute it at one input. -/
def huffmanCodesWrong : ChangeSpec := { name := "huffmanCodes", fn := fun _ => fun
  | [d] => { results := [.lit (.bool false)], args := [d] }
  | _ => none }
def HuffmanCodesWrongFalsely : Prop := huffmanCodesRow.holds Try.pinned (OpenSpec.ofChange huffmanCodesWrong)

/-- 'marquetrylaw05.HuffmanFinds': WHATEVER THE INPUT: true; the input reads as it did. -/
def huffmanFindsSpec : ChangeSpec := { name := "huffmanFinds", fn := fun _ => fun
  | [d1, d2, d3] => { results := [.lit (.bool true)], args := [d1, d2, d3] }
  | _ => none }
def huffmanFindsRow : OpenClaim := { program := "ytkieallgompggaa", sum := "a0a1d88546cb6867d91e7351691dc0a298af5d60e42e43b8cea8ea966e013f3c", func := "marquetry/marquetrylaw05.HuffmanFinds", spec := "huffmanFinds", unfollowed := true, recurses := true, apart := false }
def HuffmanFindsSaid : Prop := huffmanFindsRow.holds Try.pinned (OpenSpec.ofChange huffmanFindsSpec)

/-- ITS FALSE NEIGHBOUR: 'it returns false'. Refute it at one input. -/
def huffmanFindsWrong : ChangeSpec := { name := "huffmanFinds", fn := fun _ => fun
  | [d1, d2, d3] => { results := [.lit (.bool false)], args := [d1, d2, d3] }
  | _ => none }
def HuffmanFindsWrongFalsely : Prop := huffmanFindsRow.holds Try.pinned (OpenSpec.ofChange huffmanFindsWrong)

/-- 'marquetrylaw05.HuffmanLengths': WHATEVER THE INPUT: true; the input reads as it did. -/
def huffmanLengthsSpec : ChangeSpec := { name := "huffmanLengths", fn := fun _ => fun
  | [d1, d2] => { results := [.lit (.bool true)], args := [d1, d2] }
  | _ => none }
def huffmanLengthsRow : OpenClaim := { program := "ytkieallgompggaa", sum := "a0a1d88546cb6867d91e7351691dc0a298af5d60e42e43b8cea8ea966e013f3c", func := "marquetry/marquetrylaw05.HuffmanLengths", spec := "huffmanLengths", unfollowed := true, recurses := true, apart := false }
def HuffmanLengthsSaid : Prop := huffmanLengthsRow.holds Try.pinned (OpenSpec.ofChange huffmanLengthsSpec)

/-- ITS FALSE NEIGHBOUR: 'it returns false'. Refute it at one input. -/
def huffmanLengthsWrong : ChangeSpec := { name := "huffmanLengths", fn := fun _ => fun
  | [d1, d2] => { results := [.lit (.bool false)], args := [d1, d2] }
  | _ => none }
def HuffmanLengthsWrongFalsely : Prop := huffmanLengthsRow.holds Try.pinned (OpenSpec.ofChange huffmanLengthsWrong)

/-- 'marquetrylaw05.HuffmanCosts': WHATEVER THE INPUT: true; the input reads as it did. -/
def huffmanCostsSpec : ChangeSpec := { name := "huffmanCosts", fn := fun _ => fun
  | [d1, d2] => { results := [.lit (.bool true)], args := [d1, d2] }
  | _ => none }
def huffmanCostsRow : OpenClaim := { program := "ytkieallgompggaa", sum := "a0a1d88546cb6867d91e7351691dc0a298af5d60e42e43b8cea8ea966e013f3c", func := "marquetry/marquetrylaw05.HuffmanCosts", spec := "huffmanCosts", unfollowed := true, recurses := true, apart := false }
def HuffmanCostsSaid : Prop := huffmanCostsRow.holds Try.pinned (OpenSpec.ofChange huffmanCostsSpec)

/-- ITS FALSE NEIGHBOUR: 'it returns false'. Refute it at one input. -/
def huffmanCostsWrong : ChangeSpec := { name := "huffmanCosts", fn := fun _ => fun
  | [d1, d2] => { results := [.lit (.bool false)], args := [d1, d2] }
  | _ => none }
def HuffmanCostsWrongFalsely : Prop := huffmanCostsRow.holds Try.pinned (OpenSpec.ofChange huffmanCostsWrong)

/-- 'marquetrylaw05.HuffmanBegins': WHATEVER THE INPUT: true; the input reads as it did. -/
def huffmanBeginsSpec : ChangeSpec := { name := "huffmanBegins", fn := fun _ => fun
  | [d] => { results := [.lit (.bool true)], args := [d] }
  | _ => none }
def huffmanBeginsRow : OpenClaim := { program := "ytkieallgompggaa", sum := "a0a1d88546cb6867d91e7351691dc0a298af5d60e42e43b8cea8ea966e013f3c", func := "marquetry/marquetrylaw05.HuffmanBegins", spec := "huffmanBegins", unfollowed := true, recurses := true, apart := false }
def HuffmanBeginsSaid : Prop := huffmanBeginsRow.holds Try.pinned (OpenSpec.ofChange huffmanBeginsSpec)

/-- ITS FALSE NEIGHBOUR: 'it returns false'. Refute it at one input. -/
def huffmanBeginsWrong : ChangeSpec := { name := "huffmanBegins", fn := fun _ => fun
  | [d] => { results := [.lit (.bool false)], args := [d] }
  | _ => none }
def HuffmanBeginsWrongFalsely : Prop := huffmanBeginsRow.holds Try.pinned (OpenSpec.ofChange huffmanBeginsWrong)

/- THE SECOND FORM. 'bulk': how many values and letters a reading holds, each counted each time it is reached (what is shared counts as often as it is met; a slice's spare places count too). A statement '..UptoSaid' is the law's where the arguments, and the package variables that the reading takes, are together of bulk at most 1048576: NARROWER than '..Said'. Prove '..Said' where nothing that the law and all that it calls make is longer than what came in: it says more and counts as full. Else prove '..UptoSaid'. A law counts once. -/
mutual
def uptoBulk {H : Type} : DataW H → Nat
  | .lit (.string bytes) => bytes.length + 1
  | .lit _ => 1
  | .nil => 1
  | .ptr d => uptoBulk d + 1
  | .slice elems spare => uptoBulkAll elems + uptoBulkAll spare + 1
  | .agg parts => uptoBulkAll parts + 1
  | .iface _ d => uptoBulk d + 1
  | .map entries => uptoBulkEntries entries + 1
  | .held _ => 1
def uptoBulkAll {H : Type} : List (DataW H) → Nat
  | [] => 0
  | d :: r => uptoBulk d + uptoBulkAll r
def uptoBulkEntries {H : Type} : List (Lit × DataW H) → Nat
  | [] => 0
  | x :: r => uptoBulkEntry x + uptoBulkEntries r
def uptoBulkEntry {H : Type} : Lit × DataW H → Nat
  | (.string bytes, d) => bytes.length + uptoBulk d + 1
  | (_, d) => uptoBulk d + 1
 end
def uptoSmall : (H : Type) → List (DataW H) → Bool := fun _ ds => decide (uptoBulkAll ds ≤ 1048576)
def OpenSpec.upto (s : _root_.Go.ChangeSpec) : _root_.Go.OpenSpec := { _root_.Go.OpenSpec.ofChange s with cond := some uptoSmall }

/-- 'marquetrylaw05.HuffmanWeighs', WHERE WHAT IT READS IS OF BULK AT MOST 1048576: true; the input reads as it did. -/
def huffmanWeighsUptoRow : OpenClaim := { program := "ytkieallgompggaa", sum := "a0a1d88546cb6867d91e7351691dc0a298af5d60e42e43b8cea8ea966e013f3c", func := "marquetry/marquetrylaw05.HuffmanWeighs", spec := "huffmanWeighs", unfollowed := true, recurses := true, apart := false, narrowed := true }
def HuffmanWeighsUptoSaid : Prop := huffmanWeighsUptoRow.holds Try.pinned (OpenSpec.upto huffmanWeighsSpec)

/-- 'marquetrylaw05.HuffmanCodes', WHERE WHAT IT READS IS OF BULK AT MOST 1048576: true; the input reads as it did. -/
def huffmanCodesUptoRow : OpenClaim := { program := "ytkieallgompggaa", sum := "a0a1d88546cb6867d91e7351691dc0a298af5d60e42e43b8cea8ea966e013f3c", func := "marquetry/marquetrylaw05.HuffmanCodes", spec := "huffmanCodes", unfollowed := true, recurses := true, apart := false, narrowed := true }
def HuffmanCodesUptoSaid : Prop := huffmanCodesUptoRow.holds Try.pinned (OpenSpec.upto huffmanCodesSpec)

/-- 'marquetrylaw05.HuffmanFinds', WHERE WHAT IT READS IS OF BULK AT MOST 1048576: true; the input reads as it did. -/
def huffmanFindsUptoRow : OpenClaim := { program := "ytkieallgompggaa", sum := "a0a1d88546cb6867d91e7351691dc0a298af5d60e42e43b8cea8ea966e013f3c", func := "marquetry/marquetrylaw05.HuffmanFinds", spec := "huffmanFinds", unfollowed := true, recurses := true, apart := false, narrowed := true }
def HuffmanFindsUptoSaid : Prop := huffmanFindsUptoRow.holds Try.pinned (OpenSpec.upto huffmanFindsSpec)

/-- 'marquetrylaw05.HuffmanLengths', WHERE WHAT IT READS IS OF BULK AT MOST 1048576: true; the input reads as it did. -/
def huffmanLengthsUptoRow : OpenClaim := { program := "ytkieallgompggaa", sum := "a0a1d88546cb6867d91e7351691dc0a298af5d60e42e43b8cea8ea966e013f3c", func := "marquetry/marquetrylaw05.HuffmanLengths", spec := "huffmanLengths", unfollowed := true, recurses := true, apart := false, narrowed := true }
def HuffmanLengthsUptoSaid : Prop := huffmanLengthsUptoRow.holds Try.pinned (OpenSpec.upto huffmanLengthsSpec)

/-- 'marquetrylaw05.HuffmanCosts', WHERE WHAT IT READS IS OF BULK AT MOST 1048576: true; the input reads as it did. -/
def huffmanCostsUptoRow : OpenClaim := { program := "ytkieallgompggaa", sum := "a0a1d88546cb6867d91e7351691dc0a298af5d60e42e43b8cea8ea966e013f3c", func := "marquetry/marquetrylaw05.HuffmanCosts", spec := "huffmanCosts", unfollowed := true, recurses := true, apart := false, narrowed := true }
def HuffmanCostsUptoSaid : Prop := huffmanCostsUptoRow.holds Try.pinned (OpenSpec.upto huffmanCostsSpec)

/-- 'marquetrylaw05.HuffmanBegins', WHERE WHAT IT READS IS OF BULK AT MOST 1048576: true; the input reads as it did. -/
def huffmanBeginsUptoRow : OpenClaim := { program := "ytkieallgompggaa", sum := "a0a1d88546cb6867d91e7351691dc0a298af5d60e42e43b8cea8ea966e013f3c", func := "marquetry/marquetrylaw05.HuffmanBegins", spec := "huffmanBegins", unfollowed := true, recurses := true, apart := false, narrowed := true }
def HuffmanBeginsUptoSaid : Prop := huffmanBeginsUptoRow.holds Try.pinned (OpenSpec.upto huffmanBeginsSpec)

end Rows
end Go.Proofs.Ytkieallgompggaa
