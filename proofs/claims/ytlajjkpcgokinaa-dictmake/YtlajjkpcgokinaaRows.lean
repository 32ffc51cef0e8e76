/-
  No cell of these rows narrows 'for every input' (looked for: loops, veiled, ifaces, maps, wideKeys, modest, calm, conditions, laid).
  DERIVED. THE GIVEN ROWS OF THIS SEAT. 4 by the template 'for every input the law returns true; each argument reads behind the call as it read before'; 0 by the template 'total and deterministic' (their statements: YtlajjkpcgokinaaTotals.lean).
  GIVEN WITH THE SEED: the statements are not yours to turn. If you find one false, say at which input.
  Laid BY PROGRAM, IN A SANDBOX (cutbox-rows.mjs): the forced cells as the released guide's own fill.sh prints them over the translation c7a7cbedb4e133fa… (all of the seat's roots in one cut). By AI agents, Wed Nov 11 2026. No macro, syntax, notation, axiom, sorry.
-/
import Derived.Test.YtlajjkpcgokinaaChecked
import GoSem.Claim
import GoSem.ClaimJoined
import GoSem.ClaimMapViews
import Derived.JoinedTies
import Derived.KernelRfl
namespace Go.Proofs.Ytlajjkpcgokinaa
/- THE CELL 'sum', in the pinned program and in every row, IS THE sha256 OF THE DUMP (.gsa) THAT YtlajjkpcgokinaaProg.lean LOADS. Nothing in Lean hashes anything: it is a label: what it is worth is what the hold of that sum in a sandbox is worth. -/
noncomputable def Try.pinned : Pinned := { name := "ytlajjkpcgokinaa", sum := "c7a7cbedb4e133fa6a2a2476bb41473473ed92319a378988c6bbc2902efaf9e5", checked := Try.checked }
namespace Rows
def none {H : Type} : Left H := { results := [], args := [] }

/-- 'marquetrylaw12.DictMake': WHATEVER THE INPUT: true; the input reads as it did. -/
def dictMakeSpec : ChangeSpec := { name := "dictMake", fn := fun _ => fun
  | [d] => { results := [.lit (.bool true)], args := [d] }
  | _ => none }
def dictMakeRow : OpenClaim := { program := "ytlajjkpcgokinaa", sum := "c7a7cbedb4e133fa6a2a2476bb41473473ed92319a378988c6bbc2902efaf9e5", func := "marquetry/marquetrylaw12.DictMake", spec := "dictMake", unfollowed := true, recurses := true, plainKeys := false, apart := false }
def DictMakeSaid : Prop := dictMakeRow.holds Try.pinned (OpenSpec.ofChange dictMakeSpec)

/-- ITS FALSE NEIGHBOUR: 'it returns false'. Refute it at one input. -/
def dictMakeWrong : ChangeSpec := { name := "dictMake", fn := fun _ => fun
  | [d] => { results := [.lit (.bool false)], args := [d] }
  | _ => none }
def DictMakeWrongFalsely : Prop := dictMakeRow.holds Try.pinned (OpenSpec.ofChange dictMakeWrong)

/-- 'marquetrylaw12.DictWrite': WHATEVER THE INPUT: true; the input reads as it did. -/
def dictWriteSpec : ChangeSpec := { name := "dictWrite", fn := fun _ => fun
  | [d1, d2] => { results := [.lit (.bool true)], args := [d1, d2] }
  | _ => none }
def dictWriteRow : OpenClaim := { program := "ytlajjkpcgokinaa", sum := "c7a7cbedb4e133fa6a2a2476bb41473473ed92319a378988c6bbc2902efaf9e5", func := "marquetry/marquetrylaw12.DictWrite", spec := "dictWrite", unfollowed := true, recurses := true, plainKeys := false, apart := false }
def DictWriteSaid : Prop := dictWriteRow.holds Try.pinned (OpenSpec.ofChange dictWriteSpec)

/-- ITS FALSE NEIGHBOUR: 'it returns false'. Refute it at one input. -/
def dictWriteWrong : ChangeSpec := { name := "dictWrite", fn := fun _ => fun
  | [d1, d2] => { results := [.lit (.bool false)], args := [d1, d2] }
  | _ => none }
def DictWriteWrongFalsely : Prop := dictWriteRow.holds Try.pinned (OpenSpec.ofChange dictWriteWrong)

/-- 'marquetrylaw12.DictRead': WHATEVER THE INPUT: true; the input reads as it did. -/
def dictReadSpec : ChangeSpec := { name := "dictRead", fn := fun _ => fun
  | [d1, d2, d3] => { results := [.lit (.bool true)], args := [d1, d2, d3] }
  | _ => none }
def dictReadRow : OpenClaim := { program := "ytlajjkpcgokinaa", sum := "c7a7cbedb4e133fa6a2a2476bb41473473ed92319a378988c6bbc2902efaf9e5", func := "marquetry/marquetrylaw12.DictRead", spec := "dictRead", unfollowed := true, recurses := true, plainKeys := false, apart := false }
def DictReadSaid : Prop := dictReadRow.holds Try.pinned (OpenSpec.ofChange dictReadSpec)

/-- ITS FALSE NEIGHBOUR: 'it returns false'. Refute it at one input. -/
def dictReadWrong : ChangeSpec := { name := "dictRead", fn := fun _ => fun
  | [d1, d2, d3] => { results := [.lit (.bool false)], args := [d1, d2, d3] }
  | _ => none }
def DictReadWrongFalsely : Prop := dictReadRow.holds Try.pinned (OpenSpec.ofChange dictReadWrong)

/-- 'marquetrylaw12.DictPick': WHATEVER THE INPUT: true; the input reads as it did. -/
def dictPickSpec : ChangeSpec := { name := "dictPick", fn := fun _ => fun
  | [d1, d2] => { results := [.lit (.bool true)], args := [d1, d2] }
  | _ => none }
def dictPickRow : OpenClaim := { program := "ytlajjkpcgokinaa", sum := "c7a7cbedb4e133fa6a2a2476bb41473473ed92319a378988c6bbc2902efaf9e5", func := "marquetry/marquetrylaw12.DictPick", spec := "dictPick", plainKeys := false, apart := false }
def DictPickSaid : Prop := dictPickRow.holds Try.pinned (OpenSpec.ofChange dictPickSpec)

/-- ITS FALSE NEIGHBOUR: 'it returns false'. Refute it at one input. -/
def dictPickWrong : ChangeSpec := { name := "dictPick", fn := fun _ => fun
  | [d1, d2] => { results := [.lit (.bool false)], args := [d1, d2] }
  | _ => none }
def DictPickWrongFalsely : Prop := dictPickRow.holds Try.pinned (OpenSpec.ofChange dictPickWrong)

/- THE SECOND FORM. 'bulk': how many values and letters a reading holds, each counted each time it is reached (what is shared counts as often as it is met; a slice's spare places count too). A statement '..UptoSaid' is the law's where the arguments, and the package variables that the reading takes, are together of bulk at most 1048576: NARROWER than '..Said'. Prove '..Said' where nothing that the law and all that it calls make is longer than what came in: it says more and counts as full. Else prove '..UptoSaid'. A law counts once. -/
mutual
def uptoBulk {H : Type} : DataW H → Nat
  | .lit (.string bytes) => bytes.length + 1
  | .lit _ => 1
  | .nil => 1
  | .ptr d => uptoBulk d + 1
  | .slice elems spare => uptoBulkAll elems + uptoBulkAll spare + 1
  | .agg parts => uptoBulkAll parts + 1
  | .iface _ d => uptoBulk d + 1
  | .map entries => uptoBulkEntries entries + 1
  | .held _ => 1
def uptoBulkAll {H : Type} : List (DataW H) → Nat
  | [] => 0
  | d :: r => uptoBulk d + uptoBulkAll r
def uptoBulkEntries {H : Type} : List (Lit × DataW H) → Nat
  | [] => 0
  | x :: r => uptoBulkEntry x + uptoBulkEntries r
def uptoBulkEntry {H : Type} : Lit × DataW H → Nat
  | (.string bytes, d) => bytes.length + uptoBulk d + 1
  | (_, d) => uptoBulk d + 1
 end
def uptoSmall : (H : Type) → List (DataW H) → Bool := fun _ ds => decide (uptoBulkAll ds ≤ 1048576)
def OpenSpec.upto (s : _root_.Go.ChangeSpec) : _root_.Go.OpenSpec := { _root_.Go.OpenSpec.ofChange s with cond := some uptoSmall }

/-- 'marquetrylaw12.DictMake', WHERE WHAT IT READS IS OF BULK AT MOST 1048576: true; the input reads as it did. -/
def dictMakeUptoRow : OpenClaim := { program := "ytlajjkpcgokinaa", sum := "c7a7cbedb4e133fa6a2a2476bb41473473ed92319a378988c6bbc2902efaf9e5", func := "marquetry/marquetrylaw12.DictMake", spec := "dictMake", unfollowed := true, recurses := true, plainKeys := false, apart := false, narrowed := true }
def DictMakeUptoSaid : Prop := dictMakeUptoRow.holds Try.pinned (OpenSpec.upto dictMakeSpec)

/-- 'marquetrylaw12.DictWrite', WHERE WHAT IT READS IS OF BULK AT MOST 1048576: true; the input reads as it did. -/
def dictWriteUptoRow : OpenClaim := { program := "ytlajjkpcgokinaa", sum := "c7a7cbedb4e133fa6a2a2476bb41473473ed92319a378988c6bbc2902efaf9e5", func := "marquetry/marquetrylaw12.DictWrite", spec := "dictWrite", unfollowed := true, recurses := true, plainKeys := false, apart := false, narrowed := true }
def DictWriteUptoSaid : Prop := dictWriteUptoRow.holds Try.pinned (OpenSpec.upto dictWriteSpec)

/-- 'marquetrylaw12.DictRead', WHERE WHAT IT READS IS OF BULK AT MOST 1048576: true; the input reads as it did. -/
def dictReadUptoRow : OpenClaim := { program := "ytlajjkpcgokinaa", sum := "c7a7cbedb4e133fa6a2a2476bb41473473ed92319a378988c6bbc2902efaf9e5", func := "marquetry/marquetrylaw12.DictRead", spec := "dictRead", unfollowed := true, recurses := true, plainKeys := false, apart := false, narrowed := true }
def DictReadUptoSaid : Prop := dictReadUptoRow.holds Try.pinned (OpenSpec.upto dictReadSpec)

/-- 'marquetrylaw12.DictPick', WHERE WHAT IT READS IS OF BULK AT MOST 1048576: true; the input reads as it did. -/
def dictPickUptoRow : OpenClaim := { program := "ytlajjkpcgokinaa", sum := "c7a7cbedb4e133fa6a2a2476bb41473473ed92319a378988c6bbc2902efaf9e5", func := "marquetry/marquetrylaw12.DictPick", spec := "dictPick", plainKeys := false, apart := false, narrowed := true }
def DictPickUptoSaid : Prop := dictPickUptoRow.holds Try.pinned (OpenSpec.upto dictPickSpec)

end Rows
end Go.Proofs.Ytlajjkpcgokinaa
