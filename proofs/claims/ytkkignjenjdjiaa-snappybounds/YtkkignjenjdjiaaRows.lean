/-
  No cell of these rows narrows 'for every input' (looked for: loops, veiled, ifaces, maps, wideKeys, modest, calm, conditions, laid).
  DERIVED. THE GIVEN ROWS OF THIS SEAT. 6 by the template 'for every input the law returns true; each argument reads behind the call as it read before'; 0 by the template 'total and deterministic' (their statements: YtkkignjenjdjiaaTotals.lean).
  GIVEN WITH THE SEED: the statements are not yours to turn. If you find one false, say at which input.
  Laid BY PROGRAM, IN A SANDBOX (cutbox-rows.mjs): the forced cells as the released guide's own fill.sh prints them over the translation a747adbc727ea62c… (all of the seat's roots in one cut). By AI agents, Wed Nov 11 2026. No macro, syntax, notation, axiom, sorry.
-/
import Derived.Test.YtkkignjenjdjiaaChecked
import GoSem.Claim
import GoSem.ClaimJoined
import GoSem.ClaimMapViews
import Derived.JoinedTies
import Derived.KernelRfl
namespace Go.Proofs.Ytkkignjenjdjiaa
/- THE CELL 'sum', in the pinned program and in every row, IS THE sha256 OF THE DUMP (.gsa) THAT YtkkignjenjdjiaaProg.lean LOADS. Nothing in Lean hashes anything: it is a label: what it is worth is what the hold of that sum in a sandbox is worth. -/
noncomputable def Try.pinned : Pinned := { name := "ytkkignjenjdjiaa", sum := "a747adbc727ea62c86124ab34e05adef7183dbbeb22e69b70e2c57d5c6d975d8", checked := Try.checked }
namespace Rows
def none {H : Type} : Left H := { results := [], args := [] }

/-- 'marquetrylaw04.SnappyOpens': WHATEVER THE INPUT: true; the input reads as it did. -/
def snappyOpensSpec : ChangeSpec := { name := "snappyOpens", fn := fun _ => fun
  | [d1, d2] => { results := [.lit (.bool true)], args := [d1, d2] }
  | _ => none }
def snappyOpensRow : OpenClaim := { program := "ytkkignjenjdjiaa", sum := "a747adbc727ea62c86124ab34e05adef7183dbbeb22e69b70e2c57d5c6d975d8", func := "marquetry/marquetrylaw04.SnappyOpens", spec := "snappyOpens", unfollowed := true, recurses := true, plainKeys := false, apart := false }
def SnappyOpensSaid : Prop := snappyOpensRow.holds Try.pinned (OpenSpec.ofChange snappyOpensSpec)

/-- ITS FALSE NEIGHBOUR: 'it returns false'. Refute it at one input. -/
def snappyOpensWrong : ChangeSpec := { name := "snappyOpens", fn := fun _ => fun
  | [d1, d2] => { results := [.lit (.bool false)], args := [d1, d2] }
  | _ => none }
def SnappyOpensWrongFalsely : Prop := snappyOpensRow.holds Try.pinned (OpenSpec.ofChange snappyOpensWrong)

/-- 'marquetrylaw04.SnappyLengths': WHATEVER THE INPUT: true; the input reads as it did. -/
def snappyLengthsSpec : ChangeSpec := { name := "snappyLengths", fn := fun _ => fun
  | [d1, d2] => { results := [.lit (.bool true)], args := [d1, d2] }
  | _ => none }
def snappyLengthsRow : OpenClaim := { program := "ytkkignjenjdjiaa", sum := "a747adbc727ea62c86124ab34e05adef7183dbbeb22e69b70e2c57d5c6d975d8", func := "marquetry/marquetrylaw04.SnappyLengths", spec := "snappyLengths", unfollowed := true, recurses := true, plainKeys := false, apart := false }
def SnappyLengthsSaid : Prop := snappyLengthsRow.holds Try.pinned (OpenSpec.ofChange snappyLengthsSpec)

/-- ITS FALSE NEIGHBOUR: 'it returns false'. Refute it at one input. -/
def snappyLengthsWrong : ChangeSpec := { name := "snappyLengths", fn := fun _ => fun
  | [d1, d2] => { results := [.lit (.bool false)], args := [d1, d2] }
  | _ => none }
def SnappyLengthsWrongFalsely : Prop := snappyLengthsRow.holds Try.pinned (OpenSpec.ofChange snappyLengthsWrong)

/-- 'marquetrylaw04.SnappySqueezes': WHATEVER THE INPUT: true; the input reads as it did. -/
def snappySqueezesSpec : ChangeSpec := { name := "snappySqueezes", fn := fun _ => fun
  | [d] => { results := [.lit (.bool true)], args := [d] }
  | _ => none }
def snappySqueezesRow : OpenClaim := { program := "ytkkignjenjdjiaa", sum := "a747adbc727ea62c86124ab34e05adef7183dbbeb22e69b70e2c57d5c6d975d8", func := "marquetry/marquetrylaw04.SnappySqueezes", spec := "snappySqueezes", unfollowed := true, recurses := true, plainKeys := false, apart := false }
def SnappySqueezesSaid : Prop := snappySqueezesRow.holds Try.pinned (OpenSpec.ofChange snappySqueezesSpec)

/-- ITS FALSE NEIGHBOUR: 'it returns false'. Refute it at one input. -/
def snappySqueezesWrong : ChangeSpec := { name := "snappySqueezes", fn := fun _ => fun
  | [d] => { results := [.lit (.bool false)], args := [d] }
  | _ => none }
def SnappySqueezesWrongFalsely : Prop := snappySqueezesRow.holds Try.pinned (OpenSpec.ofChange snappySqueezesWrong)

/-- 'marquetrylaw04.SnappyBounds': WHATEVER THE INPUT: true; the input reads as it did. -/
def snappyBoundsSpec : ChangeSpec := { name := "snappyBounds", fn := fun _ => fun
  | [] => { results := [.lit (.bool true)], args := [] }
  | _ => none }
def snappyBoundsRow : OpenClaim := { program := "ytkkignjenjdjiaa", sum := "a747adbc727ea62c86124ab34e05adef7183dbbeb22e69b70e2c57d5c6d975d8", func := "marquetry/marquetrylaw04.SnappyBounds", spec := "snappyBounds", unfollowed := true, recurses := true, plainKeys := false, apart := false }
def SnappyBoundsSaid : Prop := snappyBoundsRow.holds Try.pinned (OpenSpec.ofChange snappyBoundsSpec)

/-- ITS FALSE NEIGHBOUR: 'it returns false'. Refute it at one input. -/
def snappyBoundsWrong : ChangeSpec := { name := "snappyBounds", fn := fun _ => fun
  | [] => { results := [.lit (.bool false)], args := [] }
  | _ => none }
def SnappyBoundsWrongFalsely : Prop := snappyBoundsRow.holds Try.pinned (OpenSpec.ofChange snappyBoundsWrong)

/-- 'marquetrylaw04.SnappyBack': WHATEVER THE INPUT: true; the input reads as it did. -/
def snappyBackSpec : ChangeSpec := { name := "snappyBack", fn := fun _ => fun
  | [d1, d2] => { results := [.lit (.bool true)], args := [d1, d2] }
  | _ => none }
def snappyBackRow : OpenClaim := { program := "ytkkignjenjdjiaa", sum := "a747adbc727ea62c86124ab34e05adef7183dbbeb22e69b70e2c57d5c6d975d8", func := "marquetry/marquetrylaw04.SnappyBack", spec := "snappyBack", unfollowed := true, recurses := true, plainKeys := false, apart := false }
def SnappyBackSaid : Prop := snappyBackRow.holds Try.pinned (OpenSpec.ofChange snappyBackSpec)

/-- ITS FALSE NEIGHBOUR: 'it returns false'. Refute it at one input. -/
def snappyBackWrong : ChangeSpec := { name := "snappyBack", fn := fun _ => fun
  | [d1, d2] => { results := [.lit (.bool false)], args := [d1, d2] }
  | _ => none }
def SnappyBackWrongFalsely : Prop := snappyBackRow.holds Try.pinned (OpenSpec.ofChange snappyBackWrong)

/-- 'marquetrylaw04.SnappyWhole': WHATEVER THE INPUT: true; the input reads as it did. -/
def snappyWholeSpec : ChangeSpec := { name := "snappyWhole", fn := fun _ => fun
  | [d1, d2] => { results := [.lit (.bool true)], args := [d1, d2] }
  | _ => none }
def snappyWholeRow : OpenClaim := { program := "ytkkignjenjdjiaa", sum := "a747adbc727ea62c86124ab34e05adef7183dbbeb22e69b70e2c57d5c6d975d8", func := "marquetry/marquetrylaw04.SnappyWhole", spec := "snappyWhole", unfollowed := true, recurses := true, plainKeys := false, apart := false }
def SnappyWholeSaid : Prop := snappyWholeRow.holds Try.pinned (OpenSpec.ofChange snappyWholeSpec)

/-- ITS FALSE NEIGHBOUR: 'it returns false'. Refute it at one input. -/
def snappyWholeWrong : ChangeSpec := { name := "snappyWhole", fn := fun _ => fun
  | [d1, d2] => { results := [.lit (.bool false)], args := [d1, d2] }
  | _ => none }
def SnappyWholeWrongFalsely : Prop := snappyWholeRow.holds Try.pinned (OpenSpec.ofChange snappyWholeWrong)

/- THE SECOND FORM. 'bulk': how many values and letters a reading holds, each counted each time it is reached (what is shared counts as often as it is met; a slice's spare places count too). A statement '..UptoSaid' is the law's where the arguments, and the package variables that the reading takes, are together of bulk at most 1048576: NARROWER than '..Said'. Prove '..Said' where nothing that the law and all that it calls make is longer than what came in: it says more and counts as full. Else prove '..UptoSaid'. A law counts once. -/
mutual
def uptoBulk {H : Type} : DataW H → Nat
  | .lit (.string bytes) => bytes.length + 1
  | .lit _ => 1
  | .nil => 1
  | .ptr d => uptoBulk d + 1
  | .slice elems spare => uptoBulkAll elems + uptoBulkAll spare + 1
  | .agg parts => uptoBulkAll parts + 1
  | .iface _ d => uptoBulk d + 1
  | .map entries => uptoBulkEntries entries + 1
  | .held _ => 1
def uptoBulkAll {H : Type} : List (DataW H) → Nat
  | [] => 0
  | d :: r => uptoBulk d + uptoBulkAll r
def uptoBulkEntries {H : Type} : List (Lit × DataW H) → Nat
  | [] => 0
  | x :: r => uptoBulkEntry x + uptoBulkEntries r
def uptoBulkEntry {H : Type} : Lit × DataW H → Nat
  | (.string bytes, d) => bytes.length + uptoBulk d + 1
  | (_, d) => uptoBulk d + 1
 end
def uptoSmall : (H : Type) → List (DataW H) → Bool := fun _ ds => decide (uptoBulkAll ds ≤ 1048576)
def OpenSpec.upto (s : _root_.Go.ChangeSpec) : _root_.Go.OpenSpec := { _root_.Go.OpenSpec.ofChange s with cond := some uptoSmall }

/-- 'marquetrylaw04.SnappyOpens', WHERE WHAT IT READS IS OF BULK AT MOST 1048576: true; the input reads as it did. -/
def snappyOpensUptoRow : OpenClaim := { program := "ytkkignjenjdjiaa", sum := "a747adbc727ea62c86124ab34e05adef7183dbbeb22e69b70e2c57d5c6d975d8", func := "marquetry/marquetrylaw04.SnappyOpens", spec := "snappyOpens", unfollowed := true, recurses := true, plainKeys := false, apart := false, narrowed := true }
def SnappyOpensUptoSaid : Prop := snappyOpensUptoRow.holds Try.pinned (OpenSpec.upto snappyOpensSpec)

/-- 'marquetrylaw04.SnappyLengths', WHERE WHAT IT READS IS OF BULK AT MOST 1048576: true; the input reads as it did. -/
def snappyLengthsUptoRow : OpenClaim := { program := "ytkkignjenjdjiaa", sum := "a747adbc727ea62c86124ab34e05adef7183dbbeb22e69b70e2c57d5c6d975d8", func := "marquetry/marquetrylaw04.SnappyLengths", spec := "snappyLengths", unfollowed := true, recurses := true, plainKeys := false, apart := false, narrowed := true }
def SnappyLengthsUptoSaid : Prop := snappyLengthsUptoRow.holds Try.pinned (OpenSpec.upto snappyLengthsSpec)

/-- 'marquetrylaw04.SnappySqueezes', WHERE WHAT IT READS IS OF BULK AT MOST 1048576: true; the input reads as it did. -/
def snappySqueezesUptoRow : OpenClaim := { program := "ytkkignjenjdjiaa", sum := "a747adbc727ea62c86124ab34e05adef7183dbbeb22e69b70e2c57d5c6d975d8", func := "marquetry/marquetrylaw04.SnappySqueezes", spec := "snappySqueezes", unfollowed := true, recurses := true, plainKeys := false, apart := false, narrowed := true }
def SnappySqueezesUptoSaid : Prop := snappySqueezesUptoRow.holds Try.pinned (OpenSpec.upto snappySqueezesSpec)

/-- 'marquetrylaw04.SnappyBounds', WHERE WHAT IT READS IS OF BULK AT MOST 1048576: true; the input reads as it did. -/
def snappyBoundsUptoRow : OpenClaim := { program := "ytkkignjenjdjiaa", sum := "a747adbc727ea62c86124ab34e05adef7183dbbeb22e69b70e2c57d5c6d975d8", func := "marquetry/marquetrylaw04.SnappyBounds", spec := "snappyBounds", unfollowed := true, recurses := true, plainKeys := false, apart := false, narrowed := true }
def SnappyBoundsUptoSaid : Prop := snappyBoundsUptoRow.holds Try.pinned (OpenSpec.upto snappyBoundsSpec)

/-- 'marquetrylaw04.SnappyBack', WHERE WHAT IT READS IS OF BULK AT MOST 1048576: true; the input reads as it did. -/
def snappyBackUptoRow : OpenClaim := { program := "ytkkignjenjdjiaa", sum := "a747adbc727ea62c86124ab34e05adef7183dbbeb22e69b70e2c57d5c6d975d8", func := "marquetry/marquetrylaw04.SnappyBack", spec := "snappyBack", unfollowed := true, recurses := true, plainKeys := false, apart := false, narrowed := true }
def SnappyBackUptoSaid : Prop := snappyBackUptoRow.holds Try.pinned (OpenSpec.upto snappyBackSpec)

/-- 'marquetrylaw04.SnappyWhole', WHERE WHAT IT READS IS OF BULK AT MOST 1048576: true; the input reads as it did. -/
def snappyWholeUptoRow : OpenClaim := { program := "ytkkignjenjdjiaa", sum := "a747adbc727ea62c86124ab34e05adef7183dbbeb22e69b70e2c57d5c6d975d8", func := "marquetry/marquetrylaw04.SnappyWhole", spec := "snappyWhole", unfollowed := true, recurses := true, plainKeys := false, apart := false, narrowed := true }
def SnappyWholeUptoSaid : Prop := snappyWholeUptoRow.holds Try.pinned (OpenSpec.upto snappyWholeSpec)

end Rows
end Go.Proofs.Ytkkignjenjdjiaa
