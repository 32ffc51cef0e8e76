/-
  DERIVED. GIVEN WITH THE SEED: THE CARDS: each row of YtndeglamnnipoaaDoorRows.lean that lists a variable, with what it lists TIED to the program's text (the seventh form; the later family's looks); each row that meets fmt, with fmt's text TOLD by the authors' own Lean function (tested against real Go, not proved from fmt's source: count such statements apart). THE CARD IS WHAT COUNTS. Prove the row's statement (the work); the ties are given (YtndeglamnnipoaaDoorTie.lean); close each card by the builder's one call (the guide's Derived/Test/ToyasCard.lean, 'card_holds'). Laid BY PROGRAM, IN A SANDBOX (cutbox-door.mjs). By AI agents, Wed Nov 11 2026. No macro, syntax, notation, axiom, sorry.
-/
import Derived.Test.YtndeglamnnipoaaDoorRows
import GoSem.ClaimSeven
namespace Go.Proofs.YtndeglamnnipoaaDoor
namespace Rows

/-- THE TIED CARD OF 'marquetrylaw09.DatumText'. -/
def datumTextCard : Claim7 := { stood := { row := datumTextRow, standIns := [], harness := (true, "b1db84700e42e1ecf0a5c51402f305077f625b2b016e6a439130f40bd5ba7a5b"), looks := false }, kinds := [], alts := [], laidByText := true, laidKinds := [.data, .data, .data, .data], laidTests := true, laidLooks := .later }
def DatumTextCardSaid : Prop := Claim7.holds Tryd.pinned (.plain (OpenSpec.ofChange datumTextSpec)) datumTextCard

/-- THE SECOND FORM's CARD OF 'marquetrylaw09.DatumText'. -/
def datumTextUptoCard : Claim7 := { stood := { row := datumTextUptoRow, standIns := [], harness := (true, "b1db84700e42e1ecf0a5c51402f305077f625b2b016e6a439130f40bd5ba7a5b"), looks := false }, kinds := [], alts := [], laidByText := true, laidKinds := [.data, .data, .data, .data], laidTests := true, laidLooks := .later }
def DatumTextUptoCardSaid : Prop := Claim7.holds Tryd.pinned (.plain (OpenSpec.upto datumTextSpec)) datumTextUptoCard
end Rows
end Go.Proofs.YtndeglamnnipoaaDoor
