/-
  DERIVED. GIVEN WITH THE SEED: THE CARDS: each row of YtjncjfefploneabDoorRows.lean that lists a variable, with what it lists TIED to the program's text (the seventh form; the later family's looks); each row that meets fmt, with fmt's text TOLD by the authors' own Lean function (tested against real Go, not proved from fmt's source: count such statements apart). THE CARD IS WHAT COUNTS. Prove the row's statement (the work); the ties are given (YtjncjfefploneabDoorTie.lean); close each card by the builder's one call (the guide's Derived/Test/ToyasCard.lean, 'card_holds'). Laid BY PROGRAM, IN A SANDBOX (cutbox-door.mjs). By AI agents, Wed Nov 11 2026. No macro, syntax, notation, axiom, sorry.
-/
import Derived.Test.YtjncjfefploneabDoorRows
import GoSem.ClaimSeven
namespace Go.Proofs.YtjncjfefploneabDoor
namespace Rows

/-- THE TIED CARD OF 'marquetrylaw02.SumsTurned'. -/
def sumsTurnedCard : Claim7 := { stood := { row := sumsTurnedRow, standIns := [], harness := (true, "edc9914f423699a57d0aeab4b648228d536fea42f4a1dd0a9500a1aa8a959e98"), looks := false }, kinds := [], alts := [], laidByText := true, laidKinds := [.data], laidTests := true, laidLooks := .later }
def SumsTurnedCardSaid : Prop := Claim7.holds Tryd.pinned (.plain (OpenSpec.ofChange sumsTurnedSpec)) sumsTurnedCard

/-- THE SECOND FORM's CARD OF 'marquetrylaw02.SumsTurned'. -/
def sumsTurnedUptoCard : Claim7 := { stood := { row := sumsTurnedUptoRow, standIns := [], harness := (true, "edc9914f423699a57d0aeab4b648228d536fea42f4a1dd0a9500a1aa8a959e98"), looks := false }, kinds := [], alts := [], laidByText := true, laidKinds := [.data], laidTests := true, laidLooks := .later }
def SumsTurnedUptoCardSaid : Prop := Claim7.holds Tryd.pinned (.plain (OpenSpec.upto sumsTurnedSpec)) sumsTurnedUptoCard
end Rows
end Go.Proofs.YtjncjfefploneabDoor
