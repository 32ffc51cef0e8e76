/-
  DERIVED. GIVEN WITH THE SEED: THE CARDS: each row of YtjncjfefploneaaDoorRows.lean that lists a variable, with what it lists TIED to the program's text (the seventh form; the later family's looks); each row that meets fmt, with fmt's text TOLD by the authors' own Lean function (tested against real Go, not proved from fmt's source: count such statements apart). THE CARD IS WHAT COUNTS. Prove the row's statement (the work); the ties are given (YtjncjfefploneaaDoorTie.lean); close each card by the builder's one call (the guide's Derived/Test/ToyasCard.lean, 'card_holds'). Laid BY PROGRAM, IN A SANDBOX (cutbox-door.mjs). By AI agents, Wed Nov 11 2026. No macro, syntax, notation, axiom, sorry.
-/
import Derived.Test.YtjncjfefploneaaDoorRows
import GoSem.ClaimSeven
namespace Go.Proofs.YtjncjfefploneaaDoor
namespace Rows

/-- THE TIED CARD OF 'marquetrylaw02.SumsCrc'. -/
def sumsCrcCard : Claim7 := { stood := { row := sumsCrcRow, standIns := [], harness := (true, "8ca91c6f4a492acbc63ee087cf3bd273d339706e3e0dbeaa56dc68a67d6b70f2"), looks := false }, kinds := [], alts := [], laidByText := true, laidKinds := [.data], laidTests := true, laidLooks := .later }
def SumsCrcCardSaid : Prop := Claim7.holds Tryd.pinned (.plain (OpenSpec.ofChange sumsCrcSpec)) sumsCrcCard

/-- THE TIED CARD OF 'marquetrylaw02.SumsUpdate'. -/
def sumsUpdateCard : Claim7 := { stood := { row := sumsUpdateRow, standIns := [], harness := (true, "8ca91c6f4a492acbc63ee087cf3bd273d339706e3e0dbeaa56dc68a67d6b70f2"), looks := false }, kinds := [], alts := [], laidByText := true, laidKinds := [.data], laidTests := true, laidLooks := .later }
def SumsUpdateCardSaid : Prop := Claim7.holds Tryd.pinned (.plain (OpenSpec.ofChange sumsUpdateSpec)) sumsUpdateCard

/-- THE TIED CARD OF 'marquetrylaw02.SumsTexts'. -/
def sumsTextsCard : Claim7 := { stood := { row := sumsTextsRow, standIns := [], harness := (true, "8ca91c6f4a492acbc63ee087cf3bd273d339706e3e0dbeaa56dc68a67d6b70f2"), looks := false }, kinds := [], alts := [], laidByText := true, laidKinds := [.data], laidTests := true, laidLooks := .later }
def SumsTextsCardSaid : Prop := Claim7.holds Tryd.pinned (.plain (OpenSpec.ofChange sumsTextsSpec)) sumsTextsCard

/-- THE TIED CARD OF 'marquetrylaw02.SumsOf'. -/
def sumsOfCard : Claim7 := { stood := { row := sumsOfRow, standIns := [], harness := (true, "8ca91c6f4a492acbc63ee087cf3bd273d339706e3e0dbeaa56dc68a67d6b70f2"), looks := false }, kinds := [], alts := [], laidByText := true, laidKinds := [.data], laidTests := true, laidLooks := .later }
def SumsOfCardSaid : Prop := Claim7.holds Tryd.pinned (.plain (OpenSpec.ofChange sumsOfSpec)) sumsOfCard

/-- THE TIED CARD OF 'marquetrylaw02.SumsJoin'. -/
def sumsJoinCard : Claim7 := { stood := { row := sumsJoinRow, standIns := [], harness := (true, "8ca91c6f4a492acbc63ee087cf3bd273d339706e3e0dbeaa56dc68a67d6b70f2"), looks := false }, kinds := [], alts := [], laidByText := true, laidKinds := [.data], laidTests := true, laidLooks := .later }
def SumsJoinCardSaid : Prop := Claim7.holds Tryd.pinned (.plain (OpenSpec.ofChange sumsJoinSpec)) sumsJoinCard

/-- THE TIED CARD OF 'marquetrylaw02.SumsRest'. -/
def sumsRestCard : Claim7 := { stood := { row := sumsRestRow, standIns := [], harness := (true, "8ca91c6f4a492acbc63ee087cf3bd273d339706e3e0dbeaa56dc68a67d6b70f2"), looks := false }, kinds := [], alts := [], laidByText := true, laidKinds := [.data], laidTests := true, laidLooks := .later }
def SumsRestCardSaid : Prop := Claim7.holds Tryd.pinned (.plain (OpenSpec.ofChange sumsRestSpec)) sumsRestCard

/-- THE SECOND FORM's CARD OF 'marquetrylaw02.SumsCrc'. -/
def sumsCrcUptoCard : Claim7 := { stood := { row := sumsCrcUptoRow, standIns := [], harness := (true, "8ca91c6f4a492acbc63ee087cf3bd273d339706e3e0dbeaa56dc68a67d6b70f2"), looks := false }, kinds := [], alts := [], laidByText := true, laidKinds := [.data], laidTests := true, laidLooks := .later }
def SumsCrcUptoCardSaid : Prop := Claim7.holds Tryd.pinned (.plain (OpenSpec.upto sumsCrcSpec)) sumsCrcUptoCard

/-- THE SECOND FORM's CARD OF 'marquetrylaw02.SumsUpdate'. -/
def sumsUpdateUptoCard : Claim7 := { stood := { row := sumsUpdateUptoRow, standIns := [], harness := (true, "8ca91c6f4a492acbc63ee087cf3bd273d339706e3e0dbeaa56dc68a67d6b70f2"), looks := false }, kinds := [], alts := [], laidByText := true, laidKinds := [.data], laidTests := true, laidLooks := .later }
def SumsUpdateUptoCardSaid : Prop := Claim7.holds Tryd.pinned (.plain (OpenSpec.upto sumsUpdateSpec)) sumsUpdateUptoCard

/-- THE SECOND FORM's CARD OF 'marquetrylaw02.SumsTexts'. -/
def sumsTextsUptoCard : Claim7 := { stood := { row := sumsTextsUptoRow, standIns := [], harness := (true, "8ca91c6f4a492acbc63ee087cf3bd273d339706e3e0dbeaa56dc68a67d6b70f2"), looks := false }, kinds := [], alts := [], laidByText := true, laidKinds := [.data], laidTests := true, laidLooks := .later }
def SumsTextsUptoCardSaid : Prop := Claim7.holds Tryd.pinned (.plain (OpenSpec.upto sumsTextsSpec)) sumsTextsUptoCard

/-- THE SECOND FORM's CARD OF 'marquetrylaw02.SumsOf'. -/
def sumsOfUptoCard : Claim7 := { stood := { row := sumsOfUptoRow, standIns := [], harness := (true, "8ca91c6f4a492acbc63ee087cf3bd273d339706e3e0dbeaa56dc68a67d6b70f2"), looks := false }, kinds := [], alts := [], laidByText := true, laidKinds := [.data], laidTests := true, laidLooks := .later }
def SumsOfUptoCardSaid : Prop := Claim7.holds Tryd.pinned (.plain (OpenSpec.upto sumsOfSpec)) sumsOfUptoCard

/-- THE SECOND FORM's CARD OF 'marquetrylaw02.SumsJoin'. -/
def sumsJoinUptoCard : Claim7 := { stood := { row := sumsJoinUptoRow, standIns := [], harness := (true, "8ca91c6f4a492acbc63ee087cf3bd273d339706e3e0dbeaa56dc68a67d6b70f2"), looks := false }, kinds := [], alts := [], laidByText := true, laidKinds := [.data], laidTests := true, laidLooks := .later }
def SumsJoinUptoCardSaid : Prop := Claim7.holds Tryd.pinned (.plain (OpenSpec.upto sumsJoinSpec)) sumsJoinUptoCard

/-- THE SECOND FORM's CARD OF 'marquetrylaw02.SumsRest'. -/
def sumsRestUptoCard : Claim7 := { stood := { row := sumsRestUptoRow, standIns := [], harness := (true, "8ca91c6f4a492acbc63ee087cf3bd273d339706e3e0dbeaa56dc68a67d6b70f2"), looks := false }, kinds := [], alts := [], laidByText := true, laidKinds := [.data], laidTests := true, laidLooks := .later }
def SumsRestUptoCardSaid : Prop := Claim7.holds Tryd.pinned (.plain (OpenSpec.upto sumsRestSpec)) sumsRestUptoCard
end Rows
end Go.Proofs.YtjncjfefploneaaDoor
