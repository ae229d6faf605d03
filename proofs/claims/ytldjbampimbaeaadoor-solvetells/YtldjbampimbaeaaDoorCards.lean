/-
  DERIVED. GIVEN WITH THE SEED: THE CARDS: each row of YtldjbampimbaeaaDoorRows.lean that lists a variable, with what it lists TIED to the program's text (the seventh form; the later family's looks); each row that meets fmt, with fmt's text TOLD by the authors' own Lean function (tested against real Go, not proved from fmt's source: count such statements apart). THE CARD IS WHAT COUNTS. Prove the row's statement (the work); the ties are given (YtldjbampimbaeaaDoorTie.lean); close each card by the builder's one call (the guide's Derived/Test/ToyasCard.lean, 'card_holds'). Laid BY PROGRAM, IN A SANDBOX (cutbox-door.mjs). By AI agents, Wed Nov 11 2026. No macro, syntax, notation, axiom, sorry.
-/
import Derived.Test.YtldjbampimbaeaaDoorRows
import GoSem.ClaimSeven
namespace Go.Proofs.YtldjbampimbaeaaDoor
namespace Rows

/-- THE TIED CARD OF 'droplaw1.SolveTells'. -/
def solveTellsCard : Claim7 := { stood := { row := solveTellsRow, standIns := [], harness := (true, "be9b441a9697c947fcc724aca9460bf1264965fef7bbe27124a637c95e96b0e3"), looks := true }, kinds := [], alts := [], laidByText := true, laidKinds := [.handle], laidTests := true, laidLooks := .later }
def SolveTellsCardSaid : Prop := Claim7.holds Tryd.pinned (.plain (OpenSpec.ofChange solveTellsSpec)) solveTellsCard

/-- THE TIED CARD OF 'droplaw4.SolveBent'. -/
def solveBentCard : Claim7 := { stood := { row := solveBentRow, standIns := [], harness := (true, "be9b441a9697c947fcc724aca9460bf1264965fef7bbe27124a637c95e96b0e3"), looks := true }, kinds := [], alts := [], laidByText := true, laidKinds := [.handle], laidTests := true, laidLooks := .later }
def SolveBentCardSaid : Prop := Claim7.holds Tryd.pinned (.plain (OpenSpec.ofChange solveBentSpec)) solveBentCard

/-- THE SECOND FORM's CARD OF 'droplaw1.SolveTells'. -/
def solveTellsUptoCard : Claim7 := { stood := { row := solveTellsUptoRow, standIns := [], harness := (true, "be9b441a9697c947fcc724aca9460bf1264965fef7bbe27124a637c95e96b0e3"), looks := true }, kinds := [], alts := [], laidByText := true, laidKinds := [.handle], laidTests := true, laidLooks := .later }
def SolveTellsUptoCardSaid : Prop := Claim7.holds Tryd.pinned (.plain (OpenSpec.upto solveTellsSpec)) solveTellsUptoCard

/-- THE SECOND FORM's CARD OF 'droplaw4.SolveBent'. -/
def solveBentUptoCard : Claim7 := { stood := { row := solveBentUptoRow, standIns := [], harness := (true, "be9b441a9697c947fcc724aca9460bf1264965fef7bbe27124a637c95e96b0e3"), looks := true }, kinds := [], alts := [], laidByText := true, laidKinds := [.handle], laidTests := true, laidLooks := .later }
def SolveBentUptoCardSaid : Prop := Claim7.holds Tryd.pinned (.plain (OpenSpec.upto solveBentSpec)) solveBentUptoCard
end Rows
end Go.Proofs.YtldjbampimbaeaaDoor
