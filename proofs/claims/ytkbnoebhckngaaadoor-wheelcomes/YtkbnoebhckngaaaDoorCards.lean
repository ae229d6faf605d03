/-
  DERIVED. GIVEN WITH THE SEED: THE CARDS: each row of YtkbnoebhckngaaaDoorRows.lean that lists a variable, with what it lists TIED to the program's text (the seventh form; the later family's looks); each row that meets fmt, with fmt's text TOLD by the authors' own Lean function (tested against real Go, not proved from fmt's source: count such statements apart). THE CARD IS WHAT COUNTS. Prove the row's statement (the work); the ties are given (YtkbnoebhckngaaaDoorTie.lean); close each card by the builder's one call (the guide's Derived/Test/ToyasCard.lean, 'card_holds'). Laid BY PROGRAM, IN A SANDBOX (cutbox-door.mjs). By AI agents, Wed Nov 11 2026. No macro, syntax, notation, axiom, sorry.
-/
import Derived.Test.YtkbnoebhckngaaaDoorRows
import GoSem.ClaimSeven
namespace Go.Proofs.YtkbnoebhckngaaaDoor
namespace Rows

/-- THE TIED CARD OF 'droplaw1.WheelTells'. -/
def wheelTellsCard : Claim7 := { stood := { row := wheelTellsRow, standIns := [], harness := (true, "e4aa557fa482194fbbf6b5e518ced75ee2a61b36342d48e5409cb361f7980556"), looks := true }, kinds := [], alts := [], laidByText := true, laidKinds := [.handle], laidTests := true, laidLooks := .later }
def WheelTellsCardSaid : Prop := Claim7.holds Tryd.pinned (.plain (OpenSpec.ofChange wheelTellsSpec)) wheelTellsCard

/-- THE TIED CARD OF 'droplaw1.WheelComes'. -/
def wheelComesCard : Claim7 := { stood := { row := wheelComesRow, standIns := [], harness := (true, "e4aa557fa482194fbbf6b5e518ced75ee2a61b36342d48e5409cb361f7980556"), looks := true }, kinds := [], alts := [], laidByText := true, laidKinds := [.handle], laidTests := true, laidLooks := .later }
def WheelComesCardSaid : Prop := Claim7.holds Tryd.pinned (.plain (OpenSpec.ofChange wheelComesSpec)) wheelComesCard

/-- THE SECOND FORM's CARD OF 'droplaw1.WheelTells'. -/
def wheelTellsUptoCard : Claim7 := { stood := { row := wheelTellsUptoRow, standIns := [], harness := (true, "e4aa557fa482194fbbf6b5e518ced75ee2a61b36342d48e5409cb361f7980556"), looks := true }, kinds := [], alts := [], laidByText := true, laidKinds := [.handle], laidTests := true, laidLooks := .later }
def WheelTellsUptoCardSaid : Prop := Claim7.holds Tryd.pinned (.plain (OpenSpec.upto wheelTellsSpec)) wheelTellsUptoCard

/-- THE SECOND FORM's CARD OF 'droplaw1.WheelComes'. -/
def wheelComesUptoCard : Claim7 := { stood := { row := wheelComesUptoRow, standIns := [], harness := (true, "e4aa557fa482194fbbf6b5e518ced75ee2a61b36342d48e5409cb361f7980556"), looks := true }, kinds := [], alts := [], laidByText := true, laidKinds := [.handle], laidTests := true, laidLooks := .later }
def WheelComesUptoCardSaid : Prop := Claim7.holds Tryd.pinned (.plain (OpenSpec.upto wheelComesSpec)) wheelComesUptoCard
end Rows
end Go.Proofs.YtkbnoebhckngaaaDoor
