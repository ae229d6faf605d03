/-
  DERIVED. GIVEN WITH THE SEED: THE CARDS: each row of YtjoklnalkehegaaDoorRows.lean that lists a variable, with what it lists TIED to the program's text (the seventh form; the later family's looks); each row that meets fmt, with fmt's text TOLD by the authors' own Lean function (tested against real Go, not proved from fmt's source: count such statements apart). THE CARD IS WHAT COUNTS. Prove the row's statement (the work); the ties are given (YtjoklnalkehegaaDoorTie.lean); close each card by the builder's one call (the guide's Derived/Test/ToyasCard.lean, 'card_holds'). Laid BY PROGRAM, IN A SANDBOX (cutbox-door.mjs). By AI agents, Wed Nov 11 2026. No macro, syntax, notation, axiom, sorry.
-/
import Derived.Test.YtjoklnalkehegaaDoorRows
import GoSem.ClaimSeven
namespace Go.Proofs.YtjoklnalkehegaaDoor
namespace Rows

/-- THE TIED CARD OF 'droplaw4.AirFull'. -/
def airFullCard : Claim7 := { stood := { row := airFullRow, standIns := [], harness := (true, "4a7214dcdeeb9c610ef55be525971c8aef4272ae1df9632901a6de993be14074"), looks := true }, kinds := [], alts := [], laidByText := true, laidKinds := [.handle], laidTests := true, laidLooks := .later }
def AirFullCardSaid : Prop := Claim7.holds Tryd.pinned (.plain (OpenSpec.ofChange airFullSpec)) airFullCard

/-- THE TIED CARD OF 'droplaw2.AirPlays'. -/
def airPlaysCard : Claim7 := { stood := { row := airPlaysRow, standIns := [], harness := (true, "4a7214dcdeeb9c610ef55be525971c8aef4272ae1df9632901a6de993be14074"), looks := true }, kinds := [], alts := [], laidByText := true, laidKinds := [.handle], laidTests := true, laidLooks := .later }
def AirPlaysCardSaid : Prop := Claim7.holds Tryd.pinned (.plain (OpenSpec.ofChange airPlaysSpec)) airPlaysCard

/-- THE SECOND FORM's CARD OF 'droplaw4.AirFull'. -/
def airFullUptoCard : Claim7 := { stood := { row := airFullUptoRow, standIns := [], harness := (true, "4a7214dcdeeb9c610ef55be525971c8aef4272ae1df9632901a6de993be14074"), looks := true }, kinds := [], alts := [], laidByText := true, laidKinds := [.handle], laidTests := true, laidLooks := .later }
def AirFullUptoCardSaid : Prop := Claim7.holds Tryd.pinned (.plain (OpenSpec.upto airFullSpec)) airFullUptoCard

/-- THE SECOND FORM's CARD OF 'droplaw2.AirPlays'. -/
def airPlaysUptoCard : Claim7 := { stood := { row := airPlaysUptoRow, standIns := [], harness := (true, "4a7214dcdeeb9c610ef55be525971c8aef4272ae1df9632901a6de993be14074"), looks := true }, kinds := [], alts := [], laidByText := true, laidKinds := [.handle], laidTests := true, laidLooks := .later }
def AirPlaysUptoCardSaid : Prop := Claim7.holds Tryd.pinned (.plain (OpenSpec.upto airPlaysSpec)) airPlaysUptoCard
end Rows
end Go.Proofs.YtjoklnalkehegaaDoor
