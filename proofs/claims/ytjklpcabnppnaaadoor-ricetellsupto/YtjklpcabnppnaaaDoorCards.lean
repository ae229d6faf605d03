/-
  DERIVED. GIVEN WITH THE SEED: THE CARDS: each row of YtjklpcabnppnaaaDoorRows.lean that lists a variable, with what it lists TIED to the program's text (the seventh form; the later family's looks); each row that meets fmt, with fmt's text TOLD by the authors' own Lean function (tested against real Go, not proved from fmt's source: count such statements apart). THE CARD IS WHAT COUNTS. Prove the row's statement (the work); the ties are given (YtjklpcabnppnaaaDoorTie.lean); close each card by the builder's one call (the guide's Derived/Test/ToyasCard.lean, 'card_holds'). Laid BY PROGRAM, IN A SANDBOX (cutbox-door.mjs). By AI agents, Wed Nov 11 2026. No macro, syntax, notation, axiom, sorry.
-/
import Derived.Test.YtjklpcabnppnaaaDoorRows
import GoSem.ClaimSeven
namespace Go.Proofs.YtjklpcabnppnaaaDoor
namespace Rows

/-- THE TIED CARD OF 'droplaw2.RiceTells'. -/
def riceTellsCard : Claim7 := { stood := { row := riceTellsRow, standIns := [], harness := (true, "113da0f352917a6fd184b852e5db688210dc5bb5db5669482a2dfd99cf9fe126"), looks := true }, kinds := [], alts := [], laidByText := true, laidKinds := [.handle], laidTests := true, laidLooks := .later }
def RiceTellsCardSaid : Prop := Claim7.holds Tryd.pinned (.plain (OpenSpec.ofChange riceTellsSpec)) riceTellsCard

/-- THE TIED CARD OF 'droplaw2.RiceBack'. -/
def riceBackCard : Claim7 := { stood := { row := riceBackRow, standIns := [], harness := (true, "113da0f352917a6fd184b852e5db688210dc5bb5db5669482a2dfd99cf9fe126"), looks := true }, kinds := [], alts := [], laidByText := true, laidKinds := [.handle], laidTests := true, laidLooks := .later }
def RiceBackCardSaid : Prop := Claim7.holds Tryd.pinned (.plain (OpenSpec.ofChange riceBackSpec)) riceBackCard

/-- THE SECOND FORM's CARD OF 'droplaw2.RiceTells'. -/
def riceTellsUptoCard : Claim7 := { stood := { row := riceTellsUptoRow, standIns := [], harness := (true, "113da0f352917a6fd184b852e5db688210dc5bb5db5669482a2dfd99cf9fe126"), looks := true }, kinds := [], alts := [], laidByText := true, laidKinds := [.handle], laidTests := true, laidLooks := .later }
def RiceTellsUptoCardSaid : Prop := Claim7.holds Tryd.pinned (.plain (OpenSpec.upto riceTellsSpec)) riceTellsUptoCard

/-- THE SECOND FORM's CARD OF 'droplaw2.RiceBack'. -/
def riceBackUptoCard : Claim7 := { stood := { row := riceBackUptoRow, standIns := [], harness := (true, "113da0f352917a6fd184b852e5db688210dc5bb5db5669482a2dfd99cf9fe126"), looks := true }, kinds := [], alts := [], laidByText := true, laidKinds := [.handle], laidTests := true, laidLooks := .later }
def RiceBackUptoCardSaid : Prop := Claim7.holds Tryd.pinned (.plain (OpenSpec.upto riceBackSpec)) riceBackUptoCard
end Rows
end Go.Proofs.YtjklpcabnppnaaaDoor
