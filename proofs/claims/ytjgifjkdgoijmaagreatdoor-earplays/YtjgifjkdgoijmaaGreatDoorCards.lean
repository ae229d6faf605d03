/-
  DERIVED. GIVEN WITH THE SEED: THE CARDS: each row of YtjgifjkdgoijmaaGreatDoorRows.lean that lists a variable, with what it lists TIED to the program's text (the seventh form; the later family's looks); each row that meets fmt, with fmt's text TOLD by the authors' own Lean function (tested against real Go, not proved from fmt's source: count such statements apart). THE CARD IS WHAT COUNTS. Prove the row's statement (the work); the ties are given (YtjgifjkdgoijmaaGreatDoorTie.lean); close each card by the builder's one call (the guide's Derived/Test/ToyasCard.lean, 'card_holds'). Laid BY PROGRAM, IN A SANDBOX (cutbox-door.mjs). By AI agents, Wed Nov 11 2026. No macro, syntax, notation, axiom, sorry.
-/
import Derived.Test.YtjgifjkdgoijmaaGreatDoorRows
import GoSem.ClaimSeven
namespace Go.Proofs.YtjgifjkdgoijmaaGreatDoor
namespace Rows

/-- THE TIED CARD OF 'droplaw2.EarHears'. -/
def earHearsCard : Claim7 := { stood := { row := earHearsRow, standIns := [], harness := (true, "1df2143114353ef23582951e2b630cb08800b1c9b8289581dbdcbbd3ec6c8a19"), looks := true }, kinds := [], alts := [], laidByText := true, laidKinds := [.handle], laidTests := true, laidLooks := .later }
def EarHearsCardSaid : Prop := Claim7.holds Tryz.pinned (.plain (OpenSpec.ofChange earHearsSpec)) earHearsCard

/-- THE TIED CARD OF 'droplaw2.EarPlays'. -/
def earPlaysCard : Claim7 := { stood := { row := earPlaysRow, standIns := [], harness := (true, "1df2143114353ef23582951e2b630cb08800b1c9b8289581dbdcbbd3ec6c8a19"), looks := true }, kinds := [], alts := [], laidByText := true, laidKinds := [.handle], laidTests := true, laidLooks := .later }
def EarPlaysCardSaid : Prop := Claim7.holds Tryz.pinned (.plain (OpenSpec.ofChange earPlaysSpec)) earPlaysCard

/-- THE SECOND FORM's CARD OF 'droplaw2.EarHears'. -/
def earHearsUptoCard : Claim7 := { stood := { row := earHearsUptoRow, standIns := [], harness := (true, "1df2143114353ef23582951e2b630cb08800b1c9b8289581dbdcbbd3ec6c8a19"), looks := true }, kinds := [], alts := [], laidByText := true, laidKinds := [.handle], laidTests := true, laidLooks := .later }
def EarHearsUptoCardSaid : Prop := Claim7.holds Tryz.pinned (.plain (OpenSpec.upto earHearsSpec)) earHearsUptoCard

/-- THE SECOND FORM's CARD OF 'droplaw2.EarPlays'. -/
def earPlaysUptoCard : Claim7 := { stood := { row := earPlaysUptoRow, standIns := [], harness := (true, "1df2143114353ef23582951e2b630cb08800b1c9b8289581dbdcbbd3ec6c8a19"), looks := true }, kinds := [], alts := [], laidByText := true, laidKinds := [.handle], laidTests := true, laidLooks := .later }
def EarPlaysUptoCardSaid : Prop := Claim7.holds Tryz.pinned (.plain (OpenSpec.upto earPlaysSpec)) earPlaysUptoCard
end Rows
end Go.Proofs.YtjgifjkdgoijmaaGreatDoor
