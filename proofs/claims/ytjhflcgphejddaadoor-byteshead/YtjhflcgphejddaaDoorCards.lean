/-
  DERIVED. GIVEN WITH THE SEED: THE CARDS: each row of YtjhflcgphejddaaDoorRows.lean that lists a variable, with what it lists TIED to the program's text (the seventh form; the later family's looks); each row that meets fmt, with fmt's text TOLD by the authors' own Lean function (tested against real Go, not proved from fmt's source: count such statements apart). THE CARD IS WHAT COUNTS. Prove the row's statement (the work); the ties are given (YtjhflcgphejddaaDoorTie.lean); close each card by the builder's one call (the guide's Derived/Test/ToyasCard.lean, 'card_holds'). Laid BY PROGRAM, IN A SANDBOX (cutbox-door.mjs). By AI agents, Wed Nov 11 2026. No macro, syntax, notation, axiom, sorry.
-/
import Derived.Test.YtjhflcgphejddaaDoorRows
import GoSem.ClaimSeven
namespace Go.Proofs.YtjhflcgphejddaaDoor
namespace Rows

/-- THE TIED CARD OF 'droplaw3.BytesTell'. -/
def bytesTellCard : Claim7 := { stood := { row := bytesTellRow, standIns := [], harness := (true, "b5e2fd6897f56472704f12ab101d41437678912a87002397d071ed8f7e142c10"), looks := true }, kinds := [], alts := [], laidByText := true, laidKinds := [.handle], laidTests := true, laidLooks := .later }
def BytesTellCardSaid : Prop := Claim7.holds Tryd.pinned (.plain (OpenSpec.ofChange bytesTellSpec)) bytesTellCard

/-- THE TIED CARD OF 'droplaw3.BytesBack'. -/
def bytesBackCard : Claim7 := { stood := { row := bytesBackRow, standIns := [], harness := (true, "b5e2fd6897f56472704f12ab101d41437678912a87002397d071ed8f7e142c10"), looks := true }, kinds := [], alts := [], laidByText := true, laidKinds := [.handle], laidTests := true, laidLooks := .later }
def BytesBackCardSaid : Prop := Claim7.holds Tryd.pinned (.plain (OpenSpec.ofChange bytesBackSpec)) bytesBackCard

/-- THE TIED CARD OF 'droplaw4.BytesHead'. -/
def bytesHeadCard : Claim7 := { stood := { row := bytesHeadRow, standIns := [], harness := (true, "b5e2fd6897f56472704f12ab101d41437678912a87002397d071ed8f7e142c10"), looks := true }, kinds := [], alts := [], laidByText := true, laidKinds := [.handle], laidTests := true, laidLooks := .later }
def BytesHeadCardSaid : Prop := Claim7.holds Tryd.pinned (.plain (OpenSpec.ofChange bytesHeadSpec)) bytesHeadCard

/-- THE SECOND FORM's CARD OF 'droplaw3.BytesTell'. -/
def bytesTellUptoCard : Claim7 := { stood := { row := bytesTellUptoRow, standIns := [], harness := (true, "b5e2fd6897f56472704f12ab101d41437678912a87002397d071ed8f7e142c10"), looks := true }, kinds := [], alts := [], laidByText := true, laidKinds := [.handle], laidTests := true, laidLooks := .later }
def BytesTellUptoCardSaid : Prop := Claim7.holds Tryd.pinned (.plain (OpenSpec.upto bytesTellSpec)) bytesTellUptoCard

/-- THE SECOND FORM's CARD OF 'droplaw3.BytesBack'. -/
def bytesBackUptoCard : Claim7 := { stood := { row := bytesBackUptoRow, standIns := [], harness := (true, "b5e2fd6897f56472704f12ab101d41437678912a87002397d071ed8f7e142c10"), looks := true }, kinds := [], alts := [], laidByText := true, laidKinds := [.handle], laidTests := true, laidLooks := .later }
def BytesBackUptoCardSaid : Prop := Claim7.holds Tryd.pinned (.plain (OpenSpec.upto bytesBackSpec)) bytesBackUptoCard

/-- THE SECOND FORM's CARD OF 'droplaw4.BytesHead'. -/
def bytesHeadUptoCard : Claim7 := { stood := { row := bytesHeadUptoRow, standIns := [], harness := (true, "b5e2fd6897f56472704f12ab101d41437678912a87002397d071ed8f7e142c10"), looks := true }, kinds := [], alts := [], laidByText := true, laidKinds := [.handle], laidTests := true, laidLooks := .later }
def BytesHeadUptoCardSaid : Prop := Claim7.holds Tryd.pinned (.plain (OpenSpec.upto bytesHeadSpec)) bytesHeadUptoCard
end Rows
end Go.Proofs.YtjhflcgphejddaaDoor
