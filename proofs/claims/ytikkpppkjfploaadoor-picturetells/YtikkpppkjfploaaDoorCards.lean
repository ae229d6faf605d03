/-
  DERIVED. GIVEN WITH THE SEED: THE CARDS: each row of YtikkpppkjfploaaDoorRows.lean that lists a variable, with what it lists TIED to the program's text (the seventh form; the later family's looks); each row that meets fmt, with fmt's text TOLD by the authors' own Lean function (tested against real Go, not proved from fmt's source: count such statements apart). THE CARD IS WHAT COUNTS. Prove the row's statement (the work); the ties are given (YtikkpppkjfploaaDoorTie.lean); close each card by the builder's one call (the guide's Derived/Test/ToyasCard.lean, 'card_holds'). Laid BY PROGRAM, IN A SANDBOX (cutbox-door.mjs). By AI agents, Wed Nov 11 2026. No macro, syntax, notation, axiom, sorry.
-/
import Derived.Test.YtikkpppkjfploaaDoorRows
import GoSem.ClaimSeven
namespace Go.Proofs.YtikkpppkjfploaaDoor
namespace Rows

/-- THE TIED CARD OF 'droplaw2.PictureTells'. -/
def pictureTellsCard : Claim7 := { stood := { row := pictureTellsRow, standIns := [], harness := (true, "06a4e3ac27cd5da60722d6f5e2cf90e76c60c498c543eb6a7e91229e96f07e10"), looks := true }, kinds := [], alts := [], laidByText := true, laidKinds := [.handle], laidTests := true, laidLooks := .later }
def PictureTellsCardSaid : Prop := Claim7.holds Tryd.pinned (.plain (OpenSpec.ofChange pictureTellsSpec)) pictureTellsCard

/-- THE SECOND FORM's CARD OF 'droplaw2.PictureTells'. -/
def pictureTellsUptoCard : Claim7 := { stood := { row := pictureTellsUptoRow, standIns := [], harness := (true, "06a4e3ac27cd5da60722d6f5e2cf90e76c60c498c543eb6a7e91229e96f07e10"), looks := true }, kinds := [], alts := [], laidByText := true, laidKinds := [.handle], laidTests := true, laidLooks := .later }
def PictureTellsUptoCardSaid : Prop := Claim7.holds Tryd.pinned (.plain (OpenSpec.upto pictureTellsSpec)) pictureTellsUptoCard
end Rows
end Go.Proofs.YtikkpppkjfploaaDoor
