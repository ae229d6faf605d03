/-
  DERIVED. GIVEN WITH THE SEED: THE CARDS: each row of YtcicoblejaippaaDoorRows.lean that lists a variable, with what it lists TIED to the program's text (the seventh form; the later family's looks); each row that meets fmt, with fmt's text TOLD by the authors' own Lean function (tested against real Go, not proved from fmt's source: count such statements apart). THE CARD IS WHAT COUNTS. Prove the row's statement (the work); the ties are given (YtcicoblejaippaaDoorTie.lean); close each card by the builder's one call (the guide's Derived/Test/ToyasCard.lean, 'card_holds'). Laid BY PROGRAM, IN A SANDBOX (cutbox-door.mjs). By AI agents, Wed Nov 11 2026. No macro, syntax, notation, axiom, sorry.
-/
import Derived.Test.YtcicoblejaippaaDoorRows
import GoSem.ClaimSeven
namespace Go.Proofs.YtcicoblejaippaaDoor
namespace Rows

/-- THE TIED CARD OF 'droplaw2.MovedTells'. -/
def movedTellsCard : Claim7 := { stood := { row := movedTellsRow, standIns := [], harness := (true, "8243a0e47a73f8f8ea9b4c64fb95940458eaaa4a91d68b6dd858c514c38ddb50"), looks := true }, kinds := [], alts := [], laidByText := true, laidKinds := [.handle], laidTests := true, laidLooks := .later }
def MovedTellsCardSaid : Prop := Claim7.holds Tryd.pinned (.plain (OpenSpec.ofChange movedTellsSpec)) movedTellsCard

/-- THE TIED CARD OF 'droplaw4.MovedStill'. -/
def movedStillCard : Claim7 := { stood := { row := movedStillRow, standIns := [], harness := (true, "8243a0e47a73f8f8ea9b4c64fb95940458eaaa4a91d68b6dd858c514c38ddb50"), looks := true }, kinds := [], alts := [], laidByText := true, laidKinds := [.handle], laidTests := true, laidLooks := .later }
def MovedStillCardSaid : Prop := Claim7.holds Tryd.pinned (.plain (OpenSpec.ofChange movedStillSpec)) movedStillCard

/-- THE SECOND FORM's CARD OF 'droplaw2.MovedTells'. -/
def movedTellsUptoCard : Claim7 := { stood := { row := movedTellsUptoRow, standIns := [], harness := (true, "8243a0e47a73f8f8ea9b4c64fb95940458eaaa4a91d68b6dd858c514c38ddb50"), looks := true }, kinds := [], alts := [], laidByText := true, laidKinds := [.handle], laidTests := true, laidLooks := .later }
def MovedTellsUptoCardSaid : Prop := Claim7.holds Tryd.pinned (.plain (OpenSpec.upto movedTellsSpec)) movedTellsUptoCard

/-- THE SECOND FORM's CARD OF 'droplaw4.MovedStill'. -/
def movedStillUptoCard : Claim7 := { stood := { row := movedStillUptoRow, standIns := [], harness := (true, "8243a0e47a73f8f8ea9b4c64fb95940458eaaa4a91d68b6dd858c514c38ddb50"), looks := true }, kinds := [], alts := [], laidByText := true, laidKinds := [.handle], laidTests := true, laidLooks := .later }
def MovedStillUptoCardSaid : Prop := Claim7.holds Tryd.pinned (.plain (OpenSpec.upto movedStillSpec)) movedStillUptoCard
end Rows
end Go.Proofs.YtcicoblejaippaaDoor
