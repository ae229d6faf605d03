/-
  DERIVED. GIVEN WITH THE SEED: THE CARDS: each row of YtldjbampimbaeaaGreatDoorRows.lean that lists a variable, with what it lists TIED to the program's text (the seventh form; the later family's looks); each row that meets fmt, with fmt's text TOLD by the authors' own Lean function (tested against real Go, not proved from fmt's source: count such statements apart). THE CARD IS WHAT COUNTS. Prove the row's statement (the work); the ties are given (YtldjbampimbaeaaGreatDoorTie.lean); close each card by the builder's one call (the guide's Derived/Test/ToyasCard.lean, 'card_holds'). Laid BY PROGRAM, IN A SANDBOX (cutbox-door.mjs). By AI agents, Wed Nov 11 2026. No macro, syntax, notation, axiom, sorry.
-/
import Derived.Test.YtldjbampimbaeaaGreatDoorRows
import GoSem.ClaimSeven
namespace Go.Proofs.YtldjbampimbaeaaGreatDoor
namespace Rows

/-- THE TIED CARD OF 'droplaw1.SolveAll'. -/
def solveAllCard : Claim7 := { stood := { row := solveAllRow, standIns := [], harness := (true, "a3397ba63540e0556e6dc58828f3c6664ca8562058b2e9f210fd3eb16431f298"), looks := true }, kinds := [], alts := [], laidByText := true, laidKinds := [.handle], laidTests := true, laidLooks := .later }
def SolveAllCardSaid : Prop := Claim7.holds Tryz.pinned (.plain (OpenSpec.ofChange solveAllSpec)) solveAllCard

/-- THE SECOND FORM's CARD OF 'droplaw1.SolveAll'. -/
def solveAllUptoCard : Claim7 := { stood := { row := solveAllUptoRow, standIns := [], harness := (true, "a3397ba63540e0556e6dc58828f3c6664ca8562058b2e9f210fd3eb16431f298"), looks := true }, kinds := [], alts := [], laidByText := true, laidKinds := [.handle], laidTests := true, laidLooks := .later }
def SolveAllUptoCardSaid : Prop := Claim7.holds Tryz.pinned (.plain (OpenSpec.upto solveAllSpec)) solveAllUptoCard
end Rows
end Go.Proofs.YtldjbampimbaeaaGreatDoor
