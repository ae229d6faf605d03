/-
  DERIVED. GIVEN WITH THE SEED: THE CARDS: each row of YtkpfaebhnkkmhaaDoorRows.lean that lists a variable, with what it lists TIED to the program's text (the seventh form; the later family's looks); each row that meets fmt, with fmt's text TOLD by the authors' own Lean function (tested against real Go, not proved from fmt's source: count such statements apart). THE CARD IS WHAT COUNTS. Prove the row's statement (the work); the ties are given (YtkpfaebhnkkmhaaDoorTie.lean); close each card by the builder's one call (the guide's Derived/Test/ToyasCard.lean, 'card_holds'). Laid BY PROGRAM, IN A SANDBOX (cutbox-door.mjs). By AI agents, Wed Nov 11 2026. No macro, syntax, notation, axiom, sorry.
-/
import Derived.Test.YtkpfaebhnkkmhaaDoorRows
import GoSem.ClaimSeven
namespace Go.Proofs.YtkpfaebhnkkmhaaDoor
namespace Rows

/-- THE TIED CARD OF 'droplaw1.DegreeTells'. -/
def degreeTellsCard : Claim7 := { stood := { row := degreeTellsRow, standIns := [], harness := (true, "d958643713b8bffa3163f8c391a7b445d2a36acf1248df9429cbe7ecb1ef12b6"), looks := true }, kinds := [], alts := [], laidByText := true, laidKinds := [.handle], laidTests := true, laidLooks := .later }
def DegreeTellsCardSaid : Prop := Claim7.holds Tryd.pinned (.plain (OpenSpec.ofChange degreeTellsSpec)) degreeTellsCard

/-- THE SECOND FORM's CARD OF 'droplaw1.DegreeTells'. -/
def degreeTellsUptoCard : Claim7 := { stood := { row := degreeTellsUptoRow, standIns := [], harness := (true, "d958643713b8bffa3163f8c391a7b445d2a36acf1248df9429cbe7ecb1ef12b6"), looks := true }, kinds := [], alts := [], laidByText := true, laidKinds := [.handle], laidTests := true, laidLooks := .later }
def DegreeTellsUptoCardSaid : Prop := Claim7.holds Tryd.pinned (.plain (OpenSpec.upto degreeTellsSpec)) degreeTellsUptoCard
end Rows
end Go.Proofs.YtkpfaebhnkkmhaaDoor
