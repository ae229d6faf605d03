/-
  DERIVED. GIVEN WITH THE SEED: THE CARDS: each row of YtnhmkahfmdmmdaaDoorRows.lean that lists a variable, with what it lists TIED to the program's text (the seventh form; the later family's looks); each row that meets fmt, with fmt's text TOLD by the authors' own Lean function (tested against real Go, not proved from fmt's source: count such statements apart). THE CARD IS WHAT COUNTS. Prove the row's statement (the work); the ties are given (YtnhmkahfmdmmdaaDoorTie.lean); close each card by the builder's one call (the guide's Derived/Test/ToyasCard.lean, 'card_holds'). Laid BY PROGRAM, IN A SANDBOX (cutbox-door.mjs). By AI agents, Wed Nov 11 2026. No macro, syntax, notation, axiom, sorry.
-/
import Derived.Test.YtnhmkahfmdmmdaaDoorRows
import GoSem.ClaimSeven
namespace Go.Proofs.YtnhmkahfmdmmdaaDoor
namespace Rows

/-- THE TIED CARD OF 'droplaw1.BlocksTell'. -/
def blocksTellCard : Claim7 := { stood := { row := blocksTellRow, standIns := [], harness := (true, "e3bac7022a7119a0bc4ac5d96aa74b0fee8d1f8cb6ddfe42732c1d3b842b1b44"), looks := true }, kinds := [], alts := [], laidByText := true, laidKinds := [.handle], laidTests := true, laidLooks := .later }
def BlocksTellCardSaid : Prop := Claim7.holds Tryd.pinned (.plain (OpenSpec.ofChange blocksTellSpec)) blocksTellCard

/-- THE TIED CARD OF 'droplaw4.BlocksMany'. -/
def blocksManyCard : Claim7 := { stood := { row := blocksManyRow, standIns := [], harness := (true, "e3bac7022a7119a0bc4ac5d96aa74b0fee8d1f8cb6ddfe42732c1d3b842b1b44"), looks := true }, kinds := [], alts := [], laidByText := true, laidKinds := [.handle], laidTests := true, laidLooks := .later }
def BlocksManyCardSaid : Prop := Claim7.holds Tryd.pinned (.plain (OpenSpec.ofChange blocksManySpec)) blocksManyCard

/-- THE SECOND FORM's CARD OF 'droplaw1.BlocksTell'. -/
def blocksTellUptoCard : Claim7 := { stood := { row := blocksTellUptoRow, standIns := [], harness := (true, "e3bac7022a7119a0bc4ac5d96aa74b0fee8d1f8cb6ddfe42732c1d3b842b1b44"), looks := true }, kinds := [], alts := [], laidByText := true, laidKinds := [.handle], laidTests := true, laidLooks := .later }
def BlocksTellUptoCardSaid : Prop := Claim7.holds Tryd.pinned (.plain (OpenSpec.upto blocksTellSpec)) blocksTellUptoCard

/-- THE SECOND FORM's CARD OF 'droplaw4.BlocksMany'. -/
def blocksManyUptoCard : Claim7 := { stood := { row := blocksManyUptoRow, standIns := [], harness := (true, "e3bac7022a7119a0bc4ac5d96aa74b0fee8d1f8cb6ddfe42732c1d3b842b1b44"), looks := true }, kinds := [], alts := [], laidByText := true, laidKinds := [.handle], laidTests := true, laidLooks := .later }
def BlocksManyUptoCardSaid : Prop := Claim7.holds Tryd.pinned (.plain (OpenSpec.upto blocksManySpec)) blocksManyUptoCard
end Rows
end Go.Proofs.YtnhmkahfmdmmdaaDoor
