/-
  DERIVED. GIVEN WITH THE SEED: THE CARDS: each row of YtfgcngjggdjcjaaDoorRows.lean that lists a variable, with what it lists TIED to the program's text (the seventh form; the later family's looks); each row that meets fmt, with fmt's text TOLD by the authors' own Lean function (tested against real Go, not proved from fmt's source: count such statements apart). THE CARD IS WHAT COUNTS. Prove the row's statement (the work); the ties are given (YtfgcngjggdjcjaaDoorTie.lean); close each card by the builder's one call (the guide's Derived/Test/ToyasCard.lean, 'card_holds'). Laid BY PROGRAM, IN A SANDBOX (cutbox-door.mjs). By AI agents, Wed Nov 11 2026. No macro, syntax, notation, axiom, sorry.
-/
import Derived.Test.YtfgcngjggdjcjaaDoorRows
import GoSem.ClaimSeven
namespace Go.Proofs.YtfgcngjggdjcjaaDoor
namespace Rows

/-- THE TIED CARD OF 'droplaw2.FilmTells'. -/
def filmTellsCard : Claim7 := { stood := { row := filmTellsRow, standIns := [], harness := (true, "e645beb6af7d0842569e7c2ee29c722e86ea35692a7d05dbc3adf173dd26ffa4"), looks := true }, kinds := [], alts := [], laidByText := true, laidKinds := [.handle], laidTests := true, laidLooks := .later }
def FilmTellsCardSaid : Prop := Claim7.holds Tryd.pinned (.plain (OpenSpec.ofChange filmTellsSpec)) filmTellsCard

/-- THE TIED CARD OF 'droplaw4.FilmStill'. -/
def filmStillCard : Claim7 := { stood := { row := filmStillRow, standIns := [], harness := (true, "e645beb6af7d0842569e7c2ee29c722e86ea35692a7d05dbc3adf173dd26ffa4"), looks := true }, kinds := [], alts := [], laidByText := true, laidKinds := [.handle], laidTests := true, laidLooks := .later }
def FilmStillCardSaid : Prop := Claim7.holds Tryd.pinned (.plain (OpenSpec.ofChange filmStillSpec)) filmStillCard

/-- THE SECOND FORM's CARD OF 'droplaw2.FilmTells'. -/
def filmTellsUptoCard : Claim7 := { stood := { row := filmTellsUptoRow, standIns := [], harness := (true, "e645beb6af7d0842569e7c2ee29c722e86ea35692a7d05dbc3adf173dd26ffa4"), looks := true }, kinds := [], alts := [], laidByText := true, laidKinds := [.handle], laidTests := true, laidLooks := .later }
def FilmTellsUptoCardSaid : Prop := Claim7.holds Tryd.pinned (.plain (OpenSpec.upto filmTellsSpec)) filmTellsUptoCard

/-- THE SECOND FORM's CARD OF 'droplaw4.FilmStill'. -/
def filmStillUptoCard : Claim7 := { stood := { row := filmStillUptoRow, standIns := [], harness := (true, "e645beb6af7d0842569e7c2ee29c722e86ea35692a7d05dbc3adf173dd26ffa4"), looks := true }, kinds := [], alts := [], laidByText := true, laidKinds := [.handle], laidTests := true, laidLooks := .later }
def FilmStillUptoCardSaid : Prop := Claim7.holds Tryd.pinned (.plain (OpenSpec.upto filmStillSpec)) filmStillUptoCard
end Rows
end Go.Proofs.YtfgcngjggdjcjaaDoor
