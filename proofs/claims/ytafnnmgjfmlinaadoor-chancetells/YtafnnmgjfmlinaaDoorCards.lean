/-
  DERIVED. GIVEN WITH THE SEED: THE CARDS: each row of YtafnnmgjfmlinaaDoorRows.lean that lists a variable, with what it lists TIED to the program's text (the seventh form; the later family's looks); each row that meets fmt, with fmt's text TOLD by the authors' own Lean function (tested against real Go, not proved from fmt's source: count such statements apart). THE CARD IS WHAT COUNTS. Prove the row's statement (the work); the ties are given (YtafnnmgjfmlinaaDoorTie.lean); close each card by the builder's one call (the guide's Derived/Test/ToyasCard.lean, 'card_holds'). Laid BY PROGRAM, IN A SANDBOX (cutbox-door.mjs). By AI agents, Wed Nov 11 2026. No macro, syntax, notation, axiom, sorry.
-/
import Derived.Test.YtafnnmgjfmlinaaDoorRows
import GoSem.ClaimSeven
namespace Go.Proofs.YtafnnmgjfmlinaaDoor
namespace Rows

/-- THE TIED CARD OF 'droplaw1.ChanceTells'. -/
def chanceTellsCard : Claim7 := { stood := { row := chanceTellsRow, standIns := [], harness := (true, "d8b27e530f5f76c576fe2736e2d87aa64b5eaa99a9a8ce49d5d4c46053fa9db3"), looks := true }, kinds := [], alts := [], laidByText := true, laidKinds := [.handle], laidTests := true, laidLooks := .later }
def ChanceTellsCardSaid : Prop := Claim7.holds Tryd.pinned (.plain (OpenSpec.ofChange chanceTellsSpec)) chanceTellsCard

/-- THE SECOND FORM's CARD OF 'droplaw1.ChanceTells'. -/
def chanceTellsUptoCard : Claim7 := { stood := { row := chanceTellsUptoRow, standIns := [], harness := (true, "d8b27e530f5f76c576fe2736e2d87aa64b5eaa99a9a8ce49d5d4c46053fa9db3"), looks := true }, kinds := [], alts := [], laidByText := true, laidKinds := [.handle], laidTests := true, laidLooks := .later }
def ChanceTellsUptoCardSaid : Prop := Claim7.holds Tryd.pinned (.plain (OpenSpec.upto chanceTellsSpec)) chanceTellsUptoCard
end Rows
end Go.Proofs.YtafnnmgjfmlinaaDoor
