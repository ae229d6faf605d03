/-
  DERIVED. GIVEN WITH THE SEED: THE CARDS: each row of YtijbljcpfjlllaaDoorRows.lean that lists a variable, with what it lists TIED to the program's text (the seventh form; the later family's looks); each row that meets fmt, with fmt's text TOLD by the authors' own Lean function (tested against real Go, not proved from fmt's source: count such statements apart). THE CARD IS WHAT COUNTS. Prove the row's statement (the work); the ties are given (YtijbljcpfjlllaaDoorTie.lean); close each card by the builder's one call (the guide's Derived/Test/ToyasCard.lean, 'card_holds'). Laid BY PROGRAM, IN A SANDBOX (cutbox-door.mjs). By AI agents, Wed Nov 11 2026. No macro, syntax, notation, axiom, sorry.
-/
import Derived.Test.YtijbljcpfjlllaaDoorRows
import GoSem.ClaimSeven
namespace Go.Proofs.YtijbljcpfjlllaaDoor
namespace Rows

/-- THE TIED CARD OF 'droplaw1.DropTells'. -/
def dropTellsCard : Claim7 := { stood := { row := dropTellsRow, standIns := [], harness := (true, "ce3765c14e165405c08305fa1e017047192d6e0566227ef2c09fe5c24d9fcf65"), looks := true }, kinds := [], alts := [], laidByText := true, laidKinds := [.handle], laidTests := true, laidLooks := .later }
def DropTellsCardSaid : Prop := Claim7.holds Tryd.pinned (.plain (OpenSpec.ofChange dropTellsSpec)) dropTellsCard

/-- THE SECOND FORM's CARD OF 'droplaw1.DropTells'. -/
def dropTellsUptoCard : Claim7 := { stood := { row := dropTellsUptoRow, standIns := [], harness := (true, "ce3765c14e165405c08305fa1e017047192d6e0566227ef2c09fe5c24d9fcf65"), looks := true }, kinds := [], alts := [], laidByText := true, laidKinds := [.handle], laidTests := true, laidLooks := .later }
def DropTellsUptoCardSaid : Prop := Claim7.holds Tryd.pinned (.plain (OpenSpec.upto dropTellsSpec)) dropTellsUptoCard
end Rows
end Go.Proofs.YtijbljcpfjlllaaDoor
