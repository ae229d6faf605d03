/-
  DERIVED. GIVEN WITH THE SEED: THE CARDS: each row of YtakaeikobahaoaaDoorRows.lean that lists a variable, with what it lists TIED to the program's text (the seventh form; the later family's looks); each row that meets fmt, with fmt's text TOLD by the authors' own Lean function (tested against real Go, not proved from fmt's source: count such statements apart). THE CARD IS WHAT COUNTS. Prove the row's statement (the work); the ties are given (YtakaeikobahaoaaDoorTie.lean); close each card by the builder's one call (the guide's Derived/Test/ToyasCard.lean, 'card_holds'). Laid BY PROGRAM, IN A SANDBOX (cutbox-door.mjs). By AI agents, Wed Nov 11 2026. No macro, syntax, notation, axiom, sorry.
-/
import Derived.Test.YtakaeikobahaoaaDoorRows
import GoSem.ClaimSeven
namespace Go.Proofs.YtakaeikobahaoaaDoor
namespace Rows

/-- THE TIED CARD OF 'droplaw1.NeedTells'. -/
def needTellsCard : Claim7 := { stood := { row := needTellsRow, standIns := [], harness := (true, "3c9298d368639275d5d42db9543ccd6d37bc731317b6a22c19a5ff1937b8360f"), looks := true }, kinds := [], alts := [], laidByText := true, laidKinds := [.handle], laidTests := true, laidLooks := .later }
def NeedTellsCardSaid : Prop := Claim7.holds Tryd.pinned (.plain (OpenSpec.ofChange needTellsSpec)) needTellsCard

/-- THE TIED CARD OF 'droplaw4.NeedNone'. -/
def needNoneCard : Claim7 := { stood := { row := needNoneRow, standIns := [], harness := (true, "3c9298d368639275d5d42db9543ccd6d37bc731317b6a22c19a5ff1937b8360f"), looks := true }, kinds := [], alts := [], laidByText := true, laidKinds := [.handle], laidTests := true, laidLooks := .later }
def NeedNoneCardSaid : Prop := Claim7.holds Tryd.pinned (.plain (OpenSpec.ofChange needNoneSpec)) needNoneCard

/-- THE SECOND FORM's CARD OF 'droplaw1.NeedTells'. -/
def needTellsUptoCard : Claim7 := { stood := { row := needTellsUptoRow, standIns := [], harness := (true, "3c9298d368639275d5d42db9543ccd6d37bc731317b6a22c19a5ff1937b8360f"), looks := true }, kinds := [], alts := [], laidByText := true, laidKinds := [.handle], laidTests := true, laidLooks := .later }
def NeedTellsUptoCardSaid : Prop := Claim7.holds Tryd.pinned (.plain (OpenSpec.upto needTellsSpec)) needTellsUptoCard

/-- THE SECOND FORM's CARD OF 'droplaw4.NeedNone'. -/
def needNoneUptoCard : Claim7 := { stood := { row := needNoneUptoRow, standIns := [], harness := (true, "3c9298d368639275d5d42db9543ccd6d37bc731317b6a22c19a5ff1937b8360f"), looks := true }, kinds := [], alts := [], laidByText := true, laidKinds := [.handle], laidTests := true, laidLooks := .later }
def NeedNoneUptoCardSaid : Prop := Claim7.holds Tryd.pinned (.plain (OpenSpec.upto needNoneSpec)) needNoneUptoCard
end Rows
end Go.Proofs.YtakaeikobahaoaaDoor
