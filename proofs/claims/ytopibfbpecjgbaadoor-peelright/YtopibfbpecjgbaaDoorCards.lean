/-
  DERIVED. GIVEN WITH THE SEED: THE CARDS: each row of YtopibfbpecjgbaaDoorRows.lean that lists a variable, with what it lists TIED to the program's text (the seventh form; the later family's looks); each row that meets fmt, with fmt's text TOLD by the authors' own Lean function (tested against real Go, not proved from fmt's source: count such statements apart). THE CARD IS WHAT COUNTS. Prove the row's statement (the work); the ties are given (YtopibfbpecjgbaaDoorTie.lean); close each card by the builder's one call (the guide's Derived/Test/ToyasCard.lean, 'card_holds'). Laid BY PROGRAM, IN A SANDBOX (cutbox-door.mjs). By AI agents, Wed Nov 11 2026. No macro, syntax, notation, axiom, sorry.
-/
import Derived.Test.YtopibfbpecjgbaaDoorRows
import GoSem.ClaimSeven
namespace Go.Proofs.YtopibfbpecjgbaaDoor
namespace Rows

/-- THE TIED CARD OF 'droplaw1.PeelRight'. -/
def peelRightCard : Claim7 := { stood := { row := peelRightRow, standIns := [], harness := (true, "af2eb15da1581b5569d0cb16867364190247d60def874b6e9247806a8c30efb0"), looks := true }, kinds := [], alts := [], laidByText := true, laidKinds := [.handle], laidTests := true, laidLooks := .later }
def PeelRightCardSaid : Prop := Claim7.holds Tryd.pinned (.plain (OpenSpec.ofChange peelRightSpec)) peelRightCard

/-- THE TIED CARD OF 'droplaw4.PeelAll'. -/
def peelAllCard : Claim7 := { stood := { row := peelAllRow, standIns := [], harness := (true, "af2eb15da1581b5569d0cb16867364190247d60def874b6e9247806a8c30efb0"), looks := true }, kinds := [], alts := [], laidByText := true, laidKinds := [.handle], laidTests := true, laidLooks := .later }
def PeelAllCardSaid : Prop := Claim7.holds Tryd.pinned (.plain (OpenSpec.ofChange peelAllSpec)) peelAllCard

/-- THE TIED CARD OF 'droplaw1.PeelPlays'. -/
def peelPlaysCard : Claim7 := { stood := { row := peelPlaysRow, standIns := [], harness := (true, "af2eb15da1581b5569d0cb16867364190247d60def874b6e9247806a8c30efb0"), looks := true }, kinds := [], alts := [], laidByText := true, laidKinds := [.handle], laidTests := true, laidLooks := .later }
def PeelPlaysCardSaid : Prop := Claim7.holds Tryd.pinned (.plain (OpenSpec.ofChange peelPlaysSpec)) peelPlaysCard

/-- THE SECOND FORM's CARD OF 'droplaw1.PeelRight'. -/
def peelRightUptoCard : Claim7 := { stood := { row := peelRightUptoRow, standIns := [], harness := (true, "af2eb15da1581b5569d0cb16867364190247d60def874b6e9247806a8c30efb0"), looks := true }, kinds := [], alts := [], laidByText := true, laidKinds := [.handle], laidTests := true, laidLooks := .later }
def PeelRightUptoCardSaid : Prop := Claim7.holds Tryd.pinned (.plain (OpenSpec.upto peelRightSpec)) peelRightUptoCard

/-- THE SECOND FORM's CARD OF 'droplaw4.PeelAll'. -/
def peelAllUptoCard : Claim7 := { stood := { row := peelAllUptoRow, standIns := [], harness := (true, "af2eb15da1581b5569d0cb16867364190247d60def874b6e9247806a8c30efb0"), looks := true }, kinds := [], alts := [], laidByText := true, laidKinds := [.handle], laidTests := true, laidLooks := .later }
def PeelAllUptoCardSaid : Prop := Claim7.holds Tryd.pinned (.plain (OpenSpec.upto peelAllSpec)) peelAllUptoCard

/-- THE SECOND FORM's CARD OF 'droplaw1.PeelPlays'. -/
def peelPlaysUptoCard : Claim7 := { stood := { row := peelPlaysUptoRow, standIns := [], harness := (true, "af2eb15da1581b5569d0cb16867364190247d60def874b6e9247806a8c30efb0"), looks := true }, kinds := [], alts := [], laidByText := true, laidKinds := [.handle], laidTests := true, laidLooks := .later }
def PeelPlaysUptoCardSaid : Prop := Claim7.holds Tryd.pinned (.plain (OpenSpec.upto peelPlaysSpec)) peelPlaysUptoCard
end Rows
end Go.Proofs.YtopibfbpecjgbaaDoor
