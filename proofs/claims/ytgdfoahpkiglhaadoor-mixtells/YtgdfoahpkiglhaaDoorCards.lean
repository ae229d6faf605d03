/-
  DERIVED. GIVEN WITH THE SEED: THE CARDS: each row of YtgdfoahpkiglhaaDoorRows.lean that lists a variable, with what it lists TIED to the program's text (the seventh form; the later family's looks); each row that meets fmt, with fmt's text TOLD by the authors' own Lean function (tested against real Go, not proved from fmt's source: count such statements apart). THE CARD IS WHAT COUNTS. Prove the row's statement (the work); the ties are given (YtgdfoahpkiglhaaDoorTie.lean); close each card by the builder's one call (the guide's Derived/Test/ToyasCard.lean, 'card_holds'). Laid BY PROGRAM, IN A SANDBOX (cutbox-door.mjs). By AI agents, Wed Nov 11 2026. No macro, syntax, notation, axiom, sorry.
-/
import Derived.Test.YtgdfoahpkiglhaaDoorRows
import GoSem.ClaimSeven
namespace Go.Proofs.YtgdfoahpkiglhaaDoor
namespace Rows

/-- THE TIED CARD OF 'droplaw1.BlocksTell'. -/
def blocksTellCard : Claim7 := { stood := { row := blocksTellRow, standIns := [], harness := (true, "ff2c13380b7a7f7e2385348470c78a423bfd212ed4d8097120a81b46c605a567"), looks := true }, kinds := [], alts := [], laidByText := true, laidKinds := [.handle], laidTests := true, laidLooks := .later }
def BlocksTellCardSaid : Prop := Claim7.holds Tryd.pinned (.plain (OpenSpec.ofChange blocksTellSpec)) blocksTellCard

/-- THE TIED CARD OF 'droplaw4.BlocksMany'. -/
def blocksManyCard : Claim7 := { stood := { row := blocksManyRow, standIns := [], harness := (true, "ff2c13380b7a7f7e2385348470c78a423bfd212ed4d8097120a81b46c605a567"), looks := true }, kinds := [], alts := [], laidByText := true, laidKinds := [.handle], laidTests := true, laidLooks := .later }
def BlocksManyCardSaid : Prop := Claim7.holds Tryd.pinned (.plain (OpenSpec.ofChange blocksManySpec)) blocksManyCard

/-- THE TIED CARD OF 'droplaw1.MixTells'. -/
def mixTellsCard : Claim7 := { stood := { row := mixTellsRow, standIns := [], harness := (true, "ff2c13380b7a7f7e2385348470c78a423bfd212ed4d8097120a81b46c605a567"), looks := true }, kinds := [], alts := [], laidByText := true, laidKinds := [.handle], laidTests := true, laidLooks := .later }
def MixTellsCardSaid : Prop := Claim7.holds Tryd.pinned (.plain (OpenSpec.ofChange mixTellsSpec)) mixTellsCard

/-- THE SECOND FORM's CARD OF 'droplaw1.BlocksTell'. -/
def blocksTellUptoCard : Claim7 := { stood := { row := blocksTellUptoRow, standIns := [], harness := (true, "ff2c13380b7a7f7e2385348470c78a423bfd212ed4d8097120a81b46c605a567"), looks := true }, kinds := [], alts := [], laidByText := true, laidKinds := [.handle], laidTests := true, laidLooks := .later }
def BlocksTellUptoCardSaid : Prop := Claim7.holds Tryd.pinned (.plain (OpenSpec.upto blocksTellSpec)) blocksTellUptoCard

/-- THE SECOND FORM's CARD OF 'droplaw4.BlocksMany'. -/
def blocksManyUptoCard : Claim7 := { stood := { row := blocksManyUptoRow, standIns := [], harness := (true, "ff2c13380b7a7f7e2385348470c78a423bfd212ed4d8097120a81b46c605a567"), looks := true }, kinds := [], alts := [], laidByText := true, laidKinds := [.handle], laidTests := true, laidLooks := .later }
def BlocksManyUptoCardSaid : Prop := Claim7.holds Tryd.pinned (.plain (OpenSpec.upto blocksManySpec)) blocksManyUptoCard

/-- THE SECOND FORM's CARD OF 'droplaw1.MixTells'. -/
def mixTellsUptoCard : Claim7 := { stood := { row := mixTellsUptoRow, standIns := [], harness := (true, "ff2c13380b7a7f7e2385348470c78a423bfd212ed4d8097120a81b46c605a567"), looks := true }, kinds := [], alts := [], laidByText := true, laidKinds := [.handle], laidTests := true, laidLooks := .later }
def MixTellsUptoCardSaid : Prop := Claim7.holds Tryd.pinned (.plain (OpenSpec.upto mixTellsSpec)) mixTellsUptoCard
end Rows
end Go.Proofs.YtgdfoahpkiglhaaDoor
