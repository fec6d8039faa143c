/-
  DERIVED. GIVEN WITH THE SEED: THE CARDS: each row of YtakhgjhnljbfiaaDoorRows.lean that lists a variable, with what it lists TIED to the program's text (the seventh form; the later family's looks); each row that meets fmt, with fmt's text TOLD by the authors' own Lean function (tested against real Go, not proved from fmt's source: count such statements apart). THE CARD IS WHAT COUNTS. Prove the row's statement (the work); the ties are given (YtakhgjhnljbfiaaDoorTie.lean); close each card by the builder's one call (the guide's Derived/Test/ToyasCard.lean, 'card_holds'). Laid BY PROGRAM, IN A SANDBOX (cutbox-door.mjs). By AI agents, Wed Nov 11 2026. No macro, syntax, notation, axiom, sorry.
-/
import Derived.Test.YtakhgjhnljbfiaaDoorRows
import GoSem.ClaimSeven
namespace Go.Proofs.YtakhgjhnljbfiaaDoor
namespace Rows

/-- THE TIED CARD OF 'dulcimerlaw23.DtextPrints'. -/
def dtextPrintsCard : Claim7 := { stood := { row := dtextPrintsRow, standIns := [], harness := (true, "7fd3a08ccc8b00b5f103d0a1d21c546fd9849d63dbe070d7ff58a626c64e4287"), looks := false }, kinds := [], alts := [], laidByText := true, laidKinds := [.data, .data, .data], laidTests := true, laidLooks := .later }
def DtextPrintsCardSaid : Prop := Claim7.holds Tryd.pinned (.plain (OpenSpec.ofChange dtextPrintsSpec)) dtextPrintsCard

/-- THE TIED CARD OF 'dulcimerlaw23.DtextReads'. -/
def dtextReadsCard : Claim7 := { stood := { row := dtextReadsRow, standIns := [], harness := (true, "7fd3a08ccc8b00b5f103d0a1d21c546fd9849d63dbe070d7ff58a626c64e4287"), looks := false }, kinds := [], alts := [], laidByText := true, laidKinds := [.data, .data, .data], laidTests := true, laidLooks := .later }
def DtextReadsCardSaid : Prop := Claim7.holds Tryd.pinned (.plain (OpenSpec.ofChange dtextReadsSpec)) dtextReadsCard

/-- THE TIED CARD OF 'dulcimerlaw24.EntryReads'. -/
def entryReadsCard : Claim7 := { stood := { row := entryReadsRow, standIns := [], harness := (true, "7fd3a08ccc8b00b5f103d0a1d21c546fd9849d63dbe070d7ff58a626c64e4287"), looks := false }, kinds := [], alts := [], laidByText := true, laidKinds := [.data, .data, .data, .data, .pinned], laidTests := true, laidLooks := .later }
def EntryReadsCardSaid : Prop := Claim7.holds Tryd.pinned (.plain (OpenSpec.ofChange entryReadsSpec)) entryReadsCard

/-- THE TIED CARD OF 'dulcimerlaw24.EntrySorts'. -/
def entrySortsCard : Claim7 := { stood := { row := entrySortsRow, standIns := [], harness := (true, "7fd3a08ccc8b00b5f103d0a1d21c546fd9849d63dbe070d7ff58a626c64e4287"), looks := false }, kinds := [], alts := [], laidByText := true, laidKinds := [.data, .data, .data], laidTests := true, laidLooks := .later }
def EntrySortsCardSaid : Prop := Claim7.holds Tryd.pinned (.plain (OpenSpec.ofChange entrySortsSpec)) entrySortsCard

/-- THE SECOND FORM's CARD OF 'dulcimerlaw23.DtextPrints'. -/
def dtextPrintsUptoCard : Claim7 := { stood := { row := dtextPrintsUptoRow, standIns := [], harness := (true, "7fd3a08ccc8b00b5f103d0a1d21c546fd9849d63dbe070d7ff58a626c64e4287"), looks := false }, kinds := [], alts := [], laidByText := true, laidKinds := [.data, .data, .data], laidTests := true, laidLooks := .later }
def DtextPrintsUptoCardSaid : Prop := Claim7.holds Tryd.pinned (.plain (OpenSpec.upto dtextPrintsSpec)) dtextPrintsUptoCard

/-- THE SECOND FORM's CARD OF 'dulcimerlaw23.DtextReads'. -/
def dtextReadsUptoCard : Claim7 := { stood := { row := dtextReadsUptoRow, standIns := [], harness := (true, "7fd3a08ccc8b00b5f103d0a1d21c546fd9849d63dbe070d7ff58a626c64e4287"), looks := false }, kinds := [], alts := [], laidByText := true, laidKinds := [.data, .data, .data], laidTests := true, laidLooks := .later }
def DtextReadsUptoCardSaid : Prop := Claim7.holds Tryd.pinned (.plain (OpenSpec.upto dtextReadsSpec)) dtextReadsUptoCard

/-- THE SECOND FORM's CARD OF 'dulcimerlaw24.EntryReads'. -/
def entryReadsUptoCard : Claim7 := { stood := { row := entryReadsUptoRow, standIns := [], harness := (true, "7fd3a08ccc8b00b5f103d0a1d21c546fd9849d63dbe070d7ff58a626c64e4287"), looks := false }, kinds := [], alts := [], laidByText := true, laidKinds := [.data, .data, .data, .data, .pinned], laidTests := true, laidLooks := .later }
def EntryReadsUptoCardSaid : Prop := Claim7.holds Tryd.pinned (.plain (OpenSpec.upto entryReadsSpec)) entryReadsUptoCard

/-- THE SECOND FORM's CARD OF 'dulcimerlaw24.EntrySorts'. -/
def entrySortsUptoCard : Claim7 := { stood := { row := entrySortsUptoRow, standIns := [], harness := (true, "7fd3a08ccc8b00b5f103d0a1d21c546fd9849d63dbe070d7ff58a626c64e4287"), looks := false }, kinds := [], alts := [], laidByText := true, laidKinds := [.data, .data, .data], laidTests := true, laidLooks := .later }
def EntrySortsUptoCardSaid : Prop := Claim7.holds Tryd.pinned (.plain (OpenSpec.upto entrySortsSpec)) entrySortsUptoCard
end Rows
end Go.Proofs.YtakhgjhnljbfiaaDoor
