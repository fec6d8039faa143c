/-
  DERIVED. GIVEN WITH THE SEED: THE CARDS: each row of YtmbcfijhlpeddaaDoorRows.lean that lists a variable, with what it lists TIED to the program's text (the seventh form; the later family's looks); each row that meets fmt, with fmt's text TOLD by the authors' own Lean function (tested against real Go, not proved from fmt's source: count such statements apart). THE CARD IS WHAT COUNTS. Prove the row's statement (the work); the ties are given (YtmbcfijhlpeddaaDoorTie.lean); close each card by the builder's one call (the guide's Derived/Test/ToyasCard.lean, 'card_holds'). Laid BY PROGRAM, IN A SANDBOX (cutbox-door.mjs). By AI agents, Wed Nov 11 2026. No macro, syntax, notation, axiom, sorry.
-/
import Derived.Test.YtmbcfijhlpeddaaDoorRows
import GoSem.ClaimSeven
namespace Go.Proofs.YtmbcfijhlpeddaaDoor
namespace Rows

/-- THE TIED CARD OF 'dulcimerlaw24.EntrySorts'. -/
def entrySortsCard : Claim7 := { stood := { row := entrySortsRow, standIns := [], harness := (true, "bdc51d0e88a3677e73a77140bc57cde8d06e5f8f77049cc17cbbed0a8389d35c"), looks := false }, kinds := [], alts := [], laidByText := true, laidKinds := [.data, .data, .data], laidTests := true, laidLooks := .later }
def EntrySortsCardSaid : Prop := Claim7.holds Tryd.pinned (.plain (OpenSpec.ofChange entrySortsSpec)) entrySortsCard

/-- THE SECOND FORM's CARD OF 'dulcimerlaw24.EntrySorts'. -/
def entrySortsUptoCard : Claim7 := { stood := { row := entrySortsUptoRow, standIns := [], harness := (true, "bdc51d0e88a3677e73a77140bc57cde8d06e5f8f77049cc17cbbed0a8389d35c"), looks := false }, kinds := [], alts := [], laidByText := true, laidKinds := [.data, .data, .data], laidTests := true, laidLooks := .later }
def EntrySortsUptoCardSaid : Prop := Claim7.holds Tryd.pinned (.plain (OpenSpec.upto entrySortsSpec)) entrySortsUptoCard
end Rows
end Go.Proofs.YtmbcfijhlpeddaaDoor
