/-
  DERIVED. GIVEN WITH THE SEED: THE CARDS: each row of YtoejflnlkapkiaaDoorRows.lean that lists a variable, with what it lists TIED to the program's text (the seventh form; the later family's looks); each row that meets fmt, with fmt's text TOLD by the authors' own Lean function (tested against real Go, not proved from fmt's source: count such statements apart). THE CARD IS WHAT COUNTS. Prove the row's statement (the work); the ties are given (YtoejflnlkapkiaaDoorTie.lean); close each card by the builder's one call (the guide's Derived/Test/ToyasCard.lean, 'card_holds'). Laid BY PROGRAM, IN A SANDBOX (cutbox-door.mjs). By AI agents, Wed Nov 11 2026. No macro, syntax, notation, axiom, sorry.
-/
import Derived.Test.YtoejflnlkapkiaaDoorRows
import GoSem.ClaimSeven
namespace Go.Proofs.YtoejflnlkapkiaaDoor
namespace Rows

/-- THE TIED CARD OF 'dulcimerlaw42.ScriptPrints'. -/
def scriptPrintsCard : Claim7 := { stood := { row := scriptPrintsRow, standIns := [], harness := (true, "3bff0a01bff2c84adc60753afc248ff462e0266b15a0d30f275f95f4259b1bd3"), looks := true }, kinds := [], alts := [], laidByText := true, laidKinds := [.data, .data, .data, .data, .sentinel, .sentinel, .pinned], laidTests := true, laidLooks := .later }
def ScriptPrintsCardSaid : Prop := Claim7.holds Tryd.pinned (.plain (OpenSpec.ofChange scriptPrintsSpec)) scriptPrintsCard

/-- THE TIED CARD OF 'dulcimerlaw42.ScriptReads'. -/
def scriptReadsCard : Claim7 := { stood := { row := scriptReadsRow, standIns := [], harness := (true, "3bff0a01bff2c84adc60753afc248ff462e0266b15a0d30f275f95f4259b1bd3"), looks := true }, kinds := [], alts := [], laidByText := true, laidKinds := [.data, .data, .data, .data, .sentinel, .sentinel, .pinned], laidTests := true, laidLooks := .later }
def ScriptReadsCardSaid : Prop := Claim7.holds Tryd.pinned (.plain (OpenSpec.ofChange scriptReadsSpec)) scriptReadsCard

/-- THE TIED CARD OF 'dulcimerlaw42.ScriptOwns'. -/
def scriptOwnsCard : Claim7 := { stood := { row := scriptOwnsRow, standIns := [], harness := (true, "3bff0a01bff2c84adc60753afc248ff462e0266b15a0d30f275f95f4259b1bd3"), looks := true }, kinds := [], alts := [], laidByText := true, laidKinds := [.data, .data, .data], laidTests := true, laidLooks := .later }
def ScriptOwnsCardSaid : Prop := Claim7.holds Tryd.pinned (.plain (OpenSpec.ofChange scriptOwnsSpec)) scriptOwnsCard

/-- THE TIED CARD OF 'dulcimerlaw42.ScriptBig'. -/
def scriptBigCard : Claim7 := { stood := { row := scriptBigRow, standIns := [], harness := (true, "3bff0a01bff2c84adc60753afc248ff462e0266b15a0d30f275f95f4259b1bd3"), looks := true }, kinds := [], alts := [], laidByText := true, laidKinds := [.data, .data, .data, .data, .sentinel, .sentinel, .pinned], laidTests := true, laidLooks := .later }
def ScriptBigCardSaid : Prop := Claim7.holds Tryd.pinned (.plain (OpenSpec.ofChange scriptBigSpec)) scriptBigCard

/-- THE SECOND FORM's CARD OF 'dulcimerlaw42.ScriptPrints'. -/
def scriptPrintsUptoCard : Claim7 := { stood := { row := scriptPrintsUptoRow, standIns := [], harness := (true, "3bff0a01bff2c84adc60753afc248ff462e0266b15a0d30f275f95f4259b1bd3"), looks := true }, kinds := [], alts := [], laidByText := true, laidKinds := [.data, .data, .data, .data, .sentinel, .sentinel, .pinned], laidTests := true, laidLooks := .later }
def ScriptPrintsUptoCardSaid : Prop := Claim7.holds Tryd.pinned (.plain (OpenSpec.upto scriptPrintsSpec)) scriptPrintsUptoCard

/-- THE SECOND FORM's CARD OF 'dulcimerlaw42.ScriptReads'. -/
def scriptReadsUptoCard : Claim7 := { stood := { row := scriptReadsUptoRow, standIns := [], harness := (true, "3bff0a01bff2c84adc60753afc248ff462e0266b15a0d30f275f95f4259b1bd3"), looks := true }, kinds := [], alts := [], laidByText := true, laidKinds := [.data, .data, .data, .data, .sentinel, .sentinel, .pinned], laidTests := true, laidLooks := .later }
def ScriptReadsUptoCardSaid : Prop := Claim7.holds Tryd.pinned (.plain (OpenSpec.upto scriptReadsSpec)) scriptReadsUptoCard

/-- THE SECOND FORM's CARD OF 'dulcimerlaw42.ScriptOwns'. -/
def scriptOwnsUptoCard : Claim7 := { stood := { row := scriptOwnsUptoRow, standIns := [], harness := (true, "3bff0a01bff2c84adc60753afc248ff462e0266b15a0d30f275f95f4259b1bd3"), looks := true }, kinds := [], alts := [], laidByText := true, laidKinds := [.data, .data, .data], laidTests := true, laidLooks := .later }
def ScriptOwnsUptoCardSaid : Prop := Claim7.holds Tryd.pinned (.plain (OpenSpec.upto scriptOwnsSpec)) scriptOwnsUptoCard

/-- THE SECOND FORM's CARD OF 'dulcimerlaw42.ScriptBig'. -/
def scriptBigUptoCard : Claim7 := { stood := { row := scriptBigUptoRow, standIns := [], harness := (true, "3bff0a01bff2c84adc60753afc248ff462e0266b15a0d30f275f95f4259b1bd3"), looks := true }, kinds := [], alts := [], laidByText := true, laidKinds := [.data, .data, .data, .data, .sentinel, .sentinel, .pinned], laidTests := true, laidLooks := .later }
def ScriptBigUptoCardSaid : Prop := Claim7.holds Tryd.pinned (.plain (OpenSpec.upto scriptBigSpec)) scriptBigUptoCard
end Rows
end Go.Proofs.YtoejflnlkapkiaaDoor
