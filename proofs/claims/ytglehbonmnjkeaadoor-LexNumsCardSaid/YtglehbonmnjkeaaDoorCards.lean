/-
  DERIVED. GIVEN WITH THE SEED: THE CARDS: each row of YtglehbonmnjkeaaDoorRows.lean that lists a variable, with what it lists TIED to the program's text (the seventh form; the later family's looks); each row that meets fmt, with fmt's text TOLD by the authors' own Lean function (tested against real Go, not proved from fmt's source: count such statements apart). THE CARD IS WHAT COUNTS. Prove the row's statement (the work); the ties are given (YtglehbonmnjkeaaDoorTie.lean); close each card by the builder's one call (the guide's Derived/Test/ToyasCard.lean, 'card_holds'). Laid BY PROGRAM, IN A SANDBOX (cutbox-door.mjs). By AI agents, Wed Nov 11 2026. No macro, syntax, notation, axiom, sorry.
-/
import Derived.Test.YtglehbonmnjkeaaDoorRows
import GoSem.ClaimSeven
namespace Go.Proofs.YtglehbonmnjkeaaDoor
namespace Rows

/-- THE TIED CARD OF 'dulcimerlaw22.LexLines'. -/
def lexLinesCard : Claim7 := { stood := { row := lexLinesRow, standIns := [], harness := (true, "f3a368bf686b20b3325d9312ef189392ef97106034fc4c5c14baeddc193445ec"), looks := false }, kinds := [], alts := [], laidByText := true, laidKinds := [.data, .pinned], laidTests := true, laidLooks := .later }
def LexLinesCardSaid : Prop := Claim7.holds Tryd.pinned (.plain (OpenSpec.ofChange lexLinesSpec)) lexLinesCard

/-- THE TIED CARD OF 'dulcimerlaw22.LexNums'. -/
def lexNumsCard : Claim7 := { stood := { row := lexNumsRow, standIns := [], harness := (true, "f3a368bf686b20b3325d9312ef189392ef97106034fc4c5c14baeddc193445ec"), looks := false }, kinds := [], alts := [], laidByText := true, laidKinds := [.data, .data, .data, .data, .pinned], laidTests := true, laidLooks := .later }
def LexNumsCardSaid : Prop := Claim7.holds Tryd.pinned (.plain (OpenSpec.ofChange lexNumsSpec)) lexNumsCard

/-- THE TIED CARD OF 'dulcimerlaw22.LexTokens'. -/
def lexTokensCard : Claim7 := { stood := { row := lexTokensRow, standIns := [], harness := (true, "f3a368bf686b20b3325d9312ef189392ef97106034fc4c5c14baeddc193445ec"), looks := false }, kinds := [], alts := [], laidByText := true, laidKinds := [.data, .pinned], laidTests := true, laidLooks := .later }
def LexTokensCardSaid : Prop := Claim7.holds Tryd.pinned (.plain (OpenSpec.ofChange lexTokensSpec)) lexTokensCard

/-- THE SECOND FORM's CARD OF 'dulcimerlaw22.LexLines'. -/
def lexLinesUptoCard : Claim7 := { stood := { row := lexLinesUptoRow, standIns := [], harness := (true, "f3a368bf686b20b3325d9312ef189392ef97106034fc4c5c14baeddc193445ec"), looks := false }, kinds := [], alts := [], laidByText := true, laidKinds := [.data, .pinned], laidTests := true, laidLooks := .later }
def LexLinesUptoCardSaid : Prop := Claim7.holds Tryd.pinned (.plain (OpenSpec.upto lexLinesSpec)) lexLinesUptoCard

/-- THE SECOND FORM's CARD OF 'dulcimerlaw22.LexNums'. -/
def lexNumsUptoCard : Claim7 := { stood := { row := lexNumsUptoRow, standIns := [], harness := (true, "f3a368bf686b20b3325d9312ef189392ef97106034fc4c5c14baeddc193445ec"), looks := false }, kinds := [], alts := [], laidByText := true, laidKinds := [.data, .data, .data, .data, .pinned], laidTests := true, laidLooks := .later }
def LexNumsUptoCardSaid : Prop := Claim7.holds Tryd.pinned (.plain (OpenSpec.upto lexNumsSpec)) lexNumsUptoCard

/-- THE SECOND FORM's CARD OF 'dulcimerlaw22.LexTokens'. -/
def lexTokensUptoCard : Claim7 := { stood := { row := lexTokensUptoRow, standIns := [], harness := (true, "f3a368bf686b20b3325d9312ef189392ef97106034fc4c5c14baeddc193445ec"), looks := false }, kinds := [], alts := [], laidByText := true, laidKinds := [.data, .pinned], laidTests := true, laidLooks := .later }
def LexTokensUptoCardSaid : Prop := Claim7.holds Tryd.pinned (.plain (OpenSpec.upto lexTokensSpec)) lexTokensUptoCard
end Rows
end Go.Proofs.YtglehbonmnjkeaaDoor
