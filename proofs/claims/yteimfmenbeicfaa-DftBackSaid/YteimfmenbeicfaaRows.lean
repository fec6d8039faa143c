/-
  No cell of these rows narrows 'for every input' (looked for: loops, veiled, ifaces, maps, wideKeys, modest, calm, conditions, laid).
  DERIVED. THE GIVEN ROWS OF THIS SEAT. 12 by the template 'for every input the law returns true; each argument reads behind the call as it read before'; 0 by the template 'total and deterministic' (their statements: YteimfmenbeicfaaTotals.lean).
  GIVEN WITH THE SEED: the statements are not yours to turn. If you find one false, say at which input.
  Laid BY PROGRAM, IN A SANDBOX (cutbox-rows.mjs): the forced cells as the released guide's own fill.sh prints them over the translation f56852bbc20c190a… (all of the seat's roots in one cut). By AI agents, Wed Nov 11 2026. No macro, syntax, notation, axiom, sorry.
-/
import Derived.Test.YteimfmenbeicfaaChecked
import GoSem.Claim
import GoSem.ClaimJoined
import GoSem.ClaimMapViews
import Derived.JoinedTies
import Derived.KernelRfl
namespace Go.Proofs.Yteimfmenbeicfaa
/- THE CELL 'sum', in the pinned program and in every row, IS THE sha256 OF THE DUMP (.gsa) THAT YteimfmenbeicfaaProg.lean LOADS. Nothing in Lean hashes anything: it is a label: what it is worth is what the hold of that sum in a sandbox is worth. -/
noncomputable def Try.pinned : Pinned := { name := "yteimfmenbeicfaa", sum := "f56852bbc20c190a07453fba43459987eac761833bbf27f00ed596ddf0a3e274", checked := Try.checked }
namespace Rows
def none {H : Type} : Left H := { results := [], args := [] }

/-- 'dulcimerlaw04.RootTells': WHATEVER THE INPUT: true; the input reads as it did. -/
def rootTellsSpec : ChangeSpec := { name := "rootTells", fn := fun _ => fun
  | [d] => { results := [.lit (.bool true)], args := [d] }
  | _ => none }
def rootTellsRow : OpenClaim := { program := "yteimfmenbeicfaa", sum := "f56852bbc20c190a07453fba43459987eac761833bbf27f00ed596ddf0a3e274", func := "dulcimer/dulcimerlaw04.RootTells", spec := "rootTells", inPlace := ["math/bits.Sub64", "math/bits.Add64"], apart := false }
def RootTellsSaid : Prop := rootTellsRow.holds Try.pinned (OpenSpec.ofChange rootTellsSpec)

/-- ITS FALSE NEIGHBOUR: 'it returns false'. Refute it at one input. -/
def rootTellsWrong : ChangeSpec := { name := "rootTells", fn := fun _ => fun
  | [d] => { results := [.lit (.bool false)], args := [d] }
  | _ => none }
def RootTellsWrongFalsely : Prop := rootTellsRow.holds Try.pinned (OpenSpec.ofChange rootTellsWrong)

/-- 'dulcimerlaw04.RootParts': WHATEVER THE INPUT: true; the input reads as it did. -/
def rootPartsSpec : ChangeSpec := { name := "rootParts", fn := fun _ => fun
  | [d1, d2] => { results := [.lit (.bool true)], args := [d1, d2] }
  | _ => none }
def rootPartsRow : OpenClaim := { program := "yteimfmenbeicfaa", sum := "f56852bbc20c190a07453fba43459987eac761833bbf27f00ed596ddf0a3e274", func := "dulcimer/dulcimerlaw04.RootParts", spec := "rootParts", inPlace := ["math/bits.Sub64", "math/bits.Add64"], apart := false }
def RootPartsSaid : Prop := rootPartsRow.holds Try.pinned (OpenSpec.ofChange rootPartsSpec)

/-- ITS FALSE NEIGHBOUR: 'it returns false'. Refute it at one input. -/
def rootPartsWrong : ChangeSpec := { name := "rootParts", fn := fun _ => fun
  | [d1, d2] => { results := [.lit (.bool false)], args := [d1, d2] }
  | _ => none }
def RootPartsWrongFalsely : Prop := rootPartsRow.holds Try.pinned (OpenSpec.ofChange rootPartsWrong)

/-- 'dulcimerlaw04.RootOrders': WHATEVER THE INPUT: true; the input reads as it did. -/
def rootOrdersSpec : ChangeSpec := { name := "rootOrders", fn := fun _ => fun
  | [d] => { results := [.lit (.bool true)], args := [d] }
  | _ => none }
def rootOrdersRow : OpenClaim := { program := "yteimfmenbeicfaa", sum := "f56852bbc20c190a07453fba43459987eac761833bbf27f00ed596ddf0a3e274", func := "dulcimer/dulcimerlaw04.RootOrders", spec := "rootOrders", inPlace := ["math/bits.Sub64", "math/bits.Add64"], apart := false }
def RootOrdersSaid : Prop := rootOrdersRow.holds Try.pinned (OpenSpec.ofChange rootOrdersSpec)

/-- ITS FALSE NEIGHBOUR: 'it returns false'. Refute it at one input. -/
def rootOrdersWrong : ChangeSpec := { name := "rootOrders", fn := fun _ => fun
  | [d] => { results := [.lit (.bool false)], args := [d] }
  | _ => none }
def RootOrdersWrongFalsely : Prop := rootOrdersRow.holds Try.pinned (OpenSpec.ofChange rootOrdersWrong)

/-- 'dulcimerlaw04.RootPowers': WHATEVER THE INPUT: true; the input reads as it did. -/
def rootPowersSpec : ChangeSpec := { name := "rootPowers", fn := fun _ => fun
  | [d1, d2] => { results := [.lit (.bool true)], args := [d1, d2] }
  | _ => none }
def rootPowersRow : OpenClaim := { program := "yteimfmenbeicfaa", sum := "f56852bbc20c190a07453fba43459987eac761833bbf27f00ed596ddf0a3e274", func := "dulcimer/dulcimerlaw04.RootPowers", spec := "rootPowers", inPlace := ["math/bits.Sub64", "math/bits.Add64"], apart := false }
def RootPowersSaid : Prop := rootPowersRow.holds Try.pinned (OpenSpec.ofChange rootPowersSpec)

/-- ITS FALSE NEIGHBOUR: 'it returns false'. Refute it at one input. -/
def rootPowersWrong : ChangeSpec := { name := "rootPowers", fn := fun _ => fun
  | [d1, d2] => { results := [.lit (.bool false)], args := [d1, d2] }
  | _ => none }
def RootPowersWrongFalsely : Prop := rootPowersRow.holds Try.pinned (OpenSpec.ofChange rootPowersWrong)

/-- 'dulcimerlaw04.RootSizes': WHATEVER THE INPUT: true; the input reads as it did. -/
def rootSizesSpec : ChangeSpec := { name := "rootSizes", fn := fun _ => fun
  | [d] => { results := [.lit (.bool true)], args := [d] }
  | _ => none }
def rootSizesRow : OpenClaim := { program := "yteimfmenbeicfaa", sum := "f56852bbc20c190a07453fba43459987eac761833bbf27f00ed596ddf0a3e274", func := "dulcimer/dulcimerlaw04.RootSizes", spec := "rootSizes", inPlace := ["math/bits.Sub64", "math/bits.Add64"], unfollowed := true, recurses := true, apart := false }
def RootSizesSaid : Prop := rootSizesRow.holds Try.pinned (OpenSpec.ofChange rootSizesSpec)

/-- ITS FALSE NEIGHBOUR: 'it returns false'. Refute it at one input. -/
def rootSizesWrong : ChangeSpec := { name := "rootSizes", fn := fun _ => fun
  | [d] => { results := [.lit (.bool false)], args := [d] }
  | _ => none }
def RootSizesWrongFalsely : Prop := rootSizesRow.holds Try.pinned (OpenSpec.ofChange rootSizesWrong)

/-- 'dulcimerlaw05.VecTells': WHATEVER THE INPUT: true; the input reads as it did. -/
def vecTellsSpec : ChangeSpec := { name := "vecTells", fn := fun _ => fun
  | [d1, d2, d3] => { results := [.lit (.bool true)], args := [d1, d2, d3] }
  | _ => none }
def vecTellsRow : OpenClaim := { program := "yteimfmenbeicfaa", sum := "f56852bbc20c190a07453fba43459987eac761833bbf27f00ed596ddf0a3e274", func := "dulcimer/dulcimerlaw05.VecTells", spec := "vecTells", inPlace := ["math/bits.Add64", "math/bits.Sub64"], unfollowed := true, recurses := true, apart := false }
def VecTellsSaid : Prop := vecTellsRow.holds Try.pinned (OpenSpec.ofChange vecTellsSpec)

/-- ITS FALSE NEIGHBOUR: 'it returns false'. Refute it at one input. -/
def vecTellsWrong : ChangeSpec := { name := "vecTells", fn := fun _ => fun
  | [d1, d2, d3] => { results := [.lit (.bool false)], args := [d1, d2, d3] }
  | _ => none }
def VecTellsWrongFalsely : Prop := vecTellsRow.holds Try.pinned (OpenSpec.ofChange vecTellsWrong)

/-- 'dulcimerlaw05.VecTurns': WHATEVER THE INPUT: true; the input reads as it did. -/
def vecTurnsSpec : ChangeSpec := { name := "vecTurns", fn := fun _ => fun
  | [d1, d2, d3] => { results := [.lit (.bool true)], args := [d1, d2, d3] }
  | _ => none }
def vecTurnsRow : OpenClaim := { program := "yteimfmenbeicfaa", sum := "f56852bbc20c190a07453fba43459987eac761833bbf27f00ed596ddf0a3e274", func := "dulcimer/dulcimerlaw05.VecTurns", spec := "vecTurns", apart := false }
def VecTurnsSaid : Prop := vecTurnsRow.holds Try.pinned (OpenSpec.ofChange vecTurnsSpec)

/-- ITS FALSE NEIGHBOUR: 'it returns false'. Refute it at one input. -/
def vecTurnsWrong : ChangeSpec := { name := "vecTurns", fn := fun _ => fun
  | [d1, d2, d3] => { results := [.lit (.bool false)], args := [d1, d2, d3] }
  | _ => none }
def VecTurnsWrongFalsely : Prop := vecTurnsRow.holds Try.pinned (OpenSpec.ofChange vecTurnsWrong)

/-- 'dulcimerlaw05.VecUnits': WHATEVER THE INPUT: true; the input reads as it did. -/
def vecUnitsSpec : ChangeSpec := { name := "vecUnits", fn := fun _ => fun
  | [d1, d2, d3] => { results := [.lit (.bool true)], args := [d1, d2, d3] }
  | _ => none }
def vecUnitsRow : OpenClaim := { program := "yteimfmenbeicfaa", sum := "f56852bbc20c190a07453fba43459987eac761833bbf27f00ed596ddf0a3e274", func := "dulcimer/dulcimerlaw05.VecUnits", spec := "vecUnits", inPlace := ["math/bits.Sub64", "math/bits.Add64"], unfollowed := true, recurses := true, apart := false }
def VecUnitsSaid : Prop := vecUnitsRow.holds Try.pinned (OpenSpec.ofChange vecUnitsSpec)

/-- ITS FALSE NEIGHBOUR: 'it returns false'. Refute it at one input. -/
def vecUnitsWrong : ChangeSpec := { name := "vecUnits", fn := fun _ => fun
  | [d1, d2, d3] => { results := [.lit (.bool false)], args := [d1, d2, d3] }
  | _ => none }
def VecUnitsWrongFalsely : Prop := vecUnitsRow.holds Try.pinned (OpenSpec.ofChange vecUnitsWrong)

/-- 'dulcimerlaw06.DftTells': WHATEVER THE INPUT: true; the input reads as it did. -/
def dftTellsSpec : ChangeSpec := { name := "dftTells", fn := fun _ => fun
  | [d1, d2, d3] => { results := [.lit (.bool true)], args := [d1, d2, d3] }
  | _ => none }
def dftTellsRow : OpenClaim := { program := "yteimfmenbeicfaa", sum := "f56852bbc20c190a07453fba43459987eac761833bbf27f00ed596ddf0a3e274", func := "dulcimer/dulcimerlaw06.DftTells", spec := "dftTells", inPlace := ["math/bits.Sub64", "math/bits.Add64"], unfollowed := true, recurses := true, apart := false }
def DftTellsSaid : Prop := dftTellsRow.holds Try.pinned (OpenSpec.ofChange dftTellsSpec)

/-- ITS FALSE NEIGHBOUR: 'it returns false'. Refute it at one input. -/
def dftTellsWrong : ChangeSpec := { name := "dftTells", fn := fun _ => fun
  | [d1, d2, d3] => { results := [.lit (.bool false)], args := [d1, d2, d3] }
  | _ => none }
def DftTellsWrongFalsely : Prop := dftTellsRow.holds Try.pinned (OpenSpec.ofChange dftTellsWrong)

/-- 'dulcimerlaw06.DftBack': WHATEVER THE INPUT: true; the input reads as it did. -/
def dftBackSpec : ChangeSpec := { name := "dftBack", fn := fun _ => fun
  | [d1, d2] => { results := [.lit (.bool true)], args := [d1, d2] }
  | _ => none }
def dftBackRow : OpenClaim := { program := "yteimfmenbeicfaa", sum := "f56852bbc20c190a07453fba43459987eac761833bbf27f00ed596ddf0a3e274", func := "dulcimer/dulcimerlaw06.DftBack", spec := "dftBack", inPlace := ["math/bits.Sub64", "math/bits.Add64"], unfollowed := true, recurses := true, apart := false }
def DftBackSaid : Prop := dftBackRow.holds Try.pinned (OpenSpec.ofChange dftBackSpec)

/-- ITS FALSE NEIGHBOUR: 'it returns false'. Refute it at one input. -/
def dftBackWrong : ChangeSpec := { name := "dftBack", fn := fun _ => fun
  | [d1, d2] => { results := [.lit (.bool false)], args := [d1, d2] }
  | _ => none }
def DftBackWrongFalsely : Prop := dftBackRow.holds Try.pinned (OpenSpec.ofChange dftBackWrong)

/-- 'dulcimerlaw06.DftLinear': WHATEVER THE INPUT: true; the input reads as it did. -/
def dftLinearSpec : ChangeSpec := { name := "dftLinear", fn := fun _ => fun
  | [d1, d2, d3] => { results := [.lit (.bool true)], args := [d1, d2, d3] }
  | _ => none }
def dftLinearRow : OpenClaim := { program := "yteimfmenbeicfaa", sum := "f56852bbc20c190a07453fba43459987eac761833bbf27f00ed596ddf0a3e274", func := "dulcimer/dulcimerlaw06.DftLinear", spec := "dftLinear", inPlace := ["math/bits.Sub64", "math/bits.Add64"], unfollowed := true, recurses := true, apart := false }
def DftLinearSaid : Prop := dftLinearRow.holds Try.pinned (OpenSpec.ofChange dftLinearSpec)

/-- ITS FALSE NEIGHBOUR: 'it returns false'. Refute it at one input. -/
def dftLinearWrong : ChangeSpec := { name := "dftLinear", fn := fun _ => fun
  | [d1, d2, d3] => { results := [.lit (.bool false)], args := [d1, d2, d3] }
  | _ => none }
def DftLinearWrongFalsely : Prop := dftLinearRow.holds Try.pinned (OpenSpec.ofChange dftLinearWrong)

/-- 'dulcimerlaw06.DftUnits': WHATEVER THE INPUT: true; the input reads as it did. -/
def dftUnitsSpec : ChangeSpec := { name := "dftUnits", fn := fun _ => fun
  | [d1, d2] => { results := [.lit (.bool true)], args := [d1, d2] }
  | _ => none }
def dftUnitsRow : OpenClaim := { program := "yteimfmenbeicfaa", sum := "f56852bbc20c190a07453fba43459987eac761833bbf27f00ed596ddf0a3e274", func := "dulcimer/dulcimerlaw06.DftUnits", spec := "dftUnits", inPlace := ["math/bits.Sub64", "math/bits.Add64"], unfollowed := true, recurses := true, apart := false }
def DftUnitsSaid : Prop := dftUnitsRow.holds Try.pinned (OpenSpec.ofChange dftUnitsSpec)

/-- ITS FALSE NEIGHBOUR: 'it returns false'. Refute it at one input. -/
def dftUnitsWrong : ChangeSpec := { name := "dftUnits", fn := fun _ => fun
  | [d1, d2] => { results := [.lit (.bool false)], args := [d1, d2] }
  | _ => none }
def DftUnitsWrongFalsely : Prop := dftUnitsRow.holds Try.pinned (OpenSpec.ofChange dftUnitsWrong)

/- THE SECOND FORM. 'bulk': how many values and letters a reading holds, each counted each time it is reached (what is shared counts as often as it is met; a slice's spare places count too). A statement '..UptoSaid' is the law's where the arguments, and the package variables that the reading takes, are together of bulk at most 1048576: NARROWER than '..Said'. Prove '..Said' where nothing that the law and all that it calls make is longer than what came in: it says more and counts as full. Else prove '..UptoSaid'. A law counts once. -/
mutual
def uptoBulk {H : Type} : DataW H → Nat
  | .lit (.string bytes) => bytes.length + 1
  | .lit _ => 1
  | .nil => 1
  | .ptr d => uptoBulk d + 1
  | .slice elems spare => uptoBulkAll elems + uptoBulkAll spare + 1
  | .agg parts => uptoBulkAll parts + 1
  | .iface _ d => uptoBulk d + 1
  | .map entries => uptoBulkEntries entries + 1
  | .held _ => 1
def uptoBulkAll {H : Type} : List (DataW H) → Nat
  | [] => 0
  | d :: r => uptoBulk d + uptoBulkAll r
def uptoBulkEntries {H : Type} : List (Lit × DataW H) → Nat
  | [] => 0
  | x :: r => uptoBulkEntry x + uptoBulkEntries r
def uptoBulkEntry {H : Type} : Lit × DataW H → Nat
  | (.string bytes, d) => bytes.length + uptoBulk d + 1
  | (_, d) => uptoBulk d + 1
 end
def uptoSmall : (H : Type) → List (DataW H) → Bool := fun _ ds => decide (uptoBulkAll ds ≤ 1048576)
def OpenSpec.upto (s : _root_.Go.ChangeSpec) : _root_.Go.OpenSpec := { _root_.Go.OpenSpec.ofChange s with cond := some uptoSmall }

/-- 'dulcimerlaw04.RootTells', WHERE WHAT IT READS IS OF BULK AT MOST 1048576: true; the input reads as it did. -/
def rootTellsUptoRow : OpenClaim := { program := "yteimfmenbeicfaa", sum := "f56852bbc20c190a07453fba43459987eac761833bbf27f00ed596ddf0a3e274", func := "dulcimer/dulcimerlaw04.RootTells", spec := "rootTells", inPlace := ["math/bits.Sub64", "math/bits.Add64"], apart := false, narrowed := true }
def RootTellsUptoSaid : Prop := rootTellsUptoRow.holds Try.pinned (OpenSpec.upto rootTellsSpec)

/-- 'dulcimerlaw04.RootParts', WHERE WHAT IT READS IS OF BULK AT MOST 1048576: true; the input reads as it did. -/
def rootPartsUptoRow : OpenClaim := { program := "yteimfmenbeicfaa", sum := "f56852bbc20c190a07453fba43459987eac761833bbf27f00ed596ddf0a3e274", func := "dulcimer/dulcimerlaw04.RootParts", spec := "rootParts", inPlace := ["math/bits.Sub64", "math/bits.Add64"], apart := false, narrowed := true }
def RootPartsUptoSaid : Prop := rootPartsUptoRow.holds Try.pinned (OpenSpec.upto rootPartsSpec)

/-- 'dulcimerlaw04.RootOrders', WHERE WHAT IT READS IS OF BULK AT MOST 1048576: true; the input reads as it did. -/
def rootOrdersUptoRow : OpenClaim := { program := "yteimfmenbeicfaa", sum := "f56852bbc20c190a07453fba43459987eac761833bbf27f00ed596ddf0a3e274", func := "dulcimer/dulcimerlaw04.RootOrders", spec := "rootOrders", inPlace := ["math/bits.Sub64", "math/bits.Add64"], apart := false, narrowed := true }
def RootOrdersUptoSaid : Prop := rootOrdersUptoRow.holds Try.pinned (OpenSpec.upto rootOrdersSpec)

/-- 'dulcimerlaw04.RootPowers', WHERE WHAT IT READS IS OF BULK AT MOST 1048576: true; the input reads as it did. -/
def rootPowersUptoRow : OpenClaim := { program := "yteimfmenbeicfaa", sum := "f56852bbc20c190a07453fba43459987eac761833bbf27f00ed596ddf0a3e274", func := "dulcimer/dulcimerlaw04.RootPowers", spec := "rootPowers", inPlace := ["math/bits.Sub64", "math/bits.Add64"], apart := false, narrowed := true }
def RootPowersUptoSaid : Prop := rootPowersUptoRow.holds Try.pinned (OpenSpec.upto rootPowersSpec)

/-- 'dulcimerlaw04.RootSizes', WHERE WHAT IT READS IS OF BULK AT MOST 1048576: true; the input reads as it did. -/
def rootSizesUptoRow : OpenClaim := { program := "yteimfmenbeicfaa", sum := "f56852bbc20c190a07453fba43459987eac761833bbf27f00ed596ddf0a3e274", func := "dulcimer/dulcimerlaw04.RootSizes", spec := "rootSizes", inPlace := ["math/bits.Sub64", "math/bits.Add64"], unfollowed := true, recurses := true, apart := false, narrowed := true }
def RootSizesUptoSaid : Prop := rootSizesUptoRow.holds Try.pinned (OpenSpec.upto rootSizesSpec)

/-- 'dulcimerlaw05.VecTells', WHERE WHAT IT READS IS OF BULK AT MOST 1048576: true; the input reads as it did. -/
def vecTellsUptoRow : OpenClaim := { program := "yteimfmenbeicfaa", sum := "f56852bbc20c190a07453fba43459987eac761833bbf27f00ed596ddf0a3e274", func := "dulcimer/dulcimerlaw05.VecTells", spec := "vecTells", inPlace := ["math/bits.Add64", "math/bits.Sub64"], unfollowed := true, recurses := true, apart := false, narrowed := true }
def VecTellsUptoSaid : Prop := vecTellsUptoRow.holds Try.pinned (OpenSpec.upto vecTellsSpec)

/-- 'dulcimerlaw05.VecTurns', WHERE WHAT IT READS IS OF BULK AT MOST 1048576: true; the input reads as it did. -/
def vecTurnsUptoRow : OpenClaim := { program := "yteimfmenbeicfaa", sum := "f56852bbc20c190a07453fba43459987eac761833bbf27f00ed596ddf0a3e274", func := "dulcimer/dulcimerlaw05.VecTurns", spec := "vecTurns", apart := false, narrowed := true }
def VecTurnsUptoSaid : Prop := vecTurnsUptoRow.holds Try.pinned (OpenSpec.upto vecTurnsSpec)

/-- 'dulcimerlaw05.VecUnits', WHERE WHAT IT READS IS OF BULK AT MOST 1048576: true; the input reads as it did. -/
def vecUnitsUptoRow : OpenClaim := { program := "yteimfmenbeicfaa", sum := "f56852bbc20c190a07453fba43459987eac761833bbf27f00ed596ddf0a3e274", func := "dulcimer/dulcimerlaw05.VecUnits", spec := "vecUnits", inPlace := ["math/bits.Sub64", "math/bits.Add64"], unfollowed := true, recurses := true, apart := false, narrowed := true }
def VecUnitsUptoSaid : Prop := vecUnitsUptoRow.holds Try.pinned (OpenSpec.upto vecUnitsSpec)

/-- 'dulcimerlaw06.DftTells', WHERE WHAT IT READS IS OF BULK AT MOST 1048576: true; the input reads as it did. -/
def dftTellsUptoRow : OpenClaim := { program := "yteimfmenbeicfaa", sum := "f56852bbc20c190a07453fba43459987eac761833bbf27f00ed596ddf0a3e274", func := "dulcimer/dulcimerlaw06.DftTells", spec := "dftTells", inPlace := ["math/bits.Sub64", "math/bits.Add64"], unfollowed := true, recurses := true, apart := false, narrowed := true }
def DftTellsUptoSaid : Prop := dftTellsUptoRow.holds Try.pinned (OpenSpec.upto dftTellsSpec)

/-- 'dulcimerlaw06.DftBack', WHERE WHAT IT READS IS OF BULK AT MOST 1048576: true; the input reads as it did. -/
def dftBackUptoRow : OpenClaim := { program := "yteimfmenbeicfaa", sum := "f56852bbc20c190a07453fba43459987eac761833bbf27f00ed596ddf0a3e274", func := "dulcimer/dulcimerlaw06.DftBack", spec := "dftBack", inPlace := ["math/bits.Sub64", "math/bits.Add64"], unfollowed := true, recurses := true, apart := false, narrowed := true }
def DftBackUptoSaid : Prop := dftBackUptoRow.holds Try.pinned (OpenSpec.upto dftBackSpec)

/-- 'dulcimerlaw06.DftLinear', WHERE WHAT IT READS IS OF BULK AT MOST 1048576: true; the input reads as it did. -/
def dftLinearUptoRow : OpenClaim := { program := "yteimfmenbeicfaa", sum := "f56852bbc20c190a07453fba43459987eac761833bbf27f00ed596ddf0a3e274", func := "dulcimer/dulcimerlaw06.DftLinear", spec := "dftLinear", inPlace := ["math/bits.Sub64", "math/bits.Add64"], unfollowed := true, recurses := true, apart := false, narrowed := true }
def DftLinearUptoSaid : Prop := dftLinearUptoRow.holds Try.pinned (OpenSpec.upto dftLinearSpec)

/-- 'dulcimerlaw06.DftUnits', WHERE WHAT IT READS IS OF BULK AT MOST 1048576: true; the input reads as it did. -/
def dftUnitsUptoRow : OpenClaim := { program := "yteimfmenbeicfaa", sum := "f56852bbc20c190a07453fba43459987eac761833bbf27f00ed596ddf0a3e274", func := "dulcimer/dulcimerlaw06.DftUnits", spec := "dftUnits", inPlace := ["math/bits.Sub64", "math/bits.Add64"], unfollowed := true, recurses := true, apart := false, narrowed := true }
def DftUnitsUptoSaid : Prop := dftUnitsUptoRow.holds Try.pinned (OpenSpec.upto dftUnitsSpec)

end Rows
end Go.Proofs.Yteimfmenbeicfaa
