/-
  NARROWER THAN 'FOR EVERY INPUT', by the rows' own cells (each row's printed sentence says how): DescTells: loops · DescOrders: loops · DescPlaces: loops · ValidBelow: loops · CostTells: loops · CostOrders: loops · CostLeast: loops.
  DERIVED. THE GIVEN ROWS OF THIS SEAT. 10 by the template 'for every input the law returns true; each argument reads behind the call as it read before'; 0 by the template 'total and deterministic' (their statements: YtfjioflggkmhcaaTotals.lean).
  GIVEN WITH THE SEED: the statements are not yours to turn. If you find one false, say at which input.
  Laid BY PROGRAM, IN A SANDBOX (cutbox-rows.mjs): the forced cells as the released guide's own fill.sh prints them over the translation 0dc2245d9b38817b… (all of the seat's roots in one cut). By AI agents, Wed Nov 11 2026. No macro, syntax, notation, axiom, sorry.
-/
import Derived.Test.YtfjioflggkmhcaaChecked
import GoSem.Claim
import GoSem.ClaimJoined
import GoSem.ClaimMapViews
import Derived.JoinedTies
import Derived.KernelRfl
namespace Go.Proofs.Ytfjioflggkmhcaa
/- THE CELL 'sum', in the pinned program and in every row, IS THE sha256 OF THE DUMP (.gsa) THAT YtfjioflggkmhcaaProg.lean LOADS. Nothing in Lean hashes anything: it is a label: what it is worth is what the hold of that sum in a sandbox is worth. -/
noncomputable def Try.pinned : Pinned := { name := "ytfjioflggkmhcaa", sum := "0dc2245d9b38817bd4cefb62727cba7b2a678b6ed819cf80af034f2db1fa551b", checked := Try.checked }
namespace Rows
def none {H : Type} : Left H := { results := [], args := [] }

/-- 'dulcimerlaw13.DescTells': WHATEVER THE INPUT: true; the input reads as it did. -/
def descTellsSpec : ChangeSpec := { name := "descTells", fn := fun _ => fun
  | [d1, d2] => { results := [.lit (.bool true)], args := [d1, d2] }
  | _ => none }
def descTellsRow : OpenClaim := { program := "ytfjioflggkmhcaa", sum := "0dc2245d9b38817bd4cefb62727cba7b2a678b6ed819cf80af034f2db1fa551b", func := "dulcimer/dulcimerlaw13.DescTells", spec := "descTells", unfollowed := true, recurses := true, loops := true, apart := false }
def DescTellsSaid : Prop := descTellsRow.holds Try.pinned (OpenSpec.ofChange descTellsSpec)

/-- ITS FALSE NEIGHBOUR: 'it returns false'. Refute it at one input. -/
def descTellsWrong : ChangeSpec := { name := "descTells", fn := fun _ => fun
  | [d1, d2] => { results := [.lit (.bool false)], args := [d1, d2] }
  | _ => none }
def DescTellsWrongFalsely : Prop := descTellsRow.holds Try.pinned (OpenSpec.ofChange descTellsWrong)

/-- 'dulcimerlaw13.DescOrders': WHATEVER THE INPUT: true; the input reads as it did. -/
def descOrdersSpec : ChangeSpec := { name := "descOrders", fn := fun _ => fun
  | [d1, d2, d3] => { results := [.lit (.bool true)], args := [d1, d2, d3] }
  | _ => none }
def descOrdersRow : OpenClaim := { program := "ytfjioflggkmhcaa", sum := "0dc2245d9b38817bd4cefb62727cba7b2a678b6ed819cf80af034f2db1fa551b", func := "dulcimer/dulcimerlaw13.DescOrders", spec := "descOrders", unfollowed := true, recurses := true, loops := true, apart := false }
def DescOrdersSaid : Prop := descOrdersRow.holds Try.pinned (OpenSpec.ofChange descOrdersSpec)

/-- ITS FALSE NEIGHBOUR: 'it returns false'. Refute it at one input. -/
def descOrdersWrong : ChangeSpec := { name := "descOrders", fn := fun _ => fun
  | [d1, d2, d3] => { results := [.lit (.bool false)], args := [d1, d2, d3] }
  | _ => none }
def DescOrdersWrongFalsely : Prop := descOrdersRow.holds Try.pinned (OpenSpec.ofChange descOrdersWrong)

/-- 'dulcimerlaw13.DescPlaces': WHATEVER THE INPUT: true; the input reads as it did. -/
def descPlacesSpec : ChangeSpec := { name := "descPlaces", fn := fun _ => fun
  | [d1, d2, d3] => { results := [.lit (.bool true)], args := [d1, d2, d3] }
  | _ => none }
def descPlacesRow : OpenClaim := { program := "ytfjioflggkmhcaa", sum := "0dc2245d9b38817bd4cefb62727cba7b2a678b6ed819cf80af034f2db1fa551b", func := "dulcimer/dulcimerlaw13.DescPlaces", spec := "descPlaces", unfollowed := true, recurses := true, loops := true, apart := false }
def DescPlacesSaid : Prop := descPlacesRow.holds Try.pinned (OpenSpec.ofChange descPlacesSpec)

/-- ITS FALSE NEIGHBOUR: 'it returns false'. Refute it at one input. -/
def descPlacesWrong : ChangeSpec := { name := "descPlaces", fn := fun _ => fun
  | [d1, d2, d3] => { results := [.lit (.bool false)], args := [d1, d2, d3] }
  | _ => none }
def DescPlacesWrongFalsely : Prop := descPlacesRow.holds Try.pinned (OpenSpec.ofChange descPlacesWrong)

/-- 'dulcimerlaw14.ValidBelow': WHATEVER THE INPUT: true; the input reads as it did. -/
def validBelowSpec : ChangeSpec := { name := "validBelow", fn := fun _ => fun
  | [d1, d2, d3] => { results := [.lit (.bool true)], args := [d1, d2, d3] }
  | _ => none }
def validBelowRow : OpenClaim := { program := "ytfjioflggkmhcaa", sum := "0dc2245d9b38817bd4cefb62727cba7b2a678b6ed819cf80af034f2db1fa551b", func := "dulcimer/dulcimerlaw14.ValidBelow", spec := "validBelow", recurses := true, loops := true, apart := false }
def ValidBelowSaid : Prop := validBelowRow.holds Try.pinned (OpenSpec.ofChange validBelowSpec)

/-- ITS FALSE NEIGHBOUR: 'it returns false'. Refute it at one input. -/
def validBelowWrong : ChangeSpec := { name := "validBelow", fn := fun _ => fun
  | [d1, d2, d3] => { results := [.lit (.bool false)], args := [d1, d2, d3] }
  | _ => none }
def ValidBelowWrongFalsely : Prop := validBelowRow.holds Try.pinned (OpenSpec.ofChange validBelowWrong)

/-- 'dulcimerlaw18.CostTells': WHATEVER THE INPUT: true; the input reads as it did. -/
def costTellsSpec : ChangeSpec := { name := "costTells", fn := fun _ => fun
  | [d] => { results := [.lit (.bool true)], args := [d] }
  | _ => none }
def costTellsRow : OpenClaim := { program := "ytfjioflggkmhcaa", sum := "0dc2245d9b38817bd4cefb62727cba7b2a678b6ed819cf80af034f2db1fa551b", func := "dulcimer/dulcimerlaw18.CostTells", spec := "costTells", recurses := true, loops := true, apart := false }
def CostTellsSaid : Prop := costTellsRow.holds Try.pinned (OpenSpec.ofChange costTellsSpec)

/-- ITS FALSE NEIGHBOUR: 'it returns false'. Refute it at one input. -/
def costTellsWrong : ChangeSpec := { name := "costTells", fn := fun _ => fun
  | [d] => { results := [.lit (.bool false)], args := [d] }
  | _ => none }
def CostTellsWrongFalsely : Prop := costTellsRow.holds Try.pinned (OpenSpec.ofChange costTellsWrong)

/-- 'dulcimerlaw18.CostOrders': WHATEVER THE INPUT: true; the input reads as it did. -/
def costOrdersSpec : ChangeSpec := { name := "costOrders", fn := fun _ => fun
  | [d1, d2] => { results := [.lit (.bool true)], args := [d1, d2] }
  | _ => none }
def costOrdersRow : OpenClaim := { program := "ytfjioflggkmhcaa", sum := "0dc2245d9b38817bd4cefb62727cba7b2a678b6ed819cf80af034f2db1fa551b", func := "dulcimer/dulcimerlaw18.CostOrders", spec := "costOrders", recurses := true, loops := true, apart := false }
def CostOrdersSaid : Prop := costOrdersRow.holds Try.pinned (OpenSpec.ofChange costOrdersSpec)

/-- ITS FALSE NEIGHBOUR: 'it returns false'. Refute it at one input. -/
def costOrdersWrong : ChangeSpec := { name := "costOrders", fn := fun _ => fun
  | [d1, d2] => { results := [.lit (.bool false)], args := [d1, d2] }
  | _ => none }
def CostOrdersWrongFalsely : Prop := costOrdersRow.holds Try.pinned (OpenSpec.ofChange costOrdersWrong)

/-- 'dulcimerlaw18.CostLeast': WHATEVER THE INPUT: true; the input reads as it did. -/
def costLeastSpec : ChangeSpec := { name := "costLeast", fn := fun _ => fun
  | [d] => { results := [.lit (.bool true)], args := [d] }
  | _ => none }
def costLeastRow : OpenClaim := { program := "ytfjioflggkmhcaa", sum := "0dc2245d9b38817bd4cefb62727cba7b2a678b6ed819cf80af034f2db1fa551b", func := "dulcimer/dulcimerlaw18.CostLeast", spec := "costLeast", unfollowed := true, recurses := true, loops := true, apart := false }
def CostLeastSaid : Prop := costLeastRow.holds Try.pinned (OpenSpec.ofChange costLeastSpec)

/-- ITS FALSE NEIGHBOUR: 'it returns false'. Refute it at one input. -/
def costLeastWrong : ChangeSpec := { name := "costLeast", fn := fun _ => fun
  | [d] => { results := [.lit (.bool false)], args := [d] }
  | _ => none }
def CostLeastWrongFalsely : Prop := costLeastRow.holds Try.pinned (OpenSpec.ofChange costLeastWrong)

/-- 'dulcimerlaw19.CandTells': WHATEVER THE INPUT: true; the input reads as it did. -/
def candTellsSpec : ChangeSpec := { name := "candTells", fn := fun _ => fun
  | [d] => { results := [.lit (.bool true)], args := [d] }
  | _ => none }
def candTellsRow : OpenClaim := { program := "ytfjioflggkmhcaa", sum := "0dc2245d9b38817bd4cefb62727cba7b2a678b6ed819cf80af034f2db1fa551b", func := "dulcimer/dulcimerlaw19.CandTells", spec := "candTells", recurses := true, apart := false }
def CandTellsSaid : Prop := candTellsRow.holds Try.pinned (OpenSpec.ofChange candTellsSpec)

/-- ITS FALSE NEIGHBOUR: 'it returns false'. Refute it at one input. -/
def candTellsWrong : ChangeSpec := { name := "candTells", fn := fun _ => fun
  | [d] => { results := [.lit (.bool false)], args := [d] }
  | _ => none }
def CandTellsWrongFalsely : Prop := candTellsRow.holds Try.pinned (OpenSpec.ofChange candTellsWrong)

/-- 'dulcimerlaw19.CandRight': WHATEVER THE INPUT: true; the input reads as it did. -/
def candRightSpec : ChangeSpec := { name := "candRight", fn := fun _ => fun
  | [d] => { results := [.lit (.bool true)], args := [d] }
  | _ => none }
def candRightRow : OpenClaim := { program := "ytfjioflggkmhcaa", sum := "0dc2245d9b38817bd4cefb62727cba7b2a678b6ed819cf80af034f2db1fa551b", func := "dulcimer/dulcimerlaw19.CandRight", spec := "candRight", recurses := true, apart := false }
def CandRightSaid : Prop := candRightRow.holds Try.pinned (OpenSpec.ofChange candRightSpec)

/-- ITS FALSE NEIGHBOUR: 'it returns false'. Refute it at one input. -/
def candRightWrong : ChangeSpec := { name := "candRight", fn := fun _ => fun
  | [d] => { results := [.lit (.bool false)], args := [d] }
  | _ => none }
def CandRightWrongFalsely : Prop := candRightRow.holds Try.pinned (OpenSpec.ofChange candRightWrong)

/-- 'dulcimerlaw19.CandBest': WHATEVER THE INPUT: true; the input reads as it did. -/
def candBestSpec : ChangeSpec := { name := "candBest", fn := fun _ => fun
  | [d] => { results := [.lit (.bool true)], args := [d] }
  | _ => none }
def candBestRow : OpenClaim := { program := "ytfjioflggkmhcaa", sum := "0dc2245d9b38817bd4cefb62727cba7b2a678b6ed819cf80af034f2db1fa551b", func := "dulcimer/dulcimerlaw19.CandBest", spec := "candBest", unfollowed := true, recurses := true, apart := false }
def CandBestSaid : Prop := candBestRow.holds Try.pinned (OpenSpec.ofChange candBestSpec)

/-- ITS FALSE NEIGHBOUR: 'it returns false'. Refute it at one input. -/
def candBestWrong : ChangeSpec := { name := "candBest", fn := fun _ => fun
  | [d] => { results := [.lit (.bool false)], args := [d] }
  | _ => none }
def CandBestWrongFalsely : Prop := candBestRow.holds Try.pinned (OpenSpec.ofChange candBestWrong)

/- THE SECOND FORM. 'bulk': how many values and letters a reading holds, each counted each time it is reached (what is shared counts as often as it is met; a slice's spare places count too). A statement '..UptoSaid' is the law's where the arguments, and the package variables that the reading takes, are together of bulk at most 1048576: NARROWER than '..Said'. Prove '..Said' where nothing that the law and all that it calls make is longer than what came in: it says more and counts as full. Else prove '..UptoSaid'. A law counts once. -/
mutual
def uptoBulk {H : Type} : DataW H → Nat
  | .lit (.string bytes) => bytes.length + 1
  | .lit _ => 1
  | .nil => 1
  | .ptr d => uptoBulk d + 1
  | .slice elems spare => uptoBulkAll elems + uptoBulkAll spare + 1
  | .agg parts => uptoBulkAll parts + 1
  | .iface _ d => uptoBulk d + 1
  | .map entries => uptoBulkEntries entries + 1
  | .held _ => 1
def uptoBulkAll {H : Type} : List (DataW H) → Nat
  | [] => 0
  | d :: r => uptoBulk d + uptoBulkAll r
def uptoBulkEntries {H : Type} : List (Lit × DataW H) → Nat
  | [] => 0
  | x :: r => uptoBulkEntry x + uptoBulkEntries r
def uptoBulkEntry {H : Type} : Lit × DataW H → Nat
  | (.string bytes, d) => bytes.length + uptoBulk d + 1
  | (_, d) => uptoBulk d + 1
 end
def uptoSmall : (H : Type) → List (DataW H) → Bool := fun _ ds => decide (uptoBulkAll ds ≤ 1048576)
def OpenSpec.upto (s : _root_.Go.ChangeSpec) : _root_.Go.OpenSpec := { _root_.Go.OpenSpec.ofChange s with cond := some uptoSmall }

/-- 'dulcimerlaw13.DescTells', WHERE WHAT IT READS IS OF BULK AT MOST 1048576: true; the input reads as it did. -/
def descTellsUptoRow : OpenClaim := { program := "ytfjioflggkmhcaa", sum := "0dc2245d9b38817bd4cefb62727cba7b2a678b6ed819cf80af034f2db1fa551b", func := "dulcimer/dulcimerlaw13.DescTells", spec := "descTells", unfollowed := true, recurses := true, loops := true, apart := false, narrowed := true }
def DescTellsUptoSaid : Prop := descTellsUptoRow.holds Try.pinned (OpenSpec.upto descTellsSpec)

/-- 'dulcimerlaw13.DescOrders', WHERE WHAT IT READS IS OF BULK AT MOST 1048576: true; the input reads as it did. -/
def descOrdersUptoRow : OpenClaim := { program := "ytfjioflggkmhcaa", sum := "0dc2245d9b38817bd4cefb62727cba7b2a678b6ed819cf80af034f2db1fa551b", func := "dulcimer/dulcimerlaw13.DescOrders", spec := "descOrders", unfollowed := true, recurses := true, loops := true, apart := false, narrowed := true }
def DescOrdersUptoSaid : Prop := descOrdersUptoRow.holds Try.pinned (OpenSpec.upto descOrdersSpec)

/-- 'dulcimerlaw13.DescPlaces', WHERE WHAT IT READS IS OF BULK AT MOST 1048576: true; the input reads as it did. -/
def descPlacesUptoRow : OpenClaim := { program := "ytfjioflggkmhcaa", sum := "0dc2245d9b38817bd4cefb62727cba7b2a678b6ed819cf80af034f2db1fa551b", func := "dulcimer/dulcimerlaw13.DescPlaces", spec := "descPlaces", unfollowed := true, recurses := true, loops := true, apart := false, narrowed := true }
def DescPlacesUptoSaid : Prop := descPlacesUptoRow.holds Try.pinned (OpenSpec.upto descPlacesSpec)

/-- 'dulcimerlaw14.ValidBelow', WHERE WHAT IT READS IS OF BULK AT MOST 1048576: true; the input reads as it did. -/
def validBelowUptoRow : OpenClaim := { program := "ytfjioflggkmhcaa", sum := "0dc2245d9b38817bd4cefb62727cba7b2a678b6ed819cf80af034f2db1fa551b", func := "dulcimer/dulcimerlaw14.ValidBelow", spec := "validBelow", recurses := true, loops := true, apart := false, narrowed := true }
def ValidBelowUptoSaid : Prop := validBelowUptoRow.holds Try.pinned (OpenSpec.upto validBelowSpec)

/-- 'dulcimerlaw18.CostTells', WHERE WHAT IT READS IS OF BULK AT MOST 1048576: true; the input reads as it did. -/
def costTellsUptoRow : OpenClaim := { program := "ytfjioflggkmhcaa", sum := "0dc2245d9b38817bd4cefb62727cba7b2a678b6ed819cf80af034f2db1fa551b", func := "dulcimer/dulcimerlaw18.CostTells", spec := "costTells", recurses := true, loops := true, apart := false, narrowed := true }
def CostTellsUptoSaid : Prop := costTellsUptoRow.holds Try.pinned (OpenSpec.upto costTellsSpec)

/-- 'dulcimerlaw18.CostOrders', WHERE WHAT IT READS IS OF BULK AT MOST 1048576: true; the input reads as it did. -/
def costOrdersUptoRow : OpenClaim := { program := "ytfjioflggkmhcaa", sum := "0dc2245d9b38817bd4cefb62727cba7b2a678b6ed819cf80af034f2db1fa551b", func := "dulcimer/dulcimerlaw18.CostOrders", spec := "costOrders", recurses := true, loops := true, apart := false, narrowed := true }
def CostOrdersUptoSaid : Prop := costOrdersUptoRow.holds Try.pinned (OpenSpec.upto costOrdersSpec)

/-- 'dulcimerlaw18.CostLeast', WHERE WHAT IT READS IS OF BULK AT MOST 1048576: true; the input reads as it did. -/
def costLeastUptoRow : OpenClaim := { program := "ytfjioflggkmhcaa", sum := "0dc2245d9b38817bd4cefb62727cba7b2a678b6ed819cf80af034f2db1fa551b", func := "dulcimer/dulcimerlaw18.CostLeast", spec := "costLeast", unfollowed := true, recurses := true, loops := true, apart := false, narrowed := true }
def CostLeastUptoSaid : Prop := costLeastUptoRow.holds Try.pinned (OpenSpec.upto costLeastSpec)

/-- 'dulcimerlaw19.CandTells', WHERE WHAT IT READS IS OF BULK AT MOST 1048576: true; the input reads as it did. -/
def candTellsUptoRow : OpenClaim := { program := "ytfjioflggkmhcaa", sum := "0dc2245d9b38817bd4cefb62727cba7b2a678b6ed819cf80af034f2db1fa551b", func := "dulcimer/dulcimerlaw19.CandTells", spec := "candTells", recurses := true, apart := false, narrowed := true }
def CandTellsUptoSaid : Prop := candTellsUptoRow.holds Try.pinned (OpenSpec.upto candTellsSpec)

/-- 'dulcimerlaw19.CandRight', WHERE WHAT IT READS IS OF BULK AT MOST 1048576: true; the input reads as it did. -/
def candRightUptoRow : OpenClaim := { program := "ytfjioflggkmhcaa", sum := "0dc2245d9b38817bd4cefb62727cba7b2a678b6ed819cf80af034f2db1fa551b", func := "dulcimer/dulcimerlaw19.CandRight", spec := "candRight", recurses := true, apart := false, narrowed := true }
def CandRightUptoSaid : Prop := candRightUptoRow.holds Try.pinned (OpenSpec.upto candRightSpec)

/-- 'dulcimerlaw19.CandBest', WHERE WHAT IT READS IS OF BULK AT MOST 1048576: true; the input reads as it did. -/
def candBestUptoRow : OpenClaim := { program := "ytfjioflggkmhcaa", sum := "0dc2245d9b38817bd4cefb62727cba7b2a678b6ed819cf80af034f2db1fa551b", func := "dulcimer/dulcimerlaw19.CandBest", spec := "candBest", unfollowed := true, recurses := true, apart := false, narrowed := true }
def CandBestUptoSaid : Prop := candBestUptoRow.holds Try.pinned (OpenSpec.upto candBestSpec)

end Rows
end Go.Proofs.Ytfjioflggkmhcaa
