/-
  No cell of these rows narrows 'for every input' (looked for: loops, veiled, ifaces, maps, wideKeys, modest, calm, conditions, laid).
  DERIVED. THE GIVEN ROWS OF THIS SEAT. 12 by the template 'for every input the law returns true; each argument reads behind the call as it read before'; 0 by the template 'total and deterministic' (their statements: YtjiedfncamdojaaTotals.lean).
  GIVEN WITH THE SEED: the statements are not yours to turn. If you find one false, say at which input.
  Laid BY PROGRAM, IN A SANDBOX (cutbox-rows.mjs): the forced cells as the released guide's own fill.sh prints them over the translation cac4e0e69d986de5… (all of the seat's roots in one cut). By AI agents, Wed Nov 11 2026. No macro, syntax, notation, axiom, sorry.
-/
import Derived.Test.YtjiedfncamdojaaChecked
import GoSem.Claim
import GoSem.ClaimJoined
import GoSem.ClaimMapViews
import Derived.JoinedTies
import Derived.KernelRfl
namespace Go.Proofs.Ytjiedfncamdojaa
/- THE CELL 'sum', in the pinned program and in every row, IS THE sha256 OF THE DUMP (.gsa) THAT YtjiedfncamdojaaProg.lean LOADS. Nothing in Lean hashes anything: it is a label: what it is worth is what the hold of that sum in a sandbox is worth. -/
noncomputable def Try.pinned : Pinned := { name := "ytjiedfncamdojaa", sum := "cac4e0e69d986de5ba37bf9571bae70203eff4e8faa1d4410aef3336b294092e", checked := Try.checked }
namespace Rows
def none {H : Type} : Left H := { results := [], args := [] }

/-- 'dulcimerlaw06.DftTells': WHATEVER THE INPUT: true; the input reads as it did. -/
def dftTellsSpec : ChangeSpec := { name := "dftTells", fn := fun _ => fun
  | [d1, d2, d3] => { results := [.lit (.bool true)], args := [d1, d2, d3] }
  | _ => none }
def dftTellsRow : OpenClaim := { program := "ytjiedfncamdojaa", sum := "cac4e0e69d986de5ba37bf9571bae70203eff4e8faa1d4410aef3336b294092e", func := "dulcimer/dulcimerlaw06.DftTells", spec := "dftTells", inPlace := ["math/bits.Sub64", "math/bits.Add64"], unfollowed := true, recurses := true, apart := false }
def DftTellsSaid : Prop := dftTellsRow.holds Try.pinned (OpenSpec.ofChange dftTellsSpec)

/-- ITS FALSE NEIGHBOUR: 'it returns false'. Refute it at one input. -/
def dftTellsWrong : ChangeSpec := { name := "dftTells", fn := fun _ => fun
  | [d1, d2, d3] => { results := [.lit (.bool false)], args := [d1, d2, d3] }
  | _ => none }
def DftTellsWrongFalsely : Prop := dftTellsRow.holds Try.pinned (OpenSpec.ofChange dftTellsWrong)

/-- 'dulcimerlaw06.DftLinear': WHATEVER THE INPUT: true; the input reads as it did. -/
def dftLinearSpec : ChangeSpec := { name := "dftLinear", fn := fun _ => fun
  | [d1, d2, d3] => { results := [.lit (.bool true)], args := [d1, d2, d3] }
  | _ => none }
def dftLinearRow : OpenClaim := { program := "ytjiedfncamdojaa", sum := "cac4e0e69d986de5ba37bf9571bae70203eff4e8faa1d4410aef3336b294092e", func := "dulcimer/dulcimerlaw06.DftLinear", spec := "dftLinear", inPlace := ["math/bits.Sub64", "math/bits.Add64"], unfollowed := true, recurses := true, apart := false }
def DftLinearSaid : Prop := dftLinearRow.holds Try.pinned (OpenSpec.ofChange dftLinearSpec)

/-- ITS FALSE NEIGHBOUR: 'it returns false'. Refute it at one input. -/
def dftLinearWrong : ChangeSpec := { name := "dftLinear", fn := fun _ => fun
  | [d1, d2, d3] => { results := [.lit (.bool false)], args := [d1, d2, d3] }
  | _ => none }
def DftLinearWrongFalsely : Prop := dftLinearRow.holds Try.pinned (OpenSpec.ofChange dftLinearWrong)

/-- 'dulcimerlaw07.ConvTells': WHATEVER THE INPUT: true; the input reads as it did. -/
def convTellsSpec : ChangeSpec := { name := "convTells", fn := fun _ => fun
  | [d1, d2] => { results := [.lit (.bool true)], args := [d1, d2] }
  | _ => none }
def convTellsRow : OpenClaim := { program := "ytjiedfncamdojaa", sum := "cac4e0e69d986de5ba37bf9571bae70203eff4e8faa1d4410aef3336b294092e", func := "dulcimer/dulcimerlaw07.ConvTells", spec := "convTells", inPlace := ["math/bits.Sub64", "math/bits.Add64"], unfollowed := true, recurses := true, apart := false }
def ConvTellsSaid : Prop := convTellsRow.holds Try.pinned (OpenSpec.ofChange convTellsSpec)

/-- ITS FALSE NEIGHBOUR: 'it returns false'. Refute it at one input. -/
def convTellsWrong : ChangeSpec := { name := "convTells", fn := fun _ => fun
  | [d1, d2] => { results := [.lit (.bool false)], args := [d1, d2] }
  | _ => none }
def ConvTellsWrongFalsely : Prop := convTellsRow.holds Try.pinned (OpenSpec.ofChange convTellsWrong)

/-- 'dulcimerlaw07.ConvWraps': WHATEVER THE INPUT: true; the input reads as it did. -/
def convWrapsSpec : ChangeSpec := { name := "convWraps", fn := fun _ => fun
  | [d1, d2] => { results := [.lit (.bool true)], args := [d1, d2] }
  | _ => none }
def convWrapsRow : OpenClaim := { program := "ytjiedfncamdojaa", sum := "cac4e0e69d986de5ba37bf9571bae70203eff4e8faa1d4410aef3336b294092e", func := "dulcimer/dulcimerlaw07.ConvWraps", spec := "convWraps", inPlace := ["math/bits.Sub64", "math/bits.Add64"], unfollowed := true, recurses := true, apart := false }
def ConvWrapsSaid : Prop := convWrapsRow.holds Try.pinned (OpenSpec.ofChange convWrapsSpec)

/-- ITS FALSE NEIGHBOUR: 'it returns false'. Refute it at one input. -/
def convWrapsWrong : ChangeSpec := { name := "convWraps", fn := fun _ => fun
  | [d1, d2] => { results := [.lit (.bool false)], args := [d1, d2] }
  | _ => none }
def ConvWrapsWrongFalsely : Prop := convWrapsRow.holds Try.pinned (OpenSpec.ofChange convWrapsWrong)

/-- 'dulcimerlaw07.ConvTheorem': WHATEVER THE INPUT: true; the input reads as it did. -/
def convTheoremSpec : ChangeSpec := { name := "convTheorem", fn := fun _ => fun
  | [d1, d2] => { results := [.lit (.bool true)], args := [d1, d2] }
  | _ => none }
def convTheoremRow : OpenClaim := { program := "ytjiedfncamdojaa", sum := "cac4e0e69d986de5ba37bf9571bae70203eff4e8faa1d4410aef3336b294092e", func := "dulcimer/dulcimerlaw07.ConvTheorem", spec := "convTheorem", inPlace := ["math/bits.Sub64", "math/bits.Add64"], unfollowed := true, recurses := true, apart := false }
def ConvTheoremSaid : Prop := convTheoremRow.holds Try.pinned (OpenSpec.ofChange convTheoremSpec)

/-- ITS FALSE NEIGHBOUR: 'it returns false'. Refute it at one input. -/
def convTheoremWrong : ChangeSpec := { name := "convTheorem", fn := fun _ => fun
  | [d1, d2] => { results := [.lit (.bool false)], args := [d1, d2] }
  | _ => none }
def ConvTheoremWrongFalsely : Prop := convTheoremRow.holds Try.pinned (OpenSpec.ofChange convTheoremWrong)

/-- 'dulcimerlaw07.ConvBig': WHATEVER THE INPUT: true; the input reads as it did. -/
def convBigSpec : ChangeSpec := { name := "convBig", fn := fun _ => fun
  | [d1, d2] => { results := [.lit (.bool true)], args := [d1, d2] }
  | _ => none }
def convBigRow : OpenClaim := { program := "ytjiedfncamdojaa", sum := "cac4e0e69d986de5ba37bf9571bae70203eff4e8faa1d4410aef3336b294092e", func := "dulcimer/dulcimerlaw07.ConvBig", spec := "convBig", inPlace := ["math/bits.Sub64", "math/bits.Add64"], unfollowed := true, recurses := true, apart := false }
def ConvBigSaid : Prop := convBigRow.holds Try.pinned (OpenSpec.ofChange convBigSpec)

/-- ITS FALSE NEIGHBOUR: 'it returns false'. Refute it at one input. -/
def convBigWrong : ChangeSpec := { name := "convBig", fn := fun _ => fun
  | [d1, d2] => { results := [.lit (.bool false)], args := [d1, d2] }
  | _ => none }
def ConvBigWrongFalsely : Prop := convBigRow.holds Try.pinned (OpenSpec.ofChange convBigWrong)

/-- 'dulcimerlaw10.SmallDoes': WHATEVER THE INPUT: true; the input reads as it did. -/
def smallDoesSpec : ChangeSpec := { name := "smallDoes", fn := fun _ => fun
  | [d1, d2] => { results := [.lit (.bool true)], args := [d1, d2] }
  | _ => none }
def smallDoesRow : OpenClaim := { program := "ytjiedfncamdojaa", sum := "cac4e0e69d986de5ba37bf9571bae70203eff4e8faa1d4410aef3336b294092e", func := "dulcimer/dulcimerlaw10.SmallDoes", spec := "smallDoes", inPlace := ["math/bits.Sub64", "math/bits.Add64"], apart := false }
def SmallDoesSaid : Prop := smallDoesRow.holds Try.pinned (OpenSpec.ofChange smallDoesSpec)

/-- ITS FALSE NEIGHBOUR: 'it returns false'. Refute it at one input. -/
def smallDoesWrong : ChangeSpec := { name := "smallDoes", fn := fun _ => fun
  | [d1, d2] => { results := [.lit (.bool false)], args := [d1, d2] }
  | _ => none }
def SmallDoesWrongFalsely : Prop := smallDoesRow.holds Try.pinned (OpenSpec.ofChange smallDoesWrong)

/-- 'dulcimerlaw10.SmallTwists': WHATEVER THE INPUT: true; the input reads as it did. -/
def smallTwistsSpec : ChangeSpec := { name := "smallTwists", fn := fun _ => fun
  | [d1, d2, d3] => { results := [.lit (.bool true)], args := [d1, d2, d3] }
  | _ => none }
def smallTwistsRow : OpenClaim := { program := "ytjiedfncamdojaa", sum := "cac4e0e69d986de5ba37bf9571bae70203eff4e8faa1d4410aef3336b294092e", func := "dulcimer/dulcimerlaw10.SmallTwists", spec := "smallTwists", inPlace := ["math/bits.Sub64", "math/bits.Add64"], apart := false }
def SmallTwistsSaid : Prop := smallTwistsRow.holds Try.pinned (OpenSpec.ofChange smallTwistsSpec)

/-- ITS FALSE NEIGHBOUR: 'it returns false'. Refute it at one input. -/
def smallTwistsWrong : ChangeSpec := { name := "smallTwists", fn := fun _ => fun
  | [d1, d2, d3] => { results := [.lit (.bool false)], args := [d1, d2, d3] }
  | _ => none }
def SmallTwistsWrongFalsely : Prop := smallTwistsRow.holds Try.pinned (OpenSpec.ofChange smallTwistsWrong)

/-- 'dulcimerlaw10.SmallRows': WHATEVER THE INPUT: true; the input reads as it did. -/
def smallRowsSpec : ChangeSpec := { name := "smallRows", fn := fun _ => fun
  | [d1, d2, d3] => { results := [.lit (.bool true)], args := [d1, d2, d3] }
  | _ => none }
def smallRowsRow : OpenClaim := { program := "ytjiedfncamdojaa", sum := "cac4e0e69d986de5ba37bf9571bae70203eff4e8faa1d4410aef3336b294092e", func := "dulcimer/dulcimerlaw10.SmallRows", spec := "smallRows", inPlace := ["math/bits.Sub64", "math/bits.Add64"], apart := false }
def SmallRowsSaid : Prop := smallRowsRow.holds Try.pinned (OpenSpec.ofChange smallRowsSpec)

/-- ITS FALSE NEIGHBOUR: 'it returns false'. Refute it at one input. -/
def smallRowsWrong : ChangeSpec := { name := "smallRows", fn := fun _ => fun
  | [d1, d2, d3] => { results := [.lit (.bool false)], args := [d1, d2, d3] }
  | _ => none }
def SmallRowsWrongFalsely : Prop := smallRowsRow.holds Try.pinned (OpenSpec.ofChange smallRowsWrong)

/-- 'dulcimerlaw11.StockPasses': WHATEVER THE INPUT: true; the input reads as it did. -/
def stockPassesSpec : ChangeSpec := { name := "stockPasses", fn := fun _ => fun
  | [d1, d2, d3] => { results := [.lit (.bool true)], args := [d1, d2, d3] }
  | _ => none }
def stockPassesRow : OpenClaim := { program := "ytjiedfncamdojaa", sum := "cac4e0e69d986de5ba37bf9571bae70203eff4e8faa1d4410aef3336b294092e", func := "dulcimer/dulcimerlaw11.StockPasses", spec := "stockPasses", inPlace := ["math/bits.Add64", "math/bits.Sub64"], unfollowed := true, recurses := true, apart := false }
def StockPassesSaid : Prop := stockPassesRow.holds Try.pinned (OpenSpec.ofChange stockPassesSpec)

/-- ITS FALSE NEIGHBOUR: 'it returns false'. Refute it at one input. -/
def stockPassesWrong : ChangeSpec := { name := "stockPasses", fn := fun _ => fun
  | [d1, d2, d3] => { results := [.lit (.bool false)], args := [d1, d2, d3] }
  | _ => none }
def StockPassesWrongFalsely : Prop := stockPassesRow.holds Try.pinned (OpenSpec.ofChange stockPassesWrong)

/-- 'dulcimerlaw11.StockWith': WHATEVER THE INPUT: true; the input reads as it did. -/
def stockWithSpec : ChangeSpec := { name := "stockWith", fn := fun _ => fun
  | [d1, d2] => { results := [.lit (.bool true)], args := [d1, d2] }
  | _ => none }
def stockWithRow : OpenClaim := { program := "ytjiedfncamdojaa", sum := "cac4e0e69d986de5ba37bf9571bae70203eff4e8faa1d4410aef3336b294092e", func := "dulcimer/dulcimerlaw11.StockWith", spec := "stockWith", inPlace := ["math/bits.Add64", "math/bits.Sub64"], unfollowed := true, recurses := true, apart := false }
def StockWithSaid : Prop := stockWithRow.holds Try.pinned (OpenSpec.ofChange stockWithSpec)

/-- ITS FALSE NEIGHBOUR: 'it returns false'. Refute it at one input. -/
def stockWithWrong : ChangeSpec := { name := "stockWith", fn := fun _ => fun
  | [d1, d2] => { results := [.lit (.bool false)], args := [d1, d2] }
  | _ => none }
def StockWithWrongFalsely : Prop := stockWithRow.holds Try.pinned (OpenSpec.ofChange stockWithWrong)

/-- 'dulcimerlaw11.StockDoes': WHATEVER THE INPUT: true; the input reads as it did. -/
def stockDoesSpec : ChangeSpec := { name := "stockDoes", fn := fun _ => fun
  | [d1, d2] => { results := [.lit (.bool true)], args := [d1, d2] }
  | _ => none }
def stockDoesRow : OpenClaim := { program := "ytjiedfncamdojaa", sum := "cac4e0e69d986de5ba37bf9571bae70203eff4e8faa1d4410aef3336b294092e", func := "dulcimer/dulcimerlaw11.StockDoes", spec := "stockDoes", inPlace := ["math/bits.Add64", "math/bits.Sub64"], unfollowed := true, recurses := true, apart := false }
def StockDoesSaid : Prop := stockDoesRow.holds Try.pinned (OpenSpec.ofChange stockDoesSpec)

/-- ITS FALSE NEIGHBOUR: 'it returns false'. Refute it at one input. -/
def stockDoesWrong : ChangeSpec := { name := "stockDoes", fn := fun _ => fun
  | [d1, d2] => { results := [.lit (.bool false)], args := [d1, d2] }
  | _ => none }
def StockDoesWrongFalsely : Prop := stockDoesRow.holds Try.pinned (OpenSpec.ofChange stockDoesWrong)

/- THE SECOND FORM. 'bulk': how many values and letters a reading holds, each counted each time it is reached (what is shared counts as often as it is met; a slice's spare places count too). A statement '..UptoSaid' is the law's where the arguments, and the package variables that the reading takes, are together of bulk at most 1048576: NARROWER than '..Said'. Prove '..Said' where nothing that the law and all that it calls make is longer than what came in: it says more and counts as full. Else prove '..UptoSaid'. A law counts once. -/
mutual
def uptoBulk {H : Type} : DataW H → Nat
  | .lit (.string bytes) => bytes.length + 1
  | .lit _ => 1
  | .nil => 1
  | .ptr d => uptoBulk d + 1
  | .slice elems spare => uptoBulkAll elems + uptoBulkAll spare + 1
  | .agg parts => uptoBulkAll parts + 1
  | .iface _ d => uptoBulk d + 1
  | .map entries => uptoBulkEntries entries + 1
  | .held _ => 1
def uptoBulkAll {H : Type} : List (DataW H) → Nat
  | [] => 0
  | d :: r => uptoBulk d + uptoBulkAll r
def uptoBulkEntries {H : Type} : List (Lit × DataW H) → Nat
  | [] => 0
  | x :: r => uptoBulkEntry x + uptoBulkEntries r
def uptoBulkEntry {H : Type} : Lit × DataW H → Nat
  | (.string bytes, d) => bytes.length + uptoBulk d + 1
  | (_, d) => uptoBulk d + 1
 end
def uptoSmall : (H : Type) → List (DataW H) → Bool := fun _ ds => decide (uptoBulkAll ds ≤ 1048576)
def OpenSpec.upto (s : _root_.Go.ChangeSpec) : _root_.Go.OpenSpec := { _root_.Go.OpenSpec.ofChange s with cond := some uptoSmall }

/-- 'dulcimerlaw06.DftTells', WHERE WHAT IT READS IS OF BULK AT MOST 1048576: true; the input reads as it did. -/
def dftTellsUptoRow : OpenClaim := { program := "ytjiedfncamdojaa", sum := "cac4e0e69d986de5ba37bf9571bae70203eff4e8faa1d4410aef3336b294092e", func := "dulcimer/dulcimerlaw06.DftTells", spec := "dftTells", inPlace := ["math/bits.Sub64", "math/bits.Add64"], unfollowed := true, recurses := true, apart := false, narrowed := true }
def DftTellsUptoSaid : Prop := dftTellsUptoRow.holds Try.pinned (OpenSpec.upto dftTellsSpec)

/-- 'dulcimerlaw06.DftLinear', WHERE WHAT IT READS IS OF BULK AT MOST 1048576: true; the input reads as it did. -/
def dftLinearUptoRow : OpenClaim := { program := "ytjiedfncamdojaa", sum := "cac4e0e69d986de5ba37bf9571bae70203eff4e8faa1d4410aef3336b294092e", func := "dulcimer/dulcimerlaw06.DftLinear", spec := "dftLinear", inPlace := ["math/bits.Sub64", "math/bits.Add64"], unfollowed := true, recurses := true, apart := false, narrowed := true }
def DftLinearUptoSaid : Prop := dftLinearUptoRow.holds Try.pinned (OpenSpec.upto dftLinearSpec)

/-- 'dulcimerlaw07.ConvTells', WHERE WHAT IT READS IS OF BULK AT MOST 1048576: true; the input reads as it did. -/
def convTellsUptoRow : OpenClaim := { program := "ytjiedfncamdojaa", sum := "cac4e0e69d986de5ba37bf9571bae70203eff4e8faa1d4410aef3336b294092e", func := "dulcimer/dulcimerlaw07.ConvTells", spec := "convTells", inPlace := ["math/bits.Sub64", "math/bits.Add64"], unfollowed := true, recurses := true, apart := false, narrowed := true }
def ConvTellsUptoSaid : Prop := convTellsUptoRow.holds Try.pinned (OpenSpec.upto convTellsSpec)

/-- 'dulcimerlaw07.ConvWraps', WHERE WHAT IT READS IS OF BULK AT MOST 1048576: true; the input reads as it did. -/
def convWrapsUptoRow : OpenClaim := { program := "ytjiedfncamdojaa", sum := "cac4e0e69d986de5ba37bf9571bae70203eff4e8faa1d4410aef3336b294092e", func := "dulcimer/dulcimerlaw07.ConvWraps", spec := "convWraps", inPlace := ["math/bits.Sub64", "math/bits.Add64"], unfollowed := true, recurses := true, apart := false, narrowed := true }
def ConvWrapsUptoSaid : Prop := convWrapsUptoRow.holds Try.pinned (OpenSpec.upto convWrapsSpec)

/-- 'dulcimerlaw07.ConvTheorem', WHERE WHAT IT READS IS OF BULK AT MOST 1048576: true; the input reads as it did. -/
def convTheoremUptoRow : OpenClaim := { program := "ytjiedfncamdojaa", sum := "cac4e0e69d986de5ba37bf9571bae70203eff4e8faa1d4410aef3336b294092e", func := "dulcimer/dulcimerlaw07.ConvTheorem", spec := "convTheorem", inPlace := ["math/bits.Sub64", "math/bits.Add64"], unfollowed := true, recurses := true, apart := false, narrowed := true }
def ConvTheoremUptoSaid : Prop := convTheoremUptoRow.holds Try.pinned (OpenSpec.upto convTheoremSpec)

/-- 'dulcimerlaw07.ConvBig', WHERE WHAT IT READS IS OF BULK AT MOST 1048576: true; the input reads as it did. -/
def convBigUptoRow : OpenClaim := { program := "ytjiedfncamdojaa", sum := "cac4e0e69d986de5ba37bf9571bae70203eff4e8faa1d4410aef3336b294092e", func := "dulcimer/dulcimerlaw07.ConvBig", spec := "convBig", inPlace := ["math/bits.Sub64", "math/bits.Add64"], unfollowed := true, recurses := true, apart := false, narrowed := true }
def ConvBigUptoSaid : Prop := convBigUptoRow.holds Try.pinned (OpenSpec.upto convBigSpec)

/-- 'dulcimerlaw10.SmallDoes', WHERE WHAT IT READS IS OF BULK AT MOST 1048576: true; the input reads as it did. -/
def smallDoesUptoRow : OpenClaim := { program := "ytjiedfncamdojaa", sum := "cac4e0e69d986de5ba37bf9571bae70203eff4e8faa1d4410aef3336b294092e", func := "dulcimer/dulcimerlaw10.SmallDoes", spec := "smallDoes", inPlace := ["math/bits.Sub64", "math/bits.Add64"], apart := false, narrowed := true }
def SmallDoesUptoSaid : Prop := smallDoesUptoRow.holds Try.pinned (OpenSpec.upto smallDoesSpec)

/-- 'dulcimerlaw10.SmallTwists', WHERE WHAT IT READS IS OF BULK AT MOST 1048576: true; the input reads as it did. -/
def smallTwistsUptoRow : OpenClaim := { program := "ytjiedfncamdojaa", sum := "cac4e0e69d986de5ba37bf9571bae70203eff4e8faa1d4410aef3336b294092e", func := "dulcimer/dulcimerlaw10.SmallTwists", spec := "smallTwists", inPlace := ["math/bits.Sub64", "math/bits.Add64"], apart := false, narrowed := true }
def SmallTwistsUptoSaid : Prop := smallTwistsUptoRow.holds Try.pinned (OpenSpec.upto smallTwistsSpec)

/-- 'dulcimerlaw10.SmallRows', WHERE WHAT IT READS IS OF BULK AT MOST 1048576: true; the input reads as it did. -/
def smallRowsUptoRow : OpenClaim := { program := "ytjiedfncamdojaa", sum := "cac4e0e69d986de5ba37bf9571bae70203eff4e8faa1d4410aef3336b294092e", func := "dulcimer/dulcimerlaw10.SmallRows", spec := "smallRows", inPlace := ["math/bits.Sub64", "math/bits.Add64"], apart := false, narrowed := true }
def SmallRowsUptoSaid : Prop := smallRowsUptoRow.holds Try.pinned (OpenSpec.upto smallRowsSpec)

/-- 'dulcimerlaw11.StockPasses', WHERE WHAT IT READS IS OF BULK AT MOST 1048576: true; the input reads as it did. -/
def stockPassesUptoRow : OpenClaim := { program := "ytjiedfncamdojaa", sum := "cac4e0e69d986de5ba37bf9571bae70203eff4e8faa1d4410aef3336b294092e", func := "dulcimer/dulcimerlaw11.StockPasses", spec := "stockPasses", inPlace := ["math/bits.Add64", "math/bits.Sub64"], unfollowed := true, recurses := true, apart := false, narrowed := true }
def StockPassesUptoSaid : Prop := stockPassesUptoRow.holds Try.pinned (OpenSpec.upto stockPassesSpec)

/-- 'dulcimerlaw11.StockWith', WHERE WHAT IT READS IS OF BULK AT MOST 1048576: true; the input reads as it did. -/
def stockWithUptoRow : OpenClaim := { program := "ytjiedfncamdojaa", sum := "cac4e0e69d986de5ba37bf9571bae70203eff4e8faa1d4410aef3336b294092e", func := "dulcimer/dulcimerlaw11.StockWith", spec := "stockWith", inPlace := ["math/bits.Add64", "math/bits.Sub64"], unfollowed := true, recurses := true, apart := false, narrowed := true }
def StockWithUptoSaid : Prop := stockWithUptoRow.holds Try.pinned (OpenSpec.upto stockWithSpec)

/-- 'dulcimerlaw11.StockDoes', WHERE WHAT IT READS IS OF BULK AT MOST 1048576: true; the input reads as it did. -/
def stockDoesUptoRow : OpenClaim := { program := "ytjiedfncamdojaa", sum := "cac4e0e69d986de5ba37bf9571bae70203eff4e8faa1d4410aef3336b294092e", func := "dulcimer/dulcimerlaw11.StockDoes", spec := "stockDoes", inPlace := ["math/bits.Add64", "math/bits.Sub64"], unfollowed := true, recurses := true, apart := false, narrowed := true }
def StockDoesUptoSaid : Prop := stockDoesUptoRow.holds Try.pinned (OpenSpec.upto stockDoesSpec)

end Rows
end Go.Proofs.Ytjiedfncamdojaa
