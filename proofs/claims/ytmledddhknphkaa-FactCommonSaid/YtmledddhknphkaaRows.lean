/-
  No cell of these rows narrows 'for every input' (looked for: loops, veiled, ifaces, maps, wideKeys, modest, calm, conditions, laid).
  DERIVED. THE GIVEN ROWS OF THIS SEAT. 11 by the template 'for every input the law returns true; each argument reads behind the call as it read before'; 0 by the template 'total and deterministic' (their statements: YtmledddhknphkaaTotals.lean).
  GIVEN WITH THE SEED: the statements are not yours to turn. If you find one false, say at which input.
  Laid BY PROGRAM, IN A SANDBOX (cutbox-rows.mjs): the forced cells as the released guide's own fill.sh prints them over the translation e03e24e86466eda5… (all of the seat's roots in one cut). By AI agents, Wed Nov 11 2026. No macro, syntax, notation, axiom, sorry.
-/
import Derived.Test.YtmledddhknphkaaChecked
import GoSem.Claim
import GoSem.ClaimJoined
import GoSem.ClaimMapViews
import Derived.JoinedTies
import Derived.KernelRfl
namespace Go.Proofs.Ytmledddhknphkaa
/- THE CELL 'sum', in the pinned program and in every row, IS THE sha256 OF THE DUMP (.gsa) THAT YtmledddhknphkaaProg.lean LOADS. Nothing in Lean hashes anything: it is a label: what it is worth is what the hold of that sum in a sandbox is worth. -/
noncomputable def Try.pinned : Pinned := { name := "ytmledddhknphkaa", sum := "e03e24e86466eda5e77edad8a1051498465298ae3dc567a0ac547f0aab2a70a9", checked := Try.checked }
namespace Rows
def none {H : Type} : Left H := { results := [], args := [] }

/-- 'dulcimerlaw01.WideTells': WHATEVER THE INPUT: true; the input reads as it did. -/
def wideTellsSpec : ChangeSpec := { name := "wideTells", fn := fun _ => fun
  | [d1, d2] => { results := [.lit (.bool true)], args := [d1, d2] }
  | _ => none }
def wideTellsRow : OpenClaim := { program := "ytmledddhknphkaa", sum := "e03e24e86466eda5e77edad8a1051498465298ae3dc567a0ac547f0aab2a70a9", func := "dulcimer/dulcimerlaw01.WideTells", spec := "wideTells", inPlace := ["math/bits.Add64", "math/bits.Sub64"], apart := false }
def WideTellsSaid : Prop := wideTellsRow.holds Try.pinned (OpenSpec.ofChange wideTellsSpec)

/-- ITS FALSE NEIGHBOUR: 'it returns false'. Refute it at one input. -/
def wideTellsWrong : ChangeSpec := { name := "wideTells", fn := fun _ => fun
  | [d1, d2] => { results := [.lit (.bool false)], args := [d1, d2] }
  | _ => none }
def WideTellsWrongFalsely : Prop := wideTellsRow.holds Try.pinned (OpenSpec.ofChange wideTellsWrong)

/-- 'dulcimerlaw01.WideDivs': WHATEVER THE INPUT: true; the input reads as it did. -/
def wideDivsSpec : ChangeSpec := { name := "wideDivs", fn := fun _ => fun
  | [d1, d2] => { results := [.lit (.bool true)], args := [d1, d2] }
  | _ => none }
def wideDivsRow : OpenClaim := { program := "ytmledddhknphkaa", sum := "e03e24e86466eda5e77edad8a1051498465298ae3dc567a0ac547f0aab2a70a9", func := "dulcimer/dulcimerlaw01.WideDivs", spec := "wideDivs", inPlace := ["math/bits.Add64"], named := ["math/bits.divideError", "math/bits.overflowError"], apart := false }
def WideDivsSaid : Prop := wideDivsRow.holds Try.pinned (OpenSpec.ofChange wideDivsSpec)

/-- ITS FALSE NEIGHBOUR: 'it returns false'. Refute it at one input. -/
def wideDivsWrong : ChangeSpec := { name := "wideDivs", fn := fun _ => fun
  | [d1, d2] => { results := [.lit (.bool false)], args := [d1, d2] }
  | _ => none }
def WideDivsWrongFalsely : Prop := wideDivsRow.holds Try.pinned (OpenSpec.ofChange wideDivsWrong)

/-- 'dulcimerlaw01.WideShifts': WHATEVER THE INPUT: true; the input reads as it did. -/
def wideShiftsSpec : ChangeSpec := { name := "wideShifts", fn := fun _ => fun
  | [d1, d2] => { results := [.lit (.bool true)], args := [d1, d2] }
  | _ => none }
def wideShiftsRow : OpenClaim := { program := "ytmledddhknphkaa", sum := "e03e24e86466eda5e77edad8a1051498465298ae3dc567a0ac547f0aab2a70a9", func := "dulcimer/dulcimerlaw01.WideShifts", spec := "wideShifts", apart := false }
def WideShiftsSaid : Prop := wideShiftsRow.holds Try.pinned (OpenSpec.ofChange wideShiftsSpec)

/-- ITS FALSE NEIGHBOUR: 'it returns false'. Refute it at one input. -/
def wideShiftsWrong : ChangeSpec := { name := "wideShifts", fn := fun _ => fun
  | [d1, d2] => { results := [.lit (.bool false)], args := [d1, d2] }
  | _ => none }
def WideShiftsWrongFalsely : Prop := wideShiftsRow.holds Try.pinned (OpenSpec.ofChange wideShiftsWrong)

/-- 'dulcimerlaw02.GoldTells': WHATEVER THE INPUT: true; the input reads as it did. -/
def goldTellsSpec : ChangeSpec := { name := "goldTells", fn := fun _ => fun
  | [d1, d2] => { results := [.lit (.bool true)], args := [d1, d2] }
  | _ => none }
def goldTellsRow : OpenClaim := { program := "ytmledddhknphkaa", sum := "e03e24e86466eda5e77edad8a1051498465298ae3dc567a0ac547f0aab2a70a9", func := "dulcimer/dulcimerlaw02.GoldTells", spec := "goldTells", inPlace := ["math/bits.Add64", "math/bits.Sub64"], apart := false }
def GoldTellsSaid : Prop := goldTellsRow.holds Try.pinned (OpenSpec.ofChange goldTellsSpec)

/-- ITS FALSE NEIGHBOUR: 'it returns false'. Refute it at one input. -/
def goldTellsWrong : ChangeSpec := { name := "goldTells", fn := fun _ => fun
  | [d1, d2] => { results := [.lit (.bool false)], args := [d1, d2] }
  | _ => none }
def GoldTellsWrongFalsely : Prop := goldTellsRow.holds Try.pinned (OpenSpec.ofChange goldTellsWrong)

/-- 'dulcimerlaw02.GoldPowers': WHATEVER THE INPUT: true; the input reads as it did. -/
def goldPowersSpec : ChangeSpec := { name := "goldPowers", fn := fun _ => fun
  | [d1, d2] => { results := [.lit (.bool true)], args := [d1, d2] }
  | _ => none }
def goldPowersRow : OpenClaim := { program := "ytmledddhknphkaa", sum := "e03e24e86466eda5e77edad8a1051498465298ae3dc567a0ac547f0aab2a70a9", func := "dulcimer/dulcimerlaw02.GoldPowers", spec := "goldPowers", inPlace := ["math/bits.Sub64", "math/bits.Add64"], apart := false }
def GoldPowersSaid : Prop := goldPowersRow.holds Try.pinned (OpenSpec.ofChange goldPowersSpec)

/-- ITS FALSE NEIGHBOUR: 'it returns false'. Refute it at one input. -/
def goldPowersWrong : ChangeSpec := { name := "goldPowers", fn := fun _ => fun
  | [d1, d2] => { results := [.lit (.bool false)], args := [d1, d2] }
  | _ => none }
def GoldPowersWrongFalsely : Prop := goldPowersRow.holds Try.pinned (OpenSpec.ofChange goldPowersWrong)

/-- 'dulcimerlaw02.GoldWide': WHATEVER THE INPUT: true; the input reads as it did. -/
def goldWideSpec : ChangeSpec := { name := "goldWide", fn := fun _ => fun
  | [d1, d2] => { results := [.lit (.bool true)], args := [d1, d2] }
  | _ => none }
def goldWideRow : OpenClaim := { program := "ytmledddhknphkaa", sum := "e03e24e86466eda5e77edad8a1051498465298ae3dc567a0ac547f0aab2a70a9", func := "dulcimer/dulcimerlaw02.GoldWide", spec := "goldWide", inPlace := ["math/bits.Sub64", "math/bits.Add64"], apart := false }
def GoldWideSaid : Prop := goldWideRow.holds Try.pinned (OpenSpec.ofChange goldWideSpec)

/-- ITS FALSE NEIGHBOUR: 'it returns false'. Refute it at one input. -/
def goldWideWrong : ChangeSpec := { name := "goldWide", fn := fun _ => fun
  | [d1, d2] => { results := [.lit (.bool false)], args := [d1, d2] }
  | _ => none }
def GoldWideWrongFalsely : Prop := goldWideRow.holds Try.pinned (OpenSpec.ofChange goldWideWrong)

/-- 'dulcimerlaw02.GoldField': WHATEVER THE INPUT: true; the input reads as it did. -/
def goldFieldSpec : ChangeSpec := { name := "goldField", fn := fun _ => fun
  | [d1, d2, d3] => { results := [.lit (.bool true)], args := [d1, d2, d3] }
  | _ => none }
def goldFieldRow : OpenClaim := { program := "ytmledddhknphkaa", sum := "e03e24e86466eda5e77edad8a1051498465298ae3dc567a0ac547f0aab2a70a9", func := "dulcimer/dulcimerlaw02.GoldField", spec := "goldField", inPlace := ["math/bits.Add64", "math/bits.Sub64"], apart := false }
def GoldFieldSaid : Prop := goldFieldRow.holds Try.pinned (OpenSpec.ofChange goldFieldSpec)

/-- ITS FALSE NEIGHBOUR: 'it returns false'. Refute it at one input. -/
def goldFieldWrong : ChangeSpec := { name := "goldField", fn := fun _ => fun
  | [d1, d2, d3] => { results := [.lit (.bool false)], args := [d1, d2, d3] }
  | _ => none }
def GoldFieldWrongFalsely : Prop := goldFieldRow.holds Try.pinned (OpenSpec.ofChange goldFieldWrong)

/-- 'dulcimerlaw03.FactTells': WHATEVER THE INPUT: true; the input reads as it did. -/
def factTellsSpec : ChangeSpec := { name := "factTells", fn := fun _ => fun
  | [d] => { results := [.lit (.bool true)], args := [d] }
  | _ => none }
def factTellsRow : OpenClaim := { program := "ytmledddhknphkaa", sum := "e03e24e86466eda5e77edad8a1051498465298ae3dc567a0ac547f0aab2a70a9", func := "dulcimer/dulcimerlaw03.FactTells", spec := "factTells", apart := false }
def FactTellsSaid : Prop := factTellsRow.holds Try.pinned (OpenSpec.ofChange factTellsSpec)

/-- ITS FALSE NEIGHBOUR: 'it returns false'. Refute it at one input. -/
def factTellsWrong : ChangeSpec := { name := "factTells", fn := fun _ => fun
  | [d] => { results := [.lit (.bool false)], args := [d] }
  | _ => none }
def FactTellsWrongFalsely : Prop := factTellsRow.holds Try.pinned (OpenSpec.ofChange factTellsWrong)

/-- 'dulcimerlaw03.FactDivisors': WHATEVER THE INPUT: true; the input reads as it did. -/
def factDivisorsSpec : ChangeSpec := { name := "factDivisors", fn := fun _ => fun
  | [d] => { results := [.lit (.bool true)], args := [d] }
  | _ => none }
def factDivisorsRow : OpenClaim := { program := "ytmledddhknphkaa", sum := "e03e24e86466eda5e77edad8a1051498465298ae3dc567a0ac547f0aab2a70a9", func := "dulcimer/dulcimerlaw03.FactDivisors", spec := "factDivisors", apart := false }
def FactDivisorsSaid : Prop := factDivisorsRow.holds Try.pinned (OpenSpec.ofChange factDivisorsSpec)

/-- ITS FALSE NEIGHBOUR: 'it returns false'. Refute it at one input. -/
def factDivisorsWrong : ChangeSpec := { name := "factDivisors", fn := fun _ => fun
  | [d] => { results := [.lit (.bool false)], args := [d] }
  | _ => none }
def FactDivisorsWrongFalsely : Prop := factDivisorsRow.holds Try.pinned (OpenSpec.ofChange factDivisorsWrong)

/-- 'dulcimerlaw03.FactCommon': WHATEVER THE INPUT: true; the input reads as it did. -/
def factCommonSpec : ChangeSpec := { name := "factCommon", fn := fun _ => fun
  | [d1, d2] => { results := [.lit (.bool true)], args := [d1, d2] }
  | _ => none }
def factCommonRow : OpenClaim := { program := "ytmledddhknphkaa", sum := "e03e24e86466eda5e77edad8a1051498465298ae3dc567a0ac547f0aab2a70a9", func := "dulcimer/dulcimerlaw03.FactCommon", spec := "factCommon", recurses := true, apart := false }
def FactCommonSaid : Prop := factCommonRow.holds Try.pinned (OpenSpec.ofChange factCommonSpec)

/-- ITS FALSE NEIGHBOUR: 'it returns false'. Refute it at one input. -/
def factCommonWrong : ChangeSpec := { name := "factCommon", fn := fun _ => fun
  | [d1, d2] => { results := [.lit (.bool false)], args := [d1, d2] }
  | _ => none }
def FactCommonWrongFalsely : Prop := factCommonRow.holds Try.pinned (OpenSpec.ofChange factCommonWrong)

/-- 'dulcimerlaw03.FactPhi': WHATEVER THE INPUT: true; the input reads as it did. -/
def factPhiSpec : ChangeSpec := { name := "factPhi", fn := fun _ => fun
  | [d] => { results := [.lit (.bool true)], args := [d] }
  | _ => none }
def factPhiRow : OpenClaim := { program := "ytmledddhknphkaa", sum := "e03e24e86466eda5e77edad8a1051498465298ae3dc567a0ac547f0aab2a70a9", func := "dulcimer/dulcimerlaw03.FactPhi", spec := "factPhi", recurses := true, apart := false }
def FactPhiSaid : Prop := factPhiRow.holds Try.pinned (OpenSpec.ofChange factPhiSpec)

/-- ITS FALSE NEIGHBOUR: 'it returns false'. Refute it at one input. -/
def factPhiWrong : ChangeSpec := { name := "factPhi", fn := fun _ => fun
  | [d] => { results := [.lit (.bool false)], args := [d] }
  | _ => none }
def FactPhiWrongFalsely : Prop := factPhiRow.holds Try.pinned (OpenSpec.ofChange factPhiWrong)

/- THE SECOND FORM. 'bulk': how many values and letters a reading holds, each counted each time it is reached (what is shared counts as often as it is met; a slice's spare places count too). A statement '..UptoSaid' is the law's where the arguments, and the package variables that the reading takes, are together of bulk at most 1048576: NARROWER than '..Said'. Prove '..Said' where nothing that the law and all that it calls make is longer than what came in: it says more and counts as full. Else prove '..UptoSaid'. A law counts once. -/
mutual
def uptoBulk {H : Type} : DataW H → Nat
  | .lit (.string bytes) => bytes.length + 1
  | .lit _ => 1
  | .nil => 1
  | .ptr d => uptoBulk d + 1
  | .slice elems spare => uptoBulkAll elems + uptoBulkAll spare + 1
  | .agg parts => uptoBulkAll parts + 1
  | .iface _ d => uptoBulk d + 1
  | .map entries => uptoBulkEntries entries + 1
  | .held _ => 1
def uptoBulkAll {H : Type} : List (DataW H) → Nat
  | [] => 0
  | d :: r => uptoBulk d + uptoBulkAll r
def uptoBulkEntries {H : Type} : List (Lit × DataW H) → Nat
  | [] => 0
  | x :: r => uptoBulkEntry x + uptoBulkEntries r
def uptoBulkEntry {H : Type} : Lit × DataW H → Nat
  | (.string bytes, d) => bytes.length + uptoBulk d + 1
  | (_, d) => uptoBulk d + 1
 end
def uptoSmall : (H : Type) → List (DataW H) → Bool := fun _ ds => decide (uptoBulkAll ds ≤ 1048576)
def OpenSpec.upto (s : _root_.Go.ChangeSpec) : _root_.Go.OpenSpec := { _root_.Go.OpenSpec.ofChange s with cond := some uptoSmall }

/-- 'dulcimerlaw01.WideTells', WHERE WHAT IT READS IS OF BULK AT MOST 1048576: true; the input reads as it did. -/
def wideTellsUptoRow : OpenClaim := { program := "ytmledddhknphkaa", sum := "e03e24e86466eda5e77edad8a1051498465298ae3dc567a0ac547f0aab2a70a9", func := "dulcimer/dulcimerlaw01.WideTells", spec := "wideTells", inPlace := ["math/bits.Add64", "math/bits.Sub64"], apart := false, narrowed := true }
def WideTellsUptoSaid : Prop := wideTellsUptoRow.holds Try.pinned (OpenSpec.upto wideTellsSpec)

/-- 'dulcimerlaw01.WideDivs', WHERE WHAT IT READS IS OF BULK AT MOST 1048576: true; the input reads as it did. -/
def wideDivsUptoRow : OpenClaim := { program := "ytmledddhknphkaa", sum := "e03e24e86466eda5e77edad8a1051498465298ae3dc567a0ac547f0aab2a70a9", func := "dulcimer/dulcimerlaw01.WideDivs", spec := "wideDivs", inPlace := ["math/bits.Add64"], named := ["math/bits.divideError", "math/bits.overflowError"], apart := false, narrowed := true }
def WideDivsUptoSaid : Prop := wideDivsUptoRow.holds Try.pinned (OpenSpec.upto wideDivsSpec)

/-- 'dulcimerlaw01.WideShifts', WHERE WHAT IT READS IS OF BULK AT MOST 1048576: true; the input reads as it did. -/
def wideShiftsUptoRow : OpenClaim := { program := "ytmledddhknphkaa", sum := "e03e24e86466eda5e77edad8a1051498465298ae3dc567a0ac547f0aab2a70a9", func := "dulcimer/dulcimerlaw01.WideShifts", spec := "wideShifts", apart := false, narrowed := true }
def WideShiftsUptoSaid : Prop := wideShiftsUptoRow.holds Try.pinned (OpenSpec.upto wideShiftsSpec)

/-- 'dulcimerlaw02.GoldTells', WHERE WHAT IT READS IS OF BULK AT MOST 1048576: true; the input reads as it did. -/
def goldTellsUptoRow : OpenClaim := { program := "ytmledddhknphkaa", sum := "e03e24e86466eda5e77edad8a1051498465298ae3dc567a0ac547f0aab2a70a9", func := "dulcimer/dulcimerlaw02.GoldTells", spec := "goldTells", inPlace := ["math/bits.Add64", "math/bits.Sub64"], apart := false, narrowed := true }
def GoldTellsUptoSaid : Prop := goldTellsUptoRow.holds Try.pinned (OpenSpec.upto goldTellsSpec)

/-- 'dulcimerlaw02.GoldPowers', WHERE WHAT IT READS IS OF BULK AT MOST 1048576: true; the input reads as it did. -/
def goldPowersUptoRow : OpenClaim := { program := "ytmledddhknphkaa", sum := "e03e24e86466eda5e77edad8a1051498465298ae3dc567a0ac547f0aab2a70a9", func := "dulcimer/dulcimerlaw02.GoldPowers", spec := "goldPowers", inPlace := ["math/bits.Sub64", "math/bits.Add64"], apart := false, narrowed := true }
def GoldPowersUptoSaid : Prop := goldPowersUptoRow.holds Try.pinned (OpenSpec.upto goldPowersSpec)

/-- 'dulcimerlaw02.GoldWide', WHERE WHAT IT READS IS OF BULK AT MOST 1048576: true; the input reads as it did. -/
def goldWideUptoRow : OpenClaim := { program := "ytmledddhknphkaa", sum := "e03e24e86466eda5e77edad8a1051498465298ae3dc567a0ac547f0aab2a70a9", func := "dulcimer/dulcimerlaw02.GoldWide", spec := "goldWide", inPlace := ["math/bits.Sub64", "math/bits.Add64"], apart := false, narrowed := true }
def GoldWideUptoSaid : Prop := goldWideUptoRow.holds Try.pinned (OpenSpec.upto goldWideSpec)

/-- 'dulcimerlaw02.GoldField', WHERE WHAT IT READS IS OF BULK AT MOST 1048576: true; the input reads as it did. -/
def goldFieldUptoRow : OpenClaim := { program := "ytmledddhknphkaa", sum := "e03e24e86466eda5e77edad8a1051498465298ae3dc567a0ac547f0aab2a70a9", func := "dulcimer/dulcimerlaw02.GoldField", spec := "goldField", inPlace := ["math/bits.Add64", "math/bits.Sub64"], apart := false, narrowed := true }
def GoldFieldUptoSaid : Prop := goldFieldUptoRow.holds Try.pinned (OpenSpec.upto goldFieldSpec)

/-- 'dulcimerlaw03.FactTells', WHERE WHAT IT READS IS OF BULK AT MOST 1048576: true; the input reads as it did. -/
def factTellsUptoRow : OpenClaim := { program := "ytmledddhknphkaa", sum := "e03e24e86466eda5e77edad8a1051498465298ae3dc567a0ac547f0aab2a70a9", func := "dulcimer/dulcimerlaw03.FactTells", spec := "factTells", apart := false, narrowed := true }
def FactTellsUptoSaid : Prop := factTellsUptoRow.holds Try.pinned (OpenSpec.upto factTellsSpec)

/-- 'dulcimerlaw03.FactDivisors', WHERE WHAT IT READS IS OF BULK AT MOST 1048576: true; the input reads as it did. -/
def factDivisorsUptoRow : OpenClaim := { program := "ytmledddhknphkaa", sum := "e03e24e86466eda5e77edad8a1051498465298ae3dc567a0ac547f0aab2a70a9", func := "dulcimer/dulcimerlaw03.FactDivisors", spec := "factDivisors", apart := false, narrowed := true }
def FactDivisorsUptoSaid : Prop := factDivisorsUptoRow.holds Try.pinned (OpenSpec.upto factDivisorsSpec)

/-- 'dulcimerlaw03.FactCommon', WHERE WHAT IT READS IS OF BULK AT MOST 1048576: true; the input reads as it did. -/
def factCommonUptoRow : OpenClaim := { program := "ytmledddhknphkaa", sum := "e03e24e86466eda5e77edad8a1051498465298ae3dc567a0ac547f0aab2a70a9", func := "dulcimer/dulcimerlaw03.FactCommon", spec := "factCommon", recurses := true, apart := false, narrowed := true }
def FactCommonUptoSaid : Prop := factCommonUptoRow.holds Try.pinned (OpenSpec.upto factCommonSpec)

/-- 'dulcimerlaw03.FactPhi', WHERE WHAT IT READS IS OF BULK AT MOST 1048576: true; the input reads as it did. -/
def factPhiUptoRow : OpenClaim := { program := "ytmledddhknphkaa", sum := "e03e24e86466eda5e77edad8a1051498465298ae3dc567a0ac547f0aab2a70a9", func := "dulcimer/dulcimerlaw03.FactPhi", spec := "factPhi", recurses := true, apart := false, narrowed := true }
def FactPhiUptoSaid : Prop := factPhiUptoRow.holds Try.pinned (OpenSpec.upto factPhiSpec)

end Rows
end Go.Proofs.Ytmledddhknphkaa
