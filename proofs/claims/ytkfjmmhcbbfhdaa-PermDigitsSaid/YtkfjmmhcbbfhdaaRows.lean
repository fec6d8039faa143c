/-
  No cell of these rows narrows 'for every input' (looked for: loops, veiled, ifaces, maps, wideKeys, modest, calm, conditions, laid).
  DERIVED. THE GIVEN ROWS OF THIS SEAT. 12 by the template 'for every input the law returns true; each argument reads behind the call as it read before'; 0 by the template 'total and deterministic' (their statements: YtkfjmmhcbbfhdaaTotals.lean).
  GIVEN WITH THE SEED: the statements are not yours to turn. If you find one false, say at which input.
  Laid BY PROGRAM, IN A SANDBOX (cutbox-rows.mjs): the forced cells as the released guide's own fill.sh prints them over the translation 28d477f06bf2cc35… (all of the seat's roots in one cut). By AI agents, Wed Nov 11 2026. No macro, syntax, notation, axiom, sorry.
-/
import Derived.Test.YtkfjmmhcbbfhdaaChecked
import GoSem.Claim
import GoSem.ClaimJoined
import GoSem.ClaimMapViews
import Derived.JoinedTies
import Derived.KernelRfl
namespace Go.Proofs.Ytkfjmmhcbbfhdaa
/- THE CELL 'sum', in the pinned program and in every row, IS THE sha256 OF THE DUMP (.gsa) THAT YtkfjmmhcbbfhdaaProg.lean LOADS. Nothing in Lean hashes anything: it is a label: what it is worth is what the hold of that sum in a sandbox is worth. -/
noncomputable def Try.pinned : Pinned := { name := "ytkfjmmhcbbfhdaa", sum := "28d477f06bf2cc35ff18df49ea917938d420e7b363c6881ad33503d3eec82f8e", checked := Try.checked }
namespace Rows
def none {H : Type} : Left H := { results := [], args := [] }

/-- 'dulcimerlaw03.FactTells': WHATEVER THE INPUT: true; the input reads as it did. -/
def factTellsSpec : ChangeSpec := { name := "factTells", fn := fun _ => fun
  | [d] => { results := [.lit (.bool true)], args := [d] }
  | _ => none }
def factTellsRow : OpenClaim := { program := "ytkfjmmhcbbfhdaa", sum := "28d477f06bf2cc35ff18df49ea917938d420e7b363c6881ad33503d3eec82f8e", func := "dulcimer/dulcimerlaw03.FactTells", spec := "factTells", apart := false }
def FactTellsSaid : Prop := factTellsRow.holds Try.pinned (OpenSpec.ofChange factTellsSpec)

/-- ITS FALSE NEIGHBOUR: 'it returns false'. Refute it at one input. -/
def factTellsWrong : ChangeSpec := { name := "factTells", fn := fun _ => fun
  | [d] => { results := [.lit (.bool false)], args := [d] }
  | _ => none }
def FactTellsWrongFalsely : Prop := factTellsRow.holds Try.pinned (OpenSpec.ofChange factTellsWrong)

/-- 'dulcimerlaw03.FactDivisors': WHATEVER THE INPUT: true; the input reads as it did. -/
def factDivisorsSpec : ChangeSpec := { name := "factDivisors", fn := fun _ => fun
  | [d] => { results := [.lit (.bool true)], args := [d] }
  | _ => none }
def factDivisorsRow : OpenClaim := { program := "ytkfjmmhcbbfhdaa", sum := "28d477f06bf2cc35ff18df49ea917938d420e7b363c6881ad33503d3eec82f8e", func := "dulcimer/dulcimerlaw03.FactDivisors", spec := "factDivisors", apart := false }
def FactDivisorsSaid : Prop := factDivisorsRow.holds Try.pinned (OpenSpec.ofChange factDivisorsSpec)

/-- ITS FALSE NEIGHBOUR: 'it returns false'. Refute it at one input. -/
def factDivisorsWrong : ChangeSpec := { name := "factDivisors", fn := fun _ => fun
  | [d] => { results := [.lit (.bool false)], args := [d] }
  | _ => none }
def FactDivisorsWrongFalsely : Prop := factDivisorsRow.holds Try.pinned (OpenSpec.ofChange factDivisorsWrong)

/-- 'dulcimerlaw03.FactPhi': WHATEVER THE INPUT: true; the input reads as it did. -/
def factPhiSpec : ChangeSpec := { name := "factPhi", fn := fun _ => fun
  | [d] => { results := [.lit (.bool true)], args := [d] }
  | _ => none }
def factPhiRow : OpenClaim := { program := "ytkfjmmhcbbfhdaa", sum := "28d477f06bf2cc35ff18df49ea917938d420e7b363c6881ad33503d3eec82f8e", func := "dulcimer/dulcimerlaw03.FactPhi", spec := "factPhi", recurses := true, apart := false }
def FactPhiSaid : Prop := factPhiRow.holds Try.pinned (OpenSpec.ofChange factPhiSpec)

/-- ITS FALSE NEIGHBOUR: 'it returns false'. Refute it at one input. -/
def factPhiWrong : ChangeSpec := { name := "factPhi", fn := fun _ => fun
  | [d] => { results := [.lit (.bool false)], args := [d] }
  | _ => none }
def FactPhiWrongFalsely : Prop := factPhiRow.holds Try.pinned (OpenSpec.ofChange factPhiWrong)

/-- 'dulcimerlaw09.GenTells': WHATEVER THE INPUT: true; the input reads as it did. -/
def genTellsSpec : ChangeSpec := { name := "genTells", fn := fun _ => fun
  | [d] => { results := [.lit (.bool true)], args := [d] }
  | _ => none }
def genTellsRow : OpenClaim := { program := "ytkfjmmhcbbfhdaa", sum := "28d477f06bf2cc35ff18df49ea917938d420e7b363c6881ad33503d3eec82f8e", func := "dulcimer/dulcimerlaw09.GenTells", spec := "genTells", apart := false }
def GenTellsSaid : Prop := genTellsRow.holds Try.pinned (OpenSpec.ofChange genTellsSpec)

/-- ITS FALSE NEIGHBOUR: 'it returns false'. Refute it at one input. -/
def genTellsWrong : ChangeSpec := { name := "genTells", fn := fun _ => fun
  | [d] => { results := [.lit (.bool false)], args := [d] }
  | _ => none }
def GenTellsWrongFalsely : Prop := genTellsRow.holds Try.pinned (OpenSpec.ofChange genTellsWrong)

/-- 'dulcimerlaw09.GenOrders': WHATEVER THE INPUT: true; the input reads as it did. -/
def genOrdersSpec : ChangeSpec := { name := "genOrders", fn := fun _ => fun
  | [d1, d2] => { results := [.lit (.bool true)], args := [d1, d2] }
  | _ => none }
def genOrdersRow : OpenClaim := { program := "ytkfjmmhcbbfhdaa", sum := "28d477f06bf2cc35ff18df49ea917938d420e7b363c6881ad33503d3eec82f8e", func := "dulcimer/dulcimerlaw09.GenOrders", spec := "genOrders", apart := false }
def GenOrdersSaid : Prop := genOrdersRow.holds Try.pinned (OpenSpec.ofChange genOrdersSpec)

/-- ITS FALSE NEIGHBOUR: 'it returns false'. Refute it at one input. -/
def genOrdersWrong : ChangeSpec := { name := "genOrders", fn := fun _ => fun
  | [d1, d2] => { results := [.lit (.bool false)], args := [d1, d2] }
  | _ => none }
def GenOrdersWrongFalsely : Prop := genOrdersRow.holds Try.pinned (OpenSpec.ofChange genOrdersWrong)

/-- 'dulcimerlaw09.GenLogs': WHATEVER THE INPUT: true; the input reads as it did. -/
def genLogsSpec : ChangeSpec := { name := "genLogs", fn := fun _ => fun
  | [d1, d2, d3] => { results := [.lit (.bool true)], args := [d1, d2, d3] }
  | _ => none }
def genLogsRow : OpenClaim := { program := "ytkfjmmhcbbfhdaa", sum := "28d477f06bf2cc35ff18df49ea917938d420e7b363c6881ad33503d3eec82f8e", func := "dulcimer/dulcimerlaw09.GenLogs", spec := "genLogs", apart := false }
def GenLogsSaid : Prop := genLogsRow.holds Try.pinned (OpenSpec.ofChange genLogsSpec)

/-- ITS FALSE NEIGHBOUR: 'it returns false'. Refute it at one input. -/
def genLogsWrong : ChangeSpec := { name := "genLogs", fn := fun _ => fun
  | [d1, d2, d3] => { results := [.lit (.bool false)], args := [d1, d2, d3] }
  | _ => none }
def GenLogsWrongFalsely : Prop := genLogsRow.holds Try.pinned (OpenSpec.ofChange genLogsWrong)

/-- 'dulcimerlaw08.PermTells': WHATEVER THE INPUT: true; the input reads as it did. -/
def permTellsSpec : ChangeSpec := { name := "permTells", fn := fun _ => fun
  | [d1, d2, d3] => { results := [.lit (.bool true)], args := [d1, d2, d3] }
  | _ => none }
def permTellsRow : OpenClaim := { program := "ytkfjmmhcbbfhdaa", sum := "28d477f06bf2cc35ff18df49ea917938d420e7b363c6881ad33503d3eec82f8e", func := "dulcimer/dulcimerlaw08.PermTells", spec := "permTells", apart := false }
def PermTellsSaid : Prop := permTellsRow.holds Try.pinned (OpenSpec.ofChange permTellsSpec)

/-- ITS FALSE NEIGHBOUR: 'it returns false'. Refute it at one input. -/
def permTellsWrong : ChangeSpec := { name := "permTells", fn := fun _ => fun
  | [d1, d2, d3] => { results := [.lit (.bool false)], args := [d1, d2, d3] }
  | _ => none }
def PermTellsWrongFalsely : Prop := permTellsRow.holds Try.pinned (OpenSpec.ofChange permTellsWrong)

/-- 'dulcimerlaw08.PermTables': WHATEVER THE INPUT: true; the input reads as it did. -/
def permTablesSpec : ChangeSpec := { name := "permTables", fn := fun _ => fun
  | [d1, d2] => { results := [.lit (.bool true)], args := [d1, d2] }
  | _ => none }
def permTablesRow : OpenClaim := { program := "ytkfjmmhcbbfhdaa", sum := "28d477f06bf2cc35ff18df49ea917938d420e7b363c6881ad33503d3eec82f8e", func := "dulcimer/dulcimerlaw08.PermTables", spec := "permTables", apart := false }
def PermTablesSaid : Prop := permTablesRow.holds Try.pinned (OpenSpec.ofChange permTablesSpec)

/-- ITS FALSE NEIGHBOUR: 'it returns false'. Refute it at one input. -/
def permTablesWrong : ChangeSpec := { name := "permTables", fn := fun _ => fun
  | [d1, d2] => { results := [.lit (.bool false)], args := [d1, d2] }
  | _ => none }
def PermTablesWrongFalsely : Prop := permTablesRow.holds Try.pinned (OpenSpec.ofChange permTablesWrong)

/-- 'dulcimerlaw08.PermCoprime': WHATEVER THE INPUT: true; the input reads as it did. -/
def permCoprimeSpec : ChangeSpec := { name := "permCoprime", fn := fun _ => fun
  | [d1, d2] => { results := [.lit (.bool true)], args := [d1, d2] }
  | _ => none }
def permCoprimeRow : OpenClaim := { program := "ytkfjmmhcbbfhdaa", sum := "28d477f06bf2cc35ff18df49ea917938d420e7b363c6881ad33503d3eec82f8e", func := "dulcimer/dulcimerlaw08.PermCoprime", spec := "permCoprime", recurses := true, apart := false }
def PermCoprimeSaid : Prop := permCoprimeRow.holds Try.pinned (OpenSpec.ofChange permCoprimeSpec)

/-- ITS FALSE NEIGHBOUR: 'it returns false'. Refute it at one input. -/
def permCoprimeWrong : ChangeSpec := { name := "permCoprime", fn := fun _ => fun
  | [d1, d2] => { results := [.lit (.bool false)], args := [d1, d2] }
  | _ => none }
def PermCoprimeWrongFalsely : Prop := permCoprimeRow.holds Try.pinned (OpenSpec.ofChange permCoprimeWrong)

/-- 'dulcimerlaw08.PermBits': WHATEVER THE INPUT: true; the input reads as it did. -/
def permBitsSpec : ChangeSpec := { name := "permBits", fn := fun _ => fun
  | [d1, d2] => { results := [.lit (.bool true)], args := [d1, d2] }
  | _ => none }
def permBitsRow : OpenClaim := { program := "ytkfjmmhcbbfhdaa", sum := "28d477f06bf2cc35ff18df49ea917938d420e7b363c6881ad33503d3eec82f8e", func := "dulcimer/dulcimerlaw08.PermBits", spec := "permBits", apart := false }
def PermBitsSaid : Prop := permBitsRow.holds Try.pinned (OpenSpec.ofChange permBitsSpec)

/-- ITS FALSE NEIGHBOUR: 'it returns false'. Refute it at one input. -/
def permBitsWrong : ChangeSpec := { name := "permBits", fn := fun _ => fun
  | [d1, d2] => { results := [.lit (.bool false)], args := [d1, d2] }
  | _ => none }
def PermBitsWrongFalsely : Prop := permBitsRow.holds Try.pinned (OpenSpec.ofChange permBitsWrong)

/-- 'dulcimerlaw08.PermDigits': WHATEVER THE INPUT: true; the input reads as it did. -/
def permDigitsSpec : ChangeSpec := { name := "permDigits", fn := fun _ => fun
  | [d] => { results := [.lit (.bool true)], args := [d] }
  | _ => none }
def permDigitsRow : OpenClaim := { program := "ytkfjmmhcbbfhdaa", sum := "28d477f06bf2cc35ff18df49ea917938d420e7b363c6881ad33503d3eec82f8e", func := "dulcimer/dulcimerlaw08.PermDigits", spec := "permDigits", recurses := true, apart := false }
def PermDigitsSaid : Prop := permDigitsRow.holds Try.pinned (OpenSpec.ofChange permDigitsSpec)

/-- ITS FALSE NEIGHBOUR: 'it returns false'. Refute it at one input. -/
def permDigitsWrong : ChangeSpec := { name := "permDigits", fn := fun _ => fun
  | [d] => { results := [.lit (.bool false)], args := [d] }
  | _ => none }
def PermDigitsWrongFalsely : Prop := permDigitsRow.holds Try.pinned (OpenSpec.ofChange permDigitsWrong)

/-- 'dulcimerlaw08.PermRounds': WHATEVER THE INPUT: true; the input reads as it did. -/
def permRoundsSpec : ChangeSpec := { name := "permRounds", fn := fun _ => fun
  | [d1, d2] => { results := [.lit (.bool true)], args := [d1, d2] }
  | _ => none }
def permRoundsRow : OpenClaim := { program := "ytkfjmmhcbbfhdaa", sum := "28d477f06bf2cc35ff18df49ea917938d420e7b363c6881ad33503d3eec82f8e", func := "dulcimer/dulcimerlaw08.PermRounds", spec := "permRounds", apart := false }
def PermRoundsSaid : Prop := permRoundsRow.holds Try.pinned (OpenSpec.ofChange permRoundsSpec)

/-- ITS FALSE NEIGHBOUR: 'it returns false'. Refute it at one input. -/
def permRoundsWrong : ChangeSpec := { name := "permRounds", fn := fun _ => fun
  | [d1, d2] => { results := [.lit (.bool false)], args := [d1, d2] }
  | _ => none }
def PermRoundsWrongFalsely : Prop := permRoundsRow.holds Try.pinned (OpenSpec.ofChange permRoundsWrong)

/- THE SECOND FORM. 'bulk': how many values and letters a reading holds, each counted each time it is reached (what is shared counts as often as it is met; a slice's spare places count too). A statement '..UptoSaid' is the law's where the arguments, and the package variables that the reading takes, are together of bulk at most 1048576: NARROWER than '..Said'. Prove '..Said' where nothing that the law and all that it calls make is longer than what came in: it says more and counts as full. Else prove '..UptoSaid'. A law counts once. -/
mutual
def uptoBulk {H : Type} : DataW H → Nat
  | .lit (.string bytes) => bytes.length + 1
  | .lit _ => 1
  | .nil => 1
  | .ptr d => uptoBulk d + 1
  | .slice elems spare => uptoBulkAll elems + uptoBulkAll spare + 1
  | .agg parts => uptoBulkAll parts + 1
  | .iface _ d => uptoBulk d + 1
  | .map entries => uptoBulkEntries entries + 1
  | .held _ => 1
def uptoBulkAll {H : Type} : List (DataW H) → Nat
  | [] => 0
  | d :: r => uptoBulk d + uptoBulkAll r
def uptoBulkEntries {H : Type} : List (Lit × DataW H) → Nat
  | [] => 0
  | x :: r => uptoBulkEntry x + uptoBulkEntries r
def uptoBulkEntry {H : Type} : Lit × DataW H → Nat
  | (.string bytes, d) => bytes.length + uptoBulk d + 1
  | (_, d) => uptoBulk d + 1
 end
def uptoSmall : (H : Type) → List (DataW H) → Bool := fun _ ds => decide (uptoBulkAll ds ≤ 1048576)
def OpenSpec.upto (s : _root_.Go.ChangeSpec) : _root_.Go.OpenSpec := { _root_.Go.OpenSpec.ofChange s with cond := some uptoSmall }

/-- 'dulcimerlaw03.FactTells', WHERE WHAT IT READS IS OF BULK AT MOST 1048576: true; the input reads as it did. -/
def factTellsUptoRow : OpenClaim := { program := "ytkfjmmhcbbfhdaa", sum := "28d477f06bf2cc35ff18df49ea917938d420e7b363c6881ad33503d3eec82f8e", func := "dulcimer/dulcimerlaw03.FactTells", spec := "factTells", apart := false, narrowed := true }
def FactTellsUptoSaid : Prop := factTellsUptoRow.holds Try.pinned (OpenSpec.upto factTellsSpec)

/-- 'dulcimerlaw03.FactDivisors', WHERE WHAT IT READS IS OF BULK AT MOST 1048576: true; the input reads as it did. -/
def factDivisorsUptoRow : OpenClaim := { program := "ytkfjmmhcbbfhdaa", sum := "28d477f06bf2cc35ff18df49ea917938d420e7b363c6881ad33503d3eec82f8e", func := "dulcimer/dulcimerlaw03.FactDivisors", spec := "factDivisors", apart := false, narrowed := true }
def FactDivisorsUptoSaid : Prop := factDivisorsUptoRow.holds Try.pinned (OpenSpec.upto factDivisorsSpec)

/-- 'dulcimerlaw03.FactPhi', WHERE WHAT IT READS IS OF BULK AT MOST 1048576: true; the input reads as it did. -/
def factPhiUptoRow : OpenClaim := { program := "ytkfjmmhcbbfhdaa", sum := "28d477f06bf2cc35ff18df49ea917938d420e7b363c6881ad33503d3eec82f8e", func := "dulcimer/dulcimerlaw03.FactPhi", spec := "factPhi", recurses := true, apart := false, narrowed := true }
def FactPhiUptoSaid : Prop := factPhiUptoRow.holds Try.pinned (OpenSpec.upto factPhiSpec)

/-- 'dulcimerlaw09.GenTells', WHERE WHAT IT READS IS OF BULK AT MOST 1048576: true; the input reads as it did. -/
def genTellsUptoRow : OpenClaim := { program := "ytkfjmmhcbbfhdaa", sum := "28d477f06bf2cc35ff18df49ea917938d420e7b363c6881ad33503d3eec82f8e", func := "dulcimer/dulcimerlaw09.GenTells", spec := "genTells", apart := false, narrowed := true }
def GenTellsUptoSaid : Prop := genTellsUptoRow.holds Try.pinned (OpenSpec.upto genTellsSpec)

/-- 'dulcimerlaw09.GenOrders', WHERE WHAT IT READS IS OF BULK AT MOST 1048576: true; the input reads as it did. -/
def genOrdersUptoRow : OpenClaim := { program := "ytkfjmmhcbbfhdaa", sum := "28d477f06bf2cc35ff18df49ea917938d420e7b363c6881ad33503d3eec82f8e", func := "dulcimer/dulcimerlaw09.GenOrders", spec := "genOrders", apart := false, narrowed := true }
def GenOrdersUptoSaid : Prop := genOrdersUptoRow.holds Try.pinned (OpenSpec.upto genOrdersSpec)

/-- 'dulcimerlaw09.GenLogs', WHERE WHAT IT READS IS OF BULK AT MOST 1048576: true; the input reads as it did. -/
def genLogsUptoRow : OpenClaim := { program := "ytkfjmmhcbbfhdaa", sum := "28d477f06bf2cc35ff18df49ea917938d420e7b363c6881ad33503d3eec82f8e", func := "dulcimer/dulcimerlaw09.GenLogs", spec := "genLogs", apart := false, narrowed := true }
def GenLogsUptoSaid : Prop := genLogsUptoRow.holds Try.pinned (OpenSpec.upto genLogsSpec)

/-- 'dulcimerlaw08.PermTells', WHERE WHAT IT READS IS OF BULK AT MOST 1048576: true; the input reads as it did. -/
def permTellsUptoRow : OpenClaim := { program := "ytkfjmmhcbbfhdaa", sum := "28d477f06bf2cc35ff18df49ea917938d420e7b363c6881ad33503d3eec82f8e", func := "dulcimer/dulcimerlaw08.PermTells", spec := "permTells", apart := false, narrowed := true }
def PermTellsUptoSaid : Prop := permTellsUptoRow.holds Try.pinned (OpenSpec.upto permTellsSpec)

/-- 'dulcimerlaw08.PermTables', WHERE WHAT IT READS IS OF BULK AT MOST 1048576: true; the input reads as it did. -/
def permTablesUptoRow : OpenClaim := { program := "ytkfjmmhcbbfhdaa", sum := "28d477f06bf2cc35ff18df49ea917938d420e7b363c6881ad33503d3eec82f8e", func := "dulcimer/dulcimerlaw08.PermTables", spec := "permTables", apart := false, narrowed := true }
def PermTablesUptoSaid : Prop := permTablesUptoRow.holds Try.pinned (OpenSpec.upto permTablesSpec)

/-- 'dulcimerlaw08.PermCoprime', WHERE WHAT IT READS IS OF BULK AT MOST 1048576: true; the input reads as it did. -/
def permCoprimeUptoRow : OpenClaim := { program := "ytkfjmmhcbbfhdaa", sum := "28d477f06bf2cc35ff18df49ea917938d420e7b363c6881ad33503d3eec82f8e", func := "dulcimer/dulcimerlaw08.PermCoprime", spec := "permCoprime", recurses := true, apart := false, narrowed := true }
def PermCoprimeUptoSaid : Prop := permCoprimeUptoRow.holds Try.pinned (OpenSpec.upto permCoprimeSpec)

/-- 'dulcimerlaw08.PermBits', WHERE WHAT IT READS IS OF BULK AT MOST 1048576: true; the input reads as it did. -/
def permBitsUptoRow : OpenClaim := { program := "ytkfjmmhcbbfhdaa", sum := "28d477f06bf2cc35ff18df49ea917938d420e7b363c6881ad33503d3eec82f8e", func := "dulcimer/dulcimerlaw08.PermBits", spec := "permBits", apart := false, narrowed := true }
def PermBitsUptoSaid : Prop := permBitsUptoRow.holds Try.pinned (OpenSpec.upto permBitsSpec)

/-- 'dulcimerlaw08.PermDigits', WHERE WHAT IT READS IS OF BULK AT MOST 1048576: true; the input reads as it did. -/
def permDigitsUptoRow : OpenClaim := { program := "ytkfjmmhcbbfhdaa", sum := "28d477f06bf2cc35ff18df49ea917938d420e7b363c6881ad33503d3eec82f8e", func := "dulcimer/dulcimerlaw08.PermDigits", spec := "permDigits", recurses := true, apart := false, narrowed := true }
def PermDigitsUptoSaid : Prop := permDigitsUptoRow.holds Try.pinned (OpenSpec.upto permDigitsSpec)

/-- 'dulcimerlaw08.PermRounds', WHERE WHAT IT READS IS OF BULK AT MOST 1048576: true; the input reads as it did. -/
def permRoundsUptoRow : OpenClaim := { program := "ytkfjmmhcbbfhdaa", sum := "28d477f06bf2cc35ff18df49ea917938d420e7b363c6881ad33503d3eec82f8e", func := "dulcimer/dulcimerlaw08.PermRounds", spec := "permRounds", apart := false, narrowed := true }
def PermRoundsUptoSaid : Prop := permRoundsUptoRow.holds Try.pinned (OpenSpec.upto permRoundsSpec)

end Rows
end Go.Proofs.Ytkfjmmhcbbfhdaa
