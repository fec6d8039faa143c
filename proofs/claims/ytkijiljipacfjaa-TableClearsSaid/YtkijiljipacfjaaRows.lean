/-
  No cell of these rows narrows 'for every input' (looked for: loops, veiled, ifaces, maps, wideKeys, modest, calm, conditions, laid).
  DERIVED. THE GIVEN ROWS OF THIS SEAT. 12 by the template 'for every input the law returns true; each argument reads behind the call as it read before'; 0 by the template 'total and deterministic' (their statements: YtkijiljipacfjaaTotals.lean).
  GIVEN WITH THE SEED: the statements are not yours to turn. If you find one false, say at which input.
  Laid BY PROGRAM, IN A SANDBOX (cutbox-rows.mjs): the forced cells as the released guide's own fill.sh prints them over the translation 84179b25df6093d2… (all of the seat's roots in one cut). By AI agents, Wed Nov 11 2026. No macro, syntax, notation, axiom, sorry.
-/
import Derived.Test.YtkijiljipacfjaaChecked
import GoSem.Claim
import GoSem.ClaimJoined
import GoSem.ClaimMapViews
import Derived.JoinedTies
import Derived.KernelRfl
namespace Go.Proofs.Ytkijiljipacfjaa
/- THE CELL 'sum', in the pinned program and in every row, IS THE sha256 OF THE DUMP (.gsa) THAT YtkijiljipacfjaaProg.lean LOADS. Nothing in Lean hashes anything: it is a label: what it is worth is what the hold of that sum in a sandbox is worth. -/
noncomputable def Try.pinned : Pinned := { name := "ytkijiljipacfjaa", sum := "84179b25df6093d299b8e0192ed2c08043cbaa8b0af95009077626a970fc3fec", checked := Try.checked }
namespace Rows
def none {H : Type} : Left H := { results := [], args := [] }

/-- 'dulcimerlaw07.ConvTells': WHATEVER THE INPUT: true; the input reads as it did. -/
def convTellsSpec : ChangeSpec := { name := "convTells", fn := fun _ => fun
  | [d1, d2] => { results := [.lit (.bool true)], args := [d1, d2] }
  | _ => none }
def convTellsRow : OpenClaim := { program := "ytkijiljipacfjaa", sum := "84179b25df6093d299b8e0192ed2c08043cbaa8b0af95009077626a970fc3fec", func := "dulcimer/dulcimerlaw07.ConvTells", spec := "convTells", inPlace := ["math/bits.Sub64", "math/bits.Add64"], unfollowed := true, recurses := true, plainKeys := false, apart := false }
def ConvTellsSaid : Prop := convTellsRow.holds Try.pinned (OpenSpec.ofChange convTellsSpec)

/-- ITS FALSE NEIGHBOUR: 'it returns false'. Refute it at one input. -/
def convTellsWrong : ChangeSpec := { name := "convTells", fn := fun _ => fun
  | [d1, d2] => { results := [.lit (.bool false)], args := [d1, d2] }
  | _ => none }
def ConvTellsWrongFalsely : Prop := convTellsRow.holds Try.pinned (OpenSpec.ofChange convTellsWrong)

/-- 'dulcimerlaw07.ConvWraps': WHATEVER THE INPUT: true; the input reads as it did. -/
def convWrapsSpec : ChangeSpec := { name := "convWraps", fn := fun _ => fun
  | [d1, d2] => { results := [.lit (.bool true)], args := [d1, d2] }
  | _ => none }
def convWrapsRow : OpenClaim := { program := "ytkijiljipacfjaa", sum := "84179b25df6093d299b8e0192ed2c08043cbaa8b0af95009077626a970fc3fec", func := "dulcimer/dulcimerlaw07.ConvWraps", spec := "convWraps", inPlace := ["math/bits.Sub64", "math/bits.Add64"], unfollowed := true, recurses := true, plainKeys := false, apart := false }
def ConvWrapsSaid : Prop := convWrapsRow.holds Try.pinned (OpenSpec.ofChange convWrapsSpec)

/-- ITS FALSE NEIGHBOUR: 'it returns false'. Refute it at one input. -/
def convWrapsWrong : ChangeSpec := { name := "convWraps", fn := fun _ => fun
  | [d1, d2] => { results := [.lit (.bool false)], args := [d1, d2] }
  | _ => none }
def ConvWrapsWrongFalsely : Prop := convWrapsRow.holds Try.pinned (OpenSpec.ofChange convWrapsWrong)

/-- 'dulcimerlaw07.ConvTheorem': WHATEVER THE INPUT: true; the input reads as it did. -/
def convTheoremSpec : ChangeSpec := { name := "convTheorem", fn := fun _ => fun
  | [d1, d2] => { results := [.lit (.bool true)], args := [d1, d2] }
  | _ => none }
def convTheoremRow : OpenClaim := { program := "ytkijiljipacfjaa", sum := "84179b25df6093d299b8e0192ed2c08043cbaa8b0af95009077626a970fc3fec", func := "dulcimer/dulcimerlaw07.ConvTheorem", spec := "convTheorem", inPlace := ["math/bits.Sub64", "math/bits.Add64"], unfollowed := true, recurses := true, plainKeys := false, apart := false }
def ConvTheoremSaid : Prop := convTheoremRow.holds Try.pinned (OpenSpec.ofChange convTheoremSpec)

/-- ITS FALSE NEIGHBOUR: 'it returns false'. Refute it at one input. -/
def convTheoremWrong : ChangeSpec := { name := "convTheorem", fn := fun _ => fun
  | [d1, d2] => { results := [.lit (.bool false)], args := [d1, d2] }
  | _ => none }
def ConvTheoremWrongFalsely : Prop := convTheoremRow.holds Try.pinned (OpenSpec.ofChange convTheoremWrong)

/-- 'dulcimerlaw07.ConvBig': WHATEVER THE INPUT: true; the input reads as it did. -/
def convBigSpec : ChangeSpec := { name := "convBig", fn := fun _ => fun
  | [d1, d2] => { results := [.lit (.bool true)], args := [d1, d2] }
  | _ => none }
def convBigRow : OpenClaim := { program := "ytkijiljipacfjaa", sum := "84179b25df6093d299b8e0192ed2c08043cbaa8b0af95009077626a970fc3fec", func := "dulcimer/dulcimerlaw07.ConvBig", spec := "convBig", inPlace := ["math/bits.Sub64", "math/bits.Add64"], unfollowed := true, recurses := true, plainKeys := false, apart := false }
def ConvBigSaid : Prop := convBigRow.holds Try.pinned (OpenSpec.ofChange convBigSpec)

/-- ITS FALSE NEIGHBOUR: 'it returns false'. Refute it at one input. -/
def convBigWrong : ChangeSpec := { name := "convBig", fn := fun _ => fun
  | [d1, d2] => { results := [.lit (.bool false)], args := [d1, d2] }
  | _ => none }
def ConvBigWrongFalsely : Prop := convBigRow.holds Try.pinned (OpenSpec.ofChange convBigWrong)

/-- 'dulcimerlaw12.ChirpRows': WHATEVER THE INPUT: true; the input reads as it did. -/
def chirpRowsSpec : ChangeSpec := { name := "chirpRows", fn := fun _ => fun
  | [d1, d2, d3] => { results := [.lit (.bool true)], args := [d1, d2, d3] }
  | _ => none }
def chirpRowsRow : OpenClaim := { program := "ytkijiljipacfjaa", sum := "84179b25df6093d299b8e0192ed2c08043cbaa8b0af95009077626a970fc3fec", func := "dulcimer/dulcimerlaw12.ChirpRows", spec := "chirpRows", inPlace := ["math/bits.Sub64", "math/bits.Add64"], plainKeys := false, apart := false }
def ChirpRowsSaid : Prop := chirpRowsRow.holds Try.pinned (OpenSpec.ofChange chirpRowsSpec)

/-- ITS FALSE NEIGHBOUR: 'it returns false'. Refute it at one input. -/
def chirpRowsWrong : ChangeSpec := { name := "chirpRows", fn := fun _ => fun
  | [d1, d2, d3] => { results := [.lit (.bool false)], args := [d1, d2, d3] }
  | _ => none }
def ChirpRowsWrongFalsely : Prop := chirpRowsRow.holds Try.pinned (OpenSpec.ofChange chirpRowsWrong)

/-- 'dulcimerlaw12.ChirpRooms': WHATEVER THE INPUT: true; the input reads as it did. -/
def chirpRoomsSpec : ChangeSpec := { name := "chirpRooms", fn := fun _ => fun
  | [d1, d2, d3] => { results := [.lit (.bool true)], args := [d1, d2, d3] }
  | _ => none }
def chirpRoomsRow : OpenClaim := { program := "ytkijiljipacfjaa", sum := "84179b25df6093d299b8e0192ed2c08043cbaa8b0af95009077626a970fc3fec", func := "dulcimer/dulcimerlaw12.ChirpRooms", spec := "chirpRooms", inPlace := ["math/bits.Sub64", "math/bits.Add64"], plainKeys := false, apart := false }
def ChirpRoomsSaid : Prop := chirpRoomsRow.holds Try.pinned (OpenSpec.ofChange chirpRoomsSpec)

/-- ITS FALSE NEIGHBOUR: 'it returns false'. Refute it at one input. -/
def chirpRoomsWrong : ChangeSpec := { name := "chirpRooms", fn := fun _ => fun
  | [d1, d2, d3] => { results := [.lit (.bool false)], args := [d1, d2, d3] }
  | _ => none }
def ChirpRoomsWrongFalsely : Prop := chirpRoomsRow.holds Try.pinned (OpenSpec.ofChange chirpRoomsWrong)

/-- 'dulcimerlaw12.ChirpEnds': WHATEVER THE INPUT: true; the input reads as it did. -/
def chirpEndsSpec : ChangeSpec := { name := "chirpEnds", fn := fun _ => fun
  | [d1, d2, d3] => { results := [.lit (.bool true)], args := [d1, d2, d3] }
  | _ => none }
def chirpEndsRow : OpenClaim := { program := "ytkijiljipacfjaa", sum := "84179b25df6093d299b8e0192ed2c08043cbaa8b0af95009077626a970fc3fec", func := "dulcimer/dulcimerlaw12.ChirpEnds", spec := "chirpEnds", inPlace := ["math/bits.Sub64", "math/bits.Add64"], plainKeys := false, apart := false }
def ChirpEndsSaid : Prop := chirpEndsRow.holds Try.pinned (OpenSpec.ofChange chirpEndsSpec)

/-- ITS FALSE NEIGHBOUR: 'it returns false'. Refute it at one input. -/
def chirpEndsWrong : ChangeSpec := { name := "chirpEnds", fn := fun _ => fun
  | [d1, d2, d3] => { results := [.lit (.bool false)], args := [d1, d2, d3] }
  | _ => none }
def ChirpEndsWrongFalsely : Prop := chirpEndsRow.holds Try.pinned (OpenSpec.ofChange chirpEndsWrong)

/-- 'dulcimerlaw12.ChirpTransforms': WHATEVER THE INPUT: true; the input reads as it did. -/
def chirpTransformsSpec : ChangeSpec := { name := "chirpTransforms", fn := fun _ => fun
  | [d1, d2, d3] => { results := [.lit (.bool true)], args := [d1, d2, d3] }
  | _ => none }
def chirpTransformsRow : OpenClaim := { program := "ytkijiljipacfjaa", sum := "84179b25df6093d299b8e0192ed2c08043cbaa8b0af95009077626a970fc3fec", func := "dulcimer/dulcimerlaw12.ChirpTransforms", spec := "chirpTransforms", inPlace := ["math/bits.Sub64", "math/bits.Add64"], plainKeys := false, apart := false }
def ChirpTransformsSaid : Prop := chirpTransformsRow.holds Try.pinned (OpenSpec.ofChange chirpTransformsSpec)

/-- ITS FALSE NEIGHBOUR: 'it returns false'. Refute it at one input. -/
def chirpTransformsWrong : ChangeSpec := { name := "chirpTransforms", fn := fun _ => fun
  | [d1, d2, d3] => { results := [.lit (.bool false)], args := [d1, d2, d3] }
  | _ => none }
def ChirpTransformsWrongFalsely : Prop := chirpTransformsRow.holds Try.pinned (OpenSpec.ofChange chirpTransformsWrong)

/-- 'dulcimerlaw16.TableMakes': WHATEVER THE INPUT: true; the input reads as it did. -/
def tableMakesSpec : ChangeSpec := { name := "tableMakes", fn := fun _ => fun
  | [d] => { results := [.lit (.bool true)], args := [d] }
  | _ => none }
def tableMakesRow : OpenClaim := { program := "ytkijiljipacfjaa", sum := "84179b25df6093d299b8e0192ed2c08043cbaa8b0af95009077626a970fc3fec", func := "dulcimer/dulcimerlaw16.TableMakes", spec := "tableMakes", inPlace := ["math/bits.Sub64", "math/bits.Add64"], unfollowed := true, recurses := true, plainKeys := false, apart := false }
def TableMakesSaid : Prop := tableMakesRow.holds Try.pinned (OpenSpec.ofChange tableMakesSpec)

/-- ITS FALSE NEIGHBOUR: 'it returns false'. Refute it at one input. -/
def tableMakesWrong : ChangeSpec := { name := "tableMakes", fn := fun _ => fun
  | [d] => { results := [.lit (.bool false)], args := [d] }
  | _ => none }
def TableMakesWrongFalsely : Prop := tableMakesRow.holds Try.pinned (OpenSpec.ofChange tableMakesWrong)

/-- 'dulcimerlaw16.TableFills': WHATEVER THE INPUT: true; the input reads as it did. -/
def tableFillsSpec : ChangeSpec := { name := "tableFills", fn := fun _ => fun
  | [d1, d2] => { results := [.lit (.bool true)], args := [d1, d2] }
  | _ => none }
def tableFillsRow : OpenClaim := { program := "ytkijiljipacfjaa", sum := "84179b25df6093d299b8e0192ed2c08043cbaa8b0af95009077626a970fc3fec", func := "dulcimer/dulcimerlaw16.TableFills", spec := "tableFills", inPlace := ["math/bits.Sub64", "math/bits.Add64"], unfollowed := true, recurses := true, plainKeys := false, apart := false }
def TableFillsSaid : Prop := tableFillsRow.holds Try.pinned (OpenSpec.ofChange tableFillsSpec)

/-- ITS FALSE NEIGHBOUR: 'it returns false'. Refute it at one input. -/
def tableFillsWrong : ChangeSpec := { name := "tableFills", fn := fun _ => fun
  | [d1, d2] => { results := [.lit (.bool false)], args := [d1, d2] }
  | _ => none }
def TableFillsWrongFalsely : Prop := tableFillsRow.holds Try.pinned (OpenSpec.ofChange tableFillsWrong)

/-- 'dulcimerlaw16.TableClears': WHATEVER THE INPUT: true; the input reads as it did. -/
def tableClearsSpec : ChangeSpec := { name := "tableClears", fn := fun _ => fun
  | [d] => { results := [.lit (.bool true)], args := [d] }
  | _ => none }
def tableClearsRow : OpenClaim := { program := "ytkijiljipacfjaa", sum := "84179b25df6093d299b8e0192ed2c08043cbaa8b0af95009077626a970fc3fec", func := "dulcimer/dulcimerlaw16.TableClears", spec := "tableClears", inPlace := ["math/bits.Sub64", "math/bits.Add64"], unfollowed := true, recurses := true, plainKeys := false, apart := false }
def TableClearsSaid : Prop := tableClearsRow.holds Try.pinned (OpenSpec.ofChange tableClearsSpec)

/-- ITS FALSE NEIGHBOUR: 'it returns false'. Refute it at one input. -/
def tableClearsWrong : ChangeSpec := { name := "tableClears", fn := fun _ => fun
  | [d] => { results := [.lit (.bool false)], args := [d] }
  | _ => none }
def TableClearsWrongFalsely : Prop := tableClearsRow.holds Try.pinned (OpenSpec.ofChange tableClearsWrong)

/-- 'dulcimerlaw15.NeedNames': WHATEVER THE INPUT: true; the input reads as it did. -/
def needNamesSpec : ChangeSpec := { name := "needNames", fn := fun _ => fun
  | [d1, d2] => { results := [.lit (.bool true)], args := [d1, d2] }
  | _ => none }
def needNamesRow : OpenClaim := { program := "ytkijiljipacfjaa", sum := "84179b25df6093d299b8e0192ed2c08043cbaa8b0af95009077626a970fc3fec", func := "dulcimer/dulcimerlaw15.NeedNames", spec := "needNames", unfollowed := true, recurses := true, plainKeys := false, apart := false }
def NeedNamesSaid : Prop := needNamesRow.holds Try.pinned (OpenSpec.ofChange needNamesSpec)

/-- ITS FALSE NEIGHBOUR: 'it returns false'. Refute it at one input. -/
def needNamesWrong : ChangeSpec := { name := "needNames", fn := fun _ => fun
  | [d1, d2] => { results := [.lit (.bool false)], args := [d1, d2] }
  | _ => none }
def NeedNamesWrongFalsely : Prop := needNamesRow.holds Try.pinned (OpenSpec.ofChange needNamesWrong)

/- THE SECOND FORM. 'bulk': how many values and letters a reading holds, each counted each time it is reached (what is shared counts as often as it is met; a slice's spare places count too). A statement '..UptoSaid' is the law's where the arguments, and the package variables that the reading takes, are together of bulk at most 1048576: NARROWER than '..Said'. Prove '..Said' where nothing that the law and all that it calls make is longer than what came in: it says more and counts as full. Else prove '..UptoSaid'. A law counts once. -/
mutual
def uptoBulk {H : Type} : DataW H → Nat
  | .lit (.string bytes) => bytes.length + 1
  | .lit _ => 1
  | .nil => 1
  | .ptr d => uptoBulk d + 1
  | .slice elems spare => uptoBulkAll elems + uptoBulkAll spare + 1
  | .agg parts => uptoBulkAll parts + 1
  | .iface _ d => uptoBulk d + 1
  | .map entries => uptoBulkEntries entries + 1
  | .held _ => 1
def uptoBulkAll {H : Type} : List (DataW H) → Nat
  | [] => 0
  | d :: r => uptoBulk d + uptoBulkAll r
def uptoBulkEntries {H : Type} : List (Lit × DataW H) → Nat
  | [] => 0
  | x :: r => uptoBulkEntry x + uptoBulkEntries r
def uptoBulkEntry {H : Type} : Lit × DataW H → Nat
  | (.string bytes, d) => bytes.length + uptoBulk d + 1
  | (_, d) => uptoBulk d + 1
 end
def uptoSmall : (H : Type) → List (DataW H) → Bool := fun _ ds => decide (uptoBulkAll ds ≤ 1048576)
def OpenSpec.upto (s : _root_.Go.ChangeSpec) : _root_.Go.OpenSpec := { _root_.Go.OpenSpec.ofChange s with cond := some uptoSmall }

/-- 'dulcimerlaw07.ConvTells', WHERE WHAT IT READS IS OF BULK AT MOST 1048576: true; the input reads as it did. -/
def convTellsUptoRow : OpenClaim := { program := "ytkijiljipacfjaa", sum := "84179b25df6093d299b8e0192ed2c08043cbaa8b0af95009077626a970fc3fec", func := "dulcimer/dulcimerlaw07.ConvTells", spec := "convTells", inPlace := ["math/bits.Sub64", "math/bits.Add64"], unfollowed := true, recurses := true, plainKeys := false, apart := false, narrowed := true }
def ConvTellsUptoSaid : Prop := convTellsUptoRow.holds Try.pinned (OpenSpec.upto convTellsSpec)

/-- 'dulcimerlaw07.ConvWraps', WHERE WHAT IT READS IS OF BULK AT MOST 1048576: true; the input reads as it did. -/
def convWrapsUptoRow : OpenClaim := { program := "ytkijiljipacfjaa", sum := "84179b25df6093d299b8e0192ed2c08043cbaa8b0af95009077626a970fc3fec", func := "dulcimer/dulcimerlaw07.ConvWraps", spec := "convWraps", inPlace := ["math/bits.Sub64", "math/bits.Add64"], unfollowed := true, recurses := true, plainKeys := false, apart := false, narrowed := true }
def ConvWrapsUptoSaid : Prop := convWrapsUptoRow.holds Try.pinned (OpenSpec.upto convWrapsSpec)

/-- 'dulcimerlaw07.ConvTheorem', WHERE WHAT IT READS IS OF BULK AT MOST 1048576: true; the input reads as it did. -/
def convTheoremUptoRow : OpenClaim := { program := "ytkijiljipacfjaa", sum := "84179b25df6093d299b8e0192ed2c08043cbaa8b0af95009077626a970fc3fec", func := "dulcimer/dulcimerlaw07.ConvTheorem", spec := "convTheorem", inPlace := ["math/bits.Sub64", "math/bits.Add64"], unfollowed := true, recurses := true, plainKeys := false, apart := false, narrowed := true }
def ConvTheoremUptoSaid : Prop := convTheoremUptoRow.holds Try.pinned (OpenSpec.upto convTheoremSpec)

/-- 'dulcimerlaw07.ConvBig', WHERE WHAT IT READS IS OF BULK AT MOST 1048576: true; the input reads as it did. -/
def convBigUptoRow : OpenClaim := { program := "ytkijiljipacfjaa", sum := "84179b25df6093d299b8e0192ed2c08043cbaa8b0af95009077626a970fc3fec", func := "dulcimer/dulcimerlaw07.ConvBig", spec := "convBig", inPlace := ["math/bits.Sub64", "math/bits.Add64"], unfollowed := true, recurses := true, plainKeys := false, apart := false, narrowed := true }
def ConvBigUptoSaid : Prop := convBigUptoRow.holds Try.pinned (OpenSpec.upto convBigSpec)

/-- 'dulcimerlaw12.ChirpRows', WHERE WHAT IT READS IS OF BULK AT MOST 1048576: true; the input reads as it did. -/
def chirpRowsUptoRow : OpenClaim := { program := "ytkijiljipacfjaa", sum := "84179b25df6093d299b8e0192ed2c08043cbaa8b0af95009077626a970fc3fec", func := "dulcimer/dulcimerlaw12.ChirpRows", spec := "chirpRows", inPlace := ["math/bits.Sub64", "math/bits.Add64"], plainKeys := false, apart := false, narrowed := true }
def ChirpRowsUptoSaid : Prop := chirpRowsUptoRow.holds Try.pinned (OpenSpec.upto chirpRowsSpec)

/-- 'dulcimerlaw12.ChirpRooms', WHERE WHAT IT READS IS OF BULK AT MOST 1048576: true; the input reads as it did. -/
def chirpRoomsUptoRow : OpenClaim := { program := "ytkijiljipacfjaa", sum := "84179b25df6093d299b8e0192ed2c08043cbaa8b0af95009077626a970fc3fec", func := "dulcimer/dulcimerlaw12.ChirpRooms", spec := "chirpRooms", inPlace := ["math/bits.Sub64", "math/bits.Add64"], plainKeys := false, apart := false, narrowed := true }
def ChirpRoomsUptoSaid : Prop := chirpRoomsUptoRow.holds Try.pinned (OpenSpec.upto chirpRoomsSpec)

/-- 'dulcimerlaw12.ChirpEnds', WHERE WHAT IT READS IS OF BULK AT MOST 1048576: true; the input reads as it did. -/
def chirpEndsUptoRow : OpenClaim := { program := "ytkijiljipacfjaa", sum := "84179b25df6093d299b8e0192ed2c08043cbaa8b0af95009077626a970fc3fec", func := "dulcimer/dulcimerlaw12.ChirpEnds", spec := "chirpEnds", inPlace := ["math/bits.Sub64", "math/bits.Add64"], plainKeys := false, apart := false, narrowed := true }
def ChirpEndsUptoSaid : Prop := chirpEndsUptoRow.holds Try.pinned (OpenSpec.upto chirpEndsSpec)

/-- 'dulcimerlaw12.ChirpTransforms', WHERE WHAT IT READS IS OF BULK AT MOST 1048576: true; the input reads as it did. -/
def chirpTransformsUptoRow : OpenClaim := { program := "ytkijiljipacfjaa", sum := "84179b25df6093d299b8e0192ed2c08043cbaa8b0af95009077626a970fc3fec", func := "dulcimer/dulcimerlaw12.ChirpTransforms", spec := "chirpTransforms", inPlace := ["math/bits.Sub64", "math/bits.Add64"], plainKeys := false, apart := false, narrowed := true }
def ChirpTransformsUptoSaid : Prop := chirpTransformsUptoRow.holds Try.pinned (OpenSpec.upto chirpTransformsSpec)

/-- 'dulcimerlaw16.TableMakes', WHERE WHAT IT READS IS OF BULK AT MOST 1048576: true; the input reads as it did. -/
def tableMakesUptoRow : OpenClaim := { program := "ytkijiljipacfjaa", sum := "84179b25df6093d299b8e0192ed2c08043cbaa8b0af95009077626a970fc3fec", func := "dulcimer/dulcimerlaw16.TableMakes", spec := "tableMakes", inPlace := ["math/bits.Sub64", "math/bits.Add64"], unfollowed := true, recurses := true, plainKeys := false, apart := false, narrowed := true }
def TableMakesUptoSaid : Prop := tableMakesUptoRow.holds Try.pinned (OpenSpec.upto tableMakesSpec)

/-- 'dulcimerlaw16.TableFills', WHERE WHAT IT READS IS OF BULK AT MOST 1048576: true; the input reads as it did. -/
def tableFillsUptoRow : OpenClaim := { program := "ytkijiljipacfjaa", sum := "84179b25df6093d299b8e0192ed2c08043cbaa8b0af95009077626a970fc3fec", func := "dulcimer/dulcimerlaw16.TableFills", spec := "tableFills", inPlace := ["math/bits.Sub64", "math/bits.Add64"], unfollowed := true, recurses := true, plainKeys := false, apart := false, narrowed := true }
def TableFillsUptoSaid : Prop := tableFillsUptoRow.holds Try.pinned (OpenSpec.upto tableFillsSpec)

/-- 'dulcimerlaw16.TableClears', WHERE WHAT IT READS IS OF BULK AT MOST 1048576: true; the input reads as it did. -/
def tableClearsUptoRow : OpenClaim := { program := "ytkijiljipacfjaa", sum := "84179b25df6093d299b8e0192ed2c08043cbaa8b0af95009077626a970fc3fec", func := "dulcimer/dulcimerlaw16.TableClears", spec := "tableClears", inPlace := ["math/bits.Sub64", "math/bits.Add64"], unfollowed := true, recurses := true, plainKeys := false, apart := false, narrowed := true }
def TableClearsUptoSaid : Prop := tableClearsUptoRow.holds Try.pinned (OpenSpec.upto tableClearsSpec)

/-- 'dulcimerlaw15.NeedNames', WHERE WHAT IT READS IS OF BULK AT MOST 1048576: true; the input reads as it did. -/
def needNamesUptoRow : OpenClaim := { program := "ytkijiljipacfjaa", sum := "84179b25df6093d299b8e0192ed2c08043cbaa8b0af95009077626a970fc3fec", func := "dulcimer/dulcimerlaw15.NeedNames", spec := "needNames", unfollowed := true, recurses := true, plainKeys := false, apart := false, narrowed := true }
def NeedNamesUptoSaid : Prop := needNamesUptoRow.holds Try.pinned (OpenSpec.upto needNamesSpec)

end Rows
end Go.Proofs.Ytkijiljipacfjaa
