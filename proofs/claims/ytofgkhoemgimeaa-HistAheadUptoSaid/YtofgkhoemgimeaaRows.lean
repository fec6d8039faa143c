/-
  NARROWER THAN 'FOR EVERY INPUT', by the rows' own cells (each row's printed sentence says how): HistTells: loops · HistCuts: loops · HistAhead: loops · SlimDiffs: loops.
  DERIVED. THE GIVEN ROWS OF THIS SEAT. 4 by the template 'for every input the law returns true; each argument reads behind the call as it read before'; 0 by the template 'total and deterministic' (their statements: YtofgkhoemgimeaaTotals.lean).
  GIVEN WITH THE SEED: the statements are not yours to turn. If you find one false, say at which input.
  Laid BY PROGRAM, IN A SANDBOX (cutbox-rows.mjs): the forced cells as the released guide's own fill.sh prints them over the translation fb95587d02ba57cc… (all of the seat's roots in one cut). By AI agents, Wed Nov 11 2026. No macro, syntax, notation, axiom, sorry.
-/
import Derived.Test.YtofgkhoemgimeaaChecked
import GoSem.Claim
import GoSem.ClaimJoined
import GoSem.ClaimMapViews
import Derived.JoinedTies
import Derived.KernelRfl
namespace Go.Proofs.Ytofgkhoemgimeaa
/- THE CELL 'sum', in the pinned program and in every row, IS THE sha256 OF THE DUMP (.gsa) THAT YtofgkhoemgimeaaProg.lean LOADS. Nothing in Lean hashes anything: it is a label: what it is worth is what the hold of that sum in a sandbox is worth. -/
noncomputable def Try.pinned : Pinned := { name := "ytofgkhoemgimeaa", sum := "fb95587d02ba57cc49edc87d89adb805a6c4ed75f6d5d8e24f1037098054ea6d", checked := Try.checked }
namespace Rows
def none {H : Type} : Left H := { results := [], args := [] }

/-- 'dulcimerlaw37.HistTells': WHATEVER THE INPUT: true; the input reads as it did. -/
def histTellsSpec : ChangeSpec := { name := "histTells", fn := fun _ => fun
  | [d] => { results := [.lit (.bool true)], args := [d] }
  | _ => none }
def histTellsRow : OpenClaim := { program := "ytofgkhoemgimeaa", sum := "fb95587d02ba57cc49edc87d89adb805a6c4ed75f6d5d8e24f1037098054ea6d", func := "dulcimer/dulcimerlaw37.HistTells", spec := "histTells", unfollowed := true, recurses := true, loops := true, plainKeys := false, apart := false }
def HistTellsSaid : Prop := histTellsRow.holds Try.pinned (OpenSpec.ofChange histTellsSpec)

/-- ITS FALSE NEIGHBOUR: 'it returns false'. Refute it at one input. -/
def histTellsWrong : ChangeSpec := { name := "histTells", fn := fun _ => fun
  | [d] => { results := [.lit (.bool false)], args := [d] }
  | _ => none }
def HistTellsWrongFalsely : Prop := histTellsRow.holds Try.pinned (OpenSpec.ofChange histTellsWrong)

/-- 'dulcimerlaw37.HistCuts': WHATEVER THE INPUT: true; the input reads as it did. -/
def histCutsSpec : ChangeSpec := { name := "histCuts", fn := fun _ => fun
  | [d1, d2] => { results := [.lit (.bool true)], args := [d1, d2] }
  | _ => none }
def histCutsRow : OpenClaim := { program := "ytofgkhoemgimeaa", sum := "fb95587d02ba57cc49edc87d89adb805a6c4ed75f6d5d8e24f1037098054ea6d", func := "dulcimer/dulcimerlaw37.HistCuts", spec := "histCuts", unfollowed := true, recurses := true, loops := true, plainKeys := false, apart := false }
def HistCutsSaid : Prop := histCutsRow.holds Try.pinned (OpenSpec.ofChange histCutsSpec)

/-- ITS FALSE NEIGHBOUR: 'it returns false'. Refute it at one input. -/
def histCutsWrong : ChangeSpec := { name := "histCuts", fn := fun _ => fun
  | [d1, d2] => { results := [.lit (.bool false)], args := [d1, d2] }
  | _ => none }
def HistCutsWrongFalsely : Prop := histCutsRow.holds Try.pinned (OpenSpec.ofChange histCutsWrong)

/-- 'dulcimerlaw37.HistAhead': WHATEVER THE INPUT: true; the input reads as it did. -/
def histAheadSpec : ChangeSpec := { name := "histAhead", fn := fun _ => fun
  | [d1, d2, d3] => { results := [.lit (.bool true)], args := [d1, d2, d3] }
  | _ => none }
def histAheadRow : OpenClaim := { program := "ytofgkhoemgimeaa", sum := "fb95587d02ba57cc49edc87d89adb805a6c4ed75f6d5d8e24f1037098054ea6d", func := "dulcimer/dulcimerlaw37.HistAhead", spec := "histAhead", unfollowed := true, recurses := true, loops := true, plainKeys := false, apart := false }
def HistAheadSaid : Prop := histAheadRow.holds Try.pinned (OpenSpec.ofChange histAheadSpec)

/-- ITS FALSE NEIGHBOUR: 'it returns false'. Refute it at one input. -/
def histAheadWrong : ChangeSpec := { name := "histAhead", fn := fun _ => fun
  | [d1, d2, d3] => { results := [.lit (.bool false)], args := [d1, d2, d3] }
  | _ => none }
def HistAheadWrongFalsely : Prop := histAheadRow.holds Try.pinned (OpenSpec.ofChange histAheadWrong)

/-- 'dulcimerlaw46.SlimDiffs': WHATEVER THE INPUT: true; the input reads as it did. -/
def slimDiffsSpec : ChangeSpec := { name := "slimDiffs", fn := fun _ => fun
  | [d1, d2, d3] => { results := [.lit (.bool true)], args := [d1, d2, d3] }
  | _ => none }
def slimDiffsRow : OpenClaim := { program := "ytofgkhoemgimeaa", sum := "fb95587d02ba57cc49edc87d89adb805a6c4ed75f6d5d8e24f1037098054ea6d", func := "dulcimer/dulcimerlaw46.SlimDiffs", spec := "slimDiffs", unfollowed := true, recurses := true, loops := true, plainKeys := false, apart := false }
def SlimDiffsSaid : Prop := slimDiffsRow.holds Try.pinned (OpenSpec.ofChange slimDiffsSpec)

/-- ITS FALSE NEIGHBOUR: 'it returns false'. Refute it at one input. -/
def slimDiffsWrong : ChangeSpec := { name := "slimDiffs", fn := fun _ => fun
  | [d1, d2, d3] => { results := [.lit (.bool false)], args := [d1, d2, d3] }
  | _ => none }
def SlimDiffsWrongFalsely : Prop := slimDiffsRow.holds Try.pinned (OpenSpec.ofChange slimDiffsWrong)

/- THE SECOND FORM. 'bulk': how many values and letters a reading holds, each counted each time it is reached (what is shared counts as often as it is met; a slice's spare places count too). A statement '..UptoSaid' is the law's where the arguments, and the package variables that the reading takes, are together of bulk at most 1048576: NARROWER than '..Said'. Prove '..Said' where nothing that the law and all that it calls make is longer than what came in: it says more and counts as full. Else prove '..UptoSaid'. A law counts once. -/
mutual
def uptoBulk {H : Type} : DataW H → Nat
  | .lit (.string bytes) => bytes.length + 1
  | .lit _ => 1
  | .nil => 1
  | .ptr d => uptoBulk d + 1
  | .slice elems spare => uptoBulkAll elems + uptoBulkAll spare + 1
  | .agg parts => uptoBulkAll parts + 1
  | .iface _ d => uptoBulk d + 1
  | .map entries => uptoBulkEntries entries + 1
  | .held _ => 1
def uptoBulkAll {H : Type} : List (DataW H) → Nat
  | [] => 0
  | d :: r => uptoBulk d + uptoBulkAll r
def uptoBulkEntries {H : Type} : List (Lit × DataW H) → Nat
  | [] => 0
  | x :: r => uptoBulkEntry x + uptoBulkEntries r
def uptoBulkEntry {H : Type} : Lit × DataW H → Nat
  | (.string bytes, d) => bytes.length + uptoBulk d + 1
  | (_, d) => uptoBulk d + 1
 end
def uptoSmall : (H : Type) → List (DataW H) → Bool := fun _ ds => decide (uptoBulkAll ds ≤ 1048576)
def OpenSpec.upto (s : _root_.Go.ChangeSpec) : _root_.Go.OpenSpec := { _root_.Go.OpenSpec.ofChange s with cond := some uptoSmall }

/-- 'dulcimerlaw37.HistTells', WHERE WHAT IT READS IS OF BULK AT MOST 1048576: true; the input reads as it did. -/
def histTellsUptoRow : OpenClaim := { program := "ytofgkhoemgimeaa", sum := "fb95587d02ba57cc49edc87d89adb805a6c4ed75f6d5d8e24f1037098054ea6d", func := "dulcimer/dulcimerlaw37.HistTells", spec := "histTells", unfollowed := true, recurses := true, loops := true, plainKeys := false, apart := false, narrowed := true }
def HistTellsUptoSaid : Prop := histTellsUptoRow.holds Try.pinned (OpenSpec.upto histTellsSpec)

/-- 'dulcimerlaw37.HistCuts', WHERE WHAT IT READS IS OF BULK AT MOST 1048576: true; the input reads as it did. -/
def histCutsUptoRow : OpenClaim := { program := "ytofgkhoemgimeaa", sum := "fb95587d02ba57cc49edc87d89adb805a6c4ed75f6d5d8e24f1037098054ea6d", func := "dulcimer/dulcimerlaw37.HistCuts", spec := "histCuts", unfollowed := true, recurses := true, loops := true, plainKeys := false, apart := false, narrowed := true }
def HistCutsUptoSaid : Prop := histCutsUptoRow.holds Try.pinned (OpenSpec.upto histCutsSpec)

/-- 'dulcimerlaw37.HistAhead', WHERE WHAT IT READS IS OF BULK AT MOST 1048576: true; the input reads as it did. -/
def histAheadUptoRow : OpenClaim := { program := "ytofgkhoemgimeaa", sum := "fb95587d02ba57cc49edc87d89adb805a6c4ed75f6d5d8e24f1037098054ea6d", func := "dulcimer/dulcimerlaw37.HistAhead", spec := "histAhead", unfollowed := true, recurses := true, loops := true, plainKeys := false, apart := false, narrowed := true }
def HistAheadUptoSaid : Prop := histAheadUptoRow.holds Try.pinned (OpenSpec.upto histAheadSpec)

/-- 'dulcimerlaw46.SlimDiffs', WHERE WHAT IT READS IS OF BULK AT MOST 1048576: true; the input reads as it did. -/
def slimDiffsUptoRow : OpenClaim := { program := "ytofgkhoemgimeaa", sum := "fb95587d02ba57cc49edc87d89adb805a6c4ed75f6d5d8e24f1037098054ea6d", func := "dulcimer/dulcimerlaw46.SlimDiffs", spec := "slimDiffs", unfollowed := true, recurses := true, loops := true, plainKeys := false, apart := false, narrowed := true }
def SlimDiffsUptoSaid : Prop := slimDiffsUptoRow.holds Try.pinned (OpenSpec.upto slimDiffsSpec)

end Rows
end Go.Proofs.Ytofgkhoemgimeaa
