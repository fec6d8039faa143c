/-
  NARROWER THAN 'FOR EVERY INPUT', by the rows' own cells (each row's printed sentence says how): HistAhead: loops · LoadCounts: loops · LoadErrors: loops.
  DERIVED. THE GIVEN ROWS OF THIS SEAT. 9 by the template 'for every input the law returns true; each argument reads behind the call as it read before'; 0 by the template 'total and deterministic' (their statements: YtlbkmheggdgfoaaTotals.lean).
  GIVEN WITH THE SEED: the statements are not yours to turn. If you find one false, say at which input.
  Laid BY PROGRAM, IN A SANDBOX (cutbox-rows.mjs): the forced cells as the released guide's own fill.sh prints them over the translation e9fafc1e7f784fe1… (all of the seat's roots in one cut). By AI agents, Wed Nov 11 2026. No macro, syntax, notation, axiom, sorry.
-/
import Derived.Test.YtlbkmheggdgfoaaChecked
import GoSem.Claim
import GoSem.ClaimJoined
import GoSem.ClaimMapViews
import Derived.JoinedTies
import Derived.KernelRfl
namespace Go.Proofs.Ytlbkmheggdgfoaa
/- THE CELL 'sum', in the pinned program and in every row, IS THE sha256 OF THE DUMP (.gsa) THAT YtlbkmheggdgfoaaProg.lean LOADS. Nothing in Lean hashes anything: it is a label: what it is worth is what the hold of that sum in a sandbox is worth. -/
noncomputable def Try.pinned : Pinned := { name := "ytlbkmheggdgfoaa", sum := "e9fafc1e7f784fe17d1b5a8ddbbf8ef6bb3e3d57ea184c54e1fd21cc99ef7d0c", checked := Try.checked }
namespace Rows
def none {H : Type} : Left H := { results := [], args := [] }

/-- 'dulcimerlaw20.TickGoes': WHATEVER THE INPUT: true; the input reads as it did. -/
def tickGoesSpec : ChangeSpec := { name := "tickGoes", fn := fun _ => fun
  | [d1, d2] => { results := [.lit (.bool true)], args := [d1, d2] }
  | _ => none }
def tickGoesRow : OpenClaim := { program := "ytlbkmheggdgfoaa", sum := "e9fafc1e7f784fe17d1b5a8ddbbf8ef6bb3e3d57ea184c54e1fd21cc99ef7d0c", func := "dulcimer/dulcimerlaw20.TickGoes", spec := "tickGoes", apart := false }
def TickGoesSaid : Prop := tickGoesRow.holds Try.pinned (OpenSpec.ofChange tickGoesSpec)

/-- ITS FALSE NEIGHBOUR: 'it returns false'. Refute it at one input. -/
def tickGoesWrong : ChangeSpec := { name := "tickGoes", fn := fun _ => fun
  | [d1, d2] => { results := [.lit (.bool false)], args := [d1, d2] }
  | _ => none }
def TickGoesWrongFalsely : Prop := tickGoesRow.holds Try.pinned (OpenSpec.ofChange tickGoesWrong)

/-- 'dulcimerlaw20.TickLaps': WHATEVER THE INPUT: true; the input reads as it did. -/
def tickLapsSpec : ChangeSpec := { name := "tickLaps", fn := fun _ => fun
  | [d1, d2, d3] => { results := [.lit (.bool true)], args := [d1, d2, d3] }
  | _ => none }
def tickLapsRow : OpenClaim := { program := "ytlbkmheggdgfoaa", sum := "e9fafc1e7f784fe17d1b5a8ddbbf8ef6bb3e3d57ea184c54e1fd21cc99ef7d0c", func := "dulcimer/dulcimerlaw20.TickLaps", spec := "tickLaps", unfollowed := true, recurses := true, apart := false }
def TickLapsSaid : Prop := tickLapsRow.holds Try.pinned (OpenSpec.ofChange tickLapsSpec)

/-- ITS FALSE NEIGHBOUR: 'it returns false'. Refute it at one input. -/
def tickLapsWrong : ChangeSpec := { name := "tickLaps", fn := fun _ => fun
  | [d1, d2, d3] => { results := [.lit (.bool false)], args := [d1, d2, d3] }
  | _ => none }
def TickLapsWrongFalsely : Prop := tickLapsRow.holds Try.pinned (OpenSpec.ofChange tickLapsWrong)

/-- 'dulcimerlaw20.TickSums': WHATEVER THE INPUT: true; the input reads as it did. -/
def tickSumsSpec : ChangeSpec := { name := "tickSums", fn := fun _ => fun
  | [d1, d2] => { results := [.lit (.bool true)], args := [d1, d2] }
  | _ => none }
def tickSumsRow : OpenClaim := { program := "ytlbkmheggdgfoaa", sum := "e9fafc1e7f784fe17d1b5a8ddbbf8ef6bb3e3d57ea184c54e1fd21cc99ef7d0c", func := "dulcimer/dulcimerlaw20.TickSums", spec := "tickSums", unfollowed := true, recurses := true, apart := false }
def TickSumsSaid : Prop := tickSumsRow.holds Try.pinned (OpenSpec.ofChange tickSumsSpec)

/-- ITS FALSE NEIGHBOUR: 'it returns false'. Refute it at one input. -/
def tickSumsWrong : ChangeSpec := { name := "tickSums", fn := fun _ => fun
  | [d1, d2] => { results := [.lit (.bool false)], args := [d1, d2] }
  | _ => none }
def TickSumsWrongFalsely : Prop := tickSumsRow.holds Try.pinned (OpenSpec.ofChange tickSumsWrong)

/-- 'dulcimerlaw37.HistAhead': WHATEVER THE INPUT: true; the input reads as it did. -/
def histAheadSpec : ChangeSpec := { name := "histAhead", fn := fun _ => fun
  | [d1, d2, d3] => { results := [.lit (.bool true)], args := [d1, d2, d3] }
  | _ => none }
def histAheadRow : OpenClaim := { program := "ytlbkmheggdgfoaa", sum := "e9fafc1e7f784fe17d1b5a8ddbbf8ef6bb3e3d57ea184c54e1fd21cc99ef7d0c", func := "dulcimer/dulcimerlaw37.HistAhead", spec := "histAhead", unfollowed := true, recurses := true, loops := true, apart := false }
def HistAheadSaid : Prop := histAheadRow.holds Try.pinned (OpenSpec.ofChange histAheadSpec)

/-- ITS FALSE NEIGHBOUR: 'it returns false'. Refute it at one input. -/
def histAheadWrong : ChangeSpec := { name := "histAhead", fn := fun _ => fun
  | [d1, d2, d3] => { results := [.lit (.bool false)], args := [d1, d2, d3] }
  | _ => none }
def HistAheadWrongFalsely : Prop := histAheadRow.holds Try.pinned (OpenSpec.ofChange histAheadWrong)

/-- 'dulcimerlaw41.BoundTells': WHATEVER THE INPUT: true; the input reads as it did. -/
def boundTellsSpec : ChangeSpec := { name := "boundTells", fn := fun _ => fun
  | [d1, d2, d3] => { results := [.lit (.bool true)], args := [d1, d2, d3] }
  | _ => none }
def boundTellsRow : OpenClaim := { program := "ytlbkmheggdgfoaa", sum := "e9fafc1e7f784fe17d1b5a8ddbbf8ef6bb3e3d57ea184c54e1fd21cc99ef7d0c", func := "dulcimer/dulcimerlaw41.BoundTells", spec := "boundTells", apart := false }
def BoundTellsSaid : Prop := boundTellsRow.holds Try.pinned (OpenSpec.ofChange boundTellsSpec)

/-- ITS FALSE NEIGHBOUR: 'it returns false'. Refute it at one input. -/
def boundTellsWrong : ChangeSpec := { name := "boundTells", fn := fun _ => fun
  | [d1, d2, d3] => { results := [.lit (.bool false)], args := [d1, d2, d3] }
  | _ => none }
def BoundTellsWrongFalsely : Prop := boundTellsRow.holds Try.pinned (OpenSpec.ofChange boundTellsWrong)

/-- 'dulcimerlaw41.BoundCounts': WHATEVER THE INPUT: true; the input reads as it did. -/
def boundCountsSpec : ChangeSpec := { name := "boundCounts", fn := fun _ => fun
  | [d1, d2] => { results := [.lit (.bool true)], args := [d1, d2] }
  | _ => none }
def boundCountsRow : OpenClaim := { program := "ytlbkmheggdgfoaa", sum := "e9fafc1e7f784fe17d1b5a8ddbbf8ef6bb3e3d57ea184c54e1fd21cc99ef7d0c", func := "dulcimer/dulcimerlaw41.BoundCounts", spec := "boundCounts", unfollowed := true, recurses := true, apart := false }
def BoundCountsSaid : Prop := boundCountsRow.holds Try.pinned (OpenSpec.ofChange boundCountsSpec)

/-- ITS FALSE NEIGHBOUR: 'it returns false'. Refute it at one input. -/
def boundCountsWrong : ChangeSpec := { name := "boundCounts", fn := fun _ => fun
  | [d1, d2] => { results := [.lit (.bool false)], args := [d1, d2] }
  | _ => none }
def BoundCountsWrongFalsely : Prop := boundCountsRow.holds Try.pinned (OpenSpec.ofChange boundCountsWrong)

/-- 'dulcimerlaw45.LoadCounts': WHATEVER THE INPUT: true; the input reads as it did. -/
def loadCountsSpec : ChangeSpec := { name := "loadCounts", fn := fun _ => fun
  | [d] => { results := [.lit (.bool true)], args := [d] }
  | _ => none }
def loadCountsRow : OpenClaim := { program := "ytlbkmheggdgfoaa", sum := "e9fafc1e7f784fe17d1b5a8ddbbf8ef6bb3e3d57ea184c54e1fd21cc99ef7d0c", func := "dulcimer/dulcimerlaw45.LoadCounts", spec := "loadCounts", recurses := true, loops := true, apart := false }
def LoadCountsSaid : Prop := loadCountsRow.holds Try.pinned (OpenSpec.ofChange loadCountsSpec)

/-- ITS FALSE NEIGHBOUR: 'it returns false'. Refute it at one input. -/
def loadCountsWrong : ChangeSpec := { name := "loadCounts", fn := fun _ => fun
  | [d] => { results := [.lit (.bool false)], args := [d] }
  | _ => none }
def LoadCountsWrongFalsely : Prop := loadCountsRow.holds Try.pinned (OpenSpec.ofChange loadCountsWrong)

/-- 'dulcimerlaw45.LoadErrors': WHATEVER THE INPUT: true; the input reads as it did. -/
def loadErrorsSpec : ChangeSpec := { name := "loadErrors", fn := fun _ => fun
  | [d1, d2] => { results := [.lit (.bool true)], args := [d1, d2] }
  | _ => none }
def loadErrorsRow : OpenClaim := { program := "ytlbkmheggdgfoaa", sum := "e9fafc1e7f784fe17d1b5a8ddbbf8ef6bb3e3d57ea184c54e1fd21cc99ef7d0c", func := "dulcimer/dulcimerlaw45.LoadErrors", spec := "loadErrors", recurses := true, loops := true, apart := false }
def LoadErrorsSaid : Prop := loadErrorsRow.holds Try.pinned (OpenSpec.ofChange loadErrorsSpec)

/-- ITS FALSE NEIGHBOUR: 'it returns false'. Refute it at one input. -/
def loadErrorsWrong : ChangeSpec := { name := "loadErrors", fn := fun _ => fun
  | [d1, d2] => { results := [.lit (.bool false)], args := [d1, d2] }
  | _ => none }
def LoadErrorsWrongFalsely : Prop := loadErrorsRow.holds Try.pinned (OpenSpec.ofChange loadErrorsWrong)

/-- 'dulcimerlaw45.LoadSums': WHATEVER THE INPUT: true; the input reads as it did. -/
def loadSumsSpec : ChangeSpec := { name := "loadSums", fn := fun _ => fun
  | [d] => { results := [.lit (.bool true)], args := [d] }
  | _ => none }
def loadSumsRow : OpenClaim := { program := "ytlbkmheggdgfoaa", sum := "e9fafc1e7f784fe17d1b5a8ddbbf8ef6bb3e3d57ea184c54e1fd21cc99ef7d0c", func := "dulcimer/dulcimerlaw45.LoadSums", spec := "loadSums", recurses := true, apart := false }
def LoadSumsSaid : Prop := loadSumsRow.holds Try.pinned (OpenSpec.ofChange loadSumsSpec)

/-- ITS FALSE NEIGHBOUR: 'it returns false'. Refute it at one input. -/
def loadSumsWrong : ChangeSpec := { name := "loadSums", fn := fun _ => fun
  | [d] => { results := [.lit (.bool false)], args := [d] }
  | _ => none }
def LoadSumsWrongFalsely : Prop := loadSumsRow.holds Try.pinned (OpenSpec.ofChange loadSumsWrong)

/- THE SECOND FORM. 'bulk': how many values and letters a reading holds, each counted each time it is reached (what is shared counts as often as it is met; a slice's spare places count too). A statement '..UptoSaid' is the law's where the arguments, and the package variables that the reading takes, are together of bulk at most 1048576: NARROWER than '..Said'. Prove '..Said' where nothing that the law and all that it calls make is longer than what came in: it says more and counts as full. Else prove '..UptoSaid'. A law counts once. -/
mutual
def uptoBulk {H : Type} : DataW H → Nat
  | .lit (.string bytes) => bytes.length + 1
  | .lit _ => 1
  | .nil => 1
  | .ptr d => uptoBulk d + 1
  | .slice elems spare => uptoBulkAll elems + uptoBulkAll spare + 1
  | .agg parts => uptoBulkAll parts + 1
  | .iface _ d => uptoBulk d + 1
  | .map entries => uptoBulkEntries entries + 1
  | .held _ => 1
def uptoBulkAll {H : Type} : List (DataW H) → Nat
  | [] => 0
  | d :: r => uptoBulk d + uptoBulkAll r
def uptoBulkEntries {H : Type} : List (Lit × DataW H) → Nat
  | [] => 0
  | x :: r => uptoBulkEntry x + uptoBulkEntries r
def uptoBulkEntry {H : Type} : Lit × DataW H → Nat
  | (.string bytes, d) => bytes.length + uptoBulk d + 1
  | (_, d) => uptoBulk d + 1
 end
def uptoSmall : (H : Type) → List (DataW H) → Bool := fun _ ds => decide (uptoBulkAll ds ≤ 1048576)
def OpenSpec.upto (s : _root_.Go.ChangeSpec) : _root_.Go.OpenSpec := { _root_.Go.OpenSpec.ofChange s with cond := some uptoSmall }

/-- 'dulcimerlaw20.TickGoes', WHERE WHAT IT READS IS OF BULK AT MOST 1048576: true; the input reads as it did. -/
def tickGoesUptoRow : OpenClaim := { program := "ytlbkmheggdgfoaa", sum := "e9fafc1e7f784fe17d1b5a8ddbbf8ef6bb3e3d57ea184c54e1fd21cc99ef7d0c", func := "dulcimer/dulcimerlaw20.TickGoes", spec := "tickGoes", apart := false, narrowed := true }
def TickGoesUptoSaid : Prop := tickGoesUptoRow.holds Try.pinned (OpenSpec.upto tickGoesSpec)

/-- 'dulcimerlaw20.TickLaps', WHERE WHAT IT READS IS OF BULK AT MOST 1048576: true; the input reads as it did. -/
def tickLapsUptoRow : OpenClaim := { program := "ytlbkmheggdgfoaa", sum := "e9fafc1e7f784fe17d1b5a8ddbbf8ef6bb3e3d57ea184c54e1fd21cc99ef7d0c", func := "dulcimer/dulcimerlaw20.TickLaps", spec := "tickLaps", unfollowed := true, recurses := true, apart := false, narrowed := true }
def TickLapsUptoSaid : Prop := tickLapsUptoRow.holds Try.pinned (OpenSpec.upto tickLapsSpec)

/-- 'dulcimerlaw20.TickSums', WHERE WHAT IT READS IS OF BULK AT MOST 1048576: true; the input reads as it did. -/
def tickSumsUptoRow : OpenClaim := { program := "ytlbkmheggdgfoaa", sum := "e9fafc1e7f784fe17d1b5a8ddbbf8ef6bb3e3d57ea184c54e1fd21cc99ef7d0c", func := "dulcimer/dulcimerlaw20.TickSums", spec := "tickSums", unfollowed := true, recurses := true, apart := false, narrowed := true }
def TickSumsUptoSaid : Prop := tickSumsUptoRow.holds Try.pinned (OpenSpec.upto tickSumsSpec)

/-- 'dulcimerlaw37.HistAhead', WHERE WHAT IT READS IS OF BULK AT MOST 1048576: true; the input reads as it did. -/
def histAheadUptoRow : OpenClaim := { program := "ytlbkmheggdgfoaa", sum := "e9fafc1e7f784fe17d1b5a8ddbbf8ef6bb3e3d57ea184c54e1fd21cc99ef7d0c", func := "dulcimer/dulcimerlaw37.HistAhead", spec := "histAhead", unfollowed := true, recurses := true, loops := true, apart := false, narrowed := true }
def HistAheadUptoSaid : Prop := histAheadUptoRow.holds Try.pinned (OpenSpec.upto histAheadSpec)

/-- 'dulcimerlaw41.BoundTells', WHERE WHAT IT READS IS OF BULK AT MOST 1048576: true; the input reads as it did. -/
def boundTellsUptoRow : OpenClaim := { program := "ytlbkmheggdgfoaa", sum := "e9fafc1e7f784fe17d1b5a8ddbbf8ef6bb3e3d57ea184c54e1fd21cc99ef7d0c", func := "dulcimer/dulcimerlaw41.BoundTells", spec := "boundTells", apart := false, narrowed := true }
def BoundTellsUptoSaid : Prop := boundTellsUptoRow.holds Try.pinned (OpenSpec.upto boundTellsSpec)

/-- 'dulcimerlaw41.BoundCounts', WHERE WHAT IT READS IS OF BULK AT MOST 1048576: true; the input reads as it did. -/
def boundCountsUptoRow : OpenClaim := { program := "ytlbkmheggdgfoaa", sum := "e9fafc1e7f784fe17d1b5a8ddbbf8ef6bb3e3d57ea184c54e1fd21cc99ef7d0c", func := "dulcimer/dulcimerlaw41.BoundCounts", spec := "boundCounts", unfollowed := true, recurses := true, apart := false, narrowed := true }
def BoundCountsUptoSaid : Prop := boundCountsUptoRow.holds Try.pinned (OpenSpec.upto boundCountsSpec)

/-- 'dulcimerlaw45.LoadCounts', WHERE WHAT IT READS IS OF BULK AT MOST 1048576: true; the input reads as it did. -/
def loadCountsUptoRow : OpenClaim := { program := "ytlbkmheggdgfoaa", sum := "e9fafc1e7f784fe17d1b5a8ddbbf8ef6bb3e3d57ea184c54e1fd21cc99ef7d0c", func := "dulcimer/dulcimerlaw45.LoadCounts", spec := "loadCounts", recurses := true, loops := true, apart := false, narrowed := true }
def LoadCountsUptoSaid : Prop := loadCountsUptoRow.holds Try.pinned (OpenSpec.upto loadCountsSpec)

/-- 'dulcimerlaw45.LoadErrors', WHERE WHAT IT READS IS OF BULK AT MOST 1048576: true; the input reads as it did. -/
def loadErrorsUptoRow : OpenClaim := { program := "ytlbkmheggdgfoaa", sum := "e9fafc1e7f784fe17d1b5a8ddbbf8ef6bb3e3d57ea184c54e1fd21cc99ef7d0c", func := "dulcimer/dulcimerlaw45.LoadErrors", spec := "loadErrors", recurses := true, loops := true, apart := false, narrowed := true }
def LoadErrorsUptoSaid : Prop := loadErrorsUptoRow.holds Try.pinned (OpenSpec.upto loadErrorsSpec)

/-- 'dulcimerlaw45.LoadSums', WHERE WHAT IT READS IS OF BULK AT MOST 1048576: true; the input reads as it did. -/
def loadSumsUptoRow : OpenClaim := { program := "ytlbkmheggdgfoaa", sum := "e9fafc1e7f784fe17d1b5a8ddbbf8ef6bb3e3d57ea184c54e1fd21cc99ef7d0c", func := "dulcimer/dulcimerlaw45.LoadSums", spec := "loadSums", recurses := true, apart := false, narrowed := true }
def LoadSumsUptoSaid : Prop := loadSumsUptoRow.holds Try.pinned (OpenSpec.upto loadSumsSpec)

end Rows
end Go.Proofs.Ytlbkmheggdgfoaa
