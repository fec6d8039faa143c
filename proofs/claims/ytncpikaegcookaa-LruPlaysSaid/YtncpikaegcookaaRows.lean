/-
  No cell of these rows narrows 'for every input' (looked for: loops, veiled, ifaces, maps, wideKeys, modest, calm, conditions, laid).
  DERIVED. THE GIVEN ROWS OF THIS SEAT. 3 by the template 'for every input the law returns true; each argument reads behind the call as it read before'; 0 by the template 'total and deterministic' (their statements: YtncpikaegcookaaTotals.lean).
  GIVEN WITH THE SEED: the statements are not yours to turn. If you find one false, say at which input.
  Laid BY PROGRAM, IN A SANDBOX (cutbox-rows.mjs): the forced cells as the released guide's own fill.sh prints them over the translation 9a1910604803852e… (all of the seat's roots in one cut). By AI agents, Wed Nov 11 2026. No macro, syntax, notation, axiom, sorry.
-/
import Derived.Test.YtncpikaegcookaaChecked
import GoSem.Claim
import GoSem.ClaimJoined
import GoSem.ClaimMapViews
import Derived.JoinedTies
import Derived.KernelRfl
namespace Go.Proofs.Ytncpikaegcookaa
/- THE CELL 'sum', in the pinned program and in every row, IS THE sha256 OF THE DUMP (.gsa) THAT YtncpikaegcookaaProg.lean LOADS. Nothing in Lean hashes anything: it is a label: what it is worth is what the hold of that sum in a sandbox is worth. -/
noncomputable def Try.pinned : Pinned := { name := "ytncpikaegcookaa", sum := "9a1910604803852e442f50f589727b20f06c9d8301a0f68bb996bae647df379d", checked := Try.checked }
namespace Rows
def none {H : Type} : Left H := { results := [], args := [] }

/-- 'dulcimerlaw32.LruPlays': WHATEVER THE INPUT: true; the input reads as it did. -/
def lruPlaysSpec : ChangeSpec := { name := "lruPlays", fn := fun _ => fun
  | [d1, d2] => { results := [.lit (.bool true)], args := [d1, d2] }
  | _ => none }
def lruPlaysRow : OpenClaim := { program := "ytncpikaegcookaa", sum := "9a1910604803852e442f50f589727b20f06c9d8301a0f68bb996bae647df379d", func := "dulcimer/dulcimerlaw32.LruPlays", spec := "lruPlays", inPlace := ["slices.overlaps[*dulcimer/lru.thing[int, int]]"], unfollowed := true, recurses := true, apart := false }
def LruPlaysSaid : Prop := lruPlaysRow.holds Try.pinned (OpenSpec.ofChange lruPlaysSpec)

/-- ITS FALSE NEIGHBOUR: 'it returns false'. Refute it at one input. -/
def lruPlaysWrong : ChangeSpec := { name := "lruPlays", fn := fun _ => fun
  | [d1, d2] => { results := [.lit (.bool false)], args := [d1, d2] }
  | _ => none }
def LruPlaysWrongFalsely : Prop := lruPlaysRow.holds Try.pinned (OpenSpec.ofChange lruPlaysWrong)

/-- 'dulcimerlaw32.LruFront': WHATEVER THE INPUT: true; the input reads as it did. -/
def lruFrontSpec : ChangeSpec := { name := "lruFront", fn := fun _ => fun
  | [d1, d2] => { results := [.lit (.bool true)], args := [d1, d2] }
  | _ => none }
def lruFrontRow : OpenClaim := { program := "ytncpikaegcookaa", sum := "9a1910604803852e442f50f589727b20f06c9d8301a0f68bb996bae647df379d", func := "dulcimer/dulcimerlaw32.LruFront", spec := "lruFront", inPlace := ["slices.overlaps[*dulcimer/lru.thing[int, int]]"], unfollowed := true, recurses := true, apart := false }
def LruFrontSaid : Prop := lruFrontRow.holds Try.pinned (OpenSpec.ofChange lruFrontSpec)

/-- ITS FALSE NEIGHBOUR: 'it returns false'. Refute it at one input. -/
def lruFrontWrong : ChangeSpec := { name := "lruFront", fn := fun _ => fun
  | [d1, d2] => { results := [.lit (.bool false)], args := [d1, d2] }
  | _ => none }
def LruFrontWrongFalsely : Prop := lruFrontRow.holds Try.pinned (OpenSpec.ofChange lruFrontWrong)

/-- 'dulcimerlaw32.LruNils': WHATEVER THE INPUT: true; the input reads as it did. -/
def lruNilsSpec : ChangeSpec := { name := "lruNils", fn := fun _ => fun
  | [d1, d2] => { results := [.lit (.bool true)], args := [d1, d2] }
  | _ => none }
def lruNilsRow : OpenClaim := { program := "ytncpikaegcookaa", sum := "9a1910604803852e442f50f589727b20f06c9d8301a0f68bb996bae647df379d", func := "dulcimer/dulcimerlaw32.LruNils", spec := "lruNils", inPlace := ["slices.overlaps[*dulcimer/lru.thing[int, int]]"], unfollowed := true, recurses := true, apart := false }
def LruNilsSaid : Prop := lruNilsRow.holds Try.pinned (OpenSpec.ofChange lruNilsSpec)

/-- ITS FALSE NEIGHBOUR: 'it returns false'. Refute it at one input. -/
def lruNilsWrong : ChangeSpec := { name := "lruNils", fn := fun _ => fun
  | [d1, d2] => { results := [.lit (.bool false)], args := [d1, d2] }
  | _ => none }
def LruNilsWrongFalsely : Prop := lruNilsRow.holds Try.pinned (OpenSpec.ofChange lruNilsWrong)

/- THE SECOND FORM. 'bulk': how many values and letters a reading holds, each counted each time it is reached (what is shared counts as often as it is met; a slice's spare places count too). A statement '..UptoSaid' is the law's where the arguments, and the package variables that the reading takes, are together of bulk at most 1048576: NARROWER than '..Said'. Prove '..Said' where nothing that the law and all that it calls make is longer than what came in: it says more and counts as full. Else prove '..UptoSaid'. A law counts once. -/
mutual
def uptoBulk {H : Type} : DataW H → Nat
  | .lit (.string bytes) => bytes.length + 1
  | .lit _ => 1
  | .nil => 1
  | .ptr d => uptoBulk d + 1
  | .slice elems spare => uptoBulkAll elems + uptoBulkAll spare + 1
  | .agg parts => uptoBulkAll parts + 1
  | .iface _ d => uptoBulk d + 1
  | .map entries => uptoBulkEntries entries + 1
  | .held _ => 1
def uptoBulkAll {H : Type} : List (DataW H) → Nat
  | [] => 0
  | d :: r => uptoBulk d + uptoBulkAll r
def uptoBulkEntries {H : Type} : List (Lit × DataW H) → Nat
  | [] => 0
  | x :: r => uptoBulkEntry x + uptoBulkEntries r
def uptoBulkEntry {H : Type} : Lit × DataW H → Nat
  | (.string bytes, d) => bytes.length + uptoBulk d + 1
  | (_, d) => uptoBulk d + 1
 end
def uptoSmall : (H : Type) → List (DataW H) → Bool := fun _ ds => decide (uptoBulkAll ds ≤ 1048576)
def OpenSpec.upto (s : _root_.Go.ChangeSpec) : _root_.Go.OpenSpec := { _root_.Go.OpenSpec.ofChange s with cond := some uptoSmall }

/-- 'dulcimerlaw32.LruPlays', WHERE WHAT IT READS IS OF BULK AT MOST 1048576: true; the input reads as it did. -/
def lruPlaysUptoRow : OpenClaim := { program := "ytncpikaegcookaa", sum := "9a1910604803852e442f50f589727b20f06c9d8301a0f68bb996bae647df379d", func := "dulcimer/dulcimerlaw32.LruPlays", spec := "lruPlays", inPlace := ["slices.overlaps[*dulcimer/lru.thing[int, int]]"], unfollowed := true, recurses := true, apart := false, narrowed := true }
def LruPlaysUptoSaid : Prop := lruPlaysUptoRow.holds Try.pinned (OpenSpec.upto lruPlaysSpec)

/-- 'dulcimerlaw32.LruFront', WHERE WHAT IT READS IS OF BULK AT MOST 1048576: true; the input reads as it did. -/
def lruFrontUptoRow : OpenClaim := { program := "ytncpikaegcookaa", sum := "9a1910604803852e442f50f589727b20f06c9d8301a0f68bb996bae647df379d", func := "dulcimer/dulcimerlaw32.LruFront", spec := "lruFront", inPlace := ["slices.overlaps[*dulcimer/lru.thing[int, int]]"], unfollowed := true, recurses := true, apart := false, narrowed := true }
def LruFrontUptoSaid : Prop := lruFrontUptoRow.holds Try.pinned (OpenSpec.upto lruFrontSpec)

/-- 'dulcimerlaw32.LruNils', WHERE WHAT IT READS IS OF BULK AT MOST 1048576: true; the input reads as it did. -/
def lruNilsUptoRow : OpenClaim := { program := "ytncpikaegcookaa", sum := "9a1910604803852e442f50f589727b20f06c9d8301a0f68bb996bae647df379d", func := "dulcimer/dulcimerlaw32.LruNils", spec := "lruNils", inPlace := ["slices.overlaps[*dulcimer/lru.thing[int, int]]"], unfollowed := true, recurses := true, apart := false, narrowed := true }
def LruNilsUptoSaid : Prop := lruNilsUptoRow.holds Try.pinned (OpenSpec.upto lruNilsSpec)

end Rows
end Go.Proofs.Ytncpikaegcookaa
