/-
  No cell of these rows narrows 'for every input' (looked for: loops, veiled, ifaces, maps, wideKeys, modest, calm, conditions, laid).
  DERIVED. THE GIVEN ROWS OF THIS SEAT. 7 by the template 'for every input the law returns true; each argument reads behind the call as it read before'; 0 by the template 'total and deterministic' (their statements: YtdfhoanilbfkiaaTotals.lean).
  GIVEN WITH THE SEED: the statements are not yours to turn. If you find one false, say at which input.
  Laid BY PROGRAM, IN A SANDBOX (cutbox-rows.mjs): the forced cells as the released guide's own fill.sh prints them over the translation c4b049b1e058c888… (all of the seat's roots in one cut). By AI agents, Wed Nov 11 2026. No macro, syntax, notation, axiom, sorry.
-/
import Derived.Test.YtdfhoanilbfkiaaChecked
import GoSem.Claim
import GoSem.ClaimJoined
import GoSem.ClaimMapViews
import Derived.JoinedTies
import Derived.KernelRfl
namespace Go.Proofs.Ytdfhoanilbfkiaa
/- THE CELL 'sum', in the pinned program and in every row, IS THE sha256 OF THE DUMP (.gsa) THAT YtdfhoanilbfkiaaProg.lean LOADS. Nothing in Lean hashes anything: it is a label: what it is worth is what the hold of that sum in a sandbox is worth. -/
noncomputable def Try.pinned : Pinned := { name := "ytdfhoanilbfkiaa", sum := "c4b049b1e058c888bdf19bf9bd436fb6ea4b142d306bd0abb46836b7ec110560", checked := Try.checked }
namespace Rows
def none {H : Type} : Left H := { results := [], args := [] }

/-- 'pinstripelaw11.BlocksKnown': WHATEVER THE INPUT: true; the input reads as it did. -/
def blocksKnownSpec : ChangeSpec := { name := "blocksKnown", fn := fun _ => fun
  | [] => { results := [.lit (.bool true)], args := [] }
  | _ => none }
def blocksKnownRow : OpenClaim := { program := "ytdfhoanilbfkiaa", sum := "c4b049b1e058c888bdf19bf9bd436fb6ea4b142d306bd0abb46836b7ec110560", func := "pinstripe/pinstripelaw11.BlocksKnown", spec := "blocksKnown", apart := false }
def BlocksKnownSaid : Prop := blocksKnownRow.holds Try.pinned (OpenSpec.ofChange blocksKnownSpec)

/-- ITS FALSE NEIGHBOUR: 'it returns false'. Refute it at one input. -/
def blocksKnownWrong : ChangeSpec := { name := "blocksKnown", fn := fun _ => fun
  | [] => { results := [.lit (.bool false)], args := [] }
  | _ => none }
def BlocksKnownWrongFalsely : Prop := blocksKnownRow.holds Try.pinned (OpenSpec.ofChange blocksKnownWrong)

/-- 'pinstripelaw11.BlocksPlays': WHATEVER THE INPUT: true; the input reads as it did. -/
def blocksPlaysSpec : ChangeSpec := { name := "blocksPlays", fn := fun _ => fun
  | [d] => { results := [.lit (.bool true)], args := [d] }
  | _ => none }
def blocksPlaysRow : OpenClaim := { program := "ytdfhoanilbfkiaa", sum := "c4b049b1e058c888bdf19bf9bd436fb6ea4b142d306bd0abb46836b7ec110560", func := "pinstripe/pinstripelaw11.BlocksPlays", spec := "blocksPlays", unfollowed := true, recurses := true, apart := false }
def BlocksPlaysSaid : Prop := blocksPlaysRow.holds Try.pinned (OpenSpec.ofChange blocksPlaysSpec)

/-- ITS FALSE NEIGHBOUR: 'it returns false'. Refute it at one input. -/
def blocksPlaysWrong : ChangeSpec := { name := "blocksPlays", fn := fun _ => fun
  | [d] => { results := [.lit (.bool false)], args := [d] }
  | _ => none }
def BlocksPlaysWrongFalsely : Prop := blocksPlaysRow.holds Try.pinned (OpenSpec.ofChange blocksPlaysWrong)

/-- 'pinstripelaw11.BlocksReads': WHATEVER THE INPUT: true; the input reads as it did. -/
def blocksReadsSpec : ChangeSpec := { name := "blocksReads", fn := fun _ => fun
  | [d1, d2] => { results := [.lit (.bool true)], args := [d1, d2] }
  | _ => none }
def blocksReadsRow : OpenClaim := { program := "ytdfhoanilbfkiaa", sum := "c4b049b1e058c888bdf19bf9bd436fb6ea4b142d306bd0abb46836b7ec110560", func := "pinstripe/pinstripelaw11.BlocksReads", spec := "blocksReads", unfollowed := true, recurses := true, apart := false }
def BlocksReadsSaid : Prop := blocksReadsRow.holds Try.pinned (OpenSpec.ofChange blocksReadsSpec)

/-- ITS FALSE NEIGHBOUR: 'it returns false'. Refute it at one input. -/
def blocksReadsWrong : ChangeSpec := { name := "blocksReads", fn := fun _ => fun
  | [d1, d2] => { results := [.lit (.bool false)], args := [d1, d2] }
  | _ => none }
def BlocksReadsWrongFalsely : Prop := blocksReadsRow.holds Try.pinned (OpenSpec.ofChange blocksReadsWrong)

/-- 'pinstripelaw11.BlocksRace': WHATEVER THE INPUT: true; the input reads as it did. -/
def blocksRaceSpec : ChangeSpec := { name := "blocksRace", fn := fun _ => fun
  | [d1, d2, d3] => { results := [.lit (.bool true)], args := [d1, d2, d3] }
  | _ => none }
def blocksRaceRow : OpenClaim := { program := "ytdfhoanilbfkiaa", sum := "c4b049b1e058c888bdf19bf9bd436fb6ea4b142d306bd0abb46836b7ec110560", func := "pinstripe/pinstripelaw11.BlocksRace", spec := "blocksRace", apart := false }
def BlocksRaceSaid : Prop := blocksRaceRow.holds Try.pinned (OpenSpec.ofChange blocksRaceSpec)

/-- ITS FALSE NEIGHBOUR: 'it returns false'. Refute it at one input. -/
def blocksRaceWrong : ChangeSpec := { name := "blocksRace", fn := fun _ => fun
  | [d1, d2, d3] => { results := [.lit (.bool false)], args := [d1, d2, d3] }
  | _ => none }
def BlocksRaceWrongFalsely : Prop := blocksRaceRow.holds Try.pinned (OpenSpec.ofChange blocksRaceWrong)

/-- 'pinstripelaw11.BlocksGone': WHATEVER THE INPUT: true; the input reads as it did. -/
def blocksGoneSpec : ChangeSpec := { name := "blocksGone", fn := fun _ => fun
  | [d] => { results := [.lit (.bool true)], args := [d] }
  | _ => none }
def blocksGoneRow : OpenClaim := { program := "ytdfhoanilbfkiaa", sum := "c4b049b1e058c888bdf19bf9bd436fb6ea4b142d306bd0abb46836b7ec110560", func := "pinstripe/pinstripelaw11.BlocksGone", spec := "blocksGone", unfollowed := true, recurses := true, apart := false }
def BlocksGoneSaid : Prop := blocksGoneRow.holds Try.pinned (OpenSpec.ofChange blocksGoneSpec)

/-- ITS FALSE NEIGHBOUR: 'it returns false'. Refute it at one input. -/
def blocksGoneWrong : ChangeSpec := { name := "blocksGone", fn := fun _ => fun
  | [d] => { results := [.lit (.bool false)], args := [d] }
  | _ => none }
def BlocksGoneWrongFalsely : Prop := blocksGoneRow.holds Try.pinned (OpenSpec.ofChange blocksGoneWrong)

/-- 'pinstripelaw11.BlocksCuts': WHATEVER THE INPUT: true; the input reads as it did. -/
def blocksCutsSpec : ChangeSpec := { name := "blocksCuts", fn := fun _ => fun
  | [d1, d2, d3] => { results := [.lit (.bool true)], args := [d1, d2, d3] }
  | _ => none }
def blocksCutsRow : OpenClaim := { program := "ytdfhoanilbfkiaa", sum := "c4b049b1e058c888bdf19bf9bd436fb6ea4b142d306bd0abb46836b7ec110560", func := "pinstripe/pinstripelaw11.BlocksCuts", spec := "blocksCuts", apart := false }
def BlocksCutsSaid : Prop := blocksCutsRow.holds Try.pinned (OpenSpec.ofChange blocksCutsSpec)

/-- ITS FALSE NEIGHBOUR: 'it returns false'. Refute it at one input. -/
def blocksCutsWrong : ChangeSpec := { name := "blocksCuts", fn := fun _ => fun
  | [d1, d2, d3] => { results := [.lit (.bool false)], args := [d1, d2, d3] }
  | _ => none }
def BlocksCutsWrongFalsely : Prop := blocksCutsRow.holds Try.pinned (OpenSpec.ofChange blocksCutsWrong)

/-- 'pinstripelaw11.BlocksMoves': WHATEVER THE INPUT: true; the input reads as it did. -/
def blocksMovesSpec : ChangeSpec := { name := "blocksMoves", fn := fun _ => fun
  | [d1, d2] => { results := [.lit (.bool true)], args := [d1, d2] }
  | _ => none }
def blocksMovesRow : OpenClaim := { program := "ytdfhoanilbfkiaa", sum := "c4b049b1e058c888bdf19bf9bd436fb6ea4b142d306bd0abb46836b7ec110560", func := "pinstripe/pinstripelaw11.BlocksMoves", spec := "blocksMoves", unfollowed := true, recurses := true, apart := false }
def BlocksMovesSaid : Prop := blocksMovesRow.holds Try.pinned (OpenSpec.ofChange blocksMovesSpec)

/-- ITS FALSE NEIGHBOUR: 'it returns false'. Refute it at one input. -/
def blocksMovesWrong : ChangeSpec := { name := "blocksMoves", fn := fun _ => fun
  | [d1, d2] => { results := [.lit (.bool false)], args := [d1, d2] }
  | _ => none }
def BlocksMovesWrongFalsely : Prop := blocksMovesRow.holds Try.pinned (OpenSpec.ofChange blocksMovesWrong)

/- THE SECOND FORM. 'bulk': how many values and letters a reading holds, each counted each time it is reached (what is shared counts as often as it is met; a slice's spare places count too). A statement '..UptoSaid' is the law's where the arguments, and the package variables that the reading takes, are together of bulk at most 1048576: NARROWER than '..Said'. Prove '..Said' where nothing that the law and all that it calls make is longer than what came in: it says more and counts as full. Else prove '..UptoSaid'. A law counts once. -/
mutual
def uptoBulk {H : Type} : DataW H → Nat
  | .lit (.string bytes) => bytes.length + 1
  | .lit _ => 1
  | .nil => 1
  | .ptr d => uptoBulk d + 1
  | .slice elems spare => uptoBulkAll elems + uptoBulkAll spare + 1
  | .agg parts => uptoBulkAll parts + 1
  | .iface _ d => uptoBulk d + 1
  | .map entries => uptoBulkEntries entries + 1
  | .held _ => 1
def uptoBulkAll {H : Type} : List (DataW H) → Nat
  | [] => 0
  | d :: r => uptoBulk d + uptoBulkAll r
def uptoBulkEntries {H : Type} : List (Lit × DataW H) → Nat
  | [] => 0
  | x :: r => uptoBulkEntry x + uptoBulkEntries r
def uptoBulkEntry {H : Type} : Lit × DataW H → Nat
  | (.string bytes, d) => bytes.length + uptoBulk d + 1
  | (_, d) => uptoBulk d + 1
 end
def uptoSmall : (H : Type) → List (DataW H) → Bool := fun _ ds => decide (uptoBulkAll ds ≤ 1048576)
def OpenSpec.upto (s : _root_.Go.ChangeSpec) : _root_.Go.OpenSpec := { _root_.Go.OpenSpec.ofChange s with cond := some uptoSmall }

/-- 'pinstripelaw11.BlocksKnown', WHERE WHAT IT READS IS OF BULK AT MOST 1048576: true; the input reads as it did. -/
def blocksKnownUptoRow : OpenClaim := { program := "ytdfhoanilbfkiaa", sum := "c4b049b1e058c888bdf19bf9bd436fb6ea4b142d306bd0abb46836b7ec110560", func := "pinstripe/pinstripelaw11.BlocksKnown", spec := "blocksKnown", apart := false, narrowed := true }
def BlocksKnownUptoSaid : Prop := blocksKnownUptoRow.holds Try.pinned (OpenSpec.upto blocksKnownSpec)

/-- 'pinstripelaw11.BlocksPlays', WHERE WHAT IT READS IS OF BULK AT MOST 1048576: true; the input reads as it did. -/
def blocksPlaysUptoRow : OpenClaim := { program := "ytdfhoanilbfkiaa", sum := "c4b049b1e058c888bdf19bf9bd436fb6ea4b142d306bd0abb46836b7ec110560", func := "pinstripe/pinstripelaw11.BlocksPlays", spec := "blocksPlays", unfollowed := true, recurses := true, apart := false, narrowed := true }
def BlocksPlaysUptoSaid : Prop := blocksPlaysUptoRow.holds Try.pinned (OpenSpec.upto blocksPlaysSpec)

/-- 'pinstripelaw11.BlocksReads', WHERE WHAT IT READS IS OF BULK AT MOST 1048576: true; the input reads as it did. -/
def blocksReadsUptoRow : OpenClaim := { program := "ytdfhoanilbfkiaa", sum := "c4b049b1e058c888bdf19bf9bd436fb6ea4b142d306bd0abb46836b7ec110560", func := "pinstripe/pinstripelaw11.BlocksReads", spec := "blocksReads", unfollowed := true, recurses := true, apart := false, narrowed := true }
def BlocksReadsUptoSaid : Prop := blocksReadsUptoRow.holds Try.pinned (OpenSpec.upto blocksReadsSpec)

/-- 'pinstripelaw11.BlocksRace', WHERE WHAT IT READS IS OF BULK AT MOST 1048576: true; the input reads as it did. -/
def blocksRaceUptoRow : OpenClaim := { program := "ytdfhoanilbfkiaa", sum := "c4b049b1e058c888bdf19bf9bd436fb6ea4b142d306bd0abb46836b7ec110560", func := "pinstripe/pinstripelaw11.BlocksRace", spec := "blocksRace", apart := false, narrowed := true }
def BlocksRaceUptoSaid : Prop := blocksRaceUptoRow.holds Try.pinned (OpenSpec.upto blocksRaceSpec)

/-- 'pinstripelaw11.BlocksGone', WHERE WHAT IT READS IS OF BULK AT MOST 1048576: true; the input reads as it did. -/
def blocksGoneUptoRow : OpenClaim := { program := "ytdfhoanilbfkiaa", sum := "c4b049b1e058c888bdf19bf9bd436fb6ea4b142d306bd0abb46836b7ec110560", func := "pinstripe/pinstripelaw11.BlocksGone", spec := "blocksGone", unfollowed := true, recurses := true, apart := false, narrowed := true }
def BlocksGoneUptoSaid : Prop := blocksGoneUptoRow.holds Try.pinned (OpenSpec.upto blocksGoneSpec)

/-- 'pinstripelaw11.BlocksCuts', WHERE WHAT IT READS IS OF BULK AT MOST 1048576: true; the input reads as it did. -/
def blocksCutsUptoRow : OpenClaim := { program := "ytdfhoanilbfkiaa", sum := "c4b049b1e058c888bdf19bf9bd436fb6ea4b142d306bd0abb46836b7ec110560", func := "pinstripe/pinstripelaw11.BlocksCuts", spec := "blocksCuts", apart := false, narrowed := true }
def BlocksCutsUptoSaid : Prop := blocksCutsUptoRow.holds Try.pinned (OpenSpec.upto blocksCutsSpec)

/-- 'pinstripelaw11.BlocksMoves', WHERE WHAT IT READS IS OF BULK AT MOST 1048576: true; the input reads as it did. -/
def blocksMovesUptoRow : OpenClaim := { program := "ytdfhoanilbfkiaa", sum := "c4b049b1e058c888bdf19bf9bd436fb6ea4b142d306bd0abb46836b7ec110560", func := "pinstripe/pinstripelaw11.BlocksMoves", spec := "blocksMoves", unfollowed := true, recurses := true, apart := false, narrowed := true }
def BlocksMovesUptoSaid : Prop := blocksMovesUptoRow.holds Try.pinned (OpenSpec.upto blocksMovesSpec)

end Rows
end Go.Proofs.Ytdfhoanilbfkiaa
