/-
  No cell of these rows narrows 'for every input' (looked for: loops, veiled, ifaces, maps, wideKeys, modest, calm, conditions, laid).
  DERIVED. THE GIVEN ROWS OF THIS SEAT. 8 by the template 'for every input the law returns true; each argument reads behind the call as it read before'; 0 by the template 'total and deterministic' (their statements: YtmgaddbhmbllgaaTotals.lean).
  GIVEN WITH THE SEED: the statements are not yours to turn. If you find one false, say at which input.
  Laid BY PROGRAM, IN A SANDBOX (cutbox-rows.mjs): the forced cells as the released guide's own fill.sh prints them over the translation ffd3e0dbe0654079… (all of the seat's roots in one cut). By AI agents, Wed Nov 11 2026. No macro, syntax, notation, axiom, sorry.
-/
import Derived.Test.YtmgaddbhmbllgaaChecked
import GoSem.Claim
import GoSem.ClaimJoined
import GoSem.ClaimMapViews
import Derived.JoinedTies
import Derived.KernelRfl
namespace Go.Proofs.Ytmgaddbhmbllgaa
/- THE CELL 'sum', in the pinned program and in every row, IS THE sha256 OF THE DUMP (.gsa) THAT YtmgaddbhmbllgaaProg.lean LOADS. Nothing in Lean hashes anything: it is a label: what it is worth is what the hold of that sum in a sandbox is worth. -/
noncomputable def Try.pinned : Pinned := { name := "ytmgaddbhmbllgaa", sum := "ffd3e0dbe065407957b365aa9455b4ea382db1c34636ff5723aab32f1f139188", checked := Try.checked }
namespace Rows
def none {H : Type} : Left H := { results := [], args := [] }

/-- 'pinstripelaw13.LayoutKnown': WHATEVER THE INPUT: true; the input reads as it did. -/
def layoutKnownSpec : ChangeSpec := { name := "layoutKnown", fn := fun _ => fun
  | [] => { results := [.lit (.bool true)], args := [] }
  | _ => none }
def layoutKnownRow : OpenClaim := { program := "ytmgaddbhmbllgaa", sum := "ffd3e0dbe065407957b365aa9455b4ea382db1c34636ff5723aab32f1f139188", func := "pinstripe/pinstripelaw13.LayoutKnown", spec := "layoutKnown", inPlace := ["internal/bytealg.MakeNoZero"], unfollowed := true, recurses := true, apart := false }
def LayoutKnownSaid : Prop := layoutKnownRow.holds Try.pinned (OpenSpec.ofChange layoutKnownSpec)

/-- ITS FALSE NEIGHBOUR: 'it returns false'. Refute it at one input. -/
def layoutKnownWrong : ChangeSpec := { name := "layoutKnown", fn := fun _ => fun
  | [] => { results := [.lit (.bool false)], args := [] }
  | _ => none }
def LayoutKnownWrongFalsely : Prop := layoutKnownRow.holds Try.pinned (OpenSpec.ofChange layoutKnownWrong)

/-- 'pinstripelaw13.LayoutCuts': WHATEVER THE INPUT: true; the input reads as it did. -/
def layoutCutsSpec : ChangeSpec := { name := "layoutCuts", fn := fun _ => fun
  | [d1, d2, d3] => { results := [.lit (.bool true)], args := [d1, d2, d3] }
  | _ => none }
def layoutCutsRow : OpenClaim := { program := "ytmgaddbhmbllgaa", sum := "ffd3e0dbe065407957b365aa9455b4ea382db1c34636ff5723aab32f1f139188", func := "pinstripe/pinstripelaw13.LayoutCuts", spec := "layoutCuts", inPlace := ["internal/bytealg.MakeNoZero"], unfollowed := true, recurses := true, apart := false }
def LayoutCutsSaid : Prop := layoutCutsRow.holds Try.pinned (OpenSpec.ofChange layoutCutsSpec)

/-- ITS FALSE NEIGHBOUR: 'it returns false'. Refute it at one input. -/
def layoutCutsWrong : ChangeSpec := { name := "layoutCuts", fn := fun _ => fun
  | [d1, d2, d3] => { results := [.lit (.bool false)], args := [d1, d2, d3] }
  | _ => none }
def LayoutCutsWrongFalsely : Prop := layoutCutsRow.holds Try.pinned (OpenSpec.ofChange layoutCutsWrong)

/-- 'pinstripelaw13.LayoutReads': WHATEVER THE INPUT: true; the input reads as it did. -/
def layoutReadsSpec : ChangeSpec := { name := "layoutReads", fn := fun _ => fun
  | [d] => { results := [.lit (.bool true)], args := [d] }
  | _ => none }
def layoutReadsRow : OpenClaim := { program := "ytmgaddbhmbllgaa", sum := "ffd3e0dbe065407957b365aa9455b4ea382db1c34636ff5723aab32f1f139188", func := "pinstripe/pinstripelaw13.LayoutReads", spec := "layoutReads", inPlace := ["internal/bytealg.MakeNoZero"], unfollowed := true, recurses := true, apart := false }
def LayoutReadsSaid : Prop := layoutReadsRow.holds Try.pinned (OpenSpec.ofChange layoutReadsSpec)

/-- ITS FALSE NEIGHBOUR: 'it returns false'. Refute it at one input. -/
def layoutReadsWrong : ChangeSpec := { name := "layoutReads", fn := fun _ => fun
  | [d] => { results := [.lit (.bool false)], args := [d] }
  | _ => none }
def LayoutReadsWrongFalsely : Prop := layoutReadsRow.holds Try.pinned (OpenSpec.ofChange layoutReadsWrong)

/-- 'pinstripelaw13.LayoutJoins': WHATEVER THE INPUT: true; the input reads as it did. -/
def layoutJoinsSpec : ChangeSpec := { name := "layoutJoins", fn := fun _ => fun
  | [d1, d2, d3] => { results := [.lit (.bool true)], args := [d1, d2, d3] }
  | _ => none }
def layoutJoinsRow : OpenClaim := { program := "ytmgaddbhmbllgaa", sum := "ffd3e0dbe065407957b365aa9455b4ea382db1c34636ff5723aab32f1f139188", func := "pinstripe/pinstripelaw13.LayoutJoins", spec := "layoutJoins", inPlace := ["internal/bytealg.MakeNoZero"], unfollowed := true, recurses := true, apart := false }
def LayoutJoinsSaid : Prop := layoutJoinsRow.holds Try.pinned (OpenSpec.ofChange layoutJoinsSpec)

/-- ITS FALSE NEIGHBOUR: 'it returns false'. Refute it at one input. -/
def layoutJoinsWrong : ChangeSpec := { name := "layoutJoins", fn := fun _ => fun
  | [d1, d2, d3] => { results := [.lit (.bool false)], args := [d1, d2, d3] }
  | _ => none }
def LayoutJoinsWrongFalsely : Prop := layoutJoinsRow.holds Try.pinned (OpenSpec.ofChange layoutJoinsWrong)

/-- 'pinstripelaw13.LayoutBack': WHATEVER THE INPUT: true; the input reads as it did. -/
def layoutBackSpec : ChangeSpec := { name := "layoutBack", fn := fun _ => fun
  | [d1, d2, d3] => { results := [.lit (.bool true)], args := [d1, d2, d3] }
  | _ => none }
def layoutBackRow : OpenClaim := { program := "ytmgaddbhmbllgaa", sum := "ffd3e0dbe065407957b365aa9455b4ea382db1c34636ff5723aab32f1f139188", func := "pinstripe/pinstripelaw13.LayoutBack", spec := "layoutBack", inPlace := ["internal/bytealg.MakeNoZero"], unfollowed := true, recurses := true, apart := false }
def LayoutBackSaid : Prop := layoutBackRow.holds Try.pinned (OpenSpec.ofChange layoutBackSpec)

/-- ITS FALSE NEIGHBOUR: 'it returns false'. Refute it at one input. -/
def layoutBackWrong : ChangeSpec := { name := "layoutBack", fn := fun _ => fun
  | [d1, d2, d3] => { results := [.lit (.bool false)], args := [d1, d2, d3] }
  | _ => none }
def LayoutBackWrongFalsely : Prop := layoutBackRow.holds Try.pinned (OpenSpec.ofChange layoutBackWrong)

/-- 'pinstripelaw13.LayoutSpans': WHATEVER THE INPUT: true; the input reads as it did. -/
def layoutSpansSpec : ChangeSpec := { name := "layoutSpans", fn := fun _ => fun
  | [d1, d2, d3] => { results := [.lit (.bool true)], args := [d1, d2, d3] }
  | _ => none }
def layoutSpansRow : OpenClaim := { program := "ytmgaddbhmbllgaa", sum := "ffd3e0dbe065407957b365aa9455b4ea382db1c34636ff5723aab32f1f139188", func := "pinstripe/pinstripelaw13.LayoutSpans", spec := "layoutSpans", inPlace := ["internal/bytealg.MakeNoZero"], unfollowed := true, recurses := true, apart := false }
def LayoutSpansSaid : Prop := layoutSpansRow.holds Try.pinned (OpenSpec.ofChange layoutSpansSpec)

/-- ITS FALSE NEIGHBOUR: 'it returns false'. Refute it at one input. -/
def layoutSpansWrong : ChangeSpec := { name := "layoutSpans", fn := fun _ => fun
  | [d1, d2, d3] => { results := [.lit (.bool false)], args := [d1, d2, d3] }
  | _ => none }
def LayoutSpansWrongFalsely : Prop := layoutSpansRow.holds Try.pinned (OpenSpec.ofChange layoutSpansWrong)

/-- 'pinstripelaw13.LayoutPlaces': WHATEVER THE INPUT: true; the input reads as it did. -/
def layoutPlacesSpec : ChangeSpec := { name := "layoutPlaces", fn := fun _ => fun
  | [d] => { results := [.lit (.bool true)], args := [d] }
  | _ => none }
def layoutPlacesRow : OpenClaim := { program := "ytmgaddbhmbllgaa", sum := "ffd3e0dbe065407957b365aa9455b4ea382db1c34636ff5723aab32f1f139188", func := "pinstripe/pinstripelaw13.LayoutPlaces", spec := "layoutPlaces", inPlace := ["internal/bytealg.MakeNoZero"], unfollowed := true, recurses := true, apart := false }
def LayoutPlacesSaid : Prop := layoutPlacesRow.holds Try.pinned (OpenSpec.ofChange layoutPlacesSpec)

/-- ITS FALSE NEIGHBOUR: 'it returns false'. Refute it at one input. -/
def layoutPlacesWrong : ChangeSpec := { name := "layoutPlaces", fn := fun _ => fun
  | [d] => { results := [.lit (.bool false)], args := [d] }
  | _ => none }
def LayoutPlacesWrongFalsely : Prop := layoutPlacesRow.holds Try.pinned (OpenSpec.ofChange layoutPlacesWrong)

/-- 'pinstripelaw13.LayoutUnlike': WHATEVER THE INPUT: true; the input reads as it did. -/
def layoutUnlikeSpec : ChangeSpec := { name := "layoutUnlike", fn := fun _ => fun
  | [d1, d2, d3] => { results := [.lit (.bool true)], args := [d1, d2, d3] }
  | _ => none }
def layoutUnlikeRow : OpenClaim := { program := "ytmgaddbhmbllgaa", sum := "ffd3e0dbe065407957b365aa9455b4ea382db1c34636ff5723aab32f1f139188", func := "pinstripe/pinstripelaw13.LayoutUnlike", spec := "layoutUnlike", inPlace := ["internal/bytealg.MakeNoZero"], unfollowed := true, recurses := true, apart := false }
def LayoutUnlikeSaid : Prop := layoutUnlikeRow.holds Try.pinned (OpenSpec.ofChange layoutUnlikeSpec)

/-- ITS FALSE NEIGHBOUR: 'it returns false'. Refute it at one input. -/
def layoutUnlikeWrong : ChangeSpec := { name := "layoutUnlike", fn := fun _ => fun
  | [d1, d2, d3] => { results := [.lit (.bool false)], args := [d1, d2, d3] }
  | _ => none }
def LayoutUnlikeWrongFalsely : Prop := layoutUnlikeRow.holds Try.pinned (OpenSpec.ofChange layoutUnlikeWrong)

/- THE SECOND FORM. 'bulk': how many values and letters a reading holds, each counted each time it is reached (what is shared counts as often as it is met; a slice's spare places count too). A statement '..UptoSaid' is the law's where the arguments, and the package variables that the reading takes, are together of bulk at most 1048576: NARROWER than '..Said'. Prove '..Said' where nothing that the law and all that it calls make is longer than what came in: it says more and counts as full. Else prove '..UptoSaid'. A law counts once. -/
mutual
def uptoBulk {H : Type} : DataW H → Nat
  | .lit (.string bytes) => bytes.length + 1
  | .lit _ => 1
  | .nil => 1
  | .ptr d => uptoBulk d + 1
  | .slice elems spare => uptoBulkAll elems + uptoBulkAll spare + 1
  | .agg parts => uptoBulkAll parts + 1
  | .iface _ d => uptoBulk d + 1
  | .map entries => uptoBulkEntries entries + 1
  | .held _ => 1
def uptoBulkAll {H : Type} : List (DataW H) → Nat
  | [] => 0
  | d :: r => uptoBulk d + uptoBulkAll r
def uptoBulkEntries {H : Type} : List (Lit × DataW H) → Nat
  | [] => 0
  | x :: r => uptoBulkEntry x + uptoBulkEntries r
def uptoBulkEntry {H : Type} : Lit × DataW H → Nat
  | (.string bytes, d) => bytes.length + uptoBulk d + 1
  | (_, d) => uptoBulk d + 1
 end
def uptoSmall : (H : Type) → List (DataW H) → Bool := fun _ ds => decide (uptoBulkAll ds ≤ 1048576)
def OpenSpec.upto (s : _root_.Go.ChangeSpec) : _root_.Go.OpenSpec := { _root_.Go.OpenSpec.ofChange s with cond := some uptoSmall }

/-- 'pinstripelaw13.LayoutKnown', WHERE WHAT IT READS IS OF BULK AT MOST 1048576: true; the input reads as it did. -/
def layoutKnownUptoRow : OpenClaim := { program := "ytmgaddbhmbllgaa", sum := "ffd3e0dbe065407957b365aa9455b4ea382db1c34636ff5723aab32f1f139188", func := "pinstripe/pinstripelaw13.LayoutKnown", spec := "layoutKnown", inPlace := ["internal/bytealg.MakeNoZero"], unfollowed := true, recurses := true, apart := false, narrowed := true }
def LayoutKnownUptoSaid : Prop := layoutKnownUptoRow.holds Try.pinned (OpenSpec.upto layoutKnownSpec)

/-- 'pinstripelaw13.LayoutCuts', WHERE WHAT IT READS IS OF BULK AT MOST 1048576: true; the input reads as it did. -/
def layoutCutsUptoRow : OpenClaim := { program := "ytmgaddbhmbllgaa", sum := "ffd3e0dbe065407957b365aa9455b4ea382db1c34636ff5723aab32f1f139188", func := "pinstripe/pinstripelaw13.LayoutCuts", spec := "layoutCuts", inPlace := ["internal/bytealg.MakeNoZero"], unfollowed := true, recurses := true, apart := false, narrowed := true }
def LayoutCutsUptoSaid : Prop := layoutCutsUptoRow.holds Try.pinned (OpenSpec.upto layoutCutsSpec)

/-- 'pinstripelaw13.LayoutReads', WHERE WHAT IT READS IS OF BULK AT MOST 1048576: true; the input reads as it did. -/
def layoutReadsUptoRow : OpenClaim := { program := "ytmgaddbhmbllgaa", sum := "ffd3e0dbe065407957b365aa9455b4ea382db1c34636ff5723aab32f1f139188", func := "pinstripe/pinstripelaw13.LayoutReads", spec := "layoutReads", inPlace := ["internal/bytealg.MakeNoZero"], unfollowed := true, recurses := true, apart := false, narrowed := true }
def LayoutReadsUptoSaid : Prop := layoutReadsUptoRow.holds Try.pinned (OpenSpec.upto layoutReadsSpec)

/-- 'pinstripelaw13.LayoutJoins', WHERE WHAT IT READS IS OF BULK AT MOST 1048576: true; the input reads as it did. -/
def layoutJoinsUptoRow : OpenClaim := { program := "ytmgaddbhmbllgaa", sum := "ffd3e0dbe065407957b365aa9455b4ea382db1c34636ff5723aab32f1f139188", func := "pinstripe/pinstripelaw13.LayoutJoins", spec := "layoutJoins", inPlace := ["internal/bytealg.MakeNoZero"], unfollowed := true, recurses := true, apart := false, narrowed := true }
def LayoutJoinsUptoSaid : Prop := layoutJoinsUptoRow.holds Try.pinned (OpenSpec.upto layoutJoinsSpec)

/-- 'pinstripelaw13.LayoutBack', WHERE WHAT IT READS IS OF BULK AT MOST 1048576: true; the input reads as it did. -/
def layoutBackUptoRow : OpenClaim := { program := "ytmgaddbhmbllgaa", sum := "ffd3e0dbe065407957b365aa9455b4ea382db1c34636ff5723aab32f1f139188", func := "pinstripe/pinstripelaw13.LayoutBack", spec := "layoutBack", inPlace := ["internal/bytealg.MakeNoZero"], unfollowed := true, recurses := true, apart := false, narrowed := true }
def LayoutBackUptoSaid : Prop := layoutBackUptoRow.holds Try.pinned (OpenSpec.upto layoutBackSpec)

/-- 'pinstripelaw13.LayoutSpans', WHERE WHAT IT READS IS OF BULK AT MOST 1048576: true; the input reads as it did. -/
def layoutSpansUptoRow : OpenClaim := { program := "ytmgaddbhmbllgaa", sum := "ffd3e0dbe065407957b365aa9455b4ea382db1c34636ff5723aab32f1f139188", func := "pinstripe/pinstripelaw13.LayoutSpans", spec := "layoutSpans", inPlace := ["internal/bytealg.MakeNoZero"], unfollowed := true, recurses := true, apart := false, narrowed := true }
def LayoutSpansUptoSaid : Prop := layoutSpansUptoRow.holds Try.pinned (OpenSpec.upto layoutSpansSpec)

/-- 'pinstripelaw13.LayoutPlaces', WHERE WHAT IT READS IS OF BULK AT MOST 1048576: true; the input reads as it did. -/
def layoutPlacesUptoRow : OpenClaim := { program := "ytmgaddbhmbllgaa", sum := "ffd3e0dbe065407957b365aa9455b4ea382db1c34636ff5723aab32f1f139188", func := "pinstripe/pinstripelaw13.LayoutPlaces", spec := "layoutPlaces", inPlace := ["internal/bytealg.MakeNoZero"], unfollowed := true, recurses := true, apart := false, narrowed := true }
def LayoutPlacesUptoSaid : Prop := layoutPlacesUptoRow.holds Try.pinned (OpenSpec.upto layoutPlacesSpec)

/-- 'pinstripelaw13.LayoutUnlike', WHERE WHAT IT READS IS OF BULK AT MOST 1048576: true; the input reads as it did. -/
def layoutUnlikeUptoRow : OpenClaim := { program := "ytmgaddbhmbllgaa", sum := "ffd3e0dbe065407957b365aa9455b4ea382db1c34636ff5723aab32f1f139188", func := "pinstripe/pinstripelaw13.LayoutUnlike", spec := "layoutUnlike", inPlace := ["internal/bytealg.MakeNoZero"], unfollowed := true, recurses := true, apart := false, narrowed := true }
def LayoutUnlikeUptoSaid : Prop := layoutUnlikeUptoRow.holds Try.pinned (OpenSpec.upto layoutUnlikeSpec)

end Rows
end Go.Proofs.Ytmgaddbhmbllgaa
