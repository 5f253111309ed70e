/-
  No cell of these rows narrows 'for every input' (looked for: loops, veiled, ifaces, maps, wideKeys, modest, calm, conditions, laid).
  DERIVED. THE GIVEN ROWS OF THIS SEAT. 12 by the template 'for every input the law returns true; each argument reads behind the call as it read before'; 0 by the template 'total and deterministic' (their statements: YtoglcohdanpciaaTotals.lean).
  GIVEN WITH THE SEED: the statements are not yours to turn. If you find one false, say at which input.
  Laid BY PROGRAM, IN A SANDBOX (cutbox-rows.mjs): the forced cells as the released guide's own fill.sh prints them over the translation 168703ca78e8bc04… (all of the seat's roots in one cut). By AI agents, Wed Nov 11 2026. No macro, syntax, notation, axiom, sorry.
-/
import Derived.Test.YtoglcohdanpciaaChecked
import GoSem.Claim
import GoSem.ClaimJoined
import GoSem.ClaimMapViews
import Derived.JoinedTies
import Derived.KernelRfl
namespace Go.Proofs.Ytoglcohdanpciaa
/- THE CELL 'sum', in the pinned program and in every row, IS THE sha256 OF THE DUMP (.gsa) THAT YtoglcohdanpciaaProg.lean LOADS. Nothing in Lean hashes anything: it is a label: what it is worth is what the hold of that sum in a sandbox is worth. -/
noncomputable def Try.pinned : Pinned := { name := "ytoglcohdanpciaa", sum := "168703ca78e8bc049b8175b8793669e2045d891d2f16d54e2ef604cec04d637b", checked := Try.checked }
namespace Rows
def none {H : Type} : Left H := { results := [], args := [] }

/-- 'pinstripelaw13.LayoutKnown': WHATEVER THE INPUT: true; the input reads as it did. -/
def layoutKnownSpec : ChangeSpec := { name := "layoutKnown", fn := fun _ => fun
  | [] => { results := [.lit (.bool true)], args := [] }
  | _ => none }
def layoutKnownRow : OpenClaim := { program := "ytoglcohdanpciaa", sum := "168703ca78e8bc049b8175b8793669e2045d891d2f16d54e2ef604cec04d637b", func := "pinstripe/pinstripelaw13.LayoutKnown", spec := "layoutKnown", inPlace := ["internal/bytealg.MakeNoZero"], unfollowed := true, recurses := true, apart := false }
def LayoutKnownSaid : Prop := layoutKnownRow.holds Try.pinned (OpenSpec.ofChange layoutKnownSpec)

/-- ITS FALSE NEIGHBOUR: 'it returns false'. Refute it at one input. -/
def layoutKnownWrong : ChangeSpec := { name := "layoutKnown", fn := fun _ => fun
  | [] => { results := [.lit (.bool false)], args := [] }
  | _ => none }
def LayoutKnownWrongFalsely : Prop := layoutKnownRow.holds Try.pinned (OpenSpec.ofChange layoutKnownWrong)

/-- 'pinstripelaw13.LayoutCuts': WHATEVER THE INPUT: true; the input reads as it did. -/
def layoutCutsSpec : ChangeSpec := { name := "layoutCuts", fn := fun _ => fun
  | [d1, d2, d3] => { results := [.lit (.bool true)], args := [d1, d2, d3] }
  | _ => none }
def layoutCutsRow : OpenClaim := { program := "ytoglcohdanpciaa", sum := "168703ca78e8bc049b8175b8793669e2045d891d2f16d54e2ef604cec04d637b", func := "pinstripe/pinstripelaw13.LayoutCuts", spec := "layoutCuts", inPlace := ["internal/bytealg.MakeNoZero"], unfollowed := true, recurses := true, apart := false }
def LayoutCutsSaid : Prop := layoutCutsRow.holds Try.pinned (OpenSpec.ofChange layoutCutsSpec)

/-- ITS FALSE NEIGHBOUR: 'it returns false'. Refute it at one input. -/
def layoutCutsWrong : ChangeSpec := { name := "layoutCuts", fn := fun _ => fun
  | [d1, d2, d3] => { results := [.lit (.bool false)], args := [d1, d2, d3] }
  | _ => none }
def LayoutCutsWrongFalsely : Prop := layoutCutsRow.holds Try.pinned (OpenSpec.ofChange layoutCutsWrong)

/-- 'pinstripelaw13.LayoutReads': WHATEVER THE INPUT: true; the input reads as it did. -/
def layoutReadsSpec : ChangeSpec := { name := "layoutReads", fn := fun _ => fun
  | [d] => { results := [.lit (.bool true)], args := [d] }
  | _ => none }
def layoutReadsRow : OpenClaim := { program := "ytoglcohdanpciaa", sum := "168703ca78e8bc049b8175b8793669e2045d891d2f16d54e2ef604cec04d637b", func := "pinstripe/pinstripelaw13.LayoutReads", spec := "layoutReads", inPlace := ["internal/bytealg.MakeNoZero"], unfollowed := true, recurses := true, apart := false }
def LayoutReadsSaid : Prop := layoutReadsRow.holds Try.pinned (OpenSpec.ofChange layoutReadsSpec)

/-- ITS FALSE NEIGHBOUR: 'it returns false'. Refute it at one input. -/
def layoutReadsWrong : ChangeSpec := { name := "layoutReads", fn := fun _ => fun
  | [d] => { results := [.lit (.bool false)], args := [d] }
  | _ => none }
def LayoutReadsWrongFalsely : Prop := layoutReadsRow.holds Try.pinned (OpenSpec.ofChange layoutReadsWrong)

/-- 'pinstripelaw13.LayoutJoins': WHATEVER THE INPUT: true; the input reads as it did. -/
def layoutJoinsSpec : ChangeSpec := { name := "layoutJoins", fn := fun _ => fun
  | [d1, d2, d3] => { results := [.lit (.bool true)], args := [d1, d2, d3] }
  | _ => none }
def layoutJoinsRow : OpenClaim := { program := "ytoglcohdanpciaa", sum := "168703ca78e8bc049b8175b8793669e2045d891d2f16d54e2ef604cec04d637b", func := "pinstripe/pinstripelaw13.LayoutJoins", spec := "layoutJoins", inPlace := ["internal/bytealg.MakeNoZero"], unfollowed := true, recurses := true, apart := false }
def LayoutJoinsSaid : Prop := layoutJoinsRow.holds Try.pinned (OpenSpec.ofChange layoutJoinsSpec)

/-- ITS FALSE NEIGHBOUR: 'it returns false'. Refute it at one input. -/
def layoutJoinsWrong : ChangeSpec := { name := "layoutJoins", fn := fun _ => fun
  | [d1, d2, d3] => { results := [.lit (.bool false)], args := [d1, d2, d3] }
  | _ => none }
def LayoutJoinsWrongFalsely : Prop := layoutJoinsRow.holds Try.pinned (OpenSpec.ofChange layoutJoinsWrong)

/-- 'pinstripelaw13.LayoutBack': WHATEVER THE INPUT: true; the input reads as it did. -/
def layoutBackSpec : ChangeSpec := { name := "layoutBack", fn := fun _ => fun
  | [d1, d2, d3] => { results := [.lit (.bool true)], args := [d1, d2, d3] }
  | _ => none }
def layoutBackRow : OpenClaim := { program := "ytoglcohdanpciaa", sum := "168703ca78e8bc049b8175b8793669e2045d891d2f16d54e2ef604cec04d637b", func := "pinstripe/pinstripelaw13.LayoutBack", spec := "layoutBack", inPlace := ["internal/bytealg.MakeNoZero"], unfollowed := true, recurses := true, apart := false }
def LayoutBackSaid : Prop := layoutBackRow.holds Try.pinned (OpenSpec.ofChange layoutBackSpec)

/-- ITS FALSE NEIGHBOUR: 'it returns false'. Refute it at one input. -/
def layoutBackWrong : ChangeSpec := { name := "layoutBack", fn := fun _ => fun
  | [d1, d2, d3] => { results := [.lit (.bool false)], args := [d1, d2, d3] }
  | _ => none }
def LayoutBackWrongFalsely : Prop := layoutBackRow.holds Try.pinned (OpenSpec.ofChange layoutBackWrong)

/-- 'pinstripelaw13.LayoutSpans': WHATEVER THE INPUT: true; the input reads as it did. -/
def layoutSpansSpec : ChangeSpec := { name := "layoutSpans", fn := fun _ => fun
  | [d1, d2, d3] => { results := [.lit (.bool true)], args := [d1, d2, d3] }
  | _ => none }
def layoutSpansRow : OpenClaim := { program := "ytoglcohdanpciaa", sum := "168703ca78e8bc049b8175b8793669e2045d891d2f16d54e2ef604cec04d637b", func := "pinstripe/pinstripelaw13.LayoutSpans", spec := "layoutSpans", inPlace := ["internal/bytealg.MakeNoZero"], unfollowed := true, recurses := true, apart := false }
def LayoutSpansSaid : Prop := layoutSpansRow.holds Try.pinned (OpenSpec.ofChange layoutSpansSpec)

/-- ITS FALSE NEIGHBOUR: 'it returns false'. Refute it at one input. -/
def layoutSpansWrong : ChangeSpec := { name := "layoutSpans", fn := fun _ => fun
  | [d1, d2, d3] => { results := [.lit (.bool false)], args := [d1, d2, d3] }
  | _ => none }
def LayoutSpansWrongFalsely : Prop := layoutSpansRow.holds Try.pinned (OpenSpec.ofChange layoutSpansWrong)

/-- 'pinstripelaw13.LayoutPlaces': WHATEVER THE INPUT: true; the input reads as it did. -/
def layoutPlacesSpec : ChangeSpec := { name := "layoutPlaces", fn := fun _ => fun
  | [d] => { results := [.lit (.bool true)], args := [d] }
  | _ => none }
def layoutPlacesRow : OpenClaim := { program := "ytoglcohdanpciaa", sum := "168703ca78e8bc049b8175b8793669e2045d891d2f16d54e2ef604cec04d637b", func := "pinstripe/pinstripelaw13.LayoutPlaces", spec := "layoutPlaces", inPlace := ["internal/bytealg.MakeNoZero"], unfollowed := true, recurses := true, apart := false }
def LayoutPlacesSaid : Prop := layoutPlacesRow.holds Try.pinned (OpenSpec.ofChange layoutPlacesSpec)

/-- ITS FALSE NEIGHBOUR: 'it returns false'. Refute it at one input. -/
def layoutPlacesWrong : ChangeSpec := { name := "layoutPlaces", fn := fun _ => fun
  | [d] => { results := [.lit (.bool false)], args := [d] }
  | _ => none }
def LayoutPlacesWrongFalsely : Prop := layoutPlacesRow.holds Try.pinned (OpenSpec.ofChange layoutPlacesWrong)

/-- 'pinstripelaw13.LayoutUnlike': WHATEVER THE INPUT: true; the input reads as it did. -/
def layoutUnlikeSpec : ChangeSpec := { name := "layoutUnlike", fn := fun _ => fun
  | [d1, d2, d3] => { results := [.lit (.bool true)], args := [d1, d2, d3] }
  | _ => none }
def layoutUnlikeRow : OpenClaim := { program := "ytoglcohdanpciaa", sum := "168703ca78e8bc049b8175b8793669e2045d891d2f16d54e2ef604cec04d637b", func := "pinstripe/pinstripelaw13.LayoutUnlike", spec := "layoutUnlike", inPlace := ["internal/bytealg.MakeNoZero"], unfollowed := true, recurses := true, apart := false }
def LayoutUnlikeSaid : Prop := layoutUnlikeRow.holds Try.pinned (OpenSpec.ofChange layoutUnlikeSpec)

/-- ITS FALSE NEIGHBOUR: 'it returns false'. Refute it at one input. -/
def layoutUnlikeWrong : ChangeSpec := { name := "layoutUnlike", fn := fun _ => fun
  | [d1, d2, d3] => { results := [.lit (.bool false)], args := [d1, d2, d3] }
  | _ => none }
def LayoutUnlikeWrongFalsely : Prop := layoutUnlikeRow.holds Try.pinned (OpenSpec.ofChange layoutUnlikeWrong)

/-- 'pinstripelaw16.NoteKnown': WHATEVER THE INPUT: true; the input reads as it did. -/
def noteKnownSpec : ChangeSpec := { name := "noteKnown", fn := fun _ => fun
  | [] => { results := [.lit (.bool true)], args := [] }
  | _ => none }
def noteKnownRow : OpenClaim := { program := "ytoglcohdanpciaa", sum := "168703ca78e8bc049b8175b8793669e2045d891d2f16d54e2ef604cec04d637b", func := "pinstripe/pinstripelaw16.NoteKnown", spec := "noteKnown", unfollowed := true, recurses := true, apart := false }
def NoteKnownSaid : Prop := noteKnownRow.holds Try.pinned (OpenSpec.ofChange noteKnownSpec)

/-- ITS FALSE NEIGHBOUR: 'it returns false'. Refute it at one input. -/
def noteKnownWrong : ChangeSpec := { name := "noteKnown", fn := fun _ => fun
  | [] => { results := [.lit (.bool false)], args := [] }
  | _ => none }
def NoteKnownWrongFalsely : Prop := noteKnownRow.holds Try.pinned (OpenSpec.ofChange noteKnownWrong)

/-- 'pinstripelaw16.NoteAsks': WHATEVER THE INPUT: true; the input reads as it did. -/
def noteAsksSpec : ChangeSpec := { name := "noteAsks", fn := fun _ => fun
  | [d1, d2] => { results := [.lit (.bool true)], args := [d1, d2] }
  | _ => none }
def noteAsksRow : OpenClaim := { program := "ytoglcohdanpciaa", sum := "168703ca78e8bc049b8175b8793669e2045d891d2f16d54e2ef604cec04d637b", func := "pinstripe/pinstripelaw16.NoteAsks", spec := "noteAsks", unfollowed := true, recurses := true, apart := false }
def NoteAsksSaid : Prop := noteAsksRow.holds Try.pinned (OpenSpec.ofChange noteAsksSpec)

/-- ITS FALSE NEIGHBOUR: 'it returns false'. Refute it at one input. -/
def noteAsksWrong : ChangeSpec := { name := "noteAsks", fn := fun _ => fun
  | [d1, d2] => { results := [.lit (.bool false)], args := [d1, d2] }
  | _ => none }
def NoteAsksWrongFalsely : Prop := noteAsksRow.holds Try.pinned (OpenSpec.ofChange noteAsksWrong)

/-- 'pinstripelaw16.NoteCuts': WHATEVER THE INPUT: true; the input reads as it did. -/
def noteCutsSpec : ChangeSpec := { name := "noteCuts", fn := fun _ => fun
  | [d1, d2, d3] => { results := [.lit (.bool true)], args := [d1, d2, d3] }
  | _ => none }
def noteCutsRow : OpenClaim := { program := "ytoglcohdanpciaa", sum := "168703ca78e8bc049b8175b8793669e2045d891d2f16d54e2ef604cec04d637b", func := "pinstripe/pinstripelaw16.NoteCuts", spec := "noteCuts", unfollowed := true, recurses := true, apart := false }
def NoteCutsSaid : Prop := noteCutsRow.holds Try.pinned (OpenSpec.ofChange noteCutsSpec)

/-- ITS FALSE NEIGHBOUR: 'it returns false'. Refute it at one input. -/
def noteCutsWrong : ChangeSpec := { name := "noteCuts", fn := fun _ => fun
  | [d1, d2, d3] => { results := [.lit (.bool false)], args := [d1, d2, d3] }
  | _ => none }
def NoteCutsWrongFalsely : Prop := noteCutsRow.holds Try.pinned (OpenSpec.ofChange noteCutsWrong)

/-- 'pinstripelaw16.NoteReplies': WHATEVER THE INPUT: true; the input reads as it did. -/
def noteRepliesSpec : ChangeSpec := { name := "noteReplies", fn := fun _ => fun
  | [d1, d2, d3] => { results := [.lit (.bool true)], args := [d1, d2, d3] }
  | _ => none }
def noteRepliesRow : OpenClaim := { program := "ytoglcohdanpciaa", sum := "168703ca78e8bc049b8175b8793669e2045d891d2f16d54e2ef604cec04d637b", func := "pinstripe/pinstripelaw16.NoteReplies", spec := "noteReplies", unfollowed := true, recurses := true, apart := false }
def NoteRepliesSaid : Prop := noteRepliesRow.holds Try.pinned (OpenSpec.ofChange noteRepliesSpec)

/-- ITS FALSE NEIGHBOUR: 'it returns false'. Refute it at one input. -/
def noteRepliesWrong : ChangeSpec := { name := "noteReplies", fn := fun _ => fun
  | [d1, d2, d3] => { results := [.lit (.bool false)], args := [d1, d2, d3] }
  | _ => none }
def NoteRepliesWrongFalsely : Prop := noteRepliesRow.holds Try.pinned (OpenSpec.ofChange noteRepliesWrong)

/- THE SECOND FORM. 'bulk': how many values and letters a reading holds, each counted each time it is reached (what is shared counts as often as it is met; a slice's spare places count too). A statement '..UptoSaid' is the law's where the arguments, and the package variables that the reading takes, are together of bulk at most 1048576: NARROWER than '..Said'. Prove '..Said' where nothing that the law and all that it calls make is longer than what came in: it says more and counts as full. Else prove '..UptoSaid'. A law counts once. -/
mutual
def uptoBulk {H : Type} : DataW H → Nat
  | .lit (.string bytes) => bytes.length + 1
  | .lit _ => 1
  | .nil => 1
  | .ptr d => uptoBulk d + 1
  | .slice elems spare => uptoBulkAll elems + uptoBulkAll spare + 1
  | .agg parts => uptoBulkAll parts + 1
  | .iface _ d => uptoBulk d + 1
  | .map entries => uptoBulkEntries entries + 1
  | .held _ => 1
def uptoBulkAll {H : Type} : List (DataW H) → Nat
  | [] => 0
  | d :: r => uptoBulk d + uptoBulkAll r
def uptoBulkEntries {H : Type} : List (Lit × DataW H) → Nat
  | [] => 0
  | x :: r => uptoBulkEntry x + uptoBulkEntries r
def uptoBulkEntry {H : Type} : Lit × DataW H → Nat
  | (.string bytes, d) => bytes.length + uptoBulk d + 1
  | (_, d) => uptoBulk d + 1
 end
def uptoSmall : (H : Type) → List (DataW H) → Bool := fun _ ds => decide (uptoBulkAll ds ≤ 1048576)
def OpenSpec.upto (s : _root_.Go.ChangeSpec) : _root_.Go.OpenSpec := { _root_.Go.OpenSpec.ofChange s with cond := some uptoSmall }

/-- 'pinstripelaw13.LayoutKnown', WHERE WHAT IT READS IS OF BULK AT MOST 1048576: true; the input reads as it did. -/
def layoutKnownUptoRow : OpenClaim := { program := "ytoglcohdanpciaa", sum := "168703ca78e8bc049b8175b8793669e2045d891d2f16d54e2ef604cec04d637b", func := "pinstripe/pinstripelaw13.LayoutKnown", spec := "layoutKnown", inPlace := ["internal/bytealg.MakeNoZero"], unfollowed := true, recurses := true, apart := false, narrowed := true }
def LayoutKnownUptoSaid : Prop := layoutKnownUptoRow.holds Try.pinned (OpenSpec.upto layoutKnownSpec)

/-- 'pinstripelaw13.LayoutCuts', WHERE WHAT IT READS IS OF BULK AT MOST 1048576: true; the input reads as it did. -/
def layoutCutsUptoRow : OpenClaim := { program := "ytoglcohdanpciaa", sum := "168703ca78e8bc049b8175b8793669e2045d891d2f16d54e2ef604cec04d637b", func := "pinstripe/pinstripelaw13.LayoutCuts", spec := "layoutCuts", inPlace := ["internal/bytealg.MakeNoZero"], unfollowed := true, recurses := true, apart := false, narrowed := true }
def LayoutCutsUptoSaid : Prop := layoutCutsUptoRow.holds Try.pinned (OpenSpec.upto layoutCutsSpec)

/-- 'pinstripelaw13.LayoutReads', WHERE WHAT IT READS IS OF BULK AT MOST 1048576: true; the input reads as it did. -/
def layoutReadsUptoRow : OpenClaim := { program := "ytoglcohdanpciaa", sum := "168703ca78e8bc049b8175b8793669e2045d891d2f16d54e2ef604cec04d637b", func := "pinstripe/pinstripelaw13.LayoutReads", spec := "layoutReads", inPlace := ["internal/bytealg.MakeNoZero"], unfollowed := true, recurses := true, apart := false, narrowed := true }
def LayoutReadsUptoSaid : Prop := layoutReadsUptoRow.holds Try.pinned (OpenSpec.upto layoutReadsSpec)

/-- 'pinstripelaw13.LayoutJoins', WHERE WHAT IT READS IS OF BULK AT MOST 1048576: true; the input reads as it did. -/
def layoutJoinsUptoRow : OpenClaim := { program := "ytoglcohdanpciaa", sum := "168703ca78e8bc049b8175b8793669e2045d891d2f16d54e2ef604cec04d637b", func := "pinstripe/pinstripelaw13.LayoutJoins", spec := "layoutJoins", inPlace := ["internal/bytealg.MakeNoZero"], unfollowed := true, recurses := true, apart := false, narrowed := true }
def LayoutJoinsUptoSaid : Prop := layoutJoinsUptoRow.holds Try.pinned (OpenSpec.upto layoutJoinsSpec)

/-- 'pinstripelaw13.LayoutBack', WHERE WHAT IT READS IS OF BULK AT MOST 1048576: true; the input reads as it did. -/
def layoutBackUptoRow : OpenClaim := { program := "ytoglcohdanpciaa", sum := "168703ca78e8bc049b8175b8793669e2045d891d2f16d54e2ef604cec04d637b", func := "pinstripe/pinstripelaw13.LayoutBack", spec := "layoutBack", inPlace := ["internal/bytealg.MakeNoZero"], unfollowed := true, recurses := true, apart := false, narrowed := true }
def LayoutBackUptoSaid : Prop := layoutBackUptoRow.holds Try.pinned (OpenSpec.upto layoutBackSpec)

/-- 'pinstripelaw13.LayoutSpans', WHERE WHAT IT READS IS OF BULK AT MOST 1048576: true; the input reads as it did. -/
def layoutSpansUptoRow : OpenClaim := { program := "ytoglcohdanpciaa", sum := "168703ca78e8bc049b8175b8793669e2045d891d2f16d54e2ef604cec04d637b", func := "pinstripe/pinstripelaw13.LayoutSpans", spec := "layoutSpans", inPlace := ["internal/bytealg.MakeNoZero"], unfollowed := true, recurses := true, apart := false, narrowed := true }
def LayoutSpansUptoSaid : Prop := layoutSpansUptoRow.holds Try.pinned (OpenSpec.upto layoutSpansSpec)

/-- 'pinstripelaw13.LayoutPlaces', WHERE WHAT IT READS IS OF BULK AT MOST 1048576: true; the input reads as it did. -/
def layoutPlacesUptoRow : OpenClaim := { program := "ytoglcohdanpciaa", sum := "168703ca78e8bc049b8175b8793669e2045d891d2f16d54e2ef604cec04d637b", func := "pinstripe/pinstripelaw13.LayoutPlaces", spec := "layoutPlaces", inPlace := ["internal/bytealg.MakeNoZero"], unfollowed := true, recurses := true, apart := false, narrowed := true }
def LayoutPlacesUptoSaid : Prop := layoutPlacesUptoRow.holds Try.pinned (OpenSpec.upto layoutPlacesSpec)

/-- 'pinstripelaw13.LayoutUnlike', WHERE WHAT IT READS IS OF BULK AT MOST 1048576: true; the input reads as it did. -/
def layoutUnlikeUptoRow : OpenClaim := { program := "ytoglcohdanpciaa", sum := "168703ca78e8bc049b8175b8793669e2045d891d2f16d54e2ef604cec04d637b", func := "pinstripe/pinstripelaw13.LayoutUnlike", spec := "layoutUnlike", inPlace := ["internal/bytealg.MakeNoZero"], unfollowed := true, recurses := true, apart := false, narrowed := true }
def LayoutUnlikeUptoSaid : Prop := layoutUnlikeUptoRow.holds Try.pinned (OpenSpec.upto layoutUnlikeSpec)

/-- 'pinstripelaw16.NoteKnown', WHERE WHAT IT READS IS OF BULK AT MOST 1048576: true; the input reads as it did. -/
def noteKnownUptoRow : OpenClaim := { program := "ytoglcohdanpciaa", sum := "168703ca78e8bc049b8175b8793669e2045d891d2f16d54e2ef604cec04d637b", func := "pinstripe/pinstripelaw16.NoteKnown", spec := "noteKnown", unfollowed := true, recurses := true, apart := false, narrowed := true }
def NoteKnownUptoSaid : Prop := noteKnownUptoRow.holds Try.pinned (OpenSpec.upto noteKnownSpec)

/-- 'pinstripelaw16.NoteAsks', WHERE WHAT IT READS IS OF BULK AT MOST 1048576: true; the input reads as it did. -/
def noteAsksUptoRow : OpenClaim := { program := "ytoglcohdanpciaa", sum := "168703ca78e8bc049b8175b8793669e2045d891d2f16d54e2ef604cec04d637b", func := "pinstripe/pinstripelaw16.NoteAsks", spec := "noteAsks", unfollowed := true, recurses := true, apart := false, narrowed := true }
def NoteAsksUptoSaid : Prop := noteAsksUptoRow.holds Try.pinned (OpenSpec.upto noteAsksSpec)

/-- 'pinstripelaw16.NoteCuts', WHERE WHAT IT READS IS OF BULK AT MOST 1048576: true; the input reads as it did. -/
def noteCutsUptoRow : OpenClaim := { program := "ytoglcohdanpciaa", sum := "168703ca78e8bc049b8175b8793669e2045d891d2f16d54e2ef604cec04d637b", func := "pinstripe/pinstripelaw16.NoteCuts", spec := "noteCuts", unfollowed := true, recurses := true, apart := false, narrowed := true }
def NoteCutsUptoSaid : Prop := noteCutsUptoRow.holds Try.pinned (OpenSpec.upto noteCutsSpec)

/-- 'pinstripelaw16.NoteReplies', WHERE WHAT IT READS IS OF BULK AT MOST 1048576: true; the input reads as it did. -/
def noteRepliesUptoRow : OpenClaim := { program := "ytoglcohdanpciaa", sum := "168703ca78e8bc049b8175b8793669e2045d891d2f16d54e2ef604cec04d637b", func := "pinstripe/pinstripelaw16.NoteReplies", spec := "noteReplies", unfollowed := true, recurses := true, apart := false, narrowed := true }
def NoteRepliesUptoSaid : Prop := noteRepliesUptoRow.holds Try.pinned (OpenSpec.upto noteRepliesSpec)

end Rows
end Go.Proofs.Ytoglcohdanpciaa
