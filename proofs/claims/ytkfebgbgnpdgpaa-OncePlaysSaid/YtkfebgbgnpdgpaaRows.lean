/-
  No cell of these rows narrows 'for every input' (looked for: loops, veiled, ifaces, maps, wideKeys, modest, calm, conditions, laid).
  DERIVED. THE GIVEN ROWS OF THIS SEAT. 7 by the template 'for every input the law returns true; each argument reads behind the call as it read before'; 0 by the template 'total and deterministic' (their statements: YtkfebgbgnpdgpaaTotals.lean).
  GIVEN WITH THE SEED: the statements are not yours to turn. If you find one false, say at which input.
  Laid BY PROGRAM, IN A SANDBOX (cutbox-rows.mjs): the forced cells as the released guide's own fill.sh prints them over the translation 8f1d7f45e7997dce… (all of the seat's roots in one cut). By AI agents, Wed Nov 11 2026. No macro, syntax, notation, axiom, sorry.
-/
import Derived.Test.YtkfebgbgnpdgpaaChecked
import GoSem.Claim
import GoSem.ClaimJoined
import GoSem.ClaimMapViews
import Derived.JoinedTies
import Derived.KernelRfl
namespace Go.Proofs.Ytkfebgbgnpdgpaa
/- THE CELL 'sum', in the pinned program and in every row, IS THE sha256 OF THE DUMP (.gsa) THAT YtkfebgbgnpdgpaaProg.lean LOADS. Nothing in Lean hashes anything: it is a label: what it is worth is what the hold of that sum in a sandbox is worth. -/
noncomputable def Try.pinned : Pinned := { name := "ytkfebgbgnpdgpaa", sum := "8f1d7f45e7997dce4908f49bdc11a72c84783a842bcb981394a15d72eecdebf4", checked := Try.checked }
namespace Rows
def none {H : Type} : Left H := { results := [], args := [] }

/-- 'pinstripelaw7.BagTakes': WHATEVER THE INPUT: true; the input reads as it did. -/
def bagTakesSpec : ChangeSpec := { name := "bagTakes", fn := fun _ => fun
  | [d1, d2, d3] => { results := [.lit (.bool true)], args := [d1, d2, d3] }
  | _ => none }
def bagTakesRow : OpenClaim := { program := "ytkfebgbgnpdgpaa", sum := "8f1d7f45e7997dce4908f49bdc11a72c84783a842bcb981394a15d72eecdebf4", func := "pinstripe/pinstripelaw7.BagTakes", spec := "bagTakes", unfollowed := true, recurses := true, apart := false }
def BagTakesSaid : Prop := bagTakesRow.holds Try.pinned (OpenSpec.ofChange bagTakesSpec)

/-- ITS FALSE NEIGHBOUR: 'it returns false'. Refute it at one input. -/
def bagTakesWrong : ChangeSpec := { name := "bagTakes", fn := fun _ => fun
  | [d1, d2, d3] => { results := [.lit (.bool false)], args := [d1, d2, d3] }
  | _ => none }
def BagTakesWrongFalsely : Prop := bagTakesRow.holds Try.pinned (OpenSpec.ofChange bagTakesWrong)

/-- 'pinstripelaw8.OnceKnown': WHATEVER THE INPUT: true; the input reads as it did. -/
def onceKnownSpec : ChangeSpec := { name := "onceKnown", fn := fun _ => fun
  | [] => { results := [.lit (.bool true)], args := [] }
  | _ => none }
def onceKnownRow : OpenClaim := { program := "ytkfebgbgnpdgpaa", sum := "8f1d7f45e7997dce4908f49bdc11a72c84783a842bcb981394a15d72eecdebf4", func := "pinstripe/pinstripelaw8.OnceKnown", spec := "onceKnown", unfollowed := true, recurses := true, apart := false }
def OnceKnownSaid : Prop := onceKnownRow.holds Try.pinned (OpenSpec.ofChange onceKnownSpec)

/-- ITS FALSE NEIGHBOUR: 'it returns false'. Refute it at one input. -/
def onceKnownWrong : ChangeSpec := { name := "onceKnown", fn := fun _ => fun
  | [] => { results := [.lit (.bool false)], args := [] }
  | _ => none }
def OnceKnownWrongFalsely : Prop := onceKnownRow.holds Try.pinned (OpenSpec.ofChange onceKnownWrong)

/-- 'pinstripelaw8.OncePlays': WHATEVER THE INPUT: true; the input reads as it did. -/
def oncePlaysSpec : ChangeSpec := { name := "oncePlays", fn := fun _ => fun
  | [d1, d2, d3] => { results := [.lit (.bool true)], args := [d1, d2, d3] }
  | _ => none }
def oncePlaysRow : OpenClaim := { program := "ytkfebgbgnpdgpaa", sum := "8f1d7f45e7997dce4908f49bdc11a72c84783a842bcb981394a15d72eecdebf4", func := "pinstripe/pinstripelaw8.OncePlays", spec := "oncePlays", unfollowed := true, recurses := true, apart := false }
def OncePlaysSaid : Prop := oncePlaysRow.holds Try.pinned (OpenSpec.ofChange oncePlaysSpec)

/-- ITS FALSE NEIGHBOUR: 'it returns false'. Refute it at one input. -/
def oncePlaysWrong : ChangeSpec := { name := "oncePlays", fn := fun _ => fun
  | [d1, d2, d3] => { results := [.lit (.bool false)], args := [d1, d2, d3] }
  | _ => none }
def OncePlaysWrongFalsely : Prop := oncePlaysRow.holds Try.pinned (OpenSpec.ofChange oncePlaysWrong)

/-- 'pinstripelaw8.OnceOnce': WHATEVER THE INPUT: true; the input reads as it did. -/
def onceOnceSpec : ChangeSpec := { name := "onceOnce", fn := fun _ => fun
  | [d] => { results := [.lit (.bool true)], args := [d] }
  | _ => none }
def onceOnceRow : OpenClaim := { program := "ytkfebgbgnpdgpaa", sum := "8f1d7f45e7997dce4908f49bdc11a72c84783a842bcb981394a15d72eecdebf4", func := "pinstripe/pinstripelaw8.OnceOnce", spec := "onceOnce", unfollowed := true, recurses := true, apart := false }
def OnceOnceSaid : Prop := onceOnceRow.holds Try.pinned (OpenSpec.ofChange onceOnceSpec)

/-- ITS FALSE NEIGHBOUR: 'it returns false'. Refute it at one input. -/
def onceOnceWrong : ChangeSpec := { name := "onceOnce", fn := fun _ => fun
  | [d] => { results := [.lit (.bool false)], args := [d] }
  | _ => none }
def OnceOnceWrongFalsely : Prop := onceOnceRow.holds Try.pinned (OpenSpec.ofChange onceOnceWrong)

/-- 'pinstripelaw8.OnceLives': WHATEVER THE INPUT: true; the input reads as it did. -/
def onceLivesSpec : ChangeSpec := { name := "onceLives", fn := fun _ => fun
  | [d1, d2, d3] => { results := [.lit (.bool true)], args := [d1, d2, d3] }
  | _ => none }
def onceLivesRow : OpenClaim := { program := "ytkfebgbgnpdgpaa", sum := "8f1d7f45e7997dce4908f49bdc11a72c84783a842bcb981394a15d72eecdebf4", func := "pinstripe/pinstripelaw8.OnceLives", spec := "onceLives", unfollowed := true, recurses := true, apart := false }
def OnceLivesSaid : Prop := onceLivesRow.holds Try.pinned (OpenSpec.ofChange onceLivesSpec)

/-- ITS FALSE NEIGHBOUR: 'it returns false'. Refute it at one input. -/
def onceLivesWrong : ChangeSpec := { name := "onceLives", fn := fun _ => fun
  | [d1, d2, d3] => { results := [.lit (.bool false)], args := [d1, d2, d3] }
  | _ => none }
def OnceLivesWrongFalsely : Prop := onceLivesRow.holds Try.pinned (OpenSpec.ofChange onceLivesWrong)

/-- 'pinstripelaw8.OnceLoads': WHATEVER THE INPUT: true; the input reads as it did. -/
def onceLoadsSpec : ChangeSpec := { name := "onceLoads", fn := fun _ => fun
  | [d1, d2] => { results := [.lit (.bool true)], args := [d1, d2] }
  | _ => none }
def onceLoadsRow : OpenClaim := { program := "ytkfebgbgnpdgpaa", sum := "8f1d7f45e7997dce4908f49bdc11a72c84783a842bcb981394a15d72eecdebf4", func := "pinstripe/pinstripelaw8.OnceLoads", spec := "onceLoads", unfollowed := true, recurses := true, apart := false }
def OnceLoadsSaid : Prop := onceLoadsRow.holds Try.pinned (OpenSpec.ofChange onceLoadsSpec)

/-- ITS FALSE NEIGHBOUR: 'it returns false'. Refute it at one input. -/
def onceLoadsWrong : ChangeSpec := { name := "onceLoads", fn := fun _ => fun
  | [d1, d2] => { results := [.lit (.bool false)], args := [d1, d2] }
  | _ => none }
def OnceLoadsWrongFalsely : Prop := onceLoadsRow.holds Try.pinned (OpenSpec.ofChange onceLoadsWrong)

/-- 'pinstripelaw8.OnceRows': WHATEVER THE INPUT: true; the input reads as it did. -/
def onceRowsSpec : ChangeSpec := { name := "onceRows", fn := fun _ => fun
  | [d] => { results := [.lit (.bool true)], args := [d] }
  | _ => none }
def onceRowsRow : OpenClaim := { program := "ytkfebgbgnpdgpaa", sum := "8f1d7f45e7997dce4908f49bdc11a72c84783a842bcb981394a15d72eecdebf4", func := "pinstripe/pinstripelaw8.OnceRows", spec := "onceRows", unfollowed := true, recurses := true, apart := false }
def OnceRowsSaid : Prop := onceRowsRow.holds Try.pinned (OpenSpec.ofChange onceRowsSpec)

/-- ITS FALSE NEIGHBOUR: 'it returns false'. Refute it at one input. -/
def onceRowsWrong : ChangeSpec := { name := "onceRows", fn := fun _ => fun
  | [d] => { results := [.lit (.bool false)], args := [d] }
  | _ => none }
def OnceRowsWrongFalsely : Prop := onceRowsRow.holds Try.pinned (OpenSpec.ofChange onceRowsWrong)

/- THE SECOND FORM. 'bulk': how many values and letters a reading holds, each counted each time it is reached (what is shared counts as often as it is met; a slice's spare places count too). A statement '..UptoSaid' is the law's where the arguments, and the package variables that the reading takes, are together of bulk at most 1048576: NARROWER than '..Said'. Prove '..Said' where nothing that the law and all that it calls make is longer than what came in: it says more and counts as full. Else prove '..UptoSaid'. A law counts once. -/
mutual
def uptoBulk {H : Type} : DataW H → Nat
  | .lit (.string bytes) => bytes.length + 1
  | .lit _ => 1
  | .nil => 1
  | .ptr d => uptoBulk d + 1
  | .slice elems spare => uptoBulkAll elems + uptoBulkAll spare + 1
  | .agg parts => uptoBulkAll parts + 1
  | .iface _ d => uptoBulk d + 1
  | .map entries => uptoBulkEntries entries + 1
  | .held _ => 1
def uptoBulkAll {H : Type} : List (DataW H) → Nat
  | [] => 0
  | d :: r => uptoBulk d + uptoBulkAll r
def uptoBulkEntries {H : Type} : List (Lit × DataW H) → Nat
  | [] => 0
  | x :: r => uptoBulkEntry x + uptoBulkEntries r
def uptoBulkEntry {H : Type} : Lit × DataW H → Nat
  | (.string bytes, d) => bytes.length + uptoBulk d + 1
  | (_, d) => uptoBulk d + 1
 end
def uptoSmall : (H : Type) → List (DataW H) → Bool := fun _ ds => decide (uptoBulkAll ds ≤ 1048576)
def OpenSpec.upto (s : _root_.Go.ChangeSpec) : _root_.Go.OpenSpec := { _root_.Go.OpenSpec.ofChange s with cond := some uptoSmall }

/-- 'pinstripelaw7.BagTakes', WHERE WHAT IT READS IS OF BULK AT MOST 1048576: true; the input reads as it did. -/
def bagTakesUptoRow : OpenClaim := { program := "ytkfebgbgnpdgpaa", sum := "8f1d7f45e7997dce4908f49bdc11a72c84783a842bcb981394a15d72eecdebf4", func := "pinstripe/pinstripelaw7.BagTakes", spec := "bagTakes", unfollowed := true, recurses := true, apart := false, narrowed := true }
def BagTakesUptoSaid : Prop := bagTakesUptoRow.holds Try.pinned (OpenSpec.upto bagTakesSpec)

/-- 'pinstripelaw8.OnceKnown', WHERE WHAT IT READS IS OF BULK AT MOST 1048576: true; the input reads as it did. -/
def onceKnownUptoRow : OpenClaim := { program := "ytkfebgbgnpdgpaa", sum := "8f1d7f45e7997dce4908f49bdc11a72c84783a842bcb981394a15d72eecdebf4", func := "pinstripe/pinstripelaw8.OnceKnown", spec := "onceKnown", unfollowed := true, recurses := true, apart := false, narrowed := true }
def OnceKnownUptoSaid : Prop := onceKnownUptoRow.holds Try.pinned (OpenSpec.upto onceKnownSpec)

/-- 'pinstripelaw8.OncePlays', WHERE WHAT IT READS IS OF BULK AT MOST 1048576: true; the input reads as it did. -/
def oncePlaysUptoRow : OpenClaim := { program := "ytkfebgbgnpdgpaa", sum := "8f1d7f45e7997dce4908f49bdc11a72c84783a842bcb981394a15d72eecdebf4", func := "pinstripe/pinstripelaw8.OncePlays", spec := "oncePlays", unfollowed := true, recurses := true, apart := false, narrowed := true }
def OncePlaysUptoSaid : Prop := oncePlaysUptoRow.holds Try.pinned (OpenSpec.upto oncePlaysSpec)

/-- 'pinstripelaw8.OnceOnce', WHERE WHAT IT READS IS OF BULK AT MOST 1048576: true; the input reads as it did. -/
def onceOnceUptoRow : OpenClaim := { program := "ytkfebgbgnpdgpaa", sum := "8f1d7f45e7997dce4908f49bdc11a72c84783a842bcb981394a15d72eecdebf4", func := "pinstripe/pinstripelaw8.OnceOnce", spec := "onceOnce", unfollowed := true, recurses := true, apart := false, narrowed := true }
def OnceOnceUptoSaid : Prop := onceOnceUptoRow.holds Try.pinned (OpenSpec.upto onceOnceSpec)

/-- 'pinstripelaw8.OnceLives', WHERE WHAT IT READS IS OF BULK AT MOST 1048576: true; the input reads as it did. -/
def onceLivesUptoRow : OpenClaim := { program := "ytkfebgbgnpdgpaa", sum := "8f1d7f45e7997dce4908f49bdc11a72c84783a842bcb981394a15d72eecdebf4", func := "pinstripe/pinstripelaw8.OnceLives", spec := "onceLives", unfollowed := true, recurses := true, apart := false, narrowed := true }
def OnceLivesUptoSaid : Prop := onceLivesUptoRow.holds Try.pinned (OpenSpec.upto onceLivesSpec)

/-- 'pinstripelaw8.OnceLoads', WHERE WHAT IT READS IS OF BULK AT MOST 1048576: true; the input reads as it did. -/
def onceLoadsUptoRow : OpenClaim := { program := "ytkfebgbgnpdgpaa", sum := "8f1d7f45e7997dce4908f49bdc11a72c84783a842bcb981394a15d72eecdebf4", func := "pinstripe/pinstripelaw8.OnceLoads", spec := "onceLoads", unfollowed := true, recurses := true, apart := false, narrowed := true }
def OnceLoadsUptoSaid : Prop := onceLoadsUptoRow.holds Try.pinned (OpenSpec.upto onceLoadsSpec)

/-- 'pinstripelaw8.OnceRows', WHERE WHAT IT READS IS OF BULK AT MOST 1048576: true; the input reads as it did. -/
def onceRowsUptoRow : OpenClaim := { program := "ytkfebgbgnpdgpaa", sum := "8f1d7f45e7997dce4908f49bdc11a72c84783a842bcb981394a15d72eecdebf4", func := "pinstripe/pinstripelaw8.OnceRows", spec := "onceRows", unfollowed := true, recurses := true, apart := false, narrowed := true }
def OnceRowsUptoSaid : Prop := onceRowsUptoRow.holds Try.pinned (OpenSpec.upto onceRowsSpec)

end Rows
end Go.Proofs.Ytkfebgbgnpdgpaa
