/-
  No cell of these rows narrows 'for every input' (looked for: loops, veiled, ifaces, maps, wideKeys, modest, calm, conditions, laid).
  DERIVED. THE GIVEN ROWS OF THIS SEAT. 5 by the template 'for every input the law returns true; each argument reads behind the call as it read before'; 0 by the template 'total and deterministic' (their statements: YteeagemlaolhjaaTotals.lean).
  GIVEN WITH THE SEED: the statements are not yours to turn. If you find one false, say at which input.
  Laid BY PROGRAM, IN A SANDBOX (cutbox-rows.mjs): the forced cells as the released guide's own fill.sh prints them over the translation 6b0e481e78256bc1… (all of the seat's roots in one cut). By AI agents, Wed Nov 11 2026. No macro, syntax, notation, axiom, sorry.
-/
import Derived.Test.YteeagemlaolhjaaChecked
import GoSem.Claim
import GoSem.ClaimJoined
import GoSem.ClaimMapViews
import Derived.JoinedTies
import Derived.KernelRfl
namespace Go.Proofs.Yteeagemlaolhjaa
/- THE CELL 'sum', in the pinned program and in every row, IS THE sha256 OF THE DUMP (.gsa) THAT YteeagemlaolhjaaProg.lean LOADS. Nothing in Lean hashes anything: it is a label: what it is worth is what the hold of that sum in a sandbox is worth. -/
noncomputable def Try.pinned : Pinned := { name := "yteeagemlaolhjaa", sum := "6b0e481e78256bc16ebd10cb758dd00d5086a53634b79bcd0c667353dde7c872", checked := Try.checked }
namespace Rows
def none {H : Type} : Left H := { results := [], args := [] }

/-- 'pinstripelaw15.TokensKnown': WHATEVER THE INPUT: true; the input reads as it did. -/
def tokensKnownSpec : ChangeSpec := { name := "tokensKnown", fn := fun _ => fun
  | [] => { results := [.lit (.bool true)], args := [] }
  | _ => none }
def tokensKnownRow : OpenClaim := { program := "yteeagemlaolhjaa", sum := "6b0e481e78256bc16ebd10cb758dd00d5086a53634b79bcd0c667353dde7c872", func := "pinstripe/pinstripelaw15.TokensKnown", spec := "tokensKnown", unfollowed := true, recurses := true, apart := false }
def TokensKnownSaid : Prop := tokensKnownRow.holds Try.pinned (OpenSpec.ofChange tokensKnownSpec)

/-- ITS FALSE NEIGHBOUR: 'it returns false'. Refute it at one input. -/
def tokensKnownWrong : ChangeSpec := { name := "tokensKnown", fn := fun _ => fun
  | [] => { results := [.lit (.bool false)], args := [] }
  | _ => none }
def TokensKnownWrongFalsely : Prop := tokensKnownRow.holds Try.pinned (OpenSpec.ofChange tokensKnownWrong)

/-- 'pinstripelaw15.TokensPlays': WHATEVER THE INPUT: true; the input reads as it did. -/
def tokensPlaysSpec : ChangeSpec := { name := "tokensPlays", fn := fun _ => fun
  | [d] => { results := [.lit (.bool true)], args := [d] }
  | _ => none }
def tokensPlaysRow : OpenClaim := { program := "yteeagemlaolhjaa", sum := "6b0e481e78256bc16ebd10cb758dd00d5086a53634b79bcd0c667353dde7c872", func := "pinstripe/pinstripelaw15.TokensPlays", spec := "tokensPlays", unfollowed := true, recurses := true, apart := false }
def TokensPlaysSaid : Prop := tokensPlaysRow.holds Try.pinned (OpenSpec.ofChange tokensPlaysSpec)

/-- ITS FALSE NEIGHBOUR: 'it returns false'. Refute it at one input. -/
def tokensPlaysWrong : ChangeSpec := { name := "tokensPlays", fn := fun _ => fun
  | [d] => { results := [.lit (.bool false)], args := [d] }
  | _ => none }
def TokensPlaysWrongFalsely : Prop := tokensPlaysRow.holds Try.pinned (OpenSpec.ofChange tokensPlaysWrong)

/-- 'pinstripelaw15.TokensReads': WHATEVER THE INPUT: true; the input reads as it did. -/
def tokensReadsSpec : ChangeSpec := { name := "tokensReads", fn := fun _ => fun
  | [d] => { results := [.lit (.bool true)], args := [d] }
  | _ => none }
def tokensReadsRow : OpenClaim := { program := "yteeagemlaolhjaa", sum := "6b0e481e78256bc16ebd10cb758dd00d5086a53634b79bcd0c667353dde7c872", func := "pinstripe/pinstripelaw15.TokensReads", spec := "tokensReads", unfollowed := true, recurses := true, apart := false }
def TokensReadsSaid : Prop := tokensReadsRow.holds Try.pinned (OpenSpec.ofChange tokensReadsSpec)

/-- ITS FALSE NEIGHBOUR: 'it returns false'. Refute it at one input. -/
def tokensReadsWrong : ChangeSpec := { name := "tokensReads", fn := fun _ => fun
  | [d] => { results := [.lit (.bool false)], args := [d] }
  | _ => none }
def TokensReadsWrongFalsely : Prop := tokensReadsRow.holds Try.pinned (OpenSpec.ofChange tokensReadsWrong)

/-- 'pinstripelaw15.TokensAlone': WHATEVER THE INPUT: true; the input reads as it did. -/
def tokensAloneSpec : ChangeSpec := { name := "tokensAlone", fn := fun _ => fun
  | [d] => { results := [.lit (.bool true)], args := [d] }
  | _ => none }
def tokensAloneRow : OpenClaim := { program := "yteeagemlaolhjaa", sum := "6b0e481e78256bc16ebd10cb758dd00d5086a53634b79bcd0c667353dde7c872", func := "pinstripe/pinstripelaw15.TokensAlone", spec := "tokensAlone", unfollowed := true, recurses := true, apart := false }
def TokensAloneSaid : Prop := tokensAloneRow.holds Try.pinned (OpenSpec.ofChange tokensAloneSpec)

/-- ITS FALSE NEIGHBOUR: 'it returns false'. Refute it at one input. -/
def tokensAloneWrong : ChangeSpec := { name := "tokensAlone", fn := fun _ => fun
  | [d] => { results := [.lit (.bool false)], args := [d] }
  | _ => none }
def TokensAloneWrongFalsely : Prop := tokensAloneRow.holds Try.pinned (OpenSpec.ofChange tokensAloneWrong)

/-- 'pinstripelaw15.TokensLeast': WHATEVER THE INPUT: true; the input reads as it did. -/
def tokensLeastSpec : ChangeSpec := { name := "tokensLeast", fn := fun _ => fun
  | [d1, d2] => { results := [.lit (.bool true)], args := [d1, d2] }
  | _ => none }
def tokensLeastRow : OpenClaim := { program := "yteeagemlaolhjaa", sum := "6b0e481e78256bc16ebd10cb758dd00d5086a53634b79bcd0c667353dde7c872", func := "pinstripe/pinstripelaw15.TokensLeast", spec := "tokensLeast", unfollowed := true, recurses := true, apart := false }
def TokensLeastSaid : Prop := tokensLeastRow.holds Try.pinned (OpenSpec.ofChange tokensLeastSpec)

/-- ITS FALSE NEIGHBOUR: 'it returns false'. Refute it at one input. -/
def tokensLeastWrong : ChangeSpec := { name := "tokensLeast", fn := fun _ => fun
  | [d1, d2] => { results := [.lit (.bool false)], args := [d1, d2] }
  | _ => none }
def TokensLeastWrongFalsely : Prop := tokensLeastRow.holds Try.pinned (OpenSpec.ofChange tokensLeastWrong)

/- THE SECOND FORM. 'bulk': how many values and letters a reading holds, each counted each time it is reached (what is shared counts as often as it is met; a slice's spare places count too). A statement '..UptoSaid' is the law's where the arguments, and the package variables that the reading takes, are together of bulk at most 1048576: NARROWER than '..Said'. Prove '..Said' where nothing that the law and all that it calls make is longer than what came in: it says more and counts as full. Else prove '..UptoSaid'. A law counts once. -/
mutual
def uptoBulk {H : Type} : DataW H → Nat
  | .lit (.string bytes) => bytes.length + 1
  | .lit _ => 1
  | .nil => 1
  | .ptr d => uptoBulk d + 1
  | .slice elems spare => uptoBulkAll elems + uptoBulkAll spare + 1
  | .agg parts => uptoBulkAll parts + 1
  | .iface _ d => uptoBulk d + 1
  | .map entries => uptoBulkEntries entries + 1
  | .held _ => 1
def uptoBulkAll {H : Type} : List (DataW H) → Nat
  | [] => 0
  | d :: r => uptoBulk d + uptoBulkAll r
def uptoBulkEntries {H : Type} : List (Lit × DataW H) → Nat
  | [] => 0
  | x :: r => uptoBulkEntry x + uptoBulkEntries r
def uptoBulkEntry {H : Type} : Lit × DataW H → Nat
  | (.string bytes, d) => bytes.length + uptoBulk d + 1
  | (_, d) => uptoBulk d + 1
 end
def uptoSmall : (H : Type) → List (DataW H) → Bool := fun _ ds => decide (uptoBulkAll ds ≤ 1048576)
def OpenSpec.upto (s : _root_.Go.ChangeSpec) : _root_.Go.OpenSpec := { _root_.Go.OpenSpec.ofChange s with cond := some uptoSmall }

/-- 'pinstripelaw15.TokensKnown', WHERE WHAT IT READS IS OF BULK AT MOST 1048576: true; the input reads as it did. -/
def tokensKnownUptoRow : OpenClaim := { program := "yteeagemlaolhjaa", sum := "6b0e481e78256bc16ebd10cb758dd00d5086a53634b79bcd0c667353dde7c872", func := "pinstripe/pinstripelaw15.TokensKnown", spec := "tokensKnown", unfollowed := true, recurses := true, apart := false, narrowed := true }
def TokensKnownUptoSaid : Prop := tokensKnownUptoRow.holds Try.pinned (OpenSpec.upto tokensKnownSpec)

/-- 'pinstripelaw15.TokensPlays', WHERE WHAT IT READS IS OF BULK AT MOST 1048576: true; the input reads as it did. -/
def tokensPlaysUptoRow : OpenClaim := { program := "yteeagemlaolhjaa", sum := "6b0e481e78256bc16ebd10cb758dd00d5086a53634b79bcd0c667353dde7c872", func := "pinstripe/pinstripelaw15.TokensPlays", spec := "tokensPlays", unfollowed := true, recurses := true, apart := false, narrowed := true }
def TokensPlaysUptoSaid : Prop := tokensPlaysUptoRow.holds Try.pinned (OpenSpec.upto tokensPlaysSpec)

/-- 'pinstripelaw15.TokensReads', WHERE WHAT IT READS IS OF BULK AT MOST 1048576: true; the input reads as it did. -/
def tokensReadsUptoRow : OpenClaim := { program := "yteeagemlaolhjaa", sum := "6b0e481e78256bc16ebd10cb758dd00d5086a53634b79bcd0c667353dde7c872", func := "pinstripe/pinstripelaw15.TokensReads", spec := "tokensReads", unfollowed := true, recurses := true, apart := false, narrowed := true }
def TokensReadsUptoSaid : Prop := tokensReadsUptoRow.holds Try.pinned (OpenSpec.upto tokensReadsSpec)

/-- 'pinstripelaw15.TokensAlone', WHERE WHAT IT READS IS OF BULK AT MOST 1048576: true; the input reads as it did. -/
def tokensAloneUptoRow : OpenClaim := { program := "yteeagemlaolhjaa", sum := "6b0e481e78256bc16ebd10cb758dd00d5086a53634b79bcd0c667353dde7c872", func := "pinstripe/pinstripelaw15.TokensAlone", spec := "tokensAlone", unfollowed := true, recurses := true, apart := false, narrowed := true }
def TokensAloneUptoSaid : Prop := tokensAloneUptoRow.holds Try.pinned (OpenSpec.upto tokensAloneSpec)

/-- 'pinstripelaw15.TokensLeast', WHERE WHAT IT READS IS OF BULK AT MOST 1048576: true; the input reads as it did. -/
def tokensLeastUptoRow : OpenClaim := { program := "yteeagemlaolhjaa", sum := "6b0e481e78256bc16ebd10cb758dd00d5086a53634b79bcd0c667353dde7c872", func := "pinstripe/pinstripelaw15.TokensLeast", spec := "tokensLeast", unfollowed := true, recurses := true, apart := false, narrowed := true }
def TokensLeastUptoSaid : Prop := tokensLeastUptoRow.holds Try.pinned (OpenSpec.upto tokensLeastSpec)

end Rows
end Go.Proofs.Yteeagemlaolhjaa
