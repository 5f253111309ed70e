/- Chapter 2's examples (the law ParityKnown): whatever the start, the law returns true and nothing that was there has turned. No condition. -/
import Derived.Test.YtoglcohdanpciaaPyLaws
import Derived.ProofKit
namespace Go.Proofs.Ytoglcohdanpciaa
open Go.ChangeShapes Go.WideShapes Go.ChangeAt Go.RowKit

theorem known2_fill : fillM [[1, 2], [], [2, 2]] 1 1 = some [3] := by decide +kernel
theorem known2_none : fillM [[1]] 1 0 = none := by decide +kernel

theorem FillPost.good {w w' : World} {zs : List Int} {e : Ending} (h : FillPost w (some zs) e w') :
    ∃ a cap, e = .returned (.tuple #[.slice a zs.length cap, .int .i64 0]) ∧ RowAt w' (.slice a zs.length cap) zs ∧ Keeps [] w w' := h
theorem FillPost.bad {w w' : World} {e : Ending} (h : FillPost w Option.none e w') :
    ∃ a cap, e = .returned (.tuple #[.slice a 0 cap, .int .i64 1]) ∧ RowAt w' (.slice a 0 cap) [] ∧ Keeps [] w w' := h

theorem rows_nil {w0 : World} (w : World) : RowsAt w (.slice none 0 0) ([] : List (El w0)) := ⟨none, 0, rfl, by simp, by simp, fun _ => rfl, by simp⟩

theorem lit_keep (w : World) (o : Obj) : Keeps [] w (w.alloc o) := (Keeps.refl _ _).alloc _

end Go.Proofs.Ytoglcohdanpciaa
